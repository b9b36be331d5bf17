/-
  The walk of PoolTakes: eight pairs of numbers run by the evaluator; at all others the function returns at once.
-/
import Derived.Test.YtpbooljmkplnhaaRows
import Derived.Test.YtpbooljmkplnhaaPtV
import Derived.Test.YtpbooljmkplnhaaPt1c0
import Derived.Test.YtpbooljmkplnhaaPt1c1
import Derived.Test.YtpbooljmkplnhaaPt2c0
import Derived.Test.YtpbooljmkplnhaaPt2c1
import Derived.Test.YtpbooljmkplnhaaPt3c0
import Derived.Test.YtpbooljmkplnhaaPt3c1
import Derived.Test.YtpbooljmkplnhaaPt4c0
import Derived.Test.YtpbooljmkplnhaaPt4c1
import Derived.Deep.QuietTactic
import Derived.BigQuiet
import Derived.Deep.RegionHeld3
import Derived.Outline
import Derived.IntWalk
namespace Go.Proofs.Ytpbooljmkplnhaa
open Go.ChangeShapes Go.WideShapes Go.ChangeAt Go.RowKit
theorem w_PoolTakes (N C : Int) (w : World) (_ : -9223372036854775808 ≤ N ∧ N ≤ 9223372036854775807) (_ : -9223372036854775808 ≤ C ∧ C ≤ 9223372036854775807) :
    Calls Try.prog 3 #[.int .i64 N, .int .i64 C] w fun e w' => e = .returned (.bool true) ∧ Below w.heap.size w w' := by
  by_cases h1 : N < 1
  · exact pool_n_low N C h1 w
  by_cases h2 : 4 < N
  · exact pool_n_high N C h2 w
  by_cases h3 : C < 0
  · exact pool_c_low N C (by omega) (by omega) h3 w
  by_cases h4 : 1 < C
  · exact pool_c_high N C (by omega) (by omega) h4 w
  have hN : N = 1 ∨ N = 2 ∨ N = 3 ∨ N = 4 := by omega
  have hC : C = 0 ∨ C = 1 := by omega
  rcases hN with rfl | rfl | rfl | rfl <;> rcases hC with rfl | rfl
  · exact pt_1c0 w
  · exact pt_1c1 w
  · exact pt_2c0 w
  · exact pt_2c1 w
  · exact pt_3c0 w
  · exact pt_3c1 w
  · exact pt_4c0 w
  · exact pt_4c1 w
end Go.Proofs.Ytpbooljmkplnhaa

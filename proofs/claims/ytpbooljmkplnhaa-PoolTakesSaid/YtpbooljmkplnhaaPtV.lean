/-
  The walk of PoolTakes where it returns at once: eight pairs of numbers run by the evaluator; at all others the function returns at once.
-/
import Derived.Test.YtpbooljmkplnhaaRows
import Derived.Test.YtpbooljmkplnhaaOwn
import Derived.Test.YtpbooljmkplnhaaCl
import Derived.Deep.QuietTactic
import Derived.BigQuiet
import Derived.Deep.RegionHeld3
import Derived.Outline
import Derived.IntWalk
namespace Go.Proofs.Ytpbooljmkplnhaa
open Go.ChangeShapes Go.WideShapes Go.ChangeAt Go.RowKit
theorem nok : Ev.namesOk Try.prog = true := by kernel_rfl
theorem mxs : Try.prog.follows .mixedOrders = true := by kernel_rfl
theorem ran12 : Ev.yesQ Try.prog 100000 4 = true := by kernel_rfl
theorem poolAwake (W : World) : Calls Try.prog 4 #[] W fun e W' => e = .returned (.bool true) ∧ Below W.heap.size W W' := Ev.yesQ_ok nok mxs ran12 W
theorem pool_n_low (N C : Int) (g : N < 1) (w : World) : Calls Try.prog 3 #[.int .i64 N, .int .i64 C] w fun e w' => e = .returned (.bool true) ∧ Below w.heap.size w w' := by
  go_enter Try.func3, Try.ntmps3
  go_wp2_with fail
  refine (poolAwake _).mono ?_
  rintro e w0 ⟨rfl, b0⟩
  go_wp2
  go_ret
  exact ⟨rfl, b0⟩
theorem pool_n_high (N C : Int) (g : 4 < N) (w : World) : Calls Try.prog 3 #[.int .i64 N, .int .i64 C] w fun e w' => e = .returned (.bool true) ∧ Below w.heap.size w w' := by
  have g0 : 1 ≤ N := by omega
  go_enter Try.func3, Try.ntmps3
  go_wp2_with fail
  refine (poolAwake _).mono ?_
  rintro e w0 ⟨rfl, b0⟩
  go_wp2
  go_ret
  exact ⟨rfl, b0⟩
theorem pool_c_low (N C : Int) (g0 : 1 ≤ N) (g1 : N ≤ 4) (g : C < 0) (w : World) : Calls Try.prog 3 #[.int .i64 N, .int .i64 C] w fun e w' => e = .returned (.bool true) ∧ Below w.heap.size w w' := by
  go_enter Try.func3, Try.ntmps3
  go_wp2_with fail
  refine (poolAwake _).mono ?_
  rintro e w0 ⟨rfl, b0⟩
  go_wp2
  go_ret
  exact ⟨rfl, b0⟩
theorem pool_c_high (N C : Int) (g0 : 1 ≤ N) (g1 : N ≤ 4) (g : 1 < C) (w : World) : Calls Try.prog 3 #[.int .i64 N, .int .i64 C] w fun e w' => e = .returned (.bool true) ∧ Below w.heap.size w w' := by
  have g2 : 0 ≤ C := by omega
  go_enter Try.func3, Try.ntmps3
  go_wp2_with fail
  refine (poolAwake _).mono ?_
  rintro e w0 ⟨rfl, b0⟩
  go_wp2
  go_ret
  exact ⟨rfl, b0⟩
end Go.Proofs.Ytpbooljmkplnhaa

/-
  PLAIN: the closed law PmemKnown runs to true (run by the evaluator, which is sound).
-/
import Derived.Test.YtkfkoioeeekdjaaChecked
import Derived.Test.YtkfkoioeeekdjaaEvV
namespace Go.Proofs.Ytkfkoioeeekdjaa.knPmemKnown
open Go.RowKit
theorem namesOk : Ev.namesOk Try.prog = true := by kernel_rfl
theorem mixes : Try.prog.follows .mixedOrders = true := by kernel_rfl
theorem ran : Ev.yes Try.prog 100000 4 = true := by kernel_rfl
end Go.Proofs.Ytkfkoioeeekdjaa.knPmemKnown
namespace Go.Proofs.Ytkfkoioeeekdjaa
open Go.RowKit
theorem w_PmemKnown (W : World) : Calls Try.prog 4 #[] W fun e W' => e = .returned (.bool true) ∧ Below W.heap.size W W' := Ev.yes_ok knPmemKnown.namesOk knPmemKnown.mixes knPmemKnown.ran W
end Go.Proofs.Ytkfkoioeeekdjaa

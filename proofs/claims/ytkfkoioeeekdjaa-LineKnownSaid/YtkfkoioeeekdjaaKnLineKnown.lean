/-
  PLAIN: the closed law LineKnown runs to true (run by the evaluator, which is sound).
-/
import Derived.Test.YtkfkoioeeekdjaaChecked
import Derived.Test.YtkfkoioeeekdjaaEvV
namespace Go.Proofs.Ytkfkoioeeekdjaa.knLineKnown
open Go.RowKit
theorem namesOk : Ev.namesOk Try.prog = true := by kernel_rfl
theorem mixes : Try.prog.follows .mixedOrders = true := by kernel_rfl
theorem ran : Ev.yes Try.prog 100000 3 = true := by kernel_rfl
end Go.Proofs.Ytkfkoioeeekdjaa.knLineKnown
namespace Go.Proofs.Ytkfkoioeeekdjaa
open Go.RowKit
theorem w_LineKnown (W : World) : Calls Try.prog 3 #[] W fun e W' => e = .returned (.bool true) ∧ Below W.heap.size W W' := Ev.yes_ok knLineKnown.namesOk knLineKnown.mixes knLineKnown.ran W
end Go.Proofs.Ytkfkoioeeekdjaa

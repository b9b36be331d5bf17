/-
  PLAIN: the closed law HeadKnown runs to true (run by the evaluator, which is sound).
-/
import Derived.Test.YtkfkoioeeekdjaaChecked
import Derived.Test.YtkfkoioeeekdjaaEvV
namespace Go.Proofs.Ytkfkoioeeekdjaa.knHeadKnown
open Go.RowKit
theorem namesOk : Ev.namesOk Try.prog = true := by kernel_rfl
theorem mixes : Try.prog.follows .mixedOrders = true := by kernel_rfl
theorem ran : Ev.yes Try.prog 100000 7 = true := by kernel_rfl
end Go.Proofs.Ytkfkoioeeekdjaa.knHeadKnown
namespace Go.Proofs.Ytkfkoioeeekdjaa
open Go.RowKit
theorem w_HeadKnown (W : World) : Calls Try.prog 7 #[] W fun e W' => e = .returned (.bool true) ∧ Below W.heap.size W W' := Ev.yes_ok knHeadKnown.namesOk knHeadKnown.mixes knHeadKnown.ran W
end Go.Proofs.Ytkfkoioeeekdjaa

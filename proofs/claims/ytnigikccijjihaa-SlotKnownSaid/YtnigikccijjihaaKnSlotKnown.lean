/-
  PLAIN: the closed law SlotKnown runs to true (run by the evaluator, which is sound).
-/
import Derived.Test.YtnigikccijjihaaChecked
import Derived.Test.YtnigikccijjihaaEq
namespace Go.Proofs.Ytnigikccijjihaa.knSlotKnown
open Go.RowKit
theorem namesOk : Ev.namesOk Try.prog = true := by kernel_rfl
theorem mixes : Try.prog.follows .mixedOrders = true := by kernel_rfl
theorem ran : Ev.yesQ Try.prog 100000 10 = true := by kernel_rfl
end Go.Proofs.Ytnigikccijjihaa.knSlotKnown
namespace Go.Proofs.Ytnigikccijjihaa
open Go.RowKit
theorem w_SlotKnown (W : World) : Calls Try.prog 10 #[] W fun e W' => e = .returned (.bool true) ∧ Below W.heap.size W W' := Ev.yesQ_ok knSlotKnown.namesOk knSlotKnown.mixes knSlotKnown.ran W
end Go.Proofs.Ytnigikccijjihaa

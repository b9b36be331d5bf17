/-
  PLAIN: the closed law RedoKnown runs to true (run by the evaluator, which is sound).
-/
import Derived.Test.YtnigikccijjihaaChecked
import Derived.Test.YtnigikccijjihaaEq
namespace Go.Proofs.Ytnigikccijjihaa.knRedoKnown
open Go.RowKit
theorem namesOk : Ev.namesOk Try.prog = true := by kernel_rfl
theorem mixes : Try.prog.follows .mixedOrders = true := by kernel_rfl
theorem ran : Ev.yesQ Try.prog 100000 20 = true := by kernel_rfl
end Go.Proofs.Ytnigikccijjihaa.knRedoKnown
namespace Go.Proofs.Ytnigikccijjihaa
open Go.RowKit
theorem w_RedoKnown (W : World) : Calls Try.prog 20 #[] W fun e W' => e = .returned (.bool true) ∧ Below W.heap.size W W' := Ev.yesQ_ok knRedoKnown.namesOk knRedoKnown.mixes knRedoKnown.ran W
end Go.Proofs.Ytnigikccijjihaa

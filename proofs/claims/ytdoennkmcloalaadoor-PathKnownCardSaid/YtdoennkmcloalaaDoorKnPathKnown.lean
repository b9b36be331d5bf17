/-
  PLAIN: the closed law PathKnown runs to true (run by the evaluator, which is sound).
-/
import Derived.Test.YtdoennkmcloalaaDoorChecked
import Derived.Test.YtdoennkmcloalaaDoorEc
namespace Go.Proofs.YtdoennkmcloalaaDoor.knPathKnown
open Go.RowKit
theorem namesOk : Ev.namesOk Tryd.prog = true := by kernel_rfl
theorem mixes : Tryd.prog.follows .mixedOrders = true := by kernel_rfl
theorem ran : Ev.yesQ Tryd.prog 100000 3 = true := by kernel_rfl
end Go.Proofs.YtdoennkmcloalaaDoor.knPathKnown
namespace Go.Proofs.YtdoennkmcloalaaDoor
open Go.RowKit
theorem w_PathKnown (W : World) : Calls Tryd.prog 3 #[] W fun e W' => e = .returned (.bool true) ∧ Below W.heap.size W W' := Ev.yesQ_ok knPathKnown.namesOk knPathKnown.mixes knPathKnown.ran W
end Go.Proofs.YtdoennkmcloalaaDoor

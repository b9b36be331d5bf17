/-
  PLAIN: the closed law RunsKnown runs to true (run by the evaluator, which is sound).
-/
import Derived.Test.YtnigikccijjihaaChecked
import Derived.Test.YtnigikccijjihaaEvV
namespace Go.Proofs.Ytnigikccijjihaa.knRunsKnown
open Go.RowKit
theorem namesOk : Ev.namesOk Try.prog = true := by kernel_rfl
theorem mixes : Try.prog.follows .mixedOrders = true := by kernel_rfl
theorem ran : Ev.yes Try.prog 100000 14 = true := by kernel_rfl
end Go.Proofs.Ytnigikccijjihaa.knRunsKnown
namespace Go.Proofs.Ytnigikccijjihaa
open Go.RowKit
theorem w_RunsKnown (W : World) : Calls Try.prog 14 #[] W fun e W' => e = .returned (.bool true) ∧ Below W.heap.size W W' := Ev.yes_ok knRunsKnown.namesOk knRunsKnown.mixes knRunsKnown.ran W
end Go.Proofs.Ytnigikccijjihaa

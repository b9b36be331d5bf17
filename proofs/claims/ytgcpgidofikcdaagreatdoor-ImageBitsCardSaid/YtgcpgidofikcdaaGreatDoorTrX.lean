/-
  PLAIN: calls of slices.Insert, for names and for texts, answered by what is shown of them; the evaluator over these.
-/
import Derived.Test.YtgcpgidofikcdaaGreatDoorInzN
import Derived.Test.YtgcpgidofikcdaaGreatDoorInzS
import Derived.Test.YtgcpgidofikcdaaGreatDoorKx
namespace Go.Proofs.YtgcpgidofikcdaaGreatDoor
open Go.RowKit Ev
theorem namesOkT : Ev.namesOk Tryz.prog = true := by kernel_rfl
theorem mixesT : Tryz.prog.follows .mixedOrders = true := by kernel_rfl
noncomputable def trX : CallF → CallF := fun F => insF (insF F 177 2) 120 1
theorem bodyInsN : ∃ fn b, Tryz.prog.funcs[177]? = some fn ∧ fn.body = some b := ⟨_, _, Tryz.func177, rfl⟩
theorem bodyInsS : ∃ fn b, Tryz.prog.funcs[120]? = some fn ∧ fn.body = some b := ⟨_, _, Tryz.func120, rfl⟩
theorem trX_ok : XOk Tryz.prog trX := XOk.comp (X := fun F => insF F 120 1) (Y := fun F => insF F 177 2) (XOk.ins (callL_both namesOkT mixesT) insC_S bodyInsS) (XOk.ins (callL_both namesOkT mixesT) insC_N bodyInsN)
end Go.Proofs.YtgcpgidofikcdaaGreatDoor

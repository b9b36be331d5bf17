/-
  PLAIN: the Go function lintel/deed.Of, called in one state of a run: run in pieces by the evaluator, which is sound.
-/
import Derived.Test.YtiifofhigjoegaaGreatDoorChecked
import Derived.Test.YtiifofhigjoegaaGreatDoorPrCrewKnown7D0
namespace Go.Proofs.YtiifofhigjoegaaGreatDoor.rCrewKnown7
open Go.RowKit Ev
open cCrewKnown
open rCrewKnown0 (namesOk mixes)
theorem c0 : stepS G ⟨false, [], 0, n0⟩ 12 L0 [30743, 33145, 33187, 33190, 33215, 33216, 34108, 34109, 34136, 34137, 34157] e0 s0 = some (e1, t1) := by kernel_rfl
end Go.Proofs.YtiifofhigjoegaaGreatDoor.rCrewKnown7

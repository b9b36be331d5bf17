/-
  PLAIN: the Go function lintel/deed.Of, called in one state of a run: run in pieces by the evaluator, which is sound.
-/
import Derived.Test.YtiifofhigjoegaaGreatDoorChecked
import Derived.Test.YtiifofhigjoegaaGreatDoorPrCrewKnown4D0
namespace Go.Proofs.YtiifofhigjoegaaGreatDoor.rCrewKnown4
open Go.RowKit Ev
open cCrewKnown
open rCrewKnown0 (namesOk mixes)
theorem c2 : stepS G ⟨false, [], 0, n2⟩ 1 L2 [27277, 29679, 29721, 29724, 29749, 29750, 30642, 30643, 30670, 30671, 30689, 30690] e1 t1 = some (e2, t2) := by kernel_rfl
theorem c3 : endX Tryz.prog Tryz.f78 S3 L3 e2 t2 = some v1 := by kernel_rfl
end Go.Proofs.YtiifofhigjoegaaGreatDoor.rCrewKnown4

/-
  PLAIN: the Go function lintel/deed.Of, called in one state of a run: run in pieces by the evaluator, which is sound.
-/
import Derived.Test.YtiifofhigjoegaaGreatDoorChecked
import Derived.Test.YtiifofhigjoegaaGreatDoorPrCrewKnown1D0
namespace Go.Proofs.YtiifofhigjoegaaGreatDoor.rCrewKnown1
open Go.RowKit Ev
open cCrewKnown
open rCrewKnown0 (namesOk mixes)
theorem c40 : stepR G ⟨false, [], 0, n40⟩ 762 (loopB S40) [4668, 7070, 7112, 7115, 7140, 7141, 8083, 14666, 14667, 15449, 15478, 15479, 16065, 16070, 16071] e29 t22 = some (e30, t23) := by kernel_rfl
theorem x40 : S40 = .lp (loopB S40) :: S40.tail := by kernel_rfl
theorem y40 : L40 = [loopB S40] := by kernel_rfl
theorem c41 : stepR G ⟨false, [], 0, n41⟩ 341 (loopB S41) [4668, 7070, 7112, 7115, 7140, 7141, 8083, 14666, 14667, 15449, 15478, 15479, 16065, 16070, 16071] e30 t23 = some (e31, t24) := by kernel_rfl
theorem x41 : S41 = .lp (loopB S41) :: S41.tail := by kernel_rfl
theorem y41 : L41 = [loopB S41] := by kernel_rfl
theorem c43 : stepS G ⟨false, [], 0, n43⟩ 1 L43 [4668, 7070, 7112, 7115, 7140, 7141, 8083, 14666, 14667, 15449, 15478, 15479, 16065, 16070, 16071] e31 t24 = some (e32, t25) := by kernel_rfl
theorem c45 : stepS G ⟨false, [], 0, n45⟩ 1 L45 [4668, 7070, 8083, 15479, 16071] e32 t25 = some (e33, t26) := by kernel_rfl
theorem c46 : retA Tryz.prog S46 L46 e33 t26 = some e34 := by kernel_rfl
theorem c47 : opsA Tryz.prog F0 n47 5 [4668, 7070, 8083, 15479, 16071] S47 e34 t26 = some (e35, t27) := by kernel_rfl
theorem z47 : L47 = [] := by kernel_rfl
theorem c49 : stepS G ⟨false, [], 0, n49⟩ 1 L49 [4668, 7070, 15479, 16071] e35 t27 = some (e36, t28) := by kernel_rfl
theorem c50 : endX Tryz.prog Tryz.f78 S50 L50 e36 t28 = some v1 := by kernel_rfl
end Go.Proofs.YtiifofhigjoegaaGreatDoor.rCrewKnown1

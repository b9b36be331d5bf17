/-
  PLAIN: the Go function lintel/lintellaw22.DiskKnown, called in one state of a run: run in pieces by the evaluator, which is sound.
-/
import Derived.Test.YtedplaejjgomdaaGreatDoorChecked
import Derived.Test.YtedplaejjgomdaaGreatDoorPdDiskKnown
namespace Go.Proofs.YtedplaejjgomdaaGreatDoor.rDiskKnown4
open Go.RowKit Ev
open rDiskKnown0 (namesOk mixes zl l1 z0)
theorem c110 : stepS G ⟨false, [], 0, n110⟩ 3 L110 [] e85 t59 = some (e86, t60) := by kernel_rfl
theorem c111 : retA Tryz.prog S111 L111 e86 t60 = some e87 := by kernel_rfl
theorem c112 : opsA Tryz.prog F0 n112 3 [] S112 e87 t60 = some (e88, t61) := by kernel_rfl
theorem z112 : L112 = [] := by kernel_rfl
theorem c114 : retA Tryz.prog S114 L114 e88 t61 = some e89 := by kernel_rfl
theorem c115 : opsA Tryz.prog F0 n115 2 [] S115 e89 t61 = some (e90, t62) := by kernel_rfl
theorem z115 : L115 = [] := by kernel_rfl
theorem c117 : endX Tryz.prog Tryz.f3 S117 L117 e90 t62 = some v1 := by kernel_rfl
end Go.Proofs.YtedplaejjgomdaaGreatDoor.rDiskKnown4

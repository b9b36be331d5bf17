/-
  PLAIN: the Go function lintel/deed.Of, called in one state of a run: run in pieces by the evaluator, which is sound.
-/
import Derived.Test.YtedplaejjgomdaaGreatDoorChecked
import Derived.Test.YtedplaejjgomdaaGreatDoorPbDiskKnown
namespace Go.Proofs.YtedplaejjgomdaaGreatDoor.rDiskKnown3
open Go.RowKit Ev
open rDiskKnown0 (namesOk mixes zl l1 z0)
theorem c0 : stepS G ⟨false, [], 0, n0⟩ 13 L0 [21629, 22143, 22185, 22188, 22213, 22214, 23106, 23107, 23134, 23135, 23155, 23156] e0 s0 = some (e1, t1) := by kernel_rfl
end Go.Proofs.YtedplaejjgomdaaGreatDoor.rDiskKnown3

/-
  PLAIN: the Go function lintel/deed.Of, called in one state of a run: run in pieces by the evaluator, which is sound.
-/
import Derived.Test.YtedplaejjgomdaaGreatDoorChecked
import Derived.Test.YtedplaejjgomdaaGreatDoorPaDiskKnown
namespace Go.Proofs.YtedplaejjgomdaaGreatDoor.rDiskKnown1
open Go.RowKit Ev
open rDiskKnown0 (namesOk mixes zl l1 z0)
theorem c24 : stepR G ⟨false, [], 0, n24⟩ 3 (loopB S24) [2058, 2572, 2614, 2617, 2642, 2643, 3585, 6233, 6251, 6255, 6276] e18 t13 = some (e19, t14) := by kernel_rfl
theorem x24 : S24 = .lp (loopB S24) :: S24.tail := by kernel_rfl
theorem y24 : L24 = [loopB S24] := by kernel_rfl
theorem c26 : stepS G ⟨false, [], 0, n26⟩ 1 L26 [2058, 2572, 2614, 2617, 2642, 2643, 3585, 6233, 6251, 6255, 6276] e19 t14 = some (e20, t15) := by kernel_rfl
theorem c28 : stepS G ⟨false, [], 0, n28⟩ 1 L28 [2058, 2572, 2614, 2617, 2642, 2643, 3585] e20 t15 = some (e21, t16) := by kernel_rfl
theorem c29 : retA Tryz.prog S29 L29 e21 t16 = some e22 := by kernel_rfl
theorem c30 : opsA Tryz.prog F0 n30 1 [2058, 2572, 2614, 2617, 2642, 2643, 3585] S30 e22 t16 = some (e23, t17) := by kernel_rfl
theorem z30 : L30 = [] := by kernel_rfl
theorem c32 : stepS G ⟨false, [], 0, n32⟩ 4 L32 [2058, 2572, 10981, 11573] e23 t17 = some (e24, t18) := by kernel_rfl
theorem c33 : endX Tryz.prog Tryz.f30 S33 L33 e24 t18 = some v1 := by kernel_rfl
end Go.Proofs.YtedplaejjgomdaaGreatDoor.rDiskKnown1

/-
  PLAIN: the Go function lintel/deed.Of, called in one state of a run: run in pieces by the evaluator, which is sound.
-/
import Derived.Test.YtjfhadepbllmiaaGreatDoorChecked
import Derived.Test.YtjfhadepbllmiaaGreatDoorPrTopNames0D0
namespace Go.Proofs.YtjfhadepbllmiaaGreatDoor.rTopNames0
open Go.RowKit Ev
theorem c0 : stepS G ⟨false, [], 0, n0⟩ 13 L0 [2059, 2573, 2615, 2618, 2643, 2644, 3536, 3537, 3564, 3565, 3585, 3586] e0 s0 = some (e1, t1) := by kernel_rfl
theorem c1 : stepS G ⟨false, [], 0, n1⟩ 3 L1 [2059, 2573, 2615, 2618, 2643, 2644, 3586, 6234, 6252, 6256, 6275] e1 t1 = some (e2, t2) := by kernel_rfl
theorem c3 : opsA Tryz.prog F0 n3 1 [2059, 2573, 2615, 2618, 2643, 2644, 3586, 6234, 6252, 6256] S3 e2 t2 = some (e3, t3) := by kernel_rfl
theorem z3 : L3 = [] := by kernel_rfl
theorem c4 : entA Tryz.prog n4 e3 S4 = some a4 := by kernel_rfl
theorem z4 : L4 = [] := by kernel_rfl
theorem c5 : stepS G ⟨false, [], 0, n5⟩ 2 L5 [2059, 2573, 2615, 2618, 2643, 2644, 3586, 6234, 6252, 6256, 6277] e4 t3 = some (e5, t4) := by kernel_rfl
theorem c7 : stepS G ⟨false, [], 0, n7⟩ 4 L7 [2059, 2573, 2615, 2618, 2643, 2644, 3586, 6234, 6252, 6256, 6277] e5 t4 = some (e6, t5) := by kernel_rfl
theorem c9 : stepS G ⟨false, [], 0, n9⟩ 4 L9 [2059, 2573, 2615, 2618, 2643, 2644, 3586, 6234, 6252, 6256, 6277] e6 t5 = some (e7, t6) := by kernel_rfl
end Go.Proofs.YtjfhadepbllmiaaGreatDoor.rTopNames0

/-
  PLAIN: the Go function lintel/deed.Of, called in one state of a run: run in pieces by the evaluator, which is sound.
-/
import Derived.Test.YtjfhadepbllmiaaGreatDoorChecked
import Derived.Test.YtjfhadepbllmiaaGreatDoorPrTopNames0D0
namespace Go.Proofs.YtjfhadepbllmiaaGreatDoor.rTopNames0
open Go.RowKit Ev
theorem c11 : stepS G ⟨false, [], 0, n11⟩ 4 L11 [2059, 2573, 2615, 2618, 2643, 2644, 3586, 6234, 6252, 6256, 6277] e7 t6 = some (e8, t7) := by kernel_rfl
theorem c13 : stepS G ⟨false, [], 0, n13⟩ 4 L13 [2059, 2573, 2615, 2618, 2643, 2644, 3586, 6234, 6252, 6256, 6277] e8 t7 = some (e9, t8) := by kernel_rfl
theorem c15 : stepS G ⟨false, [], 0, n15⟩ 4 L15 [2059, 2573, 2615, 2618, 2643, 2644, 3586, 6234, 6252, 6256, 6277] e9 t8 = some (e10, t9) := by kernel_rfl
theorem c17 : stepS G ⟨false, [], 0, n17⟩ 1 L17 [2059, 2573, 2615, 2618, 2643, 2644, 3586, 6234, 6252, 6256, 6277] e10 t9 = some (e11, t10) := by kernel_rfl
theorem c19 : stepS G ⟨false, [], 0, n19⟩ 1 L19 [2059, 2573, 2615, 2618, 2643, 2644, 3586] e11 t10 = some (e12, t11) := by kernel_rfl
theorem c20 : retA Tryz.prog S20 L20 e12 t11 = some e13 := by kernel_rfl
theorem c21 : opsA Tryz.prog F0 n21 1 [2059, 2573, 2615, 2618, 2643, 2644, 3586] S21 e13 t11 = some (e14, t12) := by kernel_rfl
theorem z21 : L21 = [] := by kernel_rfl
theorem c23 : stepS G ⟨false, [], 0, n23⟩ 4 L23 [2059, 2573, 10982, 11574] e14 t12 = some (e15, t13) := by kernel_rfl
theorem c24 : endX Tryz.prog Tryz.f30 S24 L24 e15 t13 = some v1 := by kernel_rfl
end Go.Proofs.YtjfhadepbllmiaaGreatDoor.rTopNames0

/-
  PLAIN: the Go function lintel/lintellaw21.DeedKnown, called in one state of a run: run in pieces by the evaluator, which is sound.
-/
import Derived.Test.YtaoaofgbakhddaaGreatDoorChecked
import Derived.Test.YtaoaofgbakhddaaGreatDoorPrDeedKnown0D2
namespace Go.Proofs.YtaoaofgbakhddaaGreatDoor.rDeedKnown0
open Go.RowKit Ev
theorem c34 : stepS G ⟨false, [], 0, n34⟩ 2 L34 [] e22 t17 = some (e23, t18) := by kernel_rfl
theorem c35 : retA Tryz.prog S35 L35 e23 t18 = some e24 := by kernel_rfl
theorem c36 : opsA Tryz.prog F0 n36 1 [] S36 e24 t18 = some (e25, t19) := by kernel_rfl
theorem z36 : L36 = [] := by kernel_rfl
theorem c38 : stepS G ⟨false, [], 0, n38⟩ 5 L38 [12404, 12762, 13774, 13820, 14835] e25 t19 = some (e26, t20) := by kernel_rfl
theorem c40 : opsA Tryz.prog F0 n40 9 [12404, 12762, 13774, 13820, 14835, 14836, 14837, 14838] S40 e26 t20 = some (e27, t21) := by kernel_rfl
theorem z40 : L40 = [] := by kernel_rfl
theorem c41 : entA Tryz.prog n41 e27 S41 = some a41 := by kernel_rfl
theorem z41 : L41 = [] := by kernel_rfl
theorem c42 : stepS G ⟨false, [], 0, n42⟩ 4 L42 [12762, 13774, 13820, 14835, 14836, 14837, 14838, 14840] e28 t21 = some (e29, t22) := by kernel_rfl
theorem c44 : stepS G ⟨false, [], 0, n44⟩ 2 L44 [12762, 13774, 13820, 14835, 14836, 14837, 14838, 14840] e29 t22 = some (e30, t23) := by kernel_rfl
theorem c46 : stepS G ⟨false, [], 0, n46⟩ 1 L46 [12762, 13774, 13820, 14835, 14836, 14837, 14838, 14840, 14841] e30 t23 = some (e31, t24) := by kernel_rfl
theorem c48 : opsA Tryz.prog F0 n48 3 [12762, 13774, 13820, 14835, 14836, 14837, 14838, 14840, 14841] S48 e31 t24 = some (e32, t25) := by kernel_rfl
theorem z48 : L48 = [] := by kernel_rfl
theorem c49 : entA Tryz.prog n49 e32 S49 = some a49 := by kernel_rfl
theorem z49 : L49 = [] := by kernel_rfl
theorem c50 : stepS G ⟨false, [], 0, n50⟩ 13 L50 [12762, 13774, 13820, 14835, 14836, 14837, 14838, 14840, 14841, 14843, 14885, 14888, 14913, 14914, 15806, 15807, 15834, 15835, 15855, 15856] e33 t25 = some (e34, t26) := by kernel_rfl
theorem c51 : stepS G ⟨false, [], 0, n51⟩ 3 L51 [12762, 13774, 13820, 14835, 14836, 14837, 14838, 14840, 14841, 14843, 14885, 14888, 14913, 14914, 15856, 18504, 18522, 18526, 18545] e34 t26 = some (e35, t27) := by kernel_rfl
theorem c53 : opsA Tryz.prog F0 n53 1 [12762, 13774, 13820, 14835, 14836, 14837, 14838, 14840, 14841, 14843, 14885, 14888, 14913, 14914, 15856, 18504, 18522, 18526] S53 e35 t27 = some (e36, t28) := by kernel_rfl
theorem z53 : L53 = [] := by kernel_rfl
theorem c54 : entA Tryz.prog n54 e36 S54 = some a54 := by kernel_rfl
theorem z54 : L54 = [] := by kernel_rfl
theorem c55 : stepS G ⟨false, [], 0, n55⟩ 2 L55 [12762, 13774, 13820, 14835, 14836, 14837, 14838, 14840, 14841, 14843, 14885, 14888, 14913, 14914, 15856, 18504, 18522, 18526, 18547] e37 t28 = some (e38, t29) := by kernel_rfl
theorem c57 : stepS G ⟨false, [], 0, n57⟩ 4 L57 [12762, 13774, 13820, 14835, 14836, 14837, 14838, 14840, 14841, 14843, 14885, 14888, 14913, 14914, 15856, 18504, 18522, 18526, 18547] e38 t29 = some (e39, t30) := by kernel_rfl
theorem c59 : stepS G ⟨false, [], 0, n59⟩ 4 L59 [12762, 13774, 13820, 14835, 14836, 14837, 14838, 14840, 14841, 14843, 14885, 14888, 14913, 14914, 15856, 18504, 18522, 18526, 18547] e39 t30 = some (e40, t31) := by kernel_rfl
end Go.Proofs.YtaoaofgbakhddaaGreatDoor.rDeedKnown0

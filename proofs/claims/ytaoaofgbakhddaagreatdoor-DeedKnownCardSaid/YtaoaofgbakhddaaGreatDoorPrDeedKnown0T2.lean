/-
  PLAIN: the Go function lintel/lintellaw21.DeedKnown, called in one state of a run: run in pieces by the evaluator, which is sound.
-/
import Derived.Test.YtaoaofgbakhddaaGreatDoorChecked
import Derived.Test.YtaoaofgbakhddaaGreatDoorPrDeedKnown0D2
namespace Go.Proofs.YtaoaofgbakhddaaGreatDoor.rDeedKnown0
open Go.RowKit Ev
theorem c61 : stepS G ⟨false, [], 0, n61⟩ 4 L61 [12762, 13774, 13820, 14835, 14836, 14837, 14838, 14840, 14841, 14843, 14885, 14888, 14913, 14914, 15856, 18504, 18522, 18526, 18547] e40 t31 = some (e41, t32) := by kernel_rfl
theorem c63 : stepS G ⟨false, [], 0, n63⟩ 4 L63 [12762, 13774, 13820, 14835, 14836, 14837, 14838, 14840, 14841, 14843, 14885, 14888, 14913, 14914, 15856, 18504, 18522, 18526, 18547] e41 t32 = some (e42, t33) := by kernel_rfl
theorem c65 : stepS G ⟨false, [], 0, n65⟩ 4 L65 [12762, 13774, 13820, 14835, 14836, 14837, 14838, 14840, 14841, 14843, 14885, 14888, 14913, 14914, 15856, 18504, 18522, 18526, 18547] e42 t33 = some (e43, t34) := by kernel_rfl
theorem c67 : stepS G ⟨false, [], 0, n67⟩ 1 L67 [12762, 13774, 13820, 14835, 14836, 14837, 14838, 14840, 14841, 14843, 14885, 14888, 14913, 14914, 15856, 18504, 18522, 18526, 18547] e43 t34 = some (e44, t35) := by kernel_rfl
theorem c69 : stepS G ⟨false, [], 0, n69⟩ 1 L69 [12762, 13774, 13820, 14835, 14836, 14837, 14838, 14840, 14841, 14843, 14885, 14888, 14913, 14914, 15856] e44 t35 = some (e45, t36) := by kernel_rfl
theorem c70 : retA Tryz.prog S70 L70 e45 t36 = some e46 := by kernel_rfl
theorem c71 : opsA Tryz.prog F0 n71 1 [12762, 13774, 13820, 14835, 14836, 14837, 14838, 14840, 14841, 14843, 14885, 14888, 14913, 14914, 15856] S71 e46 t36 = some (e47, t37) := by kernel_rfl
theorem z71 : L71 = [] := by kernel_rfl
theorem c73 : stepS G ⟨false, [], 0, n73⟩ 4 L73 [12762, 13774, 13820, 14835, 14836, 14837, 14838, 14840, 14841, 14843, 23318, 23910] e47 t37 = some (e48, t38) := by kernel_rfl
theorem c74 : retA Tryz.prog S74 L74 e48 t38 = some e49 := by kernel_rfl
theorem c75 : opsA Tryz.prog F0 n75 2 [12762, 13774, 13820, 14835, 14836, 14837, 14838, 14840, 14841, 23318, 23910, 24263] S75 e49 t38 = some (e50, t39) := by kernel_rfl
theorem z75 : L75 = [] := by kernel_rfl
theorem c77 : stepS G ⟨false, [], 0, n77⟩ 2 L77 [12762, 13774, 13820, 14835, 14836, 14837, 14838, 14840, 14841, 23318, 23910, 24263, 24276, 24283, 24284] e50 t39 = some (e51, t40) := by kernel_rfl
theorem c79 : stepS G ⟨false, [], 0, n79⟩ 1 L79 [12762, 13774, 13820, 14835, 14836, 14837, 14838, 14840, 14841, 23318, 23910, 24263, 24276, 24283, 24284] e51 t40 = some (e52, t41) := by kernel_rfl
theorem c81 : stepS G ⟨false, [], 0, n81⟩ 2 L81 [12762, 13774, 13820, 14835, 14836, 14837, 14838, 14840, 14841, 23318, 23910, 24263, 24276, 24283, 24284] e52 t41 = some (e53, t42) := by kernel_rfl
theorem c83 : stepS G ⟨false, [], 0, n83⟩ 1 L83 [12762, 13774, 13820, 14835, 14836, 14837, 14838, 14840, 23318, 23910, 24263, 24276, 24283, 24284, 24285] e53 t42 = some (e54, t43) := by kernel_rfl
theorem c85 : opsA Tryz.prog F0 n85 3 [12762, 13774, 13820, 14835, 14836, 14837, 14838, 14840, 23318, 23910, 24263, 24276, 24283, 24284, 24285] S85 e54 t43 = some (e55, t44) := by kernel_rfl
theorem z85 : L85 = [] := by kernel_rfl
theorem c86 : entA Tryz.prog n86 e55 S86 = some a86 := by kernel_rfl
theorem z86 : L86 = [] := by kernel_rfl
theorem c87 : stepS G ⟨false, [], 0, n87⟩ 13 L87 [12762, 13774, 13820, 14835, 14836, 14837, 14838, 14840, 23318, 23910, 24263, 24276, 24283, 24284, 24285, 24287, 24329, 24332, 24357, 24358, 25518, 25519, 25524, 25554, 25555, 25559, 25578, 25579] e56 t44 = some (e57, t45) := by kernel_rfl
theorem c88 : stepS G ⟨false, [], 0, n88⟩ 3 L88 [12762, 13774, 13820, 14835, 14836, 14837, 14838, 14840, 23318, 23910, 24263, 24276, 24283, 24284, 24285, 24287, 24329, 24332, 24357, 24358, 25579, 28314, 28318, 28337, 28341, 28349, 28362] e57 t45 = some (e58, t46) := by kernel_rfl
theorem c89 : stepS G ⟨false, [], 0, n89⟩ 2 L89 [12762, 13774, 13820, 14835, 14836, 14837, 14838, 14840, 23318, 23910, 24263, 24276, 24283, 24284, 24285, 24287, 24329, 24332, 24357, 24358, 25579] e58 t46 = some (e59, t47) := by kernel_rfl
theorem c91 : stepS G ⟨false, [], 0, n91⟩ 1 L91 [12762, 13774, 13820, 14835, 14836, 14837, 14838, 14840, 23318, 23910, 24263, 24276, 24283, 24284, 24285, 24287, 24329, 24332, 24357, 24358, 25579] e59 t47 = some (e60, t48) := by kernel_rfl
theorem c92 : retA Tryz.prog S92 L92 e60 t48 = some e61 := by kernel_rfl
theorem c93 : opsA Tryz.prog F0 n93 2 [12762, 13774, 13820, 14835, 14836, 14837, 14838, 14840, 23318, 23910, 24263, 24276, 24283, 24284, 24285, 28953] S93 e61 t48 = some (e62, t49) := by kernel_rfl
theorem z93 : L93 = [] := by kernel_rfl
theorem c95 : stepS G ⟨false, [], 0, n95⟩ 2 L95 [12762, 13774, 13820, 14835, 14836, 14837, 14838, 24276, 24284, 24285, 28953, 28958, 28959, 28960] e62 t49 = some (e63, t50) := by kernel_rfl
theorem c97 : stepS G ⟨false, [], 0, n97⟩ 1 L97 [12762, 13774, 13820, 14835, 14836, 14837, 14838, 24276, 24284, 24285, 28953, 28958, 28959, 28960] e63 t50 = some (e64, t51) := by kernel_rfl
theorem c99 : stepS G ⟨false, [], 0, n99⟩ 2 L99 [12762, 13774, 13820, 14835, 14836, 14837, 14838, 24276, 24284, 24285, 28953, 28958, 28959, 28960] e64 t51 = some (e65, t52) := by kernel_rfl
theorem c101 : stepS G ⟨false, [], 0, n101⟩ 1 L101 [12762, 13774, 13820, 14835, 14836, 14837, 14838, 24276, 24284, 28953, 28958, 28959, 28960, 28961] e65 t52 = some (e66, t53) := by kernel_rfl
theorem c103 : opsA Tryz.prog F0 n103 3 [12762, 13774, 13820, 14835, 14836, 14837, 14838, 24276, 24284, 28953, 28958, 28959, 28960, 28961] S103 e66 t53 = some (e67, t54) := by kernel_rfl
theorem z103 : L103 = [] := by kernel_rfl
theorem c104 : entA Tryz.prog n104 e67 S104 = some a104 := by kernel_rfl
theorem z104 : L104 = [] := by kernel_rfl
theorem c105 : stepS G ⟨false, [], 0, n105⟩ 13 L105 [12762, 13774, 13820, 14835, 14836, 14837, 14838, 24276, 24284, 28953, 28958, 28959, 28960, 28961, 28963, 29005, 29008, 29033, 29034, 30194, 30195, 30200, 30230, 30231, 30235, 30254, 30255] e68 t54 = some (e69, t55) := by kernel_rfl
end Go.Proofs.YtaoaofgbakhddaaGreatDoor.rDeedKnown0

/-
  PLAIN: the Go function lintel/lintellaw19.CheckKnown, called in one state of a run: run in pieces by the evaluator, which is sound.
-/
import Derived.Test.YtooakkagndhdmaaGreatDoorChecked
import Derived.Test.YtooakkagndhdmaaGreatDoorPrCheckKnown0D0
namespace Go.Proofs.YtooakkagndhdmaaGreatDoor.rCheckKnown0
open Go.RowKit Ev
open cCheckKnown
theorem c87 : stepS G ⟨false, [], 0, n87⟩ 9 L87 [5589, 5893, 5990, 8657, 11167, 11214, 11216, 11422, 11517, 11611, 12083] e61 t40 = some (e62, t41) := by kernel_rfl
theorem c88 : stepS G ⟨false, [], 0, n88⟩ 3 L88 [5589, 5893, 5990, 8657, 11167, 11214, 11216, 11422, 11517, 11611, 12466, 12619] e62 t41 = some (e63, t42) := by kernel_rfl
theorem c90 : opsA Tryz.prog F0 n90 1 [5589, 5893, 5990, 8657, 11167, 11214, 11216, 11422, 11517, 11611, 12466, 12619] S90 e63 t42 = some (e64, t43) := by kernel_rfl
theorem z90 : L90 = [] := by kernel_rfl
theorem c91 : entA Tryz.prog n91 e64 S91 = some a91 := by kernel_rfl
theorem z91 : L91 = [] := by kernel_rfl
theorem c92 : stepS G ⟨false, [], 0, n92⟩ 10 L92 [5589, 5893, 5990, 8657, 11167, 11214, 11216, 11422, 11517, 11611, 12466, 12859, 12860, 12964] e65 t43 = some (e66, t44) := by kernel_rfl
theorem c94 : stepS G ⟨false, [], 0, n94⟩ 2 L94 [5589, 5893, 5990, 8657, 11167, 11214, 11216, 11422, 11517, 11611, 12466, 12859, 12860, 12964] e66 t44 = some (e67, t45) := by kernel_rfl
theorem c96 : retA Tryz.prog S96 L96 e67 t45 = some e68 := by kernel_rfl
theorem c98 : stepS G ⟨false, [], 0, n98⟩ 2 L98 [5589, 5893, 5990, 8657, 11167, 12964] e68 t45 = some (e69, t46) := by kernel_rfl
theorem c99 : retA Tryz.prog S99 L99 e69 t46 = some e70 := by kernel_rfl
theorem c100 : opsA Tryz.prog F0 n100 1 [5589, 5893, 5990, 8657, 11167, 12964] S100 e70 t46 = some (e71, t47) := by kernel_rfl
theorem z100 : L100 = [] := by kernel_rfl
theorem c102 : stepS G ⟨false, [], 0, n102⟩ 2 L102 [5893, 5990, 8657, 12964, 13925] e71 t47 = some (e72, t48) := by kernel_rfl
theorem c104 : opsA Tryz.prog F0 n104 1 [5893, 5990, 8657, 12964, 13925] S104 e72 t48 = some (e73, t49) := by kernel_rfl
theorem z104 : L104 = [] := by kernel_rfl
theorem c105 : entA Tryz.prog n105 e73 S105 = some a105 := by kernel_rfl
theorem z105 : L105 = [] := by kernel_rfl
theorem c106 : stepS G ⟨false, [], 0, n106⟩ 9 L106 [5893, 5990, 8657, 12964, 13925, 13967, 13969, 14087, 14204, 14299] e74 t49 = some (e75, t50) := by kernel_rfl
theorem c107 : stepS G ⟨false, [], 0, n107⟩ 3 L107 [5893, 5990, 8657, 12964, 13925, 13967, 13969, 14087, 14204, 14299, 15109, 15246, 15275] e75 t50 = some (e76, t51) := by kernel_rfl
theorem c109 : opsA Tryz.prog F0 n109 1 [5893, 5990, 8657, 12964, 13925, 13967, 13969, 14087, 14204, 14299, 15109, 15246, 15275] S109 e76 t51 = some (e77, t52) := by kernel_rfl
theorem z109 : L109 = [] := by kernel_rfl
theorem c110 : entA Tryz.prog n110 e77 S110 = some a110 := by kernel_rfl
theorem z110 : L110 = [] := by kernel_rfl
theorem c111 : stepS G ⟨false, [], 0, n111⟩ 10 L111 [5893, 5990, 8657, 12964, 13925, 13967, 13969, 14087, 14204, 14299, 15109, 15246, 15647, 15648, 15756] e78 t52 = some (e79, t53) := by kernel_rfl
theorem c113 : stepS G ⟨false, [], 0, n113⟩ 2 L113 [5893, 5990, 8657, 12964, 13925, 13967, 13969, 14087, 14204, 14299, 15109, 15246, 15647, 15648, 15756] e79 t53 = some (e80, t54) := by kernel_rfl
theorem c115 : retA Tryz.prog S115 L115 e80 t54 = some e81 := by kernel_rfl
theorem c117 : stepS G ⟨false, [], 0, n117⟩ 2 L117 [5893, 5990, 8657, 12964, 13925, 15756] e81 t54 = some (e82, t55) := by kernel_rfl
theorem c118 : retA Tryz.prog S118 L118 e82 t55 = some e83 := by kernel_rfl
theorem c119 : opsA Tryz.prog F0 n119 1 [5893, 5990, 8657, 12964, 13925, 15756] S119 e83 t55 = some (e84, t56) := by kernel_rfl
theorem z119 : L119 = [] := by kernel_rfl
theorem c121 : opsA Tryz.prog F0 n121 4 [5893, 5990, 8657, 12964, 15756, 16695] S121 e84 t56 = some (e85, t57) := by kernel_rfl
theorem z121 : L121 = [] := by kernel_rfl
theorem c122 : entA Tryz.prog n122 e85 S122 = some a122 := by kernel_rfl
theorem z122 : L122 = [] := by kernel_rfl
theorem c123 : stepS G ⟨false, [], 0, n123⟩ 9 L123 [5893, 5990, 8657, 12964, 15756, 16737, 16739, 16857, 16974, 17069] e86 t57 = some (e87, t58) := by kernel_rfl
theorem c124 : stepS G ⟨false, [], 0, n124⟩ 3 L124 [5893, 5990, 8657, 12964, 15756, 16737, 16739, 16857, 16974, 17069, 17879, 18016, 18045] e87 t58 = some (e88, t59) := by kernel_rfl
theorem c126 : opsA Tryz.prog F0 n126 1 [5893, 5990, 8657, 12964, 15756, 16737, 16739, 16857, 16974, 17069, 17879, 18016, 18045] S126 e88 t59 = some (e89, t60) := by kernel_rfl
theorem z126 : L126 = [] := by kernel_rfl
theorem c127 : entA Tryz.prog n127 e89 S127 = some a127 := by kernel_rfl
theorem z127 : L127 = [] := by kernel_rfl
theorem c128 : stepS G ⟨false, [], 0, n128⟩ 10 L128 [5893, 5990, 8657, 12964, 15756, 16737, 16739, 16857, 16974, 17069, 17879, 18016, 18417, 18418, 18526] e90 t60 = some (e91, t61) := by kernel_rfl
theorem c130 : stepS G ⟨false, [], 0, n130⟩ 2 L130 [5893, 5990, 8657, 12964, 15756, 16737, 16739, 16857, 16974, 17069, 17879, 18016, 18417, 18418, 18526] e91 t61 = some (e92, t62) := by kernel_rfl
theorem c132 : retA Tryz.prog S132 L132 e92 t62 = some e93 := by kernel_rfl
theorem c134 : stepS G ⟨false, [], 0, n134⟩ 2 L134 [5893, 5990, 8657, 12964, 15756, 18526] e93 t62 = some (e94, t63) := by kernel_rfl
theorem c135 : retA Tryz.prog S135 L135 e94 t63 = some e95 := by kernel_rfl
theorem c136 : opsA Tryz.prog F0 n136 1 [5893, 5990, 8657, 12964, 15756, 18526] S136 e95 t63 = some (e96, t64) := by kernel_rfl
theorem z136 : L136 = [] := by kernel_rfl
theorem c138 : stepS G ⟨false, [], 0, n138⟩ 1 L138 [] e96 t64 = some (e97, t65) := by kernel_rfl
theorem c139 : endX Tryz.prog Tryz.f3 S139 L139 e97 t65 = some v1 := by kernel_rfl
end Go.Proofs.YtooakkagndhdmaaGreatDoor.rCheckKnown0

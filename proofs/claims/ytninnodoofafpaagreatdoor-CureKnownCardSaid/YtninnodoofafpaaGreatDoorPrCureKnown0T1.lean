/-
  PLAIN: the Go function lintel/lintellaw25.CureKnown, called in one state of a run: run in pieces by the evaluator, which is sound.
-/
import Derived.Test.YtninnodoofafpaaGreatDoorChecked
import Derived.Test.YtninnodoofafpaaGreatDoorPrCureKnown0D2
namespace Go.Proofs.YtninnodoofafpaaGreatDoor.rCureKnown0
open Go.RowKit Ev
theorem c92 : stepS G ⟨false, [], 0, n92⟩ 12 L92 [11, 337, 10561, 10562, 10563, 10605, 10607, 10608, 10691, 10693, 10899, 11877] e62 t45 = some (e63, t46) := by kernel_rfl
theorem c93 : stepS G ⟨false, [], 0, n93⟩ 3 L93 [11, 337, 10561, 10562, 10563, 10605, 10607, 10608] e63 t46 = some (e64, t47) := by kernel_rfl
theorem c94 : retA Tryz.prog S94 L94 e64 t47 = some e65 := by kernel_rfl
theorem c95 : opsA Tryz.prog F0 n95 2 [11, 337, 10561, 10562, 10563, 10605, 10607, 10608] S95 e65 t47 = some (e66, t48) := by kernel_rfl
theorem z95 : L95 = [] := by kernel_rfl
theorem c97 : stepS G ⟨false, [], 0, n97⟩ 1 L97 [11, 337, 10561, 10562, 10563, 10605, 10607, 10608] e66 t48 = some (e67, t49) := by kernel_rfl
theorem c98 : retA Tryz.prog S98 L98 e67 t49 = some e68 := by kernel_rfl
theorem c100 : stepS G ⟨false, [], 0, n100⟩ 1 L100 [11, 337, 10561, 10562, 10563, 10605, 10607, 10608] e68 t49 = some (e69, t50) := by kernel_rfl
theorem c102 : stepS G ⟨false, [], 0, n102⟩ 1 L102 [11, 337, 10561, 10562, 10563, 10605, 10607, 10608] e69 t50 = some (e70, t51) := by kernel_rfl
theorem c104 : stepR G ⟨false, [], 0, n104⟩ 1 (loopB S104) [11, 337, 10561, 10562, 10563, 10605, 10607, 10608] e70 t51 = some (e71, t52) := by kernel_rfl
theorem x104 : S104 = .lp (loopB S104) :: S104.tail := by kernel_rfl
theorem y104 : L104 = [loopB S104] := by kernel_rfl
theorem c106 : stepS G ⟨false, [], 0, n106⟩ 2 L106 [11, 337, 10561, 10562, 10563, 10605, 10607, 10608] e71 t52 = some (e72, t53) := by kernel_rfl
theorem c108 : stepS G ⟨false, [], 0, n108⟩ 1 L108 [11, 337, 10561, 10562, 10563, 10605, 10607, 10608] e72 t53 = some (e73, t54) := by kernel_rfl
theorem c110 : opsA Tryz.prog F0 n110 1 [11, 337, 10561, 10562, 10563, 10605, 10607, 10608] S110 e73 t54 = some (e74, t55) := by kernel_rfl
theorem z110 : L110 = [] := by kernel_rfl
theorem c111 : entA Tryz.prog n111 e74 S111 = some a111 := by kernel_rfl
theorem z111 : L111 = [] := by kernel_rfl
theorem c113 : opsA Tryz.prog F0 n113 5 [11, 337, 10561, 10562, 10563, 10605, 10607, 10608] S113 e75 t55 = some (e76, t56) := by kernel_rfl
theorem z113 : L113 = [] := by kernel_rfl
theorem c114 : entA Tryz.prog n114 e76 S114 = some a114 := by kernel_rfl
theorem z114 : L114 = [] := by kernel_rfl
theorem c115 : stepS G ⟨false, [], 0, n115⟩ 12 L115 [11, 337, 10561, 10562, 10563, 10605, 10607, 10608, 13828, 13830, 14036, 15014] e77 t56 = some (e78, t57) := by kernel_rfl
theorem c116 : stepS G ⟨false, [], 0, n116⟩ 3 L116 [11, 337, 10561, 10562, 10563, 10605, 10607, 10608] e78 t57 = some (e79, t58) := by kernel_rfl
theorem c117 : retA Tryz.prog S117 L117 e79 t58 = some e80 := by kernel_rfl
theorem c118 : opsA Tryz.prog F0 n118 2 [11, 337, 10561, 10562, 10563, 10605, 10607, 10608] S118 e80 t58 = some (e81, t59) := by kernel_rfl
theorem z118 : L118 = [] := by kernel_rfl
theorem c120 : stepS G ⟨false, [], 0, n120⟩ 1 L120 [11, 337, 10561, 10562, 10563, 10605, 10607, 10608] e81 t59 = some (e82, t60) := by kernel_rfl
theorem c121 : retA Tryz.prog S121 L121 e82 t60 = some e83 := by kernel_rfl
theorem c123 : stepS G ⟨false, [], 0, n123⟩ 1 L123 [11, 337, 10561, 10562, 10563, 10605, 10607, 10608] e83 t60 = some (e84, t61) := by kernel_rfl
theorem c125 : stepS G ⟨false, [], 0, n125⟩ 1 L125 [11, 337, 10561, 10562, 10563, 10605, 10607, 10608] e84 t61 = some (e85, t62) := by kernel_rfl
theorem c127 : stepR G ⟨false, [], 0, n127⟩ 1 (loopB S127) [11, 337, 10561, 10562, 10563, 10605, 10607, 10608] e85 t62 = some (e86, t63) := by kernel_rfl
theorem x127 : S127 = .lp (loopB S127) :: S127.tail := by kernel_rfl
theorem y127 : L127 = [loopB S127] := by kernel_rfl
theorem c128 : stepR G ⟨false, [], 0, n128⟩ 1 (loopB S128) [11, 337, 10561, 10562, 10563, 10605, 10607, 10608] e86 t63 = some (e87, t64) := by kernel_rfl
theorem x128 : S128 = .lp (loopB S128) :: S128.tail := by kernel_rfl
theorem y128 : L128 = [loopB S128] := by kernel_rfl
end Go.Proofs.YtninnodoofafpaaGreatDoor.rCureKnown0

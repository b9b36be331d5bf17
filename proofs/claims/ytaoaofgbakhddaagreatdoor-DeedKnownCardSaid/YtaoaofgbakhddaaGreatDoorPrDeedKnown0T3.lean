/-
  PLAIN: the Go function lintel/lintellaw21.DeedKnown, called in one state of a run: run in pieces by the evaluator, which is sound.
-/
import Derived.Test.YtaoaofgbakhddaaGreatDoorChecked
import Derived.Test.YtaoaofgbakhddaaGreatDoorPrDeedKnown0D2
namespace Go.Proofs.YtaoaofgbakhddaaGreatDoor.rDeedKnown0
open Go.RowKit Ev
theorem c106 : stepS G ⟨false, [], 0, n106⟩ 3 L106 [12762, 13774, 13820, 14835, 14836, 14837, 14838, 24276, 24284, 28953, 28958, 28959, 28960, 28961, 28963, 29005, 29008, 29033, 29034, 30255, 32990, 32994, 33013, 33017, 33025, 33038] e69 t55 = some (e70, t56) := by kernel_rfl
theorem c108 : opsA Tryz.prog F0 n108 1 [12762, 13774, 13820, 14835, 14836, 14837, 14838, 24276, 24284, 28953, 28958, 28959, 28960, 28961, 28963, 29005, 29008, 29033, 29034, 30255, 32990, 32994, 33013, 33017, 33025] S108 e70 t56 = some (e71, t57) := by kernel_rfl
theorem z108 : L108 = [] := by kernel_rfl
theorem c109 : entA Tryz.prog n109 e71 S109 = some a109 := by kernel_rfl
theorem z109 : L109 = [] := by kernel_rfl
theorem c110 : stepS G ⟨false, [], 0, n110⟩ 2 L110 [12762, 13774, 13820, 14835, 14836, 14837, 14838, 24276, 24284, 28953, 28958, 28959, 28960, 28961, 28963, 29005, 29008, 29033, 29034, 30255, 32990, 32994, 33013, 33017, 33025, 33040] e72 t57 = some (e73, t58) := by kernel_rfl
theorem c112 : stepS G ⟨false, [], 0, n112⟩ 4 L112 [12762, 13774, 13820, 14835, 14836, 14837, 14838, 24276, 24284, 28953, 28958, 28959, 28960, 28961, 28963, 29005, 29008, 29033, 29034, 30255, 32990, 32994, 33013, 33017, 33025, 33040] e73 t58 = some (e74, t59) := by kernel_rfl
theorem c114 : stepS G ⟨false, [], 0, n114⟩ 4 L114 [12762, 13774, 13820, 14835, 14836, 14837, 14838, 24276, 24284, 28953, 28958, 28959, 28960, 28961, 28963, 29005, 29008, 29033, 29034, 30255, 32990, 32994, 33013, 33017, 33025, 33040] e74 t59 = some (e75, t60) := by kernel_rfl
theorem c116 : stepS G ⟨false, [], 0, n116⟩ 4 L116 [12762, 13774, 13820, 14835, 14836, 14837, 14838, 24276, 24284, 28953, 28958, 28959, 28960, 28961, 28963, 29005, 29008, 29033, 29034, 30255, 32990, 32994, 33013, 33017, 33025, 33040] e75 t60 = some (e76, t61) := by kernel_rfl
theorem c118 : stepS G ⟨false, [], 0, n118⟩ 4 L118 [12762, 13774, 13820, 14835, 14836, 14837, 14838, 24276, 24284, 28953, 28958, 28959, 28960, 28961, 28963, 29005, 29008, 29033, 29034, 30255, 32990, 32994, 33013, 33017, 33025, 33040] e76 t61 = some (e77, t62) := by kernel_rfl
theorem c120 : stepS G ⟨false, [], 0, n120⟩ 4 L120 [12762, 13774, 13820, 14835, 14836, 14837, 14838, 24276, 24284, 28953, 28958, 28959, 28960, 28961, 28963, 29005, 29008, 29033, 29034, 30255, 32990, 32994, 33013, 33017, 33025, 33040] e77 t62 = some (e78, t63) := by kernel_rfl
theorem c122 : stepS G ⟨false, [], 0, n122⟩ 1 L122 [12762, 13774, 13820, 14835, 14836, 14837, 14838, 24276, 24284, 28953, 28958, 28959, 28960, 28961, 28963, 29005, 29008, 29033, 29034, 30255, 32990, 32994, 33013, 33017, 33025, 33040] e78 t63 = some (e79, t64) := by kernel_rfl
theorem c124 : stepS G ⟨false, [], 0, n124⟩ 1 L124 [12762, 13774, 13820, 14835, 14836, 14837, 14838, 24276, 24284, 28953, 28958, 28959, 28960, 28961, 28963, 29005, 29008, 29033, 29034, 30255] e79 t64 = some (e80, t65) := by kernel_rfl
theorem c125 : retA Tryz.prog S125 L125 e80 t65 = some e81 := by kernel_rfl
theorem c126 : opsA Tryz.prog F0 n126 1 [12762, 13774, 13820, 14835, 14836, 14837, 14838, 24276, 24284, 28953, 28958, 28959, 28960, 28961, 28963, 29005, 29008, 29033, 29034, 30255] S126 e81 t65 = some (e82, t66) := by kernel_rfl
theorem z126 : L126 = [] := by kernel_rfl
theorem c128 : stepS G ⟨false, [], 0, n128⟩ 4 L128 [12762, 13774, 13820, 14835, 14836, 14837, 14838, 24276, 24284, 28953, 28958, 28959, 28960, 28961, 28963, 37230, 37854] e82 t66 = some (e83, t67) := by kernel_rfl
theorem c129 : retA Tryz.prog S129 L129 e83 t67 = some e84 := by kernel_rfl
theorem c130 : opsA Tryz.prog F0 n130 2 [12762, 13774, 13820, 14835, 14836, 14837, 14838, 24276, 24284, 28953, 28958, 28959, 28960, 28961, 37230, 37854, 38191] S130 e84 t67 = some (e85, t68) := by kernel_rfl
theorem z130 : L130 = [] := by kernel_rfl
theorem c132 : stepS G ⟨false, [], 0, n132⟩ 2 L132 [12762, 13774, 13820, 14835, 14836, 14837, 14838, 28958, 28960, 28961, 37230, 37854, 38191, 38204, 38209, 38210] e85 t68 = some (e86, t69) := by kernel_rfl
theorem c134 : stepS G ⟨false, [], 0, n134⟩ 1 L134 [12762, 13774, 13820, 14835, 14836, 14837, 14838, 28958, 28960, 28961, 37230, 37854, 38191, 38204, 38209, 38210] e86 t69 = some (e87, t70) := by kernel_rfl
theorem c136 : stepS G ⟨false, [], 0, n136⟩ 4 L136 [12762, 13774, 13820, 14835, 14836, 14837, 14838, 38204, 38210, 38211, 39660, 39706, 39711, 39712, 39713] e87 t70 = some (e88, t71) := by kernel_rfl
theorem c138 : stepS G ⟨false, [], 0, n138⟩ 1 L138 [12762, 13774, 13820, 14835, 14836, 14837, 14838, 38204, 38210, 38211, 39660, 39706, 39711, 39712, 39713] e88 t71 = some (e89, t72) := by kernel_rfl
theorem c140 : stepS G ⟨false, [], 0, n140⟩ 1 L140 [12762, 13774, 13820, 14835, 39660, 39711, 39713] e89 t72 = some (e90, t73) := by kernel_rfl
theorem c141 : retA Tryz.prog S141 L141 e90 t73 = some e91 := by kernel_rfl
theorem c142 : opsA Tryz.prog F0 n142 5 [12762, 13774, 13820, 14835, 39660, 39711, 39713] S142 e91 t73 = some (e92, t74) := by kernel_rfl
theorem z142 : L142 = [] := by kernel_rfl
end Go.Proofs.YtaoaofgbakhddaaGreatDoor.rDeedKnown0

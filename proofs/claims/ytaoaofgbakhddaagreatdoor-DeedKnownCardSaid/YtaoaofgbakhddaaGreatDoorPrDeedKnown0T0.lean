/-
  PLAIN: the Go function lintel/lintellaw21.DeedKnown, called in one state of a run: run in pieces by the evaluator, which is sound.
-/
import Derived.Test.YtaoaofgbakhddaaGreatDoorChecked
import Derived.Test.YtaoaofgbakhddaaGreatDoorPrDeedKnown0D2
namespace Go.Proofs.YtaoaofgbakhddaaGreatDoor.rDeedKnown0
open Go.RowKit Ev
theorem c0 : stepS G ⟨false, [], 0, n0⟩ 1 L0 [] e0 s0 = some (e1, t1) := by kernel_rfl
theorem c2 : entA Tryz.prog n2 e1 S2 = some a2 := by kernel_rfl
theorem z2 : L2 = [] := by kernel_rfl
theorem c3 : stepS G ⟨false, [], 0, n3⟩ 2 L3 [11] e2 t1 = some (e3, t2) := by kernel_rfl
theorem c5 : opsA Tryz.prog F0 n5 2 [11] S5 e3 t2 = some (e4, t3) := by kernel_rfl
theorem z5 : L5 = [] := by kernel_rfl
theorem c6 : entA Tryz.prog n6 e4 S6 = some a6 := by kernel_rfl
theorem z6 : L6 = [] := by kernel_rfl
theorem c7 : stepS G ⟨false, [], 0, n7⟩ 13 L7 [11, 296, 338, 341, 366, 367, 1259, 1260, 1287, 1288, 1308, 1309] e5 t3 = some (e6, t4) := by kernel_rfl
theorem c8 : stepS G ⟨false, [], 0, n8⟩ 3 L8 [11, 296, 338, 341, 366, 367, 1309, 3957, 3975, 3979, 3998] e6 t4 = some (e7, t5) := by kernel_rfl
theorem c10 : opsA Tryz.prog F0 n10 1 [11, 296, 338, 341, 366, 367, 1309, 3957, 3975, 3979] S10 e7 t5 = some (e8, t6) := by kernel_rfl
theorem z10 : L10 = [] := by kernel_rfl
theorem c11 : entA Tryz.prog n11 e8 S11 = some a11 := by kernel_rfl
theorem z11 : L11 = [] := by kernel_rfl
theorem c12 : stepS G ⟨false, [], 0, n12⟩ 2 L12 [11, 296, 338, 341, 366, 367, 1309, 3957, 3975, 3979, 4000] e9 t6 = some (e10, t7) := by kernel_rfl
theorem c14 : stepS G ⟨false, [], 0, n14⟩ 4 L14 [11, 296, 338, 341, 366, 367, 1309, 3957, 3975, 3979, 4000] e10 t7 = some (e11, t8) := by kernel_rfl
theorem c16 : stepS G ⟨false, [], 0, n16⟩ 4 L16 [11, 296, 338, 341, 366, 367, 1309, 3957, 3975, 3979, 4000] e11 t8 = some (e12, t9) := by kernel_rfl
theorem c18 : stepS G ⟨false, [], 0, n18⟩ 4 L18 [11, 296, 338, 341, 366, 367, 1309, 3957, 3975, 3979, 4000] e12 t9 = some (e13, t10) := by kernel_rfl
theorem c20 : stepS G ⟨false, [], 0, n20⟩ 4 L20 [11, 296, 338, 341, 366, 367, 1309, 3957, 3975, 3979, 4000] e13 t10 = some (e14, t11) := by kernel_rfl
theorem c22 : stepS G ⟨false, [], 0, n22⟩ 4 L22 [11, 296, 338, 341, 366, 367, 1309, 3957, 3975, 3979, 4000] e14 t11 = some (e15, t12) := by kernel_rfl
theorem c24 : stepS G ⟨false, [], 0, n24⟩ 1 L24 [11, 296, 338, 341, 366, 367, 1309, 3957, 3975, 3979, 4000] e15 t12 = some (e16, t13) := by kernel_rfl
theorem c26 : stepS G ⟨false, [], 0, n26⟩ 1 L26 [11, 296, 338, 341, 366, 367, 1309] e16 t13 = some (e17, t14) := by kernel_rfl
theorem c27 : retA Tryz.prog S27 L27 e17 t14 = some e18 := by kernel_rfl
theorem c28 : opsA Tryz.prog F0 n28 1 [11, 296, 338, 341, 366, 367, 1309] S28 e18 t14 = some (e19, t15) := by kernel_rfl
theorem z28 : L28 = [] := by kernel_rfl
theorem c30 : stepS G ⟨false, [], 0, n30⟩ 4 L30 [11, 296, 8705, 9297] e19 t15 = some (e20, t16) := by kernel_rfl
theorem c31 : retA Tryz.prog S31 L31 e20 t16 = some e21 := by kernel_rfl
theorem c32 : opsA Tryz.prog F0 n32 2 [11, 8705, 9297, 9650] S32 e21 t16 = some (e22, t17) := by kernel_rfl
theorem z32 : L32 = [] := by kernel_rfl
end Go.Proofs.YtaoaofgbakhddaaGreatDoor.rDeedKnown0

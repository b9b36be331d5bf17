/-
  PLAIN: the Go function lintel/lintellaw25.CureKnown, called in one state of a run: run in pieces by the evaluator, which is sound.
-/
import Derived.Test.YtninnodoofafpaaGreatDoorChecked
import Derived.Test.YtninnodoofafpaaGreatDoorPrCureKnown0D2
namespace Go.Proofs.YtninnodoofafpaaGreatDoor.rCureKnown0
open Go.RowKit Ev
theorem c0 : stepS G ⟨false, [], 0, n0⟩ 1 L0 [] e0 s0 = some (e1, t1) := by kernel_rfl
theorem c2 : entA Tryz.prog n2 e1 S2 = some a2 := by kernel_rfl
theorem z2 : L2 = [] := by kernel_rfl
theorem c3 : stepS G ⟨false, [], 0, n3⟩ 2 L3 [11] e2 t1 = some (e3, t2) := by kernel_rfl
theorem c5 : opsA Tryz.prog F0 n5 1 [11] S5 e3 t2 = some (e4, t3) := by kernel_rfl
theorem z5 : L5 = [] := by kernel_rfl
theorem c6 : entA Tryz.prog n6 e4 S6 = some a6 := by kernel_rfl
theorem z6 : L6 = [] := by kernel_rfl
theorem c7 : stepS G ⟨false, [], 0, n7⟩ 2 L7 [11, 295] e5 t3 = some (e6, t4) := by kernel_rfl
theorem c9 : opsA Tryz.prog F0 n9 2 [11, 295] S9 e6 t4 = some (e7, t5) := by kernel_rfl
theorem z9 : L9 = [] := by kernel_rfl
theorem c10 : entA Tryz.prog n10 e7 S10 = some a10 := by kernel_rfl
theorem z10 : L10 = [] := by kernel_rfl
theorem c11 : stepS G ⟨false, [], 0, n11⟩ 7 L11 [11, 295, 337, 339, 340] e8 t5 = some (e9, t6) := by kernel_rfl
theorem c13 : stepR G ⟨false, [], 0, n13⟩ 1 (loopB S13) [11, 295, 337, 339, 340] e9 t6 = some (e10, t7) := by kernel_rfl
theorem x13 : S13 = .lp (loopB S13) :: S13.tail := by kernel_rfl
theorem y13 : L13 = [loopB S13] := by kernel_rfl
theorem c15 : stepS G ⟨false, [], 0, n15⟩ 2 L15 [11, 295, 337, 339, 340] e10 t7 = some (e11, t8) := by kernel_rfl
theorem c17 : stepS G ⟨false, [], 0, n17⟩ 1 L17 [11, 295, 337, 339, 340] e11 t8 = some (e12, t9) := by kernel_rfl
theorem c19 : opsA Tryz.prog F0 n19 1 [11, 295, 337, 339, 340] S19 e12 t9 = some (e13, t10) := by kernel_rfl
theorem z19 : L19 = [] := by kernel_rfl
theorem c20 : entA Tryz.prog n20 e13 S20 = some a20 := by kernel_rfl
theorem z20 : L20 = [] := by kernel_rfl
theorem c22 : opsA Tryz.prog F0 n22 5 [11, 295, 337, 339, 340] S22 e14 t10 = some (e15, t11) := by kernel_rfl
theorem z22 : L22 = [] := by kernel_rfl
theorem c23 : entA Tryz.prog n23 e15 S23 = some a23 := by kernel_rfl
theorem z23 : L23 = [] := by kernel_rfl
theorem c24 : stepS G ⟨false, [], 0, n24⟩ 12 L24 [11, 295, 337, 339, 340, 423, 425, 631, 1609] e16 t11 = some (e17, t12) := by kernel_rfl
theorem c25 : stepS G ⟨false, [], 0, n25⟩ 3 L25 [11, 295, 337, 339, 340] e17 t12 = some (e18, t13) := by kernel_rfl
theorem c26 : retA Tryz.prog S26 L26 e18 t13 = some e19 := by kernel_rfl
theorem c27 : opsA Tryz.prog F0 n27 2 [11, 295, 337, 339, 340] S27 e19 t13 = some (e20, t14) := by kernel_rfl
theorem z27 : L27 = [] := by kernel_rfl
theorem c29 : stepS G ⟨false, [], 0, n29⟩ 1 L29 [11, 295, 337, 339, 340] e20 t14 = some (e21, t15) := by kernel_rfl
theorem c30 : retA Tryz.prog S30 L30 e21 t15 = some e22 := by kernel_rfl
theorem c32 : stepS G ⟨false, [], 0, n32⟩ 1 L32 [11, 295, 337, 339, 340] e22 t15 = some (e23, t16) := by kernel_rfl
theorem c34 : stepS G ⟨false, [], 0, n34⟩ 1 L34 [11, 295, 337, 339, 340] e23 t16 = some (e24, t17) := by kernel_rfl
theorem c36 : stepR G ⟨false, [], 0, n36⟩ 1 (loopB S36) [11, 295, 337, 339, 340] e24 t17 = some (e25, t18) := by kernel_rfl
theorem x36 : S36 = .lp (loopB S36) :: S36.tail := by kernel_rfl
theorem y36 : L36 = [loopB S36] := by kernel_rfl
theorem c38 : stepS G ⟨false, [], 0, n38⟩ 2 L38 [11, 295, 337, 339, 340] e25 t18 = some (e26, t19) := by kernel_rfl
theorem c40 : stepS G ⟨false, [], 0, n40⟩ 1 L40 [11, 295, 337, 339, 340] e26 t19 = some (e27, t20) := by kernel_rfl
theorem c42 : opsA Tryz.prog F0 n42 1 [11, 295, 337, 339, 340] S42 e27 t20 = some (e28, t21) := by kernel_rfl
theorem z42 : L42 = [] := by kernel_rfl
theorem c43 : entA Tryz.prog n43 e28 S43 = some a43 := by kernel_rfl
theorem z43 : L43 = [] := by kernel_rfl
theorem c45 : opsA Tryz.prog F0 n45 5 [11, 295, 337, 339, 340] S45 e29 t21 = some (e30, t22) := by kernel_rfl
theorem z45 : L45 = [] := by kernel_rfl
theorem c46 : entA Tryz.prog n46 e30 S46 = some a46 := by kernel_rfl
theorem z46 : L46 = [] := by kernel_rfl
theorem c47 : stepS G ⟨false, [], 0, n47⟩ 12 L47 [11, 295, 337, 339, 340, 3560, 3562, 3768, 4746] e31 t22 = some (e32, t23) := by kernel_rfl
theorem c48 : stepS G ⟨false, [], 0, n48⟩ 3 L48 [11, 295, 337, 339, 340] e32 t23 = some (e33, t24) := by kernel_rfl
theorem c49 : retA Tryz.prog S49 L49 e33 t24 = some e34 := by kernel_rfl
theorem c50 : opsA Tryz.prog F0 n50 2 [11, 295, 337, 339, 340] S50 e34 t24 = some (e35, t25) := by kernel_rfl
theorem z50 : L50 = [] := by kernel_rfl
theorem c52 : stepS G ⟨false, [], 0, n52⟩ 1 L52 [11, 295, 337, 339, 340] e35 t25 = some (e36, t26) := by kernel_rfl
theorem c53 : retA Tryz.prog S53 L53 e36 t26 = some e37 := by kernel_rfl
theorem c55 : stepS G ⟨false, [], 0, n55⟩ 1 L55 [11, 295, 337, 339, 340] e37 t26 = some (e38, t27) := by kernel_rfl
theorem c57 : stepS G ⟨false, [], 0, n57⟩ 1 L57 [11, 295, 337, 339, 340] e38 t27 = some (e39, t28) := by kernel_rfl
theorem c59 : stepR G ⟨false, [], 0, n59⟩ 1 (loopB S59) [11, 295, 337, 339, 340] e39 t28 = some (e40, t29) := by kernel_rfl
theorem x59 : S59 = .lp (loopB S59) :: S59.tail := by kernel_rfl
theorem y59 : L59 = [loopB S59] := by kernel_rfl
theorem c60 : stepR G ⟨false, [], 0, n60⟩ 1 (loopB S60) [11, 295, 337, 339, 340] e40 t29 = some (e41, t30) := by kernel_rfl
theorem x60 : S60 = .lp (loopB S60) :: S60.tail := by kernel_rfl
theorem y60 : L60 = [loopB S60] := by kernel_rfl
theorem c61 : stepR G ⟨false, [], 0, n61⟩ 1 (loopB S61) [11, 295, 337, 339, 340] e41 t30 = some (e42, t31) := by kernel_rfl
theorem x61 : S61 = .lp (loopB S61) :: S61.tail := by kernel_rfl
theorem y61 : L61 = [loopB S61] := by kernel_rfl
theorem c63 : stepS G ⟨false, [], 0, n63⟩ 1 L63 [11, 295, 337, 339, 340] e42 t31 = some (e43, t32) := by kernel_rfl
theorem c65 : stepS G ⟨false, [], 0, n65⟩ 1 L65 [11, 295, 337] e43 t32 = some (e44, t33) := by kernel_rfl
theorem c66 : retA Tryz.prog S66 L66 e44 t33 = some e45 := by kernel_rfl
theorem c67 : opsA Tryz.prog F0 n67 1 [11, 295, 337] S67 e45 t33 = some (e46, t34) := by kernel_rfl
theorem z67 : L67 = [] := by kernel_rfl
theorem c69 : stepS G ⟨false, [], 0, n69⟩ 1 L69 [11, 337] e46 t34 = some (e47, t35) := by kernel_rfl
theorem c70 : retA Tryz.prog S70 L70 e47 t35 = some e48 := by kernel_rfl
theorem c71 : opsA Tryz.prog F0 n71 5 [11, 337] S71 e48 t35 = some (e49, t36) := by kernel_rfl
theorem z71 : L71 = [] := by kernel_rfl
theorem c73 : opsA Tryz.prog F0 n73 1 [11, 337] S73 e49 t36 = some (e50, t37) := by kernel_rfl
theorem z73 : L73 = [] := by kernel_rfl
theorem c74 : entA Tryz.prog n74 e50 S74 = some a74 := by kernel_rfl
theorem z74 : L74 = [] := by kernel_rfl
theorem c75 : stepS G ⟨false, [], 0, n75⟩ 3 L75 [11, 337, 10561, 10562, 10563] e51 t37 = some (e52, t38) := by kernel_rfl
theorem c77 : opsA Tryz.prog F0 n77 2 [11, 337, 10561, 10562, 10563] S77 e52 t38 = some (e53, t39) := by kernel_rfl
theorem z77 : L77 = [] := by kernel_rfl
theorem c78 : entA Tryz.prog n78 e53 S78 = some a78 := by kernel_rfl
theorem z78 : L78 = [] := by kernel_rfl
theorem c79 : stepS G ⟨false, [], 0, n79⟩ 7 L79 [11, 337, 10561, 10562, 10563, 10605, 10607, 10608] e54 t39 = some (e55, t40) := by kernel_rfl
theorem c81 : stepR G ⟨false, [], 0, n81⟩ 1 (loopB S81) [11, 337, 10561, 10562, 10563, 10605, 10607, 10608] e55 t40 = some (e56, t41) := by kernel_rfl
theorem x81 : S81 = .lp (loopB S81) :: S81.tail := by kernel_rfl
theorem y81 : L81 = [loopB S81] := by kernel_rfl
theorem c83 : stepS G ⟨false, [], 0, n83⟩ 2 L83 [11, 337, 10561, 10562, 10563, 10605, 10607, 10608] e56 t41 = some (e57, t42) := by kernel_rfl
theorem c85 : stepS G ⟨false, [], 0, n85⟩ 1 L85 [11, 337, 10561, 10562, 10563, 10605, 10607, 10608] e57 t42 = some (e58, t43) := by kernel_rfl
theorem c87 : opsA Tryz.prog F0 n87 1 [11, 337, 10561, 10562, 10563, 10605, 10607, 10608] S87 e58 t43 = some (e59, t44) := by kernel_rfl
theorem z87 : L87 = [] := by kernel_rfl
theorem c88 : entA Tryz.prog n88 e59 S88 = some a88 := by kernel_rfl
theorem z88 : L88 = [] := by kernel_rfl
theorem c90 : opsA Tryz.prog F0 n90 5 [11, 337, 10561, 10562, 10563, 10605, 10607, 10608] S90 e60 t44 = some (e61, t45) := by kernel_rfl
theorem z90 : L90 = [] := by kernel_rfl
theorem c91 : entA Tryz.prog n91 e61 S91 = some a91 := by kernel_rfl
theorem z91 : L91 = [] := by kernel_rfl
end Go.Proofs.YtninnodoofafpaaGreatDoor.rCureKnown0

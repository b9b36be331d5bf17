/-
  PLAIN: the Go function lintel/lintellaw19.CheckKnown, called in one state of a run: run in pieces by the evaluator, which is sound.
-/
import Derived.Test.YtooakkagndhdmaaGreatDoorChecked
import Derived.Test.YtooakkagndhdmaaGreatDoorPrCheckKnown0D0
namespace Go.Proofs.YtooakkagndhdmaaGreatDoor.rCheckKnown0
open Go.RowKit Ev
open cCheckKnown
theorem c0 : stepS G ⟨false, [], 0, n0⟩ 1 L0 [] e0 s0 = some (e1, t1) := by kernel_rfl
theorem c2 : entA Tryz.prog n2 e1 S2 = some a2 := by kernel_rfl
theorem z2 : L2 = [] := by kernel_rfl
theorem c3 : stepS G ⟨false, [], 0, n3⟩ 3 L3 [11, 299] e2 t1 = some (e3, t2) := by kernel_rfl
theorem c5 : opsA Tryz.prog F0 n5 4 [11, 299] S5 e3 t2 = some (e4, t3) := by kernel_rfl
theorem z5 : L5 = [] := by kernel_rfl
theorem c6 : entA Tryz.prog n6 e4 S6 = some a6 := by kernel_rfl
theorem z6 : L6 = [] := by kernel_rfl
theorem c7 : stepS G ⟨false, [], 0, n7⟩ 9 L7 [11, 299, 341, 343, 549] e5 t3 = some (e6, t4) := by kernel_rfl
theorem c8 : stepS G ⟨false, [], 0, n8⟩ 3 L8 [11, 299, 341, 343, 549, 1527] e6 t4 = some (e7, t5) := by kernel_rfl
theorem c10 : opsA Tryz.prog F0 n10 1 [11, 299, 341, 343, 549, 1527] S10 e7 t5 = some (e8, t6) := by kernel_rfl
theorem z10 : L10 = [] := by kernel_rfl
theorem c11 : entA Tryz.prog n11 e8 S11 = some a11 := by kernel_rfl
theorem z11 : L11 = [] := by kernel_rfl
theorem c12 : stepS G ⟨false, [], 0, n12⟩ 10 L12 [11, 299, 341, 343, 549, 1527, 1910, 1911] e9 t6 = some (e10, t7) := by kernel_rfl
theorem c14 : stepS G ⟨false, [], 0, n14⟩ 2 L14 [11, 299, 341, 343, 549, 1527, 1910, 1911] e10 t7 = some (e11, t8) := by kernel_rfl
theorem c16 : retA Tryz.prog S16 L16 e11 t8 = some e12 := by kernel_rfl
theorem c18 : stepS G ⟨false, [], 0, n18⟩ 2 L18 [11, 299] e12 t8 = some (e13, t9) := by kernel_rfl
theorem c19 : retA Tryz.prog S19 L19 e13 t9 = some e14 := by kernel_rfl
theorem c20 : opsA Tryz.prog F0 n20 5 [11, 299] S20 e14 t9 = some (e15, t10) := by kernel_rfl
theorem z20 : L20 = [] := by kernel_rfl
theorem c21 : entA Tryz.prog n21 e15 S21 = some a21 := by kernel_rfl
theorem z21 : L21 = [] := by kernel_rfl
theorem c22 : stepS G ⟨false, [], 0, n22⟩ 1 L22 [11, 299] e16 t10 = some (e17, t11) := by kernel_rfl
theorem c24 : opsA Tryz.prog F0 n24 1 [11, 299] S24 e17 t11 = some (e18, t12) := by kernel_rfl
theorem z24 : L24 = [] := by kernel_rfl
theorem c25 : entA Tryz.prog n25 e18 S25 = some a25 := by kernel_rfl
theorem z25 : L25 = [] := by kernel_rfl
theorem c26 : stepS G ⟨false, [], 0, n26⟩ 9 L26 [299, 2979, 2981, 3187] e19 t12 = some (e20, t13) := by kernel_rfl
theorem c27 : stepS G ⟨false, [], 0, n27⟩ 3 L27 [299, 2979, 2981, 3187, 4165] e20 t13 = some (e21, t14) := by kernel_rfl
theorem c29 : opsA Tryz.prog F0 n29 1 [299, 2979, 2981, 3187, 4165] S29 e21 t14 = some (e22, t15) := by kernel_rfl
theorem z29 : L29 = [] := by kernel_rfl
theorem c30 : entA Tryz.prog n30 e22 S30 = some a30 := by kernel_rfl
theorem z30 : L30 = [] := by kernel_rfl
theorem c31 : stepS G ⟨false, [], 0, n31⟩ 10 L31 [299, 2979, 2981, 3187, 4165, 4548, 4549] e23 t15 = some (e24, t16) := by kernel_rfl
theorem c33 : stepS G ⟨false, [], 0, n33⟩ 2 L33 [299, 2979, 2981, 3187, 4165, 4548, 4549] e24 t16 = some (e25, t17) := by kernel_rfl
theorem c35 : retA Tryz.prog S35 L35 e25 t17 = some e26 := by kernel_rfl
theorem c37 : stepS G ⟨false, [], 0, n37⟩ 2 L37 [299] e26 t17 = some (e27, t18) := by kernel_rfl
theorem c38 : retA Tryz.prog S38 L38 e27 t18 = some e28 := by kernel_rfl
theorem c39 : opsA Tryz.prog F0 n39 3 [299] S39 e28 t18 = some (e29, t19) := by kernel_rfl
theorem z39 : L39 = [] := by kernel_rfl
theorem c41 : retA Tryz.prog S41 L41 e29 t19 = some e30 := by kernel_rfl
theorem c42 : opsA Tryz.prog F0 n42 8 [] S42 e30 t19 = some (e31, t20) := by kernel_rfl
theorem z42 : L42 = [] := by kernel_rfl
theorem c44 : retA Tryz.prog S44 L44 e31 t20 = some e32 := by kernel_rfl
theorem c45 : opsA Tryz.prog F0 n45 1 [] S45 e32 t20 = some (e33, t21) := by kernel_rfl
theorem z45 : L45 = [] := by kernel_rfl
theorem c47 : stepS G ⟨false, [], 0, n47⟩ 6 L47 [5589, 5893] e33 t21 = some (e34, t22) := by kernel_rfl
theorem c49 : opsA Tryz.prog F0 n49 3 [5589, 5893, 5896] S49 e34 t22 = some (e35, t23) := by kernel_rfl
theorem z49 : L49 = [] := by kernel_rfl
theorem c50 : entA Tryz.prog n50 e35 S50 = some a50 := by kernel_rfl
theorem z50 : L50 = [] := by kernel_rfl
theorem c51 : stepS G ⟨false, [], 0, n51⟩ 9 L51 [5589, 5893, 5927, 5929, 5990, 6126] e36 t23 = some (e37, t24) := by kernel_rfl
theorem c52 : stepS G ⟨false, [], 0, n52⟩ 3 L52 [5589, 5893, 5927, 5929, 5990, 6126, 7104] e37 t24 = some (e38, t25) := by kernel_rfl
theorem c54 : opsA Tryz.prog F0 n54 1 [5589, 5893, 5927, 5929, 5990, 6126, 7104] S54 e38 t25 = some (e39, t26) := by kernel_rfl
theorem z54 : L54 = [] := by kernel_rfl
theorem c55 : entA Tryz.prog n55 e39 S55 = some a55 := by kernel_rfl
theorem z55 : L55 = [] := by kernel_rfl
theorem c56 : stepS G ⟨false, [], 0, n56⟩ 10 L56 [5589, 5893, 5927, 5929, 5990, 6126, 7104, 7487, 7488] e40 t26 = some (e41, t27) := by kernel_rfl
theorem c58 : stepS G ⟨false, [], 0, n58⟩ 2 L58 [5589, 5893, 5927, 5929, 5990, 6126, 7104, 7487, 7488] e41 t27 = some (e42, t28) := by kernel_rfl
theorem c60 : retA Tryz.prog S60 L60 e42 t28 = some e43 := by kernel_rfl
theorem c62 : stepS G ⟨false, [], 0, n62⟩ 2 L62 [5589, 5893, 5990] e43 t28 = some (e44, t29) := by kernel_rfl
theorem c63 : retA Tryz.prog S63 L63 e44 t29 = some e45 := by kernel_rfl
theorem c64 : opsA Tryz.prog F0 n64 1 [5589, 5893, 5990] S64 e45 t29 = some (e46, t30) := by kernel_rfl
theorem z64 : L64 = [] := by kernel_rfl
theorem c66 : opsA Tryz.prog F0 n66 5 [5589, 5893, 5990, 8517] S66 e46 t30 = some (e47, t31) := by kernel_rfl
theorem z66 : L66 = [] := by kernel_rfl
theorem c67 : entA Tryz.prog n67 e47 S67 = some a67 := by kernel_rfl
theorem z67 : L67 = [] := by kernel_rfl
theorem c68 : stepS G ⟨false, [], 0, n68⟩ 9 L68 [5589, 5893, 5990, 8559, 8561, 8657, 8771] e48 t31 = some (e49, t32) := by kernel_rfl
theorem c69 : stepS G ⟨false, [], 0, n69⟩ 3 L69 [5589, 5893, 5990, 8559, 8561, 8657, 8771, 9749] e49 t32 = some (e50, t33) := by kernel_rfl
theorem c71 : opsA Tryz.prog F0 n71 1 [5589, 5893, 5990, 8559, 8561, 8657, 8771, 9749] S71 e50 t33 = some (e51, t34) := by kernel_rfl
theorem z71 : L71 = [] := by kernel_rfl
theorem c72 : entA Tryz.prog n72 e51 S72 = some a72 := by kernel_rfl
theorem z72 : L72 = [] := by kernel_rfl
theorem c73 : stepS G ⟨false, [], 0, n73⟩ 10 L73 [5589, 5893, 5990, 8559, 8561, 8657, 8771, 9749, 10132, 10133] e52 t34 = some (e53, t35) := by kernel_rfl
theorem c75 : stepS G ⟨false, [], 0, n75⟩ 2 L75 [5589, 5893, 5990, 8559, 8561, 8657, 8771, 9749, 10132, 10133] e53 t35 = some (e54, t36) := by kernel_rfl
theorem c77 : retA Tryz.prog S77 L77 e54 t36 = some e55 := by kernel_rfl
theorem c79 : stepS G ⟨false, [], 0, n79⟩ 2 L79 [5589, 5893, 5990, 8657] e55 t36 = some (e56, t37) := by kernel_rfl
theorem c80 : retA Tryz.prog S80 L80 e56 t37 = some e57 := by kernel_rfl
theorem c81 : opsA Tryz.prog F0 n81 1 [5589, 5893, 5990, 8657] S81 e57 t37 = some (e58, t38) := by kernel_rfl
theorem z81 : L81 = [] := by kernel_rfl
theorem c83 : stepS G ⟨false, [], 0, n83⟩ 2 L83 [5589, 5893, 5990, 8657, 11167, 11172] e58 t38 = some (e59, t39) := by kernel_rfl
theorem c85 : opsA Tryz.prog F0 n85 1 [5589, 5893, 5990, 8657, 11167, 11172] S85 e59 t39 = some (e60, t40) := by kernel_rfl
theorem z85 : L85 = [] := by kernel_rfl
theorem c86 : entA Tryz.prog n86 e60 S86 = some a86 := by kernel_rfl
theorem z86 : L86 = [] := by kernel_rfl
end Go.Proofs.YtooakkagndhdmaaGreatDoor.rCheckKnown0

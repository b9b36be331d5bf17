/-
  PLAIN: the Go function lintel/linteltop.TopNames, called in one state of a run: run in pieces by the evaluator, which is sound.
-/
import Derived.Test.YtjfhadepbllmiaaGreatDoorChecked
import Derived.Test.YtjfhadepbllmiaaGreatDoorPrTopNames1T0
import Derived.Test.YtjfhadepbllmiaaGreatDoorPrTopNames1T1
namespace Go.Proofs.YtjfhadepbllmiaaGreatDoor.rTopNames1
open Go.RowKit Ev
open rTopNames0 (namesOk mixes)
theorem g63 : GoodM Tryz.prog Tryz.f3 s0 v1 s1 S63 n63 L63 e48 t32 := GoodM.done c63
theorem g62 : GoodM Tryz.prog Tryz.f3 s0 v1 s1 S62 n62 L62 e48 t32 := GoodM.nav (n := 2) g63
theorem g61 : GoodM Tryz.prog Tryz.f3 s0 v1 s1 S61 n61 L61 e47 t31 := by rw [z61]; exact GoodM.ops (named_of namesOk) hF0 c61 g62
theorem g60 : GoodM Tryz.prog Tryz.f3 s0 v1 s1 S60 n60 L60 e46 t31 := GoodM.back c60 g61
theorem g59 : GoodM Tryz.prog Tryz.f3 s0 v1 s1 S59 n59 L59 e46 t31 := GoodM.nav (n := 2) g60
theorem g58 : GoodM Tryz.prog Tryz.f3 s0 v1 s1 S58 n58 L58 e45 t30 := by rw [z58]; exact GoodM.ops (named_of namesOk) hF0 c58 g59
theorem g57 : GoodM Tryz.prog Tryz.f3 s0 v1 s1 S57 n57 L57 e44 t30 := GoodM.back c57 g58
theorem g56 : GoodM Tryz.prog Tryz.f3 s0 v1 s1 S56 n56 L56 e44 t30 := GoodM.nav (n := 2) g57
theorem g55 : GoodM Tryz.prog Tryz.f3 s0 v1 s1 S55 n55 L55 e43 t29 := by rw [z55]; exact GoodM.ops (named_of namesOk) hF0 c55 g56
theorem g54 : GoodM Tryz.prog Tryz.f3 s0 v1 s1 S54 n54 L54 e42 t29 := GoodM.back c54 g55
theorem g53 : GoodM Tryz.prog Tryz.f3 s0 v1 s1 S53 n53 L53 e41 t28 := GoodM.step hG c53 g54
theorem g52 : GoodM Tryz.prog Tryz.f3 s0 v1 s1 S52 n52 L52 e40 t27 := GoodM.step hG c52 g53
theorem g51 : GoodM Tryz.prog Tryz.f3 s0 v1 s1 S51 n51 L51 e39 t27 := by rw [z51]; exact GoodM.enter (named_of namesOk) c51 g52
theorem g50 : GoodM Tryz.prog Tryz.f3 s0 v1 s1 S50 n50 L50 e38 t26 := by rw [z50]; exact GoodM.ops (named_of namesOk) hF0 c50 g51
theorem g49 : GoodM Tryz.prog Tryz.f3 s0 v1 s1 S49 n49 L49 e38 t26 := GoodM.nav (n := 1) g50
theorem g48 : GoodM Tryz.prog Tryz.f3 s0 v1 s1 S48 n48 L48 e37 t25 := GoodM.step hG c48 g49
theorem g47 : GoodM Tryz.prog Tryz.f3 s0 v1 s1 S47 n47 L47 e36 t25 := by rw [z47]; exact GoodM.enter (named_of namesOk) c47 g48
theorem g46 : GoodM Tryz.prog Tryz.f3 s0 v1 s1 S46 n46 L46 e35 t24 := by rw [z46]; exact GoodM.ops (named_of namesOk) hF0 c46 g47
theorem g45 : GoodM Tryz.prog Tryz.f3 s0 v1 s1 S45 n45 L45 e35 t24 := GoodM.nav (n := 3) g46
theorem g44 : GoodM Tryz.prog Tryz.f3 s0 v1 s1 S44 n44 L44 e34 t23 := by rw [z44]; exact GoodM.ops (named_of namesOk) hF0 c44 g45
theorem g43 : GoodM Tryz.prog Tryz.f3 s0 v1 s1 S43 n43 L43 e33 t23 := GoodM.back c43 g44
theorem g42 : GoodM Tryz.prog Tryz.f3 s0 v1 s1 S42 n42 L42 e32 t22 := GoodM.step hG c42 g43
theorem g41 : GoodM Tryz.prog Tryz.f3 s0 v1 s1 S41 n41 L41 e31 t21 := GoodM.step hG c41 g42
theorem g40 : GoodM Tryz.prog Tryz.f3 s0 v1 s1 S40 n40 L40 e30 t21 := by rw [z40]; exact GoodM.enter (named_of namesOk) c40 g41
theorem g39 : GoodM Tryz.prog Tryz.f3 s0 v1 s1 S39 n39 L39 e29 t20 := by rw [z39]; exact GoodM.ops (named_of namesOk) hF0 c39 g40
theorem g38 : GoodM Tryz.prog Tryz.f3 s0 v1 s1 S38 n38 L38 e29 t20 := GoodM.nav (n := 1) g39
theorem g37 : GoodM Tryz.prog Tryz.f3 s0 v1 s1 S37 n37 L37 e28 t19 := GoodM.step hG c37 g38
theorem g36 : GoodM Tryz.prog Tryz.f3 s0 v1 s1 S36 n36 L36 e28 t19 := GoodM.nav (n := 2) g37
theorem g35 : GoodM Tryz.prog Tryz.f3 s0 v1 s1 S35 n35 L35 e27 t18 := by rw [z35]; exact GoodM.ops (named_of namesOk) hF0 c35 g36
theorem g34 : GoodM Tryz.prog Tryz.f3 s0 v1 s1 S34 n34 L34 e26 t18 := GoodM.back c34 g35
theorem g33 : GoodM Tryz.prog Tryz.f3 s0 v1 s1 S33 n33 L33 e25 t17 := GoodM.step hG c33 g34
theorem g32 : GoodM Tryz.prog Tryz.f3 s0 v1 s1 S32 n32 L32 e25 t17 := GoodM.nav (n := 2) g33
theorem g31 : GoodM Tryz.prog Tryz.f3 s0 v1 s1 S31 n31 L31 e24 t16 := by rw [z31]; exact GoodM.ops (named_of namesOk) hF0 c31 g32
theorem g30 : GoodM Tryz.prog Tryz.f3 s0 v1 s1 S30 n30 L30 e23 t16 := GoodM.back c30 g31
theorem g29 : GoodM Tryz.prog Tryz.f3 s0 v1 s1 S29 n29 L29 e22 t15 := GoodM.step hG c29 g30
theorem g28 : GoodM Tryz.prog Tryz.f3 s0 v1 s1 S28 n28 L28 e21 t14 := GoodM.step hG c28 g29
theorem g27 : GoodM Tryz.prog Tryz.f3 s0 v1 s1 S27 n27 L27 e20 t14 := by rw [z27]; exact GoodM.enter (named_of namesOk) c27 g28
theorem g26 : GoodM Tryz.prog Tryz.f3 s0 v1 s1 S26 n26 L26 e19 t13 := by rw [z26]; exact GoodM.ops (named_of namesOk) hF0 c26 g27
theorem g25 : GoodM Tryz.prog Tryz.f3 s0 v1 s1 S25 n25 L25 e19 t13 := GoodM.nav (n := 1) g26
theorem g24 : GoodM Tryz.prog Tryz.f3 s0 v1 s1 S24 n24 L24 e18 t12 := GoodM.step hG c24 g25
theorem g23 : GoodM Tryz.prog Tryz.f3 s0 v1 s1 S23 n23 L23 e17 t12 := by rw [z23]; exact GoodM.enter (named_of namesOk) c23 g24
theorem g22 : GoodM Tryz.prog Tryz.f3 s0 v1 s1 S22 n22 L22 e16 t11 := by rw [z22]; exact GoodM.ops (named_of namesOk) hF0 c22 g23
theorem g21 : GoodM Tryz.prog Tryz.f3 s0 v1 s1 S21 n21 L21 e16 t11 := GoodM.nav (n := 1) g22
theorem g20 : GoodM Tryz.prog Tryz.f3 s0 v1 s1 S20 n20 L20 e15 t10 := GoodM.step hG c20 g21
theorem g19 : GoodM Tryz.prog Tryz.f3 s0 v1 s1 S19 n19 L19 e15 t10 := GoodM.nav (n := 2) g20
theorem g18 : GoodM Tryz.prog Tryz.f3 s0 v1 s1 S18 n18 L18 e14 t9 := by rw [z18]; exact GoodM.ops (named_of namesOk) hF0 c18 g19
theorem g17 : GoodM Tryz.prog Tryz.f3 s0 v1 s1 S17 n17 L17 e13 t9 := GoodM.back c17 g18
theorem g16 : GoodM Tryz.prog Tryz.f3 s0 v1 s1 S16 n16 L16 e12 t8 := GoodM.step hG c16 g17
theorem g15 : GoodM Tryz.prog Tryz.f3 s0 v1 s1 S15 n15 L15 e12 t8 := GoodM.nav (n := 2) g16
theorem g14 : GoodM Tryz.prog Tryz.f3 s0 v1 s1 S14 n14 L14 e11 t7 := by rw [z14]; exact GoodM.ops (named_of namesOk) hF0 c14 g15
theorem g13 : GoodM Tryz.prog Tryz.f3 s0 v1 s1 S13 n13 L13 e10 t7 := GoodM.back c13 g14
theorem g12 : GoodM Tryz.prog Tryz.f3 s0 v1 s1 S12 n12 L12 e9 t6 := GoodM.step hG c12 g13
theorem g11 : GoodM Tryz.prog Tryz.f3 s0 v1 s1 S11 n11 L11 e8 t5 := GoodM.step hG c11 g12
theorem g10 : GoodM Tryz.prog Tryz.f3 s0 v1 s1 S10 n10 L10 e7 t5 := by rw [z10]; exact GoodM.enter (named_of namesOk) c10 g11
theorem g9 : GoodM Tryz.prog Tryz.f3 s0 v1 s1 S9 n9 L9 e6 t4 := by rw [z9]; exact GoodM.ops (named_of namesOk) hF0 c9 g10
theorem g8 : GoodM Tryz.prog Tryz.f3 s0 v1 s1 S8 n8 L8 e6 t4 := GoodM.nav (n := 1) g9
theorem g7 : GoodM Tryz.prog Tryz.f3 s0 v1 s1 S7 n7 L7 e5 t3 := GoodM.step hG c7 g8
theorem g6 : GoodM Tryz.prog Tryz.f3 s0 v1 s1 S6 n6 L6 e4 t3 := by rw [z6]; exact GoodM.enter (named_of namesOk) c6 g7
theorem g5 : GoodM Tryz.prog Tryz.f3 s0 v1 s1 S5 n5 L5 e3 t2 := by rw [z5]; exact GoodM.ops (named_of namesOk) hF0 c5 g6
theorem g4 : GoodM Tryz.prog Tryz.f3 s0 v1 s1 S4 n4 L4 e3 t2 := GoodM.nav (n := 1) g5
theorem g3 : GoodM Tryz.prog Tryz.f3 s0 v1 s1 S3 n3 L3 e2 t1 := GoodM.step hG c3 g4
theorem g2 : GoodM Tryz.prog Tryz.f3 s0 v1 s1 S2 n2 L2 e1 t1 := by rw [z2]; exact GoodM.enter (named_of namesOk) c2 g3
theorem g1 : GoodM Tryz.prog Tryz.f3 s0 v1 s1 S1 n1 L1 e1 t1 := GoodM.nav (n := 1) g2
theorem g0 : GoodM Tryz.prog Tryz.f3 s0 v1 s1 S0 n0 L0 e0 s0 := GoodM.step hG c0 g1
theorem good : Ev.Good Tryz.prog Tryz.f3 B0 e0 ⟨0, .lf⟩ := GoodM.good g0
end Go.Proofs.YtjfhadepbllmiaaGreatDoor.rTopNames1
namespace Go.Proofs.YtjfhadepbllmiaaGreatDoor
open Go.RowKit
theorem pr_TopNames (W : World) : Calls Tryz.prog 3 #[] W fun e W' => e = .returned (.bool true) ∧ Below W.heap.size W W' := Ev.Good.calls Tryz.func3 rTopNames1.body rTopNames1.good W
end Go.Proofs.YtjfhadepbllmiaaGreatDoor

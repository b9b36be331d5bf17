/-
  PLAIN: the Go function lintel/deed.Of, called in one state of a run: run in pieces by the evaluator, which is sound.
-/
import Derived.Test.YtiifofhigjoegaaGreatDoorChecked
import Derived.Test.YtiifofhigjoegaaGreatDoorPrCrewKnown1T0
import Derived.Test.YtiifofhigjoegaaGreatDoorPrCrewKnown1T1
import Derived.Test.YtiifofhigjoegaaGreatDoorPrCrewKnown1T2
namespace Go.Proofs.YtiifofhigjoegaaGreatDoor.rCrewKnown1
open Go.RowKit Ev
open cCrewKnown
open rCrewKnown0 (namesOk mixes)
theorem g50 : GoodM Tryz.prog Tryz.f78 s0 v1 s1 S50 n50 L50 e36 t28 := GoodM.done c50
theorem g49 : GoodM Tryz.prog Tryz.f78 s0 v1 s1 S49 n49 L49 e35 t27 := GoodM.step hG c49 g50
theorem g48 : GoodM Tryz.prog Tryz.f78 s0 v1 s1 S48 n48 L48 e35 t27 := GoodM.nav3 (n := 2) g49
theorem g47 : GoodM Tryz.prog Tryz.f78 s0 v1 s1 S47 n47 L47 e34 t26 := by rw [z47]; exact GoodM.ops (named_of namesOk) hF0 c47 g48
theorem g46 : GoodM Tryz.prog Tryz.f78 s0 v1 s1 S46 n46 L46 e33 t26 := GoodM.back c46 g47
theorem g45 : GoodM Tryz.prog Tryz.f78 s0 v1 s1 S45 n45 L45 e32 t25 := GoodM.step hG c45 g46
theorem g44 : GoodM Tryz.prog Tryz.f78 s0 v1 s1 S44 n44 L44 e32 t25 := GoodM.nav3 (n := 3) g45
theorem g43 : GoodM Tryz.prog Tryz.f78 s0 v1 s1 S43 n43 L43 e31 t24 := GoodM.step hG c43 g44
theorem g42 : GoodM Tryz.prog Tryz.f78 s0 v1 s1 S42 n42 L42 e31 t24 := GoodM.nav3 (n := 1) g43
theorem g41 : GoodM Tryz.prog Tryz.f78 s0 v1 s1 S41 n41 L41 e30 t23 := GoodM.rounds hG x41 y41 c41 g42
theorem g40 : GoodM Tryz.prog Tryz.f78 s0 v1 s1 S40 n40 L40 e29 t22 := GoodM.rounds hG x40 y40 c40 g41
theorem g39 : GoodM Tryz.prog Tryz.f78 s0 v1 s1 S39 n39 L39 e28 t21 := GoodM.rounds hG x39 y39 c39 g40
theorem g38 : GoodM Tryz.prog Tryz.f78 s0 v1 s1 S38 n38 L38 e27 t20 := GoodM.rounds hG x38 y38 c38 g39
theorem g37 : GoodM Tryz.prog Tryz.f78 s0 v1 s1 S37 n37 L37 e27 t20 := GoodM.nav3 (n := 2) g38
theorem g36 : GoodM Tryz.prog Tryz.f78 s0 v1 s1 S36 n36 L36 e26 t19 := GoodM.step hG c36 g37
theorem g35 : GoodM Tryz.prog Tryz.f78 s0 v1 s1 S35 n35 L35 e25 t19 := by rw [z35]; exact GoodM.enter (named_of namesOk) c35 g36
theorem g34 : GoodM Tryz.prog Tryz.f78 s0 v1 s1 S34 n34 L34 e24 t18 := by rw [z34]; exact GoodM.ops (named_of namesOk) hF0 c34 g35
theorem g33 : GoodM Tryz.prog Tryz.f78 s0 v1 s1 S33 n33 L33 e24 t18 := GoodM.nav3 (n := 1) g34
theorem g32 : GoodM Tryz.prog Tryz.f78 s0 v1 s1 S32 n32 L32 e23 t17 := GoodM.step hG c32 g33
theorem g31 : GoodM Tryz.prog Tryz.f78 s0 v1 s1 S31 n31 L31 e23 t17 := GoodM.nav3 (n := 2) g32
theorem g30 : GoodM Tryz.prog Tryz.f78 s0 v1 s1 S30 n30 L30 e22 t16 := by rw [z30]; exact GoodM.ops (named_of namesOk) hF0 c30 g31
theorem g29 : GoodM Tryz.prog Tryz.f78 s0 v1 s1 S29 n29 L29 e21 t16 := GoodM.back c29 g30
theorem g28 : GoodM Tryz.prog Tryz.f78 s0 v1 s1 S28 n28 L28 e20 t15 := GoodM.step hG c28 g29
theorem g27 : GoodM Tryz.prog Tryz.f78 s0 v1 s1 S27 n27 L27 e20 t15 := GoodM.nav3 (n := 3) g28
theorem g26 : GoodM Tryz.prog Tryz.f78 s0 v1 s1 S26 n26 L26 e19 t14 := GoodM.step hG c26 g27
theorem g25 : GoodM Tryz.prog Tryz.f78 s0 v1 s1 S25 n25 L25 e19 t14 := GoodM.nav3 (n := 1) g26
theorem g24 : GoodM Tryz.prog Tryz.f78 s0 v1 s1 S24 n24 L24 e18 t13 := GoodM.rounds hG x24 y24 c24 g25
theorem g23 : GoodM Tryz.prog Tryz.f78 s0 v1 s1 S23 n23 L23 e17 t12 := GoodM.rounds hG x23 y23 c23 g24
theorem g22 : GoodM Tryz.prog Tryz.f78 s0 v1 s1 S22 n22 L22 e17 t12 := GoodM.nav3 (n := 2) g23
theorem g21 : GoodM Tryz.prog Tryz.f78 s0 v1 s1 S21 n21 L21 e16 t11 := GoodM.step hG c21 g22
theorem g20 : GoodM Tryz.prog Tryz.f78 s0 v1 s1 S20 n20 L20 e15 t11 := by rw [z20]; exact GoodM.enter (named_of namesOk) c20 g21
theorem g19 : GoodM Tryz.prog Tryz.f78 s0 v1 s1 S19 n19 L19 e14 t10 := by rw [z19]; exact GoodM.ops (named_of namesOk) hF0 c19 g20
theorem g18 : GoodM Tryz.prog Tryz.f78 s0 v1 s1 S18 n18 L18 e14 t10 := GoodM.nav3 (n := 1) g19
theorem g17 : GoodM Tryz.prog Tryz.f78 s0 v1 s1 S17 n17 L17 e13 t9 := GoodM.step hG c17 g18
theorem g16 : GoodM Tryz.prog Tryz.f78 s0 v1 s1 S16 n16 L16 e13 t9 := GoodM.nav3 (n := 2) g17
theorem g15 : GoodM Tryz.prog Tryz.f78 s0 v1 s1 S15 n15 L15 e12 t8 := by rw [z15]; exact GoodM.ops (named_of namesOk) hF0 c15 g16
theorem g14 : GoodM Tryz.prog Tryz.f78 s0 v1 s1 S14 n14 L14 e11 t8 := GoodM.back c14 g15
theorem g13 : GoodM Tryz.prog Tryz.f78 s0 v1 s1 S13 n13 L13 e10 t7 := GoodM.step hG c13 g14
theorem g12 : GoodM Tryz.prog Tryz.f78 s0 v1 s1 S12 n12 L12 e10 t7 := GoodM.nav3 (n := 2) g13
theorem g11 : GoodM Tryz.prog Tryz.f78 s0 v1 s1 S11 n11 L11 e9 t6 := by rw [z11]; exact GoodM.ops (named_of namesOk) hF0 c11 g12
theorem g10 : GoodM Tryz.prog Tryz.f78 s0 v1 s1 S10 n10 L10 e8 t6 := GoodM.back c10 g11
theorem g9 : GoodM Tryz.prog Tryz.f78 s0 v1 s1 S9 n9 L9 e7 t5 := GoodM.step hG c9 g10
theorem g8 : GoodM Tryz.prog Tryz.f78 s0 v1 s1 S8 n8 L8 e6 t4 := GoodM.step hG c8 g9
theorem g7 : GoodM Tryz.prog Tryz.f78 s0 v1 s1 S7 n7 L7 e5 t4 := by rw [z7]; exact GoodM.enter (named_of namesOk) c7 g8
theorem g6 : GoodM Tryz.prog Tryz.f78 s0 v1 s1 S6 n6 L6 e4 t3 := by rw [z6]; exact GoodM.ops (named_of namesOk) hF0 c6 g7
theorem g5 : GoodM Tryz.prog Tryz.f78 s0 v1 s1 S5 n5 L5 e4 t3 := GoodM.nav3 (n := 1) g6
theorem g4 : GoodM Tryz.prog Tryz.f78 s0 v1 s1 S4 n4 L4 e3 t2 := GoodM.step hG c4 g5
theorem g3 : GoodM Tryz.prog Tryz.f78 s0 v1 s1 S3 n3 L3 e2 t2 := by rw [z3]; exact GoodM.enter (named_of namesOk) c3 g4
theorem g2 : GoodM Tryz.prog Tryz.f78 s0 v1 s1 S2 n2 L2 e1 t1 := by rw [z2]; exact GoodM.ops (named_of namesOk) hF0 c2 g3
theorem g1 : GoodM Tryz.prog Tryz.f78 s0 v1 s1 S1 n1 L1 e1 t1 := GoodM.nav3 (n := 1) g2
theorem g0 : GoodM Tryz.prog Tryz.f78 s0 v1 s1 S0 n0 L0 e0 s0 := GoodM.step hG c0 g1
theorem old : subT (fun _ _ => true) s0.h s1.h = true := by kernel_rfl
noncomputable def F : CallF := orcN F0 78 args s0 v1 s1
theorem hF : CallSound Tryz.prog F ∧ HasBody Tryz.prog F := orcN_sound hF0 Tryz.func78 body g0 old
end Go.Proofs.YtiifofhigjoegaaGreatDoor.rCrewKnown1

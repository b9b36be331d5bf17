/-
  PLAIN: the Go function lintel/deed.Of, called in one state of a run: run in pieces by the evaluator, which is sound.
-/
import Derived.Test.YtjfhadepbllmiaaGreatDoorChecked
import Derived.Test.YtjfhadepbllmiaaGreatDoorPrTopNames0T0
import Derived.Test.YtjfhadepbllmiaaGreatDoorPrTopNames0T1
namespace Go.Proofs.YtjfhadepbllmiaaGreatDoor.rTopNames0
open Go.RowKit Ev
theorem g24 : GoodM Tryz.prog Tryz.f30 s0 v1 s1 S24 n24 L24 e15 t13 := GoodM.done c24
theorem g23 : GoodM Tryz.prog Tryz.f30 s0 v1 s1 S23 n23 L23 e14 t12 := GoodM.step hG c23 g24
theorem g22 : GoodM Tryz.prog Tryz.f30 s0 v1 s1 S22 n22 L22 e14 t12 := GoodM.nav (n := 2) g23
theorem g21 : GoodM Tryz.prog Tryz.f30 s0 v1 s1 S21 n21 L21 e13 t11 := by rw [z21]; exact GoodM.ops (named_of namesOk) hF0 c21 g22
theorem g20 : GoodM Tryz.prog Tryz.f30 s0 v1 s1 S20 n20 L20 e12 t11 := GoodM.back c20 g21
theorem g19 : GoodM Tryz.prog Tryz.f30 s0 v1 s1 S19 n19 L19 e11 t10 := GoodM.step hG c19 g20
theorem g18 : GoodM Tryz.prog Tryz.f30 s0 v1 s1 S18 n18 L18 e11 t10 := GoodM.nav (n := 3) g19
theorem g17 : GoodM Tryz.prog Tryz.f30 s0 v1 s1 S17 n17 L17 e10 t9 := GoodM.step hG c17 g18
theorem g16 : GoodM Tryz.prog Tryz.f30 s0 v1 s1 S16 n16 L16 e10 t9 := GoodM.nav (n := 1) g17
theorem g15 : GoodM Tryz.prog Tryz.f30 s0 v1 s1 S15 n15 L15 e9 t8 := GoodM.step hG c15 g16
theorem g14 : GoodM Tryz.prog Tryz.f30 s0 v1 s1 S14 n14 L14 e9 t8 := GoodM.nav (n := 1) g15
theorem g13 : GoodM Tryz.prog Tryz.f30 s0 v1 s1 S13 n13 L13 e8 t7 := GoodM.step hG c13 g14
theorem g12 : GoodM Tryz.prog Tryz.f30 s0 v1 s1 S12 n12 L12 e8 t7 := GoodM.nav (n := 1) g13
theorem g11 : GoodM Tryz.prog Tryz.f30 s0 v1 s1 S11 n11 L11 e7 t6 := GoodM.step hG c11 g12
theorem g10 : GoodM Tryz.prog Tryz.f30 s0 v1 s1 S10 n10 L10 e7 t6 := GoodM.nav (n := 1) g11
theorem g9 : GoodM Tryz.prog Tryz.f30 s0 v1 s1 S9 n9 L9 e6 t5 := GoodM.step hG c9 g10
theorem g8 : GoodM Tryz.prog Tryz.f30 s0 v1 s1 S8 n8 L8 e6 t5 := GoodM.nav (n := 1) g9
theorem g7 : GoodM Tryz.prog Tryz.f30 s0 v1 s1 S7 n7 L7 e5 t4 := GoodM.step hG c7 g8
theorem g6 : GoodM Tryz.prog Tryz.f30 s0 v1 s1 S6 n6 L6 e5 t4 := GoodM.nav (n := 2) g7
theorem g5 : GoodM Tryz.prog Tryz.f30 s0 v1 s1 S5 n5 L5 e4 t3 := GoodM.step hG c5 g6
theorem g4 : GoodM Tryz.prog Tryz.f30 s0 v1 s1 S4 n4 L4 e3 t3 := by rw [z4]; exact GoodM.enter (named_of namesOk) c4 g5
theorem g3 : GoodM Tryz.prog Tryz.f30 s0 v1 s1 S3 n3 L3 e2 t2 := by rw [z3]; exact GoodM.ops (named_of namesOk) hF0 c3 g4
theorem g2 : GoodM Tryz.prog Tryz.f30 s0 v1 s1 S2 n2 L2 e2 t2 := GoodM.nav (n := 1) g3
theorem g1 : GoodM Tryz.prog Tryz.f30 s0 v1 s1 S1 n1 L1 e1 t1 := GoodM.step hG c1 g2
theorem g0 : GoodM Tryz.prog Tryz.f30 s0 v1 s1 S0 n0 L0 e0 s0 := GoodM.step hG c0 g1
theorem old : subT (fun _ _ => true) s0.h s1.h = true := by kernel_rfl
noncomputable def F : CallF := orc F0 30 args s0 v1 s1
theorem hF : CallSound Tryz.prog F ∧ HasBody Tryz.prog F := orc_sound hF0 Tryz.func30 body g0 old
end Go.Proofs.YtjfhadepbllmiaaGreatDoor.rTopNames0

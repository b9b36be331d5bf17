/-
  PLAIN: the Go function (*lintel/pmem.Mem).Words, called in one state of a run: run in pieces by the evaluator, which is sound.
-/
import Derived.Test.YtiifofhigjoegaaGreatDoorChecked
import Derived.Test.YtiifofhigjoegaaGreatDoorPrCrewKnown0T0
import Derived.Test.YtiifofhigjoegaaGreatDoorPrCrewKnown0T1
namespace Go.Proofs.YtiifofhigjoegaaGreatDoor.rCrewKnown0
open Go.RowKit Ev
open cCrewKnown
theorem g8 : GoodM Tryz.prog Tryz.f36 s0 v1 s1 S8 n8 L8 e5 t5 := GoodM.done c8
theorem g7 : GoodM Tryz.prog Tryz.f36 s0 v1 s1 S7 n7 L7 e4 t4 := GoodM.step hG c7 g8
theorem g6 : GoodM Tryz.prog Tryz.f36 s0 v1 s1 S6 n6 L6 e4 t4 := GoodM.nav3 (n := 3) g7
theorem g5 : GoodM Tryz.prog Tryz.f36 s0 v1 s1 S5 n5 L5 e3 t3 := GoodM.step hG c5 g6
theorem g4 : GoodM Tryz.prog Tryz.f36 s0 v1 s1 S4 n4 L4 e3 t3 := GoodM.nav3 (n := 1) g5
theorem g3 : GoodM Tryz.prog Tryz.f36 s0 v1 s1 S3 n3 L3 e2 t2 := GoodM.rounds hG x3 y3 c3 g4
theorem g2 : GoodM Tryz.prog Tryz.f36 s0 v1 s1 S2 n2 L2 e1 t1 := GoodM.rounds hG x2 y2 c2 g3
theorem g1 : GoodM Tryz.prog Tryz.f36 s0 v1 s1 S1 n1 L1 e1 t1 := GoodM.nav3 (n := 2) g2
theorem g0 : GoodM Tryz.prog Tryz.f36 s0 v1 s1 S0 n0 L0 e0 s0 := GoodM.step hG c0 g1
theorem old : subT (fun _ _ => true) s0.h s1.h = true := by kernel_rfl
noncomputable def F : CallF := orcN F0 36 args s0 v1 s1
theorem hF : CallSound Tryz.prog F ∧ HasBody Tryz.prog F := orcN_sound hF0 Tryz.func36 body g0 old
end Go.Proofs.YtiifofhigjoegaaGreatDoor.rCrewKnown0

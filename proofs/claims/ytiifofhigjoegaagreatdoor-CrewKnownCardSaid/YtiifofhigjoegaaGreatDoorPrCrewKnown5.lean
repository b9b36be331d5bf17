/-
  PLAIN: the Go function (*lintel/disk.Disk).Plan, called in one state of a run: run in pieces by the evaluator, which is sound.
-/
import Derived.Test.YtiifofhigjoegaaGreatDoorChecked
import Derived.Test.YtiifofhigjoegaaGreatDoorPrCrewKnown5T0
import Derived.Test.YtiifofhigjoegaaGreatDoorPrCrewKnown5T1
namespace Go.Proofs.YtiifofhigjoegaaGreatDoor.rCrewKnown5
open Go.RowKit Ev
open cCrewKnown
open rCrewKnown0 (namesOk mixes)
theorem g2 : GoodM Tryz.prog Tryz.f45 s0 v1 s1 S2 n2 L2 e2 t2 := GoodM.done c2
theorem g1 : GoodM Tryz.prog Tryz.f45 s0 v1 s1 S1 n1 L1 e1 t1 := GoodM.step hG c1 g2
theorem g0 : GoodM Tryz.prog Tryz.f45 s0 v1 s1 S0 n0 L0 e0 s0 := GoodM.step hG c0 g1
theorem old : subT (fun _ _ => true) s0.h s1.h = true := by kernel_rfl
noncomputable def F : CallF := orcN F0 45 args s0 v1 s1
theorem hF : CallSound Tryz.prog F ∧ HasBody Tryz.prog F := orcN_sound hF0 Tryz.func45 body g0 old
end Go.Proofs.YtiifofhigjoegaaGreatDoor.rCrewKnown5

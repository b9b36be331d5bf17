/-
  PLAIN: the Go function lintel/deed.Of, called in one state of a run: run in pieces by the evaluator, which is sound.
-/
import Derived.Test.YtiifofhigjoegaaGreatDoorChecked
import Derived.Test.YtiifofhigjoegaaGreatDoorPrCrewKnown3
namespace Go.Proofs.YtiifofhigjoegaaGreatDoor.rCrewKnown4
open Go.RowKit Ev
open cCrewKnown
open rCrewKnown0 (namesOk mixes)
noncomputable def F0 : CallF := rCrewKnown3.F
theorem hF0 : CallSound Tryz.prog F0 ∧ HasBody Tryz.prog F0 := rCrewKnown3.hF
noncomputable def G : CodeF := evH Tryz.prog F0 100000
theorem hG : CodeSound Tryz.prog G := evH_sound namesOk mixes hF0 100000
noncomputable def B0 : Code := bd Tryz.f78
theorem body : (Tryz.f78).body = some B0 := by kernel_rfl
def args : List V := [(.sl 27277 0 2400 2400), (i 1), (.g [(i 13), (.s [47]), (.s []), (i 0), (i 0), ns])]
noncomputable def s0 : St := ⟨29678, (.nd (.nd .lf none (.nd .lf none (.nd .lf none q386))) none .lf)⟩
noncomputable def e0 : Env := sets args 0 .lf
noncomputable def S0 : List Fr := []
noncomputable def L0 : List Code := flat B0
noncomputable def n0 : Nat := (Tryz.f78).ntmps
noncomputable def e1 : Env := (.nd (.nd (.nd (.nd (.nd q387 none q73) (some (.p 29750 0)) q388) none q389) (some (i 1)) q391) (some (.sl 27277 0 2400 2400)) (.nd (.nd (.nd (.nd q387 (some (.t [(.p 29750 0), (i 0)])) .lf) (some (i 0)) (.nd q387 none q2)) none q392) (some (.g [(i 13), (.s [47]), (.s []), (i 0), (i 0), ns])) q394))
noncomputable def t1 : St := ⟨30735, (.nd (.nd (.nd (.nd (.nd .lf none (.nd q395 none (.nd .lf none (.nd .lf none (.nd .lf none (.nd .lf none (.nd (.nd q396 none .lf) none .lf))))))) none .lf) none q397) none q402) none q405)⟩
noncomputable def S1 : List Fr := S0
noncomputable def n1 : Nat := n0
noncomputable def L1 : List Code := dropL 12 L0
noncomputable def S2 : List Fr := (navs3 1 e1 S1 L1).1
noncomputable def n2 : Nat := n1
noncomputable def L2 : List Code := (navs3 1 e1 S1 L1).2
noncomputable def e2 : Env := (.nd (.nd (.nd (.nd (.nd (.nd q393 (some (.p 29750 0)) .lf) none q73) (some (.p 29750 0)) q388) none q389) (some (i 1)) q391) (some (.sl 27277 0 2400 2400)) (.nd (.nd (.nd (.nd (.nd q406 (some (.p 29750 0)) .lf) (some (.t [(.p 29750 0), (i 0)])) .lf) (some (i 0)) (.nd q387 none q2)) none q392) (some (.g [(i 13), (.s [47]), (.s []), (i 0), (i 0), ns])) q394))
noncomputable def t2 : St := ⟨30735, (.nd (.nd (.nd (.nd (.nd .lf none (.nd q395 none (.nd .lf none (.nd .lf none (.nd .lf none (.nd .lf none (.nd (.nd (.nd .lf none q407) none .lf) none .lf))))))) none .lf) none q397) none q402) none q405)⟩
noncomputable def S3 : List Fr := S2
noncomputable def n3 : Nat := n2
noncomputable def L3 : List Code := dropL 1 L2
def v1 : V := (.g [(i 0), (i 1), (i 0), (i 0), (i 0), ns, (.sg 30689 0 1 1), ns, ns])
noncomputable def s1 : St := t2
end Go.Proofs.YtiifofhigjoegaaGreatDoor.rCrewKnown4

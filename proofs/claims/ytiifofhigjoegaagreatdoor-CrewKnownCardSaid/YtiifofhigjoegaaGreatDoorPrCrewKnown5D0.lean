/-
  PLAIN: the Go function (*lintel/disk.Disk).Plan, called in one state of a run: run in pieces by the evaluator, which is sound.
-/
import Derived.Test.YtiifofhigjoegaaGreatDoorChecked
import Derived.Test.YtiifofhigjoegaaGreatDoorPrCrewKnown4
namespace Go.Proofs.YtiifofhigjoegaaGreatDoor.rCrewKnown5
open Go.RowKit Ev
open cCrewKnown
open rCrewKnown0 (namesOk mixes)
noncomputable def F0 : CallF := rCrewKnown4.F
theorem hF0 : CallSound Tryz.prog F0 ∧ HasBody Tryz.prog F0 := rCrewKnown4.hF
noncomputable def G : CodeF := evH Tryz.prog F0 100000
theorem hG : CodeSound Tryz.prog G := evH_sound namesOk mixes hF0 100000
noncomputable def B0 : Code := bd Tryz.f45
theorem body : (Tryz.f45).body = some B0 := by kernel_rfl
def args : List V := [(.p 27237 0), (i 1), (.g [(i 13), (.s [47]), (.s []), (i 0), (i 0), ns])]
noncomputable def s0 : St := ⟨27275, q418⟩
noncomputable def e0 : Env := sets args 0 .lf
noncomputable def S0 : List Fr := []
noncomputable def L0 : List Code := flat B0
noncomputable def n0 : Nat := (Tryz.f45).ntmps
noncomputable def e1 : Env := (.nd (.nd q286 (some (i 1)) (.nd q419 (some (.p 27275 0)) q73)) (some (.p 27237 0)) (.nd q286 (some (.g [(i 13), (.s [47]), (.s []), (i 0), (i 0), ns])) (.nd q123 (some (.p 27276 0)) .lf)))
noncomputable def t1 : St := ⟨27277, (.nd (.nd (.nd (.nd q408 none q322) none (.nd q323 none (.nd (.nd (.nd (.nd q300 none (.nd (.nd q301 none (.nd (.nd .lf none (.nd (.nd .lf none (l1 (.cs 31 6 (.nd (.nd q2 (some (.s [47])) q4) (some (i 13)) q289)))) none .lf)) none .lf)) none .lf)) none q324) none q312) none q325))) none (.nd q333 none q412)) none (.nd (.nd q341 none (.nd q346 none (.nd (.nd (.nd (.nd q314 none (.nd (.nd .lf none (.nd q158 none .lf)) none q299)) none q308) none q316) none q320))) none q417))⟩
noncomputable def S1 : List Fr := S0
noncomputable def n1 : Nat := n0
noncomputable def L1 : List Code := dropL 4 L0
noncomputable def e2 : Env := (.nd (.nd (.nd (.nd .lf (some (i 0)) q406) none q420) (some (i 1)) (.nd q421 (some (.p 27275 0)) (.nd q123 (some ff) .lf))) (some (.p 27237 0)) (.nd (.nd (.nd q419 (some (i 0)) .lf) none (.nd q375 (some (i 0)) .lf)) (some (.g [(i 13), (.s [47]), (.s []), (i 0), (i 0), ns])) (.nd (.nd q419 (some (i 1)) .lf) (some (.p 27276 0)) (.nd q390 none .lf))))
noncomputable def t2 : St := ⟨30735, (.nd (.nd q409 none (.nd (.nd q422 none q323) none q412)) none (.nd (.nd q341 none (.nd q346 none (.nd (.nd (.nd (.nd q314 none (.nd (.nd .lf none (.nd (.nd .lf none (.nd q407 none .lf)) none .lf)) none q299)) none q308) none q316) none q320))) none q417))⟩
noncomputable def S2 : List Fr := S1
noncomputable def n2 : Nat := n1
noncomputable def L2 : List Code := dropL 1 L1
def v1 : V := (.t [(.g [(i 0), (i 1), (i 0), (i 0), (i 0), ns, (.sg 30689 0 1 1), ns, ns]), (i 0)])
noncomputable def s1 : St := t2
end Go.Proofs.YtiifofhigjoegaaGreatDoor.rCrewKnown5

/-
  PLAIN: the Go function (*lintel/disk.Disk).Plan, called in one state of a run: run in pieces by the evaluator, which is sound.
-/
import Derived.Test.YtiifofhigjoegaaGreatDoorChecked
import Derived.Test.YtiifofhigjoegaaGreatDoorPrCrewKnown1
namespace Go.Proofs.YtiifofhigjoegaaGreatDoor.rCrewKnown2
open Go.RowKit Ev
open cCrewKnown
open rCrewKnown0 (namesOk mixes)
noncomputable def F0 : CallF := rCrewKnown1.F
theorem hF0 : CallSound Tryz.prog F0 ∧ HasBody Tryz.prog F0 := rCrewKnown1.hF
noncomputable def G : CodeF := evH Tryz.prog F0 100000
theorem hG : CodeSound Tryz.prog G := evH_sound namesOk mixes hF0 100000
noncomputable def B0 : Code := bd Tryz.f45
theorem body : (Tryz.f45).body = some B0 := by kernel_rfl
def args : List V := [(.p 4648 0), (i 0), (.g [(i 1), (.s [47, 97]), (.s []), (i 0), (i 0), ns])]
noncomputable def s0 : St := ⟨4666, q285⟩
noncomputable def e0 : Env := sets args 0 .lf
noncomputable def S0 : List Fr := []
noncomputable def L0 : List Code := flat B0
noncomputable def n0 : Nat := (Tryz.f45).ntmps
noncomputable def e1 : Env := (.nd (.nd q286 (some (i 0)) (.nd q287 (some (.p 4666 0)) q73)) (some (.p 4648 0)) (.nd q286 (some (.g [(i 1), (.s [47, 97]), (.s []), (i 0), (i 0), ns])) (.nd q2 (some (.p 4667 0)) .lf)))
noncomputable def t1 : St := ⟨4668, (.nd (.nd (.nd (.nd q280 none q23) none (.nd q25 none (.nd q29 none (.nd q16 none (.nd (.nd (.nd (.nd .lf none q288) none q7) none q7) none q11))))) none q40) none (.nd (.nd q283 none q43) none (.nd (.nd q18 none (.nd q47 none (.nd q12 none (.nd (.nd (.nd (.nd q7 none (.nd (.nd (l1 (.cs 31 6 (.nd (.nd q2 (some (.s [47, 97])) q4) (some (i 1)) q289))) none .lf) none .lf)) (some q6) .lf) none q9) none q13)))) none q49)))⟩
noncomputable def S1 : List Fr := S0
noncomputable def n1 : Nat := n0
noncomputable def L1 : List Code := dropL 4 L0
noncomputable def e2 : Env := (.nd (.nd (.nd (.nd .lf (some (i 0)) q277) none q290) (some (i 0)) (.nd (.nd q287 (some (.p 4648 0)) .lf) (some (.p 4666 0)) q291)) (some (.p 4648 0)) (.nd (.nd q292 none (.nd q88 (some (i 0)) .lf)) (some (.g [(i 1), (.s [47, 97]), (.s []), (i 0), (i 0), ns])) (.nd q292 (some (.p 4667 0)) (.nd q117 none .lf))))
noncomputable def t2 : St := ⟨20200, (.nd (.nd (.nd q295 none (.nd q25 none (.nd q29 none (.nd q16 none (.nd (.nd (.nd (.nd .lf none (.nd (.nd q278 none .lf) none .lf)) none q7) none q7) none q11))))) none q40) none q284)⟩
noncomputable def S2 : List Fr := S1
noncomputable def n2 : Nat := n1
noncomputable def L2 : List Code := dropL 1 L1
def v1 : V := (.t [(.g [(i 0), (i 3), (i 0), (i 0), (i 0), ns, ns, (.sg 16071 0 8 2), (.sg 15479 0 6 2)]), (i 0)])
noncomputable def s1 : St := t2
end Go.Proofs.YtiifofhigjoegaaGreatDoor.rCrewKnown2

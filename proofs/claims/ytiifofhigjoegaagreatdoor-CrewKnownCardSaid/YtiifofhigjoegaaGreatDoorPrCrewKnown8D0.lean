/-
  PLAIN: the Go function (*lintel/disk.Disk).Plan, called in one state of a run: run in pieces by the evaluator, which is sound.
-/
import Derived.Test.YtiifofhigjoegaaGreatDoorChecked
import Derived.Test.YtiifofhigjoegaaGreatDoorPrCrewKnown7
namespace Go.Proofs.YtiifofhigjoegaaGreatDoor.rCrewKnown8
open Go.RowKit Ev
open cCrewKnown
open rCrewKnown0 (namesOk mixes)
noncomputable def F0 : CallF := rCrewKnown7.F
theorem hF0 : CallSound Tryz.prog F0 ∧ HasBody Tryz.prog F0 := rCrewKnown7.hF
noncomputable def G : CodeF := evH Tryz.prog F0 100000
theorem hG : CodeSound Tryz.prog G := evH_sound namesOk mixes hF0 100000
noncomputable def B0 : Code := bd Tryz.f45
theorem body : (Tryz.f45).body = some B0 := by kernel_rfl
def args : List V := [(.p 27237 0), (i 2), (.g [(i 12), (.s [47, 97]), (.s []), (i 0), (i 0), ns])]
noncomputable def s0 : St := ⟨30741, q418⟩
noncomputable def e0 : Env := sets args 0 .lf
noncomputable def S0 : List Fr := []
noncomputable def L0 : List Code := flat B0
noncomputable def n0 : Nat := (Tryz.f45).ntmps
noncomputable def e1 : Env := (.nd (.nd q286 (some (i 2)) (.nd q419 (some (.p 30741 0)) q73)) (some (.p 27237 0)) (.nd q286 (some (.g [(i 12), (.s [47, 97]), (.s []), (i 0), (i 0), ns])) (.nd q223 (some (.p 30742 0)) .lf)))
noncomputable def t1 : St := ⟨30743, (.nd (.nd q409 none (.nd q333 none (.nd (.nd q411 none (.nd (.nd (.nd (.nd (.nd (.nd (.nd .lf none (.nd .lf none (.nd .lf none (l1 (.cs 31 6 (.nd (.nd q2 (some (.s [47, 97])) q4) (some (i 12)) q289)))))) none .lf) none q298) none .lf) none q300) none q308) none q316)) none q322))) none (.nd q347 none (.nd q350 none (.nd (.nd q317 none (.nd (.nd (.nd (.nd (.nd (.nd (.nd .lf none q396) none q297) none .lf) none .lf) none q305) none q311) none q319)) none q416))))⟩
noncomputable def S1 : List Fr := S0
noncomputable def n1 : Nat := n0
noncomputable def L1 : List Code := dropL 4 L0
noncomputable def e2 : Env := (.nd (.nd (.nd (.nd .lf (some (i 0)) q446) none q420) (some (i 2)) (.nd q421 (some (.p 30741 0)) (.nd q223 (some ff) .lf))) (some (.p 27237 0)) (.nd (.nd (.nd q419 (some (i 0)) .lf) none (.nd q423 (some (i 0)) .lf)) (some (.g [(i 12), (.s [47, 97]), (.s []), (i 0), (i 0), ns])) (.nd (.nd q419 (some (i 2)) .lf) (some (.p 30742 0)) (.nd q435 none .lf))))
noncomputable def t2 : St := ⟨34158, (.nd q413 none (.nd q347 none (.nd q350 none (.nd (.nd q317 none (.nd (.nd (.nd (.nd (.nd (.nd (.nd .lf none (.nd .lf none (.nd .lf none q447))) none q297) none .lf) none .lf) none q305) none q311) none q319)) none q416))))⟩
noncomputable def S2 : List Fr := S1
noncomputable def n2 : Nat := n1
noncomputable def L2 : List Code := dropL 1 L1
def v1 : V := (.t [(.g [(i 2), (i 0), (i 0), (i 0), (i 0), ns, ns, ns, ns]), (i 0)])
noncomputable def s1 : St := t2
end Go.Proofs.YtiifofhigjoegaaGreatDoor.rCrewKnown8

/-
  PLAIN: the Go function lintel/deed.Of, called in one state of a run: run in pieces by the evaluator, which is sound.
-/
import Derived.Test.YtiifofhigjoegaaGreatDoorChecked
import Derived.Test.YtiifofhigjoegaaGreatDoorPrCrewKnown6
namespace Go.Proofs.YtiifofhigjoegaaGreatDoor.rCrewKnown7
open Go.RowKit Ev
open cCrewKnown
open rCrewKnown0 (namesOk mixes)
noncomputable def F0 : CallF := rCrewKnown6.F
theorem hF0 : CallSound Tryz.prog F0 ∧ HasBody Tryz.prog F0 := rCrewKnown6.hF
noncomputable def G : CodeF := evH Tryz.prog F0 100000
theorem hG : CodeSound Tryz.prog G := evH_sound namesOk mixes hF0 100000
noncomputable def B0 : Code := bd Tryz.f78
theorem body : (Tryz.f78).body = some B0 := by kernel_rfl
def args : List V := [(.sl 30743 0 2400 2400), (i 2), (.g [(i 12), (.s [47, 97]), (.s []), (i 0), (i 0), ns])]
noncomputable def s0 : St := ⟨33144, (.nd (.nd (.nd (.nd .lf none q431) none .lf) none .lf) none .lf)⟩
noncomputable def e0 : Env := sets args 0 .lf
noncomputable def S0 : List Fr := []
noncomputable def L0 : List Code := flat B0
noncomputable def n0 : Nat := (Tryz.f78).ntmps
noncomputable def e1 : Env := (.nd (.nd (.nd (.nd (.nd q432 none q73) (some (.p 33216 0)) q433) none q434) (some (i 2)) q436) (some (.sl 30743 0 2400 2400)) (.nd (.nd (.nd (.nd q432 (some (.t [(.p 33216 0), (i 0)])) .lf) (some (i 0)) (.nd q432 none q223)) none q437) (some (.g [(i 12), (.s [47, 97]), (.s []), (i 0), (i 0), ns])) q439))
noncomputable def t1 : St := ⟨34158, (.nd (.nd q441 none (.nd (.nd .lf none (.nd .lf none (.nd q442 none (.nd .lf none (.nd (.nd .lf none (.nd (.nd (.nd (.nd q288 none .lf) none .lf) none .lf) none .lf)) none .lf))))) none q443)) none q445)⟩
noncomputable def S1 : List Fr := S0
noncomputable def n1 : Nat := n0
noncomputable def L1 : List Code := dropL 12 L0
noncomputable def S2 : List Fr := (navs3 1 e1 S1 L1).1
noncomputable def n2 : Nat := n1
noncomputable def L2 : List Code := (navs3 1 e1 S1 L1).2
noncomputable def e2 : Env := (.nd (.nd (.nd (.nd (.nd (.nd q438 (some (.p 33216 0)) .lf) none q73) (some (.p 33216 0)) q433) none q434) (some (i 2)) q436) (some (.sl 30743 0 2400 2400)) (.nd (.nd (.nd (.nd (.nd q446 (some (.p 33216 0)) .lf) (some (.t [(.p 33216 0), (i 0)])) .lf) (some (i 0)) (.nd q432 none q223)) none q437) (some (.g [(i 12), (.s [47, 97]), (.s []), (i 0), (i 0), ns])) q439))
noncomputable def t2 : St := ⟨34158, (.nd (.nd q441 none (.nd (.nd .lf none (.nd .lf none (.nd q442 none (.nd .lf none (.nd (.nd .lf none (.nd (.nd (.nd (.nd (.nd (.nd q447 none .lf) none .lf) none .lf) none .lf) none .lf) none .lf)) none .lf))))) none q443)) none q445)⟩
noncomputable def S3 : List Fr := S2
noncomputable def n3 : Nat := n2
noncomputable def L3 : List Code := dropL 1 L2
def v1 : V := (.g [(i 2), (i 0), (i 0), (i 0), (i 0), ns, ns, ns, ns])
noncomputable def s1 : St := t2
end Go.Proofs.YtiifofhigjoegaaGreatDoor.rCrewKnown7

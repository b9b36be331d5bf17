/-
  PLAIN: the Go function (*lintel/pmem.Mem).Words, called in one state of a run: run in pieces by the evaluator, which is sound.
-/
import Derived.Test.YtiifofhigjoegaaGreatDoorChecked
import Derived.Test.YtiifofhigjoegaaGreatDoorPrCrewKnownC0
namespace Go.Proofs.YtiifofhigjoegaaGreatDoor.rCrewKnown0
open Go.RowKit Ev
open cCrewKnown
theorem namesOk : Ev.namesOk Tryz.prog = true := by kernel_rfl
theorem mixes : Tryz.prog.follows .mixedOrders = true := by kernel_rfl
noncomputable def F0 : CallF := callOf Tryz.prog (evQ Tryz.prog 100000)
theorem hF0 : CallSound Tryz.prog F0 ∧ HasBody Tryz.prog F0 := base_sound namesOk mixes 100000
noncomputable def G : CodeF := evQ Tryz.prog 100000
theorem hG : CodeSound Tryz.prog G := evQ_sound namesOk mixes 100000
noncomputable def B0 : Code := bd Tryz.f36
theorem body : (Tryz.f36).body = some B0 := by kernel_rfl
def args : List V := [(.p 295 0)]
noncomputable def s0 : St := ⟨4668, q52⟩
noncomputable def e0 : Env := sets args 0 .lf
noncomputable def S0 : List Fr := []
noncomputable def L0 : List Code := flat B0
noncomputable def n0 : Nat := (Tryz.f36).ntmps
noncomputable def e1 : Env := (.nd (.nd (.nd q54 (some (.sl 4668 0 0 2400)) q55) none (.nd q56 none (l1 (.sl 4668 0 0 2400)))) (some (.p 295 0)) q59)
noncomputable def t1 : St := ⟨4669, (.nd q41 none (.nd (.nd q42 none (.nd q31 none (.nd q17 none (.nd q14 none (.nd (.nd (.nd (.nd .lf (some q6) (.nd (.nd q69 none .lf) none .lf)) none .lf) none q8) none q15))))) none q50))⟩
noncomputable def S1 : List Fr := S0
noncomputable def n1 : Nat := n0
noncomputable def L1 : List Code := dropL 3 L0
noncomputable def S2 : List Fr := (navs3 2 e1 S1 L1).1
noncomputable def n2 : Nat := n1
noncomputable def L2 : List Code := (navs3 2 e1 S1 L1).2
noncomputable def e2 : Env := (.nd (.nd (.nd (.nd (.nd (l1 (.sl 4668 0 1400 2400)) (some (.p 295 0)) .lf) (some (.p 295 0)) q70) (some (.sl 4668 0 1400 2400)) q71) none (.nd q72 (some (.p 818 0)) (.nd (l1 (.p 1195 174)) (some (.sl 4668 0 0 2400)) zl))) (some (.p 295 0)) (.nd q77 (some ns) (.nd (.nd q57 (some (.sg 1195 0 300 1)) (l1 (.sl 4668 0 1399 2400))) (some (i 7)) (.nd q27 (some (.p 295 0)) (l1 (.sl 6068 0 1 1))))))
noncomputable def t2 : St := ⟨6069, (.nd q41 none (.nd (.nd q42 none (.nd (.nd q24 none (.nd q12 none (.nd (.nd q10 none (.nd q7 none (.nd .lf none (.nd .lf none q78)))) none q13))) none (.nd q17 none (.nd q14 none (.nd (.nd (.nd (.nd .lf (some q6) (.nd q87 none .lf)) none .lf) none q8) none q15))))) none q50))⟩
noncomputable def S3 : List Fr := S2
noncomputable def n3 : Nat := n2
noncomputable def L3 : List Code := L2
noncomputable def e3 : Env := (.nd q90 (some (.p 295 0)) (.nd q77 (some ns) q92))
noncomputable def t3 : St := ⟨7069, q106⟩
noncomputable def S4 : List Fr := S3
noncomputable def n4 : Nat := n3
noncomputable def L4 : List Code := L3
noncomputable def S5 : List Fr := (navs3 1 e3 S4 L4).1
noncomputable def n5 : Nat := n4
noncomputable def L5 : List Code := (navs3 1 e3 S4 L4).2
noncomputable def e4 : Env := (.nd q90 (some (.p 295 0)) (.nd q108 (some ns) q92))
noncomputable def t4 : St := ⟨7069, q106⟩
noncomputable def S6 : List Fr := S5
noncomputable def n6 : Nat := n5
noncomputable def L6 : List Code := dropL 1 L5
noncomputable def S7 : List Fr := (navs3 3 e4 S6 L6).1
noncomputable def n7 : Nat := n6
noncomputable def L7 : List Code := (navs3 3 e4 S6 L6).2
noncomputable def e5 : Env := (.nd q90 (some (.p 295 0)) (.nd q108 (some (.sl 4668 0 2400 2400)) (.nd (.nd (.nd q88 (some (i 300)) .lf) (some (.sg 1195 0 300 1)) (l1 (.sl 4668 0 2399 2400))) (some (i 7)) q91)))
noncomputable def t5 : St := ⟨7069, (.nd q41 none (.nd (.nd q42 none (.nd q31 none (.nd q17 none (.nd q14 none q105)))) none q50))⟩
noncomputable def S8 : List Fr := S7
noncomputable def n8 : Nat := n7
noncomputable def L8 : List Code := dropL 1 L7
def v1 : V := (.sl 4668 0 2400 2400)
noncomputable def s1 : St := t5
end Go.Proofs.YtiifofhigjoegaaGreatDoor.rCrewKnown0

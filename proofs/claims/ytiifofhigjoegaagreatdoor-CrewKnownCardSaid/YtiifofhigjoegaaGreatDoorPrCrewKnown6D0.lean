/-
  PLAIN: the Go function (*lintel/pmem.Mem).Words, called in one state of a run: run in pieces by the evaluator, which is sound.
-/
import Derived.Test.YtiifofhigjoegaaGreatDoorChecked
import Derived.Test.YtiifofhigjoegaaGreatDoorPrCrewKnown5
namespace Go.Proofs.YtiifofhigjoegaaGreatDoor.rCrewKnown6
open Go.RowKit Ev
open cCrewKnown
open rCrewKnown0 (namesOk mixes)
noncomputable def F0 : CallF := rCrewKnown5.F
theorem hF0 : CallSound Tryz.prog F0 ∧ HasBody Tryz.prog F0 := rCrewKnown5.hF
noncomputable def G : CodeF := evH Tryz.prog F0 100000
theorem hG : CodeSound Tryz.prog G := evH_sound namesOk mixes hF0 100000
noncomputable def B0 : Code := bd Tryz.f36
theorem body : (Tryz.f36).body = some B0 := by kernel_rfl
def args : List V := [(.p 20880 0)]
noncomputable def s0 : St := ⟨30743, q355⟩
noncomputable def e0 : Env := sets args 0 .lf
noncomputable def S0 : List Fr := []
noncomputable def L0 : List Code := flat B0
noncomputable def n0 : Nat := (Tryz.f36).ntmps
noncomputable def e1 : Env := (.nd (.nd (.nd q357 (some (.sl 30743 0 0 2400)) q55) none (.nd q358 none (l1 (.sl 30743 0 0 2400)))) (some (.p 20880 0)) q360)
noncomputable def t1 : St := ⟨30744, (.nd (.nd (.nd (.nd q318 none (.nd q320 none (.nd (.nd (.nd (.nd (.nd (.nd (.nd .lf none (.nd .lf none (.nd .lf none q69))) none .lf) none .lf) none q299) none q310) none q306) none q312))) none q326) none q336) none q354)⟩
noncomputable def S1 : List Fr := S0
noncomputable def n1 : Nat := n0
noncomputable def L1 : List Code := dropL 3 L0
noncomputable def S2 : List Fr := (navs3 2 e1 S1 L1).1
noncomputable def n2 : Nat := n1
noncomputable def L2 : List Code := (navs3 2 e1 S1 L1).2
noncomputable def e2 : Env := (.nd (.nd (.nd (.nd (.nd (l1 (.sl 30743 0 1400 2400)) (some (.p 20880 0)) .lf) (some (.p 20880 0)) q70) (some (.sl 30743 0 1400 2400)) q361) none (.nd q362 (some (.p 21403 0)) (.nd (l1 (.p 21780 174)) (some (.sl 30743 0 0 2400)) zl))) (some (.p 20880 0)) (.nd q364 (some ns) (.nd (.nd q57 (some (.sg 21780 0 300 1)) (l1 (.sl 30743 0 1399 2400))) (some (i 7)) (.nd q343 (some (.p 20880 0)) (l1 (.sl 32143 0 1 1))))))
noncomputable def t2 : St := ⟨32144, (.nd (.nd (.nd (.nd (.nd q313 none (.nd (.nd (.nd q314 none (.nd .lf none (.nd (.nd .lf none (.nd .lf none q365)) none q298))) none q308) none q316)) none (.nd q320 none (.nd (.nd (.nd (.nd (.nd (.nd (.nd .lf none (.nd .lf none (.nd .lf none q374))) none .lf) none .lf) none q299) none q310) none q306) none q312))) none q326) none q336) none q354)⟩
noncomputable def S3 : List Fr := S2
noncomputable def n3 : Nat := n2
noncomputable def L3 : List Code := L2
noncomputable def e3 : Env := (.nd q424 (some (.p 20880 0)) (.nd q364 (some ns) q426))
noncomputable def t3 : St := ⟨33144, q430⟩
noncomputable def S4 : List Fr := S3
noncomputable def n4 : Nat := n3
noncomputable def L4 : List Code := L3
noncomputable def S5 : List Fr := (navs3 1 e3 S4 L4).1
noncomputable def n5 : Nat := n4
noncomputable def L5 : List Code := (navs3 1 e3 S4 L4).2
noncomputable def e4 : Env := (.nd q424 (some (.p 20880 0)) (.nd q385 (some ns) q426))
noncomputable def t4 : St := ⟨33144, q430⟩
noncomputable def S6 : List Fr := S5
noncomputable def n6 : Nat := n5
noncomputable def L6 : List Code := dropL 1 L5
noncomputable def S7 : List Fr := (navs3 3 e4 S6 L6).1
noncomputable def n7 : Nat := n6
noncomputable def L7 : List Code := (navs3 3 e4 S6 L6).2
noncomputable def e5 : Env := (.nd q424 (some (.p 20880 0)) (.nd q385 (some (.sl 30743 0 2400 2400)) (.nd (.nd (.nd q423 (some (i 300)) .lf) (some (.sg 21780 0 300 1)) (l1 (.sl 30743 0 2399 2400))) (some (i 7)) q425)))
noncomputable def t5 : St := ⟨33144, (.nd (.nd (.nd (.nd q318 none (.nd q320 none (.nd q428 none q312))) none q326) none q336) none q354)⟩
noncomputable def S8 : List Fr := S7
noncomputable def n8 : Nat := n7
noncomputable def L8 : List Code := dropL 1 L7
def v1 : V := (.sl 30743 0 2400 2400)
noncomputable def s1 : St := t5
end Go.Proofs.YtiifofhigjoegaaGreatDoor.rCrewKnown6

/-
  PLAIN: the Go function lintel/lintellaw19.awake, called in one state of a run: run in pieces by the evaluator, which is sound.
-/
import Derived.Test.YtlonobfpogimgaaGreatDoorChecked
import Derived.Test.YtlonobfpogimgaaGreatDoorPrCkAwC0
namespace Go.Proofs.YtlonobfpogimgaaGreatDoor.rCkAw0
open Go.RowKit Ev
open cCkAw
theorem namesOk : Ev.namesOk Tryz.prog = true := by kernel_rfl
theorem mixes : Tryz.prog.follows .mixedOrders = true := by kernel_rfl
noncomputable def F0 : CallF := callOf Tryz.prog (evQ Tryz.prog 100000)
theorem hF0 : CallSound Tryz.prog F0 ∧ HasBody Tryz.prog F0 := base_sound namesOk mixes 100000
noncomputable def G : CodeF := evQ Tryz.prog 100000
theorem hG : CodeSound Tryz.prog G := evQ_sound namesOk mixes 100000
noncomputable def B0 : Code := bd Tryz.f4
theorem body : (Tryz.f4).body = some B0 := by kernel_rfl
def args : List V := []
noncomputable def s0 : St := ⟨0, .lf⟩
noncomputable def e0 : Env := sets args 0 .lf
noncomputable def S0 : List Fr := []
noncomputable def L0 : List Code := flat B0
noncomputable def n0 : Nat := (Tryz.f4).ntmps
noncomputable def e1 : Env := (.nd (.nd (.nd q0 (some (.sl 299 0 1 1)) .lf) (some (.sl 11 0 512 512)) (.nd (l1 (.sl 299 0 1 1)) (some (.g [(i 64), (i 10), (i 1), (i 20)])) .lf)) (some ff) (.nd (.nd (l1 (i 0)) (some (.t [(.sl 11 0 512 512), (i 0)])) .lf) (some (i 0)) (l1 (.t [(.sl 11 0 512 512), (i 0)]))))
noncomputable def t1 : St := ⟨300, q5⟩
noncomputable def S1 : List Fr := S0
noncomputable def n1 : Nat := n0
noncomputable def L1 : List Code := dropL 3 L0
noncomputable def S2 : List Fr := (navs3 1 e1 S1 L1).1
noncomputable def n2 : Nat := n1
noncomputable def L2 : List Code := (navs3 1 e1 S1 L1).2
noncomputable def e2 : Env := (.nd (.nd (.nd (.nd (l1 (i 0)) (some (.sl 11 0 512 512)) .lf) (some (.sl 299 0 1 1)) (.nd q0 (some tt) .lf)) (some (.sl 11 0 512 512)) (.nd (.nd (l1 tt) (some (.sl 299 0 1 1)) .lf) (some (.g [(i 64), (i 10), (i 1), (i 20)])) q0)) (some ff) (.nd (.nd (.nd (l1 tt) (some (i 0)) .lf) (some (.t [(.sl 11 0 512 512), (i 0)])) (l1 tt)) (some (i 0)) (.nd (.nd (l1 tt) (some (i 0)) .lf) (some (.t [(.sl 11 0 512 512), (i 0)])) (l1 ns))))
noncomputable def t2 : St := ⟨2938, q5⟩
noncomputable def S3 : List Fr := opsS 10 S2
noncomputable def n3 : Nat := n2
noncomputable def L3 : List Code := []
noncomputable def e3 : Env := (.nd (.nd (.nd (.nd (l1 (i 0)) (some (.sl 11 0 512 512)) (l1 (.sl 299 0 1 1))) (some (.sl 299 0 1 1)) (.nd q0 (some tt) (l1 tt))) (some (.sl 11 0 512 512)) (.nd (.nd (l1 tt) (some (.sl 299 0 1 1)) (l1 (.sl 5576 0 1 1))) (some (.g [(i 64), (i 10), (i 1), (i 20)])) (.nd (l1 tt) (some (.sl 11 0 512 512)) .lf))) (some tt) (.nd (.nd (.nd (l1 tt) (some (i 0)) (l1 (.g [(i 0), (i 1), (i 0), (i 0)]))) (some (.t [(.sl 11 0 512 512), (i 0)])) (.nd (l1 tt) (some tt) .lf)) (some (i 0)) (.nd (.nd (l1 tt) (some (i 0)) (l1 tt)) (some (.t [(.sl 11 0 512 512), (i 0)])) (.nd (l1 tt) (some ns) .lf))))
noncomputable def t3 : St := ⟨5577, .lf⟩
noncomputable def S4 : List Fr := opsS 9 S3
noncomputable def n4 : Nat := n3
noncomputable def L4 : List Code := []
noncomputable def S5 : List Fr := (navs3 2 e3 S4 L4).1
noncomputable def n5 : Nat := n4
noncomputable def L5 : List Code := (navs3 2 e3 S4 L4).2
def v1 : V := tt
noncomputable def s1 : St := t3
end Go.Proofs.YtlonobfpogimgaaGreatDoor.rCkAw0

/-
  PLAIN: parts that the states of a run share.
-/
import Derived.Test.YtlonobfpogimgaaGreatDoorChecked
import Derived.Test.YtlonobfpogimgaaGreatDoorCn
namespace Go.Proofs.YtlonobfpogimgaaGreatDoor.cCkAw
open Go.RowKit Ev
def zl : T V := .nd .lf (some (u 0)) .lf
def z0 : Option V := some (u 0)
def l1 {α : Type} (x : α) : T α := .nd .lf (some x) .lf
noncomputable def q0 : T V := (l1 (.sl 11 0 512 512))
noncomputable def q1 : T V := (.nd zl z0 zl)
noncomputable def q2 : T V := (.nd q1 z0 q1)
noncomputable def q3 : T V := (.nd q2 z0 q2)
noncomputable def q4 : T V := (.nd q3 z0 q3)
noncomputable def q5 : T B := (.nd (.nd (.nd .lf none (.nd .lf (some (.cs 47 512 (.nd (.nd (.nd (.nd (.nd (.nd (.nd (.nd (.nd (l1 (u 14437194409388276641)) z0 .lf) z0 zl) z0 (.nd zl (some (u 17777384734422601776)) zl)) z0 q2) z0 q3) (some (u 14437194409388276641)) (.nd q3 z0 (.nd q2 z0 (.nd (.nd zl (some (u 17777035089724969104)) zl) z0 q1)))) (some (u 1)) (.nd q4 z0 (.nd q3 z0 (.nd q2 z0 (.nd q1 z0 (.nd zl z0 (l1 (u 1)))))))) (some (u 64)) (.nd (.nd q4 z0 (.nd q3 z0 (.nd q2 z0 (.nd (.nd zl (some (u 10)) zl) z0 (.nd zl z0 (l1 (u 64))))))) z0 (.nd q4 z0 q4))) (some (u 5497010944029229057)) (.nd (.nd (.nd (.nd q3 z0 (.nd q2 z0 (.nd (.nd zl (some (u 258)) zl) z0 q1))) z0 (.nd (.nd q2 z0 (.nd (.nd zl (some (u 9223376434901286911)) zl) z0 q1)) z0 (.nd q2 z0 (.nd (.nd zl (some (u 258)) zl) z0 (.nd zl z0 (l1 (u 5497010944029229057))))))) (some (u 20)) (.nd q4 z0 (.nd q3 z0 (.nd q2 z0 (.nd q1 z0 (.nd zl z0 (l1 (u 20)))))))) (some (u 10)) (.nd (.nd q4 z0 (.nd q3 z0 (.nd q2 z0 (.nd (.nd zl (some (u 42949672992)) zl) z0 (.nd zl z0 (l1 (u 10))))))) z0 (.nd q4 z0 q4)))))) (.nd (.nd .lf none (.nd (.nd (l1 (.cs 23 4 (.nd (.nd (l1 (i 0)) (some (i 1)) .lf) (some (i 0)) (l1 (i 0))))) none .lf) none .lf)) none .lf))) none .lf) none .lf)
end Go.Proofs.YtlonobfpogimgaaGreatDoor.cCkAw

/-
  PLAIN: Kx, TrX, ImK, in one text.
-/
import Derived.Test.YtcjddojcfdeflaaInsK
import Derived.Test.YtcjddojcfdeflaaInzNS
set_option linter.unusedSimpArgs false
set_option linter.unusedVariables false
namespace Go.Proofs.Ytcjddojcfdeflaa.Ev
open Go.RowKit
noncomputable def c_regionJ (F : CallF) (_ : Nat) (ops : Array Oper) (d : Bool) : CAlt := fun P _ cx e st => Bool.rec (motive := fun _ => CRes) (cr1 (evOpsQ P F cx ops.toList ops.toList e st)) (Bool.rec (motive := fun _ => CRes) none (cr1 (evDrawQ P F cx ops.toList ops.toList 0 [] e st)) (regOk ops.toList)) d
noncomputable def cTabJ (F : CallF) (c : Code) : CAlt := Code.casesOn (motive := fun _ => CAlt) c c_skip (c_regionJ F) c_seq c_cond c_block c_loop (fun _ _ _ _ => c_none) c_exit c_scope (fun _ => c_skip) (fun _ => c_none) c_ret (fun _ => c_none)
noncomputable def evJ (P : Program) (X : CallF → CallF) (n : Nat) : CodeF := nr (fun _ _ _ _ => none) (fun _ ih cx c e st => cTabJ (X (callOf P ih)) c P ih cx e st) n
section
variable {P : Program}
theorem cTabJ_eq (F : CallF) (ih : CodeF) (cx : Cx) (c : Code) (e : Env) (st : St) : cTabJ F c P ih cx e st = stepF P F ih cx c e st := by
  cases c with
  | region id ops d =>
    cases d with
    | false =>
      show cr1 (evOpsQ P F cx ops.toList ops.toList e st) = (match evOps P F cx ops.toList ops.toList e st with
        | none => none
        | some (e, st) => some (X.n, e, st))
      rw [evOpsQ_eq]
      cases evOps P F cx ops.toList ops.toList e st with
      | none => rfl
      | some p => obtain ⟨e, st⟩ := p; rfl
    | true =>
      show Bool.rec (motive := fun _ => CRes) none (cr1 (evDrawQ P F cx ops.toList ops.toList 0 [] e st)) (regOk ops.toList) = (match regOk ops.toList with
        | true => (match evDraw P F cx ops.toList ops.toList 0 [] e st with
          | none => none
          | some (e, st) => some (X.n, e, st))
        | false => none)
      rw [evDrawQ_eq]
      cases regOk ops.toList with
      | false => rfl
      | true => cases evDraw P F cx ops.toList ops.toList 0 [] e st with
        | none => rfl
        | some p => obtain ⟨e, st⟩ := p; rfl
  | cond x a b => exact qd_eq _ _
  | _ => rfl
theorem evJ_eq (X : CallF → CallF) : ∀ n, evJ P X n = evX P X n
  | 0 => rfl
  | n + 1 => by
    have ih := evJ_eq X n
    funext cx c e st
    have h1 : evJ P X (n + 1) cx c e st = cTabJ (X (callOf P (evJ P X n))) c P (evJ P X n) cx e st := rfl
    rw [h1, ih, cTabJ_eq, evX_succ]
noncomputable def yesJ (P : Program) (X : CallF → CallF) (fuel f : Nat) (args : List V) : Bool := match callOf P (evJ P X fuel) ⟨false, [], 0, 0⟩ f args ⟨0, .lf⟩ with
  | some (.c (.bool true), _) => true
  | _ => false
theorem yesJ_ok (hn : namesOk P = true) (hm : P.follows .mixedOrders = true) {X : CallF → CallF} (hX : XOk P X) {fuel f : Nat} {args : List V} {vs : List Value} (hr : RelL (fun _ => none) args vs) (h : yesJ P X fuel f args = true) (w : World) (hk : Kept w.heap.size w := by first | assumption | exact fun _ h => absurd h List.not_mem_nil) : Calls P f ⟨vs⟩ w fun e w' => e = .returned (.bool true) ∧ Below w.heap.size w w' := by
  have hcs := callOf_sound (evX_ok hn hm hX fuel).1
  unfold yesJ at h
  rw [evJ_eq] at h
  split at h
  · rename_i st' hr'
    exact law_calls hcs (Begin.zero w) hr ⟨_, hr', rfl⟩
  · cases h
end
end Go.Proofs.Ytcjddojcfdeflaa.Ev
namespace Go.Proofs.Ytcjddojcfdeflaa
open Go.RowKit Ev
theorem namesOkT : Ev.namesOk Try.prog = true := by kernel_rfl
theorem mixesT : Try.prog.follows .mixedOrders = true := by kernel_rfl
end Go.Proofs.Ytcjddojcfdeflaa
namespace Go.Proofs.Ytcjddojcfdeflaa
open Go.RowKit Ev
end Go.Proofs.Ytcjddojcfdeflaa

/-
  PLAIN: the evaluator's plain regions are the model's.
-/
import Derived.Test.YtenncnbaoejekaaEvO
namespace Go.Proofs.Ytenncnbaoejekaa.Ev
open Go.RowKit

section
variable {P : Program} {c : Cx} {st st' : St} {e e' : Env} {o : Oper}
/-- a slot's value in what is to come -/
noncomputable def putE (e : Env) (d : Option Nat) (v : V) : Env := match d with | none => e | some t => e.set t v
theorem putK_inv {β : Type} {q : β} {d : Option Nat} {v : V} {k : Env → Option β} (h : putK c e d v k = some q) :
    (∀ t, d = some t → t < c.nt) ∧ k (putE e d v) = some q := by
  cases d with
  | none => exact ⟨(fun _ h => by cases h), h⟩
  | some t =>
    simp only [putK] at h
    split at h
    · rename_i hlt
      rw [T.setK_eq] at h
      exact ⟨fun u hu => by injection hu with hu; subst hu; simpa [Nat.blt_eq] using hlt, h⟩
    · cases h
theorem put_tmps (a : Act) (d : Option Nat) (x : Value) (t : Nat) (hd : ∀ u, d = some u → u < a.tmps.size) : (a.put d x).tmps.getD t undef = if d = some t then x else a.tmps.getD t undef := by
  cases d with
  | none => simp [Act.put]
  | some u =>
    have hu := hd u rfl
    simp only [Act.put, Option.some.injEq]
    by_cases h : u = t
    · subst h
      rw [if_pos rfl]
      simp [Array.getD, hu]
    · rw [if_neg h]
      simp only [Array.getD_eq_getD_getElem?]
      rw [Array.getElem?_setIfInBounds_ne h]
theorem put_size (a : Act) (d : Option Nat) (x : Value) : (a.put d x).tmps.size = a.tmps.size := by
  cases d <;> simp [Act.put]
theorem put_defers (a : Act) (d : Option Nat) (x : Value) : (a.put d x).defers = a.defers := by
  cases d <;> rfl
theorem putE_get (e : Env) (d : Option Nat) (v : V) (t : Nat) : ((putE e d v).get t).getD .u = if d = some t then v else (e.get t).getD .u := by
  cases d with
  | none => simp [putE]
  | some u =>
    simp only [putE, Option.some.injEq, T.get_set]
    by_cases h : u = t
    · simp [h]
    · simp [h]
theorem EnvRel.put {ρ : Rho} {a : Act} {d : Option Nat} {v : V} {x : Value} (h : EnvRel ρ e a) (hv : Rel ρ v x) (hd : ∀ u, d = some u → u < a.tmps.size) : EnvRel ρ (putE e d v) (a.put d x) := fun t => by
  rw [putE_get, put_tmps _ _ _ _ hd]
  split
  · exact hv
  · exact h t
theorem EnvRel.mono {ρ ρ' : Rho} {a : Act} (h : EnvRel ρ e a) (hρ : ρ.le ρ') : EnvRel ρ' e a := fun t => (h t).mono hρ
theorem EnvRel.tmp {ρ : Rho} {a : Act} (h : EnvRel ρ e a) (x : Operand) : TmpRel ρ e a x := fun t _ => h t
def boolV : Option Value → Option Bool
  | some (.bool b) => some b
  | _ => none
def boolE : Option V → Option Bool
  | some (.c (.bool b)) => some b
  | _ => none
theorem bool_rel {ρ : Rho} {x : Option V} {y : Option Value} (h : Rel ρ (x.getD .u) (y.getD undef)) : boolV y = boolE x := by
  cases x with
  | none => cases y with
    | none => rfl
    | some y =>
      simp only [Option.getD_none, Option.getD_some, Rel] at h
      obtain ⟨l, h, _⟩ := h
      subst h; rfl
  | some u => cases y with
    | none =>
      cases u with
      | c w =>
        simp only [Option.getD_none, Option.getD_some, Rel] at h
        obtain ⟨h, _⟩ := h
        subst h; rfl
      | _ => rfl
    | some y =>
      simp only [Option.getD_some] at h
      cases u with
      | c w =>
        simp only [Rel] at h
        obtain ⟨h, _⟩ := h
        subst h
        cases y <;> rfl
      | s l => simp only [Rel] at h; obtain ⟨h, _⟩ := h; subst h; rfl
      | p n o => simp only [Rel] at h; obtain ⟨_, _, h⟩ := h; subst h; rfl
      | sl n o l q => simp only [Rel] at h; obtain ⟨_, _, h⟩ := h; subst h; rfl
      | sg n o l q => simp only [Rel] at h; obtain ⟨_, _, _, _, h⟩ := h; subst h; rfl
      | e => simp only [Rel] at h; obtain ⟨_, _, h⟩ := h; subst h; rfl
      | m n => simp only [Rel] at h; obtain ⟨_, _, h⟩ := h; subst h; rfl
      | f a b d => simp only [Rel] at h; obtain ⟨_, _, h, _⟩ := h; subst h; rfl
      | g l => simp only [Rel] at h; obtain ⟨_, h, _⟩ := h; subst h; rfl
      | t l => simp only [Rel] at h; obtain ⟨_, h, _⟩ := h; subst h; rfl
/-- is it wanted? -/
theorem wants_eq {ρ : Rho} {a : Act} {ops : Array Oper} (h : ∀ j w oj t, o.guard = some (j, w) → ops[j]? = some oj → oj.dst = some t → Rel ρ ((e.get t).getD .u) (a.tmps.getD t undef)) :
    Region.wanted o (yielded ops a.tmps) = wants e ops.toList o := by
  unfold wants Region.wanted
  cases hg : o.guard with
  | none => rfl
  | some jw =>
    obtain ⟨j, w⟩ := jw
    simp only [lget_eq, Array.getElem?_toList]
    cases hj : ops[j]? with
    | none => simp [yielded, hj]
    | some oj =>
      cases hd : oj.dst with
      | none => simp [yielded, hj, hd]
      | some t =>
        have hr := h j w oj t hg hj hd
        have hy : yielded ops a.tmps j = boolV (a.tmps[t]?) := by
          simp only [yielded, hj, hd, Option.bind_some]
          rfl
        have hget : a.tmps.getD t undef = (a.tmps[t]?).getD undef := Array.getD_eq_getD_getElem? ..
        rw [hget] at hr
        rw [hy, bool_rel hr]
        simp only [hd]
        cases he : e.get t with
        | none => rfl
        | some u =>
          cases u with
          | c val =>
            cases val with
            | bool b => cases b <;> cases w <;> rfl
            | _ => rfl
          | _ => rfl
/-- the loop's, the block's, the body's way on -/
def Cont (c : Cx) (st st' : St) (e' : Env) (B0 : Nat) (ρ : Rho) (τ : Mem) (w : World) (a : Act) (K : Act → World → Prop) : Prop :=
  ∀ (ρ' : Rho) (a' : Act) (w' : World), ρ.le ρ' → Dom ρ ρ' st st' → EnvRel ρ' e' a' → c.nt ≤ a'.tmps.size → a'.defers = a.defers → Real ρ' B0 (ov st st' τ) w' → Below B0 w w' → K a' w'
theorem evOps_ok {call : CallF} (hs : CallSound P call) (hn : Named P) (hb : ∀ c f args st r, call c f args st = some r → ∃ fn b, P.funcs[f]? = some fn ∧ fn.body = some b) {ops : Array Oper} :
    ∀ {l : List Oper} {e : Env} {st : St}, evOps P call c ops.toList l e st = some (e', st') → Wf st → StepOk c st st' ∧
      ∀ (B0 : Nat) (ρ : Rho) (τ : Mem) (w : World) (a : Act), EnvRel ρ e a → c.nt ≤ a.tmps.size → Agree c st τ → Real ρ B0 τ w → Fresh ρ st st' → ∀ Q : Exit → Act → World → Prop, Cont c st st' e' B0 ρ τ w a (Q .normal) → wpList P ops Q l a w
  | [], e, st, h, _ => by
    have h' : (some (e, st) : Option (Env × St)) = some (e', st') := h
    injection h' with h'; injection h' with h1 h2; subst h1 h2
    exact ⟨.refl _ _, fun B0 ρ τ w a he ht hag hre _ Q hQ => hQ ρ a w (Rho.le_refl _) (Dom.refl _ _ _) he ht rfl (by rw [ov_self]; exact hre) (Below.refl _ _)⟩
  | o :: l, e, st, h, hwf => by
    have h' : (match wants e ops.toList o with
      | true => match evOp P call c e st o with
        | none => none
        | some (v, st) => putK c e o.dst v fun e => evOps P call c ops.toList l e st
      | false => putK c e o.dst .u fun e => evOps P call c ops.toList l e st) = some (e', st') := h
    split at h'
    · rename_i hw
      split at h'
      · cases h'
      · rename_i v st1 hop
        obtain ⟨hd, h2⟩ := putK_inv h'
        obtain ⟨s1, k1⟩ := evOp_ok hs hn hb hwf hop
        obtain ⟨s2, k2⟩ := evOps_ok hs hn hb h2 (s1.wf hwf)
        refine ⟨s1.trans s2, fun B0 ρ τ w a he ht hag hre hf Q hQ => ?_⟩
        simp only [wpList]
        rw [wants_eq (ρ := ρ) (e := e) fun j w oj t _ _ _ => he t, hw, if_pos rfl]
        refine .inl (k1 B0 ρ τ w a (fun x _ => he.tmp x) hag hre (hf.left s2.le) _ _ fun ρ1 v1 w1 l1 d1 r1 m1 b1 => ?_)
        refine k2 B0 ρ1 _ w1 _ ((he.mono l1).put r1 fun u hu => Nat.lt_of_lt_of_le (hd u hu) ht) (by rw [put_size]; exact ht) (hag.step s1 hwf) m1 (hf.right s1.le d1) Q ?_
        intro ρ2 a2 w2 l2 d2 he2 ht2 hd2 m2 b2
        exact hQ ρ2 a2 w2 (l1.trans l2) (d1.trans d2 s1.le s2.le) he2 ht2 (hd2.trans (put_defers _ _ _)) (by rw [ov_trans s1 s2 hwf hag] at m2; exact m2) (b1.trans b2)
    · rename_i hw
      obtain ⟨hd, h2⟩ := putK_inv h'
      obtain ⟨s2, k2⟩ := evOps_ok hs hn hb h2 hwf
      refine ⟨s2, fun B0 ρ τ w a he ht hag hre hf Q hQ => ?_⟩
      simp only [wpList]
      rw [wants_eq (ρ := ρ) (e := e) fun j w oj t _ _ _ => he t, hw, if_neg (by simp)]
      refine k2 B0 ρ τ w _ (he.put rel_u fun u hu => Nat.lt_of_lt_of_le (hd u hu) ht) (by rw [put_size]; exact ht) hag hre hf Q ?_
      intro ρ2 a2 w2 l2 d2 he2 ht2 hd2 m2 b2
      exact hQ ρ2 a2 w2 l2 d2 he2 ht2 (hd2.trans (put_defers _ _ _)) m2 b2
end
end Go.Proofs.Ytenncnbaoejekaa.Ev

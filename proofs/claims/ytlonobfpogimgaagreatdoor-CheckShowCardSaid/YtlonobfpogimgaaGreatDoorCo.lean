/-
  PLAIN: a call that has been run by pieces answers itself wherever it is met in the same state.
-/
import Derived.Test.YtlonobfpogimgaaGreatDoorCm
namespace Go.Proofs.YtlonobfpogimgaaGreatDoor.Ev
open Go.RowKit

/-! ### alike -/
noncomputable def qVal (x y : Value) : Bool := match x, y with
  | .int k a, .int k' b => (match eqKd k k' with | true => eqI a b | false => false)
  | .bool true, .bool true => true
  | .bool false, .bool false => true
  | .pointer none, .pointer none => true
  | .slice none 0 0, .slice none 0 0 => true
  | .map none, .map none => true
  | .nilFunc, .nilFunc => true
  | .nilIface, .nilIface => true
  | _, _ => false
noncomputable def and2 (a b : Bool) : Bool := match a with | true => b | false => false
theorem and2_ok {a b : Bool} (h : and2 a b = true) : a = true ∧ b = true := by
  cases a with
  | true => exact ⟨rfl, h⟩
  | false => cases h
noncomputable def qNs (a : List Nat) : List Nat → Bool := lr (fun b => match b with | [] => true | _ => false) (fun x _ ih b => match b with | [] => false | y :: b => and2 (Nat.beq x y) (ih b)) a
noncomputable def qFn (x y : Fn) : Bool := match x, y with
  | .func a, .func b => Nat.beq a b
  | _, _ => false
noncomputable def qV (x : V) : V → Bool := V.rec (motive_1 := fun _ => V → Bool) (motive_2 := fun _ => List V → Bool)
  (fun v y => match y with | .c v' => qVal v v' | _ => false)
  (fun l y => match y with | .s l' => qNs l l' | _ => false)
  (fun n o y => match y with | .p n' o' => and2 (Nat.beq n n') (Nat.beq o o') | _ => false)
  (fun n o l c y => match y with | .sl n' o' l' c' => and2 (and2 (Nat.beq n n') (Nat.beq o o')) (and2 (Nat.beq l l') (Nat.beq c c')) | _ => false)
  (fun n o l c y => match y with | .sg n' o' l' c' => and2 (and2 (Nat.beq n n') (Nat.beq o o')) (and2 (Nat.beq l l') (Nat.beq c c')) | _ => false)
  (fun y => match y with | .e => true | _ => false)
  (fun n y => match y with | .m n' => Nat.beq n n' | _ => false)
  (fun f _ _ iha ihb y => match y with | .f f' a' b' => and2 (qFn f f') (and2 (iha a') (ihb b')) | _ => false)
  (fun _ ih y => match y with | .g l' => ih l' | _ => false)
  (fun _ ih y => match y with | .t l' => ih l' | _ => false)
  (fun l => match l with | [] => true | _ => false)
  (fun _ _ iha ih l => match l with | [] => false | b :: l => and2 (iha b) (ih l)) x
noncomputable def qVs (a : List V) : List V → Bool := lr (fun b => match b with | [] => true | _ => false) (fun x _ ih b => match b with | [] => false | y :: b => and2 (qV x y) (ih b)) a
theorem qVal_ok {x y : Value} (h : qVal x y = true) : x = y := by
  unfold qVal at h
  split at h
  · split at h
    · rename_i hk
      rw [eqI_eq] at h
      have h' := eq_of_beq h
      rw [eqKd_eq hk, h']
    · cases h
  all_goals first | rfl | cases h
theorem qNs_ok : ∀ {a b : List Nat}, qNs a b = true → a = b
  | [], [], _ => rfl
  | [], _ :: _, h => by cases h
  | _ :: _, [], h => by cases h
  | x :: a, y :: b, h => by
    obtain ⟨h1, h2⟩ := and2_ok (show and2 (Nat.beq x y) (qNs a b) = true from h)
    rw [Nat.eq_of_beq_eq_true h1, qNs_ok h2]
theorem qFn_ok {x y : Fn} (h : qFn x y = true) : x = y := by
  unfold qFn at h
  split at h
  · rw [Nat.eq_of_beq_eq_true h]
  · cases h
mutual
theorem qV_ok : ∀ (x y : V), qV x y = true → x = y
  | .c v, y, h => by
    cases y <;> first | exact congrArg V.c (qVal_ok h) | cases h
  | .s l, y, h => by
    cases y <;> first | exact congrArg V.s (qNs_ok h) | cases h
  | .p n o, y, h => by
    cases y with
    | p n' o' =>
      obtain ⟨h1, h2⟩ := and2_ok (show and2 (Nat.beq n n') (Nat.beq o o') = true from h)
      rw [Nat.eq_of_beq_eq_true h1, Nat.eq_of_beq_eq_true h2]
    | _ => cases h
  | .sl n o l c, y, h => by
    cases y with
    | sl n' o' l' c' =>
      obtain ⟨h1, h2⟩ := and2_ok (show and2 (and2 (Nat.beq n n') (Nat.beq o o')) (and2 (Nat.beq l l') (Nat.beq c c')) = true from h)
      obtain ⟨h3, h4⟩ := and2_ok h1
      obtain ⟨h5, h6⟩ := and2_ok h2
      rw [Nat.eq_of_beq_eq_true h3, Nat.eq_of_beq_eq_true h4, Nat.eq_of_beq_eq_true h5, Nat.eq_of_beq_eq_true h6]
    | _ => cases h
  | .sg n o l c, y, h => by
    cases y with
    | sg n' o' l' c' =>
      obtain ⟨h1, h2⟩ := and2_ok (show and2 (and2 (Nat.beq n n') (Nat.beq o o')) (and2 (Nat.beq l l') (Nat.beq c c')) = true from h)
      obtain ⟨h3, h4⟩ := and2_ok h1
      obtain ⟨h5, h6⟩ := and2_ok h2
      rw [Nat.eq_of_beq_eq_true h3, Nat.eq_of_beq_eq_true h4, Nat.eq_of_beq_eq_true h5, Nat.eq_of_beq_eq_true h6]
    | _ => cases h
  | .e, y, h => by
    cases y <;> first | rfl | cases h
  | .m n, y, h => by
    cases y with
    | m n' => exact congrArg V.m (Nat.eq_of_beq_eq_true h)
    | _ => cases h
  | .f f a b, y, h => by
    cases y with
    | f f' a' b' =>
      obtain ⟨h1, h2⟩ := and2_ok (show and2 (qFn f f') (and2 (qV (.g a) (.g a')) (qV (.g b) (.g b'))) = true from h)
      obtain ⟨h3, h4⟩ := and2_ok h2
      rw [qFn_ok h1, qL_ok a a' h3, qL_ok b b' h4]
    | _ => cases h
  | .g l, y, h => by
    cases y with
    | g l' => exact congrArg V.g (qL_ok l l' h)
    | _ => cases h
  | .t l, y, h => by
    cases y with
    | t l' => exact congrArg V.t (qL_ok l l' h)
    | _ => cases h
theorem qL_ok : ∀ (l l' : List V), qV (.g l) (.g l') = true → l = l'
  | [], l', h => by
    cases l' with
    | nil => rfl
    | cons b l' => cases h
  | a :: l, l', h => by
    cases l' with
    | nil => cases h
    | cons b l' =>
      obtain ⟨h1, h2⟩ := and2_ok (show and2 (qV a b) (qV (.g l) (.g l')) = true from h)
      rw [qV_ok a b h1, qL_ok l l' h2]
end
theorem qVs_ok : ∀ {a b : List V}, qVs a b = true → a = b
  | [], [], _ => rfl
  | [], _ :: _, h => by cases h
  | _ :: _, [], h => by cases h
  | x :: a, y :: b, h => by
    obtain ⟨h1, h2⟩ := and2_ok (show and2 (qV x y) (qVs a b) = true from h)
    rw [qV_ok _ _ h1, qVs_ok h2]
/-! ### tables -/
noncomputable def qO1 {α β : Type} (f : α → β → Bool) (x : Option α) (y : Option β) : Bool := match x, y with
  | none, _ => true
  | some a, some b => f a b
  | some _, none => false
/-- each entry of the first has one in the second, of which f holds -/
noncomputable def subT {α β : Type} (f : α → β → Bool) (t : T α) : T β → Bool := T.rec (motive := fun _ => T β → Bool) (fun _ => true) (fun l o r ihl ihr t => match t with
  | .lf => (match l, o, r with | .lf, none, .lf => true | _, _, _ => false)
  | .nd l' o' r' => and2 (qO1 f o o') (and2 (ihl l') (ihr r'))) t
theorem subT_p {α β : Type} {f : α → β → Bool} : ∀ (t : T α) (t' : T β), subT f t t' = true → ∀ (p : List Bool) (a : α), T.getP p t = some a → ∃ b, T.getP p t' = some b ∧ f a b = true
  | .lf, _, _, p, a, h => by rw [T.getP_lf] at h; cases h
  | .nd .lf none .lf, .lf, _, p, a, h => by
    cases p with
    | nil => cases h
    | cons b p => cases b <;> (have h' : T.getP p (.lf : T α) = some a := h) <;> rw [T.getP_lf] at h' <;> cases h'
  | .nd .lf none (.nd ..), .lf, hs, p, a, h => by cases hs
  | .nd .lf (some _) _, .lf, hs, p, a, h => by cases hs
  | .nd (.nd ..) _ _, .lf, hs, p, a, h => by cases hs
  | .nd l o r, .nd l' o' r', hs, p, a, h => by
    obtain ⟨h1, h2⟩ := and2_ok (show and2 (qO1 f o o') (and2 (subT f l l') (subT f r r')) = true from hs)
    obtain ⟨h3, h4⟩ := and2_ok h2
    cases p with
    | nil =>
      have h' : o = some a := h
      subst h'
      cases o' with
      | none => cases h1
      | some b => exact ⟨b, rfl, h1⟩
    | cons b p =>
      cases b with
      | true => exact subT_p l l' h3 p a h
      | false => exact subT_p r r' h4 p a h
theorem subT_get {α β : Type} {f : α → β → Bool} {t : T α} {t' : T β} (h : subT f t t' = true) {n : Nat} {a : α} (k : t.get n = some a) : ∃ b, t'.get n = some b ∧ f a b = true := subT_p t t' h _ a k
noncomputable def lvB (b : B) (_ : B) : Bool := match b with
  | .gone => false
  | .cs ty _ _ => (match Nat.beq ty roT with | true => false | false => true)
  | _ => true
theorem lvB_ok {b b' : B} (h : lvB b b' = true) : b.live := by
  cases b with
  | cs ty sz t => show ty ≠ roT; rintro rfl; simp [lvB] at h
  | gone => cases h
  | mp => trivial
  | it => trivial
noncomputable def orO {α : Type} (x y : Option α) : Option α := match y with | some b => some b | none => x
/-- the second laid over the first -/
noncomputable def overT {α : Type} (t t' : T α) : T α := T.rec (motive := fun _ => T α → T α) (fun t' => t') (fun l o r ihl ihr t' => match t' with
  | .lf => .nd l o r
  | .nd l' o' r' => .nd (ihl l') (orO o o') (ihr r')) t t'
theorem overT_p {α : Type} : ∀ (t t' : T α) (p : List Bool), T.getP p (overT t t') = orO (T.getP p t) (T.getP p t')
  | .lf, t', p => by
    rw [T.getP_lf]
    show T.getP p t' = _
    cases T.getP p t' <;> rfl
  | .nd l o r, .lf, p => by
    rw [T.getP_lf]
    rfl
  | .nd l o r, .nd l' o' r', [] => rfl
  | .nd l o r, .nd l' o' r', true :: p => overT_p l l' p
  | .nd l o r, .nd l' o' r', false :: p => overT_p r r' p
theorem overT_get {α : Type} (t t' : T α) (n : Nat) : (overT t t').get n = orO (t.get n) (t'.get n) := overT_p t t' _
/-! ### blocks -/
noncomputable def qM (a : List (V × V × Nat)) : List (V × V × Nat) → Bool := lr (fun b => match b with | [] => true | _ => false) (fun x _ ih b => match b with | [] => false | y :: b => and2 (and2 (qV x.1 y.1) (and2 (qV x.2.1 y.2.1) (Nat.beq x.2.2 y.2.2))) (ih b)) a
theorem qM_ok : ∀ {a b : List (V × V × Nat)}, qM a b = true → a = b
  | [], [], _ => rfl
  | [], _ :: _, h => by cases h
  | _ :: _, [], h => by cases h
  | (x1, x2, x3) :: a, (y1, y2, y3) :: b, h => by
    obtain ⟨h1, h2⟩ := and2_ok (show and2 (and2 (qV x1 y1) (and2 (qV x2 y2) (Nat.beq x3 y3))) (qM a b) = true from h)
    obtain ⟨h3, h4⟩ := and2_ok h1
    obtain ⟨h5, h6⟩ := and2_ok h4
    rw [qV_ok _ _ h3, qV_ok _ _ h5, Nat.eq_of_beq_eq_true h6, qM_ok h2]
/-- the same table -/
noncomputable def eqT {α : Type} (f : α → α → Bool) (t : T α) : T α → Bool := T.rec (motive := fun _ => T α → Bool) (fun t => match t with | .lf => true | _ => false) (fun _ o _ ihl ihr t => match t with
  | .lf => false
  | .nd l' o' r' => (match o, o' with
    | none, none => and2 (ihl l') (ihr r')
    | some a, some b => and2 (f a b) (and2 (ihl l') (ihr r'))
    | _, _ => false)) t
theorem eqT_ok {α : Type} {f : α → α → Bool} (hf : ∀ a b, f a b = true → a = b) : ∀ (t t' : T α), eqT f t t' = true → t = t'
  | .lf, t', h => by
    cases t' with
    | lf => rfl
    | nd l o r => cases h
  | .nd l o r, t', h => by
    cases t' with
    | lf => cases h
    | nd l' o' r' =>
      cases o with
      | none =>
        cases o' with
        | none =>
          obtain ⟨h1, h2⟩ := and2_ok (show and2 (eqT f l l') (eqT f r r') = true from h)
          rw [eqT_ok hf _ _ h1, eqT_ok hf _ _ h2]
        | some b => cases h
      | some a =>
        cases o' with
        | none => cases h
        | some b =>
          obtain ⟨h0, h3⟩ := and2_ok (show and2 (f a b) (and2 (eqT f l l') (eqT f r r')) = true from h)
          obtain ⟨h1, h2⟩ := and2_ok h3
          rw [hf _ _ h0, eqT_ok hf _ _ h1, eqT_ok hf _ _ h2]
noncomputable def qB2 (x y : B) : Bool := match x, y with
  | .cs a b t, .cs a' b' t' => and2 (Nat.beq a a') (and2 (Nat.beq b b') (eqT qV t t'))
  | .mp l c, .mp l' c' => and2 (qM l l') (Nat.beq c c')
  | .it l p, .it l' p' => and2 (qNs l l') (Nat.beq p p')
  | .gone, .gone => true
  | _, _ => false
theorem qB2_ok {x y : B} (h : qB2 x y = true) : x = y := by
  unfold qB2 at h
  split at h
  · obtain ⟨h1, h2⟩ := and2_ok h
    obtain ⟨h3, h4⟩ := and2_ok h2
    rw [Nat.eq_of_beq_eq_true h1, Nat.eq_of_beq_eq_true h3, eqT_ok qV_ok _ _ h4]
  · obtain ⟨h1, h2⟩ := and2_ok h
    rw [qM_ok h1, Nat.eq_of_beq_eq_true h2]
  · obtain ⟨h1, h2⟩ := and2_ok h
    rw [qNs_ok h1, Nat.eq_of_beq_eq_true h2]
  · rfl
  · cases h
/-! ### the oracle -/
noncomputable def plainC (c : Cx) : Bool := match c.all, c.l, c.wb with
  | false, [], 0 => true
  | _, _, _ => false
noncomputable def sees (f : Nat) (args : List V) (st0 : St) (c : Cx) (f' : Nat) (args' : List V) (st : St) : Bool :=
  and2 (Nat.beq f' f) (and2 (plainC c) (and2 (Nat.beq st.nx st0.nx) (and2 (qVs args' args) (subT qB2 st0.h st.h))))
noncomputable def orc (base : CallF) (f : Nat) (args : List V) (st0 : St) (v : V) (st1 : St) : CallF := fun c f' args' st => match sees f args st0 c f' args' st with
  | true => some (v, ⟨st1.nx, overT st.h st1.h⟩)
  | false => base c f' args' st
noncomputable def c_regionH (F : CallF) (_ : Nat) (ops : Array Oper) (d : Bool) : CAlt := fun P _ cx e st => Bool.rec (motive := fun _ => CRes) (cr1 (evOpsQ P F cx ops.toList ops.toList e st)) (Bool.rec (motive := fun _ => CRes) none (cr1 (evDrawQ P F cx ops.toList ops.toList 0 [] e st)) (regOk ops.toList)) d
noncomputable def cTabH (F : CallF) (c : Code) : CAlt := Code.casesOn (motive := fun _ => CAlt) c c_skip (c_regionH F) c_seq c_cond c_block c_loop (fun _ _ _ _ => c_none) c_exit c_scope (fun _ => c_skip) (fun _ => c_none) c_ret (fun _ => c_none)
noncomputable def evH (P : Program) (F : CallF) (n : Nat) : CodeF := nr (fun _ _ _ _ => none) (fun _ ih cx c e st => cTabH F c P ih cx e st) n
section
variable {P : Program}
theorem evH_eq {F : CallF} : ∀ n, evH P F n = evG P F n
  | 0 => rfl
  | n + 1 => by
    have ih := evH_eq (F := F) n
    funext cx c e st
    have h1 : evH P F (n + 1) cx c e st = cTabH F c P (evH P F n) cx e st := rfl
    rw [h1, ih]
    cases c with
    | region id ops d =>
      cases d with
      | false =>
        show cr1 (evOpsQ P F cx ops.toList ops.toList e st) = (match evOps P F cx ops.toList ops.toList e st with
          | none => none
          | some (e, st) => some (X.n, e, st))
        rw [evOpsQ_eq]
        cases evOps P F cx ops.toList ops.toList e st with
        | none => rfl
        | some p => obtain ⟨e, st⟩ := p; rfl
      | true =>
        show Bool.rec (motive := fun _ => CRes) none (cr1 (evDrawQ P F cx ops.toList ops.toList 0 [] e st)) (regOk ops.toList) = (match regOk ops.toList with
          | true => (match evDraw P F cx ops.toList ops.toList 0 [] e st with
            | none => none
            | some (e, st) => some (X.n, e, st))
          | false => none)
        rw [evDrawQ_eq]
        cases regOk ops.toList with
        | false => rfl
        | true => cases evDraw P F cx ops.toList ops.toList 0 [] e st with
          | none => rfl
          | some p => obtain ⟨e, st⟩ := p; rfl
    | cond x a b => exact qd_eq _ _
    | _ => rfl
theorem evH_sound (hn : namesOk P = true) (hm : P.follows .mixedOrders = true) {F : CallF} (h : CallSound P F ∧ HasBody P F) (n : Nat) : CodeSound P (evH P F n) := by
  rw [evH_eq]
  exact evG_sound hn hm h n
theorem base_sound (hn : namesOk P = true) (hm : P.follows .mixedOrders = true) (n : Nat) : CallSound P (callOf P (evQ P n)) ∧ HasBody P (callOf P (evQ P n)) := ⟨callOf_sound (evQ_sound hn hm n), callOf_body⟩
theorem orc_sound {base : CallF} (hb : CallSound P base ∧ HasBody P base) {f : Nat} {fn : Func} {b : Code} {args : List V} {st0 st1 : St} {v : V} (hf : P.funcs[f]? = some fn) (hbd : fn.body = some b)
    (g : GoodM P fn st0 v st1 [] fn.ntmps (flat b) (sets args 0 .lf) st0) (hk : subT lvB st0.h st1.h = true) : CallSound P (orc base f args st0 v st1) ∧ HasBody P (orc base f args st0 v st1) := by
  constructor
  · intro c f' args' st v2 st2 h hwf
    unfold orc at h
    split at h
    · rename_i hs
      obtain ⟨s1, hs⟩ := and2_ok hs
      obtain ⟨s2, hs⟩ := and2_ok hs
      obtain ⟨s3, hs⟩ := and2_ok hs
      obtain ⟨s4, s5⟩ := and2_ok hs
      have e1 := Nat.eq_of_beq_eq_true s1
      have e3 := Nat.eq_of_beq_eq_true s3
      have e4 := qVs_ok s4
      subst e1 e4
      obtain ⟨rfl, rfl⟩ := some_inv h
      obtain ⟨call, cl, cwb, cnt⟩ := c
      unfold plainC at s2
      split at s2
      · rename_i c1 c2 c3
        simp only at c1 c2 c3
        subst c1 c2 c3
        have hin : ∀ n b, st0.h.get n = some b → st.h.get n = some b := fun n b h => by
          obtain ⟨b', h1, h2⟩ := subT_get s5 h
          rw [qB2_ok h2]; exact h1
        have hwf0 : Wf st0 := fun n hn => by
          cases h : st0.h.get n with
          | none => rfl
          | some b => have := hin n b h; rw [hwf n (by omega)] at this; cases this
        obtain ⟨⟨q1, q2, q3⟩, q4⟩ := g hwf0 (fun n _ h => h) (Nat.le_refl _)
        have hget : ∀ n, (overT st.h st1.h).get n = orO (st.h.get n) (st1.h.get n) := overT_get _ _
        have hst : StepOk ⟨false, [], 0, cnt⟩ st ⟨st1.nx, overT st.h st1.h⟩ := by
          refine ⟨by show st.nx ≤ st1.nx; omega, fun n hn hne => ?_, fun _ n hn => ?_, fun n hn hne b hb => ?_⟩
          · have hne' : st.h.get n ≠ orO (st.h.get n) (st1.h.get n) := by rw [← hget]; exact hne
            cases h1 : st1.h.get n with
            | none => rw [h1] at hne'; exact absurd rfl hne'
            | some b1 =>
              refine ⟨rfl, fun h2 => ?_, by show (overT st.h st1.h).get n ≠ none; rw [hget, h1]; exact Option.some_ne_none _, Nat.zero_le _⟩
              have h3 : st0.h.get n = none := by
                cases h : st0.h.get n with
                | none => rfl
                | some b => rw [hin n b h] at h2; cases h2
              rw [q2 n (by omega) h3] at h1
              cases h1
          · show (overT st.h st1.h).get n = none
            have hn' : st1.nx ≤ n := hn
            rw [hget, q3 n hn', hwf n (by omega)]
            rfl
          · have hne' : st.h.get n ≠ orO (st.h.get n) (st1.h.get n) := by rw [← hget]; exact hne
            cases h0 : st0.h.get n with
            | none =>
              rw [q2 n (by omega) h0] at hne'
              exact absurd rfl hne'
            | some b0 =>
              rw [hin n b0 h0] at hb
              injection hb with hb
              subst hb
              obtain ⟨_, _, h1⟩ := subT_get hk h0
              exact lvB_ok h1
        refine ⟨hst, fun B0 ρ τ w vs hvs hag hre hfr R hR => ?_⟩
        have hag0 : Agree ⟨false, [], 0, 0⟩ st0 τ := fun n b _ h => hag n b rfl (hin n b h)
        refine calls_of_wp hf hbd (wp_mono (flat_wp1 b _ w (q4 B0 ρ τ w ρ τ w [] _ (fun ex a' w' => (ex = .normal ∨ ex = .ret) ∧ a'.defers = [] ∧ ∃ v', (results fn a'.tmps).run P w' = .ok v' w' ∧ R (.returned v') w') ⟨fun n h1 h2 => hfr n (by omega) h2, Rho.le_refl _, fun n r h => .inl h, fun n _ => rfl, hag0, hre, Below.refl _ _⟩ trivial (env_init hvs fn.ntmps) ?_ rfl ?_)) fun ex a' w' hk => ?_)
        · simp only [Array.size_append, List.size_toArray, Array.size_replicate]; omega
        · intro ρ' τ' w' a' ex v' hat hx hd hv hr
          refine ⟨hx, hd, v', hr, hR ρ' v' w' hat.le (fun n r h => ?_) hv ?_ hat.bel⟩
          · rcases hat.dom n r h with h | h
            · exact .inl h
            · exact .inr ⟨by omega, h.2⟩
          · have key : ∀ n b, ov st ⟨st1.nx, overT st.h st1.h⟩ τ n = some b → τ' n = some b := fun n b h => by
              have h : (open Classical in if st.nx ≤ n ∧ n < st1.nx then (overT st.h st1.h).get n else if st.h.get n = (overT st.h st1.h).get n then τ n else (overT st.h st1.h).get n) = some b := h
              split at h
              · rename_i hn
                have h : (overT st.h st1.h).get n = some b := h
                rw [hget, hwf n hn.1] at h
                cases h1 : st1.h.get n with
                | none => rw [h1] at h; cases h
                | some b1 => rw [h1] at h; have h' : some b1 = some b := h; injection h' with h'; subst h'; exact hat.agr n _ rfl h1
              · rename_i hn
                split at h
                · rename_i he
                  rcases Nat.lt_or_ge n st.nx with hlt | hge
                  · cases h0 : st0.h.get n with
                    | none => rw [hat.inv n (.inl ⟨by omega, h0⟩)]; exact h
                    | some b0 =>
                      obtain ⟨b1, h1, _⟩ := subT_get hk h0
                      have h2 := hag0 n b0 rfl h0
                      rw [h2] at h
                      injection h with h
                      subst h
                      rw [hin n b0 h0, hget, h1] at he
                      have he' : some b0 = some b1 := he
                      injection he' with he'
                      subst he'
                      exact hat.agr n _ rfl h1
                  · rw [hat.inv n (.inr (by omega))]; exact h
                · cases h1 : st1.h.get n with
                  | none => rename_i he; rw [hget, h1] at he; exact absurd rfl he
                  | some b1 => rw [hget, h1] at h; have h' : some b1 = some b := h; injection h' with h'; subst h'; exact hat.agr n _ rfl h1
            exact ⟨hat.real.size, fun n b h => hat.real.blk n b (key n b h), fun n m b b' r r' h h' => hat.real.inj n m b b' r r' (key n b h) (key m b' h'), hat.real.kept⟩
        · obtain ⟨hx, hdf, v, hres, hkk⟩ := hk
          rcases hx with rfl | rfl
          · exact ⟨hdf, v, hres, hkk⟩
          · exact ⟨hdf, v, hres, hkk⟩
      · cases s2
    · exact hb.1 _ _ _ _ _ _ h hwf
  · intro c f' args' st r h
    unfold orc at h
    split at h
    · rename_i hs
      obtain ⟨s1, hs⟩ := and2_ok hs
      have e1 := Nat.eq_of_beq_eq_true s1
      subst e1
      exact ⟨fn, b, hf, hbd⟩
    · exact hb.2 _ _ _ _ _ h
end
end Go.Proofs.YtlonobfpogimgaaGreatDoor.Ev

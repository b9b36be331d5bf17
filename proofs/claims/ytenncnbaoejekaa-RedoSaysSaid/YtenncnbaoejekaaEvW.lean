/-
  PLAIN: the evaluator without its count of steps: what it comes to with some count. It keeps the evaluator's own equations, and is sound.
-/
import Derived.Test.YtenncnbaoejekaaEvV
namespace Go.Proofs.Ytenncnbaoejekaa.Ev
open Go.RowKit

/-- one step of the evaluator, over what is known of shorter ones -/
noncomputable def step (P : Program) (ih : CodeF) : CodeF := fun cx c e st =>
  match c with
  | .skip => some (.n, e, st)
  | .label _ => some (.n, e, st)
  | .region _ ops d => (match d with
    | true => (match regOk ops.toList with
      | true => (match evDraw P (callOf P ih) cx ops.toList ops.toList 0 [] e st with
        | none => none
        | some (e, st) => some (.n, e, st))
      | false => none)
    | false => (match evOps P (callOf P ih) cx ops.toList ops.toList e st with
      | none => none
      | some (e, st) => some (.n, e, st)))
  | .seq a b => (match ih cx a e st with
    | some (.n, e, st) => ih cx b e st
    | r => r)
  | .cond x a b => opd e x fun v => (match v with
    | .c (.bool true) => ih cx a e st
    | .c (.bool false) => ih cx b e st
    | _ => none)
  | .block i b => (match ih cx b e st with
    | some (.ex j, e, st) => (match Nat.beq j i with | true => some (.n, e, st) | false => some (.ex j, e, st))
    | r => r)
  | .loop b => (match ih cx b e st with
    | some (.n, e, st) => ih cx (.loop b) e st
    | r => r)
  | .exit i => some (.ex i, e, st)
  | .ret => some (.ret, e, st)
  | _ => none
section
variable {P : Program}
theorem ev_succ (n : Nat) : ev P (n + 1) = step P (ev P n) := rfl
def Le (F G : CodeF) : Prop := ∀ cx c e st r, F cx c e st = some r → G cx c e st = some r
def LeC (F G : CallF) : Prop := ∀ cx f args st r, F cx f args st = some r → G cx f args st = some r
theorem callOf_mono {F G : CodeF} (h : Le F G) : LeC (callOf P F) (callOf P G) := by
  intro cx f args st r hr
  unfold callOf at hr ⊢
  split at hr
  · cases hr
  · rename_i fn hf
    split at hr
    · cases hr
    · rename_i b hb
      rw [initE_eq] at hr ⊢
      split at hr
      · rename_i e1 st1 h1; rw [h _ _ _ _ _ h1]; exact hr
      · rename_i e1 st1 h1; rw [h _ _ _ _ _ h1]; exact hr
      · cases hr
theorem fA_get {β : Type} {r : β} {v : Value} {k : V → Option β} (h : fA v k = some r) : ∃ a, k a = some r ∧ ∀ k' : V → Option β, k' a = some r → fA v k' = some r := by
  unfold fA at h
  split at h
  all_goals first
    | (rw [fi_eq] at h; exact ⟨_, h, fun k' hk => by simp only [fA, fi_eq]; exact hk⟩)
    | (rw [fb_eq] at h; exact ⟨_, h, fun k' hk => by simp only [fA, fb_eq]; exact hk⟩)
    | (rw [fl_eq] at h; exact ⟨_, h, fun k' hk => by simp only [fA, fl_eq]; exact hk⟩)
    | (exact ⟨_, h, fun k' hk => hk⟩)
    | (cases h; done)
theorem fAs_get {β : Type} {r : β} : ∀ {l : List Value} {k : List V → Option β}, fAs l k = some r → ∃ as, k as = some r ∧ ∀ k' : List V → Option β, k' as = some r → fAs l k' = some r
  | [], _, h => ⟨[], h, fun _ hk => hk⟩
  | v :: l, k, h => by
    have h' : fA v (fun x => fAs l fun l => k (x :: l)) = some r := h
    obtain ⟨a, h1, h2⟩ := fA_get h'
    obtain ⟨as, h3, h4⟩ := fAs_get h1
    exact ⟨a :: as, h3, fun k' hk => h2 (fun x => fAs l fun l => k' (x :: l)) (h4 (fun l => k' (a :: l)) hk)⟩
theorem ofV_get {β : Type} {r : β} {v : Value} {k : V → Option β} (h : ofV v k = some r) : ∃ a, k a = some r ∧ ∀ k' : V → Option β, k' a = some r → ofV v k' = some r := by
  unfold ofV at h ⊢
  split at h
  · obtain ⟨as, h1, h2⟩ := fAs_get h
    exact ⟨_, h1, fun k' hk => h2 (fun l => k' (.g l)) hk⟩
  · exact ⟨_, h, fun _ hk => hk⟩
  · exact fA_get h
theorem opd_get {β : Type} {r : β} {e : Env} {x : Operand} {k : V → Option β} (h : opd e x k = some r) : ∃ a, k a = some r ∧ ∀ k' : V → Option β, k' a = some r → opd e x k' = some r := by
  unfold opd at h ⊢
  split at h
  · split at h
    · exact ⟨_, h, fun k' hk => hk⟩
    · exact ⟨.u, h, fun k' hk => hk⟩
  · exact ofV_get h
  · exact ⟨_, h, fun _ hk => hk⟩
  · cases h
theorem opds_get {β : Type} {r : β} {e : Env} : ∀ {l : List Operand} {k : List V → Option β}, opds e l k = some r → ∃ as, k as = some r ∧ ∀ k' : List V → Option β, k' as = some r → opds e l k' = some r
  | [], _, h => ⟨[], h, fun _ hk => hk⟩
  | x :: l, k, h => by
    have h' : opd e x (fun v => opds e l fun l => k (v :: l)) = some r := h
    obtain ⟨a, h1, h2⟩ := opd_get h'
    obtain ⟨as, h3, h4⟩ := opds_get h1
    exact ⟨a :: as, h3, fun k' hk => h2 (fun x => opds e l fun l => k' (x :: l)) (h4 (fun l => k' (a :: l)) hk)⟩
/-- an operation asks at most one call -/
theorem evOp_ask {G : CallF} {c : Cx} {e : Env} {st : St} {o : Oper} {r : V × St} (h : evOp P G c e st o = some r) :
    (∀ H : CallF, evOp P H c e st o = some r) ∨ ∃ f args, G c f args st = some r ∧ ∀ H : CallF, H c f args st = some r → evOp P H c e st o = some r := by
  unfold evOp at h ⊢
  split at h
  all_goals first
    | (exact .inl fun _ => h)
    | skip
  rename_i cl ho
  obtain ⟨args, ha, hb⟩ := opds_get h
  split at ha
  · exact .inl fun _ => hb _ ha
  · exact .inl fun _ => hb _ ha
  · exact .inl fun _ => hb _ ha
  · obtain ⟨fv, h1, h2⟩ := opd_get ha
    split at h1
    · rename_i f first caps
      split at h1
      · rename_i g hg
        exact .inl fun H => hb _ (h2 _ (by simp only [hg]; exact h1))
      · rename_i hg
        exact .inr ⟨_, _, h1, fun H hH => hb _ (h2 _ (by simp only [hg]; exact hH))⟩
    · cases h1
  · cases ha
theorem evOps_cons (F : CallF) (c : Cx) (ops : List Oper) (o : Oper) (l : List Oper) (e : Env) (st : St) : evOps P F c ops (o :: l) e st = (match wants e ops o with
    | true => match evOp P F c e st o with
      | none => none
      | some (v, st) => putK c e o.dst v fun e => evOps P F c ops l e st
    | false => putK c e o.dst .u fun e => evOps P F c ops l e st) := rfl
/-- the marks of what was made -/
noncomputable def rsOf (rs : List (Nat × Nat × Nat)) (i a b : Nat) : List (Nat × Nat × Nat) := match Nat.beq a b with | true => rs | false => (i, a, b) :: rs
theorem evDraw_cons (F : CallF) (c : Cx) (ops : List Oper) (o : Oper) (l : List Oper) (i : Nat) (rs : List (Nat × Nat × Nat)) (e : Env) (st : St) : evDraw P F c ops (o :: l) i rs e st = (match wants e ops o with
    | true => match evOp P F (cxOf c ops o i rs st.nx e) e st o with
      | none => none
      | some (v, st') => putK c e o.dst v fun e => evDraw P F c ops l (i + 1) (rsOf rs i st.nx st'.nx) e st'
    | false => putK c e o.dst .u fun e => evDraw P F c ops l (i + 1) rs e st) := by
  have h : evDraw P F c ops (o :: l) i rs e st = (match wants e ops o with
    | true => match evOp P F (cxOf c ops o i rs st.nx e) e st o with
      | none => none
      | some (v, st') => putK c e o.dst v fun e => fn (i + 1) fun i' => evDraw P F c ops l i' (match Nat.beq st.nx st'.nx with | true => rs | false => (i, st.nx, st'.nx) :: rs) e st'
    | false => putK c e o.dst .u fun e => fn (i + 1) fun i' => evDraw P F c ops l i' rs e st) := rfl
  rw [h]
  simp only [fn_eq]
  rfl
/-- how a chain of functions comes to its end -/
structure Chain (F : Nat → CallF) (G : CallF) : Prop where
  mono : ∀ n m, n ≤ m → LeC (F n) (F m)
  lim : ∀ cx f args st r, G cx f args st = some r → ∃ n, F n cx f args st = some r
section
variable {F : Nat → CallF} {G : CallF}
theorem evOp_lim (K : Chain F G) {c : Cx} {e : Env} {st : St} {o : Oper} {r : V × St} (h : evOp P G c e st o = some r) : ∃ n, ∀ m, n ≤ m → evOp P (F m) c e st o = some r := by
  rcases evOp_ask h with h1 | ⟨f, args, h1, h2⟩
  · exact ⟨0, fun m _ => h1 _⟩
  · obtain ⟨n, hn⟩ := K.lim _ _ _ _ _ h1
    exact ⟨n, fun m hm => h2 _ (K.mono n m hm _ _ _ _ _ hn)⟩
theorem putK_lim {β : Type} {r : β} {c : Cx} {e : Env} {d : Option Nat} {v : V} {k : Env → Option β} {kk : Nat → Env → Option β} (h : putK c e d v k = some r) (hk : ∀ e, k e = some r → ∃ n, ∀ m, n ≤ m → kk m e = some r) : ∃ n, ∀ m, n ≤ m → putK c e d v (kk m) = some r := by
  unfold putK at h ⊢
  split at h
  · exact hk _ h
  · split at h
    · rw [T.setK_eq] at h
      obtain ⟨n, hn⟩ := hk _ h
      exact ⟨n, fun m hm => by simp only [T.setK_eq]; exact hn m hm⟩
    · cases h
theorem evOps_lim (K : Chain F G) {c : Cx} {ops : List Oper} : ∀ {l : List Oper} {e : Env} {st : St} {r : Env × St}, evOps P G c ops l e st = some r → ∃ n, ∀ m, n ≤ m → evOps P (F m) c ops l e st = some r
  | [], _, _, _, h => ⟨0, fun _ _ => h⟩
  | o :: l, e, st, r, h => by
    rw [evOps_cons] at h
    split at h
    · rename_i hw
      split at h
      · cases h
      · rename_i v st1 ho
        obtain ⟨n1, h1⟩ := evOp_lim K ho
        obtain ⟨n2, h2⟩ := putK_lim (kk := fun m e => evOps P (F m) c ops l e st1) h fun e he => evOps_lim K he
        refine ⟨max n1 n2, fun m hm => ?_⟩
        rw [evOps_cons, hw]
        simp only [h1 m (by omega)]
        exact h2 m (by omega)
    · rename_i hw
      obtain ⟨n2, h2⟩ := putK_lim (kk := fun m e => evOps P (F m) c ops l e st) h fun e he => evOps_lim K he
      refine ⟨n2, fun m hm => ?_⟩
      rw [evOps_cons, hw]
      exact h2 m hm
theorem evDraw_lim (K : Chain F G) {c : Cx} {ops : List Oper} : ∀ {l : List Oper} {i : Nat} {rs : List (Nat × Nat × Nat)} {e : Env} {st : St} {r : Env × St}, evDraw P G c ops l i rs e st = some r → ∃ n, ∀ m, n ≤ m → evDraw P (F m) c ops l i rs e st = some r
  | [], _, _, _, _, _, h => ⟨0, fun _ _ => h⟩
  | o :: l, i, rs, e, st, r, h => by
    rw [evDraw_cons] at h
    split at h
    · rename_i hw
      split at h
      · cases h
      · rename_i v st1 ho
        obtain ⟨n1, h1⟩ := evOp_lim K ho
        obtain ⟨n2, h2⟩ := putK_lim (kk := fun m e => evDraw P (F m) c ops l (i + 1) (rsOf rs i st.nx st1.nx) e st1) h fun e he => evDraw_lim K he
        refine ⟨max n1 n2, fun m hm => ?_⟩
        rw [evDraw_cons, hw]
        simp only [h1 m (by omega)]
        exact h2 m (by omega)
    · rename_i hw
      obtain ⟨n2, h2⟩ := putK_lim (kk := fun m e => evDraw P (F m) c ops l (i + 1) rs e st) h fun e he => evDraw_lim K he
      refine ⟨n2, fun m hm => ?_⟩
      rw [evDraw_cons, hw]
      exact h2 m hm
end
/-- a step is asked of finitely much -/
theorem step_lim {F : Nat → CodeF} {G : CodeF} (hm : ∀ n m, n ≤ m → Le (F n) (F m)) (hl : ∀ cx c e st r, G cx c e st = some r → ∃ n, F n cx c e st = some r) {cx : Cx} {c : Code} {e : Env} {st : St} {r : X × Env × St} (h : step P G cx c e st = some r) :
    ∃ n, ∀ m, n ≤ m → step P (F m) cx c e st = some r := by
  have hl' : ∀ {cx c e st r}, G cx c e st = some r → ∃ n, ∀ m, n ≤ m → F m cx c e st = some r := fun h => by
    obtain ⟨n, hn⟩ := hl _ _ _ _ _ h
    exact ⟨n, fun m hnm => hm n m hnm _ _ _ _ _ hn⟩
  have K : Chain (fun n => callOf P (F n)) (callOf P G) := ⟨fun n m hnm => callOf_mono (hm n m hnm), fun cx f args st r h => by
    unfold callOf at h ⊢
    split at h
    · cases h
    · rename_i fn hf
      split at h
      · cases h
      · rename_i b hb
        rw [initE_eq] at h
        split at h
        · rename_i e1 st1 h1
          obtain ⟨n, hn⟩ := hl _ _ _ _ _ h1
          exact ⟨n, by simp only [initE_eq, hn]; exact h⟩
        · rename_i e1 st1 h1
          obtain ⟨n, hn⟩ := hl _ _ _ _ _ h1
          exact ⟨n, by simp only [initE_eq, hn]; exact h⟩
        · cases h⟩
  cases c with
  | skip => exact ⟨0, fun _ _ => h⟩
  | label l => exact ⟨0, fun _ _ => h⟩
  | exit i => exact ⟨0, fun _ _ => h⟩
  | ret => exact ⟨0, fun _ _ => h⟩
  | region id ops d =>
    cases d with
    | false =>
      simp only [step] at h ⊢
      split at h
      · cases h
      · rename_i e1 st1 h1
        obtain ⟨n, hn⟩ := evOps_lim K h1
        exact ⟨n, fun m hnm => by rw [hn m hnm]; exact h⟩
    | true =>
      simp only [step] at h ⊢
      split at h
      · rename_i hreg
        split at h
        · cases h
        · rename_i e1 st1 h1
          obtain ⟨n, hn⟩ := evDraw_lim K h1
          exact ⟨n, fun m hnm => by rw [hn m hnm]; exact h⟩
      · cases h
  | seq a b =>
    simp only [step] at h ⊢
    split at h
    · rename_i e1 st1 h1
      obtain ⟨n1, hn1⟩ := hl' h1
      obtain ⟨n2, hn2⟩ := hl' h
      refine ⟨max n1 n2, fun m hnm => ?_⟩
      rw [hn1 m (by omega)]
      exact hn2 m (by omega)
    · rename_i hne
      obtain ⟨n1, hn1⟩ := hl' h
      refine ⟨n1, fun m hnm => ?_⟩
      rw [hn1 m hnm]
      obtain ⟨x, e1, st1⟩ := r
      cases x with
      | n => exact (hne _ _ h).elim
      | _ => rfl
  | cond x a b =>
    simp only [step] at h ⊢
    obtain ⟨v, h1, h2⟩ := opd_get h
    split at h1
    · obtain ⟨n, hn⟩ := hl' h1
      exact ⟨n, fun m hnm => h2 _ (hn m hnm)⟩
    · obtain ⟨n, hn⟩ := hl' h1
      exact ⟨n, fun m hnm => h2 _ (hn m hnm)⟩
    · cases h1
  | block i b =>
    simp only [step] at h ⊢
    split at h
    · rename_i j e1 st1 h1
      obtain ⟨n, hn⟩ := hl' h1
      exact ⟨n, fun m hnm => by rw [hn m hnm]; exact h⟩
    · rename_i hne
      obtain ⟨n, hn⟩ := hl' h
      refine ⟨n, fun m hnm => ?_⟩
      rw [hn m hnm]
      obtain ⟨x, e1, st1⟩ := r
      cases x with
      | ex j => exact (hne _ _ _ h).elim
      | _ => rfl
  | loop b =>
    simp only [step] at h ⊢
    split at h
    · rename_i e1 st1 h1
      obtain ⟨n1, hn1⟩ := hl' h1
      obtain ⟨n2, hn2⟩ := hl' h
      refine ⟨max n1 n2, fun m hnm => ?_⟩
      rw [hn1 m (by omega)]
      exact hn2 m (by omega)
    · rename_i hne
      obtain ⟨n1, hn1⟩ := hl' h
      refine ⟨n1, fun m hnm => ?_⟩
      rw [hn1 m hnm]
      obtain ⟨x, e1, st1⟩ := r
      cases x with
      | n => exact (hne _ _ h).elim
      | _ => rfl
  | rangeFunc f ps as b => cases h
  | scope b => cases h
  | goto l => cases h
  | refuse y => cases h
theorem step_mono {F G : CodeF} (h : Le F G) : Le (step P F) (step P G) := by
  intro cx c e st r hr
  obtain ⟨n, hn⟩ := step_lim (F := fun n => match n with | 0 => F | _ + 1 => G) (G := F) (fun n m hnm => by
    cases n with
    | zero => cases m with
      | zero => exact fun _ _ _ _ _ h => h
      | succ m => exact h
    | succ n => cases m with
      | zero => omega
      | succ m => exact fun _ _ _ _ _ h => h) (fun cx c e st r h => ⟨0, h⟩) hr
  exact hn (n + 1) (by omega)
theorem ev_le : ∀ n, Le (ev P n) (ev P (n + 1))
  | 0 => fun _ _ _ _ _ h => by cases h
  | n + 1 => by rw [ev_succ, ev_succ]; exact step_mono (ev_le n)
theorem ev_mono {n m : Nat} (h : n ≤ m) : Le (ev P n) (ev P m) := by
  induction m with
  | zero => obtain rfl : n = 0 := by omega
            exact fun _ _ _ _ _ h => h
  | succ m ih =>
    by_cases e : n = m + 1
    · subst e; exact fun _ _ _ _ _ h => h
    · exact fun cx c e st r h' => ev_le m _ _ _ _ _ (ih (by omega) _ _ _ _ _ h')
/-- the evaluator, whatever the count -/
noncomputable def evL (P : Program) : CodeF := open Classical in fun cx c e st => if h : ∃ r n, ev P n cx c e st = some r then some (Classical.choose h) else none
theorem evL_some {cx : Cx} {c : Code} {e : Env} {st : St} {r : X × Env × St} : evL P cx c e st = some r ↔ ∃ n, ev P n cx c e st = some r := by
  unfold evL
  constructor
  · intro h
    split at h
    · rename_i hx
      injection h with h
      subst h
      exact Classical.choose_spec hx
    · cases h
  · rintro ⟨n, hn⟩
    have hx : ∃ r n, ev P n cx c e st = some r := ⟨r, n, hn⟩
    rw [dif_pos hx]
    obtain ⟨m, hm⟩ := Classical.choose_spec hx
    have h1 := ev_mono (Nat.le_max_left n m) _ _ _ _ _ hn
    have h2 := ev_mono (Nat.le_max_right n m) _ _ _ _ _ hm
    rw [h1] at h2
    exact h2.symm
theorem evL_eq : evL P = step P (evL P) := by
  funext cx c e st
  apply Option.ext
  intro r
  constructor
  · intro h
    obtain ⟨n, hn⟩ := evL_some.1 h
    cases n with
    | zero => cases hn
    | succ n =>
      rw [ev_succ] at hn
      exact step_mono (fun _ _ _ _ _ h => evL_some.2 ⟨n, h⟩) _ _ _ _ _ hn
  · intro h
    obtain ⟨n, hn⟩ := step_lim (F := ev P) (fun n m => ev_mono) (fun _ _ _ _ _ h => evL_some.1 h) h
    exact evL_some.2 ⟨n + 1, hn n (Nat.le_refl _)⟩
noncomputable def callL (P : Program) : CallF := callOf P (evL P)
/-- of a call with a result: all that the model may do there -/
theorem callL_sound (hn : namesOk P = true) (hm : P.follows .mixedOrders = true) : CallSound P (callL P) := by
  have hN := named_of hn
  refine callOf_sound fun c code e st x e' st' h hwf => ?_
  obtain ⟨n, h⟩ := evL_some.1 h
  exact (ev_ok (draw_sound hN hm) hN n).1 c code e st x e' st' h hwf
end
end Go.Proofs.Ytenncnbaoejekaa.Ev

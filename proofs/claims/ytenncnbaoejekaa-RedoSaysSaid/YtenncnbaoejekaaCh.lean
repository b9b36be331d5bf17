/-
  PLAIN: a law without arguments, run piece by piece: between two pieces the memory that nothing looks at any more is let go.
-/
import Derived.Test.YtenncnbaoejekaaEq
namespace Go.Proofs.Ytenncnbaoejekaa.Ev
open Go.RowKit

/-! ### code whose calls are answered by a given function -/
noncomputable def evG (P : Program) (F : CallF) (n : Nat) : CodeF := nr (fun _ _ _ _ => none) (fun _ ih cx c e st =>
  match c with
  | .skip => some (.n, e, st)
  | .label _ => some (.n, e, st)
  | .region _ ops d => (match d with
    | true => (match regOk ops.toList with
      | true => (match evDraw P F cx ops.toList ops.toList 0 [] e st with
        | none => none
        | some (e, st) => some (.n, e, st))
      | false => none)
    | false => (match evOps P F cx ops.toList ops.toList e st with
      | none => none
      | some (e, st) => some (.n, e, st)))
  | .seq a b => (match ih cx a e st with
    | some (.n, e, st) => ih cx b e st
    | r => r)
  | .cond x a b => opd e x fun v => (match v with
    | .c (.bool true) => ih cx a e st
    | .c (.bool false) => ih cx b e st
    | _ => none)
  | .block i b => (match ih cx b e st with
    | some (.ex j, e, st) => (match Nat.beq j i with | true => some (.n, e, st) | false => some (.ex j, e, st))
    | r => r)
  | .loop b => (match ih cx b e st with
    | some (.n, e, st) => ih cx (.loop b) e st
    | r => r)
  | .exit i => some (.ex i, e, st)
  | .ret => some (.ret, e, st)
  | _ => none) n
/-- a law without arguments that is known to return true needs no second run -/
noncomputable def orac (P : Program) (n fa : Nat) : CallF := fun c f args st => match Nat.beq f fa, args with
  | true, [] => some (.c (.bool true), st)
  | _, args => callOf P (evQ P n) c f args st
/-! ### pieces -/
noncomputable def bd (fn : Func) : Code := match fn.body with | some c => c | none => .skip
noncomputable def dropC (m : Nat) (B : Code) : Code := nr (fun B => B) (fun _ ih B => match B with | .seq _ b => ih b | _ => .skip) m B
noncomputable def runL (G : CodeF) (c : Cx) (m : Nat) (B : Code) (e : Env) (st : St) : Option (Env × St) :=
  nr (fun _ e st => some (e, st)) (fun _ ih B e st => match B with
    | .seq a b => (match G c a e st with
      | some (.n, e, st) => ih b e st
      | _ => none)
    | _ => none) m B e st
noncomputable def gc (keep : List Nat) (st : St) : St := ⟨st.nx, lr (fun t => t) (fun n _ ih t => match st.h.get n with | some b => ih (t.set n b) | none => ih t) keep .lf⟩
noncomputable def stepC (G : CodeF) (c : Cx) (m : Nat) (B : Code) (keep : List Nat) (e : Env) (st : St) : Option (Env × St) := match runL G c m B e st with
  | some (e, st) => some (e, gc keep st)
  | none => none
noncomputable def lastC (P : Program) (G : CodeF) (fn : Func) (B : Code) (e : Env) (st : St) : Bool :=
  match G ⟨false, [], 0, fn.ntmps⟩ B e st with
  | some (.n, e, st) => (match resOf P ⟨false, [], 0, fn.ntmps⟩ e st fn.results.toList fun l => (match l with | [x] => some (x, st) | l => some (.t l, st)) with | some (.c (.bool true), _) => true | _ => false)
  | some (.ret, e, st) => (match resOf P ⟨false, [], 0, fn.ntmps⟩ e st fn.results.toList fun l => (match l with | [x] => some (x, st) | l => some (.t l, st)) with | some (.c (.bool true), _) => true | _ => false)
  | _ => false
/-! ### words of the states that are written out -/
def u (n : Nat) : V := .c (.int .u64 (.ofNat n))
def i (n : Nat) : V := .c (.int .i64 (.ofNat n))
def j (n : Nat) : V := .c (.int .i64 (.negSucc n))
def y (n : Nat) : V := .c (.int .u8 (.ofNat n))
def tt : V := .c (.bool true)
def ff : V := .c (.bool false)
def np : V := .c (.pointer none)
def ns : V := .c (.slice none 0 0)
/-! ### what they are worth -/
def Fin (P : Program) (fn : Func) (B0 : Nat) (w0 : World) : Exit → Act → World → Prop := fun ex a w => (ex = .normal ∨ ex = .ret) ∧ a.defers = [] ∧ (results fn a.tmps).run P w = .ok (.bool true) w ∧ Below B0 w0 w
def Good (P : Program) (fn : Func) (B : Code) (e : Env) (st : St) : Prop := Wf st → ∀ (B0 : Nat) (ρ : Rho) (τ : Mem) (w0 w : World) (a : Act), EnvRel ρ e a → fn.ntmps ≤ a.tmps.size → a.defers = [] → Agree ⟨false, [], 0, fn.ntmps⟩ st τ → Real ρ B0 τ w → (∀ n, st.nx ≤ n → ρ n = none) → Below B0 w0 w → B.wp P (Fin P fn B0 w0) a w
section
variable {P : Program} {fn : Func}
theorem evQ_sound (hn : namesOk P = true) (hm : P.follows .mixedOrders = true) (n : Nat) : CodeSound P (evQ P n) := by
  rw [evQ_eq]
  exact (ev_ok (draw_sound (named_of hn) hm) (named_of hn) n).1
theorem evG_ok (hd : DrawSound P) (hn : Named P) {F : CallF} (hcall : CallSound P F) (hbody : HasBody P F) : ∀ n, CodeSound P (evG P F n) ∧ LoopSound P (evG P F n)
  | 0 => ⟨fun _ _ _ _ _ _ _ h _ => (by cases h), fun _ _ _ _ _ _ _ h _ => (by cases h)⟩
  | n + 1 => by
    obtain ⟨ihc, ihl⟩ := evG_ok hd hn hcall hbody n
    have loop : LoopSound P (evG P F (n + 1)) := by
      intro c b e st x e' st' h hwf
      have h' : (match evG P F n c b e st with
        | some (.n, e, st) => evG P F n c (.loop b) e st
        | r => r) = some (x, e', st') := h
      split at h'
      · rename_i e1 st1 hb
        obtain ⟨s1, k1⟩ := ihc _ _ _ _ _ _ _ hb hwf
        obtain ⟨m, s2, k2⟩ := ihl _ _ _ _ _ _ _ h' (s1.wf hwf)
        refine ⟨m + 1, s1.trans s2, fun B0 ρ τ w a he ht hag hre hf Q hQ => ?_⟩
        rw [rounds_succ]
        refine k1 B0 ρ τ w a he ht hag hre (hf.left s2.le) _ ?_
        exact cont_step s1 s2 hwf hag hf hQ fun ρ' a' w' he' ht' hag' hre' hf' hc' => k2 B0 ρ' _ w' a' he' ht' hag' hre' hf' Q hc'
      · rename_i hne
        obtain ⟨s1, k1⟩ := ihc _ _ _ _ _ _ _ h' hwf
        refine ⟨1, s1, fun B0 ρ τ w a he ht hag hre hf Q hQ => ?_⟩
        rw [rounds_succ]
        refine k1 B0 ρ τ w a he ht hag hre hf _ fun ρ' a' w' q1 q2 q3 q4 q5 q6 q7 => ?_
        have := hQ ρ' a' w' q1 q2 q3 q4 q5 q6 q7
        cases x with
        | n => exact (hne e' st' h').elim
        | ex i => exact this
        | ret => exact this
    refine ⟨fun c code e st x e' st' h hwf => ?_, loop⟩
    cases code with
    | skip =>
      have h' : (some (X.n, e, st) : Option (X × Env × St)) = some (x, e', st') := h
      injection h' with h'; injection h' with h1 h'; injection h' with h2 h3; subst h1 h2 h3
      exact ⟨.refl _ _, fun B0 ρ τ w a he ht hag hre hf Q hQ => wp_skip (cont_refl hQ he ht hre)⟩
    | label l =>
      have h' : (some (X.n, e, st) : Option (X × Env × St)) = some (x, e', st') := h
      injection h' with h'; injection h' with h1 h'; injection h' with h2 h3; subst h1 h2 h3
      exact ⟨.refl _ _, fun B0 ρ τ w a he ht hag hre hf Q hQ => wp_label (cont_refl hQ he ht hre)⟩
    | exit i =>
      have h' : (some (X.ex i, e, st) : Option (X × Env × St)) = some (x, e', st') := h
      injection h' with h'; injection h' with h1 h'; injection h' with h2 h3; subst h1 h2 h3
      exact ⟨.refl _ _, fun B0 ρ τ w a he ht hag hre hf Q hQ => wp_exit (cont_refl hQ he ht hre)⟩
    | ret =>
      have h' : (some (X.ret, e, st) : Option (X × Env × St)) = some (x, e', st') := h
      injection h' with h'; injection h' with h1 h'; injection h' with h2 h3; subst h1 h2 h3
      exact ⟨.refl _ _, fun B0 ρ τ w a he ht hag hre hf Q hQ => wp_ret (cont_refl hQ he ht hre)⟩
    | region id ops d =>
      cases d with
      | false =>
        have h' : (match evOps P (F) c ops.toList ops.toList e st with
          | none => none
          | some (e, st) => some (X.n, e, st)) = some (x, e', st') := h
        split at h'
        · cases h'
        · rename_i e1 st1 hop
          injection h' with h'; injection h' with h1 h'; injection h' with h2 h3; subst h1 h2 h3
          obtain ⟨s1, k1⟩ := evOps_ok hcall hn hbody hop hwf
          exact ⟨s1, fun B0 ρ τ w a he ht hag hre hf Q hQ => wp_region_list (k1 B0 ρ τ w a he ht hag hre hf Q hQ)⟩
      | true =>
        have h' : (match regOk ops.toList with
          | true => (match evDraw P (F) c ops.toList ops.toList 0 [] e st with
            | none => none
            | some (e, st) => some (X.n, e, st))
          | false => none) = some (x, e', st') := h
        split at h'
        · rename_i hreg
          split at h'
          · cases h'
          · rename_i e1 st1 hop
            injection h' with h'; injection h' with h1 h'; injection h' with h2 h3; subst h1 h2 h3
            exact hd _ hcall hbody c ops id e e1 st st1 hreg hop hwf
        · cases h'
    | seq a b =>
      have h' : (match evG P F n c a e st with
        | some (.n, e, st) => evG P F n c b e st
        | r => r) = some (x, e', st') := h
      split at h'
      · rename_i e1 st1 hb
        obtain ⟨s1, k1⟩ := ihc _ _ _ _ _ _ _ hb hwf
        obtain ⟨s2, k2⟩ := ihc _ _ _ _ _ _ _ h' (s1.wf hwf)
        refine ⟨s1.trans s2, fun B0 ρ τ w a he ht hag hre hf Q hQ => wp_seq ?_⟩
        refine k1 B0 ρ τ w a he ht hag hre (hf.left s2.le) _ ?_
        exact cont_step s1 s2 hwf hag hf hQ fun ρ' a' w' he' ht' hag' hre' hf' hc' => k2 B0 ρ' _ w' a' he' ht' hag' hre' hf' Q hc'
      · rename_i hne
        obtain ⟨s1, k1⟩ := ihc _ _ _ _ _ _ _ h' hwf
        refine ⟨s1, fun B0 ρ τ w a he ht hag hre hf Q hQ => wp_seq ?_⟩
        refine k1 B0 ρ τ w a he ht hag hre hf _ fun ρ' a' w' q1 q2 q3 q4 q5 q6 q7 => ?_
        have := hQ ρ' a' w' q1 q2 q3 q4 q5 q6 q7
        cases x with
        | n => exact (hne e' st' h').elim
        | ex i => exact this
        | ret => exact this
    | cond y a b =>
      have h' : (opd e y fun v => (match v with
        | .c (.bool true) => evG P F n c a e st
        | .c (.bool false) => evG P F n c b e st
        | _ => none)) = some (x, e', st') := h
      obtain ⟨v, h1, h2⟩ := opd_inv h'
      split at h1
      · obtain ⟨s1, k1⟩ := ihc _ _ _ _ _ _ _ h1 hwf
        refine ⟨s1, fun B0 ρ τ w a he ht hag hre hf Q hQ => wp_cond_true ?_ (k1 B0 ρ τ w a he ht hag hre hf Q hQ)⟩
        exact rel_true (h2 ρ a (he.tmp y))
      · obtain ⟨s1, k1⟩ := ihc _ _ _ _ _ _ _ h1 hwf
        refine ⟨s1, fun B0 ρ τ w a he ht hag hre hf Q hQ => wp_cond_false ?_ (k1 B0 ρ τ w a he ht hag hre hf Q hQ)⟩
        exact rel_true (h2 ρ a (he.tmp y))
      · cases h1
    | block i b =>
      have h' : (match evG P F n c b e st with
        | some (.ex j, e, st) => (match Nat.beq j i with | true => some (X.n, e, st) | false => some (.ex j, e, st))
        | r => r) = some (x, e', st') := h
      split at h'
      · rename_i j e1 st1 hb
        obtain ⟨s1, k1⟩ := ihc _ _ _ _ _ _ _ hb hwf
        split at h'
        · rename_i hj
          injection h' with h'; injection h' with h1 h'; injection h' with h2 h3; subst h1 h2 h3
          have hj' : j = i := by simpa [nbeq] using hj
          refine ⟨s1, fun B0 ρ τ w a he ht hag hre hf Q hQ => wp_block (k1 B0 ρ τ w a he ht hag hre hf _ fun ρ' a' w' q1 q2 q3 q4 q5 q6 q7 => ?_)⟩
          show Exit.inBlock i Q (.exit j) a' w'
          simp only [Exit.inBlock, hj', if_true]
          exact hQ ρ' a' w' q1 q2 q3 q4 q5 q6 q7
        · rename_i hj
          injection h' with h'; injection h' with h1 h'; injection h' with h2 h3; subst h1 h2 h3
          have hj' : ¬ j = i := by simpa [nbeq] using hj
          refine ⟨s1, fun B0 ρ τ w a he ht hag hre hf Q hQ => wp_block (k1 B0 ρ τ w a he ht hag hre hf _ fun ρ' a' w' q1 q2 q3 q4 q5 q6 q7 => ?_)⟩
          show Exit.inBlock i Q (.exit j) a' w'
          simp only [Exit.inBlock, hj', if_false]
          exact hQ ρ' a' w' q1 q2 q3 q4 q5 q6 q7
      · rename_i hne
        obtain ⟨s1, k1⟩ := ihc _ _ _ _ _ _ _ h' hwf
        refine ⟨s1, fun B0 ρ τ w a he ht hag hre hf Q hQ => wp_block (k1 B0 ρ τ w a he ht hag hre hf _ fun ρ' a' w' q1 q2 q3 q4 q5 q6 q7 => ?_)⟩
        have := hQ ρ' a' w' q1 q2 q3 q4 q5 q6 q7
        cases x with
        | n => exact this
        | ex i => exact (hne _ e' st' h').elim
        | ret => exact this
    | loop b =>
      obtain ⟨m, s1, k1⟩ := loop _ _ _ _ _ _ _ h hwf
      exact ⟨s1, fun B0 ρ τ w a he ht hag hre hf Q hQ => wp_loop_rounds m (k1 B0 ρ τ w a he ht hag hre hf Q hQ)⟩
    | rangeFunc f ps as b => cases h
    | scope b => cases h
    | goto l => cases h
    | refuse y => cases h
theorem Below.weak {B0 B1 : Nat} {w w' : World} (h : Below B1 w w') (k : B0 ≤ B1) : Below B0 w w' := by
  obtain ⟨h1, h2, h3, h4, h5⟩ := h
  exact ⟨h1, h2, h3, h4, fun j hj => h5 j (Nat.lt_of_lt_of_le hj k)⟩
theorem orac_sound {fa : Nat} {fn : Func} {b : Code} {n : Nat} (hf : P.funcs[fa]? = some fn) (hb : fn.body = some b) (hq : CodeSound P (evQ P n)) (ha : ∀ w, Calls P fa #[] w fun e w' => e = .returned (.bool true) ∧ Below w.heap.size w w') :
    CallSound P (orac P n fa) ∧ HasBody P (orac P n fa) := by
  have hc := callOf_sound hq
  have hbd : HasBody P (callOf P (evQ P n)) := callOf_body
  constructor
  · intro c f args st v st' h hwf
    unfold orac at h
    split at h
    · rename_i he
      have he' : f = fa := by simpa [nbeq] using he
      subst he'
      obtain ⟨rfl, rfl⟩ := some_inv h
      refine ⟨.refl _ _, fun B0 ρ τ w vs hvs hag hre hfr R hR => ?_⟩
      simp only [RelL] at hvs
      subst hvs
      refine (ha w).mono fun e w' ⟨h1, h2⟩ => ?_
      subst h1
      have hsz := h2.size
      refine hR ρ _ w' (Rho.le_refl _) (Dom.refl _ _ _) (rel_bool _) ?_ (Below.weak h2 hre.size)
      rw [ov_self]
      refine ⟨Nat.le_trans hre.size hsz, fun n b hb' => ?_, hre.inj⟩
      obtain ⟨r, k1, k2, k3, k4⟩ := hre.blk n b hb'
      exact ⟨r, k1, k2, Nat.lt_of_lt_of_le k3 hsz, k4.congr (h2.block r.block k3)⟩
    · exact hc _ _ _ _ _ _ h hwf
  · intro c f args st r h
    unfold orac at h
    split at h
    · rename_i he
      have he' : f = fa := by simpa [nbeq] using he
      subst he'
      exact ⟨fn, b, hf, hb⟩
    · exact hbd _ _ _ _ _ h
theorem evG_sound (hn : namesOk P = true) (hm : P.follows .mixedOrders = true) {F : CallF} (h : CallSound P F ∧ HasBody P F) (n : Nat) : CodeSound P (evG P F n) :=
  (evG_ok (draw_sound (named_of hn) hm) (named_of hn) h.1 h.2 n).1
theorem Good.run {G : CodeF} (hG : CodeSound P G) : ∀ {m : Nat} {B : Code} {e e1 : Env} {st st1 : St}, runL G ⟨false, [], 0, fn.ntmps⟩ m B e st = some (e1, st1) → Good P fn (dropC m B) e1 st1 → Good P fn B e st
  | 0, B, e, e1, st, st1, h, k => by
    have h' : (some (e, st) : Option (Env × St)) = some (e1, st1) := h
    injection h' with h'; injection h' with h1 h2; subst h1 h2
    exact k
  | m + 1, B, e, e1, st, st1, h, k => by
    cases B with
    | seq a b =>
      have h' : (match G ⟨false, [], 0, fn.ntmps⟩ a e st with
        | some (.n, e, st) => runL G ⟨false, [], 0, fn.ntmps⟩ m b e st
        | _ => none) = some (e1, st1) := h
      have k' : Good P fn (dropC m b) e1 st1 := k
      clear h k
      split at h'
      · rename_i e2 st2 hev
        have g2 := Good.run hG h' k'
        intro hwf B0 ρ τ w0 w a' he ht hd hag hre hfr hb
        obtain ⟨s1, k1⟩ := hG _ _ _ _ _ _ _ hev hwf
        refine wp_seq (k1 B0 ρ τ w a' he ht hag hre (fun n h1 _ => hfr n h1) _ ?_)
        intro ρ' a2 w2 l d he2 ht2 hd2 m2 b2
        exact g2 (s1.wf hwf) B0 ρ' _ w0 w2 a2 he2 ht2 (hd2.trans hd) (hag.step s1 hwf) m2 (fun n h1 => by
          cases e : ρ' n with
          | none => rfl
          | some r =>
            rcases d n r e with e | e
            · rw [hfr n (Nat.le_trans s1.le h1)] at e; cases e
            · omega) (hb.trans b2)
      · cases h'
    | _ => cases h
theorem gc_get (st : St) : ∀ (keep : List Nat) (t : T B) (n : Nat) (b : B), (lr (fun t => t) (fun n _ ih t => match st.h.get n with | some b => ih (t.set n b) | none => ih t) keep t : T B).get n = some b → t.get n = some b ∨ st.h.get n = some b
  | [], _, _, _, h => .inl h
  | k :: l, t, n, b, h => by
    rw [lr_cons] at h
    split at h
    · rename_i b' hb
      rcases gc_get st l _ n b h with h1 | h1
      · rw [T.get_set] at h1
        split at h1
        · rename_i e; subst e; right; rw [hb]; exact h1
        · exact .inl h1
      · exact .inr h1
    · exact gc_get st l _ n b h
theorem gc_sub {keep : List Nat} {st : St} {n : Nat} {b : B} (h : (gc keep st).h.get n = some b) : st.h.get n = some b := by
  rcases gc_get st keep .lf n b h with h | h
  · simp at h
  · exact h
theorem Good.gc {B : Code} {e : Env} {st : St} {keep : List Nat} (k : Good P fn B e (Ev.gc keep st)) : Good P fn B e st := fun hwf B0 ρ τ w0 w a he ht hd hag hre hfr hb =>
  k (fun n hn => by
    cases h : (Ev.gc keep st).h.get n with
    | none => rfl
    | some b => have := gc_sub h; rw [hwf n hn] at this; cases this) B0 ρ τ w0 w a he ht hd (fun n b h1 h2 => hag n b h1 (gc_sub h2)) hre hfr hb
theorem Good.step {G : CodeF} (hG : CodeSound P G) {m : Nat} {B : Code} {keep : List Nat} {e e1 : Env} {st st1 : St} (h : stepC G ⟨false, [], 0, fn.ntmps⟩ m B keep e st = some (e1, st1)) (k : Good P fn (dropC m B) e1 st1) : Good P fn B e st := by
  unfold stepC at h
  split at h
  · rename_i e2 st2 hr
    injection h with h; injection h with h1 h2; subst h1 h2
    exact Good.run hG hr k.gc
  · cases h
theorem Good.last {G : CodeF} (hG : CodeSound P G) {B : Code} {e : Env} {st : St} (h : lastC P G fn B e st = true) : Good P fn B e st := by
  intro hwf B0 ρ τ w0 w a he ht hd hag hre hfr hb
  have main : ∀ (x : X) (e1 : Env) (st1 : St), G ⟨false, [], 0, fn.ntmps⟩ B e st = some (x, e1, st1) → (x.exit = .normal ∨ x.exit = .ret) → (match resOf P ⟨false, [], 0, fn.ntmps⟩ e1 st1 fn.results.toList fun l => (match l with | [x] => some (x, st1) | l => some (.t l, st1)) with | some (.c (.bool true), _) => true | _ => false) = true → B.wp P (Fin P fn B0 w0) a w := by
    intro x e1 st1 hev hx hr
    obtain ⟨s1, k1⟩ := hG _ _ _ _ _ _ _ hev hwf
    refine k1 B0 ρ τ w a he ht hag hre (fun n h1 _ => hfr n h1) _ ?_
    intro ρ' a2 w2 l d he2 ht2 hd2 m2 b2
    split at hr
    · rename_i st2 hres
      obtain ⟨rs, h3, h4⟩ := resOf_ok hres
      obtain ⟨xs, g1, g2⟩ := h4 B0 ρ' _ w2 a2 he2 (hag.step s1 hwf) m2
      split at h3
      · obtain ⟨rfl, _⟩ := some_inv h3
        obtain ⟨yv, rfl, hy⟩ := relL1 g1
        simp only [Rel] at hy
        obtain ⟨rfl, _⟩ := hy
        refine ⟨hx, hd2.trans hd, ?_, hb.trans b2⟩
        have hmap : (fn.results.mapM fun x => (match x with | .tmp t => pure (a2.tmps.getD t undef) | .cell q t => do loadVar t (← asAddr (a2.tmps.getD q undef)) : Sem Value)).run P w2 = .ok [Value.bool true].toArray w2 := by
          have g2' : (fn.results.toList.mapM fun x => (match x with | .tmp t => pure (a2.tmps.getD t undef) | .cell q t => do loadVar t (← asAddr (a2.tmps.getD q undef)) : Sem Value)).run P w2 = .ok [Value.bool true] w2 := g2
          rw [Array.mapM_eq_mapM_toList]
          simp only [Sem.run_map, g2', Result.andThen_ok]
        unfold results
        rw [Sem.run_bind]
        exact congrArg (fun r : Result (Array Value) => r.andThen fun vs w' => (pure (if h : vs.size = 1 then vs[0] else .tuple vs) : Sem Value).run P w') hmap
      · rename_i hne
        have := (some_inv h3).1
        cases this
    · cases hr
  unfold lastC at h
  split at h
  · rename_i e1 st1 hev; exact main _ _ _ hev (.inl rfl) h
  · rename_i e1 st1 hev; exact main _ _ _ hev (.inr rfl) h
  · cases h
theorem Good.calls {f : Nat} {B : Code} (hf : P.funcs[f]? = some fn) (hb : fn.body = some B) (g : Good P fn B .lf ⟨0, .lf⟩) (w : World) : Calls P f #[] w fun e w' => e = .returned (.bool true) ∧ Below w.heap.size w w' := by
  refine calls_of_wp hf hb (Code.wp_mono ?_ (g wf_zero w.heap.size (fun _ => none) (fun _ => none) w w _ (env_init (ρ := fun _ => none) (args := []) (vs := []) .nil fn.ntmps) (by simp) rfl (fun n b _ hb => by simp at hb) ⟨Nat.le_refl _, fun n b e => (by cases e), fun n m b b' r r' e => (by cases e)⟩ (fun _ _ => rfl) (Below.refl _ _)))
  rintro ex a w' ⟨hx, hd, hr, hbel⟩
  rcases hx with rfl | rfl
  · exact ⟨hd, _, hr, rfl, hbel⟩
  · exact ⟨hd, _, hr, rfl, hbel⟩
/-! ### pieces of a loop: what is left of it is itself, begun in another state -/
def GoodR (P : Program) (fn : Func) (k : Nat) (b rest : Code) (n : Nat) (e : Env) (st : St) : Prop := Wf st → ∀ (B0 : Nat) (ρ : Rho) (τ : Mem) (w0 w : World) (a : Act), EnvRel ρ e a → fn.ntmps ≤ a.tmps.size → a.defers = [] → Agree ⟨false, [], 0, fn.ntmps⟩ st τ → Real ρ B0 τ w → (∀ n, st.nx ≤ n → ρ n = none) → Below B0 w0 w →
  Code.rounds P b (Exit.inBlock k (Exit.then (rest.wp P (Fin P fn B0 w0)) (Fin P fn B0 w0))) n a w
theorem GoodR.enter {k : Nat} {b rest : Code} {n : Nat} {e : Env} {st : St} (g : GoodR P fn k b rest n e st) : Good P fn (.seq (.block k (.loop b)) rest) e st := fun hwf B0 ρ τ w0 w a he ht hd hag hre hfr hb =>
  wp_seq (wp_block (wp_loop_rounds n (g hwf B0 ρ τ w0 w a he ht hd hag hre hfr hb)))
theorem GoodR.gc {k : Nat} {b rest : Code} {n : Nat} {e : Env} {st : St} {keep : List Nat} (g : GoodR P fn k b rest n e (Ev.gc keep st)) : GoodR P fn k b rest n e st := fun hwf B0 ρ τ w0 w a he ht hd hag hre hfr hb =>
  g (fun n hn => by
    cases h : (Ev.gc keep st).h.get n with
    | none => rfl
    | some b => have := gc_sub h; rw [hwf n hn] at this; cases this) B0 ρ τ w0 w a he ht hd (fun n b h1 h2 => hag n b h1 (gc_sub h2)) hre hfr hb
/-- some rounds -/
noncomputable def runR (G : CodeF) (c : Cx) (m : Nat) (b : Code) (e : Env) (st : St) : Option (Env × St) :=
  nr (fun e st => some (e, st)) (fun _ ih e st => match G c b e st with
    | some (.n, e, st) => ih e st
    | _ => none) m e st
noncomputable def stepR (G : CodeF) (c : Cx) (m : Nat) (b : Code) (keep : List Nat) (e : Env) (st : St) : Option (Env × St) := match runR G c m b e st with
  | some (e, st) => some (e, gc keep st)
  | none => none
theorem GoodR.run {G : CodeF} (hG : CodeSound P G) {k : Nat} {b rest : Code} {n : Nat} : ∀ {m : Nat} {e e1 : Env} {st st1 : St}, runR G ⟨false, [], 0, fn.ntmps⟩ m b e st = some (e1, st1) → GoodR P fn k b rest n e1 st1 → GoodR P fn k b rest (n + m) e st
  | 0, e, e1, st, st1, h, g => by
    have h' : (some (e, st) : Option (Env × St)) = some (e1, st1) := h
    injection h' with h'; injection h' with h1 h2; subst h1 h2
    exact g
  | m + 1, e, e1, st, st1, h, g => by
    have h' : (match G ⟨false, [], 0, fn.ntmps⟩ b e st with
      | some (.n, e, st) => runR G ⟨false, [], 0, fn.ntmps⟩ m b e st
      | _ => none) = some (e1, st1) := h
    clear h
    split at h'
    · rename_i e2 st2 hev
      have g2 := GoodR.run hG h' g
      intro hwf B0 ρ τ w0 w a' he ht hd hag hre hfr hb
      obtain ⟨s1, k1⟩ := hG _ _ _ _ _ _ _ hev hwf
      show Code.rounds P b _ ((n + m) + 1) a' w
      rw [rounds_succ]
      refine k1 B0 ρ τ w a' he ht hag hre (fun n h1 _ => hfr n h1) _ ?_
      intro ρ' a2 w2 l d he2 ht2 hd2 m2 b2
      exact g2 (s1.wf hwf) B0 ρ' _ w0 w2 a2 he2 ht2 (hd2.trans hd) (hag.step s1 hwf) m2 (fun n h1 => by
        cases e : ρ' n with
        | none => rfl
        | some r =>
          rcases d n r e with e | e
          · rw [hfr n (Nat.le_trans s1.le h1)] at e; cases e
          · omega) (hb.trans b2)
    · cases h'
theorem GoodR.step {G : CodeF} (hG : CodeSound P G) {k : Nat} {b rest : Code} {n m : Nat} {keep : List Nat} {e e1 : Env} {st st1 : St} (h : stepR G ⟨false, [], 0, fn.ntmps⟩ m b keep e st = some (e1, st1)) (g : GoodR P fn k b rest n e1 st1) : GoodR P fn k b rest (n + m) e st := by
  unfold stepR at h
  split at h
  · rename_i e2 st2 hr
    injection h with h; injection h with h1 h2; subst h1 h2
    exact GoodR.run hG hr g.gc
  · cases h
noncomputable def exitR (G : CodeF) (c : Cx) (k : Nat) (b : Code) (keep : List Nat) (e : Env) (st : St) : Option (Env × St) := match G c (.loop b) e st with
  | some (.ex j, e, st) => (match Nat.beq j k with | true => some (e, gc keep st) | false => none)
  | _ => none
theorem evQ_loop (hn : namesOk P = true) (hm : P.follows .mixedOrders = true) (n : Nat) : LoopSound P (evQ P n) := by
  rw [evQ_eq]
  exact (ev_ok (draw_sound (named_of hn) hm) (named_of hn) n).2
theorem GoodR.exit {G : CodeF} (hL : LoopSound P G) {k : Nat} {b rest : Code} {keep : List Nat} {e e1 : Env} {st st1 : St} (h : exitR G ⟨false, [], 0, fn.ntmps⟩ k b keep e st = some (e1, st1)) (g : Good P fn rest e1 st1) : ∃ n, GoodR P fn k b rest n e st := by
  unfold exitR at h
  split at h
  · rename_i j e2 st2 hev
    split at h
    · rename_i hj
      have hj' : j = k := by simpa [nbeq] using hj
      subst hj'
      injection h with h; injection h with h1 h2; subst h1 h2
      have g2 := g.gc
      by_cases hwf : Wf st
      · obtain ⟨n, s1, k1⟩ := hL _ _ _ _ _ _ _ hev hwf
        refine ⟨n, fun _ B0 ρ τ w0 w a' he ht hd hag hre hfr hb => k1 B0 ρ τ w a' he ht hag hre (fun n h1 _ => hfr n h1) _ ?_⟩
        intro ρ' a2 w2 l d he2 ht2 hd2 m2 b2
        show Exit.inBlock j _ (.exit j) a2 w2
        simp only [Exit.inBlock, if_true]
        exact g2 (s1.wf hwf) B0 ρ' _ w0 w2 a2 he2 ht2 (hd2.trans hd) (hag.step s1 hwf) m2 (fun n h1 => by
          cases e : ρ' n with
          | none => rfl
          | some r =>
            rcases d n r e with e | e
            · rw [hfr n (Nat.le_trans s1.le h1)] at e; cases e
            · omega) (hb.trans b2)
      · exact ⟨0, fun h => absurd h hwf⟩
    · cases h
  · cases h
noncomputable def lbC (B : Code) : Code := match B with | .seq (.block _ (.loop b)) _ => b | _ => .skip
/-- with what came in -/
theorem Good.callsA {f : Nat} {B : Code} {args : List V} {vs : List Value} (hf : P.funcs[f]? = some fn) (hb : fn.body = some B) (ha : RelL (fun _ => none) args vs) (hl : vs.length ≤ fn.ntmps) (g : Good P fn B (sets args 0 .lf) ⟨0, .lf⟩) (w : World) : Calls P f ⟨vs⟩ w fun e w' => e = .returned (.bool true) ∧ Below w.heap.size w w' := by
  refine calls_of_wp hf hb (Code.wp_mono ?_ (g wf_zero w.heap.size (fun _ => none) (fun _ => none) w w _ (env_init (ρ := fun _ => none) ha fn.ntmps) (by simp; omega) rfl (fun n b _ hb => by simp at hb) ⟨Nat.le_refl _, fun n b e => (by cases e), fun n m b b' r r' e => (by cases e)⟩ (fun _ _ => rfl) (Below.refl _ _)))
  rintro ex a w' ⟨hx, hd, hr, hbel⟩
  rcases hx with rfl | rfl
  · exact ⟨hd, _, hr, rfl, hbel⟩
  · exact ⟨hd, _, hr, rfl, hbel⟩
end
end Go.Proofs.Ytenncnbaoejekaa.Ev

/-
  PLAIN: the evaluator's code and calls are the model's.
-/
import Derived.Test.YtenncnbaoejekaaEvP
import Derived.LoopN
namespace Go.Proofs.Ytenncnbaoejekaa.Ev
open Go.RowKit

def HasBody (P : Program) (call : CallF) : Prop := ∀ c f args st r, call c f args st = some r → ∃ fn b, P.funcs[f]? = some fn ∧ fn.body = some b
/-- what is asked of regions that draw -/
def DrawSound (P : Program) : Prop := ∀ (call : CallF), CallSound P call → HasBody P call → ∀ (c : Cx) (ops : Array Oper) (id : Nat) (e e' : Env) (st st' : St), regOk ops.toList = true → evDraw P call c ops.toList ops.toList 0 [] e st = some (e', st') → Wf st → StepOk c st st' ∧
  ∀ (B0 : Nat) (ρ : Rho) (τ : Mem) (w : World) (a : Act), EnvRel ρ e a → c.nt ≤ a.tmps.size → Agree c st τ → Real ρ B0 τ w → Fresh ρ st st' → ∀ Q : Exit → Act → World → Prop, Cont c st st' e' B0 ρ τ w a (Q .normal) → (Code.region id ops true).wp P Q a w
def X.exit : X → Exit
  | .n => .normal
  | .ex i => .exit i
  | .ret => .ret
def CodeSound (P : Program) (F : CodeF) : Prop := ∀ (c : Cx) (code : Code) (e : Env) (st : St) (x : X) (e' : Env) (st' : St), F c code e st = some (x, e', st') → Wf st → StepOk c st st' ∧
  ∀ (B0 : Nat) (ρ : Rho) (τ : Mem) (w : World) (a : Act), EnvRel ρ e a → c.nt ≤ a.tmps.size → Agree c st τ → Real ρ B0 τ w → Fresh ρ st st' → ∀ Q : Exit → Act → World → Prop, Cont c st st' e' B0 ρ τ w a (Q x.exit) → code.wp P Q a w
section
variable {P : Program}
theorem cont_refl {c : Cx} {st : St} {e : Env} {B0 : Nat} {ρ : Rho} {τ : Mem} {w : World} {a : Act} {K : Act → World → Prop} (h : Cont c st st e B0 ρ τ w a K) (he : EnvRel ρ e a) (ht : c.nt ≤ a.tmps.size) (hre : Real ρ B0 τ w) : K a w :=
  h ρ a w (Rho.le_refl _) (Dom.refl _ _ _) he ht rfl (by rw [ov_self]; exact hre) (Below.refl _ _)
theorem cont_step {c : Cx} {s1 s2 s3 : St} {e2 e3 : Env} {B0 : Nat} {ρ : Rho} {τ : Mem} {w : World} {a : Act} {K K' : Act → World → Prop} (k1 : StepOk c s1 s2) (k2 : StepOk c s2 s3) (hw : Wf s1) (hag : Agree c s1 τ) (hf : Fresh ρ s1 s3)
    (h : Cont c s1 s3 e3 B0 ρ τ w a K) (hk : ∀ (ρ' : Rho) (a' : Act) (w' : World), EnvRel ρ' e2 a' → c.nt ≤ a'.tmps.size → Agree c s2 (ov s1 s2 τ) → Real ρ' B0 (ov s1 s2 τ) w' → Fresh ρ' s2 s3 → Cont c s2 s3 e3 B0 ρ' (ov s1 s2 τ) w' a' K → K' a' w') : Cont c s1 s2 e2 B0 ρ τ w a K' := by
  intro ρ1 a1 w1 l1 d1 he1 ht1 hd1 m1 b1
  refine hk ρ1 a1 w1 he1 ht1 (hag.step k1 hw) m1 (hf.right k1.le d1) ?_
  intro ρ2 a2 w2 l2 d2 he2 ht2 hd2 m2 b2
  exact h ρ2 a2 w2 (l1.trans l2) (d1.trans d2 k1.le k2.le) he2 ht2 (hd2.trans hd1) (by rw [ov_trans k1 k2 hw hag] at m2; exact m2) (b1.trans b2)
/-! ### calls -/
theorem initE_eq {β : Type} : ∀ (l : List V) (i : Nat) (e : Env) (k : Env → β), initE l i e k = k (sets l i e)
  | [], _, _, _ => rfl
  | v :: l, i, e, k => by
    have h : initE (v :: l) i e k = e.setK i v fun e => fn (i + 1) fun i => initE l i e k := rfl
    rw [h, T.setK_eq, fn_eq, initE_eq]
    rfl
theorem env_init {ρ : Rho} {args : List V} {vs : List Value} (h : RelL ρ args vs) (n : Nat) : EnvRel ρ (sets args 0 .lf) { tmps := (⟨vs⟩ : Array Value) ++ Array.replicate (n - vs.length) undef, defers := [] } := fun t => by
  rw [get_sets]
  have hl := h.length
  simp only [Array.getD_eq_getD_getElem?]
  by_cases ht : t < args.length
  · rw [if_pos (by omega), Array.getElem?_append_left (by simpa using (by omega : t < vs.length))]
    simp only [Nat.sub_zero]
    obtain ⟨y, h1, h2⟩ := h.get (List.getElem?_eq_getElem ht)
    rw [List.getElem?_eq_getElem ht]
    simp only [List.getElem?_toArray, h1, Option.getD_some]
    exact h2
  · rw [if_neg (by omega)]
    simp only [T.get_lf, Option.getD_none]
    rw [Array.getElem?_append_right (by simpa using (by omega : vs.length ≤ t))]
    by_cases hr : t - vs.length < n - vs.length
    · rw [Array.getElem?_replicate, if_pos (by simpa using hr)]; exact rel_u
    · rw [Array.getElem?_replicate, if_neg (by simpa using hr)]; exact rel_u
/-- results -/
theorem resOf_ok {c : Cx} {e : Env} {st st' : St} {v : V} : ∀ {l : List ResultVar} {k : List V → Option (V × St)}, resOf P c e st l k = some (v, st') →
    ∃ vs, k vs = some (v, st') ∧ ∀ (B0 : Nat) (ρ : Rho) (τ : Mem) (w : World) (a : Act), EnvRel ρ e a → Agree c st τ → Real ρ B0 τ w →
      ∃ xs, RelL ρ vs xs ∧ (l.mapM fun x => (match x with | .tmp t => pure (a.tmps.getD t undef) | .cell q t => do loadVar t (← asAddr (a.tmps.getD q undef)) : Sem Value)).run P w = .ok xs w
  | [], k, h => ⟨[], h, fun B0 ρ τ w a _ _ _ => ⟨[], .nil, by simp⟩⟩
  | .tmp t :: l, k, h => by
    have h' : (match e.get t with
      | some x => resOf P c e st l fun r => k (x :: r)
      | _ => none) = some (v, st') := h
    split at h'
    · rename_i x hx
      obtain ⟨vs, h1, h2⟩ := resOf_ok h'
      refine ⟨x :: vs, h1, fun B0 ρ τ w a he hag hre => ?_⟩
      obtain ⟨xs, k1, k2⟩ := h2 B0 ρ τ w a he hag hre
      have := he t
      rw [hx] at this
      refine ⟨a.tmps.getD t undef :: xs, .cons this k1, ?_⟩
      rw [List.mapM_cons]
      simp only [Sem.run_bind, Sem.run_pure, Result.andThen_ok, k2]
    · cases h'
  | .cell t ty :: l, k, h => by
    have h' : (match e.get t with
      | some (.p n i) => loadE P c st ty n i fun w => resOf P c e st l fun r => k (w :: r)
      | _ => none) = some (v, st') := h
    split at h'
    · rename_i n i hx
      obtain ⟨x, h3, h4⟩ := load_ok h'
      obtain ⟨vs, h1, h2⟩ := resOf_ok h3
      refine ⟨x :: vs, h1, fun B0 ρ τ w a he hag hre => ?_⟩
      obtain ⟨xs, k1, k2⟩ := h2 B0 ρ τ w a he hag hre
      have hp := he t
      rw [hx] at hp
      simp only [Option.getD_some, Rel] at hp
      obtain ⟨r, hr, hp⟩ := hp
      obtain ⟨y, k3, k4⟩ := h4 B0 ρ τ w r hag hre hr
      refine ⟨y :: xs, .cons k3 k1, ?_⟩
      have e1 : (do loadVar ty (← asAddr (a.tmps.getD t undef)) : Sem Value).run P w = .ok y w := by
        rw [hp, Sem.run_bind]
        exact k4
      rw [List.mapM_cons, Sem.run_bind]
      show ((do loadVar ty (← asAddr (a.tmps.getD t undef)) : Sem Value).run P w).andThen _ = _
      rw [e1]
      simp only [Sem.run_bind, Sem.run_pure, Result.andThen_ok, k2]
    · cases h'
theorem callOf_body {F : CodeF} : HasBody P (callOf P F) := fun c f args st r h => by
  unfold callOf at h
  split at h
  · cases h
  · rename_i fn hf
    rw [lget_eq] at hf
    split at h
    · cases h
    · rename_i b hb
      exact ⟨fn, b, by simpa using hf, hb⟩
theorem callOf_sound {F : CodeF} (hF : CodeSound P F) : CallSound P (callOf P F) := by
  intro cx f args st v st' h hwf
  unfold callOf at h
  split at h
  · cases h
  · rename_i fn hf
    rw [lget_eq] at hf
    have hf' : P.funcs[f]? = some fn := by simpa using hf
    split at h
    · cases h
    · rename_i b hb
      rw [initE_eq] at h
      have main : ∀ (x : X) (e1 : Env) (st1 : St), F ⟨cx.all, cx.l, cx.wb, fn.ntmps⟩ b (sets args 0 .lf) st = some (x, e1, st1) → (x = .n ∨ x = .ret) → (resOf P cx e1 st1 fn.results.toList fun l => (match l with
          | [x] => (some (x, st1) : Res)
          | l => some (.t l, st1))) = some (v, st') → StepOk cx st st' ∧ ∀ (B0 : Nat) (ρ : Rho) (τ : Mem) (w : World) (vs : List Value), RelL ρ args vs → Agree cx st τ → Real ρ B0 τ w → Fresh ρ st st' → ∀ R : Ending → World → Prop,
          (∀ (ρ' : Rho) (v' : Value) (w' : World), ρ.le ρ' → Dom ρ ρ' st st' → Rel ρ' v v' → Real ρ' B0 (ov st st' τ) w' → Below B0 w w' → R (.returned v') w') → Calls P f ⟨vs⟩ w R := fun x e1 st1 hx hxx hr => by
        obtain ⟨s1, k1⟩ := hF _ _ _ _ _ _ _ hx hwf
        have s1' : StepOk cx st st1 := ⟨s1.le, s1.chg, s1.wf⟩
        obtain ⟨rs, h3, h4⟩ := resOf_ok hr
        have hst : st1 = st' := by
          split at h3
          · exact (some_inv h3).2
          · exact (some_inv h3).2
        subst hst
        refine ⟨s1', fun B0 ρ τ w vs hvs hag hre hfr R hR => ?_⟩
        refine calls_of_wp hf' hb ?_
        refine k1 B0 ρ τ w _ (env_init hvs fn.ntmps) ?_ hag hre hfr _ fun ρ1 a1 w1 l1 d1 he1 ht1 hd1 m1 b1 => ?_
        · simp only [Array.size_append, List.size_toArray, Array.size_replicate]; omega
        · obtain ⟨xs, g1, g2⟩ := h4 B0 ρ1 _ w1 a1 he1 (hag.step s1' hwf) m1
          have hres : ∃ v', Rel ρ1 v v' ∧ (results fn a1.tmps).run P w1 = .ok v' w1 := by
            have hmap : (fn.results.mapM fun x => (match x with | .tmp t => pure (a1.tmps.getD t undef) | .cell q t => do loadVar t (← asAddr (a1.tmps.getD q undef)) : Sem Value)).run P w1 = .ok xs.toArray w1 := by
              rw [Array.mapM_eq_mapM_toList]
              simp only [Sem.run_map, g2, Result.andThen_ok]
            have hgen : (results fn a1.tmps).run P w1 = .ok (if h : xs.toArray.size = 1 then xs.toArray[0] else .tuple xs.toArray) w1 := by
              unfold results
              rw [Sem.run_bind]
              exact congrArg (fun r : Result (Array Value) => r.andThen fun vs w' => (pure (if h : vs.size = 1 then vs[0] else .tuple vs) : Sem Value).run P w') hmap
            rw [hgen]
            split at h3
            · obtain ⟨rfl, _⟩ := some_inv h3
              obtain ⟨y, rfl, hy⟩ := relL1 g1
              exact ⟨y, hy, by simp⟩
            · rename_i hne
              obtain ⟨rfl, _⟩ := some_inv h3
              have hlen := g1.length
              have hn1 : ¬ xs.length = 1 := fun e => by
                rw [e] at hlen
                obtain ⟨q, rfl⟩ := List.length_eq_one_iff.1 hlen.symm
                exact hne q rfl
              refine ⟨.tuple xs.toArray, ?_, by simp [hn1]⟩
              simp only [Rel]
              exact ⟨xs, rfl, g1⟩
          obtain ⟨v', hv, hres⟩ := hres
          have hfin := hR ρ1 v' w1 l1 d1 hv m1 b1
          rcases hxx with rfl | rfl
          · exact ⟨hd1, v', hres, hfin⟩
          · exact ⟨hd1, v', hres, hfin⟩
      split at h
      · rename_i e1 st1 hx; exact main _ _ _ hx (.inl rfl) h
      · rename_i e1 st1 hx; exact main _ _ _ hx (.inr rfl) h
      · cases h
/-! ### code -/
def LoopSound (P : Program) (F : CodeF) : Prop := ∀ (c : Cx) (b : Code) (e : Env) (st : St) (x : X) (e' : Env) (st' : St), F c (.loop b) e st = some (x, e', st') → Wf st → ∃ n, StepOk c st st' ∧
  ∀ (B0 : Nat) (ρ : Rho) (τ : Mem) (w : World) (a : Act), EnvRel ρ e a → c.nt ≤ a.tmps.size → Agree c st τ → Real ρ B0 τ w → Fresh ρ st st' → ∀ Q : Exit → Act → World → Prop, Cont c st st' e' B0 ρ τ w a (Q x.exit) → Code.rounds P b Q n a w
theorem ev_ok (hd : DrawSound P) (hn : Named P) : ∀ n, CodeSound P (ev P n) ∧ LoopSound P (ev P n)
  | 0 => ⟨fun _ _ _ _ _ _ _ h _ => (by cases h), fun _ _ _ _ _ _ _ h _ => (by cases h)⟩
  | n + 1 => by
    obtain ⟨ihc, ihl⟩ := ev_ok hd hn n
    have hcall := callOf_sound ihc
    have hbody : HasBody P (callOf P (ev P n)) := callOf_body
    have loop : LoopSound P (ev P (n + 1)) := by
      intro c b e st x e' st' h hwf
      have h' : (match ev P n c b e st with
        | some (.n, e, st) => ev P n c (.loop b) e st
        | r => r) = some (x, e', st') := h
      split at h'
      · rename_i e1 st1 hb
        obtain ⟨s1, k1⟩ := ihc _ _ _ _ _ _ _ hb hwf
        obtain ⟨m, s2, k2⟩ := ihl _ _ _ _ _ _ _ h' (s1.wf hwf)
        refine ⟨m + 1, s1.trans s2, fun B0 ρ τ w a he ht hag hre hf Q hQ => ?_⟩
        rw [rounds_succ]
        refine k1 B0 ρ τ w a he ht hag hre (hf.left s2.le) _ ?_
        exact cont_step s1 s2 hwf hag hf hQ fun ρ' a' w' he' ht' hag' hre' hf' hc' => k2 B0 ρ' _ w' a' he' ht' hag' hre' hf' Q hc'
      · rename_i hne
        obtain ⟨s1, k1⟩ := ihc _ _ _ _ _ _ _ h' hwf
        refine ⟨1, s1, fun B0 ρ τ w a he ht hag hre hf Q hQ => ?_⟩
        rw [rounds_succ]
        refine k1 B0 ρ τ w a he ht hag hre hf _ fun ρ' a' w' q1 q2 q3 q4 q5 q6 q7 => ?_
        have := hQ ρ' a' w' q1 q2 q3 q4 q5 q6 q7
        cases x with
        | n => exact (hne e' st' h').elim
        | ex i => exact this
        | ret => exact this
    refine ⟨fun c code e st x e' st' h hwf => ?_, loop⟩
    cases code with
    | skip =>
      have h' : (some (X.n, e, st) : Option (X × Env × St)) = some (x, e', st') := h
      injection h' with h'; injection h' with h1 h'; injection h' with h2 h3; subst h1 h2 h3
      exact ⟨.refl _ _, fun B0 ρ τ w a he ht hag hre hf Q hQ => wp_skip (cont_refl hQ he ht hre)⟩
    | label l =>
      have h' : (some (X.n, e, st) : Option (X × Env × St)) = some (x, e', st') := h
      injection h' with h'; injection h' with h1 h'; injection h' with h2 h3; subst h1 h2 h3
      exact ⟨.refl _ _, fun B0 ρ τ w a he ht hag hre hf Q hQ => wp_label (cont_refl hQ he ht hre)⟩
    | exit i =>
      have h' : (some (X.ex i, e, st) : Option (X × Env × St)) = some (x, e', st') := h
      injection h' with h'; injection h' with h1 h'; injection h' with h2 h3; subst h1 h2 h3
      exact ⟨.refl _ _, fun B0 ρ τ w a he ht hag hre hf Q hQ => wp_exit (cont_refl hQ he ht hre)⟩
    | ret =>
      have h' : (some (X.ret, e, st) : Option (X × Env × St)) = some (x, e', st') := h
      injection h' with h'; injection h' with h1 h'; injection h' with h2 h3; subst h1 h2 h3
      exact ⟨.refl _ _, fun B0 ρ τ w a he ht hag hre hf Q hQ => wp_ret (cont_refl hQ he ht hre)⟩
    | region id ops d =>
      cases d with
      | false =>
        have h' : (match evOps P (callOf P (ev P n)) c ops.toList ops.toList e st with
          | none => none
          | some (e, st) => some (X.n, e, st)) = some (x, e', st') := h
        split at h'
        · cases h'
        · rename_i e1 st1 hop
          injection h' with h'; injection h' with h1 h'; injection h' with h2 h3; subst h1 h2 h3
          obtain ⟨s1, k1⟩ := evOps_ok hcall hn hbody hop hwf
          exact ⟨s1, fun B0 ρ τ w a he ht hag hre hf Q hQ => wp_region_list (k1 B0 ρ τ w a he ht hag hre hf Q hQ)⟩
      | true =>
        have h' : (match regOk ops.toList with
          | true => (match evDraw P (callOf P (ev P n)) c ops.toList ops.toList 0 [] e st with
            | none => none
            | some (e, st) => some (X.n, e, st))
          | false => none) = some (x, e', st') := h
        split at h'
        · rename_i hreg
          split at h'
          · cases h'
          · rename_i e1 st1 hop
            injection h' with h'; injection h' with h1 h'; injection h' with h2 h3; subst h1 h2 h3
            exact hd _ hcall hbody c ops id e e1 st st1 hreg hop hwf
        · cases h'
    | seq a b =>
      have h' : (match ev P n c a e st with
        | some (.n, e, st) => ev P n c b e st
        | r => r) = some (x, e', st') := h
      split at h'
      · rename_i e1 st1 hb
        obtain ⟨s1, k1⟩ := ihc _ _ _ _ _ _ _ hb hwf
        obtain ⟨s2, k2⟩ := ihc _ _ _ _ _ _ _ h' (s1.wf hwf)
        refine ⟨s1.trans s2, fun B0 ρ τ w a he ht hag hre hf Q hQ => wp_seq ?_⟩
        refine k1 B0 ρ τ w a he ht hag hre (hf.left s2.le) _ ?_
        exact cont_step s1 s2 hwf hag hf hQ fun ρ' a' w' he' ht' hag' hre' hf' hc' => k2 B0 ρ' _ w' a' he' ht' hag' hre' hf' Q hc'
      · rename_i hne
        obtain ⟨s1, k1⟩ := ihc _ _ _ _ _ _ _ h' hwf
        refine ⟨s1, fun B0 ρ τ w a he ht hag hre hf Q hQ => wp_seq ?_⟩
        refine k1 B0 ρ τ w a he ht hag hre hf _ fun ρ' a' w' q1 q2 q3 q4 q5 q6 q7 => ?_
        have := hQ ρ' a' w' q1 q2 q3 q4 q5 q6 q7
        cases x with
        | n => exact (hne e' st' h').elim
        | ex i => exact this
        | ret => exact this
    | cond y a b =>
      have h' : (opd e y fun v => (match v with
        | .c (.bool true) => ev P n c a e st
        | .c (.bool false) => ev P n c b e st
        | _ => none)) = some (x, e', st') := h
      obtain ⟨v, h1, h2⟩ := opd_inv h'
      split at h1
      · obtain ⟨s1, k1⟩ := ihc _ _ _ _ _ _ _ h1 hwf
        refine ⟨s1, fun B0 ρ τ w a he ht hag hre hf Q hQ => wp_cond_true ?_ (k1 B0 ρ τ w a he ht hag hre hf Q hQ)⟩
        exact rel_true (h2 ρ a (he.tmp y))
      · obtain ⟨s1, k1⟩ := ihc _ _ _ _ _ _ _ h1 hwf
        refine ⟨s1, fun B0 ρ τ w a he ht hag hre hf Q hQ => wp_cond_false ?_ (k1 B0 ρ τ w a he ht hag hre hf Q hQ)⟩
        exact rel_true (h2 ρ a (he.tmp y))
      · cases h1
    | block i b =>
      have h' : (match ev P n c b e st with
        | some (.ex j, e, st) => (match Nat.beq j i with | true => some (X.n, e, st) | false => some (.ex j, e, st))
        | r => r) = some (x, e', st') := h
      split at h'
      · rename_i j e1 st1 hb
        obtain ⟨s1, k1⟩ := ihc _ _ _ _ _ _ _ hb hwf
        split at h'
        · rename_i hj
          injection h' with h'; injection h' with h1 h'; injection h' with h2 h3; subst h1 h2 h3
          have hj' : j = i := by simpa [nbeq] using hj
          refine ⟨s1, fun B0 ρ τ w a he ht hag hre hf Q hQ => wp_block (k1 B0 ρ τ w a he ht hag hre hf _ fun ρ' a' w' q1 q2 q3 q4 q5 q6 q7 => ?_)⟩
          show Exit.inBlock i Q (.exit j) a' w'
          simp only [Exit.inBlock, hj', if_true]
          exact hQ ρ' a' w' q1 q2 q3 q4 q5 q6 q7
        · rename_i hj
          injection h' with h'; injection h' with h1 h'; injection h' with h2 h3; subst h1 h2 h3
          have hj' : ¬ j = i := by simpa [nbeq] using hj
          refine ⟨s1, fun B0 ρ τ w a he ht hag hre hf Q hQ => wp_block (k1 B0 ρ τ w a he ht hag hre hf _ fun ρ' a' w' q1 q2 q3 q4 q5 q6 q7 => ?_)⟩
          show Exit.inBlock i Q (.exit j) a' w'
          simp only [Exit.inBlock, hj', if_false]
          exact hQ ρ' a' w' q1 q2 q3 q4 q5 q6 q7
      · rename_i hne
        obtain ⟨s1, k1⟩ := ihc _ _ _ _ _ _ _ h' hwf
        refine ⟨s1, fun B0 ρ τ w a he ht hag hre hf Q hQ => wp_block (k1 B0 ρ τ w a he ht hag hre hf _ fun ρ' a' w' q1 q2 q3 q4 q5 q6 q7 => ?_)⟩
        have := hQ ρ' a' w' q1 q2 q3 q4 q5 q6 q7
        cases x with
        | n => exact this
        | ex i => exact (hne _ e' st' h').elim
        | ret => exact this
    | loop b =>
      obtain ⟨m, s1, k1⟩ := loop _ _ _ _ _ _ _ h hwf
      exact ⟨s1, fun B0 ρ τ w a he ht hag hre hf Q hQ => wp_loop_rounds m (k1 B0 ρ τ w a he ht hag hre hf Q hQ)⟩
    | rangeFunc f ps as b => cases h
    | scope b => cases h
    | goto l => cases h
    | refuse y => cases h
end
end Go.Proofs.Ytenncnbaoejekaa.Ev

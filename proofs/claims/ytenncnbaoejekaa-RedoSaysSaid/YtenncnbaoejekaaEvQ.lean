/-
  PLAIN: a region that draws its order gives, in every order, what the evaluator's one run of it gives.
-/
import Derived.Test.YtenncnbaoejekaaEvS
namespace Go.Proofs.Ytenncnbaoejekaa.Ev
open Go.RowKit

/-! ### the run in the text's order -/
def StepAt (P : Program) (call : CallF) (c : Cx) (L : List Oper) (E : Nat → Env) (S : Nat → St) (Vv : Nat → V) (RS : Nat → List (Nat × Nat × Nat)) (i : Nat) (o : Oper) : Prop :=
  ((wants (E i) L o = true ∧ evOp P call (cxOf c L o i (RS i) (S i).nx (E i)) (E i) (S i) o = some (Vv i, S (i + 1))) ∨ (wants (E i) L o = false ∧ Vv i = .u ∧ S (i + 1) = S i)) ∧
  E (i + 1) = putE (E i) o.dst (Vv i) ∧ (∀ t, o.dst = some t → t < c.nt) ∧ RS (i + 1) = (match Nat.beq (S i).nx (S (i + 1)).nx with | true => RS i | false => (i, (S i).nx, (S (i + 1)).nx) :: RS i)
theorem trace_of {P : Program} {call : CallF} {c : Cx} {L : List Oper} {e' : Env} {st' : St} : ∀ {l : List Oper} {i : Nat} {rs : List (Nat × Nat × Nat)} {e : Env} {st : St}, evDraw P call c L l i rs e st = some (e', st') →
    ∃ (E : Nat → Env) (S : Nat → St) (Vv : Nat → V) (RS : Nat → List (Nat × Nat × Nat)), E i = e ∧ S i = st ∧ RS i = rs ∧ E (i + l.length) = e' ∧ S (i + l.length) = st' ∧ ∀ m o, l[m]? = some o → StepAt P call c L E S Vv RS (i + m) o
  | [], i, rs, e, st, h => by
    have h' : (some (e, st) : Option (Env × St)) = some (e', st') := h
    injection h' with h'; injection h' with h1 h2; subst h1 h2
    exact ⟨fun _ => e, fun _ => st, fun _ => .u, fun _ => rs, rfl, rfl, rfl, rfl, rfl, fun m o hm => by simp at hm⟩
  | o :: l, i, rs, e, st, h => by
    have h' : (match wants e L o with
      | true => match evOp P call (cxOf c L o i rs st.nx e) e st o with
        | none => none
        | some (v, st2) => putK c e o.dst v fun e => fn (i + 1) fun i' => evDraw P call c L l i' (match Nat.beq st.nx st2.nx with | true => rs | false => (i, st.nx, st2.nx) :: rs) e st2
      | false => putK c e o.dst .u fun e => fn (i + 1) fun i' => evDraw P call c L l i' rs e st) = some (e', st') := h
    have fin : ∀ (v : V) (st1 : St) (rs1 : List (Nat × Nat × Nat)), (∀ t, o.dst = some t → t < c.nt) → evDraw P call c L l (i + 1) rs1 (putE e o.dst v) st1 = some (e', st') →
        ((wants e L o = true ∧ evOp P call (cxOf c L o i rs st.nx e) e st o = some (v, st1)) ∨ (wants e L o = false ∧ v = .u ∧ st1 = st)) → rs1 = (match Nat.beq st.nx st1.nx with | true => rs | false => (i, st.nx, st1.nx) :: rs) →
        ∃ (E : Nat → Env) (S : Nat → St) (Vv : Nat → V) (RS : Nat → List (Nat × Nat × Nat)), E i = e ∧ S i = st ∧ RS i = rs ∧ E (i + (o :: l).length) = e' ∧ S (i + (o :: l).length) = st' ∧ ∀ m o', (o :: l)[m]? = some o' → StepAt P call c L E S Vv RS (i + m) o' := fun v st1 rs1 hd h2 hop hrs => by
      obtain ⟨E, S, Vv, RS, k1, k2, k3, k4, k5, k6⟩ := trace_of h2
      have ne : ∀ m, i + 1 + m ≠ i := fun m => by omega
      refine ⟨fun n => if n = i then e else E n, fun n => if n = i then st else S n, fun n => if n = i then v else Vv n, fun n => if n = i then rs else RS n, by simp, by simp, by simp, ?_, ?_, ?_⟩
      · simp only [List.length_cons]
        rw [if_neg (by omega), show i + (l.length + 1) = i + 1 + l.length by omega]; exact k4
      · simp only [List.length_cons]
        rw [if_neg (by omega), show i + (l.length + 1) = i + 1 + l.length by omega]; exact k5
      · intro m o' hm
        cases m with
        | zero =>
          simp at hm; subst hm
          unfold StepAt
          simp only [Nat.add_zero, if_true]
          rw [if_neg (by omega), if_neg (by omega), if_neg (by omega), k1, k2, k3]
          exact ⟨hop, rfl, hd, hrs⟩
        | succ m =>
          have := k6 m o' (by simpa using hm)
          unfold StepAt at this ⊢
          rw [show i + (m + 1) = i + 1 + m by omega]
          simp only
          rw [if_neg (ne m), if_neg (ne m), if_neg (ne m), if_neg (ne m), if_neg (by omega), if_neg (by omega), if_neg (by omega)]
          exact this
    split at h'
    · rename_i hw
      split at h'
      · cases h'
      · rename_i v st1 hop
        obtain ⟨hd, h2⟩ := putK_inv h'
        rw [fn_eq] at h2
        exact fin v st1 _ hd h2 (.inl ⟨hw, hop⟩) rfl
    · rename_i hw
      obtain ⟨hd, h2⟩ := putK_inv h'
      rw [fn_eq] at h2
      exact fin .u st rs hd h2 (.inr ⟨hw, rfl, rfl⟩) (by simp)
theorem inF_spec : ∀ (l : List (Nat × Nat)) (n : Nat), inF l n = true ↔ ∃ x, x ∈ l ∧ x.1 ≤ n ∧ n < x.2
  | [], n => by simp [inF]
  | x :: l, n => by
    have h : inF (x :: l) n = (match Nat.ble x.1 n with | true => (match Nat.blt n x.2 with | true => true | false => inF l n) | false => inF l n) := rfl
    have ih := inF_spec l n
    rw [h]
    cases h1 : Nat.ble x.1 n with
    | true =>
      have h1' : x.1 ≤ n := by simpa [Nat.ble_eq] using h1
      cases h2 : Nat.blt n x.2 with
      | true =>
        have h2' : n < x.2 := by simpa [Nat.blt_eq] using h2
        simp only [true_iff]
        exact ⟨x, List.mem_cons_self, h1', h2'⟩
      | false =>
        have h2' : ¬ n < x.2 := fun hh => by
          have : Nat.blt n x.2 = true := by simpa [Nat.blt_eq] using hh
          rw [this] at h2; cases h2
        simp only [ih]
        constructor
        · rintro ⟨y, k1, k2⟩; exact ⟨y, List.mem_cons_of_mem _ k1, k2⟩
        · rintro ⟨y, k1, k2, k3⟩
          rcases List.mem_cons.1 k1 with rfl | k1
          · exact absurd k3 h2'
          · exact ⟨y, k1, k2, k3⟩
    | false =>
      have h1' : ¬ x.1 ≤ n := fun hh => by
        have : Nat.ble x.1 n = true := by simpa [Nat.ble_eq] using hh
        rw [this] at h1; cases h1
      simp only [ih]
      constructor
      · rintro ⟨y, k1, k2⟩; exact ⟨y, List.mem_cons_of_mem _ k1, k2⟩
      · rintro ⟨y, k1, k2, k3⟩
        rcases List.mem_cons.1 k1 with rfl | k1
        · exact absurd k2 h1'
        · exact ⟨y, k1, k2, k3⟩
theorem forb_mem (b : Nat) (f : List (Nat × Nat)) : ∀ (l : List (Nat × Nat × Nat)) (x : Nat × Nat), x ∈ forb b l f ↔ x ∈ f ∨ ∃ y, y ∈ l ∧ Nat.testBit b y.1 = false ∧ y.2 = x
  | [], x => by simp [forb]
  | y :: l, x => by
    have h : forb b (y :: l) f = (match Nat.testBit b y.1 with | true => forb b l f | false => y.2 :: forb b l f) := rfl
    have ih := forb_mem b f l x
    rw [h]
    cases hb : Nat.testBit b y.1 with
    | true =>
      simp only [ih]
      constructor
      · rintro (k | ⟨z, k1, k2⟩)
        · exact .inl k
        · exact .inr ⟨z, List.mem_cons_of_mem _ k1, k2⟩
      · rintro (k | ⟨z, k1, k2, k3⟩)
        · exact .inl k
        · rcases List.mem_cons.1 k1 with rfl | k1
          · rw [hb] at k2; cases k2
          · exact .inr ⟨z, k1, k2, k3⟩
    | false =>
      simp only [List.mem_cons, ih]
      constructor
      · rintro (rfl | k | ⟨z, k1, k2⟩)
        · exact .inr ⟨y, .inl rfl, hb, rfl⟩
        · exact .inl k
        · exact .inr ⟨z, .inr k1, k2⟩
      · rintro (k | ⟨z, k1 | k1, k2, k3⟩)
        · exact .inr (.inl k)
        · subst k1; exact .inl k3.symm
        · exact .inr (.inr ⟨z, k1, k2, k3⟩)
/-- the run, and what is known of it -/
structure Run (P : Program) (call : CallF) (c : Cx) (L : List Oper) (E : Nat → Env) (S : Nat → St) (Vv : Nat → V) (RS : Nat → List (Nat × Nat × Nat)) : Prop where
  fact : RegFacts L
  step : ∀ i o, L[i]? = some o → StepAt P call c L E S Vv RS i o
  rs0 : RS 0 = []
  wf0 : Wf (S 0)
  op : ∀ i o, L[i]? = some o → Wf (S i) → wants (E i) L o = true → StepOk (cxOf c L o i (RS i) (S i).nx (E i)) (S i) (S (i + 1)) ∧ OpOk P (cxOf c L o i (RS i) (S i).nx (E i)) (S i) (S (i + 1)) (Vv i) (E i) o
section
variable {P : Program} {call : CallF} {c : Cx} {L : List Oper} {E : Nat → Env} {S : Nat → St} {Vv : Nat → V} {RS : Nat → List (Nat × Nat × Nat)}
theorem Run.stepOk (T : Run P call c L E S Vv RS) {i : Nat} {o : Oper} (ho : L[i]? = some o) (hw : Wf (S i)) : StepOk (cxOf c L o i (RS i) (S i).nx (E i)) (S i) (S (i + 1)) := by
  obtain ⟨h, _⟩ := T.step i o ho
  rcases h with ⟨h1, _⟩ | ⟨_, _, h3⟩
  · exact (T.op i o ho hw h1).1
  · rw [h3]; exact .refl _ _
theorem Run.wf (T : Run P call c L E S Vv RS) : ∀ i, i ≤ L.length → Wf (S i)
  | 0, _ => T.wf0
  | i + 1, h => (T.stepOk (List.getElem?_eq_getElem (by omega)) (T.wf i (by omega))).wf (T.wf i (by omega))
theorem Run.nx (T : Run P call c L E S Vv RS) {i : Nat} : ∀ {j : Nat}, i ≤ j → j ≤ L.length → (S i).nx ≤ (S j).nx
  | 0, h, _ => by
    have : i = 0 := by omega
    subst this; exact Nat.le_refl _
  | j + 1, h, hl => by
    by_cases hij : i = j + 1
    · subst hij; exact Nat.le_refl _
    · exact Nat.le_trans (T.nx (by omega) (by omega)) (T.stepOk (List.getElem?_eq_getElem (by omega)) (T.wf j (by omega))).le
theorem Run.rs (T : Run P call c L E S Vv RS) : ∀ i, i ≤ L.length → ∀ j, j < i → (S j).nx < (S (j + 1)).nx → (j, (S j).nx, (S (j + 1)).nx) ∈ RS i
  | 0, _, j, h, _ => by omega
  | i + 1, hl, j, h, hlt => by
    obtain ⟨_, _, _, h4⟩ := T.step i L[i] (List.getElem?_eq_getElem (by omega))
    rw [h4]
    by_cases hj : j = i
    · subst hj
      have : Nat.beq (S j).nx (S (j + 1)).nx = false := by rw [nbeq]; simp; omega
      rw [this]
      exact List.mem_cons_self
    · have := T.rs i (by omega) j (by omega) hlt
      split
      · exact this
      · exact List.mem_cons_of_mem _ this
/-- what an operation may touch -/
theorem Run.ok (T : Run P call c L E S Vv RS) {i : Nat} {o : Oper} (hi : i ≤ L.length) {n : Nat} (hlt : n < (S i).nx) (h : (cxOf c L o i (RS i) (S i).nx (E i)).ok n = true) :
    touches o.op = true ∧ c.ok n = true ∧ (∀ j, j < i → (S j).nx ≤ n → n < (S (j + 1)).nx → Nat.testBit (befOf L i) j = true) ∧ (∀ q, plainLd o.op = some q → ∃ v, (E i).get q = some v ∧ blkOf v = some n) := by
  have base : ∀ (l : List (Nat × Nat)) (wb nt : Nat), Cx.ok ⟨c.all, l, wb, nt⟩ n = true → (∀ x, x ∈ forb (befOf L i) (RS i) c.l → x ∈ l) → c.ok n = true ∧ (∀ j, j < i → (S j).nx ≤ n → n < (S (j + 1)).nx → Nat.testBit (befOf L i) j = true) ∧ ∀ x, x ∈ l → ¬ (x.1 ≤ n ∧ n < x.2) := by
    intro l wb nt h hl
    unfold Cx.ok at h
    simp only at h
    split at h
    · cases h
    · rename_i ha
      simp only [Bool.not_eq_true'] at h
      rw [Bool.eq_false_iff] at h
      refine ⟨?_, fun j hj h1 h2 => ?_, fun x hx hh => h ((inF_spec _ _).2 ⟨x, hx, hh⟩)⟩
      · unfold Cx.ok
        rw [ha]
        simp only [Bool.not_eq_true']
        rw [Bool.eq_false_iff]
        intro hh
        apply h
        obtain ⟨x, h1, h2⟩ := (inF_spec _ _).1 hh
        exact (inF_spec _ _).2 ⟨x, hl _ ((forb_mem _ _ _ _).2 (.inl h1)), h2⟩
      · cases hb : Nat.testBit (befOf L i) j with
        | true => rfl
        | false => exact absurd ((inF_spec _ _).2 ⟨((S j).nx, (S (j + 1)).nx), hl _ ((forb_mem _ _ _ _).2 (.inr ⟨_, T.rs i hi j hj (by omega), hb, rfl⟩)), h1, h2⟩) h
  unfold cxOf at h
  split at h
  · cases h
  · rename_i ht
    split at h
    · rename_i q hq
      split at h
      · rename_i v he
        split at h
        · rename_i m hm
          obtain ⟨k1, k2, k3⟩ := base _ _ _ h (fun x hx => List.mem_cons_of_mem _ (List.mem_cons_of_mem _ hx))
          refine ⟨ht, k1, k2, fun q' h1 => ?_⟩
          rw [hq] at h1; injection h1 with h1; subst h1
          refine ⟨v, he, ?_⟩
          have a1 := k3 _ (List.mem_cons_self (a := (0, m)))
          have a2 := k3 _ (List.mem_cons_of_mem _ (List.mem_cons_self (a := (m + 1, (S i).nx))))
          simp only at a1 a2
          rw [hm]; congr 1; omega
        · cases h
      · cases h
    · rename_i hq
      have no : ∀ q, plainLd o.op = some q → ∃ v, (E i).get q = some v ∧ blkOf v = some n := fun q h1 => by rw [hq] at h1; cases h1
      split at h
      · obtain ⟨k1, k2, _⟩ := base _ _ _ h (fun x hx => hx)
        exact ⟨ht, k1, k2, no⟩
      · split at h
        · obtain ⟨k1, k2, _⟩ := base _ _ _ h (fun x hx => List.mem_append_right _ hx)
          exact ⟨ht, k1, k2, no⟩
        · obtain ⟨k1, k2, _⟩ := base _ _ _ h (fun x hx => hx)
          exact ⟨ht, k1, k2, no⟩
/-- slots in the run -/
theorem Run.slot (T : Run P call c L E S Vv RS) : ∀ i, i ≤ L.length → (∀ j o t, j < i → L[j]? = some o → o.dst = some t → (E i).get t = some (Vv j)) ∧ (∀ t, (∀ j o, j < i → L[j]? = some o → o.dst ≠ some t) → (E i).get t = (E 0).get t)
  | 0, _ => ⟨fun j o t h => by omega, fun _ _ => rfl⟩
  | i + 1, h => by
    obtain ⟨ih1, ih2⟩ := T.slot i (by omega)
    have ho : L[i]? = some L[i] := List.getElem?_eq_getElem (by omega)
    obtain ⟨_, h2, _, _⟩ := T.step i _ ho
    have pg : ∀ t, (putE (E i) L[i].dst (Vv i)).get t = if L[i].dst = some t then some (Vv i) else (E i).get t := fun t => by
      cases hd : L[i].dst with
      | none => simp [putE]
      | some u =>
        simp only [putE, Option.some.injEq, Ev.T.get_set]
    rw [h2]
    refine ⟨fun j o t hj hjo hd => ?_, fun t ht => ?_⟩
    · rw [pg]
      by_cases hji : j = i
      · subst hji
        rw [ho] at hjo; injection hjo with hjo; subst hjo
        rw [if_pos hd]
      · rw [if_neg (T.fact.uniq j i o L[i] t hjo ho hji hd)]
        exact ih1 j o t (by omega) hjo hd
    · rw [pg, if_neg (ht i _ (by omega) ho)]
      exact ih2 t fun j o hj => ht j o (by omega)
theorem firm_spec {L : List Oper} {j q : Nat} (h : firm L j q = true) : ∀ k o, L[k]? = some o → o.dst = some q → Nat.testBit (befOf L j) k = true := by
  have key : ∀ (l : List Oper) (a : Nat), (lr (β := Nat → Bool) (fun _ => true) (fun o _ ih k => match o.dst with
  | none => ih (k + 1)
  | some t => (match Nat.beq t q with
    | false => ih (k + 1)
    | true => (match Nat.testBit (befOf L j) k with
      | true => ih (k + 1)
      | false => false))) l a) = true → ∀ k o, l[k]? = some o → o.dst = some q → Nat.testBit (befOf L j) (a + k) = true := by
    intro l
    induction l with
    | nil => intro a _ k o hk; simp at hk
    | cons o l ih =>
      intro a ha k o' hk hd
      rw [lr_cons] at ha
      cases k with
      | zero =>
        simp at hk; subst hk
        rw [hd] at ha
        have hb : Nat.beq q q = true := by rw [nbeq]; simp
        simp only [hb] at ha
        split at ha
        · rename_i h1; exact h1
        · cases ha
      | succ k =>
        rw [show a + (k + 1) = a + 1 + k by omega]
        refine ih (a + 1) ?_ k o' (by simpa using hk) hd
        split at ha
        · exact ha
        · split at ha
          · exact ha
          · split at ha
            · exact ha
            · cases ha
  intro k o hk hd
  have := key L 0 h k o hk hd
  rwa [Nat.zero_add] at this
theorem looseW_spec {L : List Oper} {e : Env} {i : Nat} {r : List (Nat × Nat)} (h : looseW L e i = some r) : ∀ j o, L[j]? = some o → j ≠ i → touches o.op = true → ordered L i j = true ∨ (∃ q v, plainLd o.op = some q ∧ firm L j q = true ∧ seenAt L e i j q = some v ∧ ∀ m, blkOf v = some m → (m, m + 1) ∈ r) := by
  have key : ∀ (l : List Oper) (a : Nat) (r : List (Nat × Nat)), (lr (β := Nat → Option (List (Nat × Nat))) (fun _ => some []) (fun o _ ih j => match Nat.beq i j with
  | true => ih (j + 1)
  | false => (match touches o.op with
    | false => ih (j + 1)
    | true => (match ordered L i j with
      | true => ih (j + 1)
      | false => (match plainLd o.op with
        | some q => (match firm L j q, seenAt L e i j q with
          | true, some v => (match ih (j + 1) with
            | some l => (match blkOf v with
              | some m => some ((m, m + 1) :: l)
              | none => some l)
            | none => none)
          | _, _ => none)
        | none => none)))) l a) = some r → ∀ k o, l[k]? = some o → a + k ≠ i → touches o.op = true → ordered L i (a + k) = true ∨ (∃ q v, plainLd o.op = some q ∧ firm L (a + k) q = true ∧ seenAt L e i (a + k) q = some v ∧ ∀ m, blkOf v = some m → (m, m + 1) ∈ r) := by
    intro l
    induction l with
    | nil => intro a r _ k o hk; simp at hk
    | cons o l ih =>
      intro a r ha k o' hk hne ht
      rw [lr_cons] at ha
      cases k with
      | zero =>
        simp at hk; subst hk
        have hb : Nat.beq i a = false := by rw [nbeq]; simp; omega
        rw [hb, ht] at ha
        simp only at ha
        split at ha
        · rename_i h1; exact .inl (by simpa using h1)
        · split at ha
          · rename_i q hq
            split at ha
            · rename_i v hf he
              split at ha
              · split at ha
                · rename_i m hm
                  injection ha with ha; subst ha
                  exact .inr ⟨q, v, hq, by simpa using hf, by simpa using he, fun m' h => by rw [hm] at h; injection h with h; subst h; exact List.mem_cons_self⟩
                · rename_i hm
                  injection ha with ha; subst ha
                  exact .inr ⟨q, v, hq, by simpa using hf, by simpa using he, fun m' h => by rw [hm] at h; cases h⟩
              · cases ha
            · cases ha
          · cases ha
      | succ k =>
        rw [show a + (k + 1) = a + 1 + k by omega]
        have hk' : l[k]? = some o' := by simpa using hk
        have hne' : a + 1 + k ≠ i := by omega
        split at ha
        · exact ih (a + 1) r ha k o' hk' hne' ht
        · split at ha
          · exact ih (a + 1) r ha k o' hk' hne' ht
          · split at ha
            · exact ih (a + 1) r ha k o' hk' hne' ht
            · split at ha
              · split at ha
                · split at ha
                  · rename_i r' hr
                    split at ha
                    · injection ha with ha; subst ha
                      exact (ih (a + 1) r' hr k o' hk' hne' ht).imp id fun ⟨q, v, h2, h3, h4, h5⟩ => ⟨q, v, h2, h3, h4, fun m hm => List.mem_cons_of_mem _ (h5 m hm)⟩
                    · injection ha with ha; subst ha
                      exact ih (a + 1) r' hr k o' hk' hne' ht
                  · cases ha
                · cases ha
              · cases ha
  intro j o hj hne ht
  have := key L 0 r h j o hj (by omega) ht
  rwa [Nat.zero_add] at this
theorem writer_none {q : Nat} : ∀ {L : List Oper}, writer L q = none → ∀ (k : Nat) (o : Oper), L[k]? = some o → o.dst ≠ some q
  | [], _, k, o, h => by simp at h
  | o :: L, hw, k, o', h => by
    have hw' : (match o.dst with
      | none => writer L q
      | some t => (match Nat.beq t q with | true => some o | false => writer L q)) = none := hw
    have rest : writer L q = none ∧ o.dst ≠ some q := by
      split at hw'
      · rename_i hd; exact ⟨hw', by rw [hd]; simp⟩
      · rename_i t hd
        split at hw'
        · cases hw'
        · rename_i hb
          refine ⟨hw', ?_⟩
          rw [hd]
          intro e
          injection e with e
          subst e
          rw [nbeq] at hb
          simp at hb
    cases k with
    | zero => simp at h; subst h; exact rest.2
    | succ k => exact writer_none rest.1 k o' (by simpa using h)
theorem writer_some {q : Nat} {ok : Oper} : ∀ {L : List Oper}, writer L q = some ok → ∃ k : Nat, L[k]? = some ok ∧ ok.dst = some q
  | [], hw => by
    have hw' : (none : Option Oper) = some ok := hw
    cases hw'
  | o :: L, hw => by
    have hw' : (match o.dst with
      | none => writer L q
      | some t => (match Nat.beq t q with | true => some o | false => writer L q)) = some ok := hw
    split at hw'
    · obtain ⟨k, k1, k2⟩ := writer_some hw'
      exact ⟨k + 1, by simpa using k1, k2⟩
    · rename_i t hd
      split at hw'
      · rename_i hb
        injection hw' with hw'; subst hw'
        have : t = q := by simpa [nbeq] using hb
        exact ⟨0, by simp, by rw [hd, this]⟩
      · obtain ⟨k, k1, k2⟩ := writer_some hw'
        exact ⟨k + 1, by simpa using k1, k2⟩
theorem fieldAddr_blk {P : Program} {call : CallF} {c : Cx} {e : Env} {st st' : St} {o : Oper} {t r f : Nat} {v : V} (ho : o.op = .fieldAddr t (.tmp r) f) (h : evOp P call c e st o = some (v, st')) : ∃ n a b, e.get r = some (.p n a) ∧ v = .p n b := by
  unfold evOp at h
  rw [ho] at h
  simp only [opd] at h
  split at h
  · rename_i v0 hv0
    split at h
    · rename_i n a
      split at h
      · split at h
        · obtain ⟨ti, _, h3⟩ := szOf_inv h
          split at h3
          · cases h3
          · rw [fn_eq] at h3
            obtain ⟨rfl, _⟩ := some_inv h3
            exact ⟨n, a, _, hv0, rfl⟩
        · cases h
      · cases h
    · cases h
  · rename_i hv0
    cases h
theorem looseFor_some {L : List Oper} {e : Env} {i : Nat} {o : Oper} {r : List (Nat × Nat)} (h : looseFor L e i o = some r) : looseW L e i = some r := by
  unfold looseFor at h
  split at h
  · exact h
  · split at h
    · cases h
    · rename_i l hl
      split at h
      · cases h
      · rw [← h]; exact hl
  · cases h
theorem ordered_spec {L : List Oper} {i j : Nat} (h : ordered L i j = true) : Nat.testBit (befOf L i) j = true ∨ Nat.testBit (befOf L j) i = true := by
  unfold ordered at h
  split at h
  · rename_i h1; exact .inl h1
  · exact .inr h
/-- which operations write what stood ahead of them -/
def Wr (S : Nat → St) (k j : Nat) : Prop := j < k ∧ ∃ n, n < (S j).nx ∧ (S j).h.get n ≠ (S (j + 1)).h.get n
theorem Run.wr (T : Run P call c L E S Vv RS) {i : Nat} {o : Oper} (ho : L[i]? = some o) (hw : Wr S L.length i) : touches o.op = true ∧ plainLd o.op = none ∧ ∀ j o', L[j]? = some o' → j ≠ i → touches o'.op = true → (Nat.testBit (befOf L i) j = true ∨ Nat.testBit (befOf L j) i = true) ∨
    (∃ q, plainLd o'.op = some q ∧ ∀ v m, (E j).get q = some v → blkOf v = some m → m < (S i).nx → (S i).h.get m = (S (i + 1)).h.get m) := by
  obtain ⟨hi, n, hn, hne⟩ := hw
  have hst := T.stepOk ho (T.wf i (by omega))
  have hs := hst.chg n hn hne
  have hok := T.ok (by omega) hn hs.1
  refine ⟨hok.1, ?_⟩
  have hwb := hs.2.2.2
  have hch := hst.chg
  unfold cxOf at hwb hch
  rw [hok.1] at hwb hch
  simp only at hwb hch
  cases hq : plainLd o.op with
  | some q =>
    rw [hq] at hwb
    simp only at hwb
    split at hwb
    · split at hwb
      · simp only at hwb; omega
      · simp only at hwb; omega
    · simp only at hwb; omega
  | none =>
    refine ⟨rfl, ?_⟩
    rw [hq] at hwb hch
    simp only at hwb hch
    split at hwb
    · rename_i hm
      exact fun j o' h1 h2 h3 => .inl (mayW_spec hm j o' h1 h2 h3)
    · rename_i hm
      rw [hm] at hch
      simp only at hch
      split at hwb
      · rename_i r hr
        rw [hr] at hch
        simp only at hch
        replace hr : looseW L (E i) i = some r := looseFor_some hr
        intro j o' h1 h2 h3
        refine (looseW_spec hr j o' h1 h2 h3).imp ordered_spec fun ⟨q, v, k2, k3, k4, k5⟩ => ⟨q, k2, fun v' m hv' hm' hm2 => ?_⟩
        have hjl : j < L.length := by
          rcases Nat.lt_or_ge j L.length with h | h
          · exact h
          · rw [List.getElem?_eq_none h] at h1; cases h1
        have hmv : blkOf v = some m := by
          obtain ⟨s1, s2⟩ := T.slot i (by omega)
          obtain ⟨s3, s4⟩ := T.slot j (by omega)
          unfold seenAt at k4
          split at k4
          · rename_i hlt
            have hlt' : j < i := by simpa [Nat.blt_eq] using hlt
            have : (E i).get q = (E j).get q := by
              by_cases hx : ∃ (k : Nat) (o2 : Oper), L[k]? = some o2 ∧ o2.dst = some q
              · obtain ⟨k, o2, x1, x2⟩ := hx
                have hb := firm_spec k3 k o2 x1 x2
                have hkj := T.fact.lt j k o' h1 hb
                rw [s3 k o2 q hkj x1 x2, s1 k o2 q (by omega) x1 x2]
              · rw [s4 q fun k o2 _ a b => hx ⟨k, o2, a, b⟩, s2 q fun k o2 _ a b => hx ⟨k, o2, a, b⟩]
            rw [this, hv'] at k4
            injection k4 with k4; subst k4
            exact hm'
          · split at k4
            · rename_i hw
              have hno := writer_none hw
              rw [s2 q fun k o2 _ a => hno k o2 a, ← s4 q fun k o2 _ a => hno k o2 a, hv'] at k4
              injection k4 with k4; subst k4
              exact hm'
            · rename_i ok hw
              split at k4
              · rename_i t2 r2 f2 hop
                split at k4
                · rename_i hw2
                  have hno := writer_none hw2
                  obtain ⟨k, x1, x2⟩ := writer_some hw
                  have hb := firm_spec k3 k ok x1 x2
                  have hkj := T.fact.lt j k o' h1 hb
                  rw [s3 k ok q hkj x1 x2] at hv'
                  injection hv' with hv'; subst hv'
                  obtain ⟨hstep, _⟩ := T.step k ok x1
                  rcases hstep with ⟨_, hev⟩ | ⟨_, hu, _⟩
                  · obtain ⟨n, a, b, y1, y2⟩ := fieldAddr_blk hop hev
                    obtain ⟨_, s6⟩ := T.slot k (by omega)
                    rw [s2 r2 fun k o2 _ a => hno k o2 a, ← s6 r2 fun k o2 _ a => hno k o2 a, y1] at k4
                    injection k4 with k4; subst k4
                    rw [y2] at hm'
                    exact hm'
                  · rw [hu] at hm'; cases hm'
                · cases k4
              · cases k4
        by_cases he : (S i).h.get m = (S (i + 1)).h.get m
        · exact he
        · exfalso
          have hz := (hch m hm2 he).1
          unfold Cx.ok at hz
          simp only at hz
          split at hz
          · cases hz
          · simp only [Bool.not_eq_true'] at hz
            rw [Bool.eq_false_iff] at hz
            exact hz ((inF_spec _ _).2 ⟨_, List.mem_append_left _ (k5 m hmv), by simp, by simp⟩)
      · simp only at hwb; omega
theorem Run.same (T : Run P call c L E S Vv RS) {n a : Nat} (hn : n < (S a).nx) : ∀ {b : Nat}, a ≤ b → b ≤ L.length → (∀ j, a ≤ j → j < b → Wr S L.length j → (S j).h.get n = (S (j + 1)).h.get n) → (S a).h.get n = (S b).h.get n
  | 0, h, _, _ => by
    have : a = 0 := by omega
    subst this; rfl
  | b + 1, h, hl, hj => by
    by_cases hab : a = b + 1
    · subst hab; rfl
    · have ih := T.same hn (b := b) (by omega) (by omega) (fun j h1 h2 h3 => hj j h1 (by omega) h3)
      rw [ih]
      by_cases hw : (S b).h.get n = (S (b + 1)).h.get n
      · exact hw
      · exact hj b (by omega) (by omega) ⟨by omega, n, Nat.lt_of_lt_of_le hn (T.nx (by omega) (by omega)), hw⟩
/-- the whole run is a step. -/
theorem Run.stepC (T : Run P call c L E S Vv RS) {i : Nat} (hi : i < L.length) : StepOk c (S i) (S (i + 1)) := by
  have ho : L[i]? = some L[i] := List.getElem?_eq_getElem hi
  have hs := T.stepOk ho (T.wf i (by omega))
  refine ⟨hs.le, fun n hn hne => ?_, hs.wf⟩
  obtain ⟨h1, h2, h3, h4⟩ := hs.chg n hn hne
  have hok := T.ok (by omega) hn h1
  refine ⟨hok.2.1, h2, h3, ?_⟩
  unfold cxOf at h4
  rw [hok.1] at h4
  simp only at h4
  split at h4
  · split at h4
    · split at h4
      · simp only at h4; omega
      · simp only at h4; omega
    · simp only at h4; omega
  · split at h4
    · exact h4
    · split at h4
      · exact h4
      · simp only at h4; omega
theorem Run.all (T : Run P call c L E S Vv RS) : ∀ i, i ≤ L.length → StepOk c (S 0) (S i)
  | 0, _ => .refl _ _
  | i + 1, h => (T.all i (by omega)).trans (T.stepC (by omega))
end
end Go.Proofs.Ytenncnbaoejekaa.Ev

/-
  PLAIN: a region that draws its order gives, in every order, what the evaluator's one run of it gives.
-/
import Derived.Test.YtnigikccijjihaaEvS
namespace Go.Proofs.Ytnigikccijjihaa.Ev
open Go.RowKit

/-! ### the run in the text's order -/
def StepAt (P : Program) (call : CallF) (c : Cx) (L : List Oper) (E : Nat → Env) (S : Nat → St) (Vv : Nat → V) (RS : Nat → List (Nat × Nat × Nat)) (i : Nat) (o : Oper) : Prop :=
  ((wants (E i) L o = true ∧ evOp P call (cxOf c L o i (RS i) (S i).nx) (E i) (S i) o = some (Vv i, S (i + 1))) ∨ (wants (E i) L o = false ∧ Vv i = .u ∧ S (i + 1) = S i)) ∧
  E (i + 1) = putE (E i) o.dst (Vv i) ∧ (∀ t, o.dst = some t → t < c.nt) ∧ RS (i + 1) = (match Nat.beq (S i).nx (S (i + 1)).nx with | true => RS i | false => (i, (S i).nx, (S (i + 1)).nx) :: RS i)
theorem trace_of {P : Program} {call : CallF} {c : Cx} {L : List Oper} {e' : Env} {st' : St} : ∀ {l : List Oper} {i : Nat} {rs : List (Nat × Nat × Nat)} {e : Env} {st : St}, evDraw P call c L l i rs e st = some (e', st') →
    ∃ (E : Nat → Env) (S : Nat → St) (Vv : Nat → V) (RS : Nat → List (Nat × Nat × Nat)), E i = e ∧ S i = st ∧ RS i = rs ∧ E (i + l.length) = e' ∧ S (i + l.length) = st' ∧ ∀ m o, l[m]? = some o → StepAt P call c L E S Vv RS (i + m) o
  | [], i, rs, e, st, h => by
    have h' : (some (e, st) : Option (Env × St)) = some (e', st') := h
    injection h' with h'; injection h' with h1 h2; subst h1 h2
    exact ⟨fun _ => e, fun _ => st, fun _ => .u, fun _ => rs, rfl, rfl, rfl, rfl, rfl, fun m o hm => by simp at hm⟩
  | o :: l, i, rs, e, st, h => by
    have h' : (match wants e L o with
      | true => match evOp P call (cxOf c L o i rs st.nx) e st o with
        | none => none
        | some (v, st2) => putK c e o.dst v fun e => fn (i + 1) fun i' => evDraw P call c L l i' (match Nat.beq st.nx st2.nx with | true => rs | false => (i, st.nx, st2.nx) :: rs) e st2
      | false => putK c e o.dst .u fun e => fn (i + 1) fun i' => evDraw P call c L l i' rs e st) = some (e', st') := h
    have fin : ∀ (v : V) (st1 : St) (rs1 : List (Nat × Nat × Nat)), (∀ t, o.dst = some t → t < c.nt) → evDraw P call c L l (i + 1) rs1 (putE e o.dst v) st1 = some (e', st') →
        ((wants e L o = true ∧ evOp P call (cxOf c L o i rs st.nx) e st o = some (v, st1)) ∨ (wants e L o = false ∧ v = .u ∧ st1 = st)) → rs1 = (match Nat.beq st.nx st1.nx with | true => rs | false => (i, st.nx, st1.nx) :: rs) →
        ∃ (E : Nat → Env) (S : Nat → St) (Vv : Nat → V) (RS : Nat → List (Nat × Nat × Nat)), E i = e ∧ S i = st ∧ RS i = rs ∧ E (i + (o :: l).length) = e' ∧ S (i + (o :: l).length) = st' ∧ ∀ m o', (o :: l)[m]? = some o' → StepAt P call c L E S Vv RS (i + m) o' := fun v st1 rs1 hd h2 hop hrs => by
      obtain ⟨E, S, Vv, RS, k1, k2, k3, k4, k5, k6⟩ := trace_of h2
      have ne : ∀ m, i + 1 + m ≠ i := fun m => by omega
      refine ⟨fun n => if n = i then e else E n, fun n => if n = i then st else S n, fun n => if n = i then v else Vv n, fun n => if n = i then rs else RS n, by simp, by simp, by simp, ?_, ?_, ?_⟩
      · simp only [List.length_cons]
        rw [if_neg (by omega), show i + (l.length + 1) = i + 1 + l.length by omega]; exact k4
      · simp only [List.length_cons]
        rw [if_neg (by omega), show i + (l.length + 1) = i + 1 + l.length by omega]; exact k5
      · intro m o' hm
        cases m with
        | zero =>
          simp at hm; subst hm
          unfold StepAt
          simp only [Nat.add_zero, if_true]
          rw [if_neg (by omega), if_neg (by omega), if_neg (by omega), k1, k2, k3]
          exact ⟨hop, rfl, hd, hrs⟩
        | succ m =>
          have := k6 m o' (by simpa using hm)
          unfold StepAt at this ⊢
          rw [show i + (m + 1) = i + 1 + m by omega]
          simp only
          rw [if_neg (ne m), if_neg (ne m), if_neg (ne m), if_neg (ne m), if_neg (by omega), if_neg (by omega), if_neg (by omega)]
          exact this
    split at h'
    · rename_i hw
      split at h'
      · cases h'
      · rename_i v st1 hop
        obtain ⟨hd, h2⟩ := putK_inv h'
        rw [fn_eq] at h2
        exact fin v st1 _ hd h2 (.inl ⟨hw, hop⟩) rfl
    · rename_i hw
      obtain ⟨hd, h2⟩ := putK_inv h'
      rw [fn_eq] at h2
      exact fin .u st rs hd h2 (.inr ⟨hw, rfl, rfl⟩) (by simp)
theorem inF_spec : ∀ (l : List (Nat × Nat)) (n : Nat), inF l n = true ↔ ∃ x, x ∈ l ∧ x.1 ≤ n ∧ n < x.2
  | [], n => by simp [inF]
  | x :: l, n => by
    have h : inF (x :: l) n = (match Nat.ble x.1 n with | true => (match Nat.blt n x.2 with | true => true | false => inF l n) | false => inF l n) := rfl
    have ih := inF_spec l n
    rw [h]
    cases h1 : Nat.ble x.1 n with
    | true =>
      have h1' : x.1 ≤ n := by simpa [Nat.ble_eq] using h1
      cases h2 : Nat.blt n x.2 with
      | true =>
        have h2' : n < x.2 := by simpa [Nat.blt_eq] using h2
        simp only [true_iff]
        exact ⟨x, List.mem_cons_self, h1', h2'⟩
      | false =>
        have h2' : ¬ n < x.2 := fun hh => by
          have : Nat.blt n x.2 = true := by simpa [Nat.blt_eq] using hh
          rw [this] at h2; cases h2
        simp only [ih]
        constructor
        · rintro ⟨y, k1, k2⟩; exact ⟨y, List.mem_cons_of_mem _ k1, k2⟩
        · rintro ⟨y, k1, k2, k3⟩
          rcases List.mem_cons.1 k1 with rfl | k1
          · exact absurd k3 h2'
          · exact ⟨y, k1, k2, k3⟩
    | false =>
      have h1' : ¬ x.1 ≤ n := fun hh => by
        have : Nat.ble x.1 n = true := by simpa [Nat.ble_eq] using hh
        rw [this] at h1; cases h1
      simp only [ih]
      constructor
      · rintro ⟨y, k1, k2⟩; exact ⟨y, List.mem_cons_of_mem _ k1, k2⟩
      · rintro ⟨y, k1, k2, k3⟩
        rcases List.mem_cons.1 k1 with rfl | k1
        · exact absurd k2 h1'
        · exact ⟨y, k1, k2, k3⟩
theorem forb_mem (b : Nat) (f : List (Nat × Nat)) : ∀ (l : List (Nat × Nat × Nat)) (x : Nat × Nat), x ∈ forb b l f ↔ x ∈ f ∨ ∃ y, y ∈ l ∧ Nat.testBit b y.1 = false ∧ y.2 = x
  | [], x => by simp [forb]
  | y :: l, x => by
    have h : forb b (y :: l) f = (match Nat.testBit b y.1 with | true => forb b l f | false => y.2 :: forb b l f) := rfl
    have ih := forb_mem b f l x
    rw [h]
    cases hb : Nat.testBit b y.1 with
    | true =>
      simp only [ih]
      constructor
      · rintro (k | ⟨z, k1, k2⟩)
        · exact .inl k
        · exact .inr ⟨z, List.mem_cons_of_mem _ k1, k2⟩
      · rintro (k | ⟨z, k1, k2, k3⟩)
        · exact .inl k
        · rcases List.mem_cons.1 k1 with rfl | k1
          · rw [hb] at k2; cases k2
          · exact .inr ⟨z, k1, k2, k3⟩
    | false =>
      simp only [List.mem_cons, ih]
      constructor
      · rintro (rfl | k | ⟨z, k1, k2⟩)
        · exact .inr ⟨y, .inl rfl, hb, rfl⟩
        · exact .inl k
        · exact .inr ⟨z, .inr k1, k2⟩
      · rintro (k | ⟨z, k1 | k1, k2, k3⟩)
        · exact .inr (.inl k)
        · subst k1; exact .inl k3.symm
        · exact .inr (.inr ⟨z, k1, k2, k3⟩)
/-- the run, and what is known of it -/
structure Run (P : Program) (call : CallF) (c : Cx) (L : List Oper) (E : Nat → Env) (S : Nat → St) (Vv : Nat → V) (RS : Nat → List (Nat × Nat × Nat)) : Prop where
  fact : RegFacts L
  step : ∀ i o, L[i]? = some o → StepAt P call c L E S Vv RS i o
  rs0 : RS 0 = []
  wf0 : Wf (S 0)
  op : ∀ i o, L[i]? = some o → Wf (S i) → wants (E i) L o = true → StepOk (cxOf c L o i (RS i) (S i).nx) (S i) (S (i + 1)) ∧ OpOk P (cxOf c L o i (RS i) (S i).nx) (S i) (S (i + 1)) (Vv i) (E i) o
section
variable {P : Program} {call : CallF} {c : Cx} {L : List Oper} {E : Nat → Env} {S : Nat → St} {Vv : Nat → V} {RS : Nat → List (Nat × Nat × Nat)}
theorem Run.stepOk (T : Run P call c L E S Vv RS) {i : Nat} {o : Oper} (ho : L[i]? = some o) (hw : Wf (S i)) : StepOk (cxOf c L o i (RS i) (S i).nx) (S i) (S (i + 1)) := by
  obtain ⟨h, _⟩ := T.step i o ho
  rcases h with ⟨h1, _⟩ | ⟨_, _, h3⟩
  · exact (T.op i o ho hw h1).1
  · rw [h3]; exact .refl _ _
theorem Run.wf (T : Run P call c L E S Vv RS) : ∀ i, i ≤ L.length → Wf (S i)
  | 0, _ => T.wf0
  | i + 1, h => (T.stepOk (List.getElem?_eq_getElem (by omega)) (T.wf i (by omega))).wf (T.wf i (by omega))
theorem Run.nx (T : Run P call c L E S Vv RS) {i : Nat} : ∀ {j : Nat}, i ≤ j → j ≤ L.length → (S i).nx ≤ (S j).nx
  | 0, h, _ => by
    have : i = 0 := by omega
    subst this; exact Nat.le_refl _
  | j + 1, h, hl => by
    by_cases hij : i = j + 1
    · subst hij; exact Nat.le_refl _
    · exact Nat.le_trans (T.nx (by omega) (by omega)) (T.stepOk (List.getElem?_eq_getElem (by omega)) (T.wf j (by omega))).le
theorem Run.rs (T : Run P call c L E S Vv RS) : ∀ i, i ≤ L.length → ∀ j, j < i → (S j).nx < (S (j + 1)).nx → (j, (S j).nx, (S (j + 1)).nx) ∈ RS i
  | 0, _, j, h, _ => by omega
  | i + 1, hl, j, h, hlt => by
    obtain ⟨_, _, _, h4⟩ := T.step i L[i] (List.getElem?_eq_getElem (by omega))
    rw [h4]
    by_cases hj : j = i
    · subst hj
      have : Nat.beq (S j).nx (S (j + 1)).nx = false := by rw [nbeq]; simp; omega
      rw [this]
      exact List.mem_cons_self
    · have := T.rs i (by omega) j (by omega) hlt
      split
      · exact this
      · exact List.mem_cons_of_mem _ this
/-- what an operation may touch -/
theorem Run.ok (T : Run P call c L E S Vv RS) {i : Nat} {o : Oper} (hi : i ≤ L.length) {n : Nat} (h : (cxOf c L o i (RS i) (S i).nx).ok n = true) :
    touches o.op = true ∧ c.ok n = true ∧ ∀ j, j < i → (S j).nx ≤ n → n < (S (j + 1)).nx → Nat.testBit (befOf L i) j = true := by
  unfold cxOf at h
  split at h
  · cases h
  · rename_i ht
    refine ⟨ht, ?_, ?_⟩
    · unfold Cx.ok at h ⊢
      simp only at h
      split at h
      · cases h
      · rename_i ha
        simp only [Bool.not_eq_true'] at h ⊢
        rw [Bool.eq_false_iff] at h ⊢
        intro hh
        apply h
        obtain ⟨x, h1, h2⟩ := (inF_spec _ _).1 hh
        exact (inF_spec _ _).2 ⟨x, (forb_mem _ _ _ _).2 (.inl h1), h2⟩
    · intro j hj h1 h2
      cases hb : Nat.testBit (befOf L i) j with
      | true => rfl
      | false =>
        exfalso
        unfold Cx.ok at h
        simp only at h
        split at h
        · cases h
        · simp only [Bool.not_eq_true'] at h
          rw [Bool.eq_false_iff] at h
          apply h
          refine (inF_spec _ _).2 ⟨((S j).nx, (S (j + 1)).nx), (forb_mem _ _ _ _).2 (.inr ⟨_, T.rs i hi j hj (by omega), hb, rfl⟩), h1, h2⟩
/-- which operations write what stood ahead of them -/
def Wr (S : Nat → St) (k j : Nat) : Prop := j < k ∧ ∃ n, n < (S j).nx ∧ (S j).h.get n ≠ (S (j + 1)).h.get n
theorem Run.wr (T : Run P call c L E S Vv RS) {i : Nat} {o : Oper} (ho : L[i]? = some o) (hw : Wr S L.length i) : touches o.op = true ∧ ∀ j o', L[j]? = some o' → j ≠ i → touches o'.op = true → Nat.testBit (befOf L i) j = true ∨ Nat.testBit (befOf L j) i = true := by
  obtain ⟨hi, n, hn, hne⟩ := hw
  have hs := (T.stepOk ho (T.wf i (by omega))).chg n hn hne
  have hok := T.ok (by omega) hs.1
  refine ⟨hok.1, ?_⟩
  have hwb := hs.2.2.2
  unfold cxOf at hwb
  rw [hok.1] at hwb
  simp only at hwb
  split at hwb
  · rename_i hm; exact mayW_spec hm
  · omega
theorem Run.same (T : Run P call c L E S Vv RS) {n a : Nat} (hn : n < (S a).nx) : ∀ {b : Nat}, a ≤ b → b ≤ L.length → (∀ j, a ≤ j → j < b → Wr S L.length j → (S j).h.get n = (S (j + 1)).h.get n) → (S a).h.get n = (S b).h.get n
  | 0, h, _, _ => by
    have : a = 0 := by omega
    subst this; rfl
  | b + 1, h, hl, hj => by
    by_cases hab : a = b + 1
    · subst hab; rfl
    · have ih := T.same hn (b := b) (by omega) (by omega) (fun j h1 h2 h3 => hj j h1 (by omega) h3)
      rw [ih]
      by_cases hw : (S b).h.get n = (S (b + 1)).h.get n
      · exact hw
      · exact hj b (by omega) (by omega) ⟨by omega, n, Nat.lt_of_lt_of_le hn (T.nx (by omega) (by omega)), hw⟩
/-- the whole run is a step. -/
theorem Run.stepC (T : Run P call c L E S Vv RS) {i : Nat} (hi : i < L.length) : StepOk c (S i) (S (i + 1)) := by
  have ho : L[i]? = some L[i] := List.getElem?_eq_getElem hi
  have hs := T.stepOk ho (T.wf i (by omega))
  refine ⟨hs.le, fun n hn hne => ?_, hs.wf⟩
  obtain ⟨h1, h2, h3, h4⟩ := hs.chg n hn hne
  have hok := T.ok (by omega) h1
  refine ⟨hok.2.1, h2, h3, ?_⟩
  unfold cxOf at h4
  rw [hok.1] at h4
  simp only at h4
  split at h4
  · exact h4
  · omega
theorem Run.all (T : Run P call c L E S Vv RS) : ∀ i, i ≤ L.length → StepOk c (S 0) (S i)
  | 0, _ => .refl _ _
  | i + 1, h => (T.all i (by omega)).trans (T.stepC (by omega))
/-- slots in the run -/
theorem Run.slot (T : Run P call c L E S Vv RS) : ∀ i, i ≤ L.length → (∀ j o t, j < i → L[j]? = some o → o.dst = some t → ((E i).get t).getD .u = Vv j) ∧ (∀ t, (∀ j o, j < i → L[j]? = some o → o.dst ≠ some t) → ((E i).get t).getD .u = ((E 0).get t).getD .u)
  | 0, _ => ⟨fun j o t h => by omega, fun _ _ => rfl⟩
  | i + 1, h => by
    obtain ⟨ih1, ih2⟩ := T.slot i (by omega)
    have ho : L[i]? = some L[i] := List.getElem?_eq_getElem (by omega)
    obtain ⟨_, h2, _, _⟩ := T.step i _ ho
    rw [h2]
    refine ⟨fun j o t hj hjo hd => ?_, fun t ht => ?_⟩
    · rw [putE_get]
      by_cases hji : j = i
      · subst hji
        rw [ho] at hjo; injection hjo with hjo; subst hjo
        rw [if_pos hd]
      · rw [if_neg (T.fact.uniq j i o L[i] t hjo ho hji hd)]
        exact ih1 j o t (by omega) hjo hd
    · rw [putE_get, if_neg (ht i _ (by omega) ho)]
      exact ih2 t fun j o hj => ht j o (by omega)
end
end Go.Proofs.Ytnigikccijjihaa.Ev

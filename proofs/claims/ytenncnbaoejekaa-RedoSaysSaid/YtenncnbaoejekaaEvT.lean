/-
  PLAIN: a region that draws its order: every order that may be drawn ends as the evaluator's one run does.
-/
import Derived.Test.YtenncnbaoejekaaEvQ
namespace Go.Proofs.Ytenncnbaoejekaa.Ev
open Go.RowKit

section
variable {P : Program} {call : CallF} {c : Cx} {L : List Oper} {E : Nat → Env} {S : Nat → St} {Vv : Nat → V} {RS : Nat → List (Nat × Nat × Nat)}
/-- what is done -/
structure DoneOk (L : List Oper) (D : Nat → Prop) : Prop where
  lt : ∀ j, D j → j < L.length
  shut : ∀ i j, D i → Nat.testBit (befOf L i) j = true → D j
/-- the memory when D is done -/
structure MemOk (L : List Oper) (S : Nat → St) (τ0 : Mem) (D : Nat → Prop) (m : Nat) (τ : Mem) : Prop where
  le : m ≤ L.length
  c1 : ∀ j, D j → Wr S L.length j → j < m
  c2 : ∀ j, j < m → Wr S L.length j → D j
  t1 : ∀ n, n < (S 0).nx → ((S 0).h.get n = (S m).h.get n → τ n = τ0 n) ∧ ((S 0).h.get n ≠ (S m).h.get n → τ n = (S m).h.get n)
  t2 : ∀ j n, D j → (S j).nx ≤ n → n < (S (j + 1)).nx → τ n = (S (max (j + 1) m)).h.get n
  t3 : ∀ j n, j < L.length → ¬ D j → (S j).nx ≤ n → n < (S (j + 1)).nx → τ n = τ0 n
  t4 : ∀ n, (S L.length).nx ≤ n → τ n = τ0 n
/-- i may come next -/
structure Next (L : List Oper) (D : Nat → Prop) (i : Nat) (o : Oper) : Prop where
  op : L[i]? = some o
  undone : ¬ D i
  bef : ∀ j, Nat.testBit (befOf L i) j = true → D j
theorem Next.lt {D : Nat → Prop} {i : Nat} {o : Oper} (N : Next L D i o) : i < L.length := by
  rcases Nat.lt_or_ge i L.length with h | h
  · exact h
  · have := N.op
    rw [List.getElem?_eq_none h] at this; cases this
/-- who owns a name -/
theorem Run.own (T : Run P call c L E S Vv RS) {n : Nat} : ∀ {i : Nat}, i ≤ L.length → n < (S i).nx → n < (S 0).nx ∨ ∃ j, j < i ∧ (S j).nx ≤ n ∧ n < (S (j + 1)).nx
  | 0, _, h => .inl h
  | i + 1, hi, h => by
    by_cases hn : n < (S i).nx
    · exact (T.own (by omega) hn).imp id fun ⟨j, h1, h2⟩ => ⟨j, by omega, h2⟩
    · exact .inr ⟨i, by omega, by omega, h⟩
theorem Run.own1 (T : Run P call c L E S Vv RS) {n i j : Nat} (hi : i < L.length) (hj : j < L.length) (h1 : (S i).nx ≤ n) (h2 : n < (S (i + 1)).nx) (h3 : (S j).nx ≤ n) (h4 : n < (S (j + 1)).nx) : i = j := by
  rcases Nat.lt_trichotomy i j with h | h | h
  · have := T.nx (i := i + 1) (j := j) (by omega) (by omega); omega
  · exact h
  · have := T.nx (i := j + 1) (j := i) (by omega) (by omega); omega
/-- those that write and are done stand ahead of one that touches; all that stand ahead are done; but for loads of what isn't written -/
theorem Run.split (T : Run P call c L E S Vv RS) {D : Nat → Prop} (hD : DoneOk L D) {i : Nat} {o : Oper} (N : Next L D i o) (ht : touches o.op = true) {j : Nat} (hj : Wr S L.length j) (hji : j ≠ i) : (D j ↔ j < i) ∨
    (∃ q, plainLd o.op = some q ∧ ∀ v m, (E i).get q = some v → blkOf v = some m → m < (S j).nx → (S j).h.get m = (S (j + 1)).h.get m) := by
  have hjl := hj.1
  obtain ⟨h1, _, h2⟩ := T.wr (List.getElem?_eq_getElem hjl) hj
  rcases h2 i o N.op (fun e => hji e.symm) ht with (h | h) | h
  · left
    constructor
    · intro hd; exact absurd (hD.shut j i hd h) N.undone
    · intro hlt
      have := T.fact.lt j i _ (List.getElem?_eq_getElem hjl) h
      omega
  · left
    constructor
    · intro _; exact T.fact.lt i j o N.op h
    · intro _; exact N.bef j h
  · exact .inr h
/-- between the cut and one that touches nothing is written -/
theorem Run.level (T : Run P call c L E S Vv RS) {D : Nat → Prop} (hD : DoneOk L D) {τ0 τ : Mem} {m : Nat} (M : MemOk L S τ0 D m τ) {i : Nat} {o : Oper} (N : Next L D i o) (ht : touches o.op = true) {n a : Nat} (ha : a ≤ i) (hn : n < (S a).nx)
    (hld : ∀ q, plainLd o.op = some q → ∃ v, (E i).get q = some v ∧ blkOf v = some n) :
    (S (max a m)).h.get n = (S i).h.get n := by
  have hi := N.lt
  have hm := M.le
  have hn' : n < (S (max a m)).nx := Nat.lt_of_lt_of_le hn (T.nx (by omega) (by omega))
  by_cases h : max a m ≤ i
  · refine T.same hn' h (by omega) fun j h1 h2 h3 => ?_
    rcases T.split hD N ht h3 (by omega) with hs | ⟨q, k1, k3⟩
    · have := M.c1 j (hs.2 h2) h3
      omega
    · obtain ⟨v', e1, e2⟩ := hld q k1
      exact k3 v' n e1 e2 (Nat.lt_of_lt_of_le hn' (T.nx h1 (by omega)))
  · have hn2 : n < (S i).nx := Nat.lt_of_lt_of_le hn (T.nx ha (by omega))
    refine (T.same hn2 (by omega) (by omega) fun j h1 h2 h3 => ?_).symm
    have hd := M.c2 j (by omega) h3
    have hne : j ≠ i := fun e => N.undone (e ▸ hd)
    rcases T.split hD N ht h3 hne with hs | ⟨q, k1, k3⟩
    · have := hs.1 hd
      omega
    · obtain ⟨v', e1, e2⟩ := hld q k1
      exact k3 v' n e1 e2 (Nat.lt_of_lt_of_le hn2 (T.nx h1 (by omega)))
theorem Run.agree (T : Run P call c L E S Vv RS) {D : Nat → Prop} (hD : DoneOk L D) {τ0 τ : Mem} (hag : Agree c (S 0) τ0) {m : Nat} (M : MemOk L S τ0 D m τ) {i : Nat} {o : Oper} (N : Next L D i o) : Agree (cxOf c L o i (RS i) (S i).nx (E i)) (S i) τ := by
  intro n b hok hb
  have hi := N.lt
  have hlt : n < (S i).nx := by
    rcases Nat.lt_or_ge n (S i).nx with h | h
    · exact h
    · rw [T.wf i (by omega) n h] at hb; cases hb
  obtain ⟨h1, h2, h3, hld⟩ := T.ok (by omega) hlt hok
  rcases T.own (by omega) hlt with h | ⟨j, h4, h5, h6⟩
  · have e : (S m).h.get n = (S i).h.get n := by
      have := T.level hD M N h1 (Nat.zero_le i) h hld
      rwa [Nat.zero_max] at this
    have ht := M.t1 n h
    by_cases he : (S 0).h.get n = (S m).h.get n
    · rw [ht.1 he]
      exact hag n b h2 (by rw [he, e, hb])
    · rw [ht.2 he, e, hb]
  · rw [M.t2 j n (N.bef j (h3 j h4 h5 h6)) h5 h6, T.level hD M N h1 (by omega) h6 hld, hb]
/-- nothing older turns where nothing is touched -/
theorem Run.keeps (T : Run P call c L E S Vv RS) {i : Nat} (hi : i < L.length) (hw : ¬ Wr S L.length i) {n : Nat} (h : ¬ ((S i).nx ≤ n ∧ n < (S (i + 1)).nx)) : (S i).h.get n = (S (i + 1)).h.get n := by
  by_cases hn : n < (S i).nx
  · by_cases e : (S i).h.get n = (S (i + 1)).h.get n
    · exact e
    · exact absurd ⟨hi, n, hn, e⟩ hw
  · rw [T.wf i (by omega) n (by omega), T.wf (i + 1) (by omega) n (by omega)]
theorem ov_in {st st' : St} {τ : Mem} {n : Nat} (h1 : st.nx ≤ n) (h2 : n < st'.nx) : ov st st' τ n = st'.h.get n := by
  unfold ov; rw [if_pos ⟨h1, h2⟩]
theorem ov_keep {st st' : St} {τ : Mem} {n : Nat} (h : ¬ (st.nx ≤ n ∧ n < st'.nx)) (e : st.h.get n = st'.h.get n) : ov st st' τ n = τ n := by
  unfold ov; rw [if_neg h, if_pos e]
theorem ov_turn {st st' : St} {τ : Mem} {n : Nat} (h : ¬ (st.nx ≤ n ∧ n < st'.nx)) (e : st.h.get n ≠ st'.h.get n) : ov st st' τ n = st'.h.get n := by
  unfold ov; rw [if_neg h, if_neg e]
theorem DoneOk.step {D : Nat → Prop} (hD : DoneOk L D) {i : Nat} {o : Oper} (N : Next L D i o) : DoneOk L (fun j => D j ∨ j = i) :=
  ⟨fun j h => h.elim (hD.lt j) fun e => e ▸ N.lt, fun x j h hb => h.elim (fun h => .inl (hD.shut x j h hb)) fun e => .inl (N.bef j (e ▸ hb))⟩
/-- a step that writes nothing older -/
theorem Run.calm (T : Run P call c L E S Vv RS) {D : Nat → Prop} (hD : DoneOk L D) {τ0 τ : Mem} {m : Nat} (M : MemOk L S τ0 D m τ) {i : Nat} {o : Oper} (N : Next L D i o) (hw : ¬ Wr S L.length i) :
    MemOk L S τ0 (fun j => D j ∨ j = i) m (ov (S i) (S (i + 1)) τ) := by
  have hi := N.lt
  have hm := M.le
  have keep : ∀ n, ¬ ((S i).nx ≤ n ∧ n < (S (i + 1)).nx) → ov (S i) (S (i + 1)) τ n = τ n := fun n h => ov_keep h (T.keeps hi hw h)
  have n1 := T.nx (i := 0) (j := i) (by omega) (by omega)
  have n2 := T.nx (i := i + 1) (j := L.length) (by omega) (by omega)
  refine ⟨hm, fun j h h2 => ?_, fun j h h2 => .inl (M.c2 j h h2), fun n h => ?_, fun j n h h1 h2 => ?_, fun j n h h0 h1 h2 => ?_, fun n h => ?_⟩
  · rcases h with h | h
    · exact M.c1 j h h2
    · subst h; exact absurd h2 hw
  · rw [keep n (by omega)]; exact M.t1 n h
  · by_cases hji : j = i
    · subst hji
      rw [ov_in h1 h2]
      by_cases hm2 : m ≤ j + 1
      · rw [Nat.max_eq_left hm2]
      · rw [Nat.max_eq_right (by omega)]
        refine T.same h2 (by omega) hm fun x k1 k2 k3 => ?_
        by_cases e : (S x).h.get n = (S (x + 1)).h.get n
        · exact e
        · exfalso
          have hx : n < (S x).nx := Nat.lt_of_lt_of_le h2 (T.nx k1 (by omega))
          have hs := (T.stepOk (List.getElem?_eq_getElem (by omega)) (T.wf x (by omega))).chg n hx e
          have hok := (T.ok (by omega) hx hs.1).2.2.1 j (by omega) h1 h2
          exact N.undone (hD.shut x j (M.c2 x k2 k3) hok)
    · have hd : D j := h.resolve_right hji
      rw [keep n fun hh => hji (T.own1 (hD.lt j hd) hi h1 h2 hh.1 hh.2)]
      exact M.t2 j n hd h1 h2
  · rw [keep n fun hh => h0 (.inr (T.own1 h hi h1 h2 hh.1 hh.2))]
    exact M.t3 j n h (fun hd => h0 (.inl hd)) h1 h2
  · rw [keep n (by omega)]; exact M.t4 n h
/-- a step that writes -/
theorem Run.turn (T : Run P call c L E S Vv RS) {D : Nat → Prop} (hD : DoneOk L D) {τ0 τ : Mem} (hag : Agree c (S 0) τ0) {m : Nat} (M : MemOk L S τ0 D m τ) {i : Nat} {o : Oper} (N : Next L D i o) (hw : Wr S L.length i) :
    MemOk L S τ0 (fun j => D j ∨ j = i) (i + 1) (ov (S i) (S (i + 1)) τ) := by
  have hi := N.lt
  have hm := M.le
  have ht := (T.wr N.op hw).1
  have hpl : ∀ n q, plainLd o.op = some q → ∃ v, (E i).get q = some v ∧ blkOf v = some n := fun n q h => by rw [(T.wr N.op hw).2.1] at h; cases h
  have spl : ∀ j, Wr S L.length j → j ≠ i → (D j ↔ j < i) := fun j h1 h2 => (T.split hD N ht h1 h2).resolve_right fun ⟨q, k, _⟩ => by rw [(T.wr N.op hw).2.1] at k; cases k
  have hst := T.stepOk N.op (T.wf i (by omega))
  have n1 := T.nx (i := 0) (j := i) (by omega) (by omega)
  have n2 := T.nx (i := i + 1) (j := L.length) (by omega) (by omega)
  have late : ∀ n, (S (i + 1)).nx ≤ n → (S i).h.get n = (S (i + 1)).h.get n := fun n h => by
    rw [T.wf i (by omega) n (Nat.le_trans hst.le h), T.wf (i + 1) (by omega) n h]
  refine ⟨by omega, fun j h h2 => ?_, fun j h h2 => ?_, fun n h => ?_, fun j n h h1 h2 => ?_, fun j n h h0 h1 h2 => ?_, fun n h => ?_⟩
  · rcases h with h | h
    · have hne : j ≠ i := fun e => N.undone (e ▸ h)
      have := (spl j h2 hne).1 h
      omega
    · omega
  · by_cases hji : j = i
    · exact .inr hji
    · exact .inl ((spl j h2 hji).2 (by omega))
  · have hlt : n < (S i).nx := by omega
    have hno : ¬ ((S i).nx ≤ n ∧ n < (S (i + 1)).nx) := by omega
    have lv := T.level hD M N ht (Nat.zero_le i) h (hpl n)
    rw [Nat.zero_max] at lv
    have t1 := M.t1 n h
    by_cases e : (S i).h.get n = (S (i + 1)).h.get n
    · rw [ov_keep hno e, ← e, ← lv]; exact t1
    · rw [ov_turn hno e]
      refine ⟨fun e0 => ?_, fun _ => rfl⟩
      obtain ⟨k1, k2, k3, k4⟩ := hst.chg n hlt e
      have hok := (T.ok (by omega) hlt k1).2.1
      cases hg : (S (i + 1)).h.get n with
      | none => exact absurd hg k3
      | some b => exact (hag n b hok (e0.trans hg)).symm
  · by_cases hji : j = i
    · subst hji
      rw [ov_in h1 h2, Nat.max_self]
    · have hd : D j := h.resolve_right hji
      have hjl := hD.lt j hd
      have hno : ¬ ((S i).nx ≤ n ∧ n < (S (i + 1)).nx) := fun hh => hji (T.own1 hjl hi h1 h2 hh.1 hh.2)
      have t2 := M.t2 j n hd h1 h2
      rcases Nat.lt_or_gt_of_ne hji with hlt | hgt
      · rw [T.level hD M N ht (by omega) h2 (hpl n)] at t2
        rw [Nat.max_eq_right (by omega)]
        by_cases e : (S i).h.get n = (S (i + 1)).h.get n
        · rw [ov_keep hno e, t2, e]
        · rw [ov_turn hno e]
      · have n3 := T.nx (i := i + 1) (j := j) (by omega) (by omega)
        rw [ov_keep hno (late n (by omega)), t2, Nat.max_eq_left (by omega : i + 1 ≤ j + 1)]
        by_cases hm2 : m ≤ j + 1
        · rw [Nat.max_eq_left hm2]
        · rw [Nat.max_eq_right (by omega)]
          refine (T.same h2 (by omega) hm fun x k1 k2 k3 => ?_).symm
          have hx := M.c2 x k2 k3
          have := (spl x k3 (by omega)).1 hx
          omega
  · have hji : j ≠ i := fun e => h0 (.inr e)
    have hno : ¬ ((S i).nx ≤ n ∧ n < (S (i + 1)).nx) := fun hh => hji (T.own1 h hi h1 h2 hh.1 hh.2)
    have t3 := M.t3 j n h (fun hd => h0 (.inl hd)) h1 h2
    rcases Nat.lt_or_gt_of_ne hji with hlt | hgt
    · have n3 := T.nx (i := j + 1) (j := i) (by omega) (by omega)
      by_cases e : (S i).h.get n = (S (i + 1)).h.get n
      · rw [ov_keep hno e, t3]
      · obtain ⟨k1, _⟩ := hst.chg n (by omega) e
        exact absurd (.inl (N.bef j ((T.ok (by omega) (by omega) k1).2.2.1 j hlt h1 h2))) h0
    · have n3 := T.nx (i := i + 1) (j := j) (by omega) (by omega)
      rw [ov_keep hno (late n (by omega)), t3]
  · rw [ov_keep (by omega) (late n (by omega))]; exact M.t4 n h
theorem Run.next (T : Run P call c L E S Vv RS) {D : Nat → Prop} (hD : DoneOk L D) {τ0 τ : Mem} (hag : Agree c (S 0) τ0) {m : Nat} (M : MemOk L S τ0 D m τ) {i : Nat} {o : Oper} (N : Next L D i o) :
    ∃ m', MemOk L S τ0 (fun j => D j ∨ j = i) m' (ov (S i) (S (i + 1)) τ) := by
  by_cases hw : Wr S L.length i
  · exact ⟨_, T.turn hD hag M N hw⟩
  · exact ⟨_, T.calm hD M N hw⟩
/-- all done -/
theorem Run.done (T : Run P call c L E S Vv RS) {D : Nat → Prop} (hD : ∀ j, j < L.length → D j) {τ0 τ : Mem} {m : Nat} (M : MemOk L S τ0 D m τ) : τ = ov (S 0) (S L.length) τ0 := by
  have hm := M.le
  have top : ∀ n a, n < (S a).nx → a ≤ L.length → (S (max a m)).h.get n = (S L.length).h.get n := fun n a hn ha =>
    T.same (Nat.lt_of_lt_of_le hn (T.nx (by omega) (by omega))) (by omega) (Nat.le_refl _) fun j h1 h2 h3 => by
      have := M.c1 j (hD j h2) h3
      omega
  symm
  apply ov_eq
  · intro n h1 h2
    rcases T.own (Nat.le_refl _) h2 with h | ⟨j, h3, h4, h5⟩
    · omega
    · rw [M.t2 j n (hD j h3) h4 h5, top n _ h5 (by omega)]
  · intro n h1 e
    by_cases h : n < (S 0).nx
    · have := top n 0 h (by omega)
      rw [Nat.zero_max] at this
      rw [(M.t1 n h).2 (by rw [this]; exact e), this]
    · rw [M.t4 n (by omega), T.wf _ (Nat.le_refl _) n (by omega)]
      exact absurd (by rw [T.wf 0 (by omega) n (by omega), T.wf _ (Nat.le_refl _) n (by omega)]) e
  · intro n h1 e
    by_cases h : n < (S 0).nx
    · have := top n 0 h (by omega)
      rw [Nat.zero_max] at this
      exact (M.t1 n h).1 (by rw [this]; exact e)
    · exact M.t4 n (by omega)
theorem MemOk.zero {τ0 : Mem} : MemOk L S τ0 (fun _ => False) 0 τ0 :=
  ⟨Nat.zero_le _, fun _ h => h.elim, fun _ h => by omega, fun _ _ => ⟨fun _ => rfl, fun h => absurd rfl h⟩, fun _ _ h => h.elim, fun _ _ _ _ _ _ => rfl, fun _ _ => rfl⟩
end
end Go.Proofs.Ytenncnbaoejekaa.Ev

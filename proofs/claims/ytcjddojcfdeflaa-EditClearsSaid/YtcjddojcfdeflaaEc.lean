/-
  PLAIN: EvT, EvU, EvV, EvW, Eq, Ch, in one text.
-/
import Derived.Test.YtcjddojcfdeflaaEb
import Derived.Orders
namespace Go.Proofs.Ytcjddojcfdeflaa.Ev
open Go.RowKit

section
variable {P : Program} {call : CallF} {c : Cx} {L : List Oper} {E : Nat → Env} {S : Nat → St} {Vv : Nat → V} {RS : Nat → List (Nat × Nat × Nat)}
/-- what is done -/
structure DoneOk (L : List Oper) (D : Nat → Prop) : Prop where
  lt : ∀ j, D j → j < L.length
  shut : ∀ i j, D i → Nat.testBit (befOf L i) j = true → D j
/-- the memory when D is done -/
structure MemOk (L : List Oper) (S : Nat → St) (τ0 : Mem) (D : Nat → Prop) (m : Nat) (τ : Mem) : Prop where
  le : m ≤ L.length
  c1 : ∀ j, D j → Wr S L.length j → j < m
  c2 : ∀ j, j < m → Wr S L.length j → D j
  t1 : ∀ n, n < (S 0).nx → ((S 0).h.get n = (S m).h.get n → τ n = τ0 n) ∧ ((S 0).h.get n ≠ (S m).h.get n → τ n = (S m).h.get n)
  t2 : ∀ j n, D j → (S j).nx ≤ n → n < (S (j + 1)).nx → τ n = (S (max (j + 1) m)).h.get n
  t3 : ∀ j n, j < L.length → ¬ D j → (S j).nx ≤ n → n < (S (j + 1)).nx → τ n = τ0 n
  t4 : ∀ n, (S L.length).nx ≤ n → τ n = τ0 n
/-- i may come next -/
structure Next (L : List Oper) (D : Nat → Prop) (i : Nat) (o : Oper) : Prop where
  op : L[i]? = some o
  undone : ¬ D i
  bef : ∀ j, Nat.testBit (befOf L i) j = true → D j
theorem Next.lt {D : Nat → Prop} {i : Nat} {o : Oper} (N : Next L D i o) : i < L.length := by
  rcases Nat.lt_or_ge i L.length with h | h
  · exact h
  · have := N.op
    rw [List.getElem?_eq_none h] at this; cases this
/-- who owns a name -/
theorem Run.own (T : Run P call c L E S Vv RS) {n : Nat} : ∀ {i : Nat}, i ≤ L.length → n < (S i).nx → n < (S 0).nx ∨ ∃ j, j < i ∧ (S j).nx ≤ n ∧ n < (S (j + 1)).nx
  | 0, _, h => .inl h
  | i + 1, hi, h => by
    by_cases hn : n < (S i).nx
    · exact (T.own (by omega) hn).imp id fun ⟨j, h1, h2⟩ => ⟨j, by omega, h2⟩
    · exact .inr ⟨i, by omega, by omega, h⟩
theorem Run.own1 (T : Run P call c L E S Vv RS) {n i j : Nat} (hi : i < L.length) (hj : j < L.length) (h1 : (S i).nx ≤ n) (h2 : n < (S (i + 1)).nx) (h3 : (S j).nx ≤ n) (h4 : n < (S (j + 1)).nx) : i = j := by
  rcases Nat.lt_trichotomy i j with h | h | h
  · have := T.nx (i := i + 1) (j := j) (by omega) (by omega); omega
  · exact h
  · have := T.nx (i := j + 1) (j := i) (by omega) (by omega); omega
/-- those that write and are done stand ahead of one that touches; all that stand ahead are done; but for loads of what isn't written -/
theorem Run.split (T : Run P call c L E S Vv RS) {D : Nat → Prop} (hD : DoneOk L D) {i : Nat} {o : Oper} (N : Next L D i o) (ht : touches o.op = true) {j : Nat} (hj : Wr S L.length j) (hji : j ≠ i) : (D j ↔ j < i) ∨
    (∃ q, plainLd o.op = some q ∧ ∀ v m, (E i).get q = some v → blkOf v = some m → m < (S j).nx → (S j).h.get m = (S (j + 1)).h.get m) := by
  have hjl := hj.1
  obtain ⟨h1, _, h2⟩ := T.wr (List.getElem?_eq_getElem hjl) hj
  rcases h2 i o N.op (fun e => hji e.symm) ht with (h | h) | h
  · left
    constructor
    · intro hd; exact absurd (hD.shut j i hd h) N.undone
    · intro hlt
      have := T.fact.lt j i _ (List.getElem?_eq_getElem hjl) h
      omega
  · left
    constructor
    · intro _; exact T.fact.lt i j o N.op h
    · intro _; exact N.bef j h
  · exact .inr h
/-- between the cut and one that touches nothing is written -/
theorem Run.level (T : Run P call c L E S Vv RS) {D : Nat → Prop} (hD : DoneOk L D) {τ0 τ : Mem} {m : Nat} (M : MemOk L S τ0 D m τ) {i : Nat} {o : Oper} (N : Next L D i o) (ht : touches o.op = true) {n a : Nat} (ha : a ≤ i) (hn : n < (S a).nx)
    (hld : ∀ q, plainLd o.op = some q → ∃ v, (E i).get q = some v ∧ blkOf v = some n) :
    (S (max a m)).h.get n = (S i).h.get n := by
  have hi := N.lt
  have hm := M.le
  have hn' : n < (S (max a m)).nx := Nat.lt_of_lt_of_le hn (T.nx (by omega) (by omega))
  by_cases h : max a m ≤ i
  · refine T.same hn' h (by omega) fun j h1 h2 h3 => ?_
    rcases T.split hD N ht h3 (by omega) with hs | ⟨q, k1, k3⟩
    · have := M.c1 j (hs.2 h2) h3
      omega
    · obtain ⟨v', e1, e2⟩ := hld q k1
      exact k3 v' n e1 e2 (Nat.lt_of_lt_of_le hn' (T.nx h1 (by omega)))
  · have hn2 : n < (S i).nx := Nat.lt_of_lt_of_le hn (T.nx ha (by omega))
    refine (T.same hn2 (by omega) (by omega) fun j h1 h2 h3 => ?_).symm
    have hd := M.c2 j (by omega) h3
    have hne : j ≠ i := fun e => N.undone (e ▸ hd)
    rcases T.split hD N ht h3 hne with hs | ⟨q, k1, k3⟩
    · have := hs.1 hd
      omega
    · obtain ⟨v', e1, e2⟩ := hld q k1
      exact k3 v' n e1 e2 (Nat.lt_of_lt_of_le hn2 (T.nx h1 (by omega)))
theorem Run.agree (T : Run P call c L E S Vv RS) {D : Nat → Prop} (hD : DoneOk L D) {τ0 τ : Mem} (hag : Agree c (S 0) τ0) {m : Nat} (M : MemOk L S τ0 D m τ) {i : Nat} {o : Oper} (N : Next L D i o) : Agree (cxOf c L o i (RS i) (S i) (E i)) (S i) τ := by
  intro n b hok hb
  have hi := N.lt
  have hlt : n < (S i).nx := by
    rcases Nat.lt_or_ge n (S i).nx with h | h
    · exact h
    · rw [T.wf i (by omega) n h] at hb; cases hb
  obtain ⟨h1, h2, h3, hld⟩ := T.ok (by omega) hlt hok
  rcases T.own (by omega) hlt with h | ⟨j, h4, h5, h6⟩
  · have e : (S m).h.get n = (S i).h.get n := by
      have := T.level hD M N h1 (Nat.zero_le i) h hld
      rwa [Nat.zero_max] at this
    have ht := M.t1 n h
    by_cases he : (S 0).h.get n = (S m).h.get n
    · rw [ht.1 he]
      exact hag n b h2 (by rw [he, e, hb])
    · rw [ht.2 he, e, hb]
  · rw [M.t2 j n (N.bef j (h3 j h4 h5 h6)) h5 h6, T.level hD M N h1 (by omega) h6 hld, hb]
/-- nothing older turns where nothing is touched -/
theorem Run.keeps (T : Run P call c L E S Vv RS) {i : Nat} (hi : i < L.length) (hw : ¬ Wr S L.length i) {n : Nat} (h : ¬ ((S i).nx ≤ n ∧ n < (S (i + 1)).nx)) : (S i).h.get n = (S (i + 1)).h.get n := by
  by_cases hn : n < (S i).nx
  · by_cases e : (S i).h.get n = (S (i + 1)).h.get n
    · exact e
    · exact absurd ⟨hi, n, hn, e⟩ hw
  · rw [T.wf i (by omega) n (by omega), T.wf (i + 1) (by omega) n (by omega)]
theorem ov_in {st st' : St} {τ : Mem} {n : Nat} (h1 : st.nx ≤ n) (h2 : n < st'.nx) : ov st st' τ n = st'.h.get n := by
  unfold ov; rw [if_pos ⟨h1, h2⟩]
theorem ov_keep {st st' : St} {τ : Mem} {n : Nat} (h : ¬ (st.nx ≤ n ∧ n < st'.nx)) (e : st.h.get n = st'.h.get n) : ov st st' τ n = τ n := by
  unfold ov; rw [if_neg h, if_pos e]
theorem ov_turn {st st' : St} {τ : Mem} {n : Nat} (h : ¬ (st.nx ≤ n ∧ n < st'.nx)) (e : st.h.get n ≠ st'.h.get n) : ov st st' τ n = st'.h.get n := by
  unfold ov; rw [if_neg h, if_neg e]
theorem DoneOk.step {D : Nat → Prop} (hD : DoneOk L D) {i : Nat} {o : Oper} (N : Next L D i o) : DoneOk L (fun j => D j ∨ j = i) :=
  ⟨fun j h => h.elim (hD.lt j) fun e => e ▸ N.lt, fun x j h hb => h.elim (fun h => .inl (hD.shut x j h hb)) fun e => .inl (N.bef j (e ▸ hb))⟩
/-- a step that writes nothing older -/
theorem Run.calm (T : Run P call c L E S Vv RS) {D : Nat → Prop} (hD : DoneOk L D) {τ0 τ : Mem} {m : Nat} (M : MemOk L S τ0 D m τ) {i : Nat} {o : Oper} (N : Next L D i o) (hw : ¬ Wr S L.length i) :
    MemOk L S τ0 (fun j => D j ∨ j = i) m (ov (S i) (S (i + 1)) τ) := by
  have hi := N.lt
  have hm := M.le
  have keep : ∀ n, ¬ ((S i).nx ≤ n ∧ n < (S (i + 1)).nx) → ov (S i) (S (i + 1)) τ n = τ n := fun n h => ov_keep h (T.keeps hi hw h)
  have n1 := T.nx (i := 0) (j := i) (by omega) (by omega)
  have n2 := T.nx (i := i + 1) (j := L.length) (by omega) (by omega)
  refine ⟨hm, fun j h h2 => ?_, fun j h h2 => .inl (M.c2 j h h2), fun n h => ?_, fun j n h h1 h2 => ?_, fun j n h h0 h1 h2 => ?_, fun n h => ?_⟩
  · rcases h with h | h
    · exact M.c1 j h h2
    · subst h; exact absurd h2 hw
  · rw [keep n (by omega)]; exact M.t1 n h
  · by_cases hji : j = i
    · subst hji
      rw [ov_in h1 h2]
      by_cases hm2 : m ≤ j + 1
      · rw [Nat.max_eq_left hm2]
      · rw [Nat.max_eq_right (by omega)]
        refine T.same h2 (by omega) hm fun x k1 k2 k3 => ?_
        by_cases e : (S x).h.get n = (S (x + 1)).h.get n
        · exact e
        · exfalso
          have hx : n < (S x).nx := Nat.lt_of_lt_of_le h2 (T.nx k1 (by omega))
          have hs := (T.stepOk (List.getElem?_eq_getElem (by omega)) (T.wf x (by omega))).chg n hx e
          have hok := (T.ok (by omega) hx hs.1).2.2.1 j (by omega) h1 h2
          exact N.undone (hD.shut x j (M.c2 x k2 k3) hok)
    · have hd : D j := h.resolve_right hji
      rw [keep n fun hh => hji (T.own1 (hD.lt j hd) hi h1 h2 hh.1 hh.2)]
      exact M.t2 j n hd h1 h2
  · rw [keep n fun hh => h0 (.inr (T.own1 h hi h1 h2 hh.1 hh.2))]
    exact M.t3 j n h (fun hd => h0 (.inl hd)) h1 h2
  · rw [keep n (by omega)]; exact M.t4 n h
/-- a step that writes -/
theorem Run.turn (T : Run P call c L E S Vv RS) {D : Nat → Prop} (hD : DoneOk L D) {τ0 τ : Mem} (hag : Agree c (S 0) τ0) {m : Nat} (M : MemOk L S τ0 D m τ) {i : Nat} {o : Oper} (N : Next L D i o) (hw : Wr S L.length i) :
    MemOk L S τ0 (fun j => D j ∨ j = i) (i + 1) (ov (S i) (S (i + 1)) τ) := by
  have hi := N.lt
  have hm := M.le
  have ht := (T.wr N.op hw).1
  have hpl : ∀ n q, plainLd o.op = some q → ∃ v, (E i).get q = some v ∧ blkOf v = some n := fun n q h => by rw [(T.wr N.op hw).2.1] at h; cases h
  have spl : ∀ j, Wr S L.length j → j ≠ i → (D j ↔ j < i) := fun j h1 h2 => (T.split hD N ht h1 h2).resolve_right fun ⟨q, k, _⟩ => by rw [(T.wr N.op hw).2.1] at k; cases k
  have hst := T.stepOk N.op (T.wf i (by omega))
  have n1 := T.nx (i := 0) (j := i) (by omega) (by omega)
  have n2 := T.nx (i := i + 1) (j := L.length) (by omega) (by omega)
  have late : ∀ n, (S (i + 1)).nx ≤ n → (S i).h.get n = (S (i + 1)).h.get n := fun n h => by
    rw [T.wf i (by omega) n (Nat.le_trans hst.le h), T.wf (i + 1) (by omega) n h]
  refine ⟨by omega, fun j h h2 => ?_, fun j h h2 => ?_, fun n h => ?_, fun j n h h1 h2 => ?_, fun j n h h0 h1 h2 => ?_, fun n h => ?_⟩
  · rcases h with h | h
    · have hne : j ≠ i := fun e => N.undone (e ▸ h)
      have := (spl j h2 hne).1 h
      omega
    · omega
  · by_cases hji : j = i
    · exact .inr hji
    · exact .inl ((spl j h2 hji).2 (by omega))
  · have hlt : n < (S i).nx := by omega
    have hno : ¬ ((S i).nx ≤ n ∧ n < (S (i + 1)).nx) := by omega
    have lv := T.level hD M N ht (Nat.zero_le i) h (hpl n)
    rw [Nat.zero_max] at lv
    have t1 := M.t1 n h
    by_cases e : (S i).h.get n = (S (i + 1)).h.get n
    · rw [ov_keep hno e, ← e, ← lv]; exact t1
    · rw [ov_turn hno e]
      refine ⟨fun e0 => ?_, fun _ => rfl⟩
      obtain ⟨k1, k2, k3, k4⟩ := hst.chg n hlt e
      have hok := (T.ok (by omega) hlt k1).2.1
      cases hg : (S (i + 1)).h.get n with
      | none => exact absurd hg k3
      | some b => exact (hag n b hok (e0.trans hg)).symm
  · by_cases hji : j = i
    · subst hji
      rw [ov_in h1 h2, Nat.max_self]
    · have hd : D j := h.resolve_right hji
      have hjl := hD.lt j hd
      have hno : ¬ ((S i).nx ≤ n ∧ n < (S (i + 1)).nx) := fun hh => hji (T.own1 hjl hi h1 h2 hh.1 hh.2)
      have t2 := M.t2 j n hd h1 h2
      rcases Nat.lt_or_gt_of_ne hji with hlt | hgt
      · rw [T.level hD M N ht (by omega) h2 (hpl n)] at t2
        rw [Nat.max_eq_right (by omega)]
        by_cases e : (S i).h.get n = (S (i + 1)).h.get n
        · rw [ov_keep hno e, t2, e]
        · rw [ov_turn hno e]
      · have n3 := T.nx (i := i + 1) (j := j) (by omega) (by omega)
        rw [ov_keep hno (late n (by omega)), t2, Nat.max_eq_left (by omega : i + 1 ≤ j + 1)]
        by_cases hm2 : m ≤ j + 1
        · rw [Nat.max_eq_left hm2]
        · rw [Nat.max_eq_right (by omega)]
          refine (T.same h2 (by omega) hm fun x k1 k2 k3 => ?_).symm
          have hx := M.c2 x k2 k3
          have := (spl x k3 (by omega)).1 hx
          omega
  · have hji : j ≠ i := fun e => h0 (.inr e)
    have hno : ¬ ((S i).nx ≤ n ∧ n < (S (i + 1)).nx) := fun hh => hji (T.own1 h hi h1 h2 hh.1 hh.2)
    have t3 := M.t3 j n h (fun hd => h0 (.inl hd)) h1 h2
    rcases Nat.lt_or_gt_of_ne hji with hlt | hgt
    · have n3 := T.nx (i := j + 1) (j := i) (by omega) (by omega)
      by_cases e : (S i).h.get n = (S (i + 1)).h.get n
      · rw [ov_keep hno e, t3]
      · obtain ⟨k1, _⟩ := hst.chg n (by omega) e
        exact absurd (.inl (N.bef j ((T.ok (by omega) (by omega) k1).2.2.1 j hlt h1 h2))) h0
    · have n3 := T.nx (i := i + 1) (j := j) (by omega) (by omega)
      rw [ov_keep hno (late n (by omega)), t3]
  · rw [ov_keep (by omega) (late n (by omega))]; exact M.t4 n h
theorem Run.next (T : Run P call c L E S Vv RS) {D : Nat → Prop} (hD : DoneOk L D) {τ0 τ : Mem} (hag : Agree c (S 0) τ0) {m : Nat} (M : MemOk L S τ0 D m τ) {i : Nat} {o : Oper} (N : Next L D i o) :
    ∃ m', MemOk L S τ0 (fun j => D j ∨ j = i) m' (ov (S i) (S (i + 1)) τ) := by
  by_cases hw : Wr S L.length i
  · exact ⟨_, T.turn hD hag M N hw⟩
  · exact ⟨_, T.calm hD M N hw⟩
/-- all done -/
theorem Run.done (T : Run P call c L E S Vv RS) {D : Nat → Prop} (hD : ∀ j, j < L.length → D j) {τ0 τ : Mem} {m : Nat} (M : MemOk L S τ0 D m τ) : τ = ov (S 0) (S L.length) τ0 := by
  have hm := M.le
  have top : ∀ n a, n < (S a).nx → a ≤ L.length → (S (max a m)).h.get n = (S L.length).h.get n := fun n a hn ha =>
    T.same (Nat.lt_of_lt_of_le hn (T.nx (by omega) (by omega))) (by omega) (Nat.le_refl _) fun j h1 h2 h3 => by
      have := M.c1 j (hD j h2) h3
      omega
  symm
  apply ov_eq
  · intro n h1 h2
    rcases T.own (Nat.le_refl _) h2 with h | ⟨j, h3, h4, h5⟩
    · omega
    · rw [M.t2 j n (hD j h3) h4 h5, top n _ h5 (by omega)]
  · intro n h1 e
    by_cases h : n < (S 0).nx
    · have := top n 0 h (by omega)
      rw [Nat.zero_max] at this
      rw [(M.t1 n h).2 (by rw [this]; exact e), this]
    · rw [M.t4 n (by omega), T.wf _ (Nat.le_refl _) n (by omega)]
      exact absurd (by rw [T.wf 0 (by omega) n (by omega), T.wf _ (Nat.le_refl _) n (by omega)]) e
  · intro n h1 e
    by_cases h : n < (S 0).nx
    · have := top n 0 h (by omega)
      rw [Nat.zero_max] at this
      exact (M.t1 n h).1 (by rw [this]; exact e)
    · exact M.t4 n (by omega)
theorem MemOk.zero {τ0 : Mem} : MemOk L S τ0 (fun _ => False) 0 τ0 :=
  ⟨Nat.zero_le _, fun _ h => h.elim, fun _ h => by omega, fun _ _ => ⟨fun _ => rfl, fun h => absurd rfl h⟩, fun _ _ h => h.elim, fun _ _ _ _ _ _ => rfl, fun _ _ => rfl⟩
end
end Go.Proofs.Ytcjddojcfdeflaa.Ev
namespace Go.Proofs.Ytcjddojcfdeflaa.Ev
open Go.RowKit

theorem looks_tmp {L : List Oper} {o : Oper} {t : Nat} (h : Operand.tmp t ∈ o.op.operands.toList) : t ∈ looks L o := by
  unfold looks
  refine List.mem_append_left _ ?_
  revert h
  generalize o.op.operands.toList = l
  intro h
  induction l with
  | nil => cases h
  | cons x l ih =>
    rw [lr_cons]
    rcases List.mem_cons.1 h with e | h
    · subst e; exact List.mem_cons_self
    · have := ih h
      cases x <;> first | exact List.mem_cons_of_mem _ this | exact this
theorem looks_guard {L : List Oper} {o oj : Oper} {t j : Nat} {w : Bool} (hg : o.guard = some (j, w)) (hj : L[j]? = some oj) (hd : oj.dst = some t) : t ∈ looks L o := by
  unfold looks
  refine List.mem_append_right _ ?_
  rw [hg]
  simp only [lget_eq, hj, hd]
  exact List.mem_singleton.2 rfl
def undone (listed : Array Bool) : Nat := listed.count false
theorem undone_set {listed : Array Bool} {i : Nat} (hi : i < listed.size) (h : listed.getD i true = false) : undone (listed.setIfInBounds i true) + 1 = undone listed := by
  have hl : listed[i] = false := by simpa [Array.getD, hi] using h
  unfold undone
  have hpos : 0 < listed.count false := Array.count_pos_iff.2 (hl ▸ Array.getElem_mem hi)
  rw [Array.setIfInBounds, dif_pos hi, Array.count_set hi]
  simp [hl]
  omega
section
variable {P : Program} {call : CallF} {c : Cx} {ops : Array Oper} {E : Nat → Env} {S : Nat → St} {Vv : Nat → V} {RS : Nat → List (Nat × Nat × Nat)}
/-- the slots when D is done -/
structure TmpOk (L : List Oper) (E : Nat → Env) (Vv : Nat → V) (D : Nat → Prop) (ρ : Rho) (a : Act) : Prop where
  x1 : ∀ (j : Nat) (o : Oper) (t : Nat), D j → L[j]? = some o → o.dst = some t → Rel ρ (Vv j) (a.tmps.getD t undef)
  x2 : ∀ t : Nat, (∀ (j : Nat) (o : Oper), D j → L[j]? = some o → o.dst ≠ some t) → Rel ρ (((E 0).get t).getD .u) (a.tmps.getD t undef)
theorem TmpOk.put {L : List Oper} {D : Nat → Prop} {ρ ρ' : Rho} {a : Act} (X : TmpOk L E Vv D ρ a) (hf : RegFacts L) (hρ : ρ.le ρ') {i : Nat} {o : Oper} (ho : L[i]? = some o) {v : Value} (hv : Rel ρ' (Vv i) v) (hd : ∀ u, o.dst = some u → u < a.tmps.size) :
    TmpOk L E Vv (fun j => D j ∨ j = i) ρ' (a.put o.dst v) := by
  refine ⟨fun j o' t h ho' hd' => ?_, fun t h => ?_⟩
  · rw [put_tmps _ _ _ _ hd]
    by_cases hji : j = i
    · subst hji
      rw [ho] at ho'; injection ho' with ho'; subst ho'
      rw [if_pos hd']; exact hv
    · rw [if_neg (hf.uniq j i o' o t ho' ho hji hd')]
      exact (X.x1 j o' t (h.resolve_right hji) ho' hd').mono hρ
  · rw [put_tmps _ _ _ _ hd, if_neg (h i o (.inr rfl) ho)]
    exact (X.x2 t fun j o' hj => h j o' (.inl hj)).mono hρ
theorem TmpOk.look {L : List Oper} {D : Nat → Prop} {ρ : Rho} {a : Act} (X : TmpOk L E Vv D ρ a) (T : Run P call c L E S Vv RS) (hD : DoneOk L D) {i : Nat} {o : Oper} (N : Next L D i o) {t : Nat} (ht : t ∈ looks L o) : Rel ρ (((E i).get t).getD .u) (a.tmps.getD t undef) := by
  have hi := N.lt
  obtain ⟨s1, s2⟩ := T.slot i (by omega)
  by_cases h : ∃ (j : Nat) (o' : Oper), L[j]? = some o' ∧ o'.dst = some t
  · obtain ⟨j, o', h1, h2⟩ := h
    have one : ∀ (k : Nat) (o2 : Oper), L[k]? = some o2 → o2.dst = some t → k = j := fun k o2 k1 k2 => by
      by_cases e : k = j
      · exact e
      · exact absurd h2 (T.fact.uniq k j o2 o' t k1 h1 e k2)
    rcases T.fact.look i j o o' t N.op h1 h2 ht with hb | hb
    · rw [s1 j o' t (T.fact.lt i j o N.op hb) h1 h2, Option.getD_some]
      exact X.x1 j o' t (N.bef j hb) h1 h2
    · have hlt := T.fact.lt j i o' h1 hb
      rw [s2 t fun k o2 hk k1 k2 => by have := one k o2 k1 k2; omega]
      exact X.x2 t fun k o2 hk k1 k2 => by
        have := one k o2 k1 k2
        subst this
        exact N.undone (hD.shut _ _ hk hb)
  · have hn : ∀ (j : Nat) (o' : Oper), L[j]? = some o' → o'.dst ≠ some t := fun j o' h1 h2 => h ⟨j, o', h1, h2⟩
    rw [s2 t fun j o' _ => hn j o']
    exact X.x2 t fun j o' _ => hn j o'
def Listed (listed : Array Bool) (j : Nat) : Prop := listed.getD j false = true
theorem listed_set {listed : Array Bool} {i : Nat} (hi : i < listed.size) (j : Nat) : Listed (listed.setIfInBounds i true) j ↔ (Listed listed j ∨ j = i) := by
  unfold Listed
  constructor
  · intro h
    by_cases hji : j = i
    · exact .inr hji
    · rw [getD_set_ne false (fun e => hji e.symm)] at h; exact .inl h
  · rintro (h | h)
    · exact getD_set_true h
    · subst h; simp [Array.getD, hi]
theorem MemOk.congr {L : List Oper} {τ0 τ : Mem} {D D' : Nat → Prop} {m : Nat} (h : MemOk L S τ0 D m τ) (e : ∀ j, D' j ↔ D j) : MemOk L S τ0 D' m τ := by
  have : D' = D := funext fun j => propext (e j)
  rw [this]; exact h
theorem TmpOk.congr {L : List Oper} {D D' : Nat → Prop} {ρ : Rho} {a : Act} (h : TmpOk L E Vv D ρ a) (e : ∀ j, D' j ↔ D j) : TmpOk L E Vv D' ρ a := by
  have : D' = D := funext fun j => propext (e j)
  rw [this]; exact h
theorem DoneOk.congr {L : List Oper} {D D' : Nat → Prop} (h : DoneOk L D) (e : ∀ j, D' j ↔ D j) : DoneOk L D' := by
  have : D' = D := funext fun j => propext (e j)
  rw [this]; exact h
/-- every order -/
theorem Run.any (T : Run P call c ops.toList E S Vv RS) {B0 : Nat} {ρ0 : Rho} {τ0 : Mem} {w0 : World} {a0 : Act} (hag : Agree c (S 0) τ0) (hfr : Fresh ρ0 (S 0) (S ops.toList.length)) (hnt : ∀ (i : Nat) (o : Oper) (t : Nat), ops.toList[i]? = some o → o.dst = some t → t < c.nt)
    {Q : Exit → Act → World → Prop} (hQ : Cont c (S 0) (S ops.toList.length) (E ops.toList.length) B0 ρ0 τ0 w0 a0 (Q .normal)) : ∀ (fuel : Nat) (listed : Array Bool) (ρ : Rho) (τ : Mem) (w : World) (a : Act) (m : Nat), listed.size = ops.size → undone listed = fuel →
    DoneOk ops.toList (Listed listed) → MemOk ops.toList S τ0 (Listed listed) m τ → TmpOk ops.toList E Vv (Listed listed) ρ a → ρ0.le ρ → (∀ n r, ρ n = some r → ρ0 n = some r ∨ ∃ j, Listed listed j ∧ (S j).nx ≤ n ∧ n < (S (j + 1)).nx) →
    c.nt ≤ a.tmps.size → a.defers = a0.defers → Real ρ B0 τ w → Below B0 w0 w → wpAny P .any ops Q fuel listed a w := by
  have nxt : ∀ (listed : Array Bool) (i : Nat), listed.size = ops.size → DoneOk ops.toList (Listed listed) → i ∈ Region.ready .any ops listed → ∃ o, ops[i]? = some o ∧ Next ops.toList (Listed listed) i o ∧ i < listed.size ∧ listed.getD i true = false := by
    intro listed i hsz hD hi
    obtain ⟨h1, o, h2, h3⟩ := mem_ready.1 hi
    have hlt : i < ops.size := by
      rcases Nat.lt_or_ge i ops.size with h | h
      · exact h
      · rw [Array.getElem?_eq_none h] at h2; cases h2
    have ho : ops.toList[i]? = some o := by simpa using h2
    refine ⟨o, h2, ⟨ho, fun hd => ?_, fun j hb => ?_⟩, by omega, h1⟩
    · unfold Listed at hd
      simp [Array.getD, hsz, hlt] at h1 hd
      rw [h1] at hd; cases hd
    · obtain ⟨x, k1, k2, k3⟩ := (befOf_bit ho (T.fact.edge i o ho) j).1 hb
      have hx : Listed listed x.on := h3 x (by simpa using k1) k2
      rcases k3 with rfl | k3
      · exact hx
      · exact hD.shut _ _ hx k3
  have fin : ∀ (listed : Array Bool) (ρ : Rho) (τ : Mem) (w : World) (a : Act) (m : Nat), MemOk ops.toList S τ0 (Listed listed) m τ → TmpOk ops.toList E Vv (Listed listed) ρ a → ρ0.le ρ → (∀ n r, ρ n = some r → ρ0 n = some r ∨ ∃ j, Listed listed j ∧ (S j).nx ≤ n ∧ n < (S (j + 1)).nx) →
      c.nt ≤ a.tmps.size → a.defers = a0.defers → Real ρ B0 τ w → Below B0 w0 w → DoneOk ops.toList (Listed listed) → (∀ j, j < ops.toList.length → Listed listed j) → Q .normal a w := by
    intro listed ρ τ w a m M X l d ht hdf hre hb hD hall
    have hdm : Dom ρ0 ρ (S 0) (S ops.toList.length) := fun n r e => by
      rcases d n r e with h | ⟨j, h1, h2, h3⟩
      · exact .inl h
      · have hj := hD.lt j h1
        have := T.nx (i := 0) (j := j) (by omega) (by omega)
        have := T.nx (i := j + 1) (j := ops.toList.length) (by omega) (by omega)
        exact .inr (by omega)
    refine hQ ρ a w l hdm (fun t => ?_) ht hdf ?_ hb
    · obtain ⟨s1, s2⟩ := T.slot ops.toList.length (Nat.le_refl _)
      by_cases h : ∃ (j : Nat) (o' : Oper), ops.toList[j]? = some o' ∧ o'.dst = some t
      · obtain ⟨j, o', h1, h2⟩ := h
        have hj : j < ops.toList.length := by
          rcases Nat.lt_or_ge j ops.toList.length with h | h
          · exact h
          · rw [List.getElem?_eq_none h] at h1; cases h1
        rw [s1 j o' t hj h1 h2, Option.getD_some]
        exact X.x1 j o' t (hall j hj) h1 h2
      · have hn : ∀ (j : Nat) (o' : Oper), ops.toList[j]? = some o' → o'.dst ≠ some t := fun j o' h1 h2 => h ⟨j, o', h1, h2⟩
        rw [s2 t fun j o' _ => hn j o']
        exact X.x2 t fun j o' _ => hn j o'
    · rw [← T.done hall M]; exact hre
  have stuck : ∀ (listed : Array Bool), listed.size = ops.size → Region.ready .any ops listed = [] → ∀ j, j < ops.toList.length → Listed listed j := by
    intro listed hsz hr j
    induction j using Nat.strongRecOn with
    | _ j ih =>
      intro hj
      cases hb : listed.getD j false with
      | true => exact hb
      | false =>
        exfalso
        have hj' : j < ops.size := by simpa using hj
        have hmem : j ∈ Region.ready .any ops listed := mem_ready.2 ⟨by
          simp [Array.getD, hsz, hj'] at hb ⊢; exact hb, ops[j], Array.getElem?_eq_getElem hj', fun x hx hbx => by
          have := T.fact.edge j ops[j] (by simp [hj']) x (by simpa using hx) hbx
          exact ih x.on this (by omega)⟩
        rw [hr] at hmem; cases hmem
  intro fuel
  induction fuel with
  | zero =>
    intro listed ρ τ w a m hsz hu hD M X l d ht hdf hre hb
    have hr : Region.ready .any ops listed = [] := by
      rw [List.eq_nil_iff_forall_not_mem]
      intro i hi
      obtain ⟨o, _, _, h1, h2⟩ := nxt listed i hsz hD hi
      have := undone_set h1 h2
      omega
    exact ⟨hr, fin listed ρ τ w a m M X l d ht hdf hre hb hD (stuck listed hsz hr)⟩
  | succ fuel ih =>
    intro listed ρ τ w a m hsz hu hD M X l d ht hdf hre hb
    refine ⟨fun hr => fin listed ρ τ w a m M X l d ht hdf hre hb hD (stuck listed hsz hr), fun i hi => ?_⟩
    obtain ⟨o, ho, N, h1, h2⟩ := nxt listed i hsz hD hi
    have hil := N.lt
    have hwfi := T.wf i (by omega)
    have hun := undone_set h1 h2
    have hdt : ∀ u, o.dst = some u → u < a.tmps.size := fun u hu => Nat.lt_of_lt_of_le (hnt i o u N.op hu) ht
    obtain ⟨m', M'⟩ := T.next hD hag M N
    have look : ∀ t, t ∈ looks ops.toList o → Rel ρ (((E i).get t).getD .u) (a.tmps.getD t undef) := fun t h => X.look T hD N h
    have hwt : Region.wanted o (yielded ops a.tmps) = wants (E i) ops.toList o := wants_eq fun j w' oj t hg hj hd => look t (looks_guard hg (by simpa using hj) hd)
    have hdom : ∀ (ρ' : Rho), Dom ρ ρ' (S i) (S (i + 1)) → ∀ n r, ρ' n = some r → ρ0 n = some r ∨ ∃ j, Listed (listed.setIfInBounds i true) j ∧ (S j).nx ≤ n ∧ n < (S (j + 1)).nx := by
      intro ρ' hd n r e
      rcases hd n r e with e | e
      · exact (d n r e).imp id fun ⟨j, k1, k2⟩ => ⟨j, (listed_set h1 j).2 (.inl k1), k2⟩
      · exact .inr ⟨i, (listed_set h1 i).2 (.inr rfl), e⟩
    have go : ∀ (ρ' : Rho) (v' : Value) (w' : World), ρ.le ρ' → Dom ρ ρ' (S i) (S (i + 1)) → Rel ρ' (Vv i) v' → Real ρ' B0 (ov (S i) (S (i + 1)) τ) w' → Below B0 w w' → wpAny P .any ops Q fuel (listed.setIfInBounds i true) (a.put o.dst v') w' := by
      intro ρ' v' w' q1 q2 q3 q4 q5
      exact ih _ ρ' _ w' _ m' (by simpa using hsz) (by omega) ((hD.step N).congr (listed_set h1)) (M'.congr (listed_set h1)) ((X.put T.fact q1 N.op q3 hdt).congr (listed_set h1)) (l.trans q1) (hdom ρ' q2) (by rw [put_size]; exact ht) ((put_defers _ _ _).trans hdf) q4 (hb.trans q5)
    unfold wpOp
    rw [ho]
    simp only [hwt]
    obtain ⟨hst, _⟩ := T.step i o N.op
    rcases hst with ⟨k1, _⟩ | ⟨k1, k2, k3⟩
    · rw [k1, if_pos rfl]
      obtain ⟨_, hop⟩ := T.op i o N.op hwfi k1
      refine .inl (hop B0 ρ τ w a (fun x hx t ht' => look t (looks_tmp (ht' ▸ hx))) (T.agree hD hag M N) hre (fun n n1 n2 => ?_) _ Q go)
      cases e : ρ n with
      | none => rfl
      | some r =>
        exfalso
        have n3 := T.nx (i := 0) (j := i) (by omega) (by omega)
        have n4 := T.nx (i := i + 1) (j := ops.toList.length) (by omega) (by omega)
        rcases d n r e with e | ⟨j, e1, e2, e3⟩
        · rw [hfr n (by omega) (by omega)] at e; cases e
        · exact N.undone (T.own1 (hD.lt j e1) hil e2 e3 n1 n2 ▸ e1)
    · rw [k1, if_neg (by simp)]
      refine go ρ undef w (Rho.le_refl _) (Dom.refl _ _ _) (by rw [k2]; exact rel_u) ?_ (Below.refl _ _)
      rw [k3, ov_self]; exact hre
/-- regions that draw -/
theorem draw_sound (hn : Named P) (hm : P.follows .mixedOrders = true) : DrawSound P := by
  intro call hs hb c ops id e e' st st' hok h hwf
  obtain ⟨E, S, Vv, RS, h1, h2, h3, h4, h5, h6⟩ := trace_of h
  simp only [Nat.zero_add] at h4 h5 h6
  have T : Run P call c ops.toList E S Vv RS := ⟨regOk_facts hok, h6, h3, h2 ▸ hwf, fun i o ho hw hwt => by
    obtain ⟨k, _⟩ := h6 i o ho
    rcases k with ⟨_, k⟩ | ⟨k, _⟩
    · exact evOp_ok hs hn hb hw k
    · rw [hwt] at k; cases k⟩
  subst h1 h2 h4 h5
  refine ⟨T.all _ (Nat.le_refl _), fun B0 ρ τ w a he ht hag hre hfr Q hQ => wp_region_any hm ?_⟩
  have zero : ∀ j, Listed (Array.replicate ops.size false) j ↔ False := fun j => by
    unfold Listed
    simp [Array.getD]
  refine T.any hag hfr (fun i o t ho hd => (h6 i o ho).2.2.1 t hd) hQ ops.size _ ρ τ _ a 0 (by simp) (by unfold undone; simp) ⟨fun j hj => ((zero j).1 hj).elim, fun i j hi => ((zero i).1 hi).elim⟩ (MemOk.zero.congr zero) ⟨fun j o t hj => ((zero j).1 hj).elim, fun t h => he t⟩ (Rho.le_refl _) (fun n r e => .inl e) ht rfl (hre.same rfl) (Below.refl _ _).drew
end
end Go.Proofs.Ytcjddojcfdeflaa.Ev
namespace Go.Proofs.Ytcjddojcfdeflaa.Ev
open Go.RowKit

noncomputable def namesOk (P : Program) : Bool := P.funcs.toList.all fun fn => !(fn.name == "runtime.NumGoroutine")
theorem named_of {P : Program} (h : namesOk P = true) : Named P := fun f fn hf e => by
  have h1 := List.all_eq_true.1 h fn (by
    have : P.funcs.toList[f]? = some fn := by simpa using hf
    exact List.mem_of_getElem? this)
  rw [e] at h1
  simp at h1
theorem wf_zero : Wf ⟨0, .lf⟩ := fun n _ => by simp
theorem yes_ok {P : Program} (hn : namesOk P = true) (hm : P.follows .mixedOrders = true) {fuel f : Nat} (h : yes P fuel f = true) (w : World) (hk : Kept w.heap.size w := by first | assumption | exact fun _ h => absurd h List.not_mem_nil) :
    Calls P f #[] w fun e w' => e = .returned (.bool true) ∧ Below w.heap.size w w' := by
  have hN := named_of hn
  have hcs := callOf_sound ((ev_ok (draw_sound hN hm) hN fuel).1)
  unfold yes run at h
  split at h
  · rename_i b st' hr
    obtain ⟨_, k⟩ := hcs _ _ _ _ _ _ hr wf_zero
    have hh := k w.heap.size (fun _ => none) (fun _ => none) w [] .nil (fun n b _ hb => by simp at hb) ⟨Nat.le_refl _, fun n b e => (by cases e), fun n m b b' r r' e => (by cases e), hk⟩ (fun n _ _ => rfl)
      (fun e w' => e = .returned (.bool true) ∧ Below w.heap.size w w') (fun ρ' v' w' _ _ hv _ hb => by
        simp only [Rel] at hv
        exact ⟨by rw [hv.1], hb⟩)
    exact hh
  · cases h
end Go.Proofs.Ytcjddojcfdeflaa.Ev
namespace Go.Proofs.Ytcjddojcfdeflaa.Ev
open Go.RowKit

/-- one step of the evaluator, over what is known of shorter ones -/
noncomputable def step (P : Program) (ih : CodeF) : CodeF := fun cx c e st =>
  match c with
  | .skip => some (.n, e, st)
  | .label _ => some (.n, e, st)
  | .region _ ops d => (match d with
    | true => (match regOk ops.toList with
      | true => (match evDraw P (callOf P ih) cx ops.toList ops.toList 0 [] e st with
        | none => none
        | some (e, st) => some (.n, e, st))
      | false => none)
    | false => (match evOps P (callOf P ih) cx ops.toList ops.toList e st with
      | none => none
      | some (e, st) => some (.n, e, st)))
  | .seq a b => (match ih cx a e st with
    | some (.n, e, st) => ih cx b e st
    | r => r)
  | .cond x a b => opd e x fun v => (match v with
    | .c (.bool true) => ih cx a e st
    | .c (.bool false) => ih cx b e st
    | _ => none)
  | .block i b => (match ih cx b e st with
    | some (.ex j, e, st) => (match Nat.beq j i with | true => some (.n, e, st) | false => some (.ex j, e, st))
    | r => r)
  | .loop b => (match ih cx b e st with
    | some (.n, e, st) => ih cx (.loop b) e st
    | r => r)
  | .scope b => ih cx b e st
  | .exit i => some (.ex i, e, st)
  | .ret => some (.ret, e, st)
  | _ => none
section
variable {P : Program}
theorem ev_succ (n : Nat) : ev P (n + 1) = step P (ev P n) := rfl
def Le (F G : CodeF) : Prop := ∀ cx c e st r, F cx c e st = some r → G cx c e st = some r
def LeC (F G : CallF) : Prop := ∀ cx f args st r, F cx f args st = some r → G cx f args st = some r
theorem callOf_mono {F G : CodeF} (h : Le F G) : LeC (callOf P F) (callOf P G) := by
  intro cx f args st r hr
  unfold callOf at hr ⊢
  split at hr
  · cases hr
  · rename_i fn hf
    split at hr
    · cases hr
    · rename_i b hb
      rw [initE_eq] at hr ⊢
      split at hr
      · rename_i e1 st1 h1; rw [h _ _ _ _ _ h1]; exact hr
      · rename_i e1 st1 h1; rw [h _ _ _ _ _ h1]; exact hr
      · cases hr
theorem fA_get {β : Type} {r : β} {v : Value} {k : V → Option β} (h : fA v k = some r) : ∃ a, k a = some r ∧ ∀ k' : V → Option β, k' a = some r → fA v k' = some r := by
  unfold fA at h
  split at h
  all_goals first
    | (rw [fi_eq] at h; exact ⟨_, h, fun k' hk => by simp only [fA, fi_eq]; exact hk⟩)
    | (rw [fb_eq] at h; exact ⟨_, h, fun k' hk => by simp only [fA, fb_eq]; exact hk⟩)
    | (rw [fl_eq] at h; exact ⟨_, h, fun k' hk => by simp only [fA, fl_eq]; exact hk⟩)
    | (exact ⟨_, h, fun k' hk => hk⟩)
    | (cases h; done)
theorem fAs_get {β : Type} {r : β} : ∀ {l : List Value} {k : List V → Option β}, fAs l k = some r → ∃ as, k as = some r ∧ ∀ k' : List V → Option β, k' as = some r → fAs l k' = some r
  | [], _, h => ⟨[], h, fun _ hk => hk⟩
  | v :: l, k, h => by
    have h' : fA v (fun x => fAs l fun l => k (x :: l)) = some r := h
    obtain ⟨a, h1, h2⟩ := fA_get h'
    obtain ⟨as, h3, h4⟩ := fAs_get h1
    exact ⟨a :: as, h3, fun k' hk => h2 (fun x => fAs l fun l => k' (x :: l)) (h4 (fun l => k' (a :: l)) hk)⟩
theorem ofV_get {β : Type} {r : β} {v : Value} {k : V → Option β} (h : ofV v k = some r) : ∃ a, k a = some r ∧ ∀ k' : V → Option β, k' a = some r → ofV v k' = some r := by
  unfold ofV at h ⊢
  split at h
  · obtain ⟨as, h1, h2⟩ := fAs_get h
    exact ⟨_, h1, fun k' hk => h2 (fun l => k' (.g l)) hk⟩
  · exact ⟨_, h, fun _ hk => hk⟩
  · exact fA_get h
theorem opd_get {β : Type} {r : β} {e : Env} {x : Operand} {k : V → Option β} (h : opd e x k = some r) : ∃ a, k a = some r ∧ ∀ k' : V → Option β, k' a = some r → opd e x k' = some r := by
  unfold opd at h ⊢
  split at h
  · split at h
    · exact ⟨_, h, fun k' hk => hk⟩
    · exact ⟨.u, h, fun k' hk => hk⟩
  · exact ofV_get h
  · exact ⟨_, h, fun _ hk => hk⟩
  · cases h
theorem opds_get {β : Type} {r : β} {e : Env} : ∀ {l : List Operand} {k : List V → Option β}, opds e l k = some r → ∃ as, k as = some r ∧ ∀ k' : List V → Option β, k' as = some r → opds e l k' = some r
  | [], _, h => ⟨[], h, fun _ hk => hk⟩
  | x :: l, k, h => by
    have h' : opd e x (fun v => opds e l fun l => k (v :: l)) = some r := h
    obtain ⟨a, h1, h2⟩ := opd_get h'
    obtain ⟨as, h3, h4⟩ := opds_get h1
    exact ⟨a :: as, h3, fun k' hk => h2 (fun x => opds e l fun l => k' (x :: l)) (h4 (fun l => k' (a :: l)) hk)⟩
/-- an operation asks at most one call -/
theorem evOp_ask {G : CallF} {c : Cx} {e : Env} {st : St} {o : Oper} {r : V × St} (h : evOp P G c e st o = some r) :
    (∀ H : CallF, evOp P H c e st o = some r) ∨ ∃ f args, G c f args st = some r ∧ ∀ H : CallF, H c f args st = some r → evOp P H c e st o = some r := by
  unfold evOp at h ⊢
  split at h
  all_goals first
    | (exact .inl fun _ => h)
    | skip
  rename_i cl ho
  obtain ⟨args, ha, hb⟩ := opds_get h
  split at ha
  · exact .inl fun _ => hb _ ha
  · exact .inl fun _ => hb _ ha
  · exact .inl fun _ => hb _ ha
  · obtain ⟨fv, h1, h2⟩ := opd_get ha
    split at h1
    · rename_i f first caps
      split at h1
      · rename_i g hg
        exact .inl fun H => hb _ (h2 _ (by simp only [hg]; exact h1))
      · rename_i hg
        exact .inr ⟨_, _, h1, fun H hH => hb _ (h2 _ (by simp only [hg]; exact hH))⟩
    · cases h1
  · cases ha
theorem evOps_cons (F : CallF) (c : Cx) (ops : List Oper) (o : Oper) (l : List Oper) (e : Env) (st : St) : evOps P F c ops (o :: l) e st = (match wants e ops o with
    | true => match evOp P F c e st o with
      | none => none
      | some (v, st) => putK c e o.dst v fun e => evOps P F c ops l e st
    | false => putK c e o.dst .u fun e => evOps P F c ops l e st) := rfl
/-- the marks of what was made -/
noncomputable def rsOf (rs : List (Nat × Nat × Nat)) (i a b : Nat) : List (Nat × Nat × Nat) := match Nat.beq a b with | true => rs | false => (i, a, b) :: rs
theorem evDraw_cons (F : CallF) (c : Cx) (ops : List Oper) (o : Oper) (l : List Oper) (i : Nat) (rs : List (Nat × Nat × Nat)) (e : Env) (st : St) : evDraw P F c ops (o :: l) i rs e st = (match wants e ops o with
    | true => match evOp P F (cxOf c ops o i rs st e) e st o with
      | none => none
      | some (v, st') => putK c e o.dst v fun e => evDraw P F c ops l (i + 1) (rsOf rs i st.nx st'.nx) e st'
    | false => putK c e o.dst .u fun e => evDraw P F c ops l (i + 1) rs e st) := by
  have h : evDraw P F c ops (o :: l) i rs e st = (match wants e ops o with
    | true => match evOp P F (cxOf c ops o i rs st e) e st o with
      | none => none
      | some (v, st') => putK c e o.dst v fun e => fn (i + 1) fun i' => evDraw P F c ops l i' (match Nat.beq st.nx st'.nx with | true => rs | false => (i, st.nx, st'.nx) :: rs) e st'
    | false => putK c e o.dst .u fun e => fn (i + 1) fun i' => evDraw P F c ops l i' rs e st) := rfl
  rw [h]
  simp only [fn_eq]
  rfl
/-- how a chain of functions comes to its end -/
structure Chain (F : Nat → CallF) (G : CallF) : Prop where
  mono : ∀ n m, n ≤ m → LeC (F n) (F m)
  lim : ∀ cx f args st r, G cx f args st = some r → ∃ n, F n cx f args st = some r
section
variable {F : Nat → CallF} {G : CallF}
theorem evOp_lim (K : Chain F G) {c : Cx} {e : Env} {st : St} {o : Oper} {r : V × St} (h : evOp P G c e st o = some r) : ∃ n, ∀ m, n ≤ m → evOp P (F m) c e st o = some r := by
  rcases evOp_ask h with h1 | ⟨f, args, h1, h2⟩
  · exact ⟨0, fun m _ => h1 _⟩
  · obtain ⟨n, hn⟩ := K.lim _ _ _ _ _ h1
    exact ⟨n, fun m hm => h2 _ (K.mono n m hm _ _ _ _ _ hn)⟩
theorem putK_lim {β : Type} {r : β} {c : Cx} {e : Env} {d : Option Nat} {v : V} {k : Env → Option β} {kk : Nat → Env → Option β} (h : putK c e d v k = some r) (hk : ∀ e, k e = some r → ∃ n, ∀ m, n ≤ m → kk m e = some r) : ∃ n, ∀ m, n ≤ m → putK c e d v (kk m) = some r := by
  unfold putK at h ⊢
  split at h
  · exact hk _ h
  · split at h
    · rw [T.setK_eq] at h
      obtain ⟨n, hn⟩ := hk _ h
      exact ⟨n, fun m hm => by simp only [T.setK_eq]; exact hn m hm⟩
    · cases h
theorem evOps_lim (K : Chain F G) {c : Cx} {ops : List Oper} : ∀ {l : List Oper} {e : Env} {st : St} {r : Env × St}, evOps P G c ops l e st = some r → ∃ n, ∀ m, n ≤ m → evOps P (F m) c ops l e st = some r
  | [], _, _, _, h => ⟨0, fun _ _ => h⟩
  | o :: l, e, st, r, h => by
    rw [evOps_cons] at h
    split at h
    · rename_i hw
      split at h
      · cases h
      · rename_i v st1 ho
        obtain ⟨n1, h1⟩ := evOp_lim K ho
        obtain ⟨n2, h2⟩ := putK_lim (kk := fun m e => evOps P (F m) c ops l e st1) h fun e he => evOps_lim K he
        refine ⟨max n1 n2, fun m hm => ?_⟩
        rw [evOps_cons, hw]
        simp only [h1 m (by omega)]
        exact h2 m (by omega)
    · rename_i hw
      obtain ⟨n2, h2⟩ := putK_lim (kk := fun m e => evOps P (F m) c ops l e st) h fun e he => evOps_lim K he
      refine ⟨n2, fun m hm => ?_⟩
      rw [evOps_cons, hw]
      exact h2 m hm
theorem evDraw_lim (K : Chain F G) {c : Cx} {ops : List Oper} : ∀ {l : List Oper} {i : Nat} {rs : List (Nat × Nat × Nat)} {e : Env} {st : St} {r : Env × St}, evDraw P G c ops l i rs e st = some r → ∃ n, ∀ m, n ≤ m → evDraw P (F m) c ops l i rs e st = some r
  | [], _, _, _, _, _, h => ⟨0, fun _ _ => h⟩
  | o :: l, i, rs, e, st, r, h => by
    rw [evDraw_cons] at h
    split at h
    · rename_i hw
      split at h
      · cases h
      · rename_i v st1 ho
        obtain ⟨n1, h1⟩ := evOp_lim K ho
        obtain ⟨n2, h2⟩ := putK_lim (kk := fun m e => evDraw P (F m) c ops l (i + 1) (rsOf rs i st.nx st1.nx) e st1) h fun e he => evDraw_lim K he
        refine ⟨max n1 n2, fun m hm => ?_⟩
        rw [evDraw_cons, hw]
        simp only [h1 m (by omega)]
        exact h2 m (by omega)
    · rename_i hw
      obtain ⟨n2, h2⟩ := putK_lim (kk := fun m e => evDraw P (F m) c ops l (i + 1) rs e st) h fun e he => evDraw_lim K he
      refine ⟨n2, fun m hm => ?_⟩
      rw [evDraw_cons, hw]
      exact h2 m hm
end
/-- a step is asked of finitely much -/
theorem step_lim {F : Nat → CodeF} {G : CodeF} (hm : ∀ n m, n ≤ m → Le (F n) (F m)) (hl : ∀ cx c e st r, G cx c e st = some r → ∃ n, F n cx c e st = some r) {cx : Cx} {c : Code} {e : Env} {st : St} {r : X × Env × St} (h : step P G cx c e st = some r) :
    ∃ n, ∀ m, n ≤ m → step P (F m) cx c e st = some r := by
  have hl' : ∀ {cx c e st r}, G cx c e st = some r → ∃ n, ∀ m, n ≤ m → F m cx c e st = some r := fun h => by
    obtain ⟨n, hn⟩ := hl _ _ _ _ _ h
    exact ⟨n, fun m hnm => hm n m hnm _ _ _ _ _ hn⟩
  have K : Chain (fun n => callOf P (F n)) (callOf P G) := ⟨fun n m hnm => callOf_mono (hm n m hnm), fun cx f args st r h => by
    unfold callOf at h ⊢
    split at h
    · cases h
    · rename_i fn hf
      split at h
      · cases h
      · rename_i b hb
        rw [initE_eq] at h
        split at h
        · rename_i e1 st1 h1
          obtain ⟨n, hn⟩ := hl _ _ _ _ _ h1
          exact ⟨n, by simp only [initE_eq, hn]; exact h⟩
        · rename_i e1 st1 h1
          obtain ⟨n, hn⟩ := hl _ _ _ _ _ h1
          exact ⟨n, by simp only [initE_eq, hn]; exact h⟩
        · cases h⟩
  cases c with
  | skip => exact ⟨0, fun _ _ => h⟩
  | label l => exact ⟨0, fun _ _ => h⟩
  | exit i => exact ⟨0, fun _ _ => h⟩
  | ret => exact ⟨0, fun _ _ => h⟩
  | region id ops d =>
    cases d with
    | false =>
      simp only [step] at h ⊢
      split at h
      · cases h
      · rename_i e1 st1 h1
        obtain ⟨n, hn⟩ := evOps_lim K h1
        exact ⟨n, fun m hnm => by rw [hn m hnm]; exact h⟩
    | true =>
      simp only [step] at h ⊢
      split at h
      · rename_i hreg
        split at h
        · cases h
        · rename_i e1 st1 h1
          obtain ⟨n, hn⟩ := evDraw_lim K h1
          exact ⟨n, fun m hnm => by rw [hn m hnm]; exact h⟩
      · cases h
  | seq a b =>
    simp only [step] at h ⊢
    split at h
    · rename_i e1 st1 h1
      obtain ⟨n1, hn1⟩ := hl' h1
      obtain ⟨n2, hn2⟩ := hl' h
      refine ⟨max n1 n2, fun m hnm => ?_⟩
      rw [hn1 m (by omega)]
      exact hn2 m (by omega)
    · rename_i hne
      obtain ⟨n1, hn1⟩ := hl' h
      refine ⟨n1, fun m hnm => ?_⟩
      rw [hn1 m hnm]
      obtain ⟨x, e1, st1⟩ := r
      cases x with
      | n => exact (hne _ _ h).elim
      | _ => rfl
  | cond x a b =>
    simp only [step] at h ⊢
    obtain ⟨v, h1, h2⟩ := opd_get h
    split at h1
    · obtain ⟨n, hn⟩ := hl' h1
      exact ⟨n, fun m hnm => h2 _ (hn m hnm)⟩
    · obtain ⟨n, hn⟩ := hl' h1
      exact ⟨n, fun m hnm => h2 _ (hn m hnm)⟩
    · cases h1
  | block i b =>
    simp only [step] at h ⊢
    split at h
    · rename_i j e1 st1 h1
      obtain ⟨n, hn⟩ := hl' h1
      exact ⟨n, fun m hnm => by rw [hn m hnm]; exact h⟩
    · rename_i hne
      obtain ⟨n, hn⟩ := hl' h
      refine ⟨n, fun m hnm => ?_⟩
      rw [hn m hnm]
      obtain ⟨x, e1, st1⟩ := r
      cases x with
      | ex j => exact (hne _ _ _ h).elim
      | _ => rfl
  | loop b =>
    simp only [step] at h ⊢
    split at h
    · rename_i e1 st1 h1
      obtain ⟨n1, hn1⟩ := hl' h1
      obtain ⟨n2, hn2⟩ := hl' h
      refine ⟨max n1 n2, fun m hnm => ?_⟩
      rw [hn1 m (by omega)]
      exact hn2 m (by omega)
    · rename_i hne
      obtain ⟨n1, hn1⟩ := hl' h
      refine ⟨n1, fun m hnm => ?_⟩
      rw [hn1 m hnm]
      obtain ⟨x, e1, st1⟩ := r
      cases x with
      | n => exact (hne _ _ h).elim
      | _ => rfl
  | rangeFunc f ps as b => cases h
  | scope b =>
    obtain ⟨n, hn⟩ := hl' h
    exact ⟨n, fun m hnm => hn m hnm⟩
  | goto l => cases h
  | refuse y => cases h
theorem step_mono {F G : CodeF} (h : Le F G) : Le (step P F) (step P G) := by
  intro cx c e st r hr
  obtain ⟨n, hn⟩ := step_lim (F := fun n => match n with | 0 => F | _ + 1 => G) (G := F) (fun n m hnm => by
    cases n with
    | zero => cases m with
      | zero => exact fun _ _ _ _ _ h => h
      | succ m => exact h
    | succ n => cases m with
      | zero => omega
      | succ m => exact fun _ _ _ _ _ h => h) (fun cx c e st r h => ⟨0, h⟩) hr
  exact hn (n + 1) (by omega)
theorem ev_le : ∀ n, Le (ev P n) (ev P (n + 1))
  | 0 => fun _ _ _ _ _ h => by cases h
  | n + 1 => by rw [ev_succ, ev_succ]; exact step_mono (ev_le n)
theorem ev_mono {n m : Nat} (h : n ≤ m) : Le (ev P n) (ev P m) := by
  induction m with
  | zero => obtain rfl : n = 0 := by omega
            exact fun _ _ _ _ _ h => h
  | succ m ih =>
    by_cases e : n = m + 1
    · subst e; exact fun _ _ _ _ _ h => h
    · exact fun cx c e st r h' => ev_le m _ _ _ _ _ (ih (by omega) _ _ _ _ _ h')
/-- the evaluator, whatever the count -/
noncomputable def evL (P : Program) : CodeF := open Classical in fun cx c e st => if h : ∃ r n, ev P n cx c e st = some r then some (Classical.choose h) else none
theorem evL_some {cx : Cx} {c : Code} {e : Env} {st : St} {r : X × Env × St} : evL P cx c e st = some r ↔ ∃ n, ev P n cx c e st = some r := by
  unfold evL
  constructor
  · intro h
    split at h
    · rename_i hx
      injection h with h
      subst h
      exact Classical.choose_spec hx
    · cases h
  · rintro ⟨n, hn⟩
    have hx : ∃ r n, ev P n cx c e st = some r := ⟨r, n, hn⟩
    rw [dif_pos hx]
    obtain ⟨m, hm⟩ := Classical.choose_spec hx
    have h1 := ev_mono (Nat.le_max_left n m) _ _ _ _ _ hn
    have h2 := ev_mono (Nat.le_max_right n m) _ _ _ _ _ hm
    rw [h1] at h2
    exact h2.symm
theorem evL_eq : evL P = step P (evL P) := by
  funext cx c e st
  apply Option.ext
  intro r
  constructor
  · intro h
    obtain ⟨n, hn⟩ := evL_some.1 h
    cases n with
    | zero => cases hn
    | succ n =>
      rw [ev_succ] at hn
      exact step_mono (fun _ _ _ _ _ h => evL_some.2 ⟨n, h⟩) _ _ _ _ _ hn
  · intro h
    obtain ⟨n, hn⟩ := step_lim (F := ev P) (fun n m => ev_mono) (fun _ _ _ _ _ h => evL_some.1 h) h
    exact evL_some.2 ⟨n + 1, hn n (Nat.le_refl _)⟩
noncomputable def callL (P : Program) : CallF := callOf P (evL P)
/-- of a call with a result: all that the model may do there -/
theorem callL_sound (hn : namesOk P = true) (hm : P.follows .mixedOrders = true) : CallSound P (callL P) := by
  have hN := named_of hn
  refine callOf_sound fun c code e st x e' st' h hwf => ?_
  obtain ⟨n, h⟩ := evL_some.1 h
  exact (ev_ok (draw_sound hN hm) hN n).1 c code e st x e' st' h hwf
end
end Go.Proofs.Ytcjddojcfdeflaa.Ev
namespace Go.Proofs.Ytcjddojcfdeflaa.Ev
open Go.RowKit

abbrev Alt := TypeId → Program → CallF → Cx → Env → St → Res
noncomputable def q_none : Alt := fun _ _ _ _ _ _ => none
noncomputable def cV (v : Value) : Option V := ofV v some
noncomputable def qT {β : Type} (k : V → Option β) (o : Option V) : Option β := Option.rec (motive := fun _ => Option β) (k .u) k o
noncomputable def qO {β : Type} (k : V → Option β) (o : Option V) : Option β := Option.rec (motive := fun _ => Option β) none k o
noncomputable def qd {β : Type} (e : Env) (k : V → Option β) (x : Operand) : Option β := Operand.rec (motive := fun _ => Option β) (fun t => qT k (T.getP (pth t) e)) (fun v => qO k (cV v)) (fun _ => none) (fun f => k (.f (.func f) [] [])) x
/-! values -/
noncomputable def vC {R : Type} (f : Value → R) (d : R) (v : V) : R := V.casesOn (motive_1 := fun _ => R) v f (fun _ => d) (fun _ _ => d) (fun _ _ _ _ => d) (fun _ _ _ _ => d) d (fun _ => d) (fun _ _ _ => d) (fun _ => d) (fun _ => d)
noncomputable def vI {R : Type} (f : IntKind → Int → R) (d : R) (v : Value) : R := Value.casesOn (motive_1 := fun _ => R) v (fun _ => d) f (fun _ _ => d) (fun _ _ _ => d) (fun _ => d) (fun _ => d) (fun _ _ _ => d) (fun _ => d) (fun _ => d) (fun _ _ _ => d) d (fun _ _ => d) d (fun _ => d) (fun _ => d)
noncomputable def qB (st : St) (b : Bool) : Res := Bool.rec (motive := fun _ => Res) (some (.bool false, st)) (some (.bool true, st)) b
noncomputable def qI (st : St) (k : IntKind) (n : Int) : Res := fi n fun n => some (.int k n, st)
noncomputable def kN (k : IntKind) : Nat := IntKind.rec (motive := fun _ => Nat) 0 1 2 3 4 5 6 7 k
abbrev Bo := IntKind → Int → Int → St → Res → Res
noncomputable def b_add : Bo := fun k a b st _ => qI st k (wr k (Int.add a b))
noncomputable def b_sub : Bo := fun k a b st _ => qI st k (wr k (Int.sub a b))
noncomputable def b_mul : Bo := fun k a b st _ => qI st k (wr k (Int.mul a b))
noncomputable def b_eql : Bo := fun _ a b st _ => qB st (eqI a b)
noncomputable def b_neq : Bo := fun _ a b st _ => qB st (!eqI a b)
noncomputable def b_lss : Bo := fun _ a b st _ => qB st (ltI a b)
noncomputable def b_leq : Bo := fun _ a b st _ => qB st (!ltI b a)
noncomputable def b_gtr : Bo := fun _ a b st _ => qB st (ltI b a)
noncomputable def b_geq : Bo := fun _ a b st _ => qB st (!ltI a b)
noncomputable def b_oth : Bo := fun _ _ _ _ d => d
noncomputable def bo (op : BinOp) : Bo := BinOp.rec (motive := fun _ => Bo) b_add b_sub b_mul b_oth b_oth b_oth b_oth b_oth b_oth b_oth b_oth b_eql b_neq b_lss b_leq b_gtr b_geq op
noncomputable def qbK (d : Res) (op : BinOp) (st : St) (k : IntKind) (a : Int) (k' : IntKind) (b : Int) : Res := Bool.rec (motive := fun _ => Res) d (bo op k a b st d) (Nat.beq (kN k) (kN k'))
noncomputable def qbin (P : Program) (st : St) (op : BinOp) (t : TypeId) (x y : Operand) (a b : V) : Res := vC (fun va => vI (fun k i => vC (fun vb => vI (fun k' j => qbK (binE P st op t x y a b) op st k i k' j) (binE P st op t x y a b) vb) (binE P st op t x y a b) b) (binE P st op t x y a b) va) (binE P st op t x y a b) a
/-! operations -/
noncomputable def q_move (x : Operand) : Alt := fun _ _ _ _ e st => qd e (ret st) x
noncomputable def q_pick (x a b : Operand) : Alt := fun t P call c e st => evOp P call c e st ⟨none, .pick x a b, t, "", #[], none⟩
noncomputable def q_alloc (el : TypeId) : Alt := fun _ P _ _ _ st => zero P el fun cs => newC st el cs fun n st => some (.p n 0, st)
noncomputable def q_box (t : TypeId) (x : Operand) : Alt := fun _ _ _ _ e st => qd e (fun v => cellsOf v fun cs => newC st t cs fun n st => some (.p n 0, st)) x
noncomputable def q_build (a : TypeId) (p : Array (Nat × Operand)) : Alt := fun t P call c e st => evOp P call c e st ⟨none, .build a p, t, "", #[], none⟩
noncomputable def q_buildSlice (a : TypeId) (n : Nat) (p : Array (Nat × Operand)) : Alt := fun t P call c e st => evOp P call c e st ⟨none, .buildSlice a n p, t, "", #[], none⟩
noncomputable def vP {R : Type} (f : Nat → Nat → R) (d : R) (v : V) : R := V.casesOn (motive_1 := fun _ => R) v (fun _ => d) (fun _ => d) f (fun _ _ _ _ => d) (fun _ _ _ _ => d) d (fun _ => d) (fun _ _ _ => d) (fun _ => d) (fun _ => d)
noncomputable def qL (P : Program) (c : Cx) (st : St) (t : TypeId) (n i : Nat) : Res := loadE P c st t n i fun w => some (w, st)
noncomputable def q_load (t : TypeId) (x : Operand) : Alt := fun _ P _ c e st => qd e (vP (qL P c st t) none) x
noncomputable def qS3 (c : Cx) (st : St) (n i : Nat) (cs : List V) (z : Nat) : Res := Bool.rec (motive := fun _ => Res) none (putB c st n i cs fun st => some (.u, st)) (Nat.beq cs.length z)
noncomputable def qS2 (P : Program) (c : Cx) (st : St) (t : TypeId) (n i : Nat) (v : V) : Res := cellsOf v fun cs => szOf P t (qS3 c st n i cs)
noncomputable def qS1 (P : Program) (c : Cx) (e : Env) (st : St) (t : TypeId) (y : Operand) (n i : Nat) : Res := qd e (qS2 P c st t n i) y
noncomputable def q_store (t : TypeId) (x y : Operand) : Alt := fun _ P _ c e st => qd e (vP (qS1 P c e st t y) none) x
noncomputable def q_nilCheck (x : Operand) : Alt := fun _ _ _ _ e st => qd e (vP (fun n o => some (.p n o, st)) none) x
noncomputable def q_binOp (op : BinOp) (t : TypeId) (x y : Operand) (_ : TypeId) : Alt := fun _ P _ _ e st => qd e (fun a => qd e (qbin P st op t x y a) y) x
noncomputable def q_unOp (a : UnOp) (t : TypeId) (x : Operand) : Alt := fun ty P call c e st => evOp P call c e st ⟨none, .unOp a t x, ty, "", #[], none⟩
noncomputable def q_convert (a b : TypeId) (x : Operand) : Alt := fun _ P _ c e st => qd e (convE P c st a b) x
noncomputable def q_makeFunc (f : Fn) (a b : Array Operand) : Alt := fun t P call c e st => evOp P call c e st ⟨none, .makeFunc f a b, t, "", #[], none⟩
noncomputable def q_makeSlice (a : TypeId) (x y : Operand) : Alt := fun t P call c e st => evOp P call c e st ⟨none, .makeSlice a x y, t, "", #[], none⟩
noncomputable def q_slice (a : TypeId) (x : Operand) (l h m : Option Operand) : Alt := fun t P call c e st => evOp P call c e st ⟨none, .slice a x l h m, t, "", #[], none⟩
noncomputable def q_fieldAddr (a : TypeId) (x : Operand) (n : Nat) : Alt := fun t P call c e st => evOp P call c e st ⟨none, .fieldAddr a x n, t, "", #[], none⟩
noncomputable def q_field (a : TypeId) (x : Operand) (n : Nat) : Alt := fun t P call c e st => evOp P call c e st ⟨none, .field a x n, t, "", #[], none⟩
noncomputable def q_indexAddr (t : TypeId) (x ix : Operand) : Alt := fun _ P _ _ e st => qd e (fun v => qd e (fun i => asNat i fun i => idxE P t v i fun a => some (a, st)) ix) x
noncomputable def q_index (a : TypeId) (x y : Operand) : Alt := fun t P call c e st => evOp P call c e st ⟨none, .index a x y, t, "", #[], none⟩
noncomputable def q_insert (a : TypeId) (x y z : Operand) : Alt := fun t P call c e st => evOp P call c e st ⟨none, .insert a x y z, t, "", #[], none⟩
noncomputable def q_makeMap (a : TypeId) (x : Option Operand) : Alt := fun t P call c e st => evOp P call c e st ⟨none, .makeMap a x, t, "", #[], none⟩
noncomputable def q_lookup (a : TypeId) (x y : Operand) (b : Bool) : Alt := fun t P call c e st => evOp P call c e st ⟨none, .lookup a x y b, t, "", #[], none⟩
noncomputable def q_mapUpdate (a : TypeId) (x y z : Operand) : Alt := fun t P call c e st => evOp P call c e st ⟨none, .mapUpdate a x y z, t, "", #[], none⟩
noncomputable def q_mapEntry (a : TypeId) (x y : Operand) : Alt := fun t P call c e st => evOp P call c e st ⟨none, .mapEntry a x y, t, "", #[], none⟩
noncomputable def q_entryStore (a : TypeId) (x y z : Operand) : Alt := fun t P call c e st => evOp P call c e st ⟨none, .entryStore a x y z, t, "", #[], none⟩
noncomputable def q_range (a : TypeId) (x : Operand) : Alt := fun t P call c e st => evOp P call c e st ⟨none, .range a x, t, "", #[], none⟩
noncomputable def q_next (x : Operand) (b : Bool) : Alt := fun t P call c e st => evOp P call c e st ⟨none, .next x b, t, "", #[], none⟩
noncomputable def q_extract (x : Operand) (n : Nat) : Alt := fun t P call c e st => evOp P call c e st ⟨none, .extract x n, t, "", #[], none⟩
noncomputable def q_call (cl : Call) : Alt := fun t P call c e st => evOp P call c e st ⟨none, .call cl, t, "", #[], none⟩
noncomputable def qTab (op : Op) : Alt := Op.rec (motive := fun _ => Alt) q_move q_move q_pick q_alloc q_box q_build q_buildSlice q_insert q_load q_store (fun _ => q_none) (fun _ => q_none) q_nilCheck q_binOp q_unOp q_convert
  (fun _ _ => q_none) (fun _ _ => q_none) q_makeFunc q_makeMap (fun _ _ => q_none) q_makeSlice q_slice q_fieldAddr q_field q_indexAddr q_index q_lookup q_mapUpdate q_mapEntry q_entryStore q_range q_next (fun _ => q_none) (fun _ _ _ _ => q_none) q_extract q_call
  (fun _ => q_none) (fun _ => q_none) (fun _ => q_none) (fun _ _ => q_none) (fun _ _ _ => q_none) (fun _ _ => q_none) op
noncomputable def evOpQ (P : Program) (call : CallF) (c : Cx) (e : Env) (st : St) (o : Oper) : Res := qTab o.op o.type P call c e st
section
variable {P : Program} {call : CallF} {c : Cx} {e : Env} {st : St}
theorem fA_bind' {β : Type} (v : Value) (k : V → Option β) : fA v k = (fA v some).bind k := by
  unfold fA
  split <;> simp
theorem fAs_bind' {β : Type} : ∀ (l : List Value) (k : List V → Option β), fAs l k = (fAs l some).bind k
  | [], _ => rfl
  | v :: l, k => by
    have h : ∀ {γ : Type} (k : List V → Option γ), fAs (v :: l) k = fA v (fun x => fAs l fun l => k (x :: l)) := fun _ => rfl
    rw [h k, h some, fA_bind', fA_bind' (k := fun x => fAs l fun l => some (x :: l))]
    cases fA v some with
    | none => rfl
    | some x =>
      simp only [Option.bind_some]
      rw [fAs_bind' l fun l => k (x :: l), fAs_bind' l fun l => some (x :: l)]
      cases fAs l some <;> rfl
theorem ofV_bind' {β : Type} (v : Value) (k : V → Option β) : ofV v k = (ofV v some).bind k := by
  unfold ofV
  split
  · rename_i cs
    rw [fAs_bind', fAs_bind' (k := fun l => some (V.g l))]
    cases fAs cs.toList some <;> rfl
  · rfl
  · exact fA_bind' _ _
theorem qd_eq {β : Type} (k : V → Option β) (x : Operand) : qd e k x = opd e x k := by
  cases x with
  | tmp t => show qT k (T.get e t) = (match T.get e t with | some v => k v | none => k .u); cases T.get e t <;> rfl
  | const v => show qO k (cV v) = ofV v k; rw [ofV_bind']; unfold cV; cases ofV v some <;> rfl
  | global g => rfl
  | func f => rfl
theorem qB_eq (b : Bool) : qB st b = fb b (fun b => some (.bool b, st)) := by cases b <;> rfl
theorem kN_eq (k k' : IntKind) : Nat.beq (kN k) (kN k') = eqKd k k' := by cases k <;> cases k' <;> rfl
theorem qbK_eq (op : BinOp) (t : TypeId) (x y : Operand) (k k' : IntKind) (a b : Int) : qbK (binE P st op t x y (.c (.int k a)) (.c (.int k' b))) op st k a k' b = binE P st op t x y (.c (.int k a)) (.c (.int k' b)) := by
  unfold qbK
  rw [kN_eq]
  cases h : eqKd k k' with
  | false => rfl
  | true =>
    show bo op k a b st _ = _
    cases op <;> first
      | rfl
      | (simp only [bo, b_add, b_sub, b_mul, b_eql, b_neq, b_lss, b_leq, b_gtr, b_geq, binE, h, binI, qI, qB_eq, ofV, fA, ret]; done)
      | (simp only [bo, b_add, b_sub, b_mul, b_eql, b_neq, b_lss, b_leq, b_gtr, b_geq, binE, h, binI, qI, qB_eq, ofV, fA]; rfl)
theorem qbin_eq (op : BinOp) (t : TypeId) (x y : Operand) (a b : V) : qbin P st op t x y a b = binE P st op t x y a b := by
  cases a with
  | c va => cases va with
    | int k i => cases b with
      | c vb => cases vb with
        | int k' j => exact qbK_eq op t x y k k' i j
        | _ => rfl
      | _ => rfl
    | _ => rfl
  | _ => rfl
theorem vP_eq {R : Type} (f : Nat → Nat → R) (d : R) (v : V) : vP f d v = (match v with | .p n i => f n i | _ => d) := by cases v <;> rfl
theorem evOpQ_eq (o : Oper) : evOpQ P call c e st o = evOp P call c e st o := by
  obtain ⟨d, op, t, p, af, g⟩ := o
  cases op with
  | move x => exact qd_eq _ _
  | assign x => exact qd_eq _ _
  | box t x => exact qd_eq _ _
  | load t x =>
    show qd e _ x = opd e x _
    rw [qd_eq]; congr 1; funext v; cases v <;> rfl
  | store t x y =>
    show qd e _ x = opd e x _
    rw [qd_eq]; congr 1; funext v
    cases v with
    | p n i =>
      show qd e _ y = opd e y _
      rw [qd_eq]; congr 1; funext v
      show cellsOf v _ = cellsOf v _
      congr 1; funext cs
      show szOf P t _ = szOf P t _
      congr 1; funext z
      show qS3 c st n i cs z = _
      unfold qS3
      cases Nat.beq cs.length z <;> rfl
    | _ => rfl
  | nilCheck x =>
    show qd e _ x = opd e x _
    rw [qd_eq]; congr 1; funext v; cases v <;> rfl
  | binOp op t x y yt =>
    show qd e _ x = opd e x _
    rw [qd_eq]; congr 1; funext a
    rw [qd_eq]; congr 1; funext b
    exact qbin_eq ..
  | convert a b x => exact qd_eq _ _
  | indexAddr t x ix =>
    show qd e _ x = opd e x _
    rw [qd_eq]; congr 1; funext a
    rw [qd_eq]
  | _ => rfl
end
/-! regions, code -/
noncomputable def putQ {β : Type} (nt : Nat) (e : Env) (v : V) (k : Env → Option β) (d : Option Nat) : Option β := Option.rec (motive := fun _ => Option β) (k e) (fun t => Bool.rec (motive := fun _ => Option β) none (T.setP (pth t) v e k) (Nat.ble (Nat.succ t) nt)) d
theorem putQ_eq {β : Type} {c : Cx} {e : Env} (d : Option Nat) (v : V) (k : Env → Option β) : putQ c.nt e v k d = putK c e d v k := by
  cases d with
  | none => rfl
  | some t =>
    show Bool.rec (motive := fun _ => Option β) none (T.setP (pth t) v e k) (Nat.blt t c.nt) = (match Nat.blt t c.nt with | true => e.setK t v k | false => none)
    cases Nat.blt t c.nt <;> rfl
noncomputable def qWant (e : Env) (ops : List Oper) (o : Oper) : Bool := Option.rec (motive := fun _ => Bool) true (fun _ => wants e ops o) o.guard
noncomputable def q2 (c : Cx) (e : Env) (o : Oper) (ih : Env → St → Option (Env × St)) (r : Res) : Option (Env × St) := Option.rec (motive := fun _ => Option (Env × St)) none (fun p => Prod.rec (motive := fun _ => Option (Env × St)) (fun v st => putQ c.nt e v (fun e => ih e st) o.dst) p) r
noncomputable def q1 (P : Program) (call : CallF) (c : Cx) (ops : List Oper) (o : Oper) (ih : Env → St → Option (Env × St)) (e : Env) (st : St) : Option (Env × St) := Bool.rec (motive := fun _ => Option (Env × St)) (putQ c.nt e .u (fun e => ih e st) o.dst) (q2 c e o ih (evOpQ P call c e st o)) (qWant e ops o)
noncomputable def evOpsQ (P : Program) (call : CallF) (c : Cx) (ops : List Oper) (l : List Oper) : Env → St → Option (Env × St) := lr (fun e st => some (e, st)) (fun o _ ih e st => q1 P call c ops o ih e st) l
abbrev DF := Nat → List (Nat × Nat × Nat) → Env → St → Option (Env × St)
noncomputable def d2 (c : Cx) (e : Env) (o : Oper) (nx i : Nat) (rs : List (Nat × Nat × Nat)) (ih : DF) (r : Res) : Option (Env × St) := Option.rec (motive := fun _ => Option (Env × St)) none (fun p => Prod.rec (motive := fun _ => Option (Env × St)) (fun v st' => putQ c.nt e v (fun e => fn (i + 1) fun i' => ih i' (match Nat.beq nx st'.nx with | true => rs | false => (i, nx, st'.nx) :: rs) e st') o.dst) p) r
noncomputable def d1 (P : Program) (call : CallF) (c : Cx) (ops : List Oper) (o : Oper) (ih : DF) (i : Nat) (rs : List (Nat × Nat × Nat)) (e : Env) (st : St) : Option (Env × St) := Bool.rec (motive := fun _ => Option (Env × St)) (putQ c.nt e .u (fun e => fn (i + 1) fun i' => ih i' rs e st) o.dst) (d2 c e o st.nx i rs ih (evOpQ P call (cxOf c ops o i rs st e) e st o)) (qWant e ops o)
noncomputable def evDrawQ (P : Program) (call : CallF) (c : Cx) (ops : List Oper) (l : List Oper) : DF := lr (fun _ _ e st => some (e, st)) (fun o _ ih i rs e st => d1 P call c ops o ih i rs e st) l
abbrev CRes := Option (X × Env × St)
abbrev CAlt := Program → CodeF → Cx → Env → St → CRes
noncomputable def c_none : CAlt := fun _ _ _ _ _ => none
noncomputable def c_skip : CAlt := fun _ _ _ e st => some (.n, e, st)
noncomputable def cr1 (r : Option (Env × St)) : CRes := Option.rec (motive := fun _ => CRes) none (fun p => Prod.rec (motive := fun _ => CRes) (fun e st => some (.n, e, st)) p) r
noncomputable def c_region (_ : Nat) (ops : Array Oper) (d : Bool) : CAlt := fun P ih cx e st => Bool.rec (motive := fun _ => CRes) (cr1 (evOpsQ P (callOf P ih) cx ops.toList ops.toList e st)) (Bool.rec (motive := fun _ => CRes) none (cr1 (evDrawQ P (callOf P ih) cx ops.toList ops.toList 0 [] e st)) (regOk ops.toList)) d
noncomputable def cs1 (ih : CodeF) (cx : Cx) (b : Code) (r : CRes) : CRes := match r with
  | some (.n, e, st) => ih cx b e st
  | r => r
noncomputable def c_seq (a b : Code) : CAlt := fun _ ih cx e st => cs1 ih cx b (ih cx a e st)
noncomputable def ci1 (p q : CRes) (v : V) : CRes := match v with
  | .c (.bool true) => p
  | .c (.bool false) => q
  | _ => none
noncomputable def c_cond (x : Operand) (a b : Code) : CAlt := fun _ ih cx e st => qd e (ci1 (ih cx a e st) (ih cx b e st)) x
noncomputable def cb1 (i : Nat) (r : CRes) : CRes := match r with
  | some (.ex j, e, st) => (match Nat.beq j i with | true => some (.n, e, st) | false => some (.ex j, e, st))
  | r => r
noncomputable def c_block (i : Nat) (b : Code) : CAlt := fun _ ih cx e st => cb1 i (ih cx b e st)
noncomputable def c_loop (b : Code) : CAlt := fun _ ih cx e st => cs1 ih cx (.loop b) (ih cx b e st)
noncomputable def c_scope (b : Code) : CAlt := fun _ ih cx e st => ih cx b e st
noncomputable def c_exit (i : Nat) : CAlt := fun _ _ _ e st => some (.ex i, e, st)
noncomputable def c_ret : CAlt := fun _ _ _ e st => some (.ret, e, st)
noncomputable def cTab (c : Code) : CAlt := Code.casesOn (motive := fun _ => CAlt) c c_skip c_region c_seq c_cond c_block c_loop (fun _ _ _ _ => c_none) c_exit c_scope (fun _ => c_skip) (fun _ => c_none) c_ret (fun _ => c_none)
noncomputable def evQ (P : Program) (n : Nat) : CodeF := nr (fun _ _ _ _ => none) (fun _ ih cx c e st => cTab c P ih cx e st) n
noncomputable def runQ (P : Program) (fuel f : Nat) (args : List V) : Option (V × St) := callOf P (evQ P fuel) ⟨false, [], 0, 0⟩ f args ⟨0, .lf⟩
noncomputable def yesQ (P : Program) (fuel f : Nat) : Bool := match runQ P fuel f [] with
  | some (.c (.bool true), _) => true
  | _ => false
section
variable {P : Program} {call : CallF} {c : Cx} {e : Env} {st : St}
theorem qWant_eq (ops : List Oper) (o : Oper) : qWant e ops o = wants e ops o := by
  unfold qWant wants
  cases o.guard <;> rfl
theorem evOpsQ_eq (ops : List Oper) : ∀ (l : List Oper) (e : Env) (st : St), evOpsQ P call c ops l e st = evOps P call c ops l e st
  | [], _, _ => rfl
  | o :: l, e, st => by
    have ih := evOpsQ_eq ops l
    have h1 : evOpsQ P call c ops (o :: l) e st = q1 P call c ops o (evOpsQ P call c ops l) e st := rfl
    have h2 : evOps P call c ops (o :: l) e st = (match wants e ops o with
      | true => match evOp P call c e st o with
        | none => none
        | some (v, st) => putK c e o.dst v fun e => evOps P call c ops l e st
      | false => putK c e o.dst .u fun e => evOps P call c ops l e st) := rfl
    have ih' : evOpsQ P call c ops l = evOps P call c ops l := funext fun e => funext fun st => ih e st
    rw [h1, h2]
    unfold q1
    rw [qWant_eq, evOpQ_eq, ih']
    cases wants e ops o with
    | false => exact putQ_eq _ _ _
    | true => cases evOp P call c e st o with
      | none => rfl
      | some p => obtain ⟨v, st⟩ := p; exact putQ_eq (c := c) (e := e) o.dst v fun e => evOps P call c ops l e st
theorem evDrawQ_eq (ops : List Oper) : ∀ (l : List Oper) (i : Nat) (rs : List (Nat × Nat × Nat)) (e : Env) (st : St), evDrawQ P call c ops l i rs e st = evDraw P call c ops l i rs e st
  | [], _, _, _, _ => rfl
  | o :: l, i, rs, e, st => by
    have ih := evDrawQ_eq ops l
    have h1 : evDrawQ P call c ops (o :: l) i rs e st = d1 P call c ops o (evDrawQ P call c ops l) i rs e st := rfl
    have h2 : evDraw P call c ops (o :: l) i rs e st = (match wants e ops o with
      | true => match evOp P call (cxOf c ops o i rs st e) e st o with
        | none => none
        | some (v, st') => putK c e o.dst v fun e => fn (i + 1) fun i' => evDraw P call c ops l i' (match Nat.beq st.nx st'.nx with | true => rs | false => (i, st.nx, st'.nx) :: rs) e st'
      | false => putK c e o.dst .u fun e => fn (i + 1) fun i' => evDraw P call c ops l i' rs e st) := rfl
    have ih' : evDrawQ P call c ops l = evDraw P call c ops l := funext fun i => funext fun rs => funext fun e => funext fun st => ih i rs e st
    rw [h1, h2]
    unfold d1
    rw [qWant_eq, evOpQ_eq, ih']
    cases wants e ops o with
    | false => exact putQ_eq _ _ _
    | true => cases evOp P call (cxOf c ops o i rs st e) e st o with
      | none => rfl
      | some p => obtain ⟨v, st'⟩ := p; exact putQ_eq (c := c) (e := e) o.dst v fun e => fn (i + 1) fun i' => evDraw P call c ops l i' (match Nat.beq st.nx st'.nx with | true => rs | false => (i, st.nx, st'.nx) :: rs) e st'
theorem evQ_eq : ∀ n, evQ P n = ev P n
  | 0 => rfl
  | n + 1 => by
    have ih := evQ_eq n
    funext cx c e st
    have h1 : evQ P (n + 1) cx c e st = cTab c P (evQ P n) cx e st := rfl
    rw [h1, ih]
    cases c with
    | region id ops d =>
      cases d with
      | false =>
        show cr1 (evOpsQ P (callOf P (ev P n)) cx ops.toList ops.toList e st) = (match evOps P (callOf P (ev P n)) cx ops.toList ops.toList e st with
          | none => none
          | some (e, st) => some (X.n, e, st))
        rw [evOpsQ_eq]
        cases evOps P (callOf P (ev P n)) cx ops.toList ops.toList e st with
        | none => rfl
        | some p => obtain ⟨e, st⟩ := p; rfl
      | true =>
        show Bool.rec (motive := fun _ => CRes) none (cr1 (evDrawQ P (callOf P (ev P n)) cx ops.toList ops.toList 0 [] e st)) (regOk ops.toList) = (match regOk ops.toList with
          | true => (match evDraw P (callOf P (ev P n)) cx ops.toList ops.toList 0 [] e st with
            | none => none
            | some (e, st) => some (X.n, e, st))
          | false => none)
        rw [evDrawQ_eq]
        cases regOk ops.toList with
        | false => rfl
        | true => cases evDraw P (callOf P (ev P n)) cx ops.toList ops.toList 0 [] e st with
          | none => rfl
          | some p => obtain ⟨e, st⟩ := p; rfl
    | cond x a b => exact qd_eq _ _
    | _ => rfl
theorem yesQ_eq (fuel f : Nat) : yesQ P fuel f = yes P fuel f := by
  unfold yesQ yes runQ run
  rw [evQ_eq]; rfl
theorem yesQ_ok {P : Program} (hn : namesOk P = true) (hm : P.follows .mixedOrders = true) {fuel f : Nat} (h : yesQ P fuel f = true) (w : World) (hk : Kept w.heap.size w := by first | assumption | exact fun _ h => absurd h List.not_mem_nil) :
    Calls P f #[] w fun e w' => e = .returned (.bool true) ∧ Below w.heap.size w w' := yes_ok hn hm (by rw [← yesQ_eq]; exact h) w
end
end Go.Proofs.Ytcjddojcfdeflaa.Ev
namespace Go.Proofs.Ytcjddojcfdeflaa.Ev
open Go.RowKit

/-! ### code whose calls are answered by a given function -/
noncomputable def evG (P : Program) (F : CallF) (n : Nat) : CodeF := nr (fun _ _ _ _ => none) (fun _ ih cx c e st =>
  match c with
  | .skip => some (.n, e, st)
  | .label _ => some (.n, e, st)
  | .region _ ops d => (match d with
    | true => (match regOk ops.toList with
      | true => (match evDraw P F cx ops.toList ops.toList 0 [] e st with
        | none => none
        | some (e, st) => some (.n, e, st))
      | false => none)
    | false => (match evOps P F cx ops.toList ops.toList e st with
      | none => none
      | some (e, st) => some (.n, e, st)))
  | .seq a b => (match ih cx a e st with
    | some (.n, e, st) => ih cx b e st
    | r => r)
  | .cond x a b => opd e x fun v => (match v with
    | .c (.bool true) => ih cx a e st
    | .c (.bool false) => ih cx b e st
    | _ => none)
  | .block i b => (match ih cx b e st with
    | some (.ex j, e, st) => (match Nat.beq j i with | true => some (.n, e, st) | false => some (.ex j, e, st))
    | r => r)
  | .loop b => (match ih cx b e st with
    | some (.n, e, st) => ih cx (.loop b) e st
    | r => r)
  | .scope b => ih cx b e st
  | .exit i => some (.ex i, e, st)
  | .ret => some (.ret, e, st)
  | _ => none) n
/-- a law without arguments that is known to return true needs no second run -/
noncomputable def orac (P : Program) (n fa : Nat) : CallF := fun c f args st => match Nat.beq f fa, args with
  | true, [] => some (.c (.bool true), st)
  | _, args => callOf P (evQ P n) c f args st
/-! ### pieces -/
noncomputable def bd (fn : Func) : Code := match fn.body with | some c => c | none => .skip
noncomputable def dropC (m : Nat) (B : Code) : Code := nr (fun B => B) (fun _ ih B => match B with | .seq _ b => ih b | _ => .skip) m B
noncomputable def runL (G : CodeF) (c : Cx) (m : Nat) (B : Code) (e : Env) (st : St) : Option (Env × St) :=
  nr (fun _ e st => some (e, st)) (fun _ ih B e st => match B with
    | .seq a b => (match G c a e st with
      | some (.n, e, st) => ih b e st
      | _ => none)
    | _ => none) m B e st
noncomputable def gc (keep : List Nat) (st : St) : St := ⟨st.nx, lr (fun t => t) (fun n _ ih t => match st.h.get n with | some b => ih (t.set n b) | none => ih t) keep .lf⟩
noncomputable def stepC (G : CodeF) (c : Cx) (m : Nat) (B : Code) (keep : List Nat) (e : Env) (st : St) : Option (Env × St) := match runL G c m B e st with
  | some (e, st) => some (e, gc keep st)
  | none => none
noncomputable def lastC (P : Program) (G : CodeF) (fn : Func) (B : Code) (e : Env) (st : St) : Bool :=
  match G ⟨false, [], 0, fn.ntmps⟩ B e st with
  | some (.n, e, st) => (match resOf P ⟨false, [], 0, fn.ntmps⟩ e st fn.results.toList fun l => (match l with | [x] => some (x, st) | l => some (.t l, st)) with | some (.c (.bool true), _) => true | _ => false)
  | some (.ret, e, st) => (match resOf P ⟨false, [], 0, fn.ntmps⟩ e st fn.results.toList fun l => (match l with | [x] => some (x, st) | l => some (.t l, st)) with | some (.c (.bool true), _) => true | _ => false)
  | _ => false
/-! ### words of the states that are written out -/
def u (n : Nat) : V := .c (.int .u64 (.ofNat n))
def i (n : Nat) : V := .c (.int .i64 (.ofNat n))
def j (n : Nat) : V := .c (.int .i64 (.negSucc n))
def y (n : Nat) : V := .c (.int .u8 (.ofNat n))
def tt : V := .c (.bool true)
def ff : V := .c (.bool false)
def np : V := .c (.pointer none)
def ns : V := .c (.slice none 0 0)
/-! ### what they are worth -/
def Fin (P : Program) (fn : Func) (B0 : Nat) (w0 : World) : Exit → Act → World → Prop := fun ex a w => (ex = .normal ∨ ex = .ret) ∧ a.defers = [] ∧ (results fn a.tmps).run P w = .ok (.bool true) w ∧ Below B0 w0 w
def Good (P : Program) (fn : Func) (B : Code) (e : Env) (st : St) : Prop := Wf st → ∀ (B0 : Nat) (ρ : Rho) (τ : Mem) (w0 w : World) (a : Act), EnvRel ρ e a → fn.ntmps ≤ a.tmps.size → a.defers = [] → Agree ⟨false, [], 0, fn.ntmps⟩ st τ → Real ρ B0 τ w → (∀ n, st.nx ≤ n → ρ n = none) → Below B0 w0 w → B.wp P (Fin P fn B0 w0) a w
section
variable {P : Program} {fn : Func}
theorem evQ_sound (hn : namesOk P = true) (hm : P.follows .mixedOrders = true) (n : Nat) : CodeSound P (evQ P n) := by
  rw [evQ_eq]
  exact (ev_ok (draw_sound (named_of hn) hm) (named_of hn) n).1
theorem evG_ok (hd : DrawSound P) (hn : Named P) {F : CallF} (hcall : CallSound P F) (hbody : HasBody P F) : ∀ n, CodeSound P (evG P F n) ∧ LoopSound P (evG P F n)
  | 0 => ⟨fun _ _ _ _ _ _ _ h _ => (by cases h), fun _ _ _ _ _ _ _ h _ => (by cases h)⟩
  | n + 1 => by
    obtain ⟨ihc, ihl⟩ := evG_ok hd hn hcall hbody n
    have loop : LoopSound P (evG P F (n + 1)) := by
      intro c b e st x e' st' h hwf
      have h' : (match evG P F n c b e st with
        | some (.n, e, st) => evG P F n c (.loop b) e st
        | r => r) = some (x, e', st') := h
      split at h'
      · rename_i e1 st1 hb
        obtain ⟨s1, k1⟩ := ihc _ _ _ _ _ _ _ hb hwf
        obtain ⟨m, s2, k2⟩ := ihl _ _ _ _ _ _ _ h' (s1.wf hwf)
        refine ⟨m + 1, s1.trans s2, fun B0 ρ τ w a he ht hag hre hf Q hQ => ?_⟩
        rw [rounds_succ]
        refine k1 B0 ρ τ w a he ht hag hre (hf.left s2.le) _ ?_
        exact cont_step s1 s2 hwf hag hf hQ fun ρ' a' w' he' ht' hag' hre' hf' hc' => k2 B0 ρ' _ w' a' he' ht' hag' hre' hf' Q hc'
      · rename_i hne
        obtain ⟨s1, k1⟩ := ihc _ _ _ _ _ _ _ h' hwf
        refine ⟨1, s1, fun B0 ρ τ w a he ht hag hre hf Q hQ => ?_⟩
        rw [rounds_succ]
        refine k1 B0 ρ τ w a he ht hag hre hf _ fun ρ' a' w' q1 q2 q3 q4 q5 q6 q7 => ?_
        have := hQ ρ' a' w' q1 q2 q3 q4 q5 q6 q7
        cases x with
        | n => exact (hne e' st' h').elim
        | ex i => exact this
        | ret => exact this
    refine ⟨fun c code e st x e' st' h hwf => ?_, loop⟩
    cases code with
    | skip =>
      have h' : (some (X.n, e, st) : Option (X × Env × St)) = some (x, e', st') := h
      injection h' with h'; injection h' with h1 h'; injection h' with h2 h3; subst h1 h2 h3
      exact ⟨.refl _ _, fun B0 ρ τ w a he ht hag hre hf Q hQ => wp_skip (cont_refl hQ he ht hre)⟩
    | label l =>
      have h' : (some (X.n, e, st) : Option (X × Env × St)) = some (x, e', st') := h
      injection h' with h'; injection h' with h1 h'; injection h' with h2 h3; subst h1 h2 h3
      exact ⟨.refl _ _, fun B0 ρ τ w a he ht hag hre hf Q hQ => wp_label (cont_refl hQ he ht hre)⟩
    | exit i =>
      have h' : (some (X.ex i, e, st) : Option (X × Env × St)) = some (x, e', st') := h
      injection h' with h'; injection h' with h1 h'; injection h' with h2 h3; subst h1 h2 h3
      exact ⟨.refl _ _, fun B0 ρ τ w a he ht hag hre hf Q hQ => wp_exit (cont_refl hQ he ht hre)⟩
    | ret =>
      have h' : (some (X.ret, e, st) : Option (X × Env × St)) = some (x, e', st') := h
      injection h' with h'; injection h' with h1 h'; injection h' with h2 h3; subst h1 h2 h3
      exact ⟨.refl _ _, fun B0 ρ τ w a he ht hag hre hf Q hQ => wp_ret (cont_refl hQ he ht hre)⟩
    | region id ops d =>
      cases d with
      | false =>
        have h' : (match evOps P (F) c ops.toList ops.toList e st with
          | none => none
          | some (e, st) => some (X.n, e, st)) = some (x, e', st') := h
        split at h'
        · cases h'
        · rename_i e1 st1 hop
          injection h' with h'; injection h' with h1 h'; injection h' with h2 h3; subst h1 h2 h3
          obtain ⟨s1, k1⟩ := evOps_ok hcall hn hbody hop hwf
          exact ⟨s1, fun B0 ρ τ w a he ht hag hre hf Q hQ => wp_region_list (k1 B0 ρ τ w a he ht hag hre hf Q hQ)⟩
      | true =>
        have h' : (match regOk ops.toList with
          | true => (match evDraw P (F) c ops.toList ops.toList 0 [] e st with
            | none => none
            | some (e, st) => some (X.n, e, st))
          | false => none) = some (x, e', st') := h
        split at h'
        · rename_i hreg
          split at h'
          · cases h'
          · rename_i e1 st1 hop
            injection h' with h'; injection h' with h1 h'; injection h' with h2 h3; subst h1 h2 h3
            exact hd _ hcall hbody c ops id e e1 st st1 hreg hop hwf
        · cases h'
    | seq a b =>
      have h' : (match evG P F n c a e st with
        | some (.n, e, st) => evG P F n c b e st
        | r => r) = some (x, e', st') := h
      split at h'
      · rename_i e1 st1 hb
        obtain ⟨s1, k1⟩ := ihc _ _ _ _ _ _ _ hb hwf
        obtain ⟨s2, k2⟩ := ihc _ _ _ _ _ _ _ h' (s1.wf hwf)
        refine ⟨s1.trans s2, fun B0 ρ τ w a he ht hag hre hf Q hQ => wp_seq ?_⟩
        refine k1 B0 ρ τ w a he ht hag hre (hf.left s2.le) _ ?_
        exact cont_step s1 s2 hwf hag hf hQ fun ρ' a' w' he' ht' hag' hre' hf' hc' => k2 B0 ρ' _ w' a' he' ht' hag' hre' hf' Q hc'
      · rename_i hne
        obtain ⟨s1, k1⟩ := ihc _ _ _ _ _ _ _ h' hwf
        refine ⟨s1, fun B0 ρ τ w a he ht hag hre hf Q hQ => wp_seq ?_⟩
        refine k1 B0 ρ τ w a he ht hag hre hf _ fun ρ' a' w' q1 q2 q3 q4 q5 q6 q7 => ?_
        have := hQ ρ' a' w' q1 q2 q3 q4 q5 q6 q7
        cases x with
        | n => exact (hne e' st' h').elim
        | ex i => exact this
        | ret => exact this
    | cond y a b =>
      have h' : (opd e y fun v => (match v with
        | .c (.bool true) => evG P F n c a e st
        | .c (.bool false) => evG P F n c b e st
        | _ => none)) = some (x, e', st') := h
      obtain ⟨v, h1, h2⟩ := opd_inv h'
      split at h1
      · obtain ⟨s1, k1⟩ := ihc _ _ _ _ _ _ _ h1 hwf
        refine ⟨s1, fun B0 ρ τ w a he ht hag hre hf Q hQ => wp_cond_true ?_ (k1 B0 ρ τ w a he ht hag hre hf Q hQ)⟩
        exact rel_true (h2 ρ a (he.tmp y))
      · obtain ⟨s1, k1⟩ := ihc _ _ _ _ _ _ _ h1 hwf
        refine ⟨s1, fun B0 ρ τ w a he ht hag hre hf Q hQ => wp_cond_false ?_ (k1 B0 ρ τ w a he ht hag hre hf Q hQ)⟩
        exact rel_true (h2 ρ a (he.tmp y))
      · cases h1
    | block i b =>
      have h' : (match evG P F n c b e st with
        | some (.ex j, e, st) => (match Nat.beq j i with | true => some (X.n, e, st) | false => some (.ex j, e, st))
        | r => r) = some (x, e', st') := h
      split at h'
      · rename_i j e1 st1 hb
        obtain ⟨s1, k1⟩ := ihc _ _ _ _ _ _ _ hb hwf
        split at h'
        · rename_i hj
          injection h' with h'; injection h' with h1 h'; injection h' with h2 h3; subst h1 h2 h3
          have hj' : j = i := by simpa [nbeq] using hj
          refine ⟨s1, fun B0 ρ τ w a he ht hag hre hf Q hQ => wp_block (k1 B0 ρ τ w a he ht hag hre hf _ fun ρ' a' w' q1 q2 q3 q4 q5 q6 q7 => ?_)⟩
          show Exit.inBlock i Q (.exit j) a' w'
          simp only [Exit.inBlock, hj', if_true]
          exact hQ ρ' a' w' q1 q2 q3 q4 q5 q6 q7
        · rename_i hj
          injection h' with h'; injection h' with h1 h'; injection h' with h2 h3; subst h1 h2 h3
          have hj' : ¬ j = i := by simpa [nbeq] using hj
          refine ⟨s1, fun B0 ρ τ w a he ht hag hre hf Q hQ => wp_block (k1 B0 ρ τ w a he ht hag hre hf _ fun ρ' a' w' q1 q2 q3 q4 q5 q6 q7 => ?_)⟩
          show Exit.inBlock i Q (.exit j) a' w'
          simp only [Exit.inBlock, hj', if_false]
          exact hQ ρ' a' w' q1 q2 q3 q4 q5 q6 q7
      · rename_i hne
        obtain ⟨s1, k1⟩ := ihc _ _ _ _ _ _ _ h' hwf
        refine ⟨s1, fun B0 ρ τ w a he ht hag hre hf Q hQ => wp_block (k1 B0 ρ τ w a he ht hag hre hf _ fun ρ' a' w' q1 q2 q3 q4 q5 q6 q7 => ?_)⟩
        have := hQ ρ' a' w' q1 q2 q3 q4 q5 q6 q7
        cases x with
        | n => exact this
        | ex i => exact (hne _ e' st' h').elim
        | ret => exact this
    | loop b =>
      obtain ⟨m, s1, k1⟩ := loop _ _ _ _ _ _ _ h hwf
      exact ⟨s1, fun B0 ρ τ w a he ht hag hre hf Q hQ => wp_loop_rounds m (k1 B0 ρ τ w a he ht hag hre hf Q hQ)⟩
    | rangeFunc f ps as b => cases h
    | scope b =>
      obtain ⟨s1, k1⟩ := ihc _ _ _ _ _ _ _ h hwf
      refine ⟨s1, fun B0 ρ τ w a he ht hag hre hf Q hQ => wp_scope_straight (k1 B0 ρ τ w a he ht hag hre hf _ fun ρ' a' w' q1 q2 q3 q4 q5 q6 q7 => ?_)⟩
      have := hQ ρ' a' w' q1 q2 q3 q4 q5 q6 q7
      cases x with
      | n => exact this
      | ex i => exact this
      | ret => exact this
    | goto l => cases h
    | refuse y => cases h
theorem Below.weak {B0 B1 : Nat} {w w' : World} (h : Below B1 w w') (k : B0 ≤ B1) : Below B0 w w' := by
  obtain ⟨h1, h2, h3, h4, h5⟩ := h
  exact ⟨h1, h2, h3, h4, fun j hj => h5 j (Nat.lt_of_lt_of_le hj k)⟩
theorem orac_sound {fa : Nat} {fn : Func} {b : Code} {n : Nat} (hf : P.funcs[fa]? = some fn) (hb : fn.body = some b) (hq : CodeSound P (evQ P n)) (ha : ∀ w, Calls P fa #[] w fun e w' => e = .returned (.bool true) ∧ Below w.heap.size w w') :
    CallSound P (orac P n fa) ∧ HasBody P (orac P n fa) := by
  have hc := callOf_sound hq
  have hbd : HasBody P (callOf P (evQ P n)) := callOf_body
  constructor
  · intro c f args st v st' h hwf
    unfold orac at h
    split at h
    · rename_i he
      have he' : f = fa := by simpa [nbeq] using he
      subst he'
      obtain ⟨rfl, rfl⟩ := some_inv h
      refine ⟨.refl _ _, fun B0 ρ τ w vs hvs hag hre hfr R hR => ?_⟩
      simp only [RelL] at hvs
      subst hvs
      refine (ha w).mono fun e w' ⟨h1, h2⟩ => ?_
      subst h1
      have hsz := h2.size
      refine hR ρ _ w' (Rho.le_refl _) (Dom.refl _ _ _) (rel_bool _) ?_ (Below.weak h2 hre.size)
      rw [ov_self]
      refine ⟨Nat.le_trans hre.size hsz, fun n b hb' => ?_, hre.inj, hre.kept.of fun k hk => h2.block k (Nat.lt_of_lt_of_le hk hre.size)⟩
      obtain ⟨r, k1, k2, k3, k4⟩ := hre.blk n b hb'
      exact ⟨r, k1, k2, Nat.lt_of_lt_of_le k3 hsz, k4.congr (h2.block r.block k3)⟩
    · exact hc _ _ _ _ _ _ h hwf
  · intro c f args st r h
    unfold orac at h
    split at h
    · rename_i he
      have he' : f = fa := by simpa [nbeq] using he
      subst he'
      exact ⟨fn, b, hf, hb⟩
    · exact hbd _ _ _ _ _ h
theorem evG_sound (hn : namesOk P = true) (hm : P.follows .mixedOrders = true) {F : CallF} (h : CallSound P F ∧ HasBody P F) (n : Nat) : CodeSound P (evG P F n) :=
  (evG_ok (draw_sound (named_of hn) hm) (named_of hn) h.1 h.2 n).1
theorem Good.run {G : CodeF} (hG : CodeSound P G) : ∀ {m : Nat} {B : Code} {e e1 : Env} {st st1 : St}, runL G ⟨false, [], 0, fn.ntmps⟩ m B e st = some (e1, st1) → Good P fn (dropC m B) e1 st1 → Good P fn B e st
  | 0, B, e, e1, st, st1, h, k => by
    have h' : (some (e, st) : Option (Env × St)) = some (e1, st1) := h
    injection h' with h'; injection h' with h1 h2; subst h1 h2
    exact k
  | m + 1, B, e, e1, st, st1, h, k => by
    cases B with
    | seq a b =>
      have h' : (match G ⟨false, [], 0, fn.ntmps⟩ a e st with
        | some (.n, e, st) => runL G ⟨false, [], 0, fn.ntmps⟩ m b e st
        | _ => none) = some (e1, st1) := h
      have k' : Good P fn (dropC m b) e1 st1 := k
      clear h k
      split at h'
      · rename_i e2 st2 hev
        have g2 := Good.run hG h' k'
        intro hwf B0 ρ τ w0 w a' he ht hd hag hre hfr hb
        obtain ⟨s1, k1⟩ := hG _ _ _ _ _ _ _ hev hwf
        refine wp_seq (k1 B0 ρ τ w a' he ht hag hre (fun n h1 _ => hfr n h1) _ ?_)
        intro ρ' a2 w2 l d he2 ht2 hd2 m2 b2
        exact g2 (s1.wf hwf) B0 ρ' _ w0 w2 a2 he2 ht2 (hd2.trans hd) (hag.step s1 hwf) m2 (fun n h1 => by
          cases e : ρ' n with
          | none => rfl
          | some r =>
            rcases d n r e with e | e
            · rw [hfr n (Nat.le_trans s1.le h1)] at e; cases e
            · omega) (hb.trans b2)
      · cases h'
    | _ => cases h
theorem gc_get (st : St) : ∀ (keep : List Nat) (t : T B) (n : Nat) (b : B), (lr (fun t => t) (fun n _ ih t => match st.h.get n with | some b => ih (t.set n b) | none => ih t) keep t : T B).get n = some b → t.get n = some b ∨ st.h.get n = some b
  | [], _, _, _, h => .inl h
  | k :: l, t, n, b, h => by
    rw [lr_cons] at h
    split at h
    · rename_i b' hb
      rcases gc_get st l _ n b h with h1 | h1
      · rw [T.get_set] at h1
        split at h1
        · rename_i e; subst e; right; rw [hb]; exact h1
        · exact .inl h1
      · exact .inr h1
    · exact gc_get st l _ n b h
theorem gc_sub {keep : List Nat} {st : St} {n : Nat} {b : B} (h : (gc keep st).h.get n = some b) : st.h.get n = some b := by
  rcases gc_get st keep .lf n b h with h | h
  · simp at h
  · exact h
theorem Good.gc {B : Code} {e : Env} {st : St} {keep : List Nat} (k : Good P fn B e (Ev.gc keep st)) : Good P fn B e st := fun hwf B0 ρ τ w0 w a he ht hd hag hre hfr hb =>
  k (fun n hn => by
    cases h : (Ev.gc keep st).h.get n with
    | none => rfl
    | some b => have := gc_sub h; rw [hwf n hn] at this; cases this) B0 ρ τ w0 w a he ht hd (fun n b h1 h2 => hag n b h1 (gc_sub h2)) hre hfr hb
theorem Good.step {G : CodeF} (hG : CodeSound P G) {m : Nat} {B : Code} {keep : List Nat} {e e1 : Env} {st st1 : St} (h : stepC G ⟨false, [], 0, fn.ntmps⟩ m B keep e st = some (e1, st1)) (k : Good P fn (dropC m B) e1 st1) : Good P fn B e st := by
  unfold stepC at h
  split at h
  · rename_i e2 st2 hr
    injection h with h; injection h with h1 h2; subst h1 h2
    exact Good.run hG hr k.gc
  · cases h
theorem Good.last {G : CodeF} (hG : CodeSound P G) {B : Code} {e : Env} {st : St} (h : lastC P G fn B e st = true) : Good P fn B e st := by
  intro hwf B0 ρ τ w0 w a he ht hd hag hre hfr hb
  have main : ∀ (x : X) (e1 : Env) (st1 : St), G ⟨false, [], 0, fn.ntmps⟩ B e st = some (x, e1, st1) → (x.exit = .normal ∨ x.exit = .ret) → (match resOf P ⟨false, [], 0, fn.ntmps⟩ e1 st1 fn.results.toList fun l => (match l with | [x] => some (x, st1) | l => some (.t l, st1)) with | some (.c (.bool true), _) => true | _ => false) = true → B.wp P (Fin P fn B0 w0) a w := by
    intro x e1 st1 hev hx hr
    obtain ⟨s1, k1⟩ := hG _ _ _ _ _ _ _ hev hwf
    refine k1 B0 ρ τ w a he ht hag hre (fun n h1 _ => hfr n h1) _ ?_
    intro ρ' a2 w2 l d he2 ht2 hd2 m2 b2
    split at hr
    · rename_i st2 hres
      obtain ⟨rs, h3, h4⟩ := resOf_ok hres
      obtain ⟨xs, g1, g2⟩ := h4 B0 ρ' _ w2 a2 he2 (hag.step s1 hwf) m2
      split at h3
      · obtain ⟨rfl, _⟩ := some_inv h3
        obtain ⟨yv, rfl, hy⟩ := relL1 g1
        simp only [Rel] at hy
        obtain ⟨rfl, _⟩ := hy
        refine ⟨hx, hd2.trans hd, ?_, hb.trans b2⟩
        have hmap : (fn.results.mapM fun x => (match x with | .tmp t => pure (a2.tmps.getD t undef) | .cell q t => do loadVar t (← asAddr (a2.tmps.getD q undef)) : Sem Value)).run P w2 = .ok [Value.bool true].toArray w2 := by
          have g2' : (fn.results.toList.mapM fun x => (match x with | .tmp t => pure (a2.tmps.getD t undef) | .cell q t => do loadVar t (← asAddr (a2.tmps.getD q undef)) : Sem Value)).run P w2 = .ok [Value.bool true] w2 := g2
          rw [Array.mapM_eq_mapM_toList]
          simp only [Sem.run_map, g2', Result.andThen_ok]
        unfold results
        rw [Sem.run_bind]
        exact congrArg (fun r : Result (Array Value) => r.andThen fun vs w' => (pure (if h : vs.size = 1 then vs[0] else .tuple vs) : Sem Value).run P w') hmap
      · rename_i hne
        have := (some_inv h3).1
        cases this
    · cases hr
  unfold lastC at h
  split at h
  · rename_i e1 st1 hev; exact main _ _ _ hev (.inl rfl) h
  · rename_i e1 st1 hev; exact main _ _ _ hev (.inr rfl) h
  · cases h
theorem Good.calls {f : Nat} {B : Code} (hf : P.funcs[f]? = some fn) (hb : fn.body = some B) (g : Good P fn B .lf ⟨0, .lf⟩) (w : World) (hk : Kept w.heap.size w := by first | assumption | exact fun _ h => absurd h List.not_mem_nil) : Calls P f #[] w fun e w' => e = .returned (.bool true) ∧ Below w.heap.size w w' := by
  refine calls_of_wp hf hb (Code.wp_mono ?_ (g wf_zero w.heap.size (fun _ => none) (fun _ => none) w w _ (env_init (ρ := fun _ => none) (args := []) (vs := []) .nil fn.ntmps) (by simp) rfl (fun n b _ hb => by simp at hb) ⟨Nat.le_refl _, fun n b e => (by cases e), fun n m b b' r r' e => (by cases e), hk⟩ (fun _ _ => rfl) (Below.refl _ _)))
  rintro ex a w' ⟨hx, hd, hr, hbel⟩
  rcases hx with rfl | rfl
  · exact ⟨hd, _, hr, rfl, hbel⟩
  · exact ⟨hd, _, hr, rfl, hbel⟩
/-! ### pieces of a loop: what is left of it is itself, begun in another state -/
def GoodR (P : Program) (fn : Func) (k : Nat) (b rest : Code) (n : Nat) (e : Env) (st : St) : Prop := Wf st → ∀ (B0 : Nat) (ρ : Rho) (τ : Mem) (w0 w : World) (a : Act), EnvRel ρ e a → fn.ntmps ≤ a.tmps.size → a.defers = [] → Agree ⟨false, [], 0, fn.ntmps⟩ st τ → Real ρ B0 τ w → (∀ n, st.nx ≤ n → ρ n = none) → Below B0 w0 w →
  Code.rounds P b (Exit.inBlock k (Exit.then (rest.wp P (Fin P fn B0 w0)) (Fin P fn B0 w0))) n a w
theorem GoodR.enter {k : Nat} {b rest : Code} {n : Nat} {e : Env} {st : St} (g : GoodR P fn k b rest n e st) : Good P fn (.seq (.block k (.loop b)) rest) e st := fun hwf B0 ρ τ w0 w a he ht hd hag hre hfr hb =>
  wp_seq (wp_block (wp_loop_rounds n (g hwf B0 ρ τ w0 w a he ht hd hag hre hfr hb)))
theorem GoodR.gc {k : Nat} {b rest : Code} {n : Nat} {e : Env} {st : St} {keep : List Nat} (g : GoodR P fn k b rest n e (Ev.gc keep st)) : GoodR P fn k b rest n e st := fun hwf B0 ρ τ w0 w a he ht hd hag hre hfr hb =>
  g (fun n hn => by
    cases h : (Ev.gc keep st).h.get n with
    | none => rfl
    | some b => have := gc_sub h; rw [hwf n hn] at this; cases this) B0 ρ τ w0 w a he ht hd (fun n b h1 h2 => hag n b h1 (gc_sub h2)) hre hfr hb
/-- some rounds -/
noncomputable def runR (G : CodeF) (c : Cx) (m : Nat) (b : Code) (e : Env) (st : St) : Option (Env × St) :=
  nr (fun e st => some (e, st)) (fun _ ih e st => match G c b e st with
    | some (.n, e, st) => ih e st
    | _ => none) m e st
noncomputable def stepR (G : CodeF) (c : Cx) (m : Nat) (b : Code) (keep : List Nat) (e : Env) (st : St) : Option (Env × St) := match runR G c m b e st with
  | some (e, st) => some (e, gc keep st)
  | none => none
theorem GoodR.run {G : CodeF} (hG : CodeSound P G) {k : Nat} {b rest : Code} {n : Nat} : ∀ {m : Nat} {e e1 : Env} {st st1 : St}, runR G ⟨false, [], 0, fn.ntmps⟩ m b e st = some (e1, st1) → GoodR P fn k b rest n e1 st1 → GoodR P fn k b rest (n + m) e st
  | 0, e, e1, st, st1, h, g => by
    have h' : (some (e, st) : Option (Env × St)) = some (e1, st1) := h
    injection h' with h'; injection h' with h1 h2; subst h1 h2
    exact g
  | m + 1, e, e1, st, st1, h, g => by
    have h' : (match G ⟨false, [], 0, fn.ntmps⟩ b e st with
      | some (.n, e, st) => runR G ⟨false, [], 0, fn.ntmps⟩ m b e st
      | _ => none) = some (e1, st1) := h
    clear h
    split at h'
    · rename_i e2 st2 hev
      have g2 := GoodR.run hG h' g
      intro hwf B0 ρ τ w0 w a' he ht hd hag hre hfr hb
      obtain ⟨s1, k1⟩ := hG _ _ _ _ _ _ _ hev hwf
      show Code.rounds P b _ ((n + m) + 1) a' w
      rw [rounds_succ]
      refine k1 B0 ρ τ w a' he ht hag hre (fun n h1 _ => hfr n h1) _ ?_
      intro ρ' a2 w2 l d he2 ht2 hd2 m2 b2
      exact g2 (s1.wf hwf) B0 ρ' _ w0 w2 a2 he2 ht2 (hd2.trans hd) (hag.step s1 hwf) m2 (fun n h1 => by
        cases e : ρ' n with
        | none => rfl
        | some r =>
          rcases d n r e with e | e
          · rw [hfr n (Nat.le_trans s1.le h1)] at e; cases e
          · omega) (hb.trans b2)
    · cases h'
theorem GoodR.step {G : CodeF} (hG : CodeSound P G) {k : Nat} {b rest : Code} {n m : Nat} {keep : List Nat} {e e1 : Env} {st st1 : St} (h : stepR G ⟨false, [], 0, fn.ntmps⟩ m b keep e st = some (e1, st1)) (g : GoodR P fn k b rest n e1 st1) : GoodR P fn k b rest (n + m) e st := by
  unfold stepR at h
  split at h
  · rename_i e2 st2 hr
    injection h with h; injection h with h1 h2; subst h1 h2
    exact GoodR.run hG hr g.gc
  · cases h
noncomputable def exitR (G : CodeF) (c : Cx) (k : Nat) (b : Code) (keep : List Nat) (e : Env) (st : St) : Option (Env × St) := match G c (.loop b) e st with
  | some (.ex j, e, st) => (match Nat.beq j k with | true => some (e, gc keep st) | false => none)
  | _ => none
theorem evQ_loop (hn : namesOk P = true) (hm : P.follows .mixedOrders = true) (n : Nat) : LoopSound P (evQ P n) := by
  rw [evQ_eq]
  exact (ev_ok (draw_sound (named_of hn) hm) (named_of hn) n).2
theorem GoodR.exit {G : CodeF} (hL : LoopSound P G) {k : Nat} {b rest : Code} {keep : List Nat} {e e1 : Env} {st st1 : St} (h : exitR G ⟨false, [], 0, fn.ntmps⟩ k b keep e st = some (e1, st1)) (g : Good P fn rest e1 st1) : ∃ n, GoodR P fn k b rest n e st := by
  unfold exitR at h
  split at h
  · rename_i j e2 st2 hev
    split at h
    · rename_i hj
      have hj' : j = k := by simpa [nbeq] using hj
      subst hj'
      injection h with h; injection h with h1 h2; subst h1 h2
      have g2 := g.gc
      by_cases hwf : Wf st
      · obtain ⟨n, s1, k1⟩ := hL _ _ _ _ _ _ _ hev hwf
        refine ⟨n, fun _ B0 ρ τ w0 w a' he ht hd hag hre hfr hb => k1 B0 ρ τ w a' he ht hag hre (fun n h1 _ => hfr n h1) _ ?_⟩
        intro ρ' a2 w2 l d he2 ht2 hd2 m2 b2
        show Exit.inBlock j _ (.exit j) a2 w2
        simp only [Exit.inBlock, if_true]
        exact g2 (s1.wf hwf) B0 ρ' _ w0 w2 a2 he2 ht2 (hd2.trans hd) (hag.step s1 hwf) m2 (fun n h1 => by
          cases e : ρ' n with
          | none => rfl
          | some r =>
            rcases d n r e with e | e
            · rw [hfr n (Nat.le_trans s1.le h1)] at e; cases e
            · omega) (hb.trans b2)
      · exact ⟨0, fun h => absurd h hwf⟩
    · cases h
  · cases h
noncomputable def lbC (B : Code) : Code := match B with | .seq (.block _ (.loop b)) _ => b | _ => .skip
/-- with what came in -/
theorem Good.callsA {f : Nat} {B : Code} {args : List V} {vs : List Value} (hf : P.funcs[f]? = some fn) (hb : fn.body = some B) (ha : RelL (fun _ => none) args vs) (hl : vs.length ≤ fn.ntmps) (g : Good P fn B (sets args 0 .lf) ⟨0, .lf⟩) (w : World) (hk : Kept w.heap.size w := by first | assumption | exact fun _ h => absurd h List.not_mem_nil) : Calls P f ⟨vs⟩ w fun e w' => e = .returned (.bool true) ∧ Below w.heap.size w w' := by
  refine calls_of_wp hf hb (Code.wp_mono ?_ (g wf_zero w.heap.size (fun _ => none) (fun _ => none) w w _ (env_init (ρ := fun _ => none) ha fn.ntmps) (by simp; omega) rfl (fun n b _ hb => by simp at hb) ⟨Nat.le_refl _, fun n b e => (by cases e), fun n m b b' r r' e => (by cases e), hk⟩ (fun _ _ => rfl) (Below.refl _ _)))
  rintro ex a w' ⟨hx, hd, hr, hbel⟩
  rcases hx with rfl | rfl
  · exact ⟨hd, _, hr, rfl, hbel⟩
  · exact ⟨hd, _, hr, rfl, hbel⟩
end
end Go.Proofs.Ytcjddojcfdeflaa.Ev

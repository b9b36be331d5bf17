/-
  PLAIN: EvT, EvU, EvV, Eq, Ch, Cl, Cm, Co, Cn, in one text.
-/
import Derived.Test.YtiifofhigjoegaaGreatDoorEb
import Derived.Orders
namespace Go.Proofs.YtiifofhigjoegaaGreatDoor.Ev
open Go.RowKit

section
variable {P : Program} {call : CallF} {c : Cx} {L : List Oper} {E : Nat → Env} {S : Nat → St} {Vv : Nat → V} {RS : Nat → List (Nat × Nat × Nat)}
/-- what is done -/
structure DoneOk (L : List Oper) (D : Nat → Prop) : Prop where
  lt : ∀ j, D j → j < L.length
  shut : ∀ i j, D i → Nat.testBit (befOf L i) j = true → D j
/-- the memory when D is done -/
structure MemOk (L : List Oper) (S : Nat → St) (τ0 : Mem) (D : Nat → Prop) (m : Nat) (τ : Mem) : Prop where
  le : m ≤ L.length
  c1 : ∀ j, D j → Wr S L.length j → j < m
  c2 : ∀ j, j < m → Wr S L.length j → D j
  t1 : ∀ n, n < (S 0).nx → ((S 0).h.get n = (S m).h.get n → τ n = τ0 n) ∧ ((S 0).h.get n ≠ (S m).h.get n → τ n = (S m).h.get n)
  t2 : ∀ j n, D j → (S j).nx ≤ n → n < (S (j + 1)).nx → τ n = (S (max (j + 1) m)).h.get n
  t3 : ∀ j n, j < L.length → ¬ D j → (S j).nx ≤ n → n < (S (j + 1)).nx → τ n = τ0 n
  t4 : ∀ n, (S L.length).nx ≤ n → τ n = τ0 n
/-- i may come next -/
structure Next (L : List Oper) (D : Nat → Prop) (i : Nat) (o : Oper) : Prop where
  op : L[i]? = some o
  undone : ¬ D i
  bef : ∀ j, Nat.testBit (befOf L i) j = true → D j
theorem Next.lt {D : Nat → Prop} {i : Nat} {o : Oper} (N : Next L D i o) : i < L.length := by
  rcases Nat.lt_or_ge i L.length with h | h
  · exact h
  · have := N.op
    rw [List.getElem?_eq_none h] at this; cases this
/-- who owns a name -/
theorem Run.own (T : Run P call c L E S Vv RS) {n : Nat} : ∀ {i : Nat}, i ≤ L.length → n < (S i).nx → n < (S 0).nx ∨ ∃ j, j < i ∧ (S j).nx ≤ n ∧ n < (S (j + 1)).nx
  | 0, _, h => .inl h
  | i + 1, hi, h => by
    by_cases hn : n < (S i).nx
    · exact (T.own (by omega) hn).imp id fun ⟨j, h1, h2⟩ => ⟨j, by omega, h2⟩
    · exact .inr ⟨i, by omega, by omega, h⟩
theorem Run.own1 (T : Run P call c L E S Vv RS) {n i j : Nat} (hi : i < L.length) (hj : j < L.length) (h1 : (S i).nx ≤ n) (h2 : n < (S (i + 1)).nx) (h3 : (S j).nx ≤ n) (h4 : n < (S (j + 1)).nx) : i = j := by
  rcases Nat.lt_trichotomy i j with h | h | h
  · have := T.nx (i := i + 1) (j := j) (by omega) (by omega); omega
  · exact h
  · have := T.nx (i := j + 1) (j := i) (by omega) (by omega); omega
/-- those that write and are done stand ahead of one that touches; all that stand ahead are done; but for loads of what isn't written -/
theorem Run.split (T : Run P call c L E S Vv RS) {D : Nat → Prop} (hD : DoneOk L D) {i : Nat} {o : Oper} (N : Next L D i o) (ht : touches o.op = true) {j : Nat} (hj : Wr S L.length j) (hji : j ≠ i) : (D j ↔ j < i) ∨
    (∃ q, plainLd o.op = some q ∧ ∀ v m, (E i).get q = some v → blkOf v = some m → m < (S j).nx → (S j).h.get m = (S (j + 1)).h.get m) := by
  have hjl := hj.1
  obtain ⟨h1, _, h2⟩ := T.wr (List.getElem?_eq_getElem hjl) hj
  rcases h2 i o N.op (fun e => hji e.symm) ht with (h | h) | h
  · left
    constructor
    · intro hd; exact absurd (hD.shut j i hd h) N.undone
    · intro hlt
      have := T.fact.lt j i _ (List.getElem?_eq_getElem hjl) h
      omega
  · left
    constructor
    · intro _; exact T.fact.lt i j o N.op h
    · intro _; exact N.bef j h
  · exact .inr h
/-- between the cut and one that touches nothing is written -/
theorem Run.level (T : Run P call c L E S Vv RS) {D : Nat → Prop} (hD : DoneOk L D) {τ0 τ : Mem} {m : Nat} (M : MemOk L S τ0 D m τ) {i : Nat} {o : Oper} (N : Next L D i o) (ht : touches o.op = true) {n a : Nat} (ha : a ≤ i) (hn : n < (S a).nx)
    (hld : ∀ q, plainLd o.op = some q → ∃ v, (E i).get q = some v ∧ blkOf v = some n) :
    (S (max a m)).h.get n = (S i).h.get n := by
  have hi := N.lt
  have hm := M.le
  have hn' : n < (S (max a m)).nx := Nat.lt_of_lt_of_le hn (T.nx (by omega) (by omega))
  by_cases h : max a m ≤ i
  · refine T.same hn' h (by omega) fun j h1 h2 h3 => ?_
    rcases T.split hD N ht h3 (by omega) with hs | ⟨q, k1, k3⟩
    · have := M.c1 j (hs.2 h2) h3
      omega
    · obtain ⟨v', e1, e2⟩ := hld q k1
      exact k3 v' n e1 e2 (Nat.lt_of_lt_of_le hn' (T.nx h1 (by omega)))
  · have hn2 : n < (S i).nx := Nat.lt_of_lt_of_le hn (T.nx ha (by omega))
    refine (T.same hn2 (by omega) (by omega) fun j h1 h2 h3 => ?_).symm
    have hd := M.c2 j (by omega) h3
    have hne : j ≠ i := fun e => N.undone (e ▸ hd)
    rcases T.split hD N ht h3 hne with hs | ⟨q, k1, k3⟩
    · have := hs.1 hd
      omega
    · obtain ⟨v', e1, e2⟩ := hld q k1
      exact k3 v' n e1 e2 (Nat.lt_of_lt_of_le hn2 (T.nx h1 (by omega)))
theorem Run.agree (T : Run P call c L E S Vv RS) {D : Nat → Prop} (hD : DoneOk L D) {τ0 τ : Mem} (hag : Agree c (S 0) τ0) {m : Nat} (M : MemOk L S τ0 D m τ) {i : Nat} {o : Oper} (N : Next L D i o) : Agree (cxOf c L o i (RS i) (S i).nx (E i)) (S i) τ := by
  intro n b hok hb
  have hi := N.lt
  have hlt : n < (S i).nx := by
    rcases Nat.lt_or_ge n (S i).nx with h | h
    · exact h
    · rw [T.wf i (by omega) n h] at hb; cases hb
  obtain ⟨h1, h2, h3, hld⟩ := T.ok (by omega) hlt hok
  rcases T.own (by omega) hlt with h | ⟨j, h4, h5, h6⟩
  · have e : (S m).h.get n = (S i).h.get n := by
      have := T.level hD M N h1 (Nat.zero_le i) h hld
      rwa [Nat.zero_max] at this
    have ht := M.t1 n h
    by_cases he : (S 0).h.get n = (S m).h.get n
    · rw [ht.1 he]
      exact hag n b h2 (by rw [he, e, hb])
    · rw [ht.2 he, e, hb]
  · rw [M.t2 j n (N.bef j (h3 j h4 h5 h6)) h5 h6, T.level hD M N h1 (by omega) h6 hld, hb]
/-- nothing older turns where nothing is touched -/
theorem Run.keeps (T : Run P call c L E S Vv RS) {i : Nat} (hi : i < L.length) (hw : ¬ Wr S L.length i) {n : Nat} (h : ¬ ((S i).nx ≤ n ∧ n < (S (i + 1)).nx)) : (S i).h.get n = (S (i + 1)).h.get n := by
  by_cases hn : n < (S i).nx
  · by_cases e : (S i).h.get n = (S (i + 1)).h.get n
    · exact e
    · exact absurd ⟨hi, n, hn, e⟩ hw
  · rw [T.wf i (by omega) n (by omega), T.wf (i + 1) (by omega) n (by omega)]
theorem ov_in {st st' : St} {τ : Mem} {n : Nat} (h1 : st.nx ≤ n) (h2 : n < st'.nx) : ov st st' τ n = st'.h.get n := by
  unfold ov; rw [if_pos ⟨h1, h2⟩]
theorem ov_keep {st st' : St} {τ : Mem} {n : Nat} (h : ¬ (st.nx ≤ n ∧ n < st'.nx)) (e : st.h.get n = st'.h.get n) : ov st st' τ n = τ n := by
  unfold ov; rw [if_neg h, if_pos e]
theorem ov_turn {st st' : St} {τ : Mem} {n : Nat} (h : ¬ (st.nx ≤ n ∧ n < st'.nx)) (e : st.h.get n ≠ st'.h.get n) : ov st st' τ n = st'.h.get n := by
  unfold ov; rw [if_neg h, if_neg e]
theorem DoneOk.step {D : Nat → Prop} (hD : DoneOk L D) {i : Nat} {o : Oper} (N : Next L D i o) : DoneOk L (fun j => D j ∨ j = i) :=
  ⟨fun j h => h.elim (hD.lt j) fun e => e ▸ N.lt, fun x j h hb => h.elim (fun h => .inl (hD.shut x j h hb)) fun e => .inl (N.bef j (e ▸ hb))⟩
/-- a step that writes nothing older -/
theorem Run.calm (T : Run P call c L E S Vv RS) {D : Nat → Prop} (hD : DoneOk L D) {τ0 τ : Mem} {m : Nat} (M : MemOk L S τ0 D m τ) {i : Nat} {o : Oper} (N : Next L D i o) (hw : ¬ Wr S L.length i) :
    MemOk L S τ0 (fun j => D j ∨ j = i) m (ov (S i) (S (i + 1)) τ) := by
  have hi := N.lt
  have hm := M.le
  have keep : ∀ n, ¬ ((S i).nx ≤ n ∧ n < (S (i + 1)).nx) → ov (S i) (S (i + 1)) τ n = τ n := fun n h => ov_keep h (T.keeps hi hw h)
  have n1 := T.nx (i := 0) (j := i) (by omega) (by omega)
  have n2 := T.nx (i := i + 1) (j := L.length) (by omega) (by omega)
  refine ⟨hm, fun j h h2 => ?_, fun j h h2 => .inl (M.c2 j h h2), fun n h => ?_, fun j n h h1 h2 => ?_, fun j n h h0 h1 h2 => ?_, fun n h => ?_⟩
  · rcases h with h | h
    · exact M.c1 j h h2
    · subst h; exact absurd h2 hw
  · rw [keep n (by omega)]; exact M.t1 n h
  · by_cases hji : j = i
    · subst hji
      rw [ov_in h1 h2]
      by_cases hm2 : m ≤ j + 1
      · rw [Nat.max_eq_left hm2]
      · rw [Nat.max_eq_right (by omega)]
        refine T.same h2 (by omega) hm fun x k1 k2 k3 => ?_
        by_cases e : (S x).h.get n = (S (x + 1)).h.get n
        · exact e
        · exfalso
          have hx : n < (S x).nx := Nat.lt_of_lt_of_le h2 (T.nx k1 (by omega))
          have hs := (T.stepOk (List.getElem?_eq_getElem (by omega)) (T.wf x (by omega))).chg n hx e
          have hok := (T.ok (by omega) hx hs.1).2.2.1 j (by omega) h1 h2
          exact N.undone (hD.shut x j (M.c2 x k2 k3) hok)
    · have hd : D j := h.resolve_right hji
      rw [keep n fun hh => hji (T.own1 (hD.lt j hd) hi h1 h2 hh.1 hh.2)]
      exact M.t2 j n hd h1 h2
  · rw [keep n fun hh => h0 (.inr (T.own1 h hi h1 h2 hh.1 hh.2))]
    exact M.t3 j n h (fun hd => h0 (.inl hd)) h1 h2
  · rw [keep n (by omega)]; exact M.t4 n h
/-- a step that writes -/
theorem Run.turn (T : Run P call c L E S Vv RS) {D : Nat → Prop} (hD : DoneOk L D) {τ0 τ : Mem} (hag : Agree c (S 0) τ0) {m : Nat} (M : MemOk L S τ0 D m τ) {i : Nat} {o : Oper} (N : Next L D i o) (hw : Wr S L.length i) :
    MemOk L S τ0 (fun j => D j ∨ j = i) (i + 1) (ov (S i) (S (i + 1)) τ) := by
  have hi := N.lt
  have hm := M.le
  have ht := (T.wr N.op hw).1
  have hpl : ∀ n q, plainLd o.op = some q → ∃ v, (E i).get q = some v ∧ blkOf v = some n := fun n q h => by rw [(T.wr N.op hw).2.1] at h; cases h
  have spl : ∀ j, Wr S L.length j → j ≠ i → (D j ↔ j < i) := fun j h1 h2 => (T.split hD N ht h1 h2).resolve_right fun ⟨q, k, _⟩ => by rw [(T.wr N.op hw).2.1] at k; cases k
  have hst := T.stepOk N.op (T.wf i (by omega))
  have n1 := T.nx (i := 0) (j := i) (by omega) (by omega)
  have n2 := T.nx (i := i + 1) (j := L.length) (by omega) (by omega)
  have late : ∀ n, (S (i + 1)).nx ≤ n → (S i).h.get n = (S (i + 1)).h.get n := fun n h => by
    rw [T.wf i (by omega) n (Nat.le_trans hst.le h), T.wf (i + 1) (by omega) n h]
  refine ⟨by omega, fun j h h2 => ?_, fun j h h2 => ?_, fun n h => ?_, fun j n h h1 h2 => ?_, fun j n h h0 h1 h2 => ?_, fun n h => ?_⟩
  · rcases h with h | h
    · have hne : j ≠ i := fun e => N.undone (e ▸ h)
      have := (spl j h2 hne).1 h
      omega
    · omega
  · by_cases hji : j = i
    · exact .inr hji
    · exact .inl ((spl j h2 hji).2 (by omega))
  · have hlt : n < (S i).nx := by omega
    have hno : ¬ ((S i).nx ≤ n ∧ n < (S (i + 1)).nx) := by omega
    have lv := T.level hD M N ht (Nat.zero_le i) h (hpl n)
    rw [Nat.zero_max] at lv
    have t1 := M.t1 n h
    by_cases e : (S i).h.get n = (S (i + 1)).h.get n
    · rw [ov_keep hno e, ← e, ← lv]; exact t1
    · rw [ov_turn hno e]
      refine ⟨fun e0 => ?_, fun _ => rfl⟩
      obtain ⟨k1, k2, k3, k4⟩ := hst.chg n hlt e
      have hok := (T.ok (by omega) hlt k1).2.1
      cases hg : (S (i + 1)).h.get n with
      | none => exact absurd hg k3
      | some b => exact (hag n b hok (e0.trans hg)).symm
  · by_cases hji : j = i
    · subst hji
      rw [ov_in h1 h2, Nat.max_self]
    · have hd : D j := h.resolve_right hji
      have hjl := hD.lt j hd
      have hno : ¬ ((S i).nx ≤ n ∧ n < (S (i + 1)).nx) := fun hh => hji (T.own1 hjl hi h1 h2 hh.1 hh.2)
      have t2 := M.t2 j n hd h1 h2
      rcases Nat.lt_or_gt_of_ne hji with hlt | hgt
      · rw [T.level hD M N ht (by omega) h2 (hpl n)] at t2
        rw [Nat.max_eq_right (by omega)]
        by_cases e : (S i).h.get n = (S (i + 1)).h.get n
        · rw [ov_keep hno e, t2, e]
        · rw [ov_turn hno e]
      · have n3 := T.nx (i := i + 1) (j := j) (by omega) (by omega)
        rw [ov_keep hno (late n (by omega)), t2, Nat.max_eq_left (by omega : i + 1 ≤ j + 1)]
        by_cases hm2 : m ≤ j + 1
        · rw [Nat.max_eq_left hm2]
        · rw [Nat.max_eq_right (by omega)]
          refine (T.same h2 (by omega) hm fun x k1 k2 k3 => ?_).symm
          have hx := M.c2 x k2 k3
          have := (spl x k3 (by omega)).1 hx
          omega
  · have hji : j ≠ i := fun e => h0 (.inr e)
    have hno : ¬ ((S i).nx ≤ n ∧ n < (S (i + 1)).nx) := fun hh => hji (T.own1 h hi h1 h2 hh.1 hh.2)
    have t3 := M.t3 j n h (fun hd => h0 (.inl hd)) h1 h2
    rcases Nat.lt_or_gt_of_ne hji with hlt | hgt
    · have n3 := T.nx (i := j + 1) (j := i) (by omega) (by omega)
      by_cases e : (S i).h.get n = (S (i + 1)).h.get n
      · rw [ov_keep hno e, t3]
      · obtain ⟨k1, _⟩ := hst.chg n (by omega) e
        exact absurd (.inl (N.bef j ((T.ok (by omega) (by omega) k1).2.2.1 j hlt h1 h2))) h0
    · have n3 := T.nx (i := i + 1) (j := j) (by omega) (by omega)
      rw [ov_keep hno (late n (by omega)), t3]
  · rw [ov_keep (by omega) (late n (by omega))]; exact M.t4 n h
theorem Run.next (T : Run P call c L E S Vv RS) {D : Nat → Prop} (hD : DoneOk L D) {τ0 τ : Mem} (hag : Agree c (S 0) τ0) {m : Nat} (M : MemOk L S τ0 D m τ) {i : Nat} {o : Oper} (N : Next L D i o) :
    ∃ m', MemOk L S τ0 (fun j => D j ∨ j = i) m' (ov (S i) (S (i + 1)) τ) := by
  by_cases hw : Wr S L.length i
  · exact ⟨_, T.turn hD hag M N hw⟩
  · exact ⟨_, T.calm hD M N hw⟩
/-- all done -/
theorem Run.done (T : Run P call c L E S Vv RS) {D : Nat → Prop} (hD : ∀ j, j < L.length → D j) {τ0 τ : Mem} {m : Nat} (M : MemOk L S τ0 D m τ) : τ = ov (S 0) (S L.length) τ0 := by
  have hm := M.le
  have top : ∀ n a, n < (S a).nx → a ≤ L.length → (S (max a m)).h.get n = (S L.length).h.get n := fun n a hn ha =>
    T.same (Nat.lt_of_lt_of_le hn (T.nx (by omega) (by omega))) (by omega) (Nat.le_refl _) fun j h1 h2 h3 => by
      have := M.c1 j (hD j h2) h3
      omega
  symm
  apply ov_eq
  · intro n h1 h2
    rcases T.own (Nat.le_refl _) h2 with h | ⟨j, h3, h4, h5⟩
    · omega
    · rw [M.t2 j n (hD j h3) h4 h5, top n _ h5 (by omega)]
  · intro n h1 e
    by_cases h : n < (S 0).nx
    · have := top n 0 h (by omega)
      rw [Nat.zero_max] at this
      rw [(M.t1 n h).2 (by rw [this]; exact e), this]
    · rw [M.t4 n (by omega), T.wf _ (Nat.le_refl _) n (by omega)]
      exact absurd (by rw [T.wf 0 (by omega) n (by omega), T.wf _ (Nat.le_refl _) n (by omega)]) e
  · intro n h1 e
    by_cases h : n < (S 0).nx
    · have := top n 0 h (by omega)
      rw [Nat.zero_max] at this
      exact (M.t1 n h).1 (by rw [this]; exact e)
    · exact M.t4 n (by omega)
theorem MemOk.zero {τ0 : Mem} : MemOk L S τ0 (fun _ => False) 0 τ0 :=
  ⟨Nat.zero_le _, fun _ h => h.elim, fun _ h => by omega, fun _ _ => ⟨fun _ => rfl, fun h => absurd rfl h⟩, fun _ _ h => h.elim, fun _ _ _ _ _ _ => rfl, fun _ _ => rfl⟩
end
end Go.Proofs.YtiifofhigjoegaaGreatDoor.Ev
namespace Go.Proofs.YtiifofhigjoegaaGreatDoor.Ev
open Go.RowKit

theorem looks_tmp {L : List Oper} {o : Oper} {t : Nat} (h : Operand.tmp t ∈ o.op.operands.toList) : t ∈ looks L o := by
  unfold looks
  refine List.mem_append_left _ ?_
  revert h
  generalize o.op.operands.toList = l
  intro h
  induction l with
  | nil => cases h
  | cons x l ih =>
    rw [lr_cons]
    rcases List.mem_cons.1 h with e | h
    · subst e; exact List.mem_cons_self
    · have := ih h
      cases x <;> first | exact List.mem_cons_of_mem _ this | exact this
theorem looks_guard {L : List Oper} {o oj : Oper} {t j : Nat} {w : Bool} (hg : o.guard = some (j, w)) (hj : L[j]? = some oj) (hd : oj.dst = some t) : t ∈ looks L o := by
  unfold looks
  refine List.mem_append_right _ ?_
  rw [hg]
  simp only [lget_eq, hj, hd]
  exact List.mem_singleton.2 rfl
def undone (listed : Array Bool) : Nat := listed.count false
theorem undone_set {listed : Array Bool} {i : Nat} (hi : i < listed.size) (h : listed.getD i true = false) : undone (listed.setIfInBounds i true) + 1 = undone listed := by
  have hl : listed[i] = false := by simpa [Array.getD, hi] using h
  unfold undone
  have hpos : 0 < listed.count false := Array.count_pos_iff.2 (hl ▸ Array.getElem_mem hi)
  rw [Array.setIfInBounds, dif_pos hi, Array.count_set hi]
  simp [hl]
  omega
section
variable {P : Program} {call : CallF} {c : Cx} {ops : Array Oper} {E : Nat → Env} {S : Nat → St} {Vv : Nat → V} {RS : Nat → List (Nat × Nat × Nat)}
/-- the slots when D is done -/
structure TmpOk (L : List Oper) (E : Nat → Env) (Vv : Nat → V) (D : Nat → Prop) (ρ : Rho) (a : Act) : Prop where
  x1 : ∀ (j : Nat) (o : Oper) (t : Nat), D j → L[j]? = some o → o.dst = some t → Rel ρ (Vv j) (a.tmps.getD t undef)
  x2 : ∀ t : Nat, (∀ (j : Nat) (o : Oper), D j → L[j]? = some o → o.dst ≠ some t) → Rel ρ (((E 0).get t).getD .u) (a.tmps.getD t undef)
theorem TmpOk.put {L : List Oper} {D : Nat → Prop} {ρ ρ' : Rho} {a : Act} (X : TmpOk L E Vv D ρ a) (hf : RegFacts L) (hρ : ρ.le ρ') {i : Nat} {o : Oper} (ho : L[i]? = some o) {v : Value} (hv : Rel ρ' (Vv i) v) (hd : ∀ u, o.dst = some u → u < a.tmps.size) :
    TmpOk L E Vv (fun j => D j ∨ j = i) ρ' (a.put o.dst v) := by
  refine ⟨fun j o' t h ho' hd' => ?_, fun t h => ?_⟩
  · rw [put_tmps _ _ _ _ hd]
    by_cases hji : j = i
    · subst hji
      rw [ho] at ho'; injection ho' with ho'; subst ho'
      rw [if_pos hd']; exact hv
    · rw [if_neg (hf.uniq j i o' o t ho' ho hji hd')]
      exact (X.x1 j o' t (h.resolve_right hji) ho' hd').mono hρ
  · rw [put_tmps _ _ _ _ hd, if_neg (h i o (.inr rfl) ho)]
    exact (X.x2 t fun j o' hj => h j o' (.inl hj)).mono hρ
theorem TmpOk.look {L : List Oper} {D : Nat → Prop} {ρ : Rho} {a : Act} (X : TmpOk L E Vv D ρ a) (T : Run P call c L E S Vv RS) (hD : DoneOk L D) {i : Nat} {o : Oper} (N : Next L D i o) {t : Nat} (ht : t ∈ looks L o) : Rel ρ (((E i).get t).getD .u) (a.tmps.getD t undef) := by
  have hi := N.lt
  obtain ⟨s1, s2⟩ := T.slot i (by omega)
  by_cases h : ∃ (j : Nat) (o' : Oper), L[j]? = some o' ∧ o'.dst = some t
  · obtain ⟨j, o', h1, h2⟩ := h
    have one : ∀ (k : Nat) (o2 : Oper), L[k]? = some o2 → o2.dst = some t → k = j := fun k o2 k1 k2 => by
      by_cases e : k = j
      · exact e
      · exact absurd h2 (T.fact.uniq k j o2 o' t k1 h1 e k2)
    rcases T.fact.look i j o o' t N.op h1 h2 ht with hb | hb
    · rw [s1 j o' t (T.fact.lt i j o N.op hb) h1 h2, Option.getD_some]
      exact X.x1 j o' t (N.bef j hb) h1 h2
    · have hlt := T.fact.lt j i o' h1 hb
      rw [s2 t fun k o2 hk k1 k2 => by have := one k o2 k1 k2; omega]
      exact X.x2 t fun k o2 hk k1 k2 => by
        have := one k o2 k1 k2
        subst this
        exact N.undone (hD.shut _ _ hk hb)
  · have hn : ∀ (j : Nat) (o' : Oper), L[j]? = some o' → o'.dst ≠ some t := fun j o' h1 h2 => h ⟨j, o', h1, h2⟩
    rw [s2 t fun j o' _ => hn j o']
    exact X.x2 t fun j o' _ => hn j o'
def Listed (listed : Array Bool) (j : Nat) : Prop := listed.getD j false = true
theorem listed_set {listed : Array Bool} {i : Nat} (hi : i < listed.size) (j : Nat) : Listed (listed.setIfInBounds i true) j ↔ (Listed listed j ∨ j = i) := by
  unfold Listed
  constructor
  · intro h
    by_cases hji : j = i
    · exact .inr hji
    · rw [getD_set_ne false (fun e => hji e.symm)] at h; exact .inl h
  · rintro (h | h)
    · exact getD_set_true h
    · subst h; simp [Array.getD, hi]
theorem MemOk.congr {L : List Oper} {τ0 τ : Mem} {D D' : Nat → Prop} {m : Nat} (h : MemOk L S τ0 D m τ) (e : ∀ j, D' j ↔ D j) : MemOk L S τ0 D' m τ := by
  have : D' = D := funext fun j => propext (e j)
  rw [this]; exact h
theorem TmpOk.congr {L : List Oper} {D D' : Nat → Prop} {ρ : Rho} {a : Act} (h : TmpOk L E Vv D ρ a) (e : ∀ j, D' j ↔ D j) : TmpOk L E Vv D' ρ a := by
  have : D' = D := funext fun j => propext (e j)
  rw [this]; exact h
theorem DoneOk.congr {L : List Oper} {D D' : Nat → Prop} (h : DoneOk L D) (e : ∀ j, D' j ↔ D j) : DoneOk L D' := by
  have : D' = D := funext fun j => propext (e j)
  rw [this]; exact h
/-- every order -/
theorem Run.any (T : Run P call c ops.toList E S Vv RS) {B0 : Nat} {ρ0 : Rho} {τ0 : Mem} {w0 : World} {a0 : Act} (hag : Agree c (S 0) τ0) (hfr : Fresh ρ0 (S 0) (S ops.toList.length)) (hnt : ∀ (i : Nat) (o : Oper) (t : Nat), ops.toList[i]? = some o → o.dst = some t → t < c.nt)
    {Q : Exit → Act → World → Prop} (hQ : Cont c (S 0) (S ops.toList.length) (E ops.toList.length) B0 ρ0 τ0 w0 a0 (Q .normal)) : ∀ (fuel : Nat) (listed : Array Bool) (ρ : Rho) (τ : Mem) (w : World) (a : Act) (m : Nat), listed.size = ops.size → undone listed = fuel →
    DoneOk ops.toList (Listed listed) → MemOk ops.toList S τ0 (Listed listed) m τ → TmpOk ops.toList E Vv (Listed listed) ρ a → ρ0.le ρ → (∀ n r, ρ n = some r → ρ0 n = some r ∨ ∃ j, Listed listed j ∧ (S j).nx ≤ n ∧ n < (S (j + 1)).nx) →
    c.nt ≤ a.tmps.size → a.defers = a0.defers → Real ρ B0 τ w → Below B0 w0 w → wpAny P .any ops Q fuel listed a w := by
  have nxt : ∀ (listed : Array Bool) (i : Nat), listed.size = ops.size → DoneOk ops.toList (Listed listed) → i ∈ Region.ready .any ops listed → ∃ o, ops[i]? = some o ∧ Next ops.toList (Listed listed) i o ∧ i < listed.size ∧ listed.getD i true = false := by
    intro listed i hsz hD hi
    obtain ⟨h1, o, h2, h3⟩ := mem_ready.1 hi
    have hlt : i < ops.size := by
      rcases Nat.lt_or_ge i ops.size with h | h
      · exact h
      · rw [Array.getElem?_eq_none h] at h2; cases h2
    have ho : ops.toList[i]? = some o := by simpa using h2
    refine ⟨o, h2, ⟨ho, fun hd => ?_, fun j hb => ?_⟩, by omega, h1⟩
    · unfold Listed at hd
      simp [Array.getD, hsz, hlt] at h1 hd
      rw [h1] at hd; cases hd
    · obtain ⟨x, k1, k2, k3⟩ := (befOf_bit ho (T.fact.edge i o ho) j).1 hb
      have hx : Listed listed x.on := h3 x (by simpa using k1) k2
      rcases k3 with rfl | k3
      · exact hx
      · exact hD.shut _ _ hx k3
  have fin : ∀ (listed : Array Bool) (ρ : Rho) (τ : Mem) (w : World) (a : Act) (m : Nat), MemOk ops.toList S τ0 (Listed listed) m τ → TmpOk ops.toList E Vv (Listed listed) ρ a → ρ0.le ρ → (∀ n r, ρ n = some r → ρ0 n = some r ∨ ∃ j, Listed listed j ∧ (S j).nx ≤ n ∧ n < (S (j + 1)).nx) →
      c.nt ≤ a.tmps.size → a.defers = a0.defers → Real ρ B0 τ w → Below B0 w0 w → DoneOk ops.toList (Listed listed) → (∀ j, j < ops.toList.length → Listed listed j) → Q .normal a w := by
    intro listed ρ τ w a m M X l d ht hdf hre hb hD hall
    have hdm : Dom ρ0 ρ (S 0) (S ops.toList.length) := fun n r e => by
      rcases d n r e with h | ⟨j, h1, h2, h3⟩
      · exact .inl h
      · have hj := hD.lt j h1
        have := T.nx (i := 0) (j := j) (by omega) (by omega)
        have := T.nx (i := j + 1) (j := ops.toList.length) (by omega) (by omega)
        exact .inr (by omega)
    refine hQ ρ a w l hdm (fun t => ?_) ht hdf ?_ hb
    · obtain ⟨s1, s2⟩ := T.slot ops.toList.length (Nat.le_refl _)
      by_cases h : ∃ (j : Nat) (o' : Oper), ops.toList[j]? = some o' ∧ o'.dst = some t
      · obtain ⟨j, o', h1, h2⟩ := h
        have hj : j < ops.toList.length := by
          rcases Nat.lt_or_ge j ops.toList.length with h | h
          · exact h
          · rw [List.getElem?_eq_none h] at h1; cases h1
        rw [s1 j o' t hj h1 h2, Option.getD_some]
        exact X.x1 j o' t (hall j hj) h1 h2
      · have hn : ∀ (j : Nat) (o' : Oper), ops.toList[j]? = some o' → o'.dst ≠ some t := fun j o' h1 h2 => h ⟨j, o', h1, h2⟩
        rw [s2 t fun j o' _ => hn j o']
        exact X.x2 t fun j o' _ => hn j o'
    · rw [← T.done hall M]; exact hre
  have stuck : ∀ (listed : Array Bool), listed.size = ops.size → Region.ready .any ops listed = [] → ∀ j, j < ops.toList.length → Listed listed j := by
    intro listed hsz hr j
    induction j using Nat.strongRecOn with
    | _ j ih =>
      intro hj
      cases hb : listed.getD j false with
      | true => exact hb
      | false =>
        exfalso
        have hj' : j < ops.size := by simpa using hj
        have hmem : j ∈ Region.ready .any ops listed := mem_ready.2 ⟨by
          simp [Array.getD, hsz, hj'] at hb ⊢; exact hb, ops[j], Array.getElem?_eq_getElem hj', fun x hx hbx => by
          have := T.fact.edge j ops[j] (by simp [hj']) x (by simpa using hx) hbx
          exact ih x.on this (by omega)⟩
        rw [hr] at hmem; cases hmem
  intro fuel
  induction fuel with
  | zero =>
    intro listed ρ τ w a m hsz hu hD M X l d ht hdf hre hb
    have hr : Region.ready .any ops listed = [] := by
      rw [List.eq_nil_iff_forall_not_mem]
      intro i hi
      obtain ⟨o, _, _, h1, h2⟩ := nxt listed i hsz hD hi
      have := undone_set h1 h2
      omega
    exact ⟨hr, fin listed ρ τ w a m M X l d ht hdf hre hb hD (stuck listed hsz hr)⟩
  | succ fuel ih =>
    intro listed ρ τ w a m hsz hu hD M X l d ht hdf hre hb
    refine ⟨fun hr => fin listed ρ τ w a m M X l d ht hdf hre hb hD (stuck listed hsz hr), fun i hi => ?_⟩
    obtain ⟨o, ho, N, h1, h2⟩ := nxt listed i hsz hD hi
    have hil := N.lt
    have hwfi := T.wf i (by omega)
    have hun := undone_set h1 h2
    have hdt : ∀ u, o.dst = some u → u < a.tmps.size := fun u hu => Nat.lt_of_lt_of_le (hnt i o u N.op hu) ht
    obtain ⟨m', M'⟩ := T.next hD hag M N
    have look : ∀ t, t ∈ looks ops.toList o → Rel ρ (((E i).get t).getD .u) (a.tmps.getD t undef) := fun t h => X.look T hD N h
    have hwt : Region.wanted o (yielded ops a.tmps) = wants (E i) ops.toList o := wants_eq fun j w' oj t hg hj hd => look t (looks_guard hg (by simpa using hj) hd)
    have hdom : ∀ (ρ' : Rho), Dom ρ ρ' (S i) (S (i + 1)) → ∀ n r, ρ' n = some r → ρ0 n = some r ∨ ∃ j, Listed (listed.setIfInBounds i true) j ∧ (S j).nx ≤ n ∧ n < (S (j + 1)).nx := by
      intro ρ' hd n r e
      rcases hd n r e with e | e
      · exact (d n r e).imp id fun ⟨j, k1, k2⟩ => ⟨j, (listed_set h1 j).2 (.inl k1), k2⟩
      · exact .inr ⟨i, (listed_set h1 i).2 (.inr rfl), e⟩
    have go : ∀ (ρ' : Rho) (v' : Value) (w' : World), ρ.le ρ' → Dom ρ ρ' (S i) (S (i + 1)) → Rel ρ' (Vv i) v' → Real ρ' B0 (ov (S i) (S (i + 1)) τ) w' → Below B0 w w' → wpAny P .any ops Q fuel (listed.setIfInBounds i true) (a.put o.dst v') w' := by
      intro ρ' v' w' q1 q2 q3 q4 q5
      exact ih _ ρ' _ w' _ m' (by simpa using hsz) (by omega) ((hD.step N).congr (listed_set h1)) (M'.congr (listed_set h1)) ((X.put T.fact q1 N.op q3 hdt).congr (listed_set h1)) (l.trans q1) (hdom ρ' q2) (by rw [put_size]; exact ht) ((put_defers _ _ _).trans hdf) q4 (hb.trans q5)
    unfold wpOp
    rw [ho]
    simp only [hwt]
    obtain ⟨hst, _⟩ := T.step i o N.op
    rcases hst with ⟨k1, _⟩ | ⟨k1, k2, k3⟩
    · rw [k1, if_pos rfl]
      obtain ⟨_, hop⟩ := T.op i o N.op hwfi k1
      refine .inl (hop B0 ρ τ w a (fun x hx t ht' => look t (looks_tmp (ht' ▸ hx))) (T.agree hD hag M N) hre (fun n n1 n2 => ?_) _ Q go)
      cases e : ρ n with
      | none => rfl
      | some r =>
        exfalso
        have n3 := T.nx (i := 0) (j := i) (by omega) (by omega)
        have n4 := T.nx (i := i + 1) (j := ops.toList.length) (by omega) (by omega)
        rcases d n r e with e | ⟨j, e1, e2, e3⟩
        · rw [hfr n (by omega) (by omega)] at e; cases e
        · exact N.undone (T.own1 (hD.lt j e1) hil e2 e3 n1 n2 ▸ e1)
    · rw [k1, if_neg (by simp)]
      refine go ρ undef w (Rho.le_refl _) (Dom.refl _ _ _) (by rw [k2]; exact rel_u) ?_ (Below.refl _ _)
      rw [k3, ov_self]; exact hre
/-- regions that draw -/
theorem draw_sound (hn : Named P) (hm : P.follows .mixedOrders = true) : DrawSound P := by
  intro call hs hb c ops id e e' st st' hok h hwf
  obtain ⟨E, S, Vv, RS, h1, h2, h3, h4, h5, h6⟩ := trace_of h
  simp only [Nat.zero_add] at h4 h5 h6
  have T : Run P call c ops.toList E S Vv RS := ⟨regOk_facts hok, h6, h3, h2 ▸ hwf, fun i o ho hw hwt => by
    obtain ⟨k, _⟩ := h6 i o ho
    rcases k with ⟨_, k⟩ | ⟨k, _⟩
    · exact evOp_ok hs hn hb hw k
    · rw [hwt] at k; cases k⟩
  subst h1 h2 h4 h5
  refine ⟨T.all _ (Nat.le_refl _), fun B0 ρ τ w a he ht hag hre hfr Q hQ => wp_region_any hm ?_⟩
  have zero : ∀ j, Listed (Array.replicate ops.size false) j ↔ False := fun j => by
    unfold Listed
    simp [Array.getD]
  refine T.any hag hfr (fun i o t ho hd => (h6 i o ho).2.2.1 t hd) hQ ops.size _ ρ τ _ a 0 (by simp) (by unfold undone; simp) ⟨fun j hj => ((zero j).1 hj).elim, fun i j hi => ((zero i).1 hi).elim⟩ (MemOk.zero.congr zero) ⟨fun j o t hj => ((zero j).1 hj).elim, fun t h => he t⟩ (Rho.le_refl _) (fun n r e => .inl e) ht rfl (hre.same rfl) (Below.refl _ _).drew
end
end Go.Proofs.YtiifofhigjoegaaGreatDoor.Ev
namespace Go.Proofs.YtiifofhigjoegaaGreatDoor.Ev
open Go.RowKit

noncomputable def namesOk (P : Program) : Bool := P.funcs.toList.all fun fn => !(fn.name == "runtime.NumGoroutine")
theorem named_of {P : Program} (h : namesOk P = true) : Named P := fun f fn hf e => by
  have h1 := List.all_eq_true.1 h fn (by
    have : P.funcs.toList[f]? = some fn := by simpa using hf
    exact List.mem_of_getElem? this)
  rw [e] at h1
  simp at h1
theorem wf_zero : Wf ⟨0, .lf⟩ := fun n _ => by simp
theorem yes_ok {P : Program} (hn : namesOk P = true) (hm : P.follows .mixedOrders = true) {fuel f : Nat} (h : yes P fuel f = true) (w : World) :
    Calls P f #[] w fun e w' => e = .returned (.bool true) ∧ Below w.heap.size w w' := by
  have hN := named_of hn
  have hcs := callOf_sound ((ev_ok (draw_sound hN hm) hN fuel).1)
  unfold yes run at h
  split at h
  · rename_i b st' hr
    obtain ⟨_, k⟩ := hcs _ _ _ _ _ _ hr wf_zero
    have hh := k w.heap.size (fun _ => none) (fun _ => none) w [] .nil (fun n b _ hb => by simp at hb) ⟨Nat.le_refl _, fun n b e => (by cases e), fun n m b b' r r' e => (by cases e)⟩ (fun n _ _ => rfl)
      (fun e w' => e = .returned (.bool true) ∧ Below w.heap.size w w') (fun ρ' v' w' _ _ hv _ hb => by
        simp only [Rel] at hv
        exact ⟨by rw [hv.1], hb⟩)
    exact hh
  · cases h
end Go.Proofs.YtiifofhigjoegaaGreatDoor.Ev
namespace Go.Proofs.YtiifofhigjoegaaGreatDoor.Ev
open Go.RowKit

abbrev Alt := TypeId → Program → CallF → Cx → Env → St → Res
noncomputable def q_none : Alt := fun _ _ _ _ _ _ => none
noncomputable def cV (v : Value) : Option V := ofV v some
noncomputable def qT {β : Type} (k : V → Option β) (o : Option V) : Option β := Option.rec (motive := fun _ => Option β) (k .u) k o
noncomputable def qO {β : Type} (k : V → Option β) (o : Option V) : Option β := Option.rec (motive := fun _ => Option β) none k o
noncomputable def qd {β : Type} (e : Env) (k : V → Option β) (x : Operand) : Option β := Operand.rec (motive := fun _ => Option β) (fun t => qT k (T.getP (pth t) e)) (fun v => qO k (cV v)) (fun _ => none) (fun f => k (.f (.func f) [] [])) x
/-! values -/
noncomputable def vC {R : Type} (f : Value → R) (d : R) (v : V) : R := V.casesOn (motive_1 := fun _ => R) v f (fun _ => d) (fun _ _ => d) (fun _ _ _ _ => d) (fun _ _ _ _ => d) d (fun _ => d) (fun _ _ _ => d) (fun _ => d) (fun _ => d)
noncomputable def vI {R : Type} (f : IntKind → Int → R) (d : R) (v : Value) : R := Value.casesOn (motive_1 := fun _ => R) v (fun _ => d) f (fun _ _ => d) (fun _ _ _ => d) (fun _ => d) (fun _ => d) (fun _ _ _ => d) (fun _ => d) (fun _ => d) (fun _ _ _ => d) d (fun _ _ => d) d (fun _ => d) (fun _ => d)
noncomputable def qB (st : St) (b : Bool) : Res := Bool.rec (motive := fun _ => Res) (some (.bool false, st)) (some (.bool true, st)) b
noncomputable def qI (st : St) (k : IntKind) (n : Int) : Res := fi n fun n => some (.int k n, st)
noncomputable def kN (k : IntKind) : Nat := IntKind.rec (motive := fun _ => Nat) 0 1 2 3 4 5 6 7 k
abbrev Bo := IntKind → Int → Int → St → Res → Res
noncomputable def b_add : Bo := fun k a b st _ => qI st k (wr k (Int.add a b))
noncomputable def b_sub : Bo := fun k a b st _ => qI st k (wr k (Int.sub a b))
noncomputable def b_mul : Bo := fun k a b st _ => qI st k (wr k (Int.mul a b))
noncomputable def b_eql : Bo := fun _ a b st _ => qB st (eqI a b)
noncomputable def b_neq : Bo := fun _ a b st _ => qB st (!eqI a b)
noncomputable def b_lss : Bo := fun _ a b st _ => qB st (ltI a b)
noncomputable def b_leq : Bo := fun _ a b st _ => qB st (!ltI b a)
noncomputable def b_gtr : Bo := fun _ a b st _ => qB st (ltI b a)
noncomputable def b_geq : Bo := fun _ a b st _ => qB st (!ltI a b)
noncomputable def b_oth : Bo := fun _ _ _ _ d => d
noncomputable def bo (op : BinOp) : Bo := BinOp.rec (motive := fun _ => Bo) b_add b_sub b_mul b_oth b_oth b_oth b_oth b_oth b_oth b_oth b_oth b_eql b_neq b_lss b_leq b_gtr b_geq op
noncomputable def qbK (d : Res) (op : BinOp) (st : St) (k : IntKind) (a : Int) (k' : IntKind) (b : Int) : Res := Bool.rec (motive := fun _ => Res) d (bo op k a b st d) (Nat.beq (kN k) (kN k'))
noncomputable def qbin (P : Program) (st : St) (op : BinOp) (t : TypeId) (x y : Operand) (a b : V) : Res := vC (fun va => vI (fun k i => vC (fun vb => vI (fun k' j => qbK (binE P st op t x y a b) op st k i k' j) (binE P st op t x y a b) vb) (binE P st op t x y a b) b) (binE P st op t x y a b) va) (binE P st op t x y a b) a
/-! operations -/
noncomputable def q_move (x : Operand) : Alt := fun _ _ _ _ e st => qd e (ret st) x
noncomputable def q_pick (x a b : Operand) : Alt := fun t P call c e st => evOp P call c e st ⟨none, .pick x a b, t, "", #[], none⟩
noncomputable def q_alloc (el : TypeId) : Alt := fun _ P _ _ _ st => zero P el fun cs => newC st el cs fun n st => some (.p n 0, st)
noncomputable def q_box (t : TypeId) (x : Operand) : Alt := fun _ _ _ _ e st => qd e (fun v => cellsOf v fun cs => newC st t cs fun n st => some (.p n 0, st)) x
noncomputable def q_build (a : TypeId) (p : Array (Nat × Operand)) : Alt := fun t P call c e st => evOp P call c e st ⟨none, .build a p, t, "", #[], none⟩
noncomputable def q_buildSlice (a : TypeId) (n : Nat) (p : Array (Nat × Operand)) : Alt := fun t P call c e st => evOp P call c e st ⟨none, .buildSlice a n p, t, "", #[], none⟩
noncomputable def vP {R : Type} (f : Nat → Nat → R) (d : R) (v : V) : R := V.casesOn (motive_1 := fun _ => R) v (fun _ => d) (fun _ => d) f (fun _ _ _ _ => d) (fun _ _ _ _ => d) d (fun _ => d) (fun _ _ _ => d) (fun _ => d) (fun _ => d)
noncomputable def qL (P : Program) (c : Cx) (st : St) (t : TypeId) (n i : Nat) : Res := loadE P c st t n i fun w => some (w, st)
noncomputable def q_load (t : TypeId) (x : Operand) : Alt := fun _ P _ c e st => qd e (vP (qL P c st t) none) x
noncomputable def qS3 (c : Cx) (st : St) (n i : Nat) (cs : List V) (z : Nat) : Res := Bool.rec (motive := fun _ => Res) none (putB c st n i cs fun st => some (.u, st)) (Nat.beq cs.length z)
noncomputable def qS2 (P : Program) (c : Cx) (st : St) (t : TypeId) (n i : Nat) (v : V) : Res := cellsOf v fun cs => szOf P t (qS3 c st n i cs)
noncomputable def qS1 (P : Program) (c : Cx) (e : Env) (st : St) (t : TypeId) (y : Operand) (n i : Nat) : Res := qd e (qS2 P c st t n i) y
noncomputable def q_store (t : TypeId) (x y : Operand) : Alt := fun _ P _ c e st => qd e (vP (qS1 P c e st t y) none) x
noncomputable def q_nilCheck (x : Operand) : Alt := fun _ _ _ _ e st => qd e (vP (fun n o => some (.p n o, st)) none) x
noncomputable def q_binOp (op : BinOp) (t : TypeId) (x y : Operand) (_ : TypeId) : Alt := fun _ P _ _ e st => qd e (fun a => qd e (qbin P st op t x y a) y) x
noncomputable def q_unOp (a : UnOp) (t : TypeId) (x : Operand) : Alt := fun ty P call c e st => evOp P call c e st ⟨none, .unOp a t x, ty, "", #[], none⟩
noncomputable def q_convert (a b : TypeId) (x : Operand) : Alt := fun _ P _ c e st => qd e (convE P c st a b) x
noncomputable def q_makeFunc (f : Fn) (a b : Array Operand) : Alt := fun t P call c e st => evOp P call c e st ⟨none, .makeFunc f a b, t, "", #[], none⟩
noncomputable def q_makeSlice (a : TypeId) (x y : Operand) : Alt := fun t P call c e st => evOp P call c e st ⟨none, .makeSlice a x y, t, "", #[], none⟩
noncomputable def q_slice (a : TypeId) (x : Operand) (l h m : Option Operand) : Alt := fun t P call c e st => evOp P call c e st ⟨none, .slice a x l h m, t, "", #[], none⟩
noncomputable def q_fieldAddr (a : TypeId) (x : Operand) (n : Nat) : Alt := fun t P call c e st => evOp P call c e st ⟨none, .fieldAddr a x n, t, "", #[], none⟩
noncomputable def q_field (a : TypeId) (x : Operand) (n : Nat) : Alt := fun t P call c e st => evOp P call c e st ⟨none, .field a x n, t, "", #[], none⟩
noncomputable def q_indexAddr (t : TypeId) (x ix : Operand) : Alt := fun _ P _ _ e st => qd e (fun v => qd e (fun i => asNat i fun i => idxE P t v i fun a => some (a, st)) ix) x
noncomputable def q_index (a : TypeId) (x y : Operand) : Alt := fun t P call c e st => evOp P call c e st ⟨none, .index a x y, t, "", #[], none⟩
noncomputable def q_insert (a : TypeId) (x y z : Operand) : Alt := fun t P call c e st => evOp P call c e st ⟨none, .insert a x y z, t, "", #[], none⟩
noncomputable def q_makeMap (a : TypeId) (x : Option Operand) : Alt := fun t P call c e st => evOp P call c e st ⟨none, .makeMap a x, t, "", #[], none⟩
noncomputable def q_lookup (a : TypeId) (x y : Operand) (b : Bool) : Alt := fun t P call c e st => evOp P call c e st ⟨none, .lookup a x y b, t, "", #[], none⟩
noncomputable def q_mapUpdate (a : TypeId) (x y z : Operand) : Alt := fun t P call c e st => evOp P call c e st ⟨none, .mapUpdate a x y z, t, "", #[], none⟩
noncomputable def q_mapEntry (a : TypeId) (x y : Operand) : Alt := fun t P call c e st => evOp P call c e st ⟨none, .mapEntry a x y, t, "", #[], none⟩
noncomputable def q_entryStore (a : TypeId) (x y z : Operand) : Alt := fun t P call c e st => evOp P call c e st ⟨none, .entryStore a x y z, t, "", #[], none⟩
noncomputable def q_range (a : TypeId) (x : Operand) : Alt := fun t P call c e st => evOp P call c e st ⟨none, .range a x, t, "", #[], none⟩
noncomputable def q_next (x : Operand) (b : Bool) : Alt := fun t P call c e st => evOp P call c e st ⟨none, .next x b, t, "", #[], none⟩
noncomputable def q_extract (x : Operand) (n : Nat) : Alt := fun t P call c e st => evOp P call c e st ⟨none, .extract x n, t, "", #[], none⟩
noncomputable def q_call (cl : Call) : Alt := fun t P call c e st => evOp P call c e st ⟨none, .call cl, t, "", #[], none⟩
noncomputable def qTab (op : Op) : Alt := Op.rec (motive := fun _ => Alt) q_move q_move q_pick q_alloc q_box q_build q_buildSlice q_insert q_load q_store (fun _ => q_none) (fun _ => q_none) q_nilCheck q_binOp q_unOp q_convert
  (fun _ _ => q_none) (fun _ _ => q_none) q_makeFunc q_makeMap (fun _ _ => q_none) q_makeSlice q_slice q_fieldAddr q_field q_indexAddr q_index q_lookup q_mapUpdate q_mapEntry q_entryStore q_range q_next (fun _ => q_none) (fun _ _ _ _ => q_none) q_extract q_call
  (fun _ => q_none) (fun _ => q_none) (fun _ => q_none) (fun _ _ => q_none) (fun _ _ _ => q_none) (fun _ _ => q_none) op
noncomputable def evOpQ (P : Program) (call : CallF) (c : Cx) (e : Env) (st : St) (o : Oper) : Res := qTab o.op o.type P call c e st
section
variable {P : Program} {call : CallF} {c : Cx} {e : Env} {st : St}
theorem fA_bind' {β : Type} (v : Value) (k : V → Option β) : fA v k = (fA v some).bind k := by
  unfold fA
  split <;> simp
theorem fAs_bind' {β : Type} : ∀ (l : List Value) (k : List V → Option β), fAs l k = (fAs l some).bind k
  | [], _ => rfl
  | v :: l, k => by
    have h : ∀ {γ : Type} (k : List V → Option γ), fAs (v :: l) k = fA v (fun x => fAs l fun l => k (x :: l)) := fun _ => rfl
    rw [h k, h some, fA_bind', fA_bind' (k := fun x => fAs l fun l => some (x :: l))]
    cases fA v some with
    | none => rfl
    | some x =>
      simp only [Option.bind_some]
      rw [fAs_bind' l fun l => k (x :: l), fAs_bind' l fun l => some (x :: l)]
      cases fAs l some <;> rfl
theorem ofV_bind' {β : Type} (v : Value) (k : V → Option β) : ofV v k = (ofV v some).bind k := by
  unfold ofV
  split
  · rename_i cs
    rw [fAs_bind', fAs_bind' (k := fun l => some (V.g l))]
    cases fAs cs.toList some <;> rfl
  · rfl
  · exact fA_bind' _ _
theorem qd_eq {β : Type} (k : V → Option β) (x : Operand) : qd e k x = opd e x k := by
  cases x with
  | tmp t => show qT k (T.get e t) = (match T.get e t with | some v => k v | none => k .u); cases T.get e t <;> rfl
  | const v => show qO k (cV v) = ofV v k; rw [ofV_bind']; unfold cV; cases ofV v some <;> rfl
  | global g => rfl
  | func f => rfl
theorem qB_eq (b : Bool) : qB st b = fb b (fun b => some (.bool b, st)) := by cases b <;> rfl
theorem kN_eq (k k' : IntKind) : Nat.beq (kN k) (kN k') = eqKd k k' := by cases k <;> cases k' <;> rfl
theorem qbK_eq (op : BinOp) (t : TypeId) (x y : Operand) (k k' : IntKind) (a b : Int) : qbK (binE P st op t x y (.c (.int k a)) (.c (.int k' b))) op st k a k' b = binE P st op t x y (.c (.int k a)) (.c (.int k' b)) := by
  unfold qbK
  rw [kN_eq]
  cases h : eqKd k k' with
  | false => rfl
  | true =>
    show bo op k a b st _ = _
    cases op <;> first
      | rfl
      | (simp only [bo, b_add, b_sub, b_mul, b_eql, b_neq, b_lss, b_leq, b_gtr, b_geq, binE, h, binI, qI, qB_eq, ofV, fA, ret]; done)
      | (simp only [bo, b_add, b_sub, b_mul, b_eql, b_neq, b_lss, b_leq, b_gtr, b_geq, binE, h, binI, qI, qB_eq, ofV, fA]; rfl)
theorem qbin_eq (op : BinOp) (t : TypeId) (x y : Operand) (a b : V) : qbin P st op t x y a b = binE P st op t x y a b := by
  cases a with
  | c va => cases va with
    | int k i => cases b with
      | c vb => cases vb with
        | int k' j => exact qbK_eq op t x y k k' i j
        | _ => rfl
      | _ => rfl
    | _ => rfl
  | _ => rfl
theorem vP_eq {R : Type} (f : Nat → Nat → R) (d : R) (v : V) : vP f d v = (match v with | .p n i => f n i | _ => d) := by cases v <;> rfl
theorem evOpQ_eq (o : Oper) : evOpQ P call c e st o = evOp P call c e st o := by
  obtain ⟨d, op, t, p, af, g⟩ := o
  cases op with
  | move x => exact qd_eq _ _
  | assign x => exact qd_eq _ _
  | box t x => exact qd_eq _ _
  | load t x =>
    show qd e _ x = opd e x _
    rw [qd_eq]; congr 1; funext v; cases v <;> rfl
  | store t x y =>
    show qd e _ x = opd e x _
    rw [qd_eq]; congr 1; funext v
    cases v with
    | p n i =>
      show qd e _ y = opd e y _
      rw [qd_eq]; congr 1; funext v
      show cellsOf v _ = cellsOf v _
      congr 1; funext cs
      show szOf P t _ = szOf P t _
      congr 1; funext z
      show qS3 c st n i cs z = _
      unfold qS3
      cases Nat.beq cs.length z <;> rfl
    | _ => rfl
  | nilCheck x =>
    show qd e _ x = opd e x _
    rw [qd_eq]; congr 1; funext v; cases v <;> rfl
  | binOp op t x y yt =>
    show qd e _ x = opd e x _
    rw [qd_eq]; congr 1; funext a
    rw [qd_eq]; congr 1; funext b
    exact qbin_eq ..
  | convert a b x => exact qd_eq _ _
  | indexAddr t x ix =>
    show qd e _ x = opd e x _
    rw [qd_eq]; congr 1; funext a
    rw [qd_eq]
  | _ => rfl
end
/-! regions, code -/
noncomputable def putQ {β : Type} (nt : Nat) (e : Env) (v : V) (k : Env → Option β) (d : Option Nat) : Option β := Option.rec (motive := fun _ => Option β) (k e) (fun t => Bool.rec (motive := fun _ => Option β) none (T.setP (pth t) v e k) (Nat.ble (Nat.succ t) nt)) d
theorem putQ_eq {β : Type} {c : Cx} {e : Env} (d : Option Nat) (v : V) (k : Env → Option β) : putQ c.nt e v k d = putK c e d v k := by
  cases d with
  | none => rfl
  | some t =>
    show Bool.rec (motive := fun _ => Option β) none (T.setP (pth t) v e k) (Nat.blt t c.nt) = (match Nat.blt t c.nt with | true => e.setK t v k | false => none)
    cases Nat.blt t c.nt <;> rfl
noncomputable def qWant (e : Env) (ops : List Oper) (o : Oper) : Bool := Option.rec (motive := fun _ => Bool) true (fun _ => wants e ops o) o.guard
noncomputable def q2 (c : Cx) (e : Env) (o : Oper) (ih : Env → St → Option (Env × St)) (r : Res) : Option (Env × St) := Option.rec (motive := fun _ => Option (Env × St)) none (fun p => Prod.rec (motive := fun _ => Option (Env × St)) (fun v st => putQ c.nt e v (fun e => ih e st) o.dst) p) r
noncomputable def q1 (P : Program) (call : CallF) (c : Cx) (ops : List Oper) (o : Oper) (ih : Env → St → Option (Env × St)) (e : Env) (st : St) : Option (Env × St) := Bool.rec (motive := fun _ => Option (Env × St)) (putQ c.nt e .u (fun e => ih e st) o.dst) (q2 c e o ih (evOpQ P call c e st o)) (qWant e ops o)
noncomputable def evOpsQ (P : Program) (call : CallF) (c : Cx) (ops : List Oper) (l : List Oper) : Env → St → Option (Env × St) := lr (fun e st => some (e, st)) (fun o _ ih e st => q1 P call c ops o ih e st) l
abbrev DF := Nat → List (Nat × Nat × Nat) → Env → St → Option (Env × St)
noncomputable def d2 (c : Cx) (e : Env) (o : Oper) (nx i : Nat) (rs : List (Nat × Nat × Nat)) (ih : DF) (r : Res) : Option (Env × St) := Option.rec (motive := fun _ => Option (Env × St)) none (fun p => Prod.rec (motive := fun _ => Option (Env × St)) (fun v st' => putQ c.nt e v (fun e => fn (i + 1) fun i' => ih i' (match Nat.beq nx st'.nx with | true => rs | false => (i, nx, st'.nx) :: rs) e st') o.dst) p) r
noncomputable def d1 (P : Program) (call : CallF) (c : Cx) (ops : List Oper) (o : Oper) (ih : DF) (i : Nat) (rs : List (Nat × Nat × Nat)) (e : Env) (st : St) : Option (Env × St) := Bool.rec (motive := fun _ => Option (Env × St)) (putQ c.nt e .u (fun e => fn (i + 1) fun i' => ih i' rs e st) o.dst) (d2 c e o st.nx i rs ih (evOpQ P call (cxOf c ops o i rs st.nx e) e st o)) (qWant e ops o)
noncomputable def evDrawQ (P : Program) (call : CallF) (c : Cx) (ops : List Oper) (l : List Oper) : DF := lr (fun _ _ e st => some (e, st)) (fun o _ ih i rs e st => d1 P call c ops o ih i rs e st) l
abbrev CRes := Option (X × Env × St)
abbrev CAlt := Program → CodeF → Cx → Env → St → CRes
noncomputable def c_none : CAlt := fun _ _ _ _ _ => none
noncomputable def c_skip : CAlt := fun _ _ _ e st => some (.n, e, st)
noncomputable def cr1 (r : Option (Env × St)) : CRes := Option.rec (motive := fun _ => CRes) none (fun p => Prod.rec (motive := fun _ => CRes) (fun e st => some (.n, e, st)) p) r
noncomputable def c_region (_ : Nat) (ops : Array Oper) (d : Bool) : CAlt := fun P ih cx e st => Bool.rec (motive := fun _ => CRes) (cr1 (evOpsQ P (callOf P ih) cx ops.toList ops.toList e st)) (Bool.rec (motive := fun _ => CRes) none (cr1 (evDrawQ P (callOf P ih) cx ops.toList ops.toList 0 [] e st)) (regOk ops.toList)) d
noncomputable def cs1 (ih : CodeF) (cx : Cx) (b : Code) (r : CRes) : CRes := match r with
  | some (.n, e, st) => ih cx b e st
  | r => r
noncomputable def c_seq (a b : Code) : CAlt := fun _ ih cx e st => cs1 ih cx b (ih cx a e st)
noncomputable def ci1 (p q : CRes) (v : V) : CRes := match v with
  | .c (.bool true) => p
  | .c (.bool false) => q
  | _ => none
noncomputable def c_cond (x : Operand) (a b : Code) : CAlt := fun _ ih cx e st => qd e (ci1 (ih cx a e st) (ih cx b e st)) x
noncomputable def cb1 (i : Nat) (r : CRes) : CRes := match r with
  | some (.ex j, e, st) => (match Nat.beq j i with | true => some (.n, e, st) | false => some (.ex j, e, st))
  | r => r
noncomputable def c_block (i : Nat) (b : Code) : CAlt := fun _ ih cx e st => cb1 i (ih cx b e st)
noncomputable def c_loop (b : Code) : CAlt := fun _ ih cx e st => cs1 ih cx (.loop b) (ih cx b e st)
noncomputable def c_exit (i : Nat) : CAlt := fun _ _ _ e st => some (.ex i, e, st)
noncomputable def c_ret : CAlt := fun _ _ _ e st => some (.ret, e, st)
noncomputable def cTab (c : Code) : CAlt := Code.casesOn (motive := fun _ => CAlt) c c_skip c_region c_seq c_cond c_block c_loop (fun _ _ _ _ => c_none) c_exit (fun _ => c_none) (fun _ => c_skip) (fun _ => c_none) c_ret (fun _ => c_none)
noncomputable def evQ (P : Program) (n : Nat) : CodeF := nr (fun _ _ _ _ => none) (fun _ ih cx c e st => cTab c P ih cx e st) n
noncomputable def runQ (P : Program) (fuel f : Nat) (args : List V) : Option (V × St) := callOf P (evQ P fuel) ⟨false, [], 0, 0⟩ f args ⟨0, .lf⟩
noncomputable def yesQ (P : Program) (fuel f : Nat) : Bool := match runQ P fuel f [] with
  | some (.c (.bool true), _) => true
  | _ => false
section
variable {P : Program} {call : CallF} {c : Cx} {e : Env} {st : St}
theorem qWant_eq (ops : List Oper) (o : Oper) : qWant e ops o = wants e ops o := by
  unfold qWant wants
  cases o.guard <;> rfl
theorem evOpsQ_eq (ops : List Oper) : ∀ (l : List Oper) (e : Env) (st : St), evOpsQ P call c ops l e st = evOps P call c ops l e st
  | [], _, _ => rfl
  | o :: l, e, st => by
    have ih := evOpsQ_eq ops l
    have h1 : evOpsQ P call c ops (o :: l) e st = q1 P call c ops o (evOpsQ P call c ops l) e st := rfl
    have h2 : evOps P call c ops (o :: l) e st = (match wants e ops o with
      | true => match evOp P call c e st o with
        | none => none
        | some (v, st) => putK c e o.dst v fun e => evOps P call c ops l e st
      | false => putK c e o.dst .u fun e => evOps P call c ops l e st) := rfl
    have ih' : evOpsQ P call c ops l = evOps P call c ops l := funext fun e => funext fun st => ih e st
    rw [h1, h2]
    unfold q1
    rw [qWant_eq, evOpQ_eq, ih']
    cases wants e ops o with
    | false => exact putQ_eq _ _ _
    | true => cases evOp P call c e st o with
      | none => rfl
      | some p => obtain ⟨v, st⟩ := p; exact putQ_eq (c := c) (e := e) o.dst v fun e => evOps P call c ops l e st
theorem evDrawQ_eq (ops : List Oper) : ∀ (l : List Oper) (i : Nat) (rs : List (Nat × Nat × Nat)) (e : Env) (st : St), evDrawQ P call c ops l i rs e st = evDraw P call c ops l i rs e st
  | [], _, _, _, _ => rfl
  | o :: l, i, rs, e, st => by
    have ih := evDrawQ_eq ops l
    have h1 : evDrawQ P call c ops (o :: l) i rs e st = d1 P call c ops o (evDrawQ P call c ops l) i rs e st := rfl
    have h2 : evDraw P call c ops (o :: l) i rs e st = (match wants e ops o with
      | true => match evOp P call (cxOf c ops o i rs st.nx e) e st o with
        | none => none
        | some (v, st') => putK c e o.dst v fun e => fn (i + 1) fun i' => evDraw P call c ops l i' (match Nat.beq st.nx st'.nx with | true => rs | false => (i, st.nx, st'.nx) :: rs) e st'
      | false => putK c e o.dst .u fun e => fn (i + 1) fun i' => evDraw P call c ops l i' rs e st) := rfl
    have ih' : evDrawQ P call c ops l = evDraw P call c ops l := funext fun i => funext fun rs => funext fun e => funext fun st => ih i rs e st
    rw [h1, h2]
    unfold d1
    rw [qWant_eq, evOpQ_eq, ih']
    cases wants e ops o with
    | false => exact putQ_eq _ _ _
    | true => cases evOp P call (cxOf c ops o i rs st.nx e) e st o with
      | none => rfl
      | some p => obtain ⟨v, st'⟩ := p; exact putQ_eq (c := c) (e := e) o.dst v fun e => fn (i + 1) fun i' => evDraw P call c ops l i' (match Nat.beq st.nx st'.nx with | true => rs | false => (i, st.nx, st'.nx) :: rs) e st'
theorem evQ_eq : ∀ n, evQ P n = ev P n
  | 0 => rfl
  | n + 1 => by
    have ih := evQ_eq n
    funext cx c e st
    have h1 : evQ P (n + 1) cx c e st = cTab c P (evQ P n) cx e st := rfl
    rw [h1, ih]
    cases c with
    | region id ops d =>
      cases d with
      | false =>
        show cr1 (evOpsQ P (callOf P (ev P n)) cx ops.toList ops.toList e st) = (match evOps P (callOf P (ev P n)) cx ops.toList ops.toList e st with
          | none => none
          | some (e, st) => some (X.n, e, st))
        rw [evOpsQ_eq]
        cases evOps P (callOf P (ev P n)) cx ops.toList ops.toList e st with
        | none => rfl
        | some p => obtain ⟨e, st⟩ := p; rfl
      | true =>
        show Bool.rec (motive := fun _ => CRes) none (cr1 (evDrawQ P (callOf P (ev P n)) cx ops.toList ops.toList 0 [] e st)) (regOk ops.toList) = (match regOk ops.toList with
          | true => (match evDraw P (callOf P (ev P n)) cx ops.toList ops.toList 0 [] e st with
            | none => none
            | some (e, st) => some (X.n, e, st))
          | false => none)
        rw [evDrawQ_eq]
        cases regOk ops.toList with
        | false => rfl
        | true => cases evDraw P (callOf P (ev P n)) cx ops.toList ops.toList 0 [] e st with
          | none => rfl
          | some p => obtain ⟨e, st⟩ := p; rfl
    | cond x a b => exact qd_eq _ _
    | _ => rfl
theorem yesQ_eq (fuel f : Nat) : yesQ P fuel f = yes P fuel f := by
  unfold yesQ yes runQ run
  rw [evQ_eq]; rfl
theorem yesQ_ok {P : Program} (hn : namesOk P = true) (hm : P.follows .mixedOrders = true) {fuel f : Nat} (h : yesQ P fuel f = true) (w : World) :
    Calls P f #[] w fun e w' => e = .returned (.bool true) ∧ Below w.heap.size w w' := yes_ok hn hm (by rw [← yesQ_eq]; exact h) w
end
end Go.Proofs.YtiifofhigjoegaaGreatDoor.Ev
namespace Go.Proofs.YtiifofhigjoegaaGreatDoor.Ev
open Go.RowKit

/-! ### code whose calls are answered by a given function -/
noncomputable def evG (P : Program) (F : CallF) (n : Nat) : CodeF := nr (fun _ _ _ _ => none) (fun _ ih cx c e st =>
  match c with
  | .skip => some (.n, e, st)
  | .label _ => some (.n, e, st)
  | .region _ ops d => (match d with
    | true => (match regOk ops.toList with
      | true => (match evDraw P F cx ops.toList ops.toList 0 [] e st with
        | none => none
        | some (e, st) => some (.n, e, st))
      | false => none)
    | false => (match evOps P F cx ops.toList ops.toList e st with
      | none => none
      | some (e, st) => some (.n, e, st)))
  | .seq a b => (match ih cx a e st with
    | some (.n, e, st) => ih cx b e st
    | r => r)
  | .cond x a b => opd e x fun v => (match v with
    | .c (.bool true) => ih cx a e st
    | .c (.bool false) => ih cx b e st
    | _ => none)
  | .block i b => (match ih cx b e st with
    | some (.ex j, e, st) => (match Nat.beq j i with | true => some (.n, e, st) | false => some (.ex j, e, st))
    | r => r)
  | .loop b => (match ih cx b e st with
    | some (.n, e, st) => ih cx (.loop b) e st
    | r => r)
  | .exit i => some (.ex i, e, st)
  | .ret => some (.ret, e, st)
  | _ => none) n
/-- a law without arguments that is known to return true needs no second run -/
noncomputable def orac (P : Program) (n fa : Nat) : CallF := fun c f args st => match Nat.beq f fa, args with
  | true, [] => some (.c (.bool true), st)
  | _, args => callOf P (evQ P n) c f args st
/-! ### pieces -/
noncomputable def bd (fn : Func) : Code := match fn.body with | some c => c | none => .skip
noncomputable def dropC (m : Nat) (B : Code) : Code := nr (fun B => B) (fun _ ih B => match B with | .seq _ b => ih b | _ => .skip) m B
noncomputable def runL (G : CodeF) (c : Cx) (m : Nat) (B : Code) (e : Env) (st : St) : Option (Env × St) :=
  nr (fun _ e st => some (e, st)) (fun _ ih B e st => match B with
    | .seq a b => (match G c a e st with
      | some (.n, e, st) => ih b e st
      | _ => none)
    | _ => none) m B e st
noncomputable def gc (keep : List Nat) (st : St) : St := ⟨st.nx, lr (fun t => t) (fun n _ ih t => match st.h.get n with | some b => ih (t.set n b) | none => ih t) keep .lf⟩
noncomputable def stepC (G : CodeF) (c : Cx) (m : Nat) (B : Code) (keep : List Nat) (e : Env) (st : St) : Option (Env × St) := match runL G c m B e st with
  | some (e, st) => some (e, gc keep st)
  | none => none
noncomputable def lastC (P : Program) (G : CodeF) (fn : Func) (B : Code) (e : Env) (st : St) : Bool :=
  match G ⟨false, [], 0, fn.ntmps⟩ B e st with
  | some (.n, e, st) => (match resOf P ⟨false, [], 0, fn.ntmps⟩ e st fn.results.toList fun l => (match l with | [x] => some (x, st) | l => some (.t l, st)) with | some (.c (.bool true), _) => true | _ => false)
  | some (.ret, e, st) => (match resOf P ⟨false, [], 0, fn.ntmps⟩ e st fn.results.toList fun l => (match l with | [x] => some (x, st) | l => some (.t l, st)) with | some (.c (.bool true), _) => true | _ => false)
  | _ => false
/-! ### words of the states that are written out -/
def u (n : Nat) : V := .c (.int .u64 (.ofNat n))
def i (n : Nat) : V := .c (.int .i64 (.ofNat n))
def j (n : Nat) : V := .c (.int .i64 (.negSucc n))
def y (n : Nat) : V := .c (.int .u8 (.ofNat n))
def tt : V := .c (.bool true)
def ff : V := .c (.bool false)
def np : V := .c (.pointer none)
def ns : V := .c (.slice none 0 0)
/-! ### what they are worth -/
def Fin (P : Program) (fn : Func) (B0 : Nat) (w0 : World) : Exit → Act → World → Prop := fun ex a w => (ex = .normal ∨ ex = .ret) ∧ a.defers = [] ∧ (results fn a.tmps).run P w = .ok (.bool true) w ∧ Below B0 w0 w
def Good (P : Program) (fn : Func) (B : Code) (e : Env) (st : St) : Prop := Wf st → ∀ (B0 : Nat) (ρ : Rho) (τ : Mem) (w0 w : World) (a : Act), EnvRel ρ e a → fn.ntmps ≤ a.tmps.size → a.defers = [] → Agree ⟨false, [], 0, fn.ntmps⟩ st τ → Real ρ B0 τ w → (∀ n, st.nx ≤ n → ρ n = none) → Below B0 w0 w → B.wp P (Fin P fn B0 w0) a w
section
variable {P : Program} {fn : Func}
theorem evQ_sound (hn : namesOk P = true) (hm : P.follows .mixedOrders = true) (n : Nat) : CodeSound P (evQ P n) := by
  rw [evQ_eq]
  exact (ev_ok (draw_sound (named_of hn) hm) (named_of hn) n).1
theorem evG_ok (hd : DrawSound P) (hn : Named P) {F : CallF} (hcall : CallSound P F) (hbody : HasBody P F) : ∀ n, CodeSound P (evG P F n) ∧ LoopSound P (evG P F n)
  | 0 => ⟨fun _ _ _ _ _ _ _ h _ => (by cases h), fun _ _ _ _ _ _ _ h _ => (by cases h)⟩
  | n + 1 => by
    obtain ⟨ihc, ihl⟩ := evG_ok hd hn hcall hbody n
    have loop : LoopSound P (evG P F (n + 1)) := by
      intro c b e st x e' st' h hwf
      have h' : (match evG P F n c b e st with
        | some (.n, e, st) => evG P F n c (.loop b) e st
        | r => r) = some (x, e', st') := h
      split at h'
      · rename_i e1 st1 hb
        obtain ⟨s1, k1⟩ := ihc _ _ _ _ _ _ _ hb hwf
        obtain ⟨m, s2, k2⟩ := ihl _ _ _ _ _ _ _ h' (s1.wf hwf)
        refine ⟨m + 1, s1.trans s2, fun B0 ρ τ w a he ht hag hre hf Q hQ => ?_⟩
        rw [rounds_succ]
        refine k1 B0 ρ τ w a he ht hag hre (hf.left s2.le) _ ?_
        exact cont_step s1 s2 hwf hag hf hQ fun ρ' a' w' he' ht' hag' hre' hf' hc' => k2 B0 ρ' _ w' a' he' ht' hag' hre' hf' Q hc'
      · rename_i hne
        obtain ⟨s1, k1⟩ := ihc _ _ _ _ _ _ _ h' hwf
        refine ⟨1, s1, fun B0 ρ τ w a he ht hag hre hf Q hQ => ?_⟩
        rw [rounds_succ]
        refine k1 B0 ρ τ w a he ht hag hre hf _ fun ρ' a' w' q1 q2 q3 q4 q5 q6 q7 => ?_
        have := hQ ρ' a' w' q1 q2 q3 q4 q5 q6 q7
        cases x with
        | n => exact (hne e' st' h').elim
        | ex i => exact this
        | ret => exact this
    refine ⟨fun c code e st x e' st' h hwf => ?_, loop⟩
    cases code with
    | skip =>
      have h' : (some (X.n, e, st) : Option (X × Env × St)) = some (x, e', st') := h
      injection h' with h'; injection h' with h1 h'; injection h' with h2 h3; subst h1 h2 h3
      exact ⟨.refl _ _, fun B0 ρ τ w a he ht hag hre hf Q hQ => wp_skip (cont_refl hQ he ht hre)⟩
    | label l =>
      have h' : (some (X.n, e, st) : Option (X × Env × St)) = some (x, e', st') := h
      injection h' with h'; injection h' with h1 h'; injection h' with h2 h3; subst h1 h2 h3
      exact ⟨.refl _ _, fun B0 ρ τ w a he ht hag hre hf Q hQ => wp_label (cont_refl hQ he ht hre)⟩
    | exit i =>
      have h' : (some (X.ex i, e, st) : Option (X × Env × St)) = some (x, e', st') := h
      injection h' with h'; injection h' with h1 h'; injection h' with h2 h3; subst h1 h2 h3
      exact ⟨.refl _ _, fun B0 ρ τ w a he ht hag hre hf Q hQ => wp_exit (cont_refl hQ he ht hre)⟩
    | ret =>
      have h' : (some (X.ret, e, st) : Option (X × Env × St)) = some (x, e', st') := h
      injection h' with h'; injection h' with h1 h'; injection h' with h2 h3; subst h1 h2 h3
      exact ⟨.refl _ _, fun B0 ρ τ w a he ht hag hre hf Q hQ => wp_ret (cont_refl hQ he ht hre)⟩
    | region id ops d =>
      cases d with
      | false =>
        have h' : (match evOps P (F) c ops.toList ops.toList e st with
          | none => none
          | some (e, st) => some (X.n, e, st)) = some (x, e', st') := h
        split at h'
        · cases h'
        · rename_i e1 st1 hop
          injection h' with h'; injection h' with h1 h'; injection h' with h2 h3; subst h1 h2 h3
          obtain ⟨s1, k1⟩ := evOps_ok hcall hn hbody hop hwf
          exact ⟨s1, fun B0 ρ τ w a he ht hag hre hf Q hQ => wp_region_list (k1 B0 ρ τ w a he ht hag hre hf Q hQ)⟩
      | true =>
        have h' : (match regOk ops.toList with
          | true => (match evDraw P (F) c ops.toList ops.toList 0 [] e st with
            | none => none
            | some (e, st) => some (X.n, e, st))
          | false => none) = some (x, e', st') := h
        split at h'
        · rename_i hreg
          split at h'
          · cases h'
          · rename_i e1 st1 hop
            injection h' with h'; injection h' with h1 h'; injection h' with h2 h3; subst h1 h2 h3
            exact hd _ hcall hbody c ops id e e1 st st1 hreg hop hwf
        · cases h'
    | seq a b =>
      have h' : (match evG P F n c a e st with
        | some (.n, e, st) => evG P F n c b e st
        | r => r) = some (x, e', st') := h
      split at h'
      · rename_i e1 st1 hb
        obtain ⟨s1, k1⟩ := ihc _ _ _ _ _ _ _ hb hwf
        obtain ⟨s2, k2⟩ := ihc _ _ _ _ _ _ _ h' (s1.wf hwf)
        refine ⟨s1.trans s2, fun B0 ρ τ w a he ht hag hre hf Q hQ => wp_seq ?_⟩
        refine k1 B0 ρ τ w a he ht hag hre (hf.left s2.le) _ ?_
        exact cont_step s1 s2 hwf hag hf hQ fun ρ' a' w' he' ht' hag' hre' hf' hc' => k2 B0 ρ' _ w' a' he' ht' hag' hre' hf' Q hc'
      · rename_i hne
        obtain ⟨s1, k1⟩ := ihc _ _ _ _ _ _ _ h' hwf
        refine ⟨s1, fun B0 ρ τ w a he ht hag hre hf Q hQ => wp_seq ?_⟩
        refine k1 B0 ρ τ w a he ht hag hre hf _ fun ρ' a' w' q1 q2 q3 q4 q5 q6 q7 => ?_
        have := hQ ρ' a' w' q1 q2 q3 q4 q5 q6 q7
        cases x with
        | n => exact (hne e' st' h').elim
        | ex i => exact this
        | ret => exact this
    | cond y a b =>
      have h' : (opd e y fun v => (match v with
        | .c (.bool true) => evG P F n c a e st
        | .c (.bool false) => evG P F n c b e st
        | _ => none)) = some (x, e', st') := h
      obtain ⟨v, h1, h2⟩ := opd_inv h'
      split at h1
      · obtain ⟨s1, k1⟩ := ihc _ _ _ _ _ _ _ h1 hwf
        refine ⟨s1, fun B0 ρ τ w a he ht hag hre hf Q hQ => wp_cond_true ?_ (k1 B0 ρ τ w a he ht hag hre hf Q hQ)⟩
        exact rel_true (h2 ρ a (he.tmp y))
      · obtain ⟨s1, k1⟩ := ihc _ _ _ _ _ _ _ h1 hwf
        refine ⟨s1, fun B0 ρ τ w a he ht hag hre hf Q hQ => wp_cond_false ?_ (k1 B0 ρ τ w a he ht hag hre hf Q hQ)⟩
        exact rel_true (h2 ρ a (he.tmp y))
      · cases h1
    | block i b =>
      have h' : (match evG P F n c b e st with
        | some (.ex j, e, st) => (match Nat.beq j i with | true => some (X.n, e, st) | false => some (.ex j, e, st))
        | r => r) = some (x, e', st') := h
      split at h'
      · rename_i j e1 st1 hb
        obtain ⟨s1, k1⟩ := ihc _ _ _ _ _ _ _ hb hwf
        split at h'
        · rename_i hj
          injection h' with h'; injection h' with h1 h'; injection h' with h2 h3; subst h1 h2 h3
          have hj' : j = i := by simpa [nbeq] using hj
          refine ⟨s1, fun B0 ρ τ w a he ht hag hre hf Q hQ => wp_block (k1 B0 ρ τ w a he ht hag hre hf _ fun ρ' a' w' q1 q2 q3 q4 q5 q6 q7 => ?_)⟩
          show Exit.inBlock i Q (.exit j) a' w'
          simp only [Exit.inBlock, hj', if_true]
          exact hQ ρ' a' w' q1 q2 q3 q4 q5 q6 q7
        · rename_i hj
          injection h' with h'; injection h' with h1 h'; injection h' with h2 h3; subst h1 h2 h3
          have hj' : ¬ j = i := by simpa [nbeq] using hj
          refine ⟨s1, fun B0 ρ τ w a he ht hag hre hf Q hQ => wp_block (k1 B0 ρ τ w a he ht hag hre hf _ fun ρ' a' w' q1 q2 q3 q4 q5 q6 q7 => ?_)⟩
          show Exit.inBlock i Q (.exit j) a' w'
          simp only [Exit.inBlock, hj', if_false]
          exact hQ ρ' a' w' q1 q2 q3 q4 q5 q6 q7
      · rename_i hne
        obtain ⟨s1, k1⟩ := ihc _ _ _ _ _ _ _ h' hwf
        refine ⟨s1, fun B0 ρ τ w a he ht hag hre hf Q hQ => wp_block (k1 B0 ρ τ w a he ht hag hre hf _ fun ρ' a' w' q1 q2 q3 q4 q5 q6 q7 => ?_)⟩
        have := hQ ρ' a' w' q1 q2 q3 q4 q5 q6 q7
        cases x with
        | n => exact this
        | ex i => exact (hne _ e' st' h').elim
        | ret => exact this
    | loop b =>
      obtain ⟨m, s1, k1⟩ := loop _ _ _ _ _ _ _ h hwf
      exact ⟨s1, fun B0 ρ τ w a he ht hag hre hf Q hQ => wp_loop_rounds m (k1 B0 ρ τ w a he ht hag hre hf Q hQ)⟩
    | rangeFunc f ps as b => cases h
    | scope b => cases h
    | goto l => cases h
    | refuse y => cases h
theorem Below.weak {B0 B1 : Nat} {w w' : World} (h : Below B1 w w') (k : B0 ≤ B1) : Below B0 w w' := by
  obtain ⟨h1, h2, h3, h4, h5⟩ := h
  exact ⟨h1, h2, h3, h4, fun j hj => h5 j (Nat.lt_of_lt_of_le hj k)⟩
theorem orac_sound {fa : Nat} {fn : Func} {b : Code} {n : Nat} (hf : P.funcs[fa]? = some fn) (hb : fn.body = some b) (hq : CodeSound P (evQ P n)) (ha : ∀ w, Calls P fa #[] w fun e w' => e = .returned (.bool true) ∧ Below w.heap.size w w') :
    CallSound P (orac P n fa) ∧ HasBody P (orac P n fa) := by
  have hc := callOf_sound hq
  have hbd : HasBody P (callOf P (evQ P n)) := callOf_body
  constructor
  · intro c f args st v st' h hwf
    unfold orac at h
    split at h
    · rename_i he
      have he' : f = fa := by simpa [nbeq] using he
      subst he'
      obtain ⟨rfl, rfl⟩ := some_inv h
      refine ⟨.refl _ _, fun B0 ρ τ w vs hvs hag hre hfr R hR => ?_⟩
      simp only [RelL] at hvs
      subst hvs
      refine (ha w).mono fun e w' ⟨h1, h2⟩ => ?_
      subst h1
      have hsz := h2.size
      refine hR ρ _ w' (Rho.le_refl _) (Dom.refl _ _ _) (rel_bool _) ?_ (Below.weak h2 hre.size)
      rw [ov_self]
      refine ⟨Nat.le_trans hre.size hsz, fun n b hb' => ?_, hre.inj⟩
      obtain ⟨r, k1, k2, k3, k4⟩ := hre.blk n b hb'
      exact ⟨r, k1, k2, Nat.lt_of_lt_of_le k3 hsz, k4.congr (h2.block r.block k3)⟩
    · exact hc _ _ _ _ _ _ h hwf
  · intro c f args st r h
    unfold orac at h
    split at h
    · rename_i he
      have he' : f = fa := by simpa [nbeq] using he
      subst he'
      exact ⟨fn, b, hf, hb⟩
    · exact hbd _ _ _ _ _ h
theorem evG_sound (hn : namesOk P = true) (hm : P.follows .mixedOrders = true) {F : CallF} (h : CallSound P F ∧ HasBody P F) (n : Nat) : CodeSound P (evG P F n) :=
  (evG_ok (draw_sound (named_of hn) hm) (named_of hn) h.1 h.2 n).1
theorem Good.run {G : CodeF} (hG : CodeSound P G) : ∀ {m : Nat} {B : Code} {e e1 : Env} {st st1 : St}, runL G ⟨false, [], 0, fn.ntmps⟩ m B e st = some (e1, st1) → Good P fn (dropC m B) e1 st1 → Good P fn B e st
  | 0, B, e, e1, st, st1, h, k => by
    have h' : (some (e, st) : Option (Env × St)) = some (e1, st1) := h
    injection h' with h'; injection h' with h1 h2; subst h1 h2
    exact k
  | m + 1, B, e, e1, st, st1, h, k => by
    cases B with
    | seq a b =>
      have h' : (match G ⟨false, [], 0, fn.ntmps⟩ a e st with
        | some (.n, e, st) => runL G ⟨false, [], 0, fn.ntmps⟩ m b e st
        | _ => none) = some (e1, st1) := h
      have k' : Good P fn (dropC m b) e1 st1 := k
      clear h k
      split at h'
      · rename_i e2 st2 hev
        have g2 := Good.run hG h' k'
        intro hwf B0 ρ τ w0 w a' he ht hd hag hre hfr hb
        obtain ⟨s1, k1⟩ := hG _ _ _ _ _ _ _ hev hwf
        refine wp_seq (k1 B0 ρ τ w a' he ht hag hre (fun n h1 _ => hfr n h1) _ ?_)
        intro ρ' a2 w2 l d he2 ht2 hd2 m2 b2
        exact g2 (s1.wf hwf) B0 ρ' _ w0 w2 a2 he2 ht2 (hd2.trans hd) (hag.step s1 hwf) m2 (fun n h1 => by
          cases e : ρ' n with
          | none => rfl
          | some r =>
            rcases d n r e with e | e
            · rw [hfr n (Nat.le_trans s1.le h1)] at e; cases e
            · omega) (hb.trans b2)
      · cases h'
    | _ => cases h
theorem gc_get (st : St) : ∀ (keep : List Nat) (t : T B) (n : Nat) (b : B), (lr (fun t => t) (fun n _ ih t => match st.h.get n with | some b => ih (t.set n b) | none => ih t) keep t : T B).get n = some b → t.get n = some b ∨ st.h.get n = some b
  | [], _, _, _, h => .inl h
  | k :: l, t, n, b, h => by
    rw [lr_cons] at h
    split at h
    · rename_i b' hb
      rcases gc_get st l _ n b h with h1 | h1
      · rw [T.get_set] at h1
        split at h1
        · rename_i e; subst e; right; rw [hb]; exact h1
        · exact .inl h1
      · exact .inr h1
    · exact gc_get st l _ n b h
theorem gc_sub {keep : List Nat} {st : St} {n : Nat} {b : B} (h : (gc keep st).h.get n = some b) : st.h.get n = some b := by
  rcases gc_get st keep .lf n b h with h | h
  · simp at h
  · exact h
theorem Good.gc {B : Code} {e : Env} {st : St} {keep : List Nat} (k : Good P fn B e (Ev.gc keep st)) : Good P fn B e st := fun hwf B0 ρ τ w0 w a he ht hd hag hre hfr hb =>
  k (fun n hn => by
    cases h : (Ev.gc keep st).h.get n with
    | none => rfl
    | some b => have := gc_sub h; rw [hwf n hn] at this; cases this) B0 ρ τ w0 w a he ht hd (fun n b h1 h2 => hag n b h1 (gc_sub h2)) hre hfr hb
theorem Good.step {G : CodeF} (hG : CodeSound P G) {m : Nat} {B : Code} {keep : List Nat} {e e1 : Env} {st st1 : St} (h : stepC G ⟨false, [], 0, fn.ntmps⟩ m B keep e st = some (e1, st1)) (k : Good P fn (dropC m B) e1 st1) : Good P fn B e st := by
  unfold stepC at h
  split at h
  · rename_i e2 st2 hr
    injection h with h; injection h with h1 h2; subst h1 h2
    exact Good.run hG hr k.gc
  · cases h
theorem Good.last {G : CodeF} (hG : CodeSound P G) {B : Code} {e : Env} {st : St} (h : lastC P G fn B e st = true) : Good P fn B e st := by
  intro hwf B0 ρ τ w0 w a he ht hd hag hre hfr hb
  have main : ∀ (x : X) (e1 : Env) (st1 : St), G ⟨false, [], 0, fn.ntmps⟩ B e st = some (x, e1, st1) → (x.exit = .normal ∨ x.exit = .ret) → (match resOf P ⟨false, [], 0, fn.ntmps⟩ e1 st1 fn.results.toList fun l => (match l with | [x] => some (x, st1) | l => some (.t l, st1)) with | some (.c (.bool true), _) => true | _ => false) = true → B.wp P (Fin P fn B0 w0) a w := by
    intro x e1 st1 hev hx hr
    obtain ⟨s1, k1⟩ := hG _ _ _ _ _ _ _ hev hwf
    refine k1 B0 ρ τ w a he ht hag hre (fun n h1 _ => hfr n h1) _ ?_
    intro ρ' a2 w2 l d he2 ht2 hd2 m2 b2
    split at hr
    · rename_i st2 hres
      obtain ⟨rs, h3, h4⟩ := resOf_ok hres
      obtain ⟨xs, g1, g2⟩ := h4 B0 ρ' _ w2 a2 he2 (hag.step s1 hwf) m2
      split at h3
      · obtain ⟨rfl, _⟩ := some_inv h3
        obtain ⟨yv, rfl, hy⟩ := relL1 g1
        simp only [Rel] at hy
        obtain ⟨rfl, _⟩ := hy
        refine ⟨hx, hd2.trans hd, ?_, hb.trans b2⟩
        have hmap : (fn.results.mapM fun x => (match x with | .tmp t => pure (a2.tmps.getD t undef) | .cell q t => do loadVar t (← asAddr (a2.tmps.getD q undef)) : Sem Value)).run P w2 = .ok [Value.bool true].toArray w2 := by
          have g2' : (fn.results.toList.mapM fun x => (match x with | .tmp t => pure (a2.tmps.getD t undef) | .cell q t => do loadVar t (← asAddr (a2.tmps.getD q undef)) : Sem Value)).run P w2 = .ok [Value.bool true] w2 := g2
          rw [Array.mapM_eq_mapM_toList]
          simp only [Sem.run_map, g2', Result.andThen_ok]
        unfold results
        rw [Sem.run_bind]
        exact congrArg (fun r : Result (Array Value) => r.andThen fun vs w' => (pure (if h : vs.size = 1 then vs[0] else .tuple vs) : Sem Value).run P w') hmap
      · rename_i hne
        have := (some_inv h3).1
        cases this
    · cases hr
  unfold lastC at h
  split at h
  · rename_i e1 st1 hev; exact main _ _ _ hev (.inl rfl) h
  · rename_i e1 st1 hev; exact main _ _ _ hev (.inr rfl) h
  · cases h
theorem Good.calls {f : Nat} {B : Code} (hf : P.funcs[f]? = some fn) (hb : fn.body = some B) (g : Good P fn B .lf ⟨0, .lf⟩) (w : World) : Calls P f #[] w fun e w' => e = .returned (.bool true) ∧ Below w.heap.size w w' := by
  refine calls_of_wp hf hb (Code.wp_mono ?_ (g wf_zero w.heap.size (fun _ => none) (fun _ => none) w w _ (env_init (ρ := fun _ => none) (args := []) (vs := []) .nil fn.ntmps) (by simp) rfl (fun n b _ hb => by simp at hb) ⟨Nat.le_refl _, fun n b e => (by cases e), fun n m b b' r r' e => (by cases e)⟩ (fun _ _ => rfl) (Below.refl _ _)))
  rintro ex a w' ⟨hx, hd, hr, hbel⟩
  rcases hx with rfl | rfl
  · exact ⟨hd, _, hr, rfl, hbel⟩
  · exact ⟨hd, _, hr, rfl, hbel⟩
/-! ### pieces of a loop: what is left of it is itself, begun in another state -/
def GoodR (P : Program) (fn : Func) (k : Nat) (b rest : Code) (n : Nat) (e : Env) (st : St) : Prop := Wf st → ∀ (B0 : Nat) (ρ : Rho) (τ : Mem) (w0 w : World) (a : Act), EnvRel ρ e a → fn.ntmps ≤ a.tmps.size → a.defers = [] → Agree ⟨false, [], 0, fn.ntmps⟩ st τ → Real ρ B0 τ w → (∀ n, st.nx ≤ n → ρ n = none) → Below B0 w0 w →
  Code.rounds P b (Exit.inBlock k (Exit.then (rest.wp P (Fin P fn B0 w0)) (Fin P fn B0 w0))) n a w
theorem GoodR.enter {k : Nat} {b rest : Code} {n : Nat} {e : Env} {st : St} (g : GoodR P fn k b rest n e st) : Good P fn (.seq (.block k (.loop b)) rest) e st := fun hwf B0 ρ τ w0 w a he ht hd hag hre hfr hb =>
  wp_seq (wp_block (wp_loop_rounds n (g hwf B0 ρ τ w0 w a he ht hd hag hre hfr hb)))
theorem GoodR.gc {k : Nat} {b rest : Code} {n : Nat} {e : Env} {st : St} {keep : List Nat} (g : GoodR P fn k b rest n e (Ev.gc keep st)) : GoodR P fn k b rest n e st := fun hwf B0 ρ τ w0 w a he ht hd hag hre hfr hb =>
  g (fun n hn => by
    cases h : (Ev.gc keep st).h.get n with
    | none => rfl
    | some b => have := gc_sub h; rw [hwf n hn] at this; cases this) B0 ρ τ w0 w a he ht hd (fun n b h1 h2 => hag n b h1 (gc_sub h2)) hre hfr hb
/-- some rounds -/
noncomputable def runR (G : CodeF) (c : Cx) (m : Nat) (b : Code) (e : Env) (st : St) : Option (Env × St) :=
  nr (fun e st => some (e, st)) (fun _ ih e st => match G c b e st with
    | some (.n, e, st) => ih e st
    | _ => none) m e st
noncomputable def stepR (G : CodeF) (c : Cx) (m : Nat) (b : Code) (keep : List Nat) (e : Env) (st : St) : Option (Env × St) := match runR G c m b e st with
  | some (e, st) => some (e, gc keep st)
  | none => none
theorem GoodR.run {G : CodeF} (hG : CodeSound P G) {k : Nat} {b rest : Code} {n : Nat} : ∀ {m : Nat} {e e1 : Env} {st st1 : St}, runR G ⟨false, [], 0, fn.ntmps⟩ m b e st = some (e1, st1) → GoodR P fn k b rest n e1 st1 → GoodR P fn k b rest (n + m) e st
  | 0, e, e1, st, st1, h, g => by
    have h' : (some (e, st) : Option (Env × St)) = some (e1, st1) := h
    injection h' with h'; injection h' with h1 h2; subst h1 h2
    exact g
  | m + 1, e, e1, st, st1, h, g => by
    have h' : (match G ⟨false, [], 0, fn.ntmps⟩ b e st with
      | some (.n, e, st) => runR G ⟨false, [], 0, fn.ntmps⟩ m b e st
      | _ => none) = some (e1, st1) := h
    clear h
    split at h'
    · rename_i e2 st2 hev
      have g2 := GoodR.run hG h' g
      intro hwf B0 ρ τ w0 w a' he ht hd hag hre hfr hb
      obtain ⟨s1, k1⟩ := hG _ _ _ _ _ _ _ hev hwf
      show Code.rounds P b _ ((n + m) + 1) a' w
      rw [rounds_succ]
      refine k1 B0 ρ τ w a' he ht hag hre (fun n h1 _ => hfr n h1) _ ?_
      intro ρ' a2 w2 l d he2 ht2 hd2 m2 b2
      exact g2 (s1.wf hwf) B0 ρ' _ w0 w2 a2 he2 ht2 (hd2.trans hd) (hag.step s1 hwf) m2 (fun n h1 => by
        cases e : ρ' n with
        | none => rfl
        | some r =>
          rcases d n r e with e | e
          · rw [hfr n (Nat.le_trans s1.le h1)] at e; cases e
          · omega) (hb.trans b2)
    · cases h'
theorem GoodR.step {G : CodeF} (hG : CodeSound P G) {k : Nat} {b rest : Code} {n m : Nat} {keep : List Nat} {e e1 : Env} {st st1 : St} (h : stepR G ⟨false, [], 0, fn.ntmps⟩ m b keep e st = some (e1, st1)) (g : GoodR P fn k b rest n e1 st1) : GoodR P fn k b rest (n + m) e st := by
  unfold stepR at h
  split at h
  · rename_i e2 st2 hr
    injection h with h; injection h with h1 h2; subst h1 h2
    exact GoodR.run hG hr g.gc
  · cases h
noncomputable def exitR (G : CodeF) (c : Cx) (k : Nat) (b : Code) (keep : List Nat) (e : Env) (st : St) : Option (Env × St) := match G c (.loop b) e st with
  | some (.ex j, e, st) => (match Nat.beq j k with | true => some (e, gc keep st) | false => none)
  | _ => none
theorem evQ_loop (hn : namesOk P = true) (hm : P.follows .mixedOrders = true) (n : Nat) : LoopSound P (evQ P n) := by
  rw [evQ_eq]
  exact (ev_ok (draw_sound (named_of hn) hm) (named_of hn) n).2
theorem GoodR.exit {G : CodeF} (hL : LoopSound P G) {k : Nat} {b rest : Code} {keep : List Nat} {e e1 : Env} {st st1 : St} (h : exitR G ⟨false, [], 0, fn.ntmps⟩ k b keep e st = some (e1, st1)) (g : Good P fn rest e1 st1) : ∃ n, GoodR P fn k b rest n e st := by
  unfold exitR at h
  split at h
  · rename_i j e2 st2 hev
    split at h
    · rename_i hj
      have hj' : j = k := by simpa [nbeq] using hj
      subst hj'
      injection h with h; injection h with h1 h2; subst h1 h2
      have g2 := g.gc
      by_cases hwf : Wf st
      · obtain ⟨n, s1, k1⟩ := hL _ _ _ _ _ _ _ hev hwf
        refine ⟨n, fun _ B0 ρ τ w0 w a' he ht hd hag hre hfr hb => k1 B0 ρ τ w a' he ht hag hre (fun n h1 _ => hfr n h1) _ ?_⟩
        intro ρ' a2 w2 l d he2 ht2 hd2 m2 b2
        show Exit.inBlock j _ (.exit j) a2 w2
        simp only [Exit.inBlock, if_true]
        exact g2 (s1.wf hwf) B0 ρ' _ w0 w2 a2 he2 ht2 (hd2.trans hd) (hag.step s1 hwf) m2 (fun n h1 => by
          cases e : ρ' n with
          | none => rfl
          | some r =>
            rcases d n r e with e | e
            · rw [hfr n (Nat.le_trans s1.le h1)] at e; cases e
            · omega) (hb.trans b2)
      · exact ⟨0, fun h => absurd h hwf⟩
    · cases h
  · cases h
noncomputable def lbC (B : Code) : Code := match B with | .seq (.block _ (.loop b)) _ => b | _ => .skip
/-- with what came in -/
theorem Good.callsA {f : Nat} {B : Code} {args : List V} {vs : List Value} (hf : P.funcs[f]? = some fn) (hb : fn.body = some B) (ha : RelL (fun _ => none) args vs) (hl : vs.length ≤ fn.ntmps) (g : Good P fn B (sets args 0 .lf) ⟨0, .lf⟩) (w : World) : Calls P f ⟨vs⟩ w fun e w' => e = .returned (.bool true) ∧ Below w.heap.size w w' := by
  refine calls_of_wp hf hb (Code.wp_mono ?_ (g wf_zero w.heap.size (fun _ => none) (fun _ => none) w w _ (env_init (ρ := fun _ => none) ha fn.ntmps) (by simp; omega) rfl (fun n b _ hb => by simp at hb) ⟨Nat.le_refl _, fun n b e => (by cases e), fun n m b b' r r' e => (by cases e)⟩ (fun _ _ => rfl) (Below.refl _ _)))
  rintro ex a w' ⟨hx, hd, hr, hbel⟩
  rcases hx with rfl | rfl
  · exact ⟨hd, _, hr, rfl, hbel⟩
  · exact ⟨hd, _, hr, rfl, hbel⟩
end
end Go.Proofs.YtiifofhigjoegaaGreatDoor.Ev
namespace Go.Proofs.YtiifofhigjoegaaGreatDoor.Ev
open Go.RowKit

noncomputable def flat (c : Code) : List Code := Code.rec (motive := fun _ => List Code) [.skip] (fun i o d => [.region i o d]) (fun _ _ x y => x ++ y) (fun o a b _ _ => [.cond o a b]) (fun i b _ => [.block i b]) (fun b _ => [.loop b]) (fun o t a b _ _ => [.rangeFunc o t a b]) (fun i => [.exit i]) (fun b _ => [.scope b]) (fun i => [.label i]) (fun i => [.goto i]) [.ret] (fun s => [.refuse s]) c
def wpL (P : Program) (Q : Exit → Act → World → Prop) : List Code → Act → World → Prop
  | [], a, w => Q .normal a w
  | x :: l, a, w => x.wp P (Exit.then (wpL P Q l) Q) a w
theorem flat_wp {P : Program} {Q : Exit → Act → World → Prop} : ∀ (c : Code) (l : List Code) (a : Act) (w : World), wpL P Q (flat c ++ l) a w → c.wp P (Exit.then (wpL P Q l) Q) a w := by
  intro c
  induction c with
  | seq x y ihx ihy =>
    intro l a w h
    have h' : wpL P Q ((flat x ++ flat y) ++ l) a w := h
    rw [List.append_assoc] at h'
    refine wp_seq (wp_mono (ihx _ a w h') fun ex a w h => ?_)
    cases ex with
    | normal => exact ihy l a w h
    | _ => exact h
  | _ => exact fun l a w h => h
noncomputable def dropL (m : Nat) (l : List Code) : List Code := nr (fun l => l) (fun _ ih l => match l with | _ :: l => ih l | [] => []) m l
noncomputable def runS (G : CodeF) (c : Cx) (m : Nat) (l : List Code) (e : Env) (st : St) : Option (Env × St) :=
  nr (fun _ e st => some (e, st)) (fun _ ih l e st => match l with
    | a :: l => (match G c a e st with
      | some (.n, e, st) => ih l e st
      | _ => none)
    | [] => none) m l e st
noncomputable def stepS (G : CodeF) (c : Cx) (m : Nat) (l : List Code) (keep : List Nat) (e : Env) (st : St) : Option (Env × St) := match runS G c m l e st with
  | some (e, st) => some (e, gc keep st)
  | none => none
noncomputable def lastS (P : Program) (G : CodeF) (fn : Func) (m : Nat) (l : List Code) (e : Env) (st : St) : Bool := match runS G ⟨false, [], 0, fn.ntmps⟩ m l e st with
  | some (e, st) => (match dropL m l with
    | x :: _ => (match G ⟨false, [], 0, fn.ntmps⟩ x e st with
      | some (.ret, e, st) => (match resOf P ⟨false, [], 0, fn.ntmps⟩ e st fn.results.toList fun l => (match l with | [x] => some (x, st) | l => some (.t l, st)) with | some (.c (.bool true), _) => true | _ => false)
      | _ => false)
    | [] => false)
  | none => false
def GoodL (P : Program) (fn : Func) (l : List Code) (e : Env) (st : St) : Prop := Wf st → ∀ (B0 : Nat) (ρ : Rho) (τ : Mem) (w0 w : World) (a : Act), EnvRel ρ e a → fn.ntmps ≤ a.tmps.size → a.defers = [] → Agree ⟨false, [], 0, fn.ntmps⟩ st τ → Real ρ B0 τ w → (∀ n, st.nx ≤ n → ρ n = none) → Below B0 w0 w → wpL P (Fin P fn B0 w0) l a w
def GoodLR (P : Program) (fn : Func) (k : Nat) (b : Code) (l : List Code) (n : Nat) (e : Env) (st : St) : Prop := Wf st → ∀ (B0 : Nat) (ρ : Rho) (τ : Mem) (w0 w : World) (a : Act), EnvRel ρ e a → fn.ntmps ≤ a.tmps.size → a.defers = [] → Agree ⟨false, [], 0, fn.ntmps⟩ st τ → Real ρ B0 τ w → (∀ n, st.nx ≤ n → ρ n = none) → Below B0 w0 w →
  Code.rounds P b (Exit.inBlock k (Exit.then (wpL P (Fin P fn B0 w0) l) (Fin P fn B0 w0))) n a w
section
variable {P : Program} {fn : Func}
theorem dom_none {ρ ρ' : Rho} {st st' : St} (hfr : ∀ n, st.nx ≤ n → ρ n = none) (hle : st.nx ≤ st'.nx) (d : Dom ρ ρ' st st') : ∀ n, st'.nx ≤ n → ρ' n = none := fun n h1 => by
  cases e : ρ' n with
  | none => rfl
  | some r =>
    rcases d n r e with e | e
    · rw [hfr n (Nat.le_trans hle h1)] at e; cases e
    · omega
theorem gc_wf {keep : List Nat} {st : St} (hwf : Wf st) : Wf (gc keep st) := fun n hn => by
  cases h : (gc keep st).h.get n with
  | none => rfl
  | some b => have := gc_sub h; rw [hwf n hn] at this; cases this
theorem GoodL.gc {l : List Code} {e : Env} {st : St} {keep : List Nat} (k : GoodL P fn l e (Ev.gc keep st)) : GoodL P fn l e st := fun hwf B0 ρ τ w0 w a he ht hd hag hre hfr hb =>
  k (gc_wf hwf) B0 ρ τ w0 w a he ht hd (fun n b h1 h2 => hag n b h1 (gc_sub h2)) hre hfr hb
theorem GoodLR.gc {k : Nat} {b : Code} {l : List Code} {n : Nat} {e : Env} {st : St} {keep : List Nat} (g : GoodLR P fn k b l n e (Ev.gc keep st)) : GoodLR P fn k b l n e st := fun hwf B0 ρ τ w0 w a he ht hd hag hre hfr hb =>
  g (gc_wf hwf) B0 ρ τ w0 w a he ht hd (fun n b h1 h2 => hag n b h1 (gc_sub h2)) hre hfr hb
theorem GoodL.run {G : CodeF} (hG : CodeSound P G) : ∀ {m : Nat} {l : List Code} {e e1 : Env} {st st1 : St}, runS G ⟨false, [], 0, fn.ntmps⟩ m l e st = some (e1, st1) → GoodL P fn (dropL m l) e1 st1 → GoodL P fn l e st
  | 0, l, e, e1, st, st1, h, k => by
    have h' : (some (e, st) : Option (Env × St)) = some (e1, st1) := h
    injection h' with h'; injection h' with h1 h2; subst h1 h2
    exact k
  | m + 1, [], e, e1, st, st1, h, k => by cases h
  | m + 1, a :: l, e, e1, st, st1, h, k => by
    have h' : (match G ⟨false, [], 0, fn.ntmps⟩ a e st with
        | some (.n, e, st) => runS G ⟨false, [], 0, fn.ntmps⟩ m l e st
        | _ => none) = some (e1, st1) := h
    have k' : GoodL P fn (dropL m l) e1 st1 := k
    clear h k
    split at h'
    · rename_i e2 st2 hev
      have g2 := GoodL.run hG h' k'
      intro hwf B0 ρ τ w0 w a' he ht hd hag hre hfr hb
      obtain ⟨s1, k1⟩ := hG _ _ _ _ _ _ _ hev hwf
      show Code.wp P a _ a' w
      refine k1 B0 ρ τ w a' he ht hag hre (fun n h1 _ => hfr n h1) _ ?_
      intro ρ' a2 w2 l d he2 ht2 hd2 m2 b2
      exact g2 (s1.wf hwf) B0 ρ' _ w0 w2 a2 he2 ht2 (hd2.trans hd) (hag.step s1 hwf) m2 (dom_none hfr s1.le d) (hb.trans b2)
    · cases h'
theorem GoodL.step {G : CodeF} (hG : CodeSound P G) {m : Nat} {l : List Code} {keep : List Nat} {e e1 : Env} {st st1 : St} (h : stepS G ⟨false, [], 0, fn.ntmps⟩ m l keep e st = some (e1, st1)) (k : GoodL P fn (dropL m l) e1 st1) : GoodL P fn l e st := by
  unfold stepS at h
  split at h
  · rename_i e2 st2 hr
    injection h with h; injection h with h1 h2; subst h1 h2
    exact GoodL.run hG hr k.gc
  · cases h
theorem GoodL.ret {G : CodeF} (hG : CodeSound P G) {x : Code} {l : List Code} {e : Env} {st : St} (h : (match G ⟨false, [], 0, fn.ntmps⟩ x e st with
      | some (.ret, e, st) => (match resOf P ⟨false, [], 0, fn.ntmps⟩ e st fn.results.toList fun l => (match l with | [x] => some (x, st) | l => some (.t l, st)) with | some (.c (.bool true), _) => true | _ => false)
      | _ => false) = true) : GoodL P fn (x :: l) e st := by
  split at h
  · rename_i e1 st1 hev
    have hl : lastC P G fn x e st = true := by
      unfold lastC
      rw [hev]
      exact h
    have g := Good.last hG hl
    intro hwf B0 ρ τ w0 w a he ht hd hag hre hfr hb
    obtain ⟨s1, k1⟩ := hG _ _ _ _ _ _ _ hev hwf
    have g1 := g hwf B0 ρ τ w0 w a he ht hd hag hre hfr hb
    show Code.wp P x _ a w
    refine k1 B0 ρ τ w a he ht hag hre (fun n h1 _ => hfr n h1) _ ?_
    intro ρ' a2 w2 l d he2 ht2 hd2 m2 b2
    show Fin P fn B0 w0 .ret a2 w2
    split at h
    · rename_i st2 hres
      obtain ⟨rs, h3, h4⟩ := resOf_ok hres
      obtain ⟨xs, q1, q2⟩ := h4 B0 ρ' _ w2 a2 he2 (hag.step s1 hwf) m2
      split at h3
      · obtain ⟨rfl, _⟩ := some_inv h3
        obtain ⟨yv, rfl, hy⟩ := relL1 q1
        simp only [Rel] at hy
        obtain ⟨rfl, _⟩ := hy
        refine ⟨.inr rfl, hd2.trans hd, ?_, hb.trans b2⟩
        have hmap : (fn.results.mapM fun x => (match x with | .tmp t => pure (a2.tmps.getD t undef) | .cell q t => do loadVar t (← asAddr (a2.tmps.getD q undef)) : Sem Value)).run P w2 = .ok [Value.bool true].toArray w2 := by
          have q2' : (fn.results.toList.mapM fun x => (match x with | .tmp t => pure (a2.tmps.getD t undef) | .cell q t => do loadVar t (← asAddr (a2.tmps.getD q undef)) : Sem Value)).run P w2 = .ok [Value.bool true] w2 := q2
          rw [Array.mapM_eq_mapM_toList]
          simp only [Sem.run_map, q2', Result.andThen_ok]
        unfold results
        rw [Sem.run_bind]
        exact congrArg (fun r : Result (Array Value) => r.andThen fun vs w' => (pure (if h : vs.size = 1 then vs[0] else .tuple vs) : Sem Value).run P w') hmap
      · have := (some_inv h3).1
        cases this
    · cases h
  · cases h
theorem GoodL.last {G : CodeF} (hG : CodeSound P G) {m : Nat} {l : List Code} {e : Env} {st : St} (h : lastS P G fn m l e st = true) : GoodL P fn l e st := by
  unfold lastS at h
  split at h
  · rename_i e1 st1 hr
    split at h
    · rename_i x l' hd
      exact GoodL.run hG hr (by rw [hd]; exact GoodL.ret hG h)
    · cases h
  · cases h
theorem GoodLR.enter {k : Nat} {b : Code} {l : List Code} {n : Nat} {e : Env} {st : St} (g : GoodLR P fn k b l n e st) : GoodL P fn (.block k (.loop b) :: l) e st := fun hwf B0 ρ τ w0 w a he ht hd hag hre hfr hb =>
  wp_block (wp_loop_rounds n (g hwf B0 ρ τ w0 w a he ht hd hag hre hfr hb))
theorem GoodLR.run {G : CodeF} (hG : CodeSound P G) {k : Nat} {b : Code} {l : List Code} {n : Nat} : ∀ {m : Nat} {e e1 : Env} {st st1 : St}, runR G ⟨false, [], 0, fn.ntmps⟩ m b e st = some (e1, st1) → GoodLR P fn k b l n e1 st1 → GoodLR P fn k b l (n + m) e st
  | 0, e, e1, st, st1, h, g => by
    have h' : (some (e, st) : Option (Env × St)) = some (e1, st1) := h
    injection h' with h'; injection h' with h1 h2; subst h1 h2
    exact g
  | m + 1, e, e1, st, st1, h, g => by
    have h' : (match G ⟨false, [], 0, fn.ntmps⟩ b e st with
      | some (.n, e, st) => runR G ⟨false, [], 0, fn.ntmps⟩ m b e st
      | _ => none) = some (e1, st1) := h
    clear h
    split at h'
    · rename_i e2 st2 hev
      have g2 := GoodLR.run hG h' g
      intro hwf B0 ρ τ w0 w a' he ht hd hag hre hfr hb
      obtain ⟨s1, k1⟩ := hG _ _ _ _ _ _ _ hev hwf
      show Code.rounds P b _ ((n + m) + 1) a' w
      rw [rounds_succ]
      refine k1 B0 ρ τ w a' he ht hag hre (fun n h1 _ => hfr n h1) _ ?_
      intro ρ' a2 w2 l d he2 ht2 hd2 m2 b2
      exact g2 (s1.wf hwf) B0 ρ' _ w0 w2 a2 he2 ht2 (hd2.trans hd) (hag.step s1 hwf) m2 (dom_none hfr s1.le d) (hb.trans b2)
    · cases h'
theorem GoodLR.step {G : CodeF} (hG : CodeSound P G) {k : Nat} {b : Code} {l : List Code} {m : Nat} {keep : List Nat} {e e1 : Env} {st st1 : St} (h : stepR G ⟨false, [], 0, fn.ntmps⟩ m b keep e st = some (e1, st1)) (g : ∃ n, GoodLR P fn k b l n e1 st1) : ∃ n, GoodLR P fn k b l n e st := by
  obtain ⟨n, g⟩ := g
  unfold stepR at h
  split at h
  · rename_i e2 st2 hr
    injection h with h; injection h with h1 h2; subst h1 h2
    exact ⟨_, GoodLR.run hG hr g.gc⟩
  · cases h
theorem GoodLR.exit {G : CodeF} (hL : LoopSound P G) {k : Nat} {b : Code} {l : List Code} {keep : List Nat} {e e1 : Env} {st st1 : St} (h : exitR G ⟨false, [], 0, fn.ntmps⟩ k b keep e st = some (e1, st1)) (g : GoodL P fn l e1 st1) : ∃ n, GoodLR P fn k b l n e st := by
  unfold exitR at h
  split at h
  · rename_i j e2 st2 hev
    split at h
    · rename_i hj
      have hj' : j = k := by simpa [nbeq] using hj
      subst hj'
      injection h with h; injection h with h1 h2; subst h1 h2
      have g2 := g.gc
      by_cases hwf : Wf st
      · obtain ⟨n, s1, k1⟩ := hL _ _ _ _ _ _ _ hev hwf
        refine ⟨n, fun _ B0 ρ τ w0 w a' he ht hd hag hre hfr hb => k1 B0 ρ τ w a' he ht hag hre (fun n h1 _ => hfr n h1) _ ?_⟩
        intro ρ' a2 w2 l d he2 ht2 hd2 m2 b2
        show Exit.inBlock j _ (.exit j) a2 w2
        simp only [Exit.inBlock, if_true]
        exact g2 (s1.wf hwf) B0 ρ' _ w0 w2 a2 he2 ht2 (hd2.trans hd) (hag.step s1 hwf) m2 (dom_none hfr s1.le d) (hb.trans b2)
      · exact ⟨0, fun h => absurd h hwf⟩
    · cases h
  · cases h
noncomputable def lbL (l : List Code) : Code := match l with | .block _ (.loop b) :: _ => b | _ => .skip
theorem GoodL.loop {k : Nat} {l : List Code} {e : Env} {st : St} (hl : l = .block k (.loop (lbL l)) :: dropL 1 l) (g : ∃ n, GoodLR P fn k (lbL l) (dropL 1 l) n e st) : GoodL P fn l e st := by
  obtain ⟨n, g⟩ := g
  rw [hl]
  exact g.enter
/-- the whole body -/
theorem GoodL.good {B : Code} {e : Env} {st : St} (g : GoodL P fn (flat B) e st) : Good P fn B e st := fun hwf B0 ρ τ w0 w a he ht hd hag hre hfr hb => by
  have h := flat_wp (Q := Fin P fn B0 w0) B [] a w (by rw [List.append_nil]; exact g hwf B0 ρ τ w0 w a he ht hd hag hre hfr hb)
  refine wp_mono h fun ex a w h => ?_
  cases ex <;> exact h
end
end Go.Proofs.YtiifofhigjoegaaGreatDoor.Ev
namespace Go.Proofs.YtiifofhigjoegaaGreatDoor.Ev
open Go.RowKit

/-- in a loop, ahead of a round -/
def LoopW (P : Program) (c : Code) (Q : Exit → Act → World → Prop) (a : Act) (w : World) : Prop :=
  ∀ b k cs, ∃ e a' w', Q e a' w' ∧ Arrives P (lone (b.at a (.code c :: .inLoop c :: k)) cs w) b k cs e a' w'
theorem LoopW.enter {P : Program} {Q : Exit → Act → World → Prop} {a : Act} {w : World} {c : Code} (h : LoopW P c Q a w) : (Code.loop c).wp P Q a w := fun b k cs => by
  obtain ⟨e, a', w', hq, harr⟩ := h b k cs
  exact ⟨e, a', w', hq, .of_steps (.one step_loop) harr⟩
theorem LoopW.unfold {P : Program} {Q : Exit → Act → World → Prop} {a : Act} {w : World} {c : Code} (h : c.wp P (Exit.then (LoopW P c Q) Q) a w) : LoopW P c Q a w := by
  intro b k cs
  obtain ⟨e, a₁, w₁, hq, harr⟩ := h b (.inLoop c :: k) cs
  cases e with
  | normal =>
    obtain ⟨e₂, a₂, w₂, hq₂, harr₂⟩ := hq b k cs
    exact ⟨e₂, a₂, w₂, hq₂, .of_steps (Steps.trans harr (.one step_inLoop)) harr₂⟩
  | exit id => exact ⟨_, a₁, w₁, hq, .pass (x := .inLoop c) rfl (fun _ _ => .inl (by simp)) harr⟩
  | goto l => exact ⟨_, a₁, w₁, hq, .pass (x := .inLoop c) rfl (fun _ _ => .inl (by simp)) harr⟩
  | ret => exact ⟨_, a₁, w₁, hq, .pass (x := .inLoop c) rfl (fun _ _ => .inl (by simp)) harr⟩
  | panic ch => exact ⟨_, a₁, w₁, hq, .pass (x := .inLoop c) rfl (fun _ _ => .inl (by simp)) harr⟩
  | outgrown => exact ⟨_, a₁, w₁, hq, .pass (x := .inLoop c) rfl (fun _ _ => .inl (by simp)) harr⟩

inductive Fr where
  | sq (l : List Code)
  | bk (k : Nat)
  | lp (b : Code)
  | op (ops : Array Oper) (l : List Oper)
  | cl (fn : Func) (e : Env) (nt : Nat) (d : Option Nat)
def never : Exit → Act → World → Prop := fun _ _ _ => False
/-- what comes behind -/
def kont (P : Program) (F : Exit → Act → World → Prop) : List Fr → List Act → Exit → Act → World → Prop
  | [], _ => F
  | .sq l :: S, as => Exit.then (wpL P (kont P F S as) l) (kont P F S as)
  | .bk k :: S, as => Exit.inBlock k (kont P F S as)
  | .lp b :: S, as => Exit.then (LoopW P b (kont P F S as)) (kont P F S as)
  | .op ops l :: S, as => Exit.then (wpList P ops (kont P F S as) l) never
  | .cl fn _ _ d :: S, a :: as => fun ex a' w => (ex = .normal ∨ ex = .ret) ∧ a'.defers = [] ∧ ∃ v, (results fn a'.tmps).run P w = .ok v w ∧ kont P F S as .normal (a.put d v) w
  | .cl .. :: _, [] => never
def StRel (ρ : Rho) : List Fr → List Act → Prop
  | [], _ => True
  | .cl _ e nt d :: S, a :: as => EnvRel ρ e a ∧ nt ≤ a.tmps.size ∧ a.defers = [] ∧ (∀ u, d = some u → u < nt) ∧ StRel ρ S as
  | .cl .. :: _, [] => False
  | .sq _ :: S, as => StRel ρ S as
  | .bk _ :: S, as => StRel ρ S as
  | .lp _ :: S, as => StRel ρ S as
  | .op _ _ :: S, as => StRel ρ S as
theorem StRel.mono {ρ ρ' : Rho} (hρ : ρ.le ρ') : ∀ (S : List Fr) (as : List Act), StRel ρ S as → StRel ρ' S as
  | [], _, _ => trivial
  | .cl _ _ _ _ :: S, _ :: as, h => ⟨h.1.mono hρ, h.2.1, h.2.2.1, h.2.2.2.1, StRel.mono hρ S as h.2.2.2.2⟩
  | .cl .. :: _, [], h => h
  | .sq _ :: S, as, h => StRel.mono hρ S as h
  | .bk _ :: S, as, h => StRel.mono hρ S as h
  | .lp _ :: S, as, h => StRel.mono hρ S as h
  | .op _ _ :: S, as, h => StRel.mono hρ S as h
/-- what lay below the first name and was not told stays untold -/
def Old (st0 st : St) : Prop := ∀ n, n < st0.nx → st0.h.get n = none → st.h.get n = none
def Inv (st0 st : St) (τ0 τ : Mem) : Prop := ∀ n, (n < st0.nx ∧ st0.h.get n = none) ∨ st.nx ≤ n → τ n = τ0 n
/-- how a run stands to its beginning -/
structure At (st0 st1 st : St) (B0 : Nat) (ρ0 ρ : Rho) (τ0 τ : Mem) (w0 w : World) : Prop where
  free : ∀ n, st0.nx ≤ n → n < st1.nx → ρ0 n = none
  le : ρ0.le ρ
  dom : ∀ n r, ρ n = some r → ρ0 n = some r ∨ (st0.nx ≤ n ∧ n < st.nx)
  inv : Inv st0 st τ0 τ
  agr : Agree ⟨false, [], 0, 0⟩ st τ
  real : Real ρ B0 τ w
  bel : Below B0 w0 w
theorem At.fresh {st0 st1 st st' : St} {B0 : Nat} {ρ0 ρ : Rho} {τ0 τ : Mem} {w0 w : World} (h : At st0 st1 st B0 ρ0 ρ τ0 τ w0 w) (h0 : st0.nx ≤ st.nx) (k : st'.nx ≤ st1.nx) : Fresh ρ st st' := fun n h1 h2 => by
  cases e : ρ n with
  | none => rfl
  | some r =>
    rcases h.dom n r e with e | e
    · rw [h.free n (by omega) (by omega)] at e; cases e
    · omega
theorem At.step {st0 st1 st st' : St} {nt : Nat} {B0 : Nat} {ρ0 ρ ρ' : Rho} {τ0 τ : Mem} {w0 w w' : World} (h : At st0 st1 st B0 ρ0 ρ τ0 τ w0 w) (hwf : Wf st) (ho : Old st0 st) (h0 : st0.nx ≤ st.nx) (s : StepOk ⟨false, [], 0, nt⟩ st st') (l : ρ.le ρ') (d : Dom ρ ρ' st st') (m : Real ρ' B0 (ov st st' τ) w') (b : Below B0 w w') : At st0 st1 st' B0 ρ0 ρ' τ0 (ov st st' τ) w0 w' := by
  refine ⟨h.free, h.le.trans l, fun n r e => ?_, fun n hn => ?_, ?_, m, h.bel.trans b⟩
  · rcases d n r e with e | e
    · rcases h.dom n r e with e | e
      · exact .inl e
      · exact .inr ⟨e.1, Nat.lt_of_lt_of_le e.2 s.le⟩
    · exact .inr ⟨Nat.le_trans h0 e.1, e.2⟩
  · have hle := s.le
    have e : ov st st' τ n = τ n := by
      unfold ov
      rcases hn with hn | hn
      · rw [if_neg (by omega)]
        by_cases hq : st.h.get n = st'.h.get n
        · rw [if_pos hq]
        · exact absurd (ho n hn.1 hn.2) (s.chg n (by omega) hq).2.1
      · rw [if_neg (by omega), if_pos (by rw [hwf n (by omega), s.wf hwf n hn])]
    rw [e]
    refine h.inv n ?_
    rcases hn with hn | hn
    · exact .inl hn
    · exact .inr (Nat.le_trans s.le hn)
  · have s' : StepOk ⟨false, [], 0, 0⟩ st st' := ⟨s.le, s.chg, s.wf⟩
    exact h.agr.step s' hwf
theorem Old.step {st0 st st' : St} {c : Cx} (h : Old st0 st) (h0 : st0.nx ≤ st.nx) (s : StepOk c st st') : Old st0 st' := fun n h1 h2 => by
  have e := h n h1 h2
  by_cases hq : st.h.get n = st'.h.get n
  · rw [← hq]; exact e
  · exact absurd e (s.chg n (by omega) hq).2.1
def Ended (P : Program) (fn : Func) (st0 : St) (v : V) (st1 : St) (B0 : Nat) (ρ0 : Rho) (τ0 : Mem) (w0 : World) (F : Exit → Act → World → Prop) : Prop :=
  ∀ (ρ : Rho) (τ : Mem) (w : World) (a : Act) (ex : Exit) (v' : Value), At st0 st1 st1 B0 ρ0 ρ τ0 τ w0 w → (ex = .normal ∨ ex = .ret) → a.defers = [] → Rel ρ v v' → (results fn a.tmps).run P w = .ok v' w → F ex a w
def GoodM (P : Program) (fn : Func) (st0 : St) (v : V) (st1 : St) (S : List Fr) (nt : Nat) (l : List Code) (e : Env) (st : St) : Prop := Wf st → Old st0 st → st0.nx ≤ st.nx → (st.nx ≤ st1.nx ∧ Old st0 st1 ∧ Wf st1) ∧
  ∀ (B0 : Nat) (ρ0 : Rho) (τ0 : Mem) (w0 : World) (ρ : Rho) (τ : Mem) (w : World) (as : List Act) (a : Act) (F : Exit → Act → World → Prop), At st0 st1 st B0 ρ0 ρ τ0 τ w0 w → StRel ρ S as → EnvRel ρ e a → nt ≤ a.tmps.size → a.defers = [] → Ended P fn st0 v st1 B0 ρ0 τ0 w0 F → wpL P (kont P F S as) l a w
section
variable {P : Program} {fn : Func} {st0 st1 : St} {v : V} {S : List Fr} {nt : Nat} {l : List Code} {e : Env} {st : St}
theorem GoodM.gc {keep : List Nat} (k : GoodM P fn st0 v st1 S nt l e (Ev.gc keep st)) : GoodM P fn st0 v st1 S nt l e st := fun hwf ho h0 => by
  have ho' : Old st0 (Ev.gc keep st) := fun n h1 h2 => by
    cases h : (Ev.gc keep st).h.get n with
    | none => rfl
    | some b => have := gc_sub h; rw [ho n h1 h2] at this; cases this
  obtain ⟨k1, k2⟩ := k (gc_wf hwf) ho' h0
  exact ⟨k1, fun B0 ρ0 τ0 w0 ρ τ w as a F h hs he ht hd hF => k2 B0 ρ0 τ0 w0 ρ τ w as a F ⟨h.free, h.le, h.dom, h.inv, fun n b h1 h2 => h.agr n b h1 (gc_sub h2), h.real, h.bel⟩ hs he ht hd hF⟩
theorem GoodM.run {G : CodeF} (hG : CodeSound P G) : ∀ {m : Nat} {l : List Code} {e e1 : Env} {st st2 : St}, runS G ⟨false, [], 0, nt⟩ m l e st = some (e1, st2) → GoodM P fn st0 v st1 S nt (dropL m l) e1 st2 → GoodM P fn st0 v st1 S nt l e st
  | 0, l, e, e1, st, st2, h, k => by
    have h' : (some (e, st) : Option (Env × St)) = some (e1, st2) := h
    injection h' with h'; injection h' with h1 h2; subst h1 h2
    exact k
  | m + 1, [], e, e1, st, st2, h, k => by cases h
  | m + 1, a :: l, e, e1, st, st2, h, k => by
    have h' : (match G ⟨false, [], 0, nt⟩ a e st with
        | some (.n, e, st) => runS G ⟨false, [], 0, nt⟩ m l e st
        | _ => none) = some (e1, st2) := h
    have k' : GoodM P fn st0 v st1 S nt (dropL m l) e1 st2 := k
    clear h k
    split at h'
    · rename_i e2 st3 hev
      have g2 := GoodM.run hG h' k'
      intro hwf ho h0
      obtain ⟨s1, k1⟩ := hG _ _ _ _ _ _ _ hev hwf
      obtain ⟨q1, q2⟩ := g2 (s1.wf hwf) (ho.step h0 s1) (Nat.le_trans h0 s1.le)
      refine ⟨⟨Nat.le_trans s1.le q1.1, q1.2⟩, fun B0 ρ0 τ0 w0 ρ τ w as a' F h hs he ht hd hF => ?_⟩
      show Code.wp P a _ a' w
      refine k1 B0 ρ τ w a' he ht (fun n b h1 h2 => h.agr n b h1 h2) h.real (h.fresh h0 q1.1) _ ?_
      intro ρ' a2 w2 l d he2 ht2 hd2 m2 b2
      exact q2 B0 ρ0 τ0 w0 ρ' _ w2 as a2 F (h.step hwf ho h0 s1 l d m2 b2) (hs.mono l) he2 ht2 (hd2.trans hd) hF
    · cases h'
theorem GoodM.step {G : CodeF} (hG : CodeSound P G) {m : Nat} {keep : List Nat} {e1 : Env} {st2 : St} (h : stepS G ⟨false, [], 0, nt⟩ m l keep e st = some (e1, st2)) (k : GoodM P fn st0 v st1 S nt (dropL m l) e1 st2) : GoodM P fn st0 v st1 S nt l e st := by
  unfold stepS at h
  split at h
  · rename_i e2 st3 hr
    injection h with h; injection h with h1 h2; subst h1 h2
    exact GoodM.run hG hr k.gc
  · cases h
/-! ### along the code -/
noncomputable def popEx (k : Nat) (S : List Fr) : Option (List Fr) := lr none (fun x S ih => match x with
  | .sq _ => ih
  | .lp _ => ih
  | .bk j => (match Nat.beq k j with | true => some S | false => ih)
  | _ => none) S
noncomputable def popRt (S : List Fr) : List Fr := lr [] (fun x S ih => match x with
  | .sq _ => ih
  | .lp _ => ih
  | .bk _ => ih
  | x => x :: S) S
theorem popEx_ok {F : Exit → Act → World → Prop} {k : Nat} {as : List Act} {a : Act} {w : World} : ∀ {S S' : List Fr}, popEx k S = some S' → kont P F S' as .normal a w → kont P F S as (.exit k) a w
  | [], _, h, _ => by cases h
  | .sq _ :: S, S', h, g => popEx_ok (S := S) (S' := S') h g
  | .lp _ :: S, S', h, g => popEx_ok (S := S) (S' := S') h g
  | .bk j :: S, S', h, g => by
    have h' : (match Nat.beq k j with | true => some S | false => popEx k S) = some S' := h
    show Exit.inBlock j _ (.exit k) a w
    split at h'
    · rename_i hj
      have hj' : k = j := by simpa [nbeq] using hj
      injection h' with h'
      subst h' hj'
      simp only [Exit.inBlock, if_true]
      exact g
    · rename_i hj
      have hj' : ¬ k = j := by simpa [nbeq] using hj
      simp only [Exit.inBlock, hj', if_false]
      exact popEx_ok h' g
  | .op _ _ :: _, _, h, _ => by cases h
  | .cl _ _ _ _ :: _, _, h, _ => by cases h
theorem popEx_st {ρ : Rho} {k : Nat} {as : List Act} : ∀ {S S' : List Fr}, popEx k S = some S' → StRel ρ S as → StRel ρ S' as
  | [], _, h, _ => by cases h
  | .sq _ :: S, S', h, g => popEx_st (S := S) (S' := S') h g
  | .lp _ :: S, S', h, g => popEx_st (S := S) (S' := S') h g
  | .bk j :: S, S', h, g => by
    have h' : (match Nat.beq k j with | true => some S | false => popEx k S) = some S' := h
    split at h'
    · injection h' with h'
      subst h'
      exact g
    · exact popEx_st (S := S) h' g
  | .op _ _ :: _, _, h, _ => by cases h
  | .cl _ _ _ _ :: _, _, h, _ => by cases h
theorem popRt_ok {F : Exit → Act → World → Prop} {as : List Act} {a : Act} {w : World} : ∀ {S : List Fr}, kont P F (popRt S) as .ret a w → kont P F S as .ret a w
  | [], g => g
  | .sq _ :: S, g => popRt_ok (S := S) g
  | .lp _ :: S, g => popRt_ok (S := S) g
  | .bk _ :: S, g => popRt_ok (S := S) g
  | .op _ _ :: _, g => g
  | .cl _ _ _ _ :: _, g => g
theorem popRt_st {ρ : Rho} {as : List Act} : ∀ {S : List Fr}, StRel ρ S as → StRel ρ (popRt S) as
  | [], g => g
  | .sq _ :: S, g => popRt_st (S := S) g
  | .lp _ :: S, g => popRt_st (S := S) g
  | .bk _ :: S, g => popRt_st (S := S) g
  | .op _ _ :: _, g => g
  | .cl _ _ _ _ :: _, g => g
noncomputable def nav1 (e : Env) (S : List Fr) (l : List Code) : List Fr × List Code := match l with
  | [] => (match S with
    | .sq l :: S => (S, l)
    | .bk _ :: S => (S, [])
    | .lp b :: S => (.lp b :: S, flat b)
    | .op _ [] :: S => (S, [])
    | _ => (S, []))
  | .skip :: l => (S, l)
  | .label _ :: l => (S, l)
  | .seq a b :: l => (S, flat (.seq a b) ++ l)
  | .block k b :: l => (.bk k :: .sq l :: S, flat b)
  | .loop b :: l => (.lp b :: .sq l :: S, flat b)
  | .cond x a b :: l => (match (opd e x some : Option V) with
    | some (.c (.bool true)) => (S, flat a ++ l)
    | some (.c (.bool false)) => (S, flat b ++ l)
    | _ => (S, .cond x a b :: l))
  | .exit k :: l => (match popEx k S with
    | some S => (S, [])
    | none => (S, .exit k :: l))
  | .region _ ops false :: l => (.op ops ops.toList :: .sq l :: S, [])
  | l => (S, l)
noncomputable def navs (n : Nat) (e : Env) (S : List Fr) (l : List Code) : List Fr × List Code := nr (fun S l => (S, l)) (fun _ ih S l => Prod.rec (motive := fun _ => List Fr × List Code) (fun S l => ih S l) (nav1 e S l)) n S l
theorem flat_wpL {Q : Exit → Act → World → Prop} (c : Code) (l : List Code) (a : Act) (w : World) (h : wpL P Q (flat c ++ l) a w) : wpL P Q (c :: l) a w := flat_wp c l a w h
theorem flat_wp1 {Q : Exit → Act → World → Prop} (c : Code) (a : Act) (w : World) (h : wpL P Q (flat c) a w) : c.wp P Q a w := by
  have h1 := flat_wp (Q := Q) c [] a w (by rw [List.append_nil]; exact h)
  exact wp_mono h1 fun ex a w h => by cases ex <;> exact h
theorem GoodM.navOne (k : GoodM P fn st0 v st1 (nav1 e S l).1 nt (nav1 e S l).2 e st) : GoodM P fn st0 v st1 S nt l e st := by
  intro hwf ho h0
  obtain ⟨q1, q2⟩ := k hwf ho h0
  refine ⟨q1, fun B0 ρ0 τ0 w0 ρ τ w as a F hat hs he ht hd hF => ?_⟩
  clear k
  have k := fun h => q2 B0 ρ0 τ0 w0 ρ τ w as a F hat h he ht hd hF
  clear q2
  match l, S, hs, k with
  | [], [], hs, k => exact k hs
  | [], .sq l :: S, hs, k => exact k hs
  | [], .bk j :: S, hs, k => exact k hs
  | [], .lp b :: S, hs, k => exact LoopW.unfold (flat_wp1 b a w (k hs))
  | [], .op ops [] :: S, hs, k => exact k hs
  | [], .op ops (o :: r) :: S, hs, k => exact k hs
  | [], .cl fn e nt d :: S, hs, k => exact k hs
  | .skip :: l, S, hs, k => exact wp_skip (k hs)
  | .label _ :: l, S, hs, k => exact wp_label (k hs)
  | .seq x y :: l, S, hs, k => exact flat_wpL _ _ _ _ (k hs)
  | .block j b :: l, S, hs, k => exact wp_block (flat_wp1 b a w (k hs))
  | .loop b :: l, S, hs, k => exact LoopW.enter (LoopW.unfold (flat_wp1 b a w (k hs)))
  | .cond x c1 c2 :: l, S, hs, k =>
    have hx : nav1 e S (.cond x c1 c2 :: l) = (match (opd e x some : Option V) with
      | some (.c (.bool true)) => (S, flat c1 ++ l)
      | some (.c (.bool false)) => (S, flat c2 ++ l)
      | _ => (S, .cond x c1 c2 :: l)) := rfl
    rw [hx] at k
    split at k
    · rename_i ho
      obtain ⟨v, h1, h2⟩ := opd_inv ho
      injection h1 with h1; subst h1
      exact wp_cond_true (rel_true (h2 ρ a (he.tmp x))) (flat_wp _ _ _ _ (k hs))
    · rename_i ho
      obtain ⟨v, h1, h2⟩ := opd_inv ho
      injection h1 with h1; subst h1
      exact wp_cond_false (rel_true (h2 ρ a (he.tmp x))) (flat_wp _ _ _ _ (k hs))
    · exact k hs
  | .exit j :: l, S, hs, k =>
    have hx : nav1 e S (.exit j :: l) = (match popEx j S with
      | some S => (S, [])
      | none => (S, .exit j :: l)) := rfl
    rw [hx] at k
    split at k
    · rename_i S' hp
      exact wp_exit (popEx_ok hp (k (popEx_st hp hs)))
    · exact k hs
  | .ret :: l, S, hs, k => exact k hs
  | .region i ops false :: l, S, hs, k => exact wp_region_list (k hs)
  | .region i ops true :: l, S, hs, k => exact k hs
  | .rangeFunc _ _ _ _ :: l, S, hs, k => exact k hs
  | .scope _ :: l, S, hs, k => exact k hs
  | .goto _ :: l, S, hs, k => exact k hs
  | .refuse _ :: l, S, hs, k => exact k hs
theorem GoodM.nav : ∀ {n : Nat} {S : List Fr} {l : List Code}, GoodM P fn st0 v st1 (navs n e S l).1 nt (navs n e S l).2 e st → GoodM P fn st0 v st1 S nt l e st
  | 0, _, _, k => k
  | n + 1, _, _, k => GoodM.navOne (GoodM.nav (n := n) k)
/-! ### operations -/
theorem evOps_app {call : CallF} {c : Cx} {e' : Env} {st' : St} (hs : CallSound P call) (hn : Named P) (hb : HasBody P call) {ops : Array Oper} {l2 : List Oper} :
    ∀ {l : List Oper} {e : Env} {st : St}, evOps P call c ops.toList l e st = some (e', st') → Wf st → StepOk c st st' ∧
      ∀ (B0 : Nat) (ρ : Rho) (τ : Mem) (w : World) (a : Act), EnvRel ρ e a → c.nt ≤ a.tmps.size → Agree c st τ → Real ρ B0 τ w → Fresh ρ st st' → ∀ Q : Exit → Act → World → Prop, Cont c st st' e' B0 ρ τ w a (wpList P ops Q l2) → wpList P ops Q (l ++ l2) a w
  | [], e, st, h, _ => by
    have h' : (some (e, st) : Option (Env × St)) = some (e', st') := h
    injection h' with h'; injection h' with h1 h2; subst h1 h2
    exact ⟨.refl _ _, fun B0 ρ τ w a he ht hag hre _ Q hQ => hQ ρ a w (Rho.le_refl _) (Dom.refl _ _ _) he ht rfl (by rw [ov_self]; exact hre) (Below.refl _ _)⟩
  | o :: l, e, st, h, hwf => by
    have h' : (match wants e ops.toList o with
      | true => match evOp P call c e st o with
        | none => none
        | some (v, st) => putK c e o.dst v fun e => evOps P call c ops.toList l e st
      | false => putK c e o.dst .u fun e => evOps P call c ops.toList l e st) = some (e', st') := h
    split at h'
    · rename_i hw
      split at h'
      · cases h'
      · rename_i v st1 hop
        obtain ⟨hd, h2⟩ := putK_inv h'
        obtain ⟨s1, k1⟩ := evOp_ok hs hn hb hwf hop
        obtain ⟨s2, k2⟩ := evOps_app (l2 := l2) hs hn hb h2 (s1.wf hwf)
        refine ⟨s1.trans s2, fun B0 ρ τ w a he ht hag hre hf Q hQ => ?_⟩
        simp only [List.cons_append, wpList]
        rw [wants_eq (ρ := ρ) (e := e) fun j w oj t _ _ _ => he t, hw, if_pos rfl]
        refine .inl (k1 B0 ρ τ w a (fun x _ => he.tmp x) hag hre (hf.left s2.le) _ _ fun ρ1 v1 w1 l1 d1 r1 m1 b1 => ?_)
        refine k2 B0 ρ1 _ w1 _ ((he.mono l1).put r1 fun u hu => Nat.lt_of_lt_of_le (hd u hu) ht) (by rw [put_size]; exact ht) (hag.step s1 hwf) m1 (hf.right s1.le d1) Q ?_
        intro ρ2 a2 w2 l2 d2 he2 ht2 hd2 m2 b2
        exact hQ ρ2 a2 w2 (l1.trans l2) (d1.trans d2 s1.le s2.le) he2 ht2 (hd2.trans (put_defers _ _ _)) (by rw [ov_trans s1 s2 hwf hag] at m2; exact m2) (b1.trans b2)
    · rename_i hw
      obtain ⟨hd, h2⟩ := putK_inv h'
      obtain ⟨s2, k2⟩ := evOps_app (l2 := l2) hs hn hb h2 hwf
      refine ⟨s2, fun B0 ρ τ w a he ht hag hre hf Q hQ => ?_⟩
      simp only [List.cons_append, wpList]
      rw [wants_eq (ρ := ρ) (e := e) fun j w oj t _ _ _ => he t, hw, if_neg (by simp)]
      refine k2 B0 ρ τ w _ (he.put rel_u fun u hu => Nat.lt_of_lt_of_le (hd u hu) ht) (by rw [put_size]; exact ht) hag hre hf Q ?_
      intro ρ2 a2 w2 l2 d2 he2 ht2 hd2 m2 b2
      exact hQ ρ2 a2 w2 l2 d2 he2 ht2 (hd2.trans (put_defers _ _ _)) m2 b2
noncomputable def opsA (P : Program) (F : CallF) (nt j : Nat) (keep : List Nat) (S : List Fr) (e : Env) (st : St) : Option (Env × St) := match S with
  | .op ops l :: _ => (match evOpsQ P F ⟨false, [], 0, nt⟩ ops.toList (l.take j) e st with
    | some (e, st) => some (e, gc keep st)
    | none => none)
  | _ => none
noncomputable def opsS (j : Nat) (S : List Fr) : List Fr := match S with
  | .op ops l :: S => .op ops (l.drop j) :: S
  | S => S
theorem GoodM.ops {F : CallF} (hn : Named P) (hF : CallSound P F ∧ HasBody P F) {j : Nat} {keep : List Nat} {e1 : Env} {st2 : St} (h : opsA P F nt j keep S e st = some (e1, st2)) (k : GoodM P fn st0 v st1 (opsS j S) nt [] e1 st2) : GoodM P fn st0 v st1 S nt [] e st := by
  unfold opsA at h
  split at h
  · rename_i ops r S'
    split at h
    · rename_i e2 st2 hr
      injection h with h; injection h with h1 h2; subst h1 h2
      replace k := k.gc
      rw [evOpsQ_eq] at hr
      intro hwf ho h0
      obtain ⟨s1, k1⟩ := evOps_app (l2 := r.drop j) hF.1 hn hF.2 hr hwf
      obtain ⟨q1, q2⟩ := k (s1.wf hwf) (ho.step h0 s1) (Nat.le_trans h0 s1.le)
      refine ⟨⟨Nat.le_trans s1.le q1.1, q1.2⟩, fun B0 ρ0 τ0 w0 ρ τ w as a F h hs he ht hd hF => ?_⟩
      show wpList P ops _ r a w
      rw [← List.take_append_drop j r]
      refine k1 B0 ρ τ w a he ht (fun n b h1 h2 => h.agr n b h1 h2) h.real (h.fresh h0 q1.1) _ ?_
      intro ρ' a2 w2 l d he2 ht2 hd2 m2 b2
      exact q2 B0 ρ0 τ0 w0 ρ' _ w2 as a2 F (h.step hwf ho h0 s1 l d m2 b2) (StRel.mono l S' as hs) he2 ht2 (hd2.trans hd) hF
    · cases h
  · cases h
/-! ### into a call, and back -/
noncomputable def entV (P : Program) (e : Env) (ops : List Oper) (o : Oper) : Option (Nat × List V) := match wants e ops o with
  | false => none
  | true => (match o.op with
    | .call cl => (match cl.callee with
      | .value f => opds e cl.args.toList fun args => opd e f fun v => (match v with
        | .f (.func f) first caps => (match ext? P f with
          | some _ => none
          | none => some (f, first ++ args ++ caps))
        | _ => none)
      | _ => none)
    | _ => none)
noncomputable def okDst (nt : Nat) (d : Option Nat) : Bool := match d with
  | none => true
  | some u => Nat.blt u nt
noncomputable def entX (P : Program) (nt : Nat) (e : Env) (S : List Fr) : Option (Func × Code × List V × List Fr) := match S with
  | .op ops (o :: r) :: S => (match okDst nt o.dst with
    | false => none
    | true => (match entV P e ops.toList o with
      | none => none
      | some x => (match lget P.funcs.toList x.1 with
        | none => none
        | some fn => (match fn.body with
          | none => none
          | some b => some (fn, b, x.2, .cl fn e nt o.dst :: .op ops r :: S)))))
  | _ => none
noncomputable def entA (P : Program) (nt : Nat) (e : Env) (S : List Fr) : Option (List V) := match entX P nt e S with
  | some x => some x.2.2.1
  | none => none
noncomputable def entS (P : Program) (nt : Nat) (e : Env) (S : List Fr) : List Fr := match entX P nt e S with
  | some x => x.2.2.2
  | none => []
noncomputable def entN (P : Program) (nt : Nat) (e : Env) (S : List Fr) : Nat := match entX P nt e S with
  | some x => x.1.ntmps
  | none => 0
noncomputable def entL (P : Program) (nt : Nat) (e : Env) (S : List Fr) : List Code := match entX P nt e S with
  | some x => flat x.2.1
  | none => []
theorem okDst_ok {d : Option Nat} (h : okDst nt d = true) : ∀ u, d = some u → u < nt := fun u hu => by
  subst hu
  simpa [okDst, Nat.blt_eq] using h
theorem entV_ok (hn : Named P) {ops : Array Oper} {o : Oper} {f : Nat} {args : List V} {c : Func} {b : Code} (h : entV P e ops.toList o = some (f, args)) (hf : P.funcs[f]? = some c) (hb : c.body = some b) :
    wants e ops.toList o = true ∧ ∀ (ρ : Rho) (w : World) (a : Act), EnvRel ρ e a → ∃ vs, RelL ρ args vs ∧ (execOp a.eval o).run P w = .ok (.enter f ⟨vs⟩) w := by
  unfold entV at h
  split at h
  · cases h
  · rename_i hw
    refine ⟨hw, fun ρ w a he => ?_⟩
    split at h
    · rename_i cl ho
      split at h
      · rename_i fo hc
        obtain ⟨args', h1, h2⟩ := opds_inv h
        obtain ⟨vf, h3, h4⟩ := opd_inv h1
        split at h3
        · rename_i fid first caps
          split at h3
          · cases h3
          · injection h3 with h3; injection h3 with h3 h5; subst h3 h5
            have hv := h4 ρ a (he.tmp fo)
            simp only [Rel] at hv
            obtain ⟨fa, ca, hv, k1, k2⟩ := hv
            have ka := h2 ρ a fun y _ => he.tmp y
            have hargs : (⟨fa⟩ ++ cl.args.map a.eval ++ ⟨ca⟩ : Array Value) = ⟨fa ++ cl.args.toList.map a.eval ++ ca⟩ := by
              apply Array.ext'; simp
            have hne : ¬ c.name = "runtime.NumGoroutine" := hn fid c hf
            refine ⟨_, RelL.append (RelL.append k1 ka) k2, ?_⟩
            simp only [execOp, ho, resolve, hc, Sem.run_bind, hv, Deferred.ofValue, Sem.run_pure, Result.andThen_ok, invoke, callFunc, run_program, hf, hargs]
            rw [if_neg (by simpa using hne)]
            simp [hb]
        · cases h3
      · cases h
    · cases h
theorem GoodM.enter (hn : Named P) {args : List V} (h : entA P nt e S = some args) (k : GoodM P fn st0 v st1 (entS P nt e S) (entN P nt e S) (entL P nt e S) (sets args 0 .lf) st) : GoodM P fn st0 v st1 S nt [] e st := by
  unfold entA at h
  unfold entS entN entL at k
  split at h
  · rename_i x hx
    rw [hx] at k
    injection h with h
    unfold entX at hx
    split at hx
    · rename_i ops o r S'
      split at hx
      · cases hx
      · rename_i hdst
        split at hx
        · cases hx
        · rename_i y hy
          split at hx
          · cases hx
          · rename_i c hf
            rw [lget_eq] at hf
            have hf' : P.funcs[y.1]? = some c := by simpa using hf
            split at hx
            · cases hx
            · rename_i b hb
              injection hx with hx
              subst hx
              subst h
              obtain ⟨hw, hrun⟩ := entV_ok hn (f := y.1) (args := y.2) hy hf' hb
              intro hwf ho h0
              obtain ⟨q1, q2⟩ := k hwf ho h0
              refine ⟨q1, fun B0 ρ0 τ0 w0 ρ τ w as a F hat hs he ht hd hF => ?_⟩
              obtain ⟨vs, k1, k2⟩ := hrun ρ w a he
              show wpList P ops _ (o :: r) a w
              simp only [wpList]
              rw [wants_eq (ρ := ρ) (e := e) fun j w oj t _ _ _ => he t, hw, if_pos rfl]
              refine .inl ?_
              unfold Oper.wp
              rw [k2, Oper.upon_enter]
              refine calls_of_wp hf' hb (wp_mono (flat_wp1 b _ w (q2 B0 ρ0 τ0 w0 ρ τ w (a :: as) _ F hat ⟨he, ht, hd, okDst_ok hdst, hs⟩ (env_init k1 c.ntmps) ?_ rfl hF)) fun ex a' w' hk => ?_)
              · simp only [Array.size_append, List.size_toArray, Array.size_replicate]; omega
              · obtain ⟨hx, hdf, v, hres, hkk⟩ := hk
                rcases hx with rfl | rfl
                · exact ⟨hdf, v, hres, hkk⟩
                · exact ⟨hdf, v, hres, hkk⟩
    · cases hx
  · cases h
noncomputable def resV (P : Program) (fn : Func) (e : Env) (st : St) : Option (V × St) := resOf P ⟨false, [], 0, 0⟩ e st fn.results.toList fun l => (match l with
  | [x] => some (x, st)
  | l => some (.t l, st))
theorem resV_ok {c : Func} {v : V} {st' : St} (h : resV P c e st = some (v, st')) {B0 : Nat} {ρ : Rho} {τ : Mem} {w : World} {a : Act} (he : EnvRel ρ e a) (hag : Agree ⟨false, [], 0, 0⟩ st τ) (hre : Real ρ B0 τ w) : ∃ v', Rel ρ v v' ∧ (results c a.tmps).run P w = .ok v' w := by
  obtain ⟨rs, h3, h4⟩ := resOf_ok h
  obtain ⟨xs, g1, g2⟩ := h4 B0 ρ τ w a he hag hre
  have hmap : (c.results.mapM fun x => (match x with | .tmp t => pure (a.tmps.getD t undef) | .cell q t => do loadVar t (← asAddr (a.tmps.getD q undef)) : Sem Value)).run P w = .ok xs.toArray w := by
    have g2' : (c.results.toList.mapM fun x => (match x with | .tmp t => pure (a.tmps.getD t undef) | .cell q t => do loadVar t (← asAddr (a.tmps.getD q undef)) : Sem Value)).run P w = .ok xs w := g2
    rw [Array.mapM_eq_mapM_toList]
    simp only [Sem.run_map, g2', Result.andThen_ok]
  have hgen : (results c a.tmps).run P w = .ok (if h : xs.toArray.size = 1 then xs.toArray[0] else .tuple xs.toArray) w := by
    unfold results
    rw [Sem.run_bind]
    exact congrArg (fun r : Result (Array Value) => r.andThen fun vs w' => (pure (if h : vs.size = 1 then vs[0] else .tuple vs) : Sem Value).run P w') hmap
  rw [hgen]
  split at h3
  · obtain ⟨rfl, _⟩ := some_inv h3
    obtain ⟨y, rfl, hy⟩ := relL1 g1
    exact ⟨y, hy, by simp⟩
  · rename_i hne
    obtain ⟨rfl, _⟩ := some_inv h3
    have hlen := g1.length
    have hn1 : ¬ xs.length = 1 := fun e => by
      rw [e] at hlen
      obtain ⟨q, rfl⟩ := List.length_eq_one_iff.1 hlen.symm
      exact hne q rfl
    refine ⟨.tuple xs.toArray, ?_, by simp [hn1]⟩
    simp only [Rel]
    exact ⟨xs, rfl, g1⟩
noncomputable def atEnd (S : List Fr) (l : List Code) : Option (List Fr) := match l with
  | [] => some S
  | .ret :: _ => some (popRt S)
  | _ => none
theorem atEnd_ok {S' : List Fr} (h : atEnd S l = some S') {F : Exit → Act → World → Prop} {as : List Act} {a : Act} {w : World} (k : ∀ ex, (ex = .normal ∨ ex = .ret) → kont P F S' as ex a w) : wpL P (kont P F S as) l a w := by
  unfold atEnd at h
  split at h
  · injection h with h; subst h; exact k _ (.inl rfl)
  · injection h with h; subst h; exact wp_ret (popRt_ok (k _ (.inr rfl)))
  · cases h
theorem atEnd_st {S' : List Fr} {ρ : Rho} {as : List Act} (h : atEnd S l = some S') (k : StRel ρ S as) : StRel ρ S' as := by
  unfold atEnd at h
  split at h
  · injection h with h; subst h; exact k
  · injection h with h; subst h; exact popRt_st k
  · cases h
noncomputable def retX (P : Program) (S : List Fr) (l : List Code) (e : Env) (st : St) : Option (Env × Nat × List Fr) := match atEnd S l with
  | some (.cl c e0 nt0 d :: S) => (match resV P c e st with
    | some x => some (putE e0 d x.1, nt0, S)
    | none => none)
  | _ => none
noncomputable def retA (P : Program) (S : List Fr) (l : List Code) (e : Env) (st : St) : Option Env := match retX P S l e st with
  | some x => some x.1
  | none => none
noncomputable def retN (S : List Fr) (l : List Code) : Nat := match atEnd S l with
  | some (.cl _ _ nt0 _ :: _) => nt0
  | _ => 0
noncomputable def retS (S : List Fr) (l : List Code) : List Fr := match atEnd S l with
  | some (.cl _ _ _ _ :: S) => S
  | _ => []
theorem GoodM.back {e1 : Env} (h : retA P S l e st = some e1) (k : GoodM P fn st0 v st1 (retS S l) (retN S l) [] e1 st) : GoodM P fn st0 v st1 S nt l e st := by
  unfold retA at h
  split at h
  · rename_i x hx
    injection h with h; subst h
    unfold retX at hx
    unfold retS retN at k
    split at hx
    · rename_i c e0 nt0 d S' hS
      rw [hS] at k
      split at hx
      · rename_i x hres
        injection hx with hx; subst hx
        intro hwf ho h0
        obtain ⟨q1, q2⟩ := k hwf ho h0
        refine ⟨q1, fun B0 ρ0 τ0 w0 ρ τ w as a F hat hs he ht hd hF => ?_⟩
        have hs' := atEnd_st hS hs
        cases as with
        | nil => exact hs'.elim
        | cons a0 as =>
          obtain ⟨u1, u2, u3, u4, u5⟩ := hs'
          refine atEnd_ok hS fun ex hex => ?_
          obtain ⟨v', hv, hr⟩ := resV_ok (v := x.1) (st' := x.2) hres he hat.agr hat.real
          refine ⟨hex, hd, v', hr, ?_⟩
          exact q2 B0 ρ0 τ0 w0 ρ τ w as _ F hat u5 (u1.put hv fun u hu => Nat.lt_of_lt_of_le (u4 u hu) u2) (by rw [put_size]; exact u2) ((put_defers _ _ _).trans u3) hF
      · cases hx
    · cases hx
  · cases h
noncomputable def endX (P : Program) (fn : Func) (S : List Fr) (l : List Code) (e : Env) (st : St) : Option V := match atEnd S l with
  | some [] => (match resV P fn e st with
    | some x => some x.1
    | _ => none)
  | _ => none
theorem GoodM.done (h : endX P fn S l e st = some v) : GoodM P fn st0 v st S nt l e st := by
  unfold endX at h
  split at h
  · rename_i hS
    split at h
    · rename_i x hres
      injection h with h; subst h
      refine fun hwf ho h0 => ⟨⟨Nat.le_refl _, ho, hwf⟩, fun B0 ρ0 τ0 w0 ρ τ w as a F hat hs he ht hd hF => ?_⟩
      refine atEnd_ok hS fun ex hex => ?_
      obtain ⟨v', hv, hr⟩ := resV_ok (v := x.1) (st' := x.2) hres he hat.agr hat.real
      exact hF ρ τ w a ex v' hat hex hd hv hr
    · cases h
  · cases h
/-- a law -/
theorem GoodM.good {B : Code} {e : Env} (g : GoodM P fn ⟨0, .lf⟩ (.bool true) st1 [] fn.ntmps (flat B) e ⟨0, .lf⟩) : Ev.Good P fn B e ⟨0, .lf⟩ :=
  GoodL.good fun hwf B0 ρ τ w0 w a he ht hd hag hre hfr hb => by
    obtain ⟨q1, q2⟩ := g hwf (fun n h => by cases h) (Nat.le_refl _)
    exact q2 B0 ρ τ w0 ρ τ w [] a (Fin P fn B0 w0) ⟨fun n h _ => hfr n h, Rho.le_refl _, fun n r h => .inl h, fun n _ => rfl, fun n b h1 h2 => hag n b h1 h2, hre, hb⟩ trivial he ht hd fun ρ' τ' w' a' ex v' hat hx hd' hv hr => by
      simp only [Rel] at hv
      obtain ⟨rfl, _⟩ := hv
      exact ⟨hx, hd', hr, hat.bel⟩
end
end Go.Proofs.YtiifofhigjoegaaGreatDoor.Ev
namespace Go.Proofs.YtiifofhigjoegaaGreatDoor.Ev
open Go.RowKit

/-! ### alike -/
noncomputable def qVal (x y : Value) : Bool := match x, y with
  | .int k a, .int k' b => (match eqKd k k' with | true => eqI a b | false => false)
  | .bool true, .bool true => true
  | .bool false, .bool false => true
  | .pointer none, .pointer none => true
  | .slice none 0 0, .slice none 0 0 => true
  | .map none, .map none => true
  | .nilFunc, .nilFunc => true
  | .nilIface, .nilIface => true
  | _, _ => false
noncomputable def and2 (a b : Bool) : Bool := match a with | true => b | false => false
theorem and2_ok {a b : Bool} (h : and2 a b = true) : a = true ∧ b = true := by
  cases a with
  | true => exact ⟨rfl, h⟩
  | false => cases h
noncomputable def qNs (a : List Nat) : List Nat → Bool := lr (fun b => match b with | [] => true | _ => false) (fun x _ ih b => match b with | [] => false | y :: b => and2 (Nat.beq x y) (ih b)) a
noncomputable def qFn (x y : Fn) : Bool := match x, y with
  | .func a, .func b => Nat.beq a b
  | _, _ => false
noncomputable def qV (x : V) : V → Bool := V.rec (motive_1 := fun _ => V → Bool) (motive_2 := fun _ => List V → Bool)
  (fun v y => match y with | .c v' => qVal v v' | _ => false)
  (fun l y => match y with | .s l' => qNs l l' | _ => false)
  (fun n o y => match y with | .p n' o' => and2 (Nat.beq n n') (Nat.beq o o') | _ => false)
  (fun n o l c y => match y with | .sl n' o' l' c' => and2 (and2 (Nat.beq n n') (Nat.beq o o')) (and2 (Nat.beq l l') (Nat.beq c c')) | _ => false)
  (fun n o l c y => match y with | .sg n' o' l' c' => and2 (and2 (Nat.beq n n') (Nat.beq o o')) (and2 (Nat.beq l l') (Nat.beq c c')) | _ => false)
  (fun y => match y with | .e => true | _ => false)
  (fun n y => match y with | .m n' => Nat.beq n n' | _ => false)
  (fun f _ _ iha ihb y => match y with | .f f' a' b' => and2 (qFn f f') (and2 (iha a') (ihb b')) | _ => false)
  (fun _ ih y => match y with | .g l' => ih l' | _ => false)
  (fun _ ih y => match y with | .t l' => ih l' | _ => false)
  (fun l => match l with | [] => true | _ => false)
  (fun _ _ iha ih l => match l with | [] => false | b :: l => and2 (iha b) (ih l)) x
noncomputable def qVs (a : List V) : List V → Bool := lr (fun b => match b with | [] => true | _ => false) (fun x _ ih b => match b with | [] => false | y :: b => and2 (qV x y) (ih b)) a
theorem qVal_ok {x y : Value} (h : qVal x y = true) : x = y := by
  unfold qVal at h
  split at h
  · split at h
    · rename_i hk
      rw [eqI_eq] at h
      have h' := eq_of_beq h
      rw [eqKd_eq hk, h']
    · cases h
  all_goals first | rfl | cases h
theorem qNs_ok : ∀ {a b : List Nat}, qNs a b = true → a = b
  | [], [], _ => rfl
  | [], _ :: _, h => by cases h
  | _ :: _, [], h => by cases h
  | x :: a, y :: b, h => by
    obtain ⟨h1, h2⟩ := and2_ok (show and2 (Nat.beq x y) (qNs a b) = true from h)
    rw [Nat.eq_of_beq_eq_true h1, qNs_ok h2]
theorem qFn_ok {x y : Fn} (h : qFn x y = true) : x = y := by
  unfold qFn at h
  split at h
  · rw [Nat.eq_of_beq_eq_true h]
  · cases h
mutual
theorem qV_ok : ∀ (x y : V), qV x y = true → x = y
  | .c v, y, h => by
    cases y <;> first | exact congrArg V.c (qVal_ok h) | cases h
  | .s l, y, h => by
    cases y <;> first | exact congrArg V.s (qNs_ok h) | cases h
  | .p n o, y, h => by
    cases y with
    | p n' o' =>
      obtain ⟨h1, h2⟩ := and2_ok (show and2 (Nat.beq n n') (Nat.beq o o') = true from h)
      rw [Nat.eq_of_beq_eq_true h1, Nat.eq_of_beq_eq_true h2]
    | _ => cases h
  | .sl n o l c, y, h => by
    cases y with
    | sl n' o' l' c' =>
      obtain ⟨h1, h2⟩ := and2_ok (show and2 (and2 (Nat.beq n n') (Nat.beq o o')) (and2 (Nat.beq l l') (Nat.beq c c')) = true from h)
      obtain ⟨h3, h4⟩ := and2_ok h1
      obtain ⟨h5, h6⟩ := and2_ok h2
      rw [Nat.eq_of_beq_eq_true h3, Nat.eq_of_beq_eq_true h4, Nat.eq_of_beq_eq_true h5, Nat.eq_of_beq_eq_true h6]
    | _ => cases h
  | .sg n o l c, y, h => by
    cases y with
    | sg n' o' l' c' =>
      obtain ⟨h1, h2⟩ := and2_ok (show and2 (and2 (Nat.beq n n') (Nat.beq o o')) (and2 (Nat.beq l l') (Nat.beq c c')) = true from h)
      obtain ⟨h3, h4⟩ := and2_ok h1
      obtain ⟨h5, h6⟩ := and2_ok h2
      rw [Nat.eq_of_beq_eq_true h3, Nat.eq_of_beq_eq_true h4, Nat.eq_of_beq_eq_true h5, Nat.eq_of_beq_eq_true h6]
    | _ => cases h
  | .e, y, h => by
    cases y <;> first | rfl | cases h
  | .m n, y, h => by
    cases y with
    | m n' => exact congrArg V.m (Nat.eq_of_beq_eq_true h)
    | _ => cases h
  | .f f a b, y, h => by
    cases y with
    | f f' a' b' =>
      obtain ⟨h1, h2⟩ := and2_ok (show and2 (qFn f f') (and2 (qV (.g a) (.g a')) (qV (.g b) (.g b'))) = true from h)
      obtain ⟨h3, h4⟩ := and2_ok h2
      rw [qFn_ok h1, qL_ok a a' h3, qL_ok b b' h4]
    | _ => cases h
  | .g l, y, h => by
    cases y with
    | g l' => exact congrArg V.g (qL_ok l l' h)
    | _ => cases h
  | .t l, y, h => by
    cases y with
    | t l' => exact congrArg V.t (qL_ok l l' h)
    | _ => cases h
theorem qL_ok : ∀ (l l' : List V), qV (.g l) (.g l') = true → l = l'
  | [], l', h => by
    cases l' with
    | nil => rfl
    | cons b l' => cases h
  | a :: l, l', h => by
    cases l' with
    | nil => cases h
    | cons b l' =>
      obtain ⟨h1, h2⟩ := and2_ok (show and2 (qV a b) (qV (.g l) (.g l')) = true from h)
      rw [qV_ok a b h1, qL_ok l l' h2]
end
theorem qVs_ok : ∀ {a b : List V}, qVs a b = true → a = b
  | [], [], _ => rfl
  | [], _ :: _, h => by cases h
  | _ :: _, [], h => by cases h
  | x :: a, y :: b, h => by
    obtain ⟨h1, h2⟩ := and2_ok (show and2 (qV x y) (qVs a b) = true from h)
    rw [qV_ok _ _ h1, qVs_ok h2]
/-! ### tables -/
noncomputable def qO1 {α β : Type} (f : α → β → Bool) (x : Option α) (y : Option β) : Bool := match x, y with
  | none, _ => true
  | some a, some b => f a b
  | some _, none => false
/-- each entry of the first has one in the second, of which f holds -/
noncomputable def subT {α β : Type} (f : α → β → Bool) (t : T α) : T β → Bool := T.rec (motive := fun _ => T β → Bool) (fun _ => true) (fun l o r ihl ihr t => match t with
  | .lf => (match l, o, r with | .lf, none, .lf => true | _, _, _ => false)
  | .nd l' o' r' => and2 (qO1 f o o') (and2 (ihl l') (ihr r'))) t
theorem subT_p {α β : Type} {f : α → β → Bool} : ∀ (t : T α) (t' : T β), subT f t t' = true → ∀ (p : List Bool) (a : α), T.getP p t = some a → ∃ b, T.getP p t' = some b ∧ f a b = true
  | .lf, _, _, p, a, h => by rw [T.getP_lf] at h; cases h
  | .nd .lf none .lf, .lf, _, p, a, h => by
    cases p with
    | nil => cases h
    | cons b p => cases b <;> (have h' : T.getP p (.lf : T α) = some a := h) <;> rw [T.getP_lf] at h' <;> cases h'
  | .nd .lf none (.nd ..), .lf, hs, p, a, h => by cases hs
  | .nd .lf (some _) _, .lf, hs, p, a, h => by cases hs
  | .nd (.nd ..) _ _, .lf, hs, p, a, h => by cases hs
  | .nd l o r, .nd l' o' r', hs, p, a, h => by
    obtain ⟨h1, h2⟩ := and2_ok (show and2 (qO1 f o o') (and2 (subT f l l') (subT f r r')) = true from hs)
    obtain ⟨h3, h4⟩ := and2_ok h2
    cases p with
    | nil =>
      have h' : o = some a := h
      subst h'
      cases o' with
      | none => cases h1
      | some b => exact ⟨b, rfl, h1⟩
    | cons b p =>
      cases b with
      | true => exact subT_p l l' h3 p a h
      | false => exact subT_p r r' h4 p a h
theorem subT_get {α β : Type} {f : α → β → Bool} {t : T α} {t' : T β} (h : subT f t t' = true) {n : Nat} {a : α} (k : t.get n = some a) : ∃ b, t'.get n = some b ∧ f a b = true := subT_p t t' h _ a k
noncomputable def orO {α : Type} (x y : Option α) : Option α := match y with | some b => some b | none => x
/-- the second laid over the first -/
noncomputable def overT {α : Type} (t t' : T α) : T α := T.rec (motive := fun _ => T α → T α) (fun t' => t') (fun l o r ihl ihr t' => match t' with
  | .lf => .nd l o r
  | .nd l' o' r' => .nd (ihl l') (orO o o') (ihr r')) t t'
theorem overT_p {α : Type} : ∀ (t t' : T α) (p : List Bool), T.getP p (overT t t') = orO (T.getP p t) (T.getP p t')
  | .lf, t', p => by
    rw [T.getP_lf]
    show T.getP p t' = _
    cases T.getP p t' <;> rfl
  | .nd l o r, .lf, p => by
    rw [T.getP_lf]
    rfl
  | .nd l o r, .nd l' o' r', [] => rfl
  | .nd l o r, .nd l' o' r', true :: p => overT_p l l' p
  | .nd l o r, .nd l' o' r', false :: p => overT_p r r' p
theorem overT_get {α : Type} (t t' : T α) (n : Nat) : (overT t t').get n = orO (t.get n) (t'.get n) := overT_p t t' _
/-! ### blocks -/
noncomputable def qM (a : List (V × V × Nat)) : List (V × V × Nat) → Bool := lr (fun b => match b with | [] => true | _ => false) (fun x _ ih b => match b with | [] => false | y :: b => and2 (and2 (qV x.1 y.1) (and2 (qV x.2.1 y.2.1) (Nat.beq x.2.2 y.2.2))) (ih b)) a
theorem qM_ok : ∀ {a b : List (V × V × Nat)}, qM a b = true → a = b
  | [], [], _ => rfl
  | [], _ :: _, h => by cases h
  | _ :: _, [], h => by cases h
  | (x1, x2, x3) :: a, (y1, y2, y3) :: b, h => by
    obtain ⟨h1, h2⟩ := and2_ok (show and2 (and2 (qV x1 y1) (and2 (qV x2 y2) (Nat.beq x3 y3))) (qM a b) = true from h)
    obtain ⟨h3, h4⟩ := and2_ok h1
    obtain ⟨h5, h6⟩ := and2_ok h4
    rw [qV_ok _ _ h3, qV_ok _ _ h5, Nat.eq_of_beq_eq_true h6, qM_ok h2]
/-- the same table -/
noncomputable def eqT {α : Type} (f : α → α → Bool) (t : T α) : T α → Bool := T.rec (motive := fun _ => T α → Bool) (fun t => match t with | .lf => true | _ => false) (fun _ o _ ihl ihr t => match t with
  | .lf => false
  | .nd l' o' r' => (match o, o' with
    | none, none => and2 (ihl l') (ihr r')
    | some a, some b => and2 (f a b) (and2 (ihl l') (ihr r'))
    | _, _ => false)) t
theorem eqT_ok {α : Type} {f : α → α → Bool} (hf : ∀ a b, f a b = true → a = b) : ∀ (t t' : T α), eqT f t t' = true → t = t'
  | .lf, t', h => by
    cases t' with
    | lf => rfl
    | nd l o r => cases h
  | .nd l o r, t', h => by
    cases t' with
    | lf => cases h
    | nd l' o' r' =>
      cases o with
      | none =>
        cases o' with
        | none =>
          obtain ⟨h1, h2⟩ := and2_ok (show and2 (eqT f l l') (eqT f r r') = true from h)
          rw [eqT_ok hf _ _ h1, eqT_ok hf _ _ h2]
        | some b => cases h
      | some a =>
        cases o' with
        | none => cases h
        | some b =>
          obtain ⟨h0, h3⟩ := and2_ok (show and2 (f a b) (and2 (eqT f l l') (eqT f r r')) = true from h)
          obtain ⟨h1, h2⟩ := and2_ok h3
          rw [hf _ _ h0, eqT_ok hf _ _ h1, eqT_ok hf _ _ h2]
noncomputable def qB2 (x y : B) : Bool := match x, y with
  | .cs a b t, .cs a' b' t' => and2 (Nat.beq a a') (and2 (Nat.beq b b') (eqT qV t t'))
  | .mp l c, .mp l' c' => and2 (qM l l') (Nat.beq c c')
  | .it l p, .it l' p' => and2 (qNs l l') (Nat.beq p p')
  | .gone, .gone => true
  | _, _ => false
theorem qB2_ok {x y : B} (h : qB2 x y = true) : x = y := by
  unfold qB2 at h
  split at h
  · obtain ⟨h1, h2⟩ := and2_ok h
    obtain ⟨h3, h4⟩ := and2_ok h2
    rw [Nat.eq_of_beq_eq_true h1, Nat.eq_of_beq_eq_true h3, eqT_ok qV_ok _ _ h4]
  · obtain ⟨h1, h2⟩ := and2_ok h
    rw [qM_ok h1, Nat.eq_of_beq_eq_true h2]
  · obtain ⟨h1, h2⟩ := and2_ok h
    rw [qNs_ok h1, Nat.eq_of_beq_eq_true h2]
  · rfl
  · cases h
/-! ### the oracle -/
noncomputable def plainC (c : Cx) : Bool := match c.all, c.l, c.wb with
  | false, [], 0 => true
  | _, _, _ => false
noncomputable def sees (f : Nat) (args : List V) (st0 : St) (c : Cx) (f' : Nat) (args' : List V) (st : St) : Bool :=
  and2 (Nat.beq f' f) (and2 (plainC c) (and2 (Nat.beq st.nx st0.nx) (and2 (qVs args' args) (subT qB2 st0.h st.h))))
noncomputable def orc (base : CallF) (f : Nat) (args : List V) (st0 : St) (v : V) (st1 : St) : CallF := fun c f' args' st => match sees f args st0 c f' args' st with
  | true => some (v, ⟨st1.nx, overT st.h st1.h⟩)
  | false => base c f' args' st
noncomputable def c_regionH (F : CallF) (_ : Nat) (ops : Array Oper) (d : Bool) : CAlt := fun P _ cx e st => Bool.rec (motive := fun _ => CRes) (cr1 (evOpsQ P F cx ops.toList ops.toList e st)) (Bool.rec (motive := fun _ => CRes) none (cr1 (evDrawQ P F cx ops.toList ops.toList 0 [] e st)) (regOk ops.toList)) d
noncomputable def cTabH (F : CallF) (c : Code) : CAlt := Code.casesOn (motive := fun _ => CAlt) c c_skip (c_regionH F) c_seq c_cond c_block c_loop (fun _ _ _ _ => c_none) c_exit (fun _ => c_none) (fun _ => c_skip) (fun _ => c_none) c_ret (fun _ => c_none)
noncomputable def evH (P : Program) (F : CallF) (n : Nat) : CodeF := nr (fun _ _ _ _ => none) (fun _ ih cx c e st => cTabH F c P ih cx e st) n
section
variable {P : Program}
theorem evH_eq {F : CallF} : ∀ n, evH P F n = evG P F n
  | 0 => rfl
  | n + 1 => by
    have ih := evH_eq (F := F) n
    funext cx c e st
    have h1 : evH P F (n + 1) cx c e st = cTabH F c P (evH P F n) cx e st := rfl
    rw [h1, ih]
    cases c with
    | region id ops d =>
      cases d with
      | false =>
        show cr1 (evOpsQ P F cx ops.toList ops.toList e st) = (match evOps P F cx ops.toList ops.toList e st with
          | none => none
          | some (e, st) => some (X.n, e, st))
        rw [evOpsQ_eq]
        cases evOps P F cx ops.toList ops.toList e st with
        | none => rfl
        | some p => obtain ⟨e, st⟩ := p; rfl
      | true =>
        show Bool.rec (motive := fun _ => CRes) none (cr1 (evDrawQ P F cx ops.toList ops.toList 0 [] e st)) (regOk ops.toList) = (match regOk ops.toList with
          | true => (match evDraw P F cx ops.toList ops.toList 0 [] e st with
            | none => none
            | some (e, st) => some (X.n, e, st))
          | false => none)
        rw [evDrawQ_eq]
        cases regOk ops.toList with
        | false => rfl
        | true => cases evDraw P F cx ops.toList ops.toList 0 [] e st with
          | none => rfl
          | some p => obtain ⟨e, st⟩ := p; rfl
    | cond x a b => exact qd_eq _ _
    | _ => rfl
theorem evH_sound (hn : namesOk P = true) (hm : P.follows .mixedOrders = true) {F : CallF} (h : CallSound P F ∧ HasBody P F) (n : Nat) : CodeSound P (evH P F n) := by
  rw [evH_eq]
  exact evG_sound hn hm h n
theorem base_sound (hn : namesOk P = true) (hm : P.follows .mixedOrders = true) (n : Nat) : CallSound P (callOf P (evQ P n)) ∧ HasBody P (callOf P (evQ P n)) := ⟨callOf_sound (evQ_sound hn hm n), callOf_body⟩
theorem orc_sound {base : CallF} (hb : CallSound P base ∧ HasBody P base) {f : Nat} {fn : Func} {b : Code} {args : List V} {st0 st1 : St} {v : V} (hf : P.funcs[f]? = some fn) (hbd : fn.body = some b)
    (g : GoodM P fn st0 v st1 [] fn.ntmps (flat b) (sets args 0 .lf) st0) (hk : subT (fun _ _ => true) st0.h st1.h = true) : CallSound P (orc base f args st0 v st1) ∧ HasBody P (orc base f args st0 v st1) := by
  constructor
  · intro c f' args' st v2 st2 h hwf
    unfold orc at h
    split at h
    · rename_i hs
      obtain ⟨s1, hs⟩ := and2_ok hs
      obtain ⟨s2, hs⟩ := and2_ok hs
      obtain ⟨s3, hs⟩ := and2_ok hs
      obtain ⟨s4, s5⟩ := and2_ok hs
      have e1 := Nat.eq_of_beq_eq_true s1
      have e3 := Nat.eq_of_beq_eq_true s3
      have e4 := qVs_ok s4
      subst e1 e4
      obtain ⟨rfl, rfl⟩ := some_inv h
      obtain ⟨call, cl, cwb, cnt⟩ := c
      unfold plainC at s2
      split at s2
      · rename_i c1 c2 c3
        simp only at c1 c2 c3
        subst c1 c2 c3
        have hin : ∀ n b, st0.h.get n = some b → st.h.get n = some b := fun n b h => by
          obtain ⟨b', h1, h2⟩ := subT_get s5 h
          rw [qB2_ok h2]; exact h1
        have hwf0 : Wf st0 := fun n hn => by
          cases h : st0.h.get n with
          | none => rfl
          | some b => have := hin n b h; rw [hwf n (by omega)] at this; cases this
        obtain ⟨⟨q1, q2, q3⟩, q4⟩ := g hwf0 (fun n _ h => h) (Nat.le_refl _)
        have hget : ∀ n, (overT st.h st1.h).get n = orO (st.h.get n) (st1.h.get n) := overT_get _ _
        have hst : StepOk ⟨false, [], 0, cnt⟩ st ⟨st1.nx, overT st.h st1.h⟩ := by
          refine ⟨by show st.nx ≤ st1.nx; omega, fun n hn hne => ?_, fun _ n hn => ?_⟩
          · have hne' : st.h.get n ≠ orO (st.h.get n) (st1.h.get n) := by rw [← hget]; exact hne
            cases h1 : st1.h.get n with
            | none => rw [h1] at hne'; exact absurd rfl hne'
            | some b1 =>
              refine ⟨rfl, fun h2 => ?_, by show (overT st.h st1.h).get n ≠ none; rw [hget, h1]; exact Option.some_ne_none _, Nat.zero_le _⟩
              have h3 : st0.h.get n = none := by
                cases h : st0.h.get n with
                | none => rfl
                | some b => rw [hin n b h] at h2; cases h2
              rw [q2 n (by omega) h3] at h1
              cases h1
          · show (overT st.h st1.h).get n = none
            have hn' : st1.nx ≤ n := hn
            rw [hget, q3 n hn', hwf n (by omega)]
            rfl
        refine ⟨hst, fun B0 ρ τ w vs hvs hag hre hfr R hR => ?_⟩
        have hag0 : Agree ⟨false, [], 0, 0⟩ st0 τ := fun n b _ h => hag n b rfl (hin n b h)
        refine calls_of_wp hf hbd (wp_mono (flat_wp1 b _ w (q4 B0 ρ τ w ρ τ w [] _ (fun ex a' w' => (ex = .normal ∨ ex = .ret) ∧ a'.defers = [] ∧ ∃ v', (results fn a'.tmps).run P w' = .ok v' w' ∧ R (.returned v') w') ⟨fun n h1 h2 => hfr n (by omega) h2, Rho.le_refl _, fun n r h => .inl h, fun n _ => rfl, hag0, hre, Below.refl _ _⟩ trivial (env_init hvs fn.ntmps) ?_ rfl ?_)) fun ex a' w' hk => ?_)
        · simp only [Array.size_append, List.size_toArray, Array.size_replicate]; omega
        · intro ρ' τ' w' a' ex v' hat hx hd hv hr
          refine ⟨hx, hd, v', hr, hR ρ' v' w' hat.le (fun n r h => ?_) hv ?_ hat.bel⟩
          · rcases hat.dom n r h with h | h
            · exact .inl h
            · exact .inr ⟨by omega, h.2⟩
          · have key : ∀ n b, ov st ⟨st1.nx, overT st.h st1.h⟩ τ n = some b → τ' n = some b := fun n b h => by
              have h : (open Classical in if st.nx ≤ n ∧ n < st1.nx then (overT st.h st1.h).get n else if st.h.get n = (overT st.h st1.h).get n then τ n else (overT st.h st1.h).get n) = some b := h
              split at h
              · rename_i hn
                have h : (overT st.h st1.h).get n = some b := h
                rw [hget, hwf n hn.1] at h
                cases h1 : st1.h.get n with
                | none => rw [h1] at h; cases h
                | some b1 => rw [h1] at h; have h' : some b1 = some b := h; injection h' with h'; subst h'; exact hat.agr n _ rfl h1
              · rename_i hn
                split at h
                · rename_i he
                  rcases Nat.lt_or_ge n st.nx with hlt | hge
                  · cases h0 : st0.h.get n with
                    | none => rw [hat.inv n (.inl ⟨by omega, h0⟩)]; exact h
                    | some b0 =>
                      obtain ⟨b1, h1, _⟩ := subT_get hk h0
                      have h2 := hag0 n b0 rfl h0
                      rw [h2] at h
                      injection h with h
                      subst h
                      rw [hin n b0 h0, hget, h1] at he
                      have he' : some b0 = some b1 := he
                      injection he' with he'
                      subst he'
                      exact hat.agr n _ rfl h1
                  · rw [hat.inv n (.inr (by omega))]; exact h
                · cases h1 : st1.h.get n with
                  | none => rename_i he; rw [hget, h1] at he; exact absurd rfl he
                  | some b1 => rw [hget, h1] at h; have h' : some b1 = some b := h; injection h' with h'; subst h'; exact hat.agr n _ rfl h1
            exact ⟨hat.real.size, fun n b h => hat.real.blk n b (key n b h), fun n m b b' r r' h h' => hat.real.inj n m b b' r r' (key n b h) (key m b' h')⟩
        · obtain ⟨hx, hdf, v, hres, hkk⟩ := hk
          rcases hx with rfl | rfl
          · exact ⟨hdf, v, hres, hkk⟩
          · exact ⟨hdf, v, hres, hkk⟩
      · cases s2
    · exact hb.1 _ _ _ _ _ _ h hwf
  · intro c f' args' st r h
    unfold orc at h
    split at h
    · rename_i hs
      obtain ⟨s1, hs⟩ := and2_ok hs
      have e1 := Nat.eq_of_beq_eq_true s1
      subst e1
      exact ⟨fn, b, hf, hbd⟩
    · exact hb.2 _ _ _ _ _ h
end
end Go.Proofs.YtiifofhigjoegaaGreatDoor.Ev
namespace Go.Proofs.YtiifofhigjoegaaGreatDoor.Ev
open Go.RowKit
noncomputable def nav3 (e : Env) (S : List Fr) (l : List Code) : List Fr × List Code := match l, S with
  | [], .lp b :: S => (.lp b :: S, [b])
  | .loop b :: l, S => (.lp b :: .sq l :: S, [b])
  | l, S => nav1 e S l
noncomputable def navs3 (n : Nat) (e : Env) (S : List Fr) (l : List Code) : List Fr × List Code := nr (fun S l => (S, l)) (fun _ ih S l => Prod.rec (motive := fun _ => List Fr × List Code) (fun S l => ih S l) (nav3 e S l)) n S l
section
variable {P : Program} {fn : Func} {st0 st1 : St} {v : V} {S : List Fr} {nt : Nat} {l : List Code} {e : Env} {st : St}
theorem wpL_one {Q : Exit → Act → World → Prop} {b : Code} {a : Act} {w : World} (h : wpL P Q [b] a w) : b.wp P Q a w :=
  wp_mono (show b.wp P (Exit.then (wpL P Q []) Q) a w from h) fun ex a w h => by cases ex <;> exact h
theorem one_wpL {Q : Exit → Act → World → Prop} {b : Code} {a : Act} {w : World} (h : b.wp P Q a w) : wpL P Q [b] a w :=
  show b.wp P (Exit.then (wpL P Q []) Q) a w from wp_mono h fun ex a w h => by cases ex <;> exact h
theorem GoodM.navOne3 (k : GoodM P fn st0 v st1 (nav3 e S l).1 nt (nav3 e S l).2 e st) : GoodM P fn st0 v st1 S nt l e st := by
  have hx : ∀ (l : List Code) (S : List Fr), (∀ b S', ¬ (l = [] ∧ S = .lp b :: S')) → (∀ b l', l ≠ .loop b :: l') → nav3 e S l = nav1 e S l := fun l S h1 h2 => by
    unfold nav3
    split
    · exact absurd ⟨rfl, rfl⟩ (h1 _ _)
    · exact absurd rfl (h2 _ _)
    · rfl
  by_cases h1 : ∃ b S', l = [] ∧ S = .lp b :: S'
  · obtain ⟨b, S', rfl, rfl⟩ := h1
    intro hwf ho h0
    obtain ⟨q1, q2⟩ := k hwf ho h0
    exact ⟨q1, fun B0 ρ0 τ0 w0 ρ τ w as a F hat hs he ht hd hF => LoopW.unfold (wpL_one (q2 B0 ρ0 τ0 w0 ρ τ w as a F hat hs he ht hd hF))⟩
  · by_cases h2 : ∃ b l', l = .loop b :: l'
    · obtain ⟨b, l', rfl⟩ := h2
      intro hwf ho h0
      have k' : GoodM P fn st0 v st1 (.lp b :: .sq l' :: S) nt [b] e st := by
        cases S <;> exact k
      obtain ⟨q1, q2⟩ := k' hwf ho h0
      exact ⟨q1, fun B0 ρ0 τ0 w0 ρ τ w as a F hat hs he ht hd hF => LoopW.enter (LoopW.unfold (wpL_one (q2 B0 ρ0 τ0 w0 ρ τ w as a F hat hs he ht hd hF)))⟩
    · rw [hx l S (fun b S' h => h1 ⟨b, S', h⟩) (fun b l' h => h2 ⟨b, l', h⟩)] at k
      exact GoodM.navOne k
theorem GoodM.nav3 : ∀ {n : Nat} {S : List Fr} {l : List Code}, GoodM P fn st0 v st1 (navs3 n e S l).1 nt (navs3 n e S l).2 e st → GoodM P fn st0 v st1 S nt l e st
  | 0, _, _, k => k
  | n + 1, _, _, k => GoodM.navOne3 (GoodM.nav3 (n := n) k)
theorem GoodM.runRounds {G : CodeF} (hG : CodeSound P G) {b : Code} : ∀ {m : Nat} {e e1 : Env} {st st2 : St}, runR G ⟨false, [], 0, nt⟩ m b e st = some (e1, st2) → GoodM P fn st0 v st1 (.lp b :: S) nt [b] e1 st2 → GoodM P fn st0 v st1 (.lp b :: S) nt [b] e st
  | 0, e, e1, st, st2, h, k => by
    have h' : (some (e, st) : Option (Env × St)) = some (e1, st2) := h
    injection h' with h'; injection h' with h1 h2; subst h1 h2
    exact k
  | m + 1, e, e1, st, st2, h, k => by
    have h' : (match G ⟨false, [], 0, nt⟩ b e st with
      | some (.n, e, st) => runR G ⟨false, [], 0, nt⟩ m b e st
      | _ => none) = some (e1, st2) := h
    clear h
    split at h'
    · rename_i e2 st3 hev
      have g2 := GoodM.runRounds hG h' k
      intro hwf ho h0
      obtain ⟨s1, k1⟩ := hG _ _ _ _ _ _ _ hev hwf
      obtain ⟨q1, q2⟩ := g2 (s1.wf hwf) (ho.step h0 s1) (Nat.le_trans h0 s1.le)
      refine ⟨⟨Nat.le_trans s1.le q1.1, q1.2⟩, fun B0 ρ0 τ0 w0 ρ τ w as a' F h hs he ht hd hF => ?_⟩
      refine one_wpL (k1 B0 ρ τ w a' he ht (fun n b h1 h2 => h.agr n b h1 h2) h.real (h.fresh h0 q1.1) _ ?_)
      intro ρ' a2 w2 l d he2 ht2 hd2 m2 b2
      exact LoopW.unfold (wpL_one (q2 B0 ρ0 τ0 w0 ρ' _ w2 as a2 F (h.step hwf ho h0 s1 l d m2 b2) (StRel.mono l S as hs) he2 ht2 (hd2.trans hd) hF))
    · cases h'
noncomputable def loopB (S : List Fr) : Code := match S with
  | .lp b :: _ => b
  | _ => .skip
theorem GoodM.rounds {G : CodeF} (hG : CodeSound P G) {m : Nat} {keep : List Nat} {e1 : Env} {st2 : St} (hS : S = .lp (loopB S) :: S.tail) (hl : l = [loopB S]) (h : stepR G ⟨false, [], 0, nt⟩ m (loopB S) keep e st = some (e1, st2)) (k : GoodM P fn st0 v st1 S nt l e1 st2) : GoodM P fn st0 v st1 S nt l e st := by
  subst hl
  generalize loopB S = b at *
  generalize S.tail = T at *
  subst hS
  unfold stepR at h
  split at h
  · rename_i e2 st3 hr
    injection h with h; injection h with h1 h2; subst h1 h2
    exact GoodM.runRounds hG hr k.gc
  · cases h
end
/-! ### the oracle, where some blocks may not be touched -/
/-- none of these names is told -/
noncomputable def clearQ (l : List (Nat × Nat)) (h : T B) : Bool := lr true (fun x _ ih => and2 (nr true (fun k ih => and2 (match h.get (x.1 + k) with | none => true | some _ => false) ih) (x.2 - x.1)) ih) l
noncomputable def plainN (c : Cx) : Bool := match c.all, c.wb with
  | false, 0 => true
  | _, _ => false
noncomputable def seesN (f : Nat) (args : List V) (st0 : St) (c : Cx) (f' : Nat) (args' : List V) (st : St) : Bool :=
  and2 (Nat.beq f' f) (and2 (plainN c) (and2 (clearQ c.l st0.h) (and2 (Nat.beq st.nx st0.nx) (and2 (qVs args' args) (subT qB2 st0.h st.h)))))
noncomputable def orcN (base : CallF) (f : Nat) (args : List V) (st0 : St) (v : V) (st1 : St) : CallF := fun c f' args' st => match seesN f args st0 c f' args' st with
  | true => some (v, ⟨st1.nx, overT st.h st1.h⟩)
  | false => base c f' args' st
section
variable {P : Program}
theorem inF_ex : ∀ {l : List (Nat × Nat)} {n : Nat}, inF l n = true → ∃ x, x ∈ l ∧ x.1 ≤ n ∧ n < x.2
  | [], n, h => by cases h
  | x :: l, n, h => by
    have h' : (match Nat.ble x.1 n with | true => (match Nat.blt n x.2 with | true => true | false => inF l n) | false => inF l n) = true := h
    split at h'
    · rename_i h1
      split at h'
      · rename_i h2
        exact ⟨x, by simp, Nat.le_of_ble_eq_true h1, by rw [Nat.blt_eq] at h2; exact h2⟩
      · obtain ⟨y, h3, h4⟩ := inF_ex h'
        exact ⟨y, by simp [h3], h4⟩
    · obtain ⟨y, h3, h4⟩ := inF_ex h'
      exact ⟨y, by simp [h3], h4⟩
theorem clear1 {h : T B} {lo : Nat} : ∀ {m : Nat}, nr true (fun k ih => and2 (match h.get (lo + k) with | none => true | some _ => false) ih) m = true → ∀ k, k < m → h.get (lo + k) = none
  | 0, _, k, hk => by omega
  | m + 1, hc, k, hk => by
    rw [nr_succ] at hc
    obtain ⟨h1, h2⟩ := and2_ok hc
    by_cases e : k = m
    · subst e
      split at h1
      · assumption
      · cases h1
    · exact clear1 h2 k (by omega)
theorem clearQ_mem {h : T B} : ∀ {l : List (Nat × Nat)}, clearQ l h = true → ∀ x, x ∈ l → ∀ n, x.1 ≤ n → n < x.2 → h.get n = none
  | [], _, x, hx, _, _, _ => by simp at hx
  | y :: l, hc, x, hx, n, h1, h2 => by
    obtain ⟨k1, k2⟩ := and2_ok (show and2 (nr true (fun k ih => and2 (match h.get (y.1 + k) with | none => true | some _ => false) ih) (y.2 - y.1)) (clearQ l h) = true from hc)
    rcases List.mem_cons.1 hx with rfl | hx
    · have := clear1 k1 (n - x.1) (by omega)
      rwa [show x.1 + (n - x.1) = n by omega] at this
    · exact clearQ_mem k2 x hx n h1 h2
theorem clearQ_ok {h : T B} {l : List (Nat × Nat)} {nt n : Nat} {b : B} (hc : clearQ l h = true) (hb : h.get n = some b) : Cx.ok ⟨false, l, 0, nt⟩ n = true := by
  show (!inF l n) = true
  cases hi : inF l n with
  | false => rfl
  | true =>
    obtain ⟨x, h1, h2, h3⟩ := inF_ex hi
    rw [clearQ_mem hc x h1 n h2 h3] at hb
    cases hb
theorem orcN_sound {base : CallF} (hb : CallSound P base ∧ HasBody P base) {f : Nat} {fn : Func} {b : Code} {args : List V} {st0 st1 : St} {v : V} (hf : P.funcs[f]? = some fn) (hbd : fn.body = some b)
    (g : GoodM P fn st0 v st1 [] fn.ntmps (flat b) (sets args 0 .lf) st0) (hk : subT (fun _ _ => true) st0.h st1.h = true) : CallSound P (orcN base f args st0 v st1) ∧ HasBody P (orcN base f args st0 v st1) := by
  constructor
  · intro c f' args' st v2 st2 h hwf
    unfold orcN at h
    split at h
    · rename_i hs
      obtain ⟨s1, hs⟩ := and2_ok hs
      obtain ⟨s2, hs⟩ := and2_ok hs
      obtain ⟨s6, hs⟩ := and2_ok hs
      obtain ⟨s3, hs⟩ := and2_ok hs
      obtain ⟨s4, s5⟩ := and2_ok hs
      have e1 := Nat.eq_of_beq_eq_true s1
      have e3 := Nat.eq_of_beq_eq_true s3
      have e4 := qVs_ok s4
      subst e1 e4
      obtain ⟨rfl, rfl⟩ := some_inv h
      obtain ⟨call, cl, cwb, cnt⟩ := c
      unfold plainN at s2
      split at s2
      · rename_i c1 c3
        simp only at c1 c3
        subst c1 c3
        have hok : ∀ n b, st0.h.get n = some b → Cx.ok ⟨false, cl, 0, cnt⟩ n = true := fun n b h => clearQ_ok s6 h
        have hin : ∀ n b, st0.h.get n = some b → st.h.get n = some b := fun n b h => by
          obtain ⟨b', h1, h2⟩ := subT_get s5 h
          rw [qB2_ok h2]; exact h1
        have hwf0 : Wf st0 := fun n hn => by
          cases h : st0.h.get n with
          | none => rfl
          | some b => have := hin n b h; rw [hwf n (by omega)] at this; cases this
        obtain ⟨⟨q1, q2, q3⟩, q4⟩ := g hwf0 (fun n _ h => h) (Nat.le_refl _)
        have hget : ∀ n, (overT st.h st1.h).get n = orO (st.h.get n) (st1.h.get n) := overT_get _ _
        have hst : StepOk ⟨false, cl, 0, cnt⟩ st ⟨st1.nx, overT st.h st1.h⟩ := by
          refine ⟨by show st.nx ≤ st1.nx; omega, fun n hn hne => ?_, fun _ n hn => ?_⟩
          · have hne' : st.h.get n ≠ orO (st.h.get n) (st1.h.get n) := by rw [← hget]; exact hne
            cases h1 : st1.h.get n with
            | none => rw [h1] at hne'; exact absurd rfl hne'
            | some b1 =>
              have hs0 : st0.h.get n ≠ none := fun h3 => by rw [q2 n (by omega) h3] at h1; cases h1
              obtain ⟨b0, hb0⟩ := Option.ne_none_iff_exists'.1 hs0
              exact ⟨hok n b0 hb0, by rw [hin n b0 hb0]; exact Option.some_ne_none _, by show (overT st.h st1.h).get n ≠ none; rw [hget, h1]; exact Option.some_ne_none _, Nat.zero_le _⟩
          · show (overT st.h st1.h).get n = none
            have hn' : st1.nx ≤ n := hn
            rw [hget, q3 n hn', hwf n (by omega)]
            rfl
        refine ⟨hst, fun B0 ρ τ w vs hvs hag hre hfr R hR => ?_⟩
        have hag0 : Agree ⟨false, [], 0, 0⟩ st0 τ := fun n b _ h => hag n b (hok n b h) (hin n b h)
        refine calls_of_wp hf hbd (wp_mono (flat_wp1 b _ w (q4 B0 ρ τ w ρ τ w [] _ (fun ex a' w' => (ex = .normal ∨ ex = .ret) ∧ a'.defers = [] ∧ ∃ v', (results fn a'.tmps).run P w' = .ok v' w' ∧ R (.returned v') w') ⟨fun n h1 h2 => hfr n (by omega) h2, Rho.le_refl _, fun n r h => .inl h, fun n _ => rfl, hag0, hre, Below.refl _ _⟩ trivial (env_init hvs fn.ntmps) ?_ rfl ?_)) fun ex a' w' hk => ?_)
        · simp only [Array.size_append, List.size_toArray, Array.size_replicate]; omega
        · intro ρ' τ' w' a' ex v' hat hx hd hv hr
          refine ⟨hx, hd, v', hr, hR ρ' v' w' hat.le (fun n r h => ?_) hv ?_ hat.bel⟩
          · rcases hat.dom n r h with h | h
            · exact .inl h
            · exact .inr ⟨by omega, h.2⟩
          · have key : ∀ n b, ov st ⟨st1.nx, overT st.h st1.h⟩ τ n = some b → τ' n = some b := fun n b h => by
              have h : (open Classical in if st.nx ≤ n ∧ n < st1.nx then (overT st.h st1.h).get n else if st.h.get n = (overT st.h st1.h).get n then τ n else (overT st.h st1.h).get n) = some b := h
              split at h
              · rename_i hn
                have h : (overT st.h st1.h).get n = some b := h
                rw [hget, hwf n hn.1] at h
                cases h1 : st1.h.get n with
                | none => rw [h1] at h; cases h
                | some b1 => rw [h1] at h; have h' : some b1 = some b := h; injection h' with h'; subst h'; exact hat.agr n _ rfl h1
              · rename_i hn
                split at h
                · rename_i he
                  rcases Nat.lt_or_ge n st.nx with hlt | hge
                  · cases h0 : st0.h.get n with
                    | none => rw [hat.inv n (.inl ⟨by omega, h0⟩)]; exact h
                    | some b0 =>
                      obtain ⟨b1, h1, _⟩ := subT_get hk h0
                      have h2 := hag0 n b0 rfl h0
                      rw [h2] at h
                      injection h with h
                      subst h
                      rw [hin n b0 h0, hget, h1] at he
                      have he' : some b0 = some b1 := he
                      injection he' with he'
                      subst he'
                      exact hat.agr n _ rfl h1
                  · rw [hat.inv n (.inr (by omega))]; exact h
                · cases h1 : st1.h.get n with
                  | none => rename_i he; rw [hget, h1] at he; exact absurd rfl he
                  | some b1 => rw [hget, h1] at h; have h' : some b1 = some b := h; injection h' with h'; subst h'; exact hat.agr n _ rfl h1
            exact ⟨hat.real.size, fun n b h => hat.real.blk n b (key n b h), fun n m b b' r r' h h' => hat.real.inj n m b b' r r' (key n b h) (key m b' h')⟩
        · obtain ⟨hx, hdf, v, hres, hkk⟩ := hk
          rcases hx with rfl | rfl
          · exact ⟨hdf, v, hres, hkk⟩
          · exact ⟨hdf, v, hres, hkk⟩
      · cases s2
    · exact hb.1 _ _ _ _ _ _ h hwf
  · intro c f' args' st r h
    unfold orcN at h
    split at h
    · rename_i hs
      obtain ⟨s1, hs⟩ := and2_ok hs
      have e1 := Nat.eq_of_beq_eq_true s1
      subst e1
      exact ⟨fn, b, hf, hbd⟩
    · exact hb.2 _ _ _ _ _ h
end
end Go.Proofs.YtiifofhigjoegaaGreatDoor.Ev

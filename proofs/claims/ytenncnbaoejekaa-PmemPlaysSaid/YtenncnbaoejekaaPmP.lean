/-
  PLAIN: what memory does, without where it lies.
-/
import Derived.Test.YtenncnbaoejekaaMmF
set_option linter.unusedSimpArgs false
namespace Go.Proofs.Ytenncnbaoejekaa
open Go.RowKit Ev
theorem setAll_app (S : List (BitVec 64)) (A B : List (Int × BitVec 64)) : setAll S (A ++ B) = setAll (setAll S A) B := by simp [setAll]
theorem setAll_nil (S : List (BitVec 64)) : setAll S [] = S := rfl
/-- what stands where nothing is stored -/
theorem setAll_off {p : Nat} : ∀ (O : List (Int × BitVec 64)) (S : List (BitVec 64)), (∀ r ∈ O, 0 ≤ r.1 ∧ r.1 ≠ (p : Int)) → (setAll S O)[p]? = S[p]?
  | [], _, _ => rfl
  | r :: O, S, h => by
    have h1 := h r (List.mem_cons_self ..)
    have := setAll_off O (S.set r.1.toNat r.2) (fun q hq => h q (List.mem_cons_of_mem _ hq))
    show (setAll (S.set r.1.toNat r.2) O)[p]? = _
    rw [this, List.getElem?_set_ne (by omega)]
/-- what stands there is what stood there or was stored there -/
theorem setAll_or {p : Nat} {v : BitVec 64} : ∀ (O : List (Int × BitVec 64)) (S : List (BitVec 64)), (∀ r ∈ O, 0 ≤ r.1) → (setAll S O)[p]? = some v → S[p]? = some v ∨ ∃ r ∈ O, r.1 = (p : Int) ∧ r.2 = v
  | [], _, _, h => .inl h
  | r :: O, S, ho, h => by
    have h0 := ho r (List.mem_cons_self ..)
    rcases setAll_or O (S.set r.1.toNat r.2) (fun q hq => ho q (List.mem_cons_of_mem _ hq)) h with h1 | ⟨q, hq, h1⟩
    · by_cases e : r.1.toNat = p
      · have hp : p < S.length := by have := lt_of_get h1; rwa [List.length_set] at this
        rw [e, List.getElem?_set_self hp] at h1
        injection h1 with h1
        exact .inr ⟨r, List.mem_cons_self .., by omega, h1⟩
      · rw [List.getElem?_set_ne e] at h1
        exact .inl h1
    · exact .inr ⟨q, List.mem_cons_of_mem _ hq, h1⟩
theorem allN_get {L : List LM} (h : ∀ m ∈ L, m.N.length = 8) : ∀ {l p : Nat} {m : LM}, L[l]? = some m → p < 8 → (allN L)[8 * l + p]? = m.N[p]? := by
  induction L with
  | nil => intro l p m hl; simp at hl
  | cons x L ih =>
    intro l p m hl hp
    have hx := h x (List.mem_cons_self ..)
    show (x.N ++ allN L)[8 * l + p]? = _
    cases l with
    | zero =>
      simp at hl
      subst hl
      rw [Nat.mul_zero, Nat.zero_add, List.getElem?_append_left (by omega)]
    | succ l =>
      rw [List.getElem?_append_right (by omega), hx, show 8 * (l + 1) + p - 8 = 8 * l + p by omega]
      exact ih (fun m hm => h m (List.mem_cons_of_mem _ hm)) hl hp
theorem allN_length {L : List LM} (h : ∀ m ∈ L, m.N.length = 8) : (allN L).length = 8 * L.length := by
  induction L with
  | nil => rfl
  | cons x L ih =>
    show (x.N ++ allN L).length = _
    rw [List.length_append, ih (fun m hm => h m (List.mem_cons_of_mem _ hm)), h x (List.mem_cons_self ..), List.length_cons]
    omega
/-- a line in order -/
structure okP (m : LM) : Prop where
  s : m.S.length = 8
  n : m.N = setAll m.S m.O
  o : ∀ r ∈ m.O, 0 ≤ r.1 ∧ r.1 < 8
theorem okP.nl {m : LM} (h : okP m) : m.N.length = 8 := by rw [h.n, setAll_len, h.s]
theorem okP.store {m : LM} (h : okP m) (a : Int) (w : BitVec 64) : okP (m.store a w) := by
  unfold LM.store
  split
  · rename_i ha
    refine ⟨h.s, ?_, fun r hr => ?_⟩
    · show m.N.set _ _ = setAll m.S (m.O ++ [(a, w)])
      rw [setAll_app, ← h.n]; rfl
    · rcases List.mem_append.1 hr with hr | hr
      · exact h.o r hr
      · simp at hr; subst hr; exact ha
  · exact h
theorem okP.fall {m : LM} (h : okP m) (k : Int) : okP (m.fall k) := ⟨by show (setAll _ _).length = 8; rw [setAll_len, h.s], rfl, fun r hr => by cases hr⟩
theorem okP.flush {m : LM} (h : okP m) : okP (flushM m) := ⟨h.s, h.n, h.o⟩
theorem okP.fence {m : LM} (h : okP m) : okP (fenceM m) := ⟨by show (setAll _ _).length = 8; rw [setAll_len, h.s], by
  show m.N = setAll (setAll m.S (m.O.take m.F.toNat)) (m.O.drop m.F.toNat)
  rw [← setAll_app, List.take_append_drop]; exact h.n, fun r hr => h.o r (List.mem_of_mem_drop hr)⟩
theorem fence_flush {m : LM} (h : okP m) : (fenceM (flushM m)).S = m.N ∧ (fenceM (flushM m)).N = m.N ∧ (fenceM (flushM m)).O = [] := by
  refine ⟨?_, rfl, ?_⟩
  · show setAll m.S (m.O.take (m.O.length : Int).toNat) = _
    rw [show ((m.O.length : Int)).toNat = m.O.length by omega, List.take_length, h.n]
  · show m.O.drop (m.O.length : Int).toNat = []
    rw [show ((m.O.length : Int)).toNat = m.O.length by omega, List.drop_length]
/-- a memory in order, with so many open stores at the most -/
structure okS (s : AS) (n i : Nat) : Prop where
  len : s.L.length = n
  off : s.off = false
  ok : ∀ m ∈ s.L, okP m
  op : ∀ m ∈ s.L, m.O.length ≤ i
theorem set_mem {α : Type} {l : List α} {i : Nat} {x y : α} (h : y ∈ l.set i x) : y ∈ l ∨ y = x := (List.mem_or_eq_of_mem_set h)
theorem AS.store_on {s : AS} {a : Int} {w : BitVec 64} (h0 : s.off = false) (hf : s.fuse < 1) (ha : s.in8 a) : s.store a w = { s with L := s.L.set (a / 8).toNat ((s.L[(a / 8).toNat]?.getD LM0).store (a % 8) w), a := IntKind.i64.wrap (s.a + 1) } ∧ s.storeE a = 0 := by
  have h1 : ¬ s.fuse = 1 := by omega
  simp [AS.store, AS.storeE, AS.lit, h0, ha, hf, h1]
theorem in8_get {s : AS} {a : Int} (h : s.in8 a) : ∃ m, s.L[(a / 8).toNat]? = some m := by
  obtain ⟨h1, h2⟩ := h
  exact ⟨_, List.getElem?_eq_getElem (by omega)⟩
theorem okS.store {s : AS} {n i : Nat} (h : okS s n i) (hf : s.fuse < 1) {a : Int} (ha : 0 ≤ a ∧ a < 8 * n) (w : BitVec 64) : okS (s.store a w) n (i + 1) := by
  have hin : s.in8 a := ⟨ha.1, by rw [h.len]; omega⟩
  obtain ⟨m, hm⟩ := in8_get hin
  have hmm := List.mem_of_getElem? hm
  rw [(AS.store_on h.off hf hin).1, hm]
  refine ⟨by simp [h.len], h.off, fun x hx => ?_, fun x hx => ?_⟩
  · rcases set_mem hx with hx | rfl
    · exact h.ok x hx
    · exact (h.ok m hmm).store _ _
  · rcases set_mem hx with hx | rfl
    · have := h.op x hx; omega
    · have := h.op m hmm
      have h2 : ((m.store (a % 8) w).O).length ≤ m.O.length + 1 := by unfold LM.store; split <;> simp
      exact Nat.le_trans h2 (by omega)
theorem flushL_ok {P : LM → Prop} (hP : ∀ m, P m → P (flushM m)) : ∀ (ls : List Int) (L : List LM), (∀ i ∈ ls, 0 ≤ i ∧ i < L.length) → (∀ m ∈ L, P m) → ∀ m ∈ flushL L ls, P m
  | [], _, _, h => h
  | i :: ls, L, hi, h => by
    have h1 := hi i (List.mem_cons_self ..)
    obtain ⟨m, hm⟩ : ∃ m, L[i.toNat]? = some m := ⟨_, List.getElem?_eq_getElem (by omega)⟩
    show ∀ x ∈ flushL (L.set i.toNat (flushM (L[i.toNat]?.getD LM0))) ls, P x
    refine flushL_ok hP ls _ (fun j hj => by rw [List.length_set]; exact hi j (List.mem_cons_of_mem _ hj)) fun x hx => ?_
    rcases set_mem hx with hx | rfl
    · exact h x hx
    · rw [hm]; exact hP m (h m (List.mem_of_getElem? hm))
theorem AS.flush_on {s : AS} {ls : List Int} (h0 : s.off = false) (hf : s.fuse < 1) (ha : s.may ls) : s.flush ls = { s with L := flushL s.L ls, b := IntKind.i64.wrap (s.b + 1) } ∧ s.flushE ls = 0 := by
  have h1 : ¬ s.fuse = 1 := by omega
  simp [AS.flush, AS.flushE, AS.lit, h0, ha, hf, h1]
theorem AS.fence_on {s : AS} (h0 : s.off = false) (hf : s.fuse < 1) : s.fence = { s with L := s.L.map fenceM, c := IntKind.i64.wrap (s.c + 1) } ∧ s.fenceE = 0 := by
  have h1 : ¬ s.fuse = 1 := by omega
  simp [AS.fence, AS.fenceE, AS.lit, h0, hf, h1]
theorem fallM_get {K : List Int} {L : List LM} {i : Nat} {m : LM} (h : L[i]? = some m) : ∃ k, (fallM K L)[i]? = some (if m.O.length = 0 then m else m.fall k) := by
  unfold fallM
  rw [List.getElem?_mapIdx, h]
  exact ⟨_, rfl⟩
theorem fallM_length (K : List Int) (L : List LM) : (fallM K L).length = L.length := by simp [fallM]
/-- behind a fall a line is one that its stores may leave -/
theorem fallM_mem {K : List Int} {L : List LM} {x : LM} (h : x ∈ fallM K L) : ∃ m ∈ L, x = m ∧ m.O = [] ∨ ∃ k, x = m.fall k := by
  obtain ⟨i, hi⟩ := List.getElem?_of_mem h
  obtain ⟨m, hm⟩ : ∃ m, L[i]? = some m := ⟨_, List.getElem?_eq_getElem (by have := lt_of_get hi; rwa [fallM_length] at this)⟩
  obtain ⟨k, hk⟩ := fallM_get (K := K) hm
  rw [hk] at hi
  injection hi with hi
  by_cases e : m.O.length = 0
  · rw [if_pos e] at hi
    exact ⟨m, List.mem_of_getElem? hm, .inl ⟨hi.symm, List.length_eq_zero_iff.1 e⟩⟩
  · rw [if_neg e] at hi
    exact ⟨m, List.mem_of_getElem? hm, .inr ⟨k, hi.symm⟩⟩
end Go.Proofs.Ytenncnbaoejekaa

/-
  PLAIN: PmP, PmQ, in one text.
-/
import Derived.Test.YtdoennkmcloalaaMmAF
set_option linter.unusedSimpArgs false
namespace Go.Proofs.Ytdoennkmcloalaa
open Go.RowKit Ev
theorem setAll_app (S : List (BitVec 64)) (A B : List (Int × BitVec 64)) : setAll S (A ++ B) = setAll (setAll S A) B := by simp [setAll]
theorem setAll_nil (S : List (BitVec 64)) : setAll S [] = S := rfl
/-- what stands where nothing is stored -/
theorem setAll_off {p : Nat} : ∀ (O : List (Int × BitVec 64)) (S : List (BitVec 64)), (∀ r ∈ O, 0 ≤ r.1 ∧ r.1 ≠ (p : Int)) → (setAll S O)[p]? = S[p]?
  | [], _, _ => rfl
  | r :: O, S, h => by
    have h1 := h r (List.mem_cons_self ..)
    have := setAll_off O (S.set r.1.toNat r.2) (fun q hq => h q (List.mem_cons_of_mem _ hq))
    show (setAll (S.set r.1.toNat r.2) O)[p]? = _
    rw [this, List.getElem?_set_ne (by omega)]
/-- what stands there is what stood there or was stored there -/
theorem setAll_or {p : Nat} {v : BitVec 64} : ∀ (O : List (Int × BitVec 64)) (S : List (BitVec 64)), (∀ r ∈ O, 0 ≤ r.1) → (setAll S O)[p]? = some v → S[p]? = some v ∨ ∃ r ∈ O, r.1 = (p : Int) ∧ r.2 = v
  | [], _, _, h => .inl h
  | r :: O, S, ho, h => by
    have h0 := ho r (List.mem_cons_self ..)
    rcases setAll_or O (S.set r.1.toNat r.2) (fun q hq => ho q (List.mem_cons_of_mem _ hq)) h with h1 | ⟨q, hq, h1⟩
    · by_cases e : r.1.toNat = p
      · have hp : p < S.length := by have := lt_of_get h1; rwa [List.length_set] at this
        rw [e, List.getElem?_set_self hp] at h1
        injection h1 with h1
        exact .inr ⟨r, List.mem_cons_self .., by omega, h1⟩
      · rw [List.getElem?_set_ne e] at h1
        exact .inl h1
    · exact .inr ⟨q, List.mem_cons_of_mem _ hq, h1⟩
theorem allN_get {L : List LM} (h : ∀ m ∈ L, m.N.length = 8) : ∀ {l p : Nat} {m : LM}, L[l]? = some m → p < 8 → (allN L)[8 * l + p]? = m.N[p]? := by
  induction L with
  | nil => intro l p m hl; simp at hl
  | cons x L ih =>
    intro l p m hl hp
    have hx := h x (List.mem_cons_self ..)
    show (x.N ++ allN L)[8 * l + p]? = _
    cases l with
    | zero =>
      simp at hl
      subst hl
      rw [Nat.mul_zero, Nat.zero_add, List.getElem?_append_left (by omega)]
    | succ l =>
      rw [List.getElem?_append_right (by omega), hx, show 8 * (l + 1) + p - 8 = 8 * l + p by omega]
      exact ih (fun m hm => h m (List.mem_cons_of_mem _ hm)) hl hp
theorem allN_length {L : List LM} (h : ∀ m ∈ L, m.N.length = 8) : (allN L).length = 8 * L.length := by
  induction L with
  | nil => rfl
  | cons x L ih =>
    show (x.N ++ allN L).length = _
    rw [List.length_append, ih (fun m hm => h m (List.mem_cons_of_mem _ hm)), h x (List.mem_cons_self ..), List.length_cons]
    omega
/-- a line in order -/
structure okP (m : LM) : Prop where
  s : m.S.length = 8
  n : m.N = setAll m.S m.O
  o : ∀ r ∈ m.O, 0 ≤ r.1 ∧ r.1 < 8
theorem okP.nl {m : LM} (h : okP m) : m.N.length = 8 := by rw [h.n, setAll_len, h.s]
theorem okP.store {m : LM} (h : okP m) (a : Int) (w : BitVec 64) : okP (m.store a w) := by
  unfold LM.store
  split
  · rename_i ha
    refine ⟨h.s, ?_, fun r hr => ?_⟩
    · show m.N.set _ _ = setAll m.S (m.O ++ [(a, w)])
      rw [setAll_app, ← h.n]; rfl
    · rcases List.mem_append.1 hr with hr | hr
      · exact h.o r hr
      · simp at hr; subst hr; exact ha
  · exact h
theorem okP.fall {m : LM} (h : okP m) (k : Int) : okP (m.fall k) := ⟨by show (setAll _ _).length = 8; rw [setAll_len, h.s], rfl, fun r hr => by cases hr⟩
theorem okP.flush {m : LM} (h : okP m) : okP (flushM m) := ⟨h.s, h.n, h.o⟩
theorem okP.fence {m : LM} (h : okP m) : okP (fenceM m) := ⟨by show (setAll _ _).length = 8; rw [setAll_len, h.s], by
  show m.N = setAll (setAll m.S (m.O.take m.F.toNat)) (m.O.drop m.F.toNat)
  rw [← setAll_app, List.take_append_drop]; exact h.n, fun r hr => h.o r (List.mem_of_mem_drop hr)⟩
theorem fence_flush {m : LM} (h : okP m) : (fenceM (flushM m)).S = m.N ∧ (fenceM (flushM m)).N = m.N ∧ (fenceM (flushM m)).O = [] := by
  refine ⟨?_, rfl, ?_⟩
  · show setAll m.S (m.O.take (m.O.length : Int).toNat) = _
    rw [show ((m.O.length : Int)).toNat = m.O.length by omega, List.take_length, h.n]
  · show m.O.drop (m.O.length : Int).toNat = []
    rw [show ((m.O.length : Int)).toNat = m.O.length by omega, List.drop_length]
/-- a memory in order, with so many open stores at the most -/
structure okS (s : AS) (n i : Nat) : Prop where
  len : s.L.length = n
  off : s.off = false
  ok : ∀ m ∈ s.L, okP m
  op : ∀ m ∈ s.L, m.O.length ≤ i
theorem set_mem {α : Type} {l : List α} {i : Nat} {x y : α} (h : y ∈ l.set i x) : y ∈ l ∨ y = x := (List.mem_or_eq_of_mem_set h)
theorem AS.store_on {s : AS} {a : Int} {w : BitVec 64} (h0 : s.off = false) (hf : s.fuse < 1) (ha : s.in8 a) : s.store a w = { s with L := s.L.set (a / 8).toNat ((s.L[(a / 8).toNat]?.getD LM0).store (a % 8) w), a := IntKind.i64.wrap (s.a + 1) } ∧ s.storeE a = 0 := by
  have h1 : ¬ s.fuse = 1 := by omega
  simp [AS.store, AS.storeE, AS.lit, h0, ha, hf, h1]
theorem in8_get {s : AS} {a : Int} (h : s.in8 a) : ∃ m, s.L[(a / 8).toNat]? = some m := by
  obtain ⟨h1, h2⟩ := h
  exact ⟨_, List.getElem?_eq_getElem (by omega)⟩
theorem okS.store {s : AS} {n i : Nat} (h : okS s n i) (hf : s.fuse < 1) {a : Int} (ha : 0 ≤ a ∧ a < 8 * n) (w : BitVec 64) : okS (s.store a w) n (i + 1) := by
  have hin : s.in8 a := ⟨ha.1, by rw [h.len]; omega⟩
  obtain ⟨m, hm⟩ := in8_get hin
  have hmm := List.mem_of_getElem? hm
  rw [(AS.store_on h.off hf hin).1, hm]
  refine ⟨by simp [h.len], h.off, fun x hx => ?_, fun x hx => ?_⟩
  · rcases set_mem hx with hx | rfl
    · exact h.ok x hx
    · exact (h.ok m hmm).store _ _
  · rcases set_mem hx with hx | rfl
    · have := h.op x hx; omega
    · have := h.op m hmm
      have h2 : ((m.store (a % 8) w).O).length ≤ m.O.length + 1 := by unfold LM.store; split <;> simp
      exact Nat.le_trans h2 (by omega)
theorem flushL_ok {P : LM → Prop} (hP : ∀ m, P m → P (flushM m)) : ∀ (ls : List Int) (L : List LM), (∀ i ∈ ls, 0 ≤ i ∧ i < L.length) → (∀ m ∈ L, P m) → ∀ m ∈ flushL L ls, P m
  | [], _, _, h => h
  | i :: ls, L, hi, h => by
    have h1 := hi i (List.mem_cons_self ..)
    obtain ⟨m, hm⟩ : ∃ m, L[i.toNat]? = some m := ⟨_, List.getElem?_eq_getElem (by omega)⟩
    show ∀ x ∈ flushL (L.set i.toNat (flushM (L[i.toNat]?.getD LM0))) ls, P x
    refine flushL_ok hP ls _ (fun j hj => by rw [List.length_set]; exact hi j (List.mem_cons_of_mem _ hj)) fun x hx => ?_
    rcases set_mem hx with hx | rfl
    · exact h x hx
    · rw [hm]; exact hP m (h m (List.mem_of_getElem? hm))
theorem AS.flush_on {s : AS} {ls : List Int} (h0 : s.off = false) (hf : s.fuse < 1) (ha : s.may ls) : s.flush ls = { s with L := flushL s.L ls, b := IntKind.i64.wrap (s.b + 1) } ∧ s.flushE ls = 0 := by
  have h1 : ¬ s.fuse = 1 := by omega
  simp [AS.flush, AS.flushE, AS.lit, h0, ha, hf, h1]
theorem AS.fence_on {s : AS} (h0 : s.off = false) (hf : s.fuse < 1) : s.fence = { s with L := s.L.map fenceM, c := IntKind.i64.wrap (s.c + 1) } ∧ s.fenceE = 0 := by
  have h1 : ¬ s.fuse = 1 := by omega
  simp [AS.fence, AS.fenceE, AS.lit, h0, hf, h1]
theorem fallM_get {K : List Int} {L : List LM} {i : Nat} {m : LM} (h : L[i]? = some m) : ∃ k, (fallM K L)[i]? = some (if m.O.length = 0 then m else m.fall k) := by
  unfold fallM
  rw [List.getElem?_mapIdx, h]
  exact ⟨_, rfl⟩
theorem fallM_length (K : List Int) (L : List LM) : (fallM K L).length = L.length := by simp [fallM]
/-- behind a fall a line is one that its stores may leave -/
theorem fallM_mem {K : List Int} {L : List LM} {x : LM} (h : x ∈ fallM K L) : ∃ m ∈ L, x = m ∧ m.O = [] ∨ ∃ k, x = m.fall k := by
  obtain ⟨i, hi⟩ := List.getElem?_of_mem h
  obtain ⟨m, hm⟩ : ∃ m, L[i]? = some m := ⟨_, List.getElem?_eq_getElem (by have := lt_of_get hi; rwa [fallM_length] at this)⟩
  obtain ⟨k, hk⟩ := fallM_get (K := K) hm
  rw [hk] at hi
  injection hi with hi
  by_cases e : m.O.length = 0
  · rw [if_pos e] at hi
    exact ⟨m, List.mem_of_getElem? hm, .inl ⟨hi.symm, List.length_eq_zero_iff.1 e⟩⟩
  · rw [if_neg e] at hi
    exact ⟨m, List.mem_of_getElem? hm, .inr ⟨k, hi.symm⟩⟩
end Go.Proofs.Ytdoennkmcloalaa
set_option linter.unusedSimpArgs false
namespace Go.Proofs.Ytdoennkmcloalaa
open Go.RowKit Ev
/-! ### what was fenced -/
/-- of a line: where nothing was stored since, all is as it was -/
def okK (was : List (BitVec 64)) (ov : Nat → Bool) (l : Nat) (m : LM) : Prop := ∀ p, p < 8 → ov (8 * l + p) = false → m.N[p]? = was[8 * l + p]? ∧ m.S[p]? = was[8 * l + p]? ∧ ∀ r ∈ m.O, r.1 ≠ (p : Int)
def sureB (was : List (BitVec 64)) (ov : Nat → Bool) (s : AS) (i : Nat) : Prop := okS s 4 i ∧ s.fuse < 1 ∧ ∀ l m, s.L[l]? = some m → okK was ov l m
theorem sureB_store {was : List (BitVec 64)} {ov : Nat → Bool} {s : AS} {i : Nat} (h : sureB was ov s i) {a : Nat} (ha : a < 32) (w : BitVec 64) : sureB was (fun k => if k = a then true else ov k) (s.store (a : Int) w) (i + 1) := by
  obtain ⟨h1, h2, h3⟩ := h
  have hin : s.in8 (a : Int) := ⟨by omega, by rw [h1.len]; omega⟩
  obtain ⟨m, hm⟩ := in8_get hin
  refine ⟨h1.store h2 ⟨by omega, by omega⟩ w, ?_, fun l x hx => ?_⟩
  · rw [(AS.store_on h1.off h2 hin).1]; exact h2
  · rw [(AS.store_on h1.off h2 hin).1, hm] at hx
    have hal : ((a : Int) / 8).toNat = a / 8 := by omega
    have hap : ((a : Int) % 8) = ((a % 8 : Nat) : Int) := by omega
    rw [hal] at hm
    simp only [hal, hap, Option.getD_some] at hx
    by_cases e : a / 8 = l
    · subst e
      rw [List.getElem?_set_self (lt_of_get hm)] at hx
      injection hx with hx
      subst hx
      have hk := h3 _ m hm
      intro p hp ho
      by_cases e2 : 8 * (a / 8) + p = a
      · simp only [if_pos e2] at ho
        cases ho
      · simp only [if_neg e2] at ho
        obtain ⟨k1, k2, k3⟩ := hk p hp ho
        have hst : m.store ((a % 8 : Nat) : Int) w = { m with N := m.N.set (a % 8) w, O := m.O ++ [(((a % 8 : Nat) : Int), w)] } := by
          unfold LM.store; rw [if_pos ⟨by omega, by omega⟩]; rfl
        rw [hst]
        refine ⟨?_, k2, fun r hr => ?_⟩
        · show (m.N.set (a % 8) w)[p]? = _
          rw [List.getElem?_set_ne (by omega)]; exact k1
        · rcases List.mem_append.1 hr with hr | hr
          · exact k3 r hr
          · simp at hr; subst hr; show ((a % 8 : Nat) : Int) ≠ _; omega
    · rw [List.getElem?_set_ne e] at hx
      have hk := h3 l x hx
      intro p hp ho
      have hne : ¬ 8 * l + p = a := by omega
      simp only [if_neg hne] at ho
      exact hk p hp ho
theorem sureB_fall {was : List (BitVec 64)} {ov : Nat → Bool} {s : AS} {i : Nat} (h : sureB was ov s i) (K : List Int) {k : Nat} (hk : k < 32) (ho : ov k = false) : (allN (fallM K s.L))[k]? = was[k]? := by
  obtain ⟨h1, h2, h3⟩ := h
  obtain ⟨m, hm⟩ : ∃ m, s.L[k / 8]? = some m := ⟨_, List.getElem?_eq_getElem (by rw [h1.len]; omega)⟩
  obtain ⟨c, hc⟩ := fallM_get (K := K) hm
  have hkk : 8 * (k / 8) + k % 8 = k := by omega
  have hall : ∀ x ∈ fallM K s.L, x.N.length = 8 := fun x hx => by
    obtain ⟨m, hm, h⟩ := fallM_mem hx
    rcases h with ⟨rfl, _⟩ | ⟨k, rfl⟩
    · exact (h1.ok _ hm).nl
    · exact ((h1.ok _ hm).fall k).nl
  have hg := allN_get hall hc (show k % 8 < 8 by omega)
  rw [hkk] at hg
  rw [hg]
  obtain ⟨k1, k2, k3⟩ := h3 _ m hm (k % 8) (by omega) (by rw [hkk]; exact ho)
  rw [hkk] at k1 k2
  split
  · exact k1
  · rw [← k2]
    have hp := (h1.ok m (List.mem_of_getElem? hm)).o
    exact setAll_off _ _ fun r hr => ⟨(hp r (List.mem_of_mem_take hr)).1, k3 r (List.mem_of_mem_take hr)⟩
/-- what stands behind a flush of all and a fence -/
theorem flush4 {s : AS} {i : Nat} (h : okS s 4 i) (hf : s.fuse < 1) : s.may [0, 1, 2, 3] ∧ (s.flush [0, 1, 2, 3]).L = s.L.map flushM := by
  have hm : s.may [0, 1, 2, 3] := fun i hi => by
    rw [h.len]
    simp at hi
    omega
  refine ⟨hm, ?_⟩
  rw [(AS.flush_on h.off hf hm).1]
  show flushL s.L [0, 1, 2, 3] = _
  have hl := h.len
  match hL : s.L, hl with
  | [a, b, c, d], _ => rfl
theorem sureB_begin {s : AS} {i : Nat} (h : okS s 4 i) (hf : s.fuse < 1) : sureB (allN (s.flush [0, 1, 2, 3]).fence.L) (fun _ => false) (s.flush [0, 1, 2, 3]).fence 0 ∧ (s.flush [0, 1, 2, 3]).fenceE = 0 ∧ s.flushE [0, 1, 2, 3] = 0 := by
  obtain ⟨hm, hL⟩ := flush4 h hf
  obtain ⟨e1, e2⟩ := AS.flush_on h.off hf hm
  have o1 : (s.flush [0, 1, 2, 3]).off = false := by rw [e1]; exact h.off
  have f1 : (s.flush [0, 1, 2, 3]).fuse < 1 := by rw [e1]; exact hf
  obtain ⟨e3, e4⟩ := AS.fence_on o1 f1
  have hL2 : (s.flush [0, 1, 2, 3]).fence.L = s.L.map fun m => fenceM (flushM m) := by
    rw [e3]; show (s.flush [0, 1, 2, 3]).L.map fenceM = _
    rw [hL, List.map_map]; rfl
  refine ⟨⟨⟨by rw [hL2, List.length_map, h.len], by rw [e3]; exact o1, fun m hm => ?_, fun m hm => ?_⟩, by rw [e3]; exact f1, fun l m hl => ?_⟩, e4, e2⟩
  · rw [hL2] at hm
    obtain ⟨x, hx, rfl⟩ := List.mem_map.1 hm
    exact (h.ok x hx).flush.fence
  · rw [hL2] at hm
    obtain ⟨x, hx, rfl⟩ := List.mem_map.1 hm
    rw [(fence_flush (h.ok x hx)).2.2]; exact Nat.le_refl _
  · intro p hp _
    have hall : ∀ x ∈ (s.flush [0, 1, 2, 3]).fence.L, x.N.length = 8 := fun x hx => by
      rw [hL2] at hx
      obtain ⟨y, hy, rfl⟩ := List.mem_map.1 hx
      exact (h.ok y hy).nl
    have hg := allN_get hall hl hp
    rw [hL2, List.getElem?_map] at hl
    cases hx : s.L[l]? with
    | none => rw [hx] at hl; cases hl
    | some x =>
      rw [hx] at hl
      injection hl with hl
      obtain ⟨q1, q2, q3⟩ := fence_flush (h.ok x (List.mem_of_getElem? hx))
      have hl : fenceM (flushM x) = m := hl
      rw [hl] at q1 q2 q3
      refine ⟨hg.symm, ?_, fun r hr => ?_⟩
      · rw [hg, q1, q2]
      · rw [q3] at hr; cases hr
/-! ### each word is one that was stored -/
def okA (P : Nat → BitVec 64 → Prop) (l : Nat) (m : LM) : Prop := (∀ p v, p < 8 → m.S[p]? = some v → P (8 * l + p) v) ∧ ∀ r ∈ m.O, P (8 * l + r.1.toNat) r.2
def atomB (n : Nat) (P : Nat → BitVec 64 → Prop) (s : AS) (i : Nat) : Prop := okS s n i ∧ s.fuse < 1 ∧ ∀ l m, s.L[l]? = some m → okA P l m
theorem okA.mono {P Q : Nat → BitVec 64 → Prop} {l : Nat} {m : LM} (h : okA P l m) (k : ∀ i v, P i v → Q i v) : okA Q l m := ⟨fun p v hp hv => k _ _ (h.1 p v hp hv), fun r hr => k _ _ (h.2 r hr)⟩
theorem atomB_mono {n : Nat} {P Q : Nat → BitVec 64 → Prop} {s : AS} {i : Nat} (h : atomB n P s i) (k : ∀ i v, P i v → Q i v) : atomB n Q s i := ⟨h.1, h.2.1, fun l m hm => (h.2.2 l m hm).mono k⟩
theorem okA.get {P : Nat → BitVec 64 → Prop} {l : Nat} {m : LM} (h : okA P l m) (hm : okP m) (k : Nat) {p : Nat} {v : BitVec 64} (hp : p < 8) (hv : (setAll m.S (m.O.take k))[p]? = some v) : P (8 * l + p) v := by
  rcases setAll_or _ _ (fun r hr => (hm.o r (List.mem_of_mem_take hr)).1) hv with e | ⟨r, hr, e1, e2⟩
  · exact h.1 p v hp e
  · have := h.2 r (List.mem_of_mem_take hr)
    rw [e2, e1] at this
    exact this
theorem atomB_store {n : Nat} {P : Nat → BitVec 64 → Prop} {s : AS} {i : Nat} (h : atomB n P s i) {a : Nat} (ha : a < 8 * n) {w : BitVec 64} (hw : P a w) : atomB n P (s.store (a : Int) w) (i + 1) := by
  obtain ⟨h1, h2, h3⟩ := h
  have hin : s.in8 (a : Int) := ⟨by omega, by rw [h1.len]; omega⟩
  obtain ⟨m, hm⟩ := in8_get hin
  refine ⟨h1.store h2 ⟨by omega, by omega⟩ w, ?_, fun l x hx => ?_⟩
  · rw [(AS.store_on h1.off h2 hin).1]; exact h2
  · rw [(AS.store_on h1.off h2 hin).1, hm] at hx
    have hal : ((a : Int) / 8).toNat = a / 8 := by omega
    have hap : ((a : Int) % 8) = ((a % 8 : Nat) : Int) := by omega
    rw [hal] at hm
    simp only [hal, hap, Option.getD_some] at hx
    by_cases e : a / 8 = l
    · subst e
      rw [List.getElem?_set_self (lt_of_get hm)] at hx
      injection hx with hx
      subst hx
      have hk := h3 _ m hm
      have hst : m.store ((a % 8 : Nat) : Int) w = { m with N := m.N.set (a % 8) w, O := m.O ++ [(((a % 8 : Nat) : Int), w)] } := by
        unfold LM.store; rw [if_pos ⟨by omega, by omega⟩]; rfl
      rw [hst]
      refine ⟨hk.1, fun r hr => ?_⟩
      rcases List.mem_append.1 hr with hr | hr
      · exact hk.2 r hr
      · simp at hr; subst hr
        show P (8 * (a / 8) + ((a % 8 : Nat) : Int).toNat) w
        rw [show 8 * (a / 8) + ((a % 8 : Nat) : Int).toNat = a by omega]
        exact hw
    · rw [List.getElem?_set_ne e] at hx
      exact h3 l x hx
theorem flushL_at {ls : List Int} : ∀ {L : List LM} {l : Nat} {x : LM}, (∀ i ∈ ls, 0 ≤ i ∧ i < L.length) → (flushL L ls)[l]? = some x → ∃ m, L[l]? = some m ∧ x.S = m.S ∧ x.N = m.N ∧ x.O = m.O := by
  induction ls with
  | nil => intro L l x _ h; exact ⟨x, h, rfl, rfl, rfl⟩
  | cons i ls ih =>
    intro L l x hi h
    have h1 := hi i (List.mem_cons_self ..)
    obtain ⟨y, hy⟩ : ∃ y, L[i.toNat]? = some y := ⟨_, List.getElem?_eq_getElem (by omega)⟩
    obtain ⟨m, hm, q1, q2, q3⟩ := ih (L := L.set i.toNat (flushM (L[i.toNat]?.getD LM0))) (fun j hj => by rw [List.length_set]; exact hi j (List.mem_cons_of_mem _ hj)) h
    by_cases e : i.toNat = l
    · subst e
      rw [List.getElem?_set_self (lt_of_get hy), hy] at hm
      injection hm with hm
      subst hm
      exact ⟨y, hy, q1, q2, q3⟩
    · rw [List.getElem?_set_ne e] at hm
      exact ⟨m, hm, q1, q2, q3⟩
theorem atomB_flush {n : Nat} {P : Nat → BitVec 64 → Prop} {s : AS} {i : Nat} (h : atomB n P s i) {ls : List Int} (hl : s.may ls) : atomB n P (s.flush ls) i := by
  obtain ⟨h1, h2, h3⟩ := h
  rw [(AS.flush_on h1.off h2 hl).1]
  refine ⟨⟨by show (flushL s.L ls).length = n; rw [flushL_length, h1.len], h1.off, flushL_ok (fun _ h => h.flush) ls s.L hl h1.ok, flushL_ok (P := fun m => m.O.length ≤ i) (fun _ h => h) ls s.L hl h1.op⟩, h2, fun l x hx => ?_⟩
  obtain ⟨m, hm, q1, q2, q3⟩ := flushL_at hl hx
  have := h3 l m hm
  exact ⟨fun p v hp hv => this.1 p v hp (by rw [← q1]; exact hv), fun r hr => this.2 r (by rw [← q3]; exact hr)⟩
theorem atomB_fence {n : Nat} {P : Nat → BitVec 64 → Prop} {s : AS} {i : Nat} (h : atomB n P s i) : atomB n P s.fence i := by
  obtain ⟨h1, h2, h3⟩ := h
  rw [(AS.fence_on h1.off h2).1]
  refine ⟨⟨by show (s.L.map fenceM).length = n; rw [List.length_map, h1.len], h1.off, fun m hm => ?_, fun m hm => ?_⟩, h2, fun l x hx => ?_⟩
  · obtain ⟨x, hx, rfl⟩ := List.mem_map.1 hm
    exact (h1.ok x hx).fence
  · obtain ⟨x, hx, rfl⟩ := List.mem_map.1 hm
    have := h1.op x hx
    show (x.O.drop _).length ≤ i
    rw [List.length_drop]; omega
  · have hx' : (s.L.map fenceM)[l]? = some x := hx
    rw [List.getElem?_map] at hx'
    cases hm : s.L[l]? with
    | none => rw [hm] at hx'; cases hx'
    | some m =>
      rw [hm] at hx'
      injection hx' with hx'
      subst hx'
      have hk := h3 l m hm
      have hp := h1.ok m (List.mem_of_getElem? hm)
      exact ⟨fun p v hp2 hv => hk.get hp _ hp2 hv, fun r hr => hk.2 r (List.mem_of_mem_drop hr)⟩
theorem atomB_fall {n : Nat} {P : Nat → BitVec 64 → Prop} {s : AS} {i : Nat} (h : atomB n P s i) (K : List Int) : (allN (fallM K s.L)).length = 8 * n ∧ ∀ k v, (allN (fallM K s.L))[k]? = some v → P k v := by
  obtain ⟨h1, h2, h3⟩ := h
  have hall : ∀ x ∈ fallM K s.L, x.N.length = 8 := fun x hx => by
    obtain ⟨m, hm, h⟩ := fallM_mem hx
    rcases h with ⟨rfl, _⟩ | ⟨k, rfl⟩
    · exact (h1.ok _ hm).nl
    · exact ((h1.ok _ hm).fall k).nl
  have hlen := allN_length hall
  rw [fallM_length, h1.len] at hlen
  refine ⟨hlen, fun k v hv => ?_⟩
  have hk := lt_of_get hv
  rw [hlen] at hk
  obtain ⟨m, hm⟩ : ∃ m, s.L[k / 8]? = some m := ⟨_, List.getElem?_eq_getElem (by rw [h1.len]; omega)⟩
  obtain ⟨c, hc⟩ := fallM_get (K := K) hm
  have hg := allN_get hall hc (show k % 8 < 8 by omega)
  have hkk : 8 * (k / 8) + k % 8 = k := by omega
  rw [hkk, hv] at hg
  have hka := h3 _ m hm
  have hpm := h1.ok m (List.mem_of_getElem? hm)
  rw [← hkk]
  by_cases e : m.O.length = 0
  · rw [if_pos e] at hg
    refine hka.get hpm m.O.length (by omega) ?_
    rw [List.take_length, ← hpm.n]; exact hg.symm
  · rw [if_neg e] at hg
    exact hka.get hpm _ (by omega) hg.symm
end Go.Proofs.Ytdoennkmcloalaa

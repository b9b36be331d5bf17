/-
  Package lock: PLAIN facts of who holds what: what was taken and given back agrees.
-/
import Derived.Test.YtdoennkmcloalaaLpE
set_option linter.unusedSimpArgs false
set_option linter.unusedVariables false
namespace Go.Proofs.Ytdoennkmcloalaa
open Go.RowKit Ev
/-- what each holds, and who holds each key, say the same -/
structure Cons (hv : Int → List Wn) (ky : Int → List Int × Bool) : Prop where
  mem : ∀ p k, p ∈ (ky k).1 ↔ ∃ al, (k, al) ∈ hv p
  flag : ∀ p w, w ∈ hv p → (ky w.1).2 = w.2
  up : ∀ p, UpK (hv p)
  rng : ∀ p, hv p ≠ [] → 0 ≤ p ∧ p ≤ 5
  len : ∀ p, (hv p).length ≤ 10
  ris : ∀ k, RisI (ky k).1
theorem UpK.pw {K : List Wn} (h : UpK K) : K.Pairwise fun a b => a.1 < b.1 := by
  rw [List.pairwise_iff_getElem]
  intro i j hi hj hij
  exact up_far h (j - i - 1) i _ _ (List.getElem?_eq_getElem hi) (by rw [show i + (j - i - 1) + 1 = j by omega]; exact List.getElem?_eq_getElem hj)
theorem takeK_at (who : Int) : ∀ (K : List Wn) (ky : Int → List Int × Bool) (w : Wn), (K.Pairwise fun a b => a.1 < b.1) → w ∈ K → takeK ky who K w.1 = (insI (cntL who (ky w.1).1) who (ky w.1).1, w.2)
  | [], _, w, _, h => by cases h
  | x :: K, ky, w, hp, h => by
    obtain ⟨hp1, hp2⟩ := List.pairwise_cons.1 hp
    show takeK (tk1 who ky x) who K w.1 = _
    rcases List.mem_cons.1 h with rfl | h
    · rw [takeK_other who K _ fun y hy => by have := hp1 y hy; omega]
      exact updI_same ..
    · rw [takeK_at who K _ w hp2 h]
      have : tk1 who ky x w.1 = ky w.1 := updI_ne _ _ (by have := hp1 w h; omega)
      rw [this]
theorem giveK_at (who : Int) : ∀ (K : List Wn) (ky : Int → List Int × Bool) (w : Wn), (K.Pairwise fun a b => a.1 < b.1) → w ∈ K → giveK ky who K w.1 = ((ky w.1).1.eraseIdx (cntL who (ky w.1).1), (ky w.1).2)
  | [], _, w, _, h => by cases h
  | x :: K, ky, w, hp, h => by
    obtain ⟨hp1, hp2⟩ := List.pairwise_cons.1 hp
    show giveK (gk1 who ky x) who K w.1 = _
    rcases List.mem_cons.1 h with rfl | h
    · rw [giveK_other who K _ fun y hy => by have := hp1 y hy; omega]
      exact updI_same ..
    · rw [giveK_at who K _ w hp2 h]
      have : gk1 who ky x w.1 = ky w.1 := updI_ne _ _ (by have := hp1 w h; omega)
      rw [this]
theorem pw_key {K : List Wn} (hp : K.Pairwise fun a b => a.1 < b.1) {k : Int} {a b : Bool} (h1 : (k, a) ∈ K) (h2 : (k, b) ∈ K) : a = b := by
  induction K with
  | nil => cases h1
  | cons x K ih =>
    obtain ⟨hp1, hp2⟩ := List.pairwise_cons.1 hp
    rcases List.mem_cons.1 h1 with e1 | h1 <;> rcases List.mem_cons.1 h2 with e2 | h2
    · rw [← e1] at e2; injection e2 with _ e2; exact e2.symm
    · have := hp1 _ h2; rw [← e1] at this; exact absurd this (Int.lt_irrefl _)
    · have := hp1 _ h1; rw [← e2] at this; exact absurd this (Int.lt_irrefl _)
    · exact ih hp2 h1 h2
theorem Cons.zero : Cons (fun _ => []) (fun _ => ([], false)) where
  mem p k := by simp
  flag p w h := by cases h
  up p := fun i x y h => by simp at h
  rng p h := absurd rfl h
  len p := Nat.zero_le _
  ris k := List.Pairwise.nil
section
variable {hv : Int → List Wn} {ky : Int → List Int × Bool}
theorem Cons.no (h : Cons hv ky) {who : Int} (hw : hv who = []) (k : Int) : who ∉ (ky k).1 := fun hm => by
  obtain ⟨al, h1⟩ := (h.mem who k).1 hm
  rw [hw] at h1; cases h1
theorem Cons.six (h : Cons hv ky) (k : Int) : ∀ p ∈ (ky k).1, 0 ≤ p ∧ p ≤ 5 := fun p hp => by
  obtain ⟨al, h1⟩ := (h.mem p k).1 hp
  exact h.rng p (List.ne_nil_of_mem h1)
theorem ris_low : ∀ (L : List Int) (a : Int), RisI L → (∀ x ∈ L, a ≤ x ∧ x ≤ 5) → (L.length : Int) ≤ 6 - a ∨ L = []
  | [], _, _, _ => .inr rfl
  | x :: L, a, hr, hb => by
    obtain ⟨h1, h2⟩ := List.pairwise_cons.1 hr
    have hx := hb x (List.mem_cons_self ..)
    rcases ris_low L (x + 1) h2 (fun y hy => ⟨by have := h1 y hy; omega, (hb y (List.mem_cons_of_mem _ hy)).2⟩) with h | h
    · left; simp only [List.length_cons]; omega
    · left; subst h; simp only [List.length_cons, List.length_nil]; omega
theorem Cons.few (h : Cons hv ky) (k : Int) : (ky k).1.length ≤ 6 := by
  rcases ris_low _ 0 (h.ris k) (h.six k) with h1 | h1
  · omega
  · rw [h1]; exact Nat.zero_le _
/-- who may not have what another has -/
theorem Cons.busy (h : Cons hv ky) (w : Wn) : Busy ky w ↔ ∃ p u, u ∈ hv p ∧ u.1 = w.1 ∧ (u.2 = true ∨ w.2 = true) := by
  constructor
  · rintro ⟨h1, h2⟩
    obtain ⟨p, hp⟩ := List.exists_mem_of_ne_nil _ h1
    obtain ⟨al, hm⟩ := (h.mem p w.1).1 hp
    refine ⟨p, (w.1, al), hm, rfl, ?_⟩
    have := h.flag p _ hm
    simp only at this
    rw [← this]; exact h2
  · rintro ⟨p, u, hu, he, ho⟩
    have hf := h.flag p u hu
    rw [he] at hf
    refine ⟨List.ne_nil_of_mem ((h.mem p w.1).2 ⟨u.2, by rw [← he]; exact hu⟩), ?_⟩
    rw [hf]; exact ho
theorem Cons.take (h : Cons hv ky) {who : Int} {K : List Wn} (hw : hv who = []) (hup : UpK K) (hnb : ∀ w ∈ K, ¬ Busy ky w) (hr : 0 ≤ who ∧ who ≤ 5) (hl : K.length ≤ 10) (hris : ∀ k, RisI (takeK ky who K k).1) : Cons (updI hv who K) (takeK ky who K) := by
  have hpw := hup.pw
  have hat := takeK_at who K ky
  have hot : ∀ k, (∀ w ∈ K, w.1 ≠ k) → takeK ky who K k = ky k := fun k hk => takeK_other who K ky hk
  refine ⟨fun p k => ?_, fun p w hm => ?_, fun p => ?_, fun p hp => ?_, fun p => ?_, hris⟩
  · by_cases hk : ∃ w ∈ K, w.1 = k
    · obtain ⟨w, hwK, rfl⟩ := hk
      rw [hat w hpw hwK]
      show p ∈ insI _ who (ky w.1).1 ↔ _
      rw [mem_insI]
      by_cases e : p = who
      · subst e
        rw [updI_same]
        exact ⟨fun _ => ⟨w.2, hwK⟩, fun _ => .inl rfl⟩
      · rw [updI_ne _ _ e, ← h.mem p w.1]
        exact ⟨fun hh => hh.resolve_left e, .inr⟩
    · have hk' : ∀ w ∈ K, w.1 ≠ k := fun w hw' e => hk ⟨w, hw', e⟩
      rw [hot k hk']
      by_cases e : p = who
      · subst e
        rw [updI_same]
        exact ⟨fun hh => absurd hh (h.no hw k), fun ⟨al, hm⟩ => absurd rfl (hk' _ hm)⟩
      · rw [updI_ne _ _ e]; exact h.mem p k
  · by_cases e : p = who
    · subst e
      rw [updI_same] at hm
      rw [hat w hpw hm]
    · rw [updI_ne _ _ e] at hm
      by_cases hk : ∃ u ∈ K, u.1 = w.1
      · obtain ⟨u, huK, hu⟩ := hk
        rw [← hu, hat u hpw huK]
        show u.2 = w.2
        have hnbu := fun hh => hnb u huK ((h.busy u).2 ⟨p, w, hm, hu.symm, hh⟩)
        cases hw2 : w.2 <;> cases hu2 : u.2
        · rfl
        · exact absurd (.inr hu2) hnbu
        · exact absurd (.inl hw2) hnbu
        · rfl
      · rw [hot _ fun u hu e => hk ⟨u, hu, e⟩]; exact h.flag p w hm
  · by_cases e : p = who
    · subst e; rw [updI_same]; exact hup
    · rw [updI_ne _ _ e]; exact h.up p
  · by_cases e : p = who
    · subst e; exact hr
    · rw [updI_ne _ _ e] at hp; exact h.rng p hp
  · by_cases e : p = who
    · subst e; rw [updI_same]; exact hl
    · rw [updI_ne _ _ e]; exact h.len p
theorem mem_eraseI : ∀ {L : List Int} {i : Nat} {w : Int}, RisI L → L[i]? = some w → ∀ p, p ∈ L.eraseIdx i ↔ p ∈ L ∧ p ≠ w
  | [], _, _, _, h, _ => by simp at h
  | x :: L, 0, w, hr, h, p => by
    simp at h
    subst h
    have hx := (List.pairwise_cons.1 hr).1
    constructor
    · intro hp
      exact ⟨List.mem_cons_of_mem _ hp, fun e => by have := hx p hp; omega⟩
    · rintro ⟨hp, hne⟩
      rcases List.mem_cons.1 hp with rfl | hp
      · exact absurd rfl hne
      · exact hp
  | x :: L, i + 1, w, hr, h, p => by
    obtain ⟨h1, h2⟩ := List.pairwise_cons.1 hr
    have hi : L[i]? = some w := by simpa using h
    have ih := mem_eraseI h2 hi p
    constructor
    · intro hp
      rcases List.mem_cons.1 hp with rfl | hp
      · exact ⟨List.mem_cons_self .., fun e => by have := h1 w (List.mem_of_getElem? hi); omega⟩
      · exact ⟨List.mem_cons_of_mem _ (ih.1 hp).1, (ih.1 hp).2⟩
    · rintro ⟨hp, hne⟩
      rcases List.mem_cons.1 hp with rfl | hp
      · exact List.mem_cons_self ..
      · exact List.mem_cons_of_mem _ (ih.2 ⟨hp, hne⟩)
theorem Cons.give (h : Cons hv ky) {who : Int} (hris : ∀ k, RisI (giveK ky who (hv who) k).1) : Cons (updI hv who []) (giveK ky who (hv who)) := by
  have hpw := (h.up who).pw
  have hat := giveK_at who (hv who) ky
  have hot : ∀ k, (∀ w ∈ hv who, w.1 ≠ k) → giveK ky who (hv who) k = ky k := fun k hk => giveK_other who _ ky hk
  refine ⟨fun p k => ?_, fun p w hm => ?_, fun p => ?_, fun p hp => ?_, fun p => ?_, hris⟩
  · by_cases hk : ∃ w ∈ hv who, w.1 = k
    · obtain ⟨w, hwK, rfl⟩ := hk
      rw [hat w hpw hwK]
      show p ∈ (ky w.1).1.eraseIdx (cntL who (ky w.1).1) ↔ _
      have hwho : who ∈ (ky w.1).1 := (h.mem who w.1).2 ⟨w.2, hwK⟩
      rw [mem_eraseI (h.ris w.1) (cntL_mem (h.ris w.1) hwho).2]
      by_cases e : p = who
      · subst e
        rw [updI_same]
        exact ⟨fun hh => absurd rfl hh.2, fun ⟨al, hm⟩ => by cases hm⟩
      · rw [updI_ne _ _ e, ← h.mem p w.1]
        exact ⟨fun hh => hh.1, fun hh => ⟨hh, e⟩⟩
    · have hk' : ∀ w ∈ hv who, w.1 ≠ k := fun w hw' e => hk ⟨w, hw', e⟩
      rw [hot k hk']
      by_cases e : p = who
      · subst e
        rw [updI_same, h.mem p k]
        exact ⟨fun ⟨al, hm⟩ => absurd rfl (hk' _ hm), fun ⟨al, hm⟩ => by cases hm⟩
      · rw [updI_ne _ _ e]; exact h.mem p k
  · by_cases e : p = who
    · subst e
      rw [updI_same] at hm; cases hm
    · rw [updI_ne _ _ e] at hm
      by_cases hk : ∃ u ∈ hv who, u.1 = w.1
      · obtain ⟨u, huK, hu⟩ := hk
        rw [← hu, hat u hpw huK, hu]
        exact h.flag p w hm
      · rw [hot _ fun u hu e => hk ⟨u, hu, e⟩]; exact h.flag p w hm
  · by_cases e : p = who
    · subst e; rw [updI_same]; exact fun i x y h => by simp at h
    · rw [updI_ne _ _ e]; exact h.up p
  · by_cases e : p = who
    · subst e; rw [updI_same] at hp; exact absurd rfl hp
    · rw [updI_ne _ _ e] at hp; exact h.rng p hp
  · by_cases e : p = who
    · subst e; rw [updI_same]; exact Nat.zero_le _
    · rw [updI_ne _ _ e]; exact h.len p
end
/-- two rising rows of the same ones are the same -/
theorem RisI.same : ∀ {L M : List Int}, RisI L → RisI M → (∀ x, x ∈ L ↔ x ∈ M) → L = M
  | [], [], _, _, _ => rfl
  | [], y :: M, _, _, h => by have := (h y).2 (List.mem_cons_self ..); cases this
  | x :: L, [], _, _, h => by have := (h x).1 (List.mem_cons_self ..); cases this
  | x :: L, y :: M, hl, hm, h => by
    obtain ⟨l1, l2⟩ := List.pairwise_cons.1 hl
    obtain ⟨m1, m2⟩ := List.pairwise_cons.1 hm
    have exy : x = y := by
      rcases List.mem_cons.1 ((h x).1 (List.mem_cons_self ..)) with e | e
      · exact e
      · rcases List.mem_cons.1 ((h y).2 (List.mem_cons_self ..)) with f | f
        · exact f.symm
        · have := m1 x e; have := l1 y f; omega
    subst exy
    congr 1
    refine RisI.same l2 m2 fun z => ?_
    have hz := h z
    constructor
    · intro hm'
      rcases List.mem_cons.1 (hz.1 (List.mem_cons_of_mem _ hm')) with e | e
      · subst e; have := l1 z hm'; omega
      · exact e
    · intro hm'
      rcases List.mem_cons.1 (hz.2 (List.mem_cons_of_mem _ hm')) with e | e
      · subst e; have := m1 z hm'; omega
      · exact e
/-- who holds a key, of the first ones -/
def colP (ky : Int → List Int × Bool) (key : Int) (p : Nat) : List Int := ((List.range p).filter fun i : Nat => decide ((i : Int) ∈ (ky key).1)).map fun i : Nat => (i : Int)
theorem colP_succ (ky : Int → List Int × Bool) (key : Int) (p : Nat) : colP ky key (p + 1) = colP ky key p ++ if (p : Int) ∈ (ky key).1 then [(p : Int)] else [] := by
  unfold colP
  rw [List.range_succ, List.filter_append, List.map_append]
  congr 1
  by_cases h : (p : Int) ∈ (ky key).1
  · rw [if_pos h]; simp [h]
  · rw [if_neg h]; simp [h]
theorem colP_six {hv : Int → List Wn} {ky : Int → List Int × Bool} (h : Cons hv ky) (key : Int) : colP ky key 6 = (ky key).1 := by
  refine RisI.same ?_ (h.ris key) fun x => ?_
  · unfold RisI colP
    rw [List.pairwise_map]
    refine List.Pairwise.imp (fun hh => by omega) (List.Pairwise.filter _ (List.pairwise_lt_range (n := 6)))
  · unfold colP
    rw [List.mem_map]
    constructor
    · rintro ⟨i, hi, rfl⟩
      rw [List.mem_filter] at hi
      simpa using hi.2
    · intro hx
      have := h.six key x hx
      refine ⟨x.toNat, ?_, by omega⟩
      rw [List.mem_filter, List.mem_range]
      exact ⟨by omega, by rw [show ((x.toNat : Nat) : Int) = x by omega]; simpa using hx⟩
theorem colP_len (ky : Int → List Int × Bool) (key : Int) (p : Nat) : (colP ky key p).length ≤ p := by
  unfold colP
  rw [List.length_map]
  exact Nat.le_trans (List.length_filter_le _ _) (by rw [List.length_range]; exact Nat.le_refl _)
end Go.Proofs.Ytdoennkmcloalaa

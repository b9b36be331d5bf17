/-
  PLAIN: the document's way to read a node, and what may be, are the program's.
-/
import Derived.Test.YtdoennkmcloalaaNdT
set_option linter.unusedSimpArgs false
namespace Go.Proofs.Ytdoennkmcloalaa
open Go.RowKit Ev
def rreadN (L : List (BitVec 64)) : Nd := ⟨(wat L 0 &&& 255#64).toInt, ((wat L 0 >>> 8) &&& 16777215#64).toInt, (wat L 1).toInt, readR L 4⟩
theorem fits_ranges {N : Nd} (h : fitsN N) : (0 ≤ N.l ∧ N.l ≤ 16777215) ∧ 0 ≤ N.s ∧ N.s ≤ 1099511627776 := by
  unfold fitsN at h
  split at h
  · obtain ⟨h1, h2, _⟩ := h
    omega
  · obtain ⟨_, h1, h2, _⟩ := h
    exact ⟨h1, h2⟩
theorem fits_of_len {N : Nd} {L : List (BitVec 64)} (h : putN N = L) (h8 : L.length = 8) : fitsN N := by
  by_cases hf : fitsN N
  · exact hf
  · rw [putN_bad hf] at h
    subst h
    cases h8
theorem rread_eq {L : List (BitVec 64)} (h : 0 ≤ (readN L).l ∧ (readN L).l ≤ 16777215) : rreadN L = readN L := by
  unfold rreadN readN
  congr 1
  have h' : 0 ≤ (wat L 0 >>> 8).toInt ∧ (wat L 0 >>> 8).toInt ≤ 16777215 := h
  generalize wat L 0 >>> 8 = w at h' ⊢
  have e : w &&& 16777215#64 = w := by
    apply BitVec.eq_of_toNat_eq
    rw [BitVec.toNat_and]
    show w.toNat &&& (2 ^ 24 - 1) = _
    rw [Nat.and_two_pow_sub_one_eq_mod, Nat.mod_eq_of_lt]
    have := BitVec.toInt_eq_toNat_cond w
    split at this <;> omega
  rw [e]
theorem rget_yes {L : List (BitVec 64)} (h8 : L.length = 8) (h : putN (rreadN L) = L) : getNd L = some (rreadN L) := by
  have hf := fits_of_len h h8
  have := getNd_put hf
  rw [h] at this
  exact this
theorem rget_no {L : List (BitVec 64)} (h : ¬ putN (rreadN L) = L) : getNd L = none := by
  unfold getNd
  rw [if_neg]
  rintro ⟨h8, e⟩
  rw [rread_eq (fits_ranges (fits_of_len e h8)).1] at h
  exact h e
theorem rget_big {L : List (BitVec 64)} (h : 1099511627776#64 < wat L 1) : getNd L = none := by
  unfold getNd
  rw [if_neg]
  rintro ⟨h8, e⟩
  have hs := (fits_ranges (fits_of_len e h8)).2
  have hs' : 0 ≤ (wat L 1).toInt ∧ (wat L 1).toInt ≤ 1099511627776 := hs
  have h2 : 1099511627776 < (wat L 1).toNat := h
  have := BitVec.toInt_eq_toNat_cond (wat L 1)
  split at this <;> omega
theorem rget_len {L : List (BitVec 64)} (h : ¬ L.length = 8) : getNd L = none := by
  unfold getNd; rw [if_neg fun e => h e.1]
/-- runs that count -/
def smallR (r : Int × Int) : Prop := (1 ≤ r.2 ∧ 0 ≤ r.1) ∧ r.1 ≤ 1024 ∧ r.2 ≤ 1024
instance (r : Int × Int) : Decidable (smallR r) := by unfold smallR; infer_instance
def lostR (g : Gm) : List (Int × Int) := [(nF g + g.n, g.n)]
def inDoc (g : Gm) (N : Nd) (r : Int × Int) : Prop := smallR r ∧ ((dF g ≤ r.1 ∧ r.1 + r.2 ≤ dF g + dN g) ∨ (N.t = 2 ∧ N.R = lostR g))
instance (g : Gm) (N : Nd) (r : Int × Int) : Decidable (inDoc g N r) := by unfold inDoc; infer_instance
def apartR (R : List (Int × Int)) (n : Nat) : Prop := ∀ i, i < n → ∀ k, k < i → ¬ hit (ra R i) (ra R k)
instance (R : List (Int × Int)) (n : Nat) : Decidable (apartR R n) := by unfold apartR; infer_instance
theorem placed_doc {g : Gm} (hg : isGood g) {N : Nd} (h4 : N.R.length ≤ 4) : placedN g N ↔ (∀ r ∈ N.R, inDoc g N r) ∧ apartR N.R N.R.length := by
  have hd := d_le hg
  have hb : g.b ≤ 1024 := hg.1.2.1
  have hn : 4 ≤ g.n ∧ g.n ≤ 64 := ⟨hg.1.2.2.1, hg.1.2.2.2.1⟩
  unfold placedN
  constructor
  · rintro ⟨_, h⟩
    rcases h with ⟨ht, hR⟩ | h
    · refine ⟨fun r hr => ?_, ?_⟩
      · have hr' := hr
        rw [hR] at hr'
        simp at hr'
        subst hr'
        refine ⟨⟨⟨by show 1 ≤ g.n; omega, by show 0 ≤ nF g + g.n; omega⟩, by show nF g + g.n ≤ 1024; omega, by show g.n ≤ 1024; omega⟩, .inr ⟨ht, hR⟩⟩
      · rw [hR]
        intro i hi k hk
        simp at hi
        omega
    · refine ⟨fun r hr => ?_, fun i hi k hk => (h i hi).2 k hk⟩
      obtain ⟨i, hi⟩ := List.getElem?_of_mem hr
      have hlt := lt_of_get hi
      have := (h i hlt).1
      rw [ra_get hlt] at hi
      injection hi with hi
      rw [hi] at this
      obtain ⟨q1, q2, q3, q4⟩ := this
      exact ⟨⟨⟨by omega, by omega⟩, by omega, by omega⟩, .inl ⟨by omega, by omega⟩⟩
  · rintro ⟨h1, h2⟩
    refine ⟨h4, ?_⟩
    by_cases hl : N.t = 2 ∧ N.R = lostR g
    · exact .inl hl
    · refine .inr fun i hi => ⟨?_, h2 i hi⟩
      have hm : ra N.R i ∈ N.R := List.mem_of_getElem? (ra_get hi)
      obtain ⟨⟨⟨a1, a2⟩, a3, a4⟩, h⟩ := h1 _ hm
      rcases h with ⟨b1, b2⟩ | h
      · exact ⟨by omega, by omega, by omega, by omega⟩
      · exact absurd h hl
end Go.Proofs.Ytdoennkmcloalaa

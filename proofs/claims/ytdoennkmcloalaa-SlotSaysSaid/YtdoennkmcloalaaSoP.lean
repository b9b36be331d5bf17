/-
  PLAIN: slots in words.
-/
import Derived.Test.YtdoennkmcloalaaWs
import Derived.Test.YtdoennkmcloalaaHdP
set_option linter.unusedSimpArgs false
set_option linter.unusedVariables false
namespace Go.Proofs.Ytdoennkmcloalaa
open Go.RowKit Ev
structure So where
  n : Int
  l : List Nat
deriving DecidableEq
def bI (l : List Nat) : List Int := l.map fun (n : Nat) => (n : Int)
def soName (l : List Nat) : Prop := (1 ≤ l.length ∧ l.length ≤ 40) ∧ (l ≠ [46] ∧ l ≠ [46, 46]) ∧ 47 ∉ l ∧ 0 ∉ l
instance (l : List Nat) : Decidable (soName l) := by unfold soName; infer_instance
def soNone (s : So) : Prop := s.n = 0 ∧ s.l = []
instance (s : So) : Decidable (soNone s) := by unfold soNone; infer_instance
def soFull (s : So) : Prop := (1 ≤ s.n ∧ s.n ≤ 64) ∧ soName s.l
instance (s : So) : Decidable (soFull s) := by unfold soFull; infer_instance
def soGood (s : So) : Prop := soNone s ∨ soFull s
instance (s : So) : Decidable (soGood s) := by unfold soGood; infer_instance
def nameW (l : List Nat) (j : Nat) : BitVec 64 := W.accW (bI l) (8 * j) 8
def soBody (s : So) : List (BitVec 64) := [BitVec.ofInt 64 s.n, BitVec.ofInt 64 s.l.length, nameW s.l 0, nameW s.l 1, nameW s.l 2, nameW s.l 3, nameW s.l 4]
def soPut (s : So) : List (BitVec 64) := if soGood s then (if s.n = 0 then List.replicate 8 0#64 else soBody s ++ [slOf (soBody s)]) else []
def soByte (L : List (BitVec 64)) (i : Nat) : Nat := (W.byteN (wat L (2 + i / 8)) (i % 8)).toNat
def soRead (L : List (BitVec 64)) : So := ⟨(wat L 0).toInt, (List.range (wat L 1).toNat).map (soByte L)⟩
def soGet (L : List (BitVec 64)) : Option So := if L.length = 8 ∧ soPut (soRead L) = L then some (soRead L) else none
theorem soPut_len (s : So) : (soPut s).length = if soGood s then 8 else 0 := by
  unfold soPut
  by_cases h : soGood s
  · rw [if_pos h, if_pos h]; split <;> rfl
  · rw [if_neg h, if_neg h]; rfl
theorem soPut_bad {s : So} (h : ¬ soGood s) : soPut s = [] := by unfold soPut; rw [if_neg h]
theorem soPut_of_len {s : So} {L : List (BitVec 64)} (h : soPut s = L) (h8 : L.length = 8) : soGood s := by
  by_cases hf : soGood s
  · exact hf
  · rw [soPut_bad hf] at h
    subst h
    cases h8
theorem soPut_none {s : So} (h : soGood s) (h0 : s.n = 0) : soNone s ∧ soPut s = List.replicate 8 0#64 := by
  refine ⟨?_, by unfold soPut; rw [if_pos h, if_pos h0]⟩
  rcases h with h | h
  · exact h
  · have := h.1; omega
theorem soPut_full {s : So} (h : soGood s) (h0 : s.n ≠ 0) : soFull s ∧ soPut s = soBody s ++ [slOf (soBody s)] := by
  refine ⟨?_, by unfold soPut; rw [if_pos h, if_neg h0]⟩
  rcases h with h | h
  · exact absurd h.1 h0
  · exact h
/-! ### bytes in a word -/
def nb (B : List Int) (i : Nat) : Nat := (B[i]?.getD 0).toNat
def okB (B : List Int) : Prop := ∀ b ∈ B, 0 ≤ b ∧ b < 256
theorem nb_lt {B : List Int} (h : okB B) (i : Nat) : nb B i < 256 ∧ W.byteW B i = BitVec.ofNat 64 (nb B i) := by
  unfold nb W.byteW
  cases hb : B[i]? with
  | none => exact ⟨by decide, rfl⟩
  | some b =>
    have := h b (List.mem_of_getElem? hb)
    obtain ⟨n, rfl⟩ := Int.eq_ofNat_of_zero_le this.1
    exact ⟨by show (n : Int).toNat < 256; omega, by simp⟩
def accN (B : List Int) (o : Nat) : Nat → Nat
  | 0 => 0
  | i + 1 => accN B o i + nb B (o + i) * 256 ^ i
theorem accN_lt {B : List Int} (h : okB B) (o : Nat) : ∀ i, accN B o i < 256 ^ i
  | 0 => by show 0 < 1; omega
  | i + 1 => by
    have ih := accN_lt h o i
    have h1 := (nb_lt h (o + i)).1
    have h2 : nb B (o + i) * 256 ^ i ≤ 255 * 256 ^ i := Nat.mul_le_mul_right _ (by omega)
    show accN B o i + nb B (o + i) * 256 ^ i < 256 ^ (i + 1)
    rw [Nat.pow_succ]
    omega
theorem accW_nat {B : List Int} (h : okB B) (o : Nat) : ∀ i, i ≤ 8 → (W.accW B o i).toNat = accN B o i
  | 0, _ => rfl
  | i + 1, hi => by
    have ih := accW_nat h o i (by omega)
    have hl := accN_lt h o i
    have hl2 := accN_lt h o (i + 1)
    obtain ⟨h1, h2⟩ := nb_lt h (o + i)
    have hp : (256 : Nat) ^ i = 2 ^ (8 * i) := by rw [Nat.pow_mul]
    have hp8 : (256 : Nat) ^ (i + 1) ≤ 2 ^ 64 := by
      rw [show (256 : Nat) = 2 ^ 8 from rfl, ← Nat.pow_mul]
      exact Nat.pow_le_pow_right (by decide) (by omega)
    show (W.accW B o i ||| W.byteW B (o + i) <<< (8 * i)).toNat = accN B o i + nb B (o + i) * 256 ^ i
    have hs : accN B o (i + 1) = accN B o i + nb B (o + i) * 256 ^ i := rfl
    have e0 : nb B (o + i) % 2 ^ 64 = nb B (o + i) := Nat.mod_eq_of_lt (by omega)
    rw [BitVec.toNat_or, ih, h2, BitVec.toNat_shiftLeft, BitVec.toNat_ofNat, e0, Nat.shiftLeft_eq, ← hp, Nat.mod_eq_of_lt (by omega), Nat.or_comm, hp, ← Nat.shiftLeft_eq, ← Nat.shiftLeft_add_eq_or_of_lt (by rw [← hp]; exact hl)]
    omega
theorem accN_dig {B : List Int} (h : okB B) (o : Nat) : ∀ n k, k < n → accN B o n / 256 ^ k % 256 = nb B (o + k)
  | 0, k, hk => by omega
  | n + 1, k, hk => by
    have hl := accN_lt h o n
    have h1 := (nb_lt h (o + n)).1
    show (accN B o n + nb B (o + n) * 256 ^ n) / 256 ^ k % 256 = _
    by_cases hkn : k = n
    · subst hkn
      rw [Nat.add_mul_div_right _ _ (Nat.pow_pos (by decide)), Nat.div_eq_of_lt hl, Nat.zero_add, Nat.mod_eq_of_lt h1]
    · have ih := accN_dig h o n k (by omega)
      obtain ⟨d, hd⟩ : ∃ d, n = k + 1 + d := ⟨n - (k + 1), by omega⟩
      have e : nb B (o + n) * 256 ^ n = (nb B (o + n) * 256 ^ d * 256) * 256 ^ k := by
        rw [hd, Nat.pow_add, Nat.pow_succ]; ac_rfl
      rw [e, Nat.add_mul_div_right _ _ (Nat.pow_pos (by decide)), Nat.add_mul_mod_self_right, ih]
theorem byteN_nat (w : BitVec 64) (k : Nat) : W.byteN w k = ((w.toNat / 256 ^ k % 256 : Nat) : Int) := by
  unfold W.byteN
  rw [BitVec.toNat_ushiftRight, Nat.shiftRight_eq_div_pow, Nat.pow_mul]
  simp [IntKind.wrap, IntKind.signed, IntKind.bits]
theorem byteN_acc {B : List Int} (h : okB B) (o : Nat) {k : Nat} (hk : k < 8) : W.byteN (W.accW B o 8) k = (nb B (o + k) : Int) := by
  rw [byteN_nat, accW_nat h o 8 (Nat.le_refl _), accN_dig h o 8 k hk]
theorem okB_bI {l : List Nat} (h : ∀ b ∈ l, b < 256) : okB (bI l) := fun b hb => by
  unfold bI at hb
  obtain ⟨n, hn, rfl⟩ := List.mem_map.1 hb
  have := h n hn
  omega
theorem nb_bI {l : List Nat} {i : Nat} (h : i < l.length) : nb (bI l) i = l[i] := by
  unfold nb bI
  rw [List.getElem?_map, List.getElem?_eq_getElem h]; rfl
theorem soBody_wat (s : So) (q : List (BitVec 64)) {j : Nat} (hj : j < 5) : wat (soBody s ++ q) (2 + j) = nameW s.l j := by
  rcases (by omega : j = 0 ∨ j = 1 ∨ j = 2 ∨ j = 3 ∨ j = 4) with rfl | rfl | rfl | rfl | rfl <;> rfl
theorem soRead_put {s : So} (h : soFull s) (hb : ∀ b ∈ s.l, b < 256) (q : List (BitVec 64)) : soRead (soBody s ++ q) = s := by
  obtain ⟨n, l⟩ := s
  obtain ⟨⟨h1, h2⟩, ⟨h3, h4⟩, _⟩ := h
  dsimp only at h1 h2 h3 h4 hb
  have e0 : (wat (soBody ⟨n, l⟩ ++ q) 0).toInt = n := by
    show (BitVec.ofInt 64 n).toInt = n
    exact toInt_small (by omega) (by omega)
  have e1 : (wat (soBody ⟨n, l⟩ ++ q) 1).toNat = l.length := by
    show (BitVec.ofInt 64 (l.length : Int)).toNat = l.length
    rw [BitVec.toNat_ofInt]; omega
  unfold soRead
  rw [e0, e1]
  congr 1
  apply List.ext_getElem
  · simp
  · intro i h5 h6
    rw [List.getElem_map, List.getElem_range]
    unfold soByte
    rw [soBody_wat _ _ (by omega)]
    unfold nameW
    rw [byteN_acc (okB_bI hb) _ (Nat.mod_lt _ (by decide)), show 8 * (i / 8) + i % 8 = i by omega, nb_bI h6]
    simp
theorem soGet_put {s : So} (h : soGood s) (hb : ∀ b ∈ s.l, b < 256) : soGet (soPut s) = some s := by
  by_cases h0 : s.n = 0
  · obtain ⟨h1, h2⟩ := soPut_none h h0
    rw [h2]
    obtain ⟨n, l⟩ := s
    obtain ⟨e1, e2⟩ := h1
    dsimp only at e1 e2
    subst e1; subst e2
    decide +kernel
  · obtain ⟨h1, h2⟩ := soPut_full h h0
    unfold soGet
    have hr : soRead (soPut s) = s := by rw [h2]; exact soRead_put h1 hb _
    rw [hr, if_pos ⟨by rw [soPut_len, if_pos h], rfl⟩]
theorem soGet_long {L : List (BitVec 64)} (h : 40#64 < wat L 1) : soGet L = none := by
  unfold soGet
  rw [if_neg]
  rintro ⟨h8, e⟩
  have hg := soPut_of_len e h8
  have hl : (soRead L).l.length = (wat L 1).toNat := by simp [soRead]
  have h2 : 40 < (wat L 1).toNat := h
  rcases hg with ⟨_, h0⟩ | ⟨_, ⟨_, h3⟩, _⟩
  · rw [h0] at hl; simp at hl; omega
  · omega
theorem soGet_wide {L : List (BitVec 64)} (h : 64#64 < wat L 0) : soGet L = none := by
  unfold soGet
  rw [if_neg]
  rintro ⟨h8, e⟩
  have hg := soPut_of_len e h8
  have h2 : 64 < (wat L 0).toNat := h
  have hn : (soRead L).n = (wat L 0).toInt := rfl
  have := BitVec.toInt_eq_toNat_cond (wat L 0)
  rcases hg with ⟨h0, _⟩ | ⟨⟨_, h3⟩, _⟩ <;> (split at this <;> omega)
theorem soGet_len {L : List (BitVec 64)} (h : ¬ L.length = 8) : soGet L = none := by unfold soGet; rw [if_neg fun e => h e.1]
/-- a slot of which a word is another is none -/
theorem soGet_alt {s : So} (v : BitVec 64) (h : soGood s) (h0 : s.n ≠ 0) (hv : v ≠ 0#64) {i : Nat} (hi : i < 8) : soGet ((soPut s).set i (wat (soPut s) i ^^^ v)) = none := by
  obtain ⟨hF, hP⟩ := soPut_full h h0
  have p8 : (soPut s).length = 8 := by rw [soPut_len, if_pos h]
  have w7 : wat (soPut s) 7 = slOf ((soPut s).take 7) := by rw [hP]; rfl
  unfold soGet
  rw [if_neg]
  rintro ⟨h8, e⟩
  have hM := soPut_of_len e h8
  generalize soRead ((soPut s).set i (wat (soPut s) i ^^^ v)) = M at e hM
  have hw : ∀ j, wat (soPut M) j = if j = i then wat (soPut s) i ^^^ v else wat (soPut s) j := fun j => by
    rw [e]; unfold wat
    by_cases hj : j = i
    · subst hj; rw [if_pos rfl, List.getElem?_set_self (by omega)]; rfl
    · rw [if_neg hj, List.getElem?_set_ne (fun h => hj h.symm)]
  by_cases hM0 : M.n = 0
  · have hz := (soPut_none hM hM0).2
    have z : ∀ j, wat (soPut M) j = 0#64 := fun j => by
      rw [hz]; unfold wat; rw [List.getElem?_replicate]; split <;> rfl
    have e0 : (wat (soPut s) 0).toNat = s.n.toNat := by
      rw [hP]; show (BitVec.ofInt 64 s.n).toNat = _
      have := hF.1
      rw [BitVec.toNat_ofInt]; omega
    have e1 : (wat (soPut s) 1).toNat = s.l.length := by
      rw [hP]; show (BitVec.ofInt 64 (s.l.length : Int)).toNat = _
      have := hF.2.1
      rw [BitVec.toNat_ofInt]; omega
    have hF1 := hF.1.1
    have hF2 := hF.2.1.1
    have a0 := hw 0
    have a1 := hw 1
    rw [z] at a0 a1
    by_cases hi0 : i = 0
    · rw [if_neg (by omega)] at a1
      rw [← a1] at e1
      simp at e1
      omega
    · rw [if_neg (by omega)] at a0
      rw [← a0] at e0
      simp at e0
      omega
  · have hMP := (soPut_full hM hM0).2
    have m7 : wat (soPut M) 7 = slOf ((soPut M).take 7) := by rw [hMP]; rfl
    by_cases h7 : i = 7
    · subst h7
      have e7 : (soPut M).take 7 = (soPut s).take 7 := by rw [e, List.take_set, List.set_eq_of_length_le (by simp; omega)]
      have := hw 7
      rw [if_pos rfl, m7, e7, w7] at this
      exact hv (xor_left (c := slOf ((soPut s).take 7)) (a := v) (b := 0#64) (by rw [← this]; simp))
    · have e7 : (soPut M).take 7 = ((soPut s).take 7).set i (((soPut s).take 7)[i]?.getD 0#64 ^^^ v) := by
        rw [e, List.take_set, List.getElem?_take_of_lt (by omega)]; rfl
      have := hw 7
      rw [if_neg (fun h => h7 h.symm), m7, w7, e7] at this
      exact slOf_set_ne ((soPut s).take 7) i v (by simp [p8]; omega) hv this
/-! ### how the words come about -/
theorem accW_more (B : List Int) (o k : Nat) (h : B.length ≤ o + k) : ∀ d, W.accW B o (k + d) = W.accW B o k
  | 0 => rfl
  | d + 1 => by
    have hz : W.byteW B (o + (k + d)) = 0#64 := by
      unfold W.byteW
      rw [List.getElem?_eq_none (by omega)]; rfl
    show W.accW B o (k + d) ||| W.byteW B (o + (k + d)) <<< (8 * (k + d)) = _
    rw [hz, accW_more B o k h d, BitVec.zero_shiftLeft, BitVec.or_zero]
/-- the words behind i bytes -/
def soPart (s : So) (i : Nat) : List (BitVec 64) := [BitVec.ofInt 64 s.n, BitVec.ofInt 64 s.l.length, W.accW (bI s.l) 0 (min 8 (i - 0)), W.accW (bI s.l) 8 (min 8 (i - 8)), W.accW (bI s.l) 16 (min 8 (i - 16)), W.accW (bI s.l) 24 (min 8 (i - 24)), W.accW (bI s.l) 32 (min 8 (i - 32)), 0#64]
theorem soPart_zero (s : So) : soPart s 0 = [BitVec.ofInt 64 s.n, BitVec.ofInt 64 s.l.length, 0#64, 0#64, 0#64, 0#64, 0#64, 0#64] := rfl
theorem soPart_len (s : So) (i : Nat) : (soPart s i).length = 8 := rfl
theorem acc_same {B : List Int} {o a b : Nat} (h : a = b) : W.accW B o a = W.accW B o b := by rw [h]
theorem acc_one {B : List Int} {o a b r p : Nat} (h : a = r + 1) (h2 : b = r) (h3 : p = o + r) : W.accW B o a = W.accW B o b ||| W.byteW B p <<< (8 * r) := by rw [h, h2, h3]; rfl
theorem soPart_succ (s : So) {i : Nat} (h : i < 40) : soPart s (i + 1) = (soPart s i).set (2 + i / 8) (wat (soPart s i) (2 + i / 8) ||| W.byteW (bI s.l) i <<< (8 * (i % 8))) := by
  obtain ⟨q, r, rfl, hr⟩ : ∃ q r, i = 8 * q + r ∧ r < 8 := ⟨i / 8, i % 8, by omega, by omega⟩
  have e1 : (8 * q + r) / 8 = q := by omega
  have e2 : (8 * q + r) % 8 = r := by omega
  rw [e1, e2]
  rcases (by omega : q = 0 ∨ q = 1 ∨ q = 2 ∨ q = 3 ∨ q = 4) with rfl | rfl | rfl | rfl | rfl
  all_goals
    unfold soPart
    simp only [List.set_cons_succ, List.set_cons_zero, wat]
    simp
    repeat' refine And.intro ?_ ?_
    all_goals first | rfl | exact acc_same (by omega) | exact acc_one (by omega) (by omega) (by omega)
theorem soPart_end (s : So) (h : s.l.length ≤ 40) : soPart s s.l.length = soBody s ++ [0#64] := by
  have hl : (bI s.l).length = s.l.length := by simp [bI]
  have e : ∀ o, o ≤ 32 → W.accW (bI s.l) o (min 8 (s.l.length - o)) = W.accW (bI s.l) o 8 := fun o ho => by
    by_cases h8 : 8 ≤ s.l.length - o
    · rw [show min 8 (s.l.length - o) = 8 by omega]
    · obtain ⟨d, hd⟩ : ∃ d, 8 = min 8 (s.l.length - o) + d := ⟨8 - min 8 (s.l.length - o), by omega⟩
      have := accW_more (bI s.l) o (min 8 (s.l.length - o)) (by omega) d
      rw [← hd] at this
      exact this.symm
  unfold soPart soBody nameW
  rw [e 0 (by omega), e 8 (by omega), e 16 (by omega), e 24 (by omega), e 32 (by omega)]
  rfl
/-- the document's way: bytes, noughts behind -/
def padB (l : List Nat) : List Int := bI l ++ List.replicate (40 - l.length) 0
theorem byteW_pad (l : List Nat) (i : Nat) : W.byteW (padB l) i = W.byteW (bI l) i := by
  unfold W.byteW padB
  have hl : (bI l).length = l.length := by simp [bI]
  rcases Nat.lt_or_ge i l.length with h | h
  · rw [List.getElem?_append_left (by omega)]
  · rw [List.getElem?_append_right (by omega), List.getElem?_replicate, List.getElem?_eq_none (l := bI l) (by omega)]
    split <;> rfl
theorem accW_pad (l : List Nat) (o : Nat) : ∀ k, W.accW (padB l) o k = W.accW (bI l) o k
  | 0 => rfl
  | k + 1 => by
    show W.accW (padB l) o k ||| W.byteW (padB l) (o + k) <<< (8 * k) = _
    rw [accW_pad l o k, byteW_pad]; rfl
theorem words_pad {l : List Nat} (h : l.length ≤ 40) : W.wordsF (padB l) 5 = [nameW l 0, nameW l 1, nameW l 2, nameW l 3, nameW l 4] := by
  have hl : (padB l).length = 40 := by simp [padB, bI]; omega
  have g : ∀ j : Nat, j < 5 → W.getF (padB l) (j : Int) = nameW l j := fun j hj => by
    unfold W.getF nameW
    rw [if_pos ⟨by omega, by rw [hl]; omega⟩, accW_pad]
    rfl
  have := g 0 (by omega); have := g 1 (by omega); have := g 2 (by omega); have := g 3 (by omega); have := g 4 (by omega)
  show [W.getF (padB l) ((0 : Nat) : Int), W.getF (padB l) ((1 : Nat) : Int), W.getF (padB l) ((2 : Nat) : Int), W.getF (padB l) ((3 : Nat) : Int), W.getF (padB l) ((4 : Nat) : Int)] = _
  simp only [*]
end Go.Proofs.Ytdoennkmcloalaa

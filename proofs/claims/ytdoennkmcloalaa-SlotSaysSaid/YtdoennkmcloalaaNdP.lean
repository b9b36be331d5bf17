/-
  PLAIN: nodes in words.
-/
import Derived.Test.YtdoennkmcloalaaHdP
import Derived.Test.YtdoennkmcloalaaSc
set_option linter.unusedSimpArgs false
namespace Go.Proofs.Ytdoennkmcloalaa
open Go.RowKit Ev
structure Nd where
  t : Int
  l : Int
  s : Int
  R : List (Int × Int)
deriving DecidableEq
def okRun (r : Int × Int) : Prop := (0 ≤ r.1 ∧ r.1 ≤ 2147483648) ∧ 1 ≤ r.2 ∧ r.2 ≤ 2147483648
instance (r : Int × Int) : Decidable (okRun r) := by unfold okRun; infer_instance
def fitsT (N : Nd) : Prop := (1 ≤ N.t ∧ N.t ≤ 3) ∧ (0 ≤ N.l ∧ N.l ≤ 16777215) ∧ (0 ≤ N.s ∧ N.s ≤ 1099511627776) ∧ N.R.length ≤ 4 ∧ ∀ r ∈ N.R, okRun r
instance (N : Nd) : Decidable (fitsT N) := by unfold fitsT; infer_instance
def noneN (N : Nd) : Prop := N.l = 0 ∧ N.s = 0 ∧ N.R.length = 0
instance (N : Nd) : Decidable (noneN N) := by unfold noneN; infer_instance
def fitsN (N : Nd) : Prop := if N.t = 0 then noneN N else fitsT N
instance (N : Nd) : Decidable (fitsN N) := by unfold fitsN; split <;> infer_instance
def pkH (N : Nd) : BitVec 64 := BitVec.ofInt 64 N.t ||| BitVec.ofInt 64 N.l <<< 8
def pkR (r : Int × Int) : BitVec 64 := BitVec.ofInt 64 r.1 ||| BitVec.ofInt 64 r.2 <<< 32
def runsN (N : Nd) : Nat → List (BitVec 64)
  | 0 => ((List.replicate 8 0#64).set 0 (pkH N)).set 1 (BitVec.ofInt 64 N.s)
  | k + 1 => (runsN N k).set (2 + k) (pkR (N.R[k]?.getD (0, 0)))
theorem runsN_length (N : Nd) : ∀ k, (runsN N k).length = 8
  | 0 => by simp [runsN]
  | k + 1 => by unfold runsN; rw [List.length_set]; exact runsN_length N k
def bodyN (N : Nd) : List (BitVec 64) := runsN N N.R.length
def putN (N : Nd) : List (BitVec 64) := if fitsN N then (if N.t = 0 then List.replicate 8 0#64 else (bodyN N).set 7 (slOf ((bodyN N).take 7))) else []
/-- what is read -/
def unR (w : BitVec 64) : Int × Int := ((w &&& 4294967295#64).toInt, (w >>> 32).toInt)
def readR (L : List (BitVec 64)) (k : Nat) : List (Int × Int) := (((L.drop 2).take k).filter fun w => decide (w ≠ 0#64)).map unR
def readN (L : List (BitVec 64)) : Nd := ⟨(wat L 0 &&& 255#64).toInt, (wat L 0 >>> 8).toInt, (wat L 1).toInt, readR L 4⟩
def getNd (L : List (BitVec 64)) : Option Nd := if L.length = 8 ∧ putN (readN L) = L then some (readN L) else none
/-! ### packed words -/
theorem packN {a b k : Nat} (hk : k ≤ 32) (ha : a < 2 ^ k) (hb : b < 2 ^ (64 - k)) : (BitVec.ofNat 64 a ||| BitVec.ofNat 64 b <<< k).toNat = b * 2 ^ k + a := by
  have h1 : b * 2 ^ k < 2 ^ 64 := by
    calc b * 2 ^ k < 2 ^ (64 - k) * 2 ^ k := Nat.mul_lt_mul_of_pos_right hb (Nat.two_pow_pos k)
      _ = 2 ^ 64 := by rw [← Nat.pow_add]; congr 1; omega
  have h2 : a < 2 ^ 64 := Nat.lt_of_lt_of_le ha (Nat.pow_le_pow_right (by decide) (by omega))
  have h3 : b < 2 ^ 64 := Nat.lt_of_lt_of_le hb (Nat.pow_le_pow_right (by decide) (by omega))
  rw [BitVec.toNat_or, BitVec.toNat_shiftLeft, BitVec.toNat_ofNat, BitVec.toNat_ofNat, Nat.mod_eq_of_lt h2, Nat.mod_eq_of_lt h3, Nat.shiftLeft_eq, Nat.mod_eq_of_lt h1, Nat.or_comm, ← Nat.shiftLeft_eq, ← Nat.shiftLeft_add_eq_or_of_lt ha]
theorem toInt_ofN {w : BitVec 64} {n : Nat} (h : w.toNat = n) (h2 : n < 9223372036854775808) : w.toInt = (n : Int) := by
  rw [BitVec.toInt_eq_toNat_cond, h]; split <;> omega
theorem ofInt_nat (n : Nat) : BitVec.ofInt 64 (n : Int) = BitVec.ofNat 64 n := by simp
theorem unpack {a b k : Nat} (hk : k ≤ 32) (ha : a < 2 ^ k) (hb : b < 2 ^ (64 - k)) (m : BitVec 64) (hm : m.toNat = 2 ^ k - 1) :
    ((BitVec.ofNat 64 a ||| BitVec.ofNat 64 b <<< k) &&& m).toNat = a ∧ ((BitVec.ofNat 64 a ||| BitVec.ofNat 64 b <<< k) >>> k).toNat = b := by
  have h := packN hk ha hb
  constructor
  · rw [BitVec.toNat_and, h, hm, Nat.and_two_pow_sub_one_eq_mod, Nat.add_comm, Nat.add_mul_mod_self_right, Nat.mod_eq_of_lt ha]
  · rw [BitVec.toNat_ushiftRight, h, Nat.shiftRight_eq_div_pow, Nat.add_comm, Nat.add_mul_div_right _ _ (Nat.two_pow_pos k), Nat.div_eq_of_lt ha, Nat.zero_add]
theorem unR_pk {r : Int × Int} (h : okRun r) : unR (pkR r) = r ∧ pkR r ≠ 0#64 := by
  obtain ⟨⟨h1, h2⟩, h3, h4⟩ := h
  obtain ⟨f, n⟩ := r
  dsimp only at h1 h2 h3 h4
  obtain ⟨a, rfl⟩ := Int.eq_ofNat_of_zero_le h1
  obtain ⟨b, rfl⟩ := Int.eq_ofNat_of_zero_le (show 0 ≤ n by omega)
  have hu := unpack (a := a) (b := b) (k := 32) (by omega) (by omega) (by omega) 4294967295#64 (by decide)
  have hp := packN (a := a) (b := b) (k := 32) (by omega) (by omega) (by omega)
  unfold unR pkR
  simp only [ofInt_nat]
  refine ⟨?_, fun e => ?_⟩
  · rw [toInt_ofN hu.1 (by omega), toInt_ofN hu.2 (by omega)]
  · rw [e] at hp
    simp at hp
    omega
theorem unH_pk {N : Nd} (h1 : 0 ≤ N.t ∧ N.t ≤ 3) (h2 : 0 ≤ N.l ∧ N.l ≤ 16777215) : (pkH N &&& 255#64).toInt = N.t ∧ (pkH N >>> 8).toInt = N.l ∧ (pkH N).toNat = N.l.toNat * 256 + N.t.toNat := by
  obtain ⟨t, l, s, R⟩ := N
  dsimp only at h1 h2 ⊢
  obtain ⟨a, rfl⟩ := Int.eq_ofNat_of_zero_le h1.1
  obtain ⟨b, rfl⟩ := Int.eq_ofNat_of_zero_le h2.1
  have hu := unpack (a := a) (b := b) (k := 8) (by omega) (by omega) (by omega) 255#64 (by decide)
  have hp := packN (a := a) (b := b) (k := 8) (by omega) (by omega) (by omega)
  unfold pkH
  simp only [ofInt_nat]
  exact ⟨toInt_ofN hu.1 (by omega), toInt_ofN hu.2 (by omega), by rw [hp]; simp⟩
theorem runsN_get (N : Nd) : ∀ (k i : Nat), i < 8 → k ≤ 4 → wat (runsN N k) i = if i = 0 then pkH N else if i = 1 then BitVec.ofInt 64 N.s else if 2 ≤ i ∧ i < 2 + k then pkR (N.R[i - 2]?.getD (0, 0)) else 0#64
  | 0, i, hi, _ => by
    have h : ∀ j, j < 8 → wat (runsN N 0) j = if j = 0 then pkH N else if j = 1 then BitVec.ofInt 64 N.s else 0#64 := fun j hj => by
      rcases (by omega : j = 0 ∨ j = 1 ∨ j = 2 ∨ j = 3 ∨ j = 4 ∨ j = 5 ∨ j = 6 ∨ j = 7) with rfl | rfl | rfl | rfl | rfl | rfl | rfl | rfl <;> rfl
    rw [h i hi]
    by_cases h0 : i = 0
    · rw [if_pos h0, if_pos h0]
    · rw [if_neg h0, if_neg h0]
      by_cases h1 : i = 1
      · rw [if_pos h1, if_pos h1]
      · rw [if_neg h1, if_neg h1, if_neg (by omega)]
  | k + 1, i, hi, hk => by
    have ih := runsN_get N k i hi (by omega)
    have hs : wat (runsN N (k + 1)) i = if 2 + k = i then pkR (N.R[k]?.getD (0, 0)) else wat (runsN N k) i := by
      unfold wat
      rw [show runsN N (k + 1) = (runsN N k).set (2 + k) (pkR (N.R[k]?.getD (0, 0))) from rfl]
      by_cases h : 2 + k = i
      · subst h; rw [List.getElem?_set_self (by rw [runsN_length]; omega), if_pos rfl]; rfl
      · rw [List.getElem?_set_ne h, if_neg h]
    rw [hs, ih]
    by_cases h : 2 + k = i
    · rw [if_pos h, if_neg (by omega), if_neg (by omega), if_pos (by omega)]
      congr 3; omega
    · rw [if_neg h]
      by_cases h0 : i = 0
      · rw [if_pos h0, if_pos h0]
      · rw [if_neg h0, if_neg h0]
        by_cases h1 : i = 1
        · rw [if_pos h1, if_pos h1]
        · rw [if_neg h1, if_neg h1]
          by_cases h2 : 2 ≤ i ∧ i < 2 + k
          · rw [if_pos h2, if_pos (by omega)]
          · rw [if_neg h2, if_neg (by omega)]
theorem putN_t {N : Nd} (h : fitsT N) : putN N = (bodyN N).set 7 (slOf ((bodyN N).take 7)) ∧ (putN N).length = 8 := by
  have ht : ¬ N.t = 0 := fun e => by have := h.1.1; omega
  have hf : fitsN N := by unfold fitsN; rw [if_neg ht]; exact h
  have h1 : putN N = (bodyN N).set 7 (slOf ((bodyN N).take 7)) := by unfold putN; rw [if_pos hf, if_neg ht]
  exact ⟨h1, by rw [h1, List.length_set]; exact runsN_length N _⟩
theorem putN_wat {N : Nd} (h : fitsT N) : (∀ i, i < 7 → wat (putN N) i = wat (bodyN N) i) ∧ wat (putN N) 7 = slOf ((putN N).take 7) ∧ (putN N).take 7 = (bodyN N).take 7 := by
  have hl := runsN_length N N.R.length
  obtain ⟨h1, _⟩ := putN_t h
  have ht : (putN N).take 7 = (bodyN N).take 7 := by
    rw [h1, List.take_set, List.set_eq_of_length_le (by simp; omega)]
  refine ⟨fun i hi => ?_, ?_, ht⟩
  · unfold wat; rw [h1, List.getElem?_set_ne (by omega)]
  · rw [ht]; unfold wat; rw [h1, List.getElem?_set_self (by show 7 < (runsN N N.R.length).length; omega)]; rfl
end Go.Proofs.Ytdoennkmcloalaa

/-
  PLAIN: fields of bits, and words turned.
-/
import Derived.Test.YtmefcjgoedhpkaaWord2
namespace Go.Proofs.Ytmefcjgoedhpkaa

theorem fieldW_bit (v : BitVec 64) (f n i : Nat) (hn : n ≤ 64) : (fieldW v f n).getLsbD i = (decide (i < n) && v.getLsbD (f + i)) := by
  unfold fieldW
  rw [BitVec.getLsbD_and, maskW_bit _ _ hn, BitVec.getLsbD_ushiftRight, Bool.and_comm]
theorem withW_bit (v : BitVec 64) (f n i : Nat) (x : BitVec 64) (hn : n ≤ 64) (hi : i < 64) :
    (withW v f n x).getLsbD i = if f ≤ i ∧ i < f + n then x.getLsbD (i - f) else v.getLsbD i := by
  unfold withW
  rw [BitVec.getLsbD_or, BitVec.getLsbD_and, BitVec.getLsbD_not, BitVec.getLsbD_shiftLeft, BitVec.getLsbD_shiftLeft, BitVec.getLsbD_and, maskW_bit _ _ hn]
  by_cases h1 : f ≤ i
  · have h1' : ¬ i < f := by omega
    by_cases h2 : i < f + n
    · have : i - f < n := by omega
      simp [h1, h1', h2, hi, this]
    · have : ¬ i - f < n := by omega
      simp [h1, h1', h2, hi, this]
  · have h1' : i < f := by omega
    simp [h1, h1', hi]
theorem rot_bit (v : BitVec 64) (k i : Nat) (hk : k < 64) (hi : i < 64) : (v.rotateLeft k).getLsbD i = v.getLsbD ((i + 64 - k) % 64) := by
  rw [BitVec.getLsbD_rotateLeft]
  have e : k % 64 = k := by omega
  rw [e]
  by_cases h : i < k
  · simp only [h, decide_true, cond_true]
    congr 1; omega
  · simp only [h, decide_false, cond_false, hi, decide_true, Bool.true_and]
    congr 1; omega
theorem rot_rot (v : BitVec 64) (a b : Int) : (v.rotateLeft (a % 64).toNat).rotateLeft (b % 64).toNat = v.rotateLeft ((a + b) % 64).toNat := by
  apply BitVec.eq_of_getLsbD_eq
  intro i hi
  rw [rot_bit _ _ _ (by omega) hi, rot_bit _ _ _ (by omega) (by omega), rot_bit _ _ _ (by omega) hi]
  congr 1; omega
theorem rot_back (v : BitVec 64) (n : Int) : (v.rotateLeft (n % 64).toNat).rotateLeft (-n % 64).toNat = v := by
  have h := rot_rot v n (-n)
  rw [h, show (n + -n) % 64 = 0 by omega]
  exact rot_zero v
theorem rot_64 (v : BitVec 64) (a : Int) : v.rotateLeft ((a + 64) % 64).toNat = v.rotateLeft (a % 64).toNat := by
  congr 1; omega
theorem field_turn (v : BitVec 64) : fieldI (v.rotateLeft 8) 8 56 = fieldI v 0 56 := by
  have e1 : fieldI (v.rotateLeft 8) 8 56 = fieldW (v.rotateLeft 8) 8 56 := rfl
  have e2 : fieldI v 0 56 = fieldW v 0 56 := rfl
  rw [e1, e2]
  apply BitVec.eq_of_getLsbD_eq
  intro i hi
  rw [fieldW_bit _ _ _ _ (by omega), fieldW_bit _ _ _ _ (by omega)]
  by_cases h : i < 56
  · rw [rot_bit _ _ _ (by omega) (by omega)]
    simp only [h, decide_true, Bool.true_and]
    congr 1; omega
  · simp [h]
theorem field_of (v : BitVec 64) (f n : Nat) (h : mayF f n = true) : fieldI v f n = fieldW v f n := by simp [fieldI, h]
theorem with_of (v : BitVec 64) (f n : Nat) (x : BitVec 64) (h : mayF f n = true) : withI v f n x = withW v f n x := by simp [withI, h]
theorem may_nat (f n : Nat) (h1 : f < 64) (h2 : 1 ≤ n) (h3 : n ≤ 64 - f) : mayF f n = true := (mayF_iff f n).2 (by omega)
theorem field_parts (v : BitVec 64) (f a b : Nat) (h1 : f < 64) (h2 : 1 ≤ a) (h3 : 1 ≤ b) (_h4 : a ≤ 63 - f) (h5 : b ≤ 64 - f - a) :
    fieldI v f ((a : Int) + b) = fieldI v f a ||| fieldI v ((f : Int) + a) b <<< a := by
  have e1 : ((a : Int) + b) = ((a + b : Nat) : Int) := by omega
  have e2 : ((f : Int) + a) = ((f + a : Nat) : Int) := by omega
  rw [e1, e2, field_of _ _ _ (may_nat _ _ (by omega) (by omega) (by omega)), field_of _ _ _ (may_nat _ _ (by omega) (by omega) (by omega)), field_of _ _ _ (may_nat _ _ (by omega) (by omega) (by omega))]
  apply BitVec.eq_of_getLsbD_eq
  intro i hi
  rw [BitVec.getLsbD_or, BitVec.getLsbD_shiftLeft, fieldW_bit _ _ _ _ (by omega), fieldW_bit _ _ _ _ (by omega), fieldW_bit _ _ _ _ (by omega)]
  by_cases h : i < a
  · have : i < a + b := by omega
    simp [h, this]
  · by_cases h' : i < a + b
    · have e3 : f + a + (i - a) = f + i := by omega
      have : i - a < b := by omega
      simp [h, h', hi, this, e3]
    · have : ¬ i - a < b := by omega
      simp [h, h', hi, this]
theorem field_with (v : BitVec 64) (f n : Nat) (x : BitVec 64) (h1 : f < 64) (h2 : 1 ≤ n) (h3 : n ≤ 64 - f) : fieldI (withI v f n x) f n = fieldI x 0 n := by
  have hz : (0 : Int) = ((0 : Nat) : Int) := rfl
  rw [hz, field_of _ _ _ (may_nat _ _ (by omega) (by omega) (by omega)), with_of _ _ _ _ (may_nat _ _ (by omega) (by omega) (by omega)), field_of _ _ _ (may_nat _ _ (by omega) (by omega) (by omega))]
  apply BitVec.eq_of_getLsbD_eq
  intro i hi
  rw [fieldW_bit _ _ _ _ (by omega), fieldW_bit _ _ _ _ (by omega)]
  by_cases h : i < n
  · rw [withW_bit _ _ _ _ _ (by omega) (by omega), if_pos (by omega)]
    simp only [h, decide_true, Bool.true_and]
    congr 1; omega
  · simp [h]
theorem with_field (v : BitVec 64) (f n : Nat) (x : BitVec 64) (h1 : f < 64) (h2 : 1 ≤ n) (h3 : n ≤ 64 - f) : withI (withI v f n x) f n (fieldI v f n) = v := by
  rw [with_of _ _ _ _ (may_nat _ _ (by omega) (by omega) (by omega)), with_of _ _ _ _ (may_nat _ _ (by omega) (by omega) (by omega)), field_of _ _ _ (may_nat _ _ (by omega) (by omega) (by omega))]
  apply BitVec.eq_of_getLsbD_eq
  intro i hi
  rw [withW_bit _ _ _ _ _ (by omega) hi, withW_bit _ _ _ _ _ (by omega) hi, fieldW_bit _ _ _ _ (by omega)]
  by_cases h : f ≤ i ∧ i < f + n
  · rw [if_pos h]
    have e : f + (i - f) = i := by omega
    have : i - f < n := by omega
    simp [this, e]
  · rw [if_neg h, if_neg h]
theorem byte_field (x : BitVec 64) (k : Nat) (hk : k < 8) : (byteOf x k).setWidth 64 = fieldI x ((k : Int) * 8) 8 := by
  have e : ((k : Int) * 8) = ((8 * k : Nat) : Int) := by omega
  rw [e, show (8 : Int) = ((8 : Nat) : Int) from rfl, field_of _ _ _ (may_nat _ _ (by omega) (by omega) (by omega))]
  apply BitVec.eq_of_getLsbD_eq
  intro i hi
  rw [BitVec.getLsbD_setWidth, fieldW_bit _ _ _ _ (by omega)]
  by_cases h : i < 8
  · rw [byteOf_bit _ _ _ h]
    simp [h, hi]
  · simp [h, hi, BitVec.getLsbD_of_ge (byteOf x k) i (by omega)]
end Go.Proofs.Ytmefcjgoedhpkaa

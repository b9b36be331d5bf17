/-
  PLAIN: sums of words: what another word does.
-/
import Derived.Test.YtcjddojcfdeflaaRd
set_option linter.unusedSimpArgs false
namespace Go.Proofs.Ytcjddojcfdeflaa
open Go.RowKit Ev
theorem rotl_xor (x y : BitVec 64) (k : Nat) : (x ^^^ y).rotateLeft k = x.rotateLeft k ^^^ y.rotateLeft k := by
  apply BitVec.eq_of_getLsbD_eq
  intro i hi
  simp only [BitVec.getLsbD_xor, BitVec.getLsbD_rotateLeft]
  by_cases h : i < k % 64 <;> simp [h, hi]
theorem rotl_inj (x y : BitVec 64) (h : x.rotateLeft 9 = y.rotateLeft 9) : x = y := by
  apply BitVec.eq_of_getLsbD_eq
  intro i hi
  have e : ∀ z : BitVec 64, (z.rotateLeft 9).getLsbD ((i + 9) % 64) = z.getLsbD i := by
    intro z
    rw [BitVec.getLsbD_rotateLeft]
    by_cases h : i < 55
    · have e1 : (i + 9) % 64 = i + 9 := by omega
      rw [e1]
      have : ¬ i + 9 < 9 % 64 := by omega
      simp [this]
      omega
    · have e1 : (i + 9) % 64 = i - 55 := by omega
      rw [e1]
      have : i - 55 < 9 % 64 := by omega
      simp only [this, cond_true, decide_true]
      congr 1
      omega
  rw [← e x, ← e y, h]
theorem xor_right {a b c : BitVec 64} (h : a ^^^ c = b ^^^ c) : a = b := by
  have := congrArg (· ^^^ c) h
  simpa [BitVec.xor_assoc] using this
theorem xor_left {a b c : BitVec 64} (h : c ^^^ a = c ^^^ b) : a = b := by
  rw [BitVec.xor_comm c a, BitVec.xor_comm c b] at h; exact xor_right h
theorem slStep_inj {s t v : BitVec 64} (h : slStep s v = slStep t v) : s = t := rotl_inj _ _ (xor_right h)
theorem slOn_inj {s t : BitVec 64} {l : List (BitVec 64)} (h : slOn s l = slOn t l) : s = t := by
  induction l generalizing s t with
  | nil => exact h
  | cons v r ih => exact slStep_inj (ih h)
theorem slOn_append (s : BitVec 64) (a b : List (BitVec 64)) : slOn s (a ++ b) = slOn (slOn s a) b := by simp [slOn]
theorem set_split (l : List (BitVec 64)) (i : Nat) (v : BitVec 64) (h : i < l.length) : l.set i v = l.take i ++ v :: l.drop (i + 1) := List.set_eq_take_append_cons_drop .. |>.trans (by simp [h])
theorem split_at (l : List (BitVec 64)) (i : Nat) (h : i < l.length) : l = l.take i ++ (l[i]?.getD 0#64) :: l.drop (i + 1) := by
  have e : l.drop i = l[i] :: l.drop (i + 1) := List.drop_eq_getElem_cons h
  conv => lhs; rw [← List.take_append_drop i l, e]
  simp [h]
theorem slOf_set_ne (l : List (BitVec 64)) (i : Nat) (v : BitVec 64) (h : i < l.length) (hv : v ≠ 0#64) : slOf (l.set i (l[i]?.getD 0#64 ^^^ v)) ≠ slOf l := by
  intro he
  rw [set_split l i _ h] at he
  conv at he => rhs; rw [split_at l i h]
  generalize l[i]?.getD 0#64 = x at he
  unfold slOf at he
  rw [slOn_append, slOn_append] at he
  have h1 : slStep (slOn slBegin (l.take i)) (x ^^^ v) = slStep (slOn slBegin (l.take i)) x := slOn_inj (l := l.drop (i + 1)) he
  have h2 : x ^^^ v = x := xor_left h1
  have h3 : x ^^^ v = x ^^^ 0#64 := by rw [h2]; simp
  exact hv (xor_left h3)
end Go.Proofs.Ytcjddojcfdeflaa

/-
  PLAIN: what sums of words obey.
-/
import Derived.Test.YtmefcjgoedhpkaaSeal
namespace Go.Proofs.Ytmefcjgoedhpkaa

theorem rotl_xor (x y : BitVec 64) (k : Nat) : (x ^^^ y).rotateLeft k = x.rotateLeft k ^^^ y.rotateLeft k := by
  apply BitVec.eq_of_getLsbD_eq
  intro i hi
  simp only [BitVec.getLsbD_xor, BitVec.getLsbD_rotateLeft]
  by_cases h : i < k % 64 <;> simp [h, hi]
theorem rotl_inj (x y : BitVec 64) (h : x.rotateLeft 9 = y.rotateLeft 9) : x = y := by
  apply BitVec.eq_of_getLsbD_eq
  intro i hi
  have e : ∀ z : BitVec 64, (z.rotateLeft 9).getLsbD ((i + 9) % 64) = z.getLsbD i := by
    intro z
    rw [BitVec.getLsbD_rotateLeft]
    by_cases h : i < 55
    · have e1 : (i + 9) % 64 = i + 9 := by omega
      rw [e1]
      have : ¬ i + 9 < 9 % 64 := by omega
      simp [this]
      omega
    · have e1 : (i + 9) % 64 = i - 55 := by omega
      rw [e1]
      have : i - 55 < 9 % 64 := by omega
      simp only [this, cond_true, decide_true]
      congr 1
      omega
  rw [← e x, ← e y, h]
theorem xor_right {a b c : BitVec 64} (h : a ^^^ c = b ^^^ c) : a = b := by
  have := congrArg (· ^^^ c) h
  simpa [BitVec.xor_assoc] using this
theorem xor_left {a b c : BitVec 64} (h : c ^^^ a = c ^^^ b) : a = b := by
  rw [BitVec.xor_comm c a, BitVec.xor_comm c b] at h; exact xor_right h
theorem sealStep_inj {s t v : BitVec 64} (h : sealStep s v = sealStep t v) : s = t := rotl_inj _ _ (xor_right h)
theorem sealOn_inj {s t : BitVec 64} {l : List (BitVec 64)} (h : sealOn s l = sealOn t l) : s = t := by
  induction l generalizing s t with
  | nil => exact h
  | cons v r ih => exact sealStep_inj (ih h)
theorem sealOn_append (s : BitVec 64) (a b : List (BitVec 64)) : sealOn s (a ++ b) = sealOn (sealOn s a) b := by simp [sealOn]
theorem sealFits_snoc (r : List (BitVec 64)) (x : BitVec 64) : sealFits (r ++ [x]) = (x == sealOf r) := by
  rw [sealFits_pos _ (by simp)]
  simp
theorem set_split (l : List (BitVec 64)) (i : Nat) (v : BitVec 64) (h : i < l.length) : l.set i v = l.take i ++ v :: l.drop (i + 1) := List.set_eq_take_append_cons_drop .. |>.trans (by simp [h])
theorem split_at (l : List (BitVec 64)) (i : Nat) (h : i < l.length) : l = l.take i ++ (l[i]?.getD 0#64) :: l.drop (i + 1) := by
  have e : l.drop i = l[i] :: l.drop (i + 1) := List.drop_eq_getElem_cons h
  conv => lhs; rw [← List.take_append_drop i l, e]
  simp [h]
theorem sealOf_set_ne (l : List (BitVec 64)) (i : Nat) (v : BitVec 64) (h : i < l.length) (hv : v ≠ 0#64) : sealOf (l.set i (l[i]?.getD 0#64 ^^^ v)) ≠ sealOf l := by
  intro he
  rw [set_split l i _ h] at he
  conv at he => rhs; rw [split_at l i h]
  generalize l[i]?.getD 0#64 = x at he
  unfold sealOf at he
  rw [sealOn_append, sealOn_append] at he
  have h1 : sealStep (sealOn beginW (l.take i)) (x ^^^ v) = sealStep (sealOn beginW (l.take i)) x := sealOn_inj (l := l.drop (i + 1)) he
  have h2 : x ^^^ v = x := xor_left h1
  have h3 : x ^^^ v = x ^^^ 0#64 := by rw [h2]; simp
  exact hv (xor_left h3)
theorem sealOn_over (l : List (BitVec 64)) : ∀ (s t r : BitVec 64) (b c : List (BitVec 64)), b.length = l.length → c.length = l.length →
    sealOn (s ^^^ t ^^^ r) ((List.range l.length).map fun i => l[i]?.getD 0#64 ^^^ b[i]?.getD 0#64 ^^^ c[i]?.getD 0#64) = sealOn s l ^^^ sealOn t b ^^^ sealOn r c := by
  induction l with
  | nil =>
    intro s t r b c hb hc
    obtain rfl : b = [] := by cases b <;> simp_all
    obtain rfl : c = [] := by cases c <;> simp_all
    rfl
  | cons x l ih =>
    intro s t r b c hb hc
    match b, hb, c, hc with
    | y :: b, hb, z :: c, hc =>
      simp only [List.length_cons] at hb hc
      have e : (List.range (x :: l).length).map (fun i => (x :: l)[i]?.getD 0#64 ^^^ (y :: b)[i]?.getD 0#64 ^^^ (z :: c)[i]?.getD 0#64)
          = (x ^^^ y ^^^ z) :: (List.range l.length).map fun i => l[i]?.getD 0#64 ^^^ b[i]?.getD 0#64 ^^^ c[i]?.getD 0#64 := by
        simp only [List.length_cons, List.range_succ_eq_map, List.map_cons, List.map_map]
        rfl
      rw [e]
      show sealOn (sealStep (s ^^^ t ^^^ r) (x ^^^ y ^^^ z)) _ = sealOn (sealStep s x) l ^^^ sealOn (sealStep t y) b ^^^ sealOn (sealStep r z) c
      rw [← ih (sealStep s x) (sealStep t y) (sealStep r z) b c (by omega) (by omega)]
      congr 1
      unfold sealStep
      rw [rotl_xor, rotl_xor]
      ac_rfl
theorem begin3 : beginW ^^^ beginW ^^^ beginW = beginW := by decide
theorem sealOf_over (a b c : List (BitVec 64)) (hb : b.length = a.length) (hc : c.length = a.length) :
    sealOf ((List.range a.length).map fun i => a[i]?.getD 0#64 ^^^ b[i]?.getD 0#64 ^^^ c[i]?.getD 0#64) = sealOf a ^^^ sealOf b ^^^ sealOf c := by
  unfold sealOf
  rw [← sealOn_over a beginW beginW beginW b c hb hc, begin3]
theorem sealOf_two (a b : BitVec 64) (r : List (BitVec 64)) : (sealOf (a :: b :: r) = sealOf (b :: a :: r)) ↔ (a ^^^ b = (a ^^^ b).rotateLeft 9) := by
  constructor
  · intro h
    have h1 : sealStep (sealStep beginW a) b = sealStep (sealStep beginW b) a := sealOn_inj (l := r) h
    unfold sealStep at h1
    rw [rotl_xor, rotl_xor, BitVec.xor_assoc, BitVec.xor_assoc] at h1
    have h2 := xor_left h1
    rw [rotl_xor]
    have h3 := congrArg (· ^^^ (b.rotateLeft 9 ^^^ b)) h2
    have e1 : a.rotateLeft 9 ^^^ b ^^^ (b.rotateLeft 9 ^^^ b) = a.rotateLeft 9 ^^^ b.rotateLeft 9 := by
      rw [BitVec.xor_comm (b.rotateLeft 9) b, BitVec.xor_assoc, ← BitVec.xor_assoc b b]; simp
    have e2 : b.rotateLeft 9 ^^^ a ^^^ (b.rotateLeft 9 ^^^ b) = a ^^^ b := by
      rw [BitVec.xor_comm (b.rotateLeft 9) a, BitVec.xor_assoc, ← BitVec.xor_assoc (b.rotateLeft 9)]; simp
    rw [e1, e2] at h3
    exact h3.symm
  · intro h
    have h1 : sealStep (sealStep beginW a) b = sealStep (sealStep beginW b) a := by
      unfold sealStep
      rw [rotl_xor, rotl_xor, BitVec.xor_assoc, BitVec.xor_assoc]
      congr 1
      rw [rotl_xor] at h
      have h3 := congrArg (· ^^^ (b.rotateLeft 9 ^^^ b)) h
      have e1 : a.rotateLeft 9 ^^^ b.rotateLeft 9 ^^^ (b.rotateLeft 9 ^^^ b) = a.rotateLeft 9 ^^^ b := by
        rw [BitVec.xor_assoc, ← BitVec.xor_assoc (b.rotateLeft 9)]; simp
      have e2 : a ^^^ b ^^^ (b.rotateLeft 9 ^^^ b) = b.rotateLeft 9 ^^^ a := by
        rw [BitVec.xor_comm (b.rotateLeft 9) b, BitVec.xor_assoc, ← BitVec.xor_assoc b b]
        simp [BitVec.xor_comm]
      rw [e1, e2] at h3
      exact h3.symm
    show sealOn (sealStep (sealStep beginW a) b) r = sealOn (sealStep (sealStep beginW b) a) r
    rw [h1]
theorem beq_two (a b : BitVec 64) (r : List (BitVec 64)) : (sealOf (a :: b :: r) == sealOf (b :: a :: r)) = ((a ^^^ b) == (a ^^^ b).rotateLeft 9) := by
  rw [Bool.eq_iff_iff, beq_iff_eq, beq_iff_eq]; exact sealOf_two a b r
end Go.Proofs.Ytmefcjgoedhpkaa

/-
  PLAIN: bytes of words, the lowest first.
-/
namespace Go.Proofs.Ytmefcjgoedhpkaa

/-- the word of some bytes, the lowest first. -/
def le8 : List (BitVec 8) → BitVec 64
  | [] => 0#64
  | b :: r => le8 r <<< 8 ||| b.setWidth 64
/-- byte k of a word. -/
def byteOf (v : BitVec 64) (k : Nat) : BitVec 8 := (v >>> (8 * k)).setWidth 8
/-- all eight. -/
def toBytes (v : BitVec 64) : List (BitVec 8) := (List.range 8).map (byteOf v)
def toBytesAll (l : List (BitVec 64)) : List (BitVec 8) := l.flatMap toBytes
/-- word i of bytes, 0 of none. -/
def wordAt (l : List (BitVec 8)) (i : Nat) : BitVec 64 := if i < l.length / 8 then le8 ((l.drop (8 * i)).take 8) else 0#64
def toWords (l : List (BitVec 8)) : List (BitVec 64) := (List.range (l.length / 8)).map (wordAt l)

theorem le8_snoc (l : List (BitVec 8)) (b : BitVec 8) : le8 (l ++ [b]) = le8 l ||| b.setWidth 64 <<< (8 * l.length) := by
  induction l with
  | nil => simp [le8]
  | cons a r ih =>
    have e : 8 * (a :: r).length = 8 * r.length + 8 := by simp; omega
    show le8 (r ++ [b]) <<< 8 ||| _ = (le8 r <<< 8 ||| _) ||| _
    rw [ih, e, BitVec.shiftLeft_or_distrib, ← BitVec.shiftLeft_add]
    rw [BitVec.or_assoc, BitVec.or_assoc, BitVec.or_comm (BitVec.setWidth 64 a)]

theorem le8_bit (l : List (BitVec 8)) (i : Nat) (hi : i < 64) : (le8 l).getLsbD i = (l.getD (i / 8) 0#8).getLsbD (i % 8) := by
  induction l generalizing i with
  | nil => simp [le8]
  | cons a r ih =>
    show (le8 r <<< 8 ||| a.setWidth 64).getLsbD i = _
    rw [BitVec.getLsbD_or, BitVec.getLsbD_shiftLeft, BitVec.getLsbD_setWidth]
    by_cases h : i < 8
    · have e1 : i / 8 = 0 := by omega
      have e2 : i % 8 = i := by omega
      simp [h, hi, e1, e2]
    · have e1 : i / 8 = (i - 8) / 8 + 1 := by omega
      have e2 : i % 8 = (i - 8) % 8 := by omega
      have e3 : a.getLsbD i = false := BitVec.getLsbD_of_ge a i (by omega)
      rw [ih (i - 8) (by omega), e1, e2, e3]
      simp [h, hi]

theorem toBytes_length (v : BitVec 64) : (toBytes v).length = 8 := by simp [toBytes]
theorem toBytes_getD (v : BitVec 64) (k : Nat) (h : k < 8) : (toBytes v).getD k 0#8 = byteOf v k := by
  simp [toBytes, List.getD_eq_getElem?_getD, List.getElem?_map, List.getElem?_range h]
theorem byteOf_bit (v : BitVec 64) (k j : Nat) (h : j < 8) : (byteOf v k).getLsbD j = v.getLsbD (8 * k + j) := by
  simp [byteOf, h]
theorem le8_toBytes (v : BitVec 64) : le8 (toBytes v) = v := by
  apply BitVec.eq_of_getLsbD_eq
  intro i hi
  rw [le8_bit _ _ hi, toBytes_getD _ _ (by omega), byteOf_bit _ _ _ (by omega)]
  congr 1; omega

theorem toBytesAll_length (l : List (BitVec 64)) : (toBytesAll l).length = 8 * l.length := by
  induction l with
  | nil => rfl
  | cons a r ih =>
    show (toBytes a ++ toBytesAll r).length = _
    rw [List.length_append, ih, toBytes_length]; simp; omega
theorem toBytesAll_snoc (l : List (BitVec 64)) (v : BitVec 64) : toBytesAll (l ++ [v]) = toBytesAll l ++ toBytes v := by
  simp [toBytesAll]
theorem toBytesAll_drop (l : List (BitVec 64)) (i : Nat) : (toBytesAll l).drop (8 * i) = toBytesAll (l.drop i) := by
  induction l generalizing i with
  | nil => simp [toBytesAll]
  | cons a r ih =>
    cases i with
    | zero => simp
    | succ n =>
      show (toBytes a ++ toBytesAll r).drop (8 * (n + 1)) = toBytesAll (r.drop n)
      have e : 8 * (n + 1) = (toBytes a).length + 8 * n := by rw [toBytes_length]; omega
      rw [e, List.drop_append, Nat.add_sub_cancel_left, ih]
      simp
theorem wordAt_toBytesAll (l : List (BitVec 64)) (i : Nat) (h : i < l.length) : wordAt (toBytesAll l) i = l.getD i 0#64 := by
  unfold wordAt
  rw [toBytesAll_length, if_pos (by omega), toBytesAll_drop]
  have e : l.drop i = l[i] :: l.drop (i + 1) := List.drop_eq_getElem_cons h
  rw [e]
  show le8 ((toBytes l[i] ++ toBytesAll (l.drop (i + 1))).take 8) = _
  rw [List.take_append_of_le_length (by rw [toBytes_length]; omega), List.take_of_length_le (by rw [toBytes_length]; omega), le8_toBytes]
  simp [List.getD_eq_getElem?_getD, h]
theorem toWords_toBytesAll (l : List (BitVec 64)) : toWords (toBytesAll l) = l := by
  unfold toWords
  apply List.ext_getElem
  · simp [toBytesAll_length]
  · intro i h1 h2
    simp only [List.getElem_map, List.getElem_range]
    rw [wordAt_toBytesAll l i h2]
    simp [List.getD_eq_getElem?_getD, h2]
theorem toBytesAll_getD (l : List (BitVec 64)) (k : Nat) (h : k < 8 * l.length) : (toBytesAll l).getD k 0#8 = byteOf (l.getD (k / 8) 0#64) (k % 8) := by
  induction l generalizing k with
  | nil => simp at h
  | cons a r ih =>
    show (toBytes a ++ toBytesAll r).getD k 0#8 = _
    by_cases hk : k < 8
    · have e1 : k / 8 = 0 := by omega
      have e2 : k % 8 = k := by omega
      rw [e1, e2, show (a :: r).getD 0 0#64 = a from rfl, ← toBytes_getD a k hk]
      simp only [List.getD_eq_getElem?_getD]
      rw [List.getElem?_append_left (by rw [toBytes_length]; omega)]
    · have e1 : k / 8 = (k - 8) / 8 + 1 := by omega
      have e2 : k % 8 = (k - 8) % 8 := by omega
      have h' : k - 8 < 8 * r.length := by simp at h; omega
      have := ih (k - 8) h'
      rw [e1, e2]
      simp only [List.getD_eq_getElem?_getD] at this ⊢
      rw [List.getElem?_append_right (by rw [toBytes_length]; omega), toBytes_length, this]
      simp
end Go.Proofs.Ytmefcjgoedhpkaa

/-
  PLAIN: what writes do; sums; a record's words.
-/
import Derived.Test.YtcjddojcfdeflaaOpn5
set_option linter.unusedSimpArgs false
namespace Go.Proofs.Ytcjddojcfdeflaa
open Go.RowKit Ev
/-- one write done -/
def wr1 (l : List (BitVec 64)) (r : Int × BitVec 64) : List (BitVec 64) := if 0 ≤ r.1 ∧ r.1 < l.length then l.set r.1.toNat r.2 else l
def doW (L : List (BitVec 64)) (K : List (Int × BitVec 64)) : List (BitVec 64) := K.foldl wr1 L
@[simp] theorem wr1_length (l : List (BitVec 64)) (r : Int × BitVec 64) : (wr1 l r).length = l.length := by unfold wr1; split <;> simp
theorem doW_length : ∀ (K : List (Int × BitVec 64)) (L : List (BitVec 64)), (doW L K).length = L.length
  | [], _ => rfl
  | r :: K, L => (doW_length K (wr1 L r)).trans (wr1_length L r)
theorem doW_take {L : List (BitVec 64)} {K : List (Int × BitVec 64)} {k : Nat} {r : Int × BitVec 64} (h : K[k]? = some r) : doW L (K.take (k + 1)) = wr1 (doW L (K.take k)) r := by
  unfold doW
  rw [List.take_add_one, h, List.foldl_append]
  rfl
/-- the last one written to i -/
def lastV (K : List (Int × BitVec 64)) (i : Nat) (v : BitVec 64) : BitVec 64 := K.foldl (fun v r => if r.1 = (i : Int) then r.2 else v) v
theorem lastV_take {K : List (Int × BitVec 64)} {i k : Nat} {v : BitVec 64} {r : Int × BitVec 64} (h : K[k]? = some r) : lastV (K.take (k + 1)) i v = if r.1 = (i : Int) then r.2 else lastV (K.take k) i v := by
  unfold lastV
  rw [List.take_add_one, h, List.foldl_append]
  rfl
theorem doW_get {i : Nat} : ∀ (K : List (Int × BitVec 64)) {L : List (BitVec 64)} {v : BitVec 64}, L[i]? = some v → (doW L K)[i]? = some (lastV K i v)
  | [], _, _, h => h
  | r :: K, L, v, h => by
    refine (doW_get K (L := wr1 L r) (v := if r.1 = (i : Int) then r.2 else v) ?_).trans rfl
    have hi := lt_of_get h
    unfold wr1
    by_cases hr : r.1 = (i : Int)
    · rw [if_pos hr, if_pos ⟨by omega, by omega⟩, hr]
      simp [hi]
    · rw [if_neg hr]
      split
      · rename_i hb
        rw [List.getElem?_set_ne (by omega)]; exact h
      · exact h
theorem lastV_or (i : Nat) : ∀ K : List (Int × BitVec 64), (∀ v, lastV K i v = v) ∨ ∃ c, ∀ v, lastV K i v = c
  | [] => .inl fun _ => rfl
  | r :: K => by
    have hs : ∀ v, lastV (r :: K) i v = lastV K i (if r.1 = (i : Int) then r.2 else v) := fun _ => rfl
    rcases lastV_or i K with h | ⟨c, h⟩
    · by_cases hr : r.1 = (i : Int)
      · exact .inr ⟨r.2, fun v => by rw [hs, if_pos hr, h]⟩
      · exact .inl fun v => by rw [hs, if_neg hr, h]
    · exact .inr ⟨c, fun v => by rw [hs, h]⟩
theorem lastV_twice (K : List (Int × BitVec 64)) (i : Nat) (v : BitVec 64) : lastV K i (lastV K i v) = lastV K i v := by
  rcases lastV_or i K with h | ⟨c, h⟩
  · rw [h]
  · rw [h, h]
theorem doW_twice (L : List (BitVec 64)) (K : List (Int × BitVec 64)) : doW (doW L K) K = doW L K := by
  apply List.ext_getElem?
  intro i
  rcases Nat.lt_or_ge i L.length with hi | hi
  · obtain ⟨v, hv⟩ : ∃ v, L[i]? = some v := ⟨_, List.getElem?_eq_getElem hi⟩
    have h1 := doW_get K hv
    rw [doW_get K h1, h1, lastV_twice]
  · rw [List.getElem?_eq_none (by rw [doW_length, doW_length]; exact hi), List.getElem?_eq_none (by rw [doW_length]; exact hi)]
/-! ### sums -/
def slStep (s v : BitVec 64) : BitVec 64 := s.rotateLeft 9 ^^^ v
def slOn (s : BitVec 64) (l : List (BitVec 64)) : BitVec 64 := l.foldl slStep s
def slBegin : BitVec 64 := 7811896474847682849#64
def slOf (l : List (BitVec 64)) : BitVec 64 := slOn slBegin l
theorem slOn_take {s : BitVec 64} {l : List (BitVec 64)} {k : Nat} {v : BitVec 64} (h : l[k]? = some v) : slOn s (l.take (k + 1)) = slStep (slOn s (l.take k)) v := by
  unfold slOn
  rw [List.take_add_one, h, List.foldl_append]
  rfl
/-! ### records -/
def okAt (r : Int × BitVec 64) : Prop := 0 ≤ r.1 ∧ r.1 ≤ 1048576
instance (r : Int × BitVec 64) : Decidable (okAt r) := by unfold okAt; infer_instance
def fitsR (n : BitVec 64) (K : List (Int × BitVec 64)) : Prop := n ≠ 0#64 ∧ K.length ≤ 400 ∧ ∀ r ∈ K, okAt r
instance (n : BitVec 64) (K : List (Int × BitVec 64)) : Decidable (fitsR n K) := by unfold fitsR; infer_instance
def bodyR (K : List (Int × BitVec 64)) : List (BitVec 64) := K.flatMap fun r => [BitVec.ofInt 64 r.1, r.2]
theorem bodyR_length (K : List (Int × BitVec 64)) : (bodyR K).length = 2 * K.length := by
  induction K with
  | nil => rfl
  | cons r K ih =>
    have : (bodyR (r :: K)).length = (bodyR K).length + 2 := by simp [bodyR]
    rw [this, ih, List.length_cons]; omega
theorem bodyR_take {K : List (Int × BitVec 64)} {k : Nat} {r : Int × BitVec 64} (h : K[k]? = some r) : bodyR (K.take (k + 1)) = bodyR (K.take k) ++ [BitVec.ofInt 64 r.1, r.2] := by
  unfold bodyR
  rw [List.take_add_one, h]
  simp
def preR (n : BitVec 64) (K : List (Int × BitVec 64)) : List (BitVec 64) := n :: BitVec.ofInt 64 K.length :: bodyR K
theorem preR_length (n : BitVec 64) (K : List (Int × BitVec 64)) : (preR n K).length = 2 * K.length + 2 := by simp [preR, bodyR_length]
def putR (n : BitVec 64) (K : List (Int × BitVec 64)) : List (BitVec 64) := if fitsR n K then preR n K ++ [slOf (preR n K)] else []
end Go.Proofs.Ytcjddojcfdeflaa

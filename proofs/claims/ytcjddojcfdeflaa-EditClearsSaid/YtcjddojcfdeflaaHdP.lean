/-
  PLAIN: heads in words.
-/
import Derived.Test.YtcjddojcfdeflaaSlP
import Derived.Test.YtcjddojcfdeflaaGm
set_option linter.unusedSimpArgs false
namespace Go.Proofs.Ytcjddojcfdeflaa
open Go.RowKit Ev
def magicW : BitVec 64 := 5497010944029229057#64
def preH (g : Gm) : List (BitVec 64) := [magicW, BitVec.ofInt 64 g.b, BitVec.ofInt 64 g.n, BitVec.ofInt 64 g.c, BitVec.ofInt 64 g.k, 0#64]
def putH (g : Gm) (p : BitVec 64) : List (BitVec 64) := if isGood g then preH g ++ [p, slOf (preH g)] else []
def hdV (g : Gm) (p : BitVec 64) : V := .g [.int .i64 g.b, .int .i64 g.n, .int .i64 g.c, .int .i64 g.k, wd p]
def wat (L : List (BitVec 64)) (i : Nat) : BitVec 64 := L[i]?.getD 0#64
theorem wat_get {L : List (BitVec 64)} {i : Nat} (h : i < L.length) : L[i]? = some (wat L i) := by
  unfold wat; rw [List.getElem?_eq_getElem h]; rfl
def readG (L : List (BitVec 64)) : Gm := ⟨(wat L 1).toInt, (wat L 2).toInt, (wat L 3).toInt, (wat L 4).toInt⟩
def getH (L : List (BitVec 64)) : Option (Gm × BitVec 64) := if L.length = 8 ∧ putH (readG L) (wat L 6) = L then some (readG L, wat L 6) else none
def getHV (r : Option (Gm × BitVec 64)) : V := match r with
  | some (g, p) => .t [hdV g p, .bool true]
  | none => .t [hdV ⟨0, 0, 0, 0⟩ 0#64, .bool false]
theorem toInt_small {z : Int} (h : 0 ≤ z) (h2 : z < 9223372036854775808) : (BitVec.ofInt 64 z).toInt = z := by
  rw [BitVec.toInt_eq_toNat_cond, BitVec.toNat_ofInt]
  simp
  split <;> omega
theorem putH_length {g : Gm} (p : BitVec 64) (h : isGood g) : (putH g p).length = 8 := by unfold putH; rw [if_pos h]; rfl
theorem putH_bad {g : Gm} (p : BitVec 64) (h : ¬ isGood g) : putH g p = [] := by unfold putH; rw [if_neg h]
theorem readG_pre {g : Gm} (h : small4 g) (q : List (BitVec 64)) : readG (preH g ++ q) = g := by
  obtain ⟨h1, h2, h3, h4, h5, h6, h7, h8⟩ := h
  show (⟨(BitVec.ofInt 64 g.b).toInt, (BitVec.ofInt 64 g.n).toInt, (BitVec.ofInt 64 g.c).toInt, (BitVec.ofInt 64 g.k).toInt⟩ : Gm) = g
  rw [toInt_small (by omega) (by omega), toInt_small (by omega) (by omega), toInt_small (by omega) (by omega), toInt_small (by omega) (by omega)]
theorem getH_put {g : Gm} (p : BitVec 64) (h : isGood g) : getH (putH g p) = some (g, p) := by
  have h1 : putH g p = preH g ++ [p, slOf (preH g)] := by unfold putH; rw [if_pos h]
  have h2 : readG (putH g p) = g := by rw [h1]; exact readG_pre h.1 _
  have h3 : wat (putH g p) 6 = p := by rw [h1]; rfl
  unfold getH
  rw [h2, h3, if_pos ⟨putH_length p h, rfl⟩]
/-- a word of it is another -/
theorem getH_alt {g : Gm} (p v : BitVec 64) (h : isGood g) (hv : v ≠ 0#64) {i : Nat} (hi : i < 8) : getH ((putH g p).set i (wat (putH g p) i ^^^ v)) = if i = 6 then some (g, p ^^^ v) else none := by
  have h1 : putH g p = preH g ++ [p, slOf (preH g)] := by unfold putH; rw [if_pos h]
  by_cases h6 : i = 6
  · subst h6
    rw [if_pos rfl]
    have h2 : (putH g p).set 6 (wat (putH g p) 6 ^^^ v) = putH g (p ^^^ v) := by
      rw [h1]; unfold putH; rw [if_pos h]; rfl
    rw [h2]
    exact getH_put _ h
  · rw [if_neg h6]
    unfold getH
    rw [if_neg]
    rintro ⟨_, h2⟩
    generalize hq : readG ((putH g p).set i (wat (putH g p) i ^^^ v)) = g' at h2
    generalize wat ((putH g p).set i (wat (putH g p) i ^^^ v)) 6 = p' at h2
    have hg' : isGood g' := by
      by_cases hb : isGood g'
      · exact hb
      · rw [putH_bad _ hb] at h2
        have := congrArg List.length h2
        simp [putH_length p h] at this
    have h3 : putH g' p' = preH g' ++ [p', slOf (preH g')] := by unfold putH; rw [if_pos hg']
    rw [h3, h1] at h2
    have l6 : ∀ g, (preH g).length = 6 := fun _ => rfl
    by_cases h7 : i = 7
    · subst h7
      have h4 : (preH g ++ [p, slOf (preH g)]).set 7 (wat (preH g ++ [p, slOf (preH g)]) 7 ^^^ v) = preH g ++ [p, slOf (preH g) ^^^ v] := rfl
      rw [h4] at h2
      obtain ⟨e1, e2⟩ := List.append_inj h2 rfl
      rw [e1] at e2
      injection e2 with _ e2
      injection e2 with e2 _
      apply hv
      have := xor_left (c := slOf (preH g)) (a := 0#64) (b := v) (by rw [← e2]; simp)
      exact this.symm
    · have hi6 : i < (preH g).length := by rw [l6]; omega
      have h4 : wat (preH g ++ [p, slOf (preH g)]) i = wat (preH g) i := by unfold wat; rw [List.getElem?_append_left hi6]
      rw [h4, List.set_append_left _ _ hi6] at h2
      obtain ⟨e1, e2⟩ := List.append_inj h2 (by simp [l6])
      injection e2 with _ e2
      injection e2 with e2 _
      rw [e1] at e2
      exact slOf_set_ne (preH g) i v hi6 hv e2
end Go.Proofs.Ytcjddojcfdeflaa

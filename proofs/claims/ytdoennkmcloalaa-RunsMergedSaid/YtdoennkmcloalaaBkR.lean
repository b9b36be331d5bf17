/-
  PLAIN: records written are read back; other ones are none.
-/
import Derived.Test.YtdoennkmcloalaaRdG
set_option linter.unusedSimpArgs false
namespace Go.Proofs.Ytdoennkmcloalaa
open Go.RowKit Ev
theorem bodyR_get : ∀ {K : List (Int × BitVec 64)} {i : Nat} {r : Int × BitVec 64}, K[i]? = some r → (bodyR K)[2 * i]? = some (BitVec.ofInt 64 r.1) ∧ (bodyR K)[2 * i + 1]? = some r.2
  | [], i, r, h => by simp at h
  | q :: K, 0, r, h => by simp at h; subst h; exact ⟨rfl, rfl⟩
  | q :: K, i + 1, r, h => by
    have := bodyR_get (K := K) (i := i) (r := r) (by simpa using h)
    rw [show bodyR (q :: K) = BitVec.ofInt 64 q.1 :: q.2 :: bodyR K from rfl, show 2 * (i + 1) = 2 * i + 1 + 1 by omega]
    exact this
theorem wat_left {P q : List (BitVec 64)} {i : Nat} (h : i < P.length) : wat (P ++ q) i = wat P i := by unfold wat; rw [List.getElem?_append_left h]
theorem wat_right {P : List (BitVec 64)} {s : BitVec 64} : wat (P ++ [s]) P.length = s := by unfold wat; rw [List.getElem?_append_right (Nat.le_refl _)]; simp
theorem putR_fits {n : BitVec 64} {K : List (Int × BitVec 64)} (h : fitsR n K) : putR n K = preR n K ++ [slOf (preR n K)] := by unfold putR; rw [if_pos h]
theorem putR_length {n : BitVec 64} {K : List (Int × BitVec 64)} (h : fitsR n K) : (putR n K).length = 3 + 2 * K.length := by rw [putR_fits h]; simp [preR_length]; omega
theorem getOk_back {n : BitVec 64} {K : List (Int × BitVec 64)} (h : fitsR n K) (rest : List (BitVec 64)) : getOk (putR n K ++ rest) ∧ getN (putR n K ++ rest) = n ∧ getK (putR n K ++ rest) = K := by
  obtain ⟨h1, h2, h3⟩ := h
  have hp := putR_fits ⟨h1, h2, h3⟩
  have hpl := putR_length ⟨h1, h2, h3⟩
  have hl := preR_length n K
  have w0 : ∀ i, i < 2 + 2 * K.length → wat (putR n K ++ rest) i = wat (preR n K) i := fun i hi => by
    rw [wat_left (by omega), hp, wat_left (by omega)]
  have e0 : wat (putR n K ++ rest) 0 = n := by rw [w0 0 (by omega)]; rfl
  have e1 : wat (putR n K ++ rest) 1 = BitVec.ofInt 64 K.length := by rw [w0 1 (by omega)]; rfl
  have ec : cntR (putR n K ++ rest) = K.length := by
    unfold cntR; rw [e1, BitVec.toNat_ofInt]; omega
  have et : (putR n K ++ rest).take (3 + 2 * K.length) = putR n K := by rw [← hpl, List.take_left]
  have ef : fitsL (putR n K) := by
    refine ⟨by omega, ?_⟩
    rw [hpl, show 3 + 2 * K.length - 1 = (preR n K).length by omega, hp, wat_right, List.take_left]
  have ep : pairsR (putR n K ++ rest) K.length = K := by
    apply List.ext_getElem?
    intro i
    by_cases hi : i < K.length
    · obtain ⟨r, hr⟩ : ∃ r, K[i]? = some r := ⟨_, List.getElem?_eq_getElem hi⟩
      have hb := bodyR_get hr
      have hok := h3 r (List.mem_of_getElem? hr)
      have p0 : wat (preR n K) (2 + 2 * i) = BitVec.ofInt 64 r.1 := by
        unfold wat preR
        rw [show 2 + 2 * i = 2 * i + 1 + 1 by omega]
        simp [hb.1]
      have p1 : wat (preR n K) (3 + 2 * i) = r.2 := by
        unfold wat preR
        rw [show 3 + 2 * i = 2 * i + 1 + 1 + 1 by omega]
        simp [hb.2]
      unfold pairsR
      rw [List.getElem?_map, List.getElem?_range hi, hr]
      simp only [Option.map_some]
      unfold pairR
      rw [w0 _ (by omega), w0 _ (by omega), p0, p1, toInt_small hok.1 (by have := hok.2; omega)]
    · rw [List.getElem?_eq_none (by rw [pairsR_length]; omega), List.getElem?_eq_none (by omega)]
  have hok : getOk (putR n K ++ rest) := ⟨by rw [List.length_append]; omega, by omega, by rw [ec, List.length_append]; omega, by rw [ec, et]; exact ef, by rw [e0, ec, ep]; exact ⟨h1, h2, h3⟩⟩
  exact ⟨hok, by unfold getN; rw [if_pos hok, e0], by unfold getK; rw [if_pos hok, ec, ep]⟩
end Go.Proofs.Ytdoennkmcloalaa

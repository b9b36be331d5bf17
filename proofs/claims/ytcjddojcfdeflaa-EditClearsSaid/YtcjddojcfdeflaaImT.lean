/-
  PLAIN: the blocks and the nodes of the made image.
-/
import Derived.Test.YtcjddojcfdeflaaImMR
set_option linter.unusedSimpArgs false
set_option linter.unusedVariables false
namespace Go.Proofs.Ytcjddojcfdeflaa
open Go.RowKit Ev
theorem blkW_eq {L W : List (BitVec 64)} {a : Nat} (hW : W.length = 8) (h : ∀ j, j < 8 → L[a * 8 + j]? = W[j]?) : blkW L a = W := by
  unfold blkW
  apply List.ext_getElem?
  intro j
  rw [List.getElem?_take]
  by_cases hj : j < 8
  · rw [if_pos hj, List.getElem?_drop]; exact h j hj
  · rw [if_neg hj, List.getElem?_eq_none (by omega)]
structure ImgAt (g : Gm) : Prop where
  root : blkW (imgW g) (atN g 1) = putN rootN
  lost : blkW (imgW g) (atN g 2) = putN (lostN g)
  free : ∀ k : Nat, nF g + 2 ≤ (k : Int) → (k : Int) < g.b - 1 → blkW (imgW g) k = Zw
theorem imgAt {g : Gm} (hg : isGood g) : ImgAt g := by
  have h := imgOk hg
  have hck := ck_le hg.1
  obtain ⟨⟨hb1, hb2, hn1', hn2', hc1, hc2, hk1, hk2⟩, hdN1⟩ := id hg
  have hbn : 1 ≤ bN g ∧ bN g ≤ 2 := by unfold bN; omega
  have hbn2 : g.b ≤ 512 * bN g := by unfold bN; omega
  have hnF : nF g = 1 + g.c * g.k + bN g := rfl
  have hdF : dF g = nF g + g.n + g.n := rfl
  have hdN : dN g = g.b - 1 - dF g := rfl
  have htl := takW_length g
  have hH : (putH g 0#64).length = 8 := putH_length _ hg
  have hr8 := putN_eight fits_root
  have hl8 := putN_eight (fits_lost hg)
  obtain ⟨F, hF⟩ : ∃ F, F = (1 + g.c * g.k).toNat := ⟨_, rfl⟩
  have h5 := h.h5
  have h4 := h.h4
  have h3 := h.h3
  have h2 := h.h2
  have h1 : 0 + (putH g 0#64).length ≤ (zeroW g).length := by have := h.h1; omega
  rw [← hF] at h5
  have get : ∀ j : Nat, (imgW g)[j]? = if F * 8 ≤ j ∧ j < F * 8 + (takW g).length then (takW g)[j - F * 8]? else if (nF g + 1).toNat * 8 ≤ j ∧ j < (nF g + 1).toNat * 8 + (putN (lostN g)).length then (putN (lostN g))[j - (nF g + 1).toNat * 8]? else if (nF g).toNat * 8 ≤ j ∧ j < (nF g).toNat * 8 + (putN rootN).length then (putN rootN)[j - (nF g).toNat * 8]? else if (g.b - 1).toNat * 8 ≤ j ∧ j < (g.b - 1).toNat * 8 + (putH g 0#64).length then (putH g 0#64)[j - (g.b - 1).toNat * 8]? else if 0 ≤ j ∧ j < 0 + (putH g 0#64).length then (putH g 0#64)[j - 0]? else (zeroW g)[j]? := fun j => by
    unfold imgW
    rw [← hF, putL_get h5]
    unfold img4
    rw [putL_get h4]
    unfold img3
    rw [putL_get h3]
    unfold img2
    rw [putL_get h2]
    unfold img1
    rw [putL_get h1]
  refine ⟨blkW_eq hr8 fun j hj => ?_, blkW_eq hl8 fun j hj => ?_, fun k hk1 hk2 => blkW_eq (by simp [Zw]) fun j hj => ?_⟩
  · unfold atN
    rw [get, if_neg (by omega), if_neg (by omega), if_pos (by omega)]
    congr 1
    omega
  · unfold atN
    rw [get, if_neg (by omega), if_pos (by omega)]
    congr 1
    omega
  · rw [get, if_neg (by omega), if_neg (by omega), if_neg (by omega), if_neg (by omega), if_neg (by omega)]
    unfold zeroW Zw
    rw [List.getElem?_replicate, List.getElem?_replicate, if_pos (by omega), if_pos hj]
theorem putN_none : putN noN = Zw := by decide +kernel
theorem fits_none : fitsN noN := by decide
/-- what each node of an empty image is -/
def nodeI (g : Gm) (i : Nat) : Nd := if i = 1 then rootN else if i = 2 then lostN g else noN
theorem node_at {g : Gm} (hg : isGood g) {i : Nat} (hi : 1 ≤ i ∧ (i : Int) ≤ g.n) : getNd (blkW (imgW g) (atN g i)) = some (nodeI g i) := by
  have h := imgAt hg
  have hck := ck_le hg.1
  obtain ⟨⟨hb1, hb2, hn1', hn2', hc1, hc2, hk1, hk2⟩, hdN1⟩ := id hg
  have hbn : 1 ≤ bN g ∧ bN g ≤ 2 := by unfold bN; omega
  have hnF : nF g = 1 + g.c * g.k + bN g := rfl
  have hdF : dF g = nF g + g.n + g.n := rfl
  have hdN : dN g = g.b - 1 - dF g := rfl
  unfold nodeI
  by_cases c1 : i = 1
  · subst c1; rw [if_pos rfl, h.root]; exact getNd_put fits_root
  · rw [if_neg c1]
    by_cases c2 : i = 2
    · subst c2; rw [if_pos rfl, h.lost]; exact getNd_put (fits_lost hg)
    · rw [if_neg c2, h.free (atN g i) (by unfold atN; omega) (by unfold atN; omega), ← putN_none]
      exact getNd_put fits_none
theorem node_good {g : Gm} (hg : isGood g) (i : Nat) : goodN g (nodeI g i) := by
  obtain ⟨⟨hb1, hb2, hn1', hn2', hc1, hc2, hk1, hk2⟩, hdN1⟩ := id hg
  obtain ⟨d1, d2, d3, d4, d5⟩ := d_le hg
  refine ⟨hg, ?_⟩
  unfold nodeI
  by_cases c1 : i = 1
  · rw [if_pos c1, if_neg (by decide)]
    refine ⟨by decide, by decide, ?_, ⟨by decide, .inr fun i hi => absurd hi (Nat.not_lt_zero _)⟩, by decide⟩
    unfold sizedN
    rw [if_pos (show rootN.t = 2 from rfl)]
    exact ⟨Int.le_refl _, by show (0 : Int) ≤ min 4096 g.b; omega⟩
  · rw [if_neg c1]
    by_cases c2 : i = 2
    · rw [if_pos c2, if_neg (by show ¬ (2 : Int) = 0; decide)]
      refine ⟨⟨by show (1 : Int) ≤ 2; decide, by show (2 : Int) ≤ 3; decide⟩, ⟨by show (1 : Int) ≤ 1; decide, by show (1 : Int) ≤ 200; decide⟩, ?_, ⟨by show 1 ≤ 4; decide, .inl ⟨rfl, rfl⟩⟩, ?_⟩
      · unfold sizedN
        rw [if_pos (show (lostN g).t = 2 from rfl)]
        exact ⟨by show 0 ≤ g.n; omega, by show g.n ≤ min 4096 g.b; omega⟩
      · show sumN [(nF g + g.n, g.n)] = needN (lostN g)
        simp [sumN, needN, lostN]
        rw [if_neg (by omega)]
        exact wrap_in (by omega) (by omega)
    · rw [if_neg c2, if_pos (show noN.t = 0 from rfl)]
      exact ⟨rfl, rfl, rfl⟩
end Go.Proofs.Ytcjddojcfdeflaa

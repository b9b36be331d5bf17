/-
  PLAIN: EdP, EdQ, in one text.
-/
import Derived.Test.YtcjddojcfdeflaaEdA
import Derived.Test.YtcjddojcfdeflaaImT
set_option linter.unusedSimpArgs false
set_option linter.unusedVariables false
namespace Go.Proofs.Ytcjddojcfdeflaa
open Go.RowKit Ev
theorem blk_get (L : List (BitVec 64)) (a : Nat) {j : Nat} (h : j < 8) : (blkW L a)[j]? = L[a * 8 + j]? := by
  unfold blkW
  rw [List.getElem?_take_of_lt h, List.getElem?_drop]
theorem blk_len {L : List (BitVec 64)} {a : Nat} (h : a * 8 + 8 ≤ L.length) : (blkW L a).length = 8 := by
  unfold blkW
  rw [List.length_take, List.length_drop]
  omega
theorem blk_put_off {L w : List (BitVec 64)} {i b : Nat} (h : i + w.length ≤ L.length) (hl : b * 8 + 8 ≤ L.length) (hb : b * 8 + 8 ≤ i ∨ i + w.length ≤ b * 8) : blkW (putL L i w) b = blkW L b :=
  blkW_eq (blk_len hl) fun j hj => by rw [putL_get h, if_neg (by omega), blk_get _ _ hj]
theorem blk_put_here {L w : List (BitVec 64)} {a : Nat} (hw : w.length = 8) (h : a * 8 + 8 ≤ L.length) : blkW (putL L (a * 8) w) a = w :=
  blkW_eq hw fun j hj => by
    rw [putL_get (by omega), if_pos (by omega)]
    congr 1
    omega
theorem blk_put {L w : List (BitVec 64)} {a b : Nat} (hw : w.length = 8) (h : a * 8 + 8 ≤ L.length) (hl : b * 8 + 8 ≤ L.length) : blkW (putL L (a * 8) w) b = if b = a then w else blkW L b := by
  by_cases c : b = a
  · subst c; rw [if_pos rfl]; exact blk_put_here hw h
  · rw [if_neg c]; exact blk_put_off (by omega) hl (by omega)
theorem putL_same {L w : List (BitVec 64)} {a : Nat} (hl : a * 8 + 8 ≤ L.length) (h : blkW L a = w) : putL L (a * 8) w = L := by
  have hw : w.length = 8 := by rw [← h]; exact blk_len hl
  apply List.ext_getElem?
  intro j
  rw [putL_get (by omega)]
  by_cases c : a * 8 ≤ j ∧ j < a * 8 + w.length
  · rw [if_pos c, ← h, blk_get _ _ (by omega), show a * 8 + (j - a * 8) = j by omega]
  · rw [if_neg c]
/-- the words with a node set: the bits, then the node -/
abbrev bwF (g : Gm) (W : List (BitVec 64)) : List (BitVec 64) := bitsW g W (bN g).toNat
def setNW (g : Gm) (W : List (BitVec 64)) (i : Nat) (N : Nd) (old : List (Int × Int)) : List (BitVec 64) := putL (putL W (bitsF g * 8) (setB (setB (bwF g W) false (allJ old)) true (allJ N.R))) (atN g i * 8) (putN N)
theorem bwF_length {g : Gm} (hg : isGood g) {W : List (BitVec 64)} (hW : W.length = 8 * g.b.toNat) : (bwF g W).length = 8 * (bN g).toNat ∧ (bitsF g + (bN g).toNat) * 8 ≤ W.length := by
  have hck := ck_le hg.1
  obtain ⟨⟨hb1, hb2, hn1', hn2', hc1, hc2, hk1, hk2⟩, hdN1⟩ := id hg
  have hbn : 1 ≤ bN g ∧ bN g ≤ 2 := by unfold bN; omega
  have hnF : nF g = 1 + g.c * g.k + bN g := rfl
  have hdF : dF g = nF g + g.n + g.n := rfl
  have hdN : dN g = g.b - 1 - dF g := rfl
  have h2 : (bitsF g + (bN g).toNat) * 8 ≤ W.length := by unfold bitsF; omega
  exact ⟨bitsW_length h2, h2⟩
end Go.Proofs.Ytcjddojcfdeflaa
set_option linter.unusedSimpArgs false
set_option linter.unusedVariables false
namespace Go.Proofs.Ytcjddojcfdeflaa
open Go.RowKit Ev
def g64 : Gm := ⟨64, 10, 1, 20⟩
theorem good64 : isGood g64 := of_decide_eq_true (by kernel_rfl)
abbrev W64 : List (BitVec 64) := imgW g64
def B64 : List (BitVec 64) := bwF g64 W64
theorem len64 : W64.length = 512 := by kernel_rfl
def R64 (k : Nat) : List (Int × Int) := if k = 0 then [] else [(42, (k : Int))]
def F64 (k len : Nat) : Nd := ⟨1, 1, (len : Int), R64 k⟩
def N64 (k : Nat) : List (BitVec 64) := setB (setB B64 false []) true (allJ (R64 k))
def chk64 (k : Nat) : Bool := decide (k = 0 ∨ freeB B64 42 63 (k : Int) = some 42) && decide (setB (setB (N64 k) false (allJ (R64 k))) true [] = B64)
theorem chk64_all : (List.range 20).all chk64 = true := by kernel_rfl
theorem free64 {k : Nat} (h : k < 20) (h0 : k ≠ 0) : freeB B64 42 63 (k : Int) = some 42 := by
  have h1 := List.all_eq_true.1 chk64_all k (List.mem_range.2 h)
  unfold chk64 at h1
  simp only [Bool.and_eq_true, decide_eq_true_eq] at h1
  exact h1.1.resolve_left h0
theorem back64 {k : Nat} (h : k < 20) : setB (setB (N64 k) false (allJ (R64 k))) true [] = B64 := by
  have h1 := List.all_eq_true.1 chk64_all k (List.mem_range.2 h)
  unfold chk64 at h1
  simp only [Bool.and_eq_true, decide_eq_true_eq] at h1
  exact h1.2
theorem N64_0 : N64 0 = B64 := by simp [N64, R64, allJ, setB]
/-- the words, but for the data: the bits, a node -/
structure Ws (W : List (BitVec 64)) (n : Nat) (B Nw : List (BitVec 64)) : Prop where
  len : W.length = 512
  bits : bwF g64 W = B
  node : blkW W (21 + n) = Nw
  rest : ∀ j, j < 512 → ¬ (168 ≤ j ∧ j < 176) → ¬ ((21 + n) * 8 ≤ j ∧ j < (21 + n) * 8 + 8) → ¬ (336 ≤ j ∧ j < 504) → W[j]? = W64[j]?
theorem bwF64 (W : List (BitVec 64)) : bwF g64 W = blkW W 21 := rfl
theorem atN64 {n : Nat} (h : 1 ≤ n) : atN g64 n = 21 + n := by
  unfold atN
  have : nF g64 = 22 := by decide
  rw [this]
  omega
theorem ws_start {n : Nat} (h : 3 ≤ n ∧ n ≤ 10) : Ws W64 n B64 Zw := ⟨len64, rfl, (imgAt good64).free (21 + n) (by have : nF g64 = 22 := by decide
                                                                                                                   omega) (by show ((21 + n : Nat) : Int) < 63; omega), fun j _ _ _ _ => rfl⟩
/-- a block of the data written -/
theorem Ws.data {W : List (BitVec 64)} {n : Nat} {B Nw : List (BitVec 64)} (h : Ws W n B Nw) (hn : n ≤ 10) {a : Nat} (ha : 42 ≤ a ∧ a < 63) {l : List (BitVec 64)} (hl : l.length = 8) : Ws (putL W (a * 8) l) n B Nw := by
  obtain ⟨h1, h2, h3, h4⟩ := h
  refine ⟨by rw [putL_length (by omega)]; exact h1, ?_, ?_, fun j j1 j2 j3 j4 => ?_⟩
  · rw [bwF64, blk_put_off (by omega) (by omega) (by omega), ← bwF64]; exact h2
  · rw [blk_put_off (by omega) (by omega) (by omega)]; exact h3
  · rw [putL_get (by omega), if_neg (by omega)]; exact h4 j j1 j2 j3 j4
/-- a node set -/
theorem Ws.set {W : List (BitVec 64)} {n : Nat} {B Nw : List (BitVec 64)} (h : Ws W n B Nw) (hn : 3 ≤ n ∧ n ≤ 10) {N : Nd} (hN : fitsN N) (old : List (Int × Int)) : Ws (setNW g64 W n N old) n (setB (setB B false (allJ old)) true (allJ N.R)) (putN N) := by
  obtain ⟨h1, h2, h3, h4⟩ := h
  have hp := putN_eight hN
  have hB : (setB (setB B false (allJ old)) true (allJ N.R)).length = 8 := by rw [setB_length, setB_length, ← h2, bwF64, blk_len (by omega)]
  have hl1 : (putL W (21 * 8) (setB (setB B false (allJ old)) true (allJ N.R))).length = 512 := by rw [putL_length (by omega)]; exact h1
  have e : setNW g64 W n N old = putL (putL W (21 * 8) (setB (setB B false (allJ old)) true (allJ N.R))) ((21 + n) * 8) (putN N) := by
    unfold setNW
    rw [h2, atN64 (by omega)]
    rfl
  rw [e]
  refine ⟨by rw [putL_length (by omega)]; exact hl1, ?_, blk_put_here hp (by omega), fun j j1 j2 j3 j4 => ?_⟩
  · rw [bwF64, blk_put_off (by omega) (by omega) (by omega), blk_put_here hB (by omega)]
  · rw [putL_get (by omega), if_neg (by omega), putL_get (by omega), if_neg (by omega)]; exact h4 j j1 j2 j3 j4
theorem same_of {W X : List (BitVec 64)} {n : Nat} (hb : blkW W 21 = blkW X 21) (hn : blkW W (21 + n) = blkW X (21 + n)) {j : Nat} (hr : ¬ (168 ≤ j ∧ j < 176) → ¬ ((21 + n) * 8 ≤ j ∧ j < (21 + n) * 8 + 8) → W[j]? = X[j]?) : W[j]? = X[j]? := by
  by_cases c1 : 168 ≤ j ∧ j < 176
  · have e1 := blk_get W 21 (j := j - 168) (by omega)
    have e2 := blk_get X 21 (j := j - 168) (by omega)
    have e := e1.symm.trans ((congrArg (fun l => l[j - 168]?) hb).trans e2)
    have hj : 21 * 8 + (j - 168) = j := by omega
    rw [hj] at e
    exact e
  by_cases c2 : (21 + n) * 8 ≤ j ∧ j < (21 + n) * 8 + 8
  · have e1 := blk_get W (21 + n) (j := j - (21 + n) * 8) (by omega)
    have e2 := blk_get X (21 + n) (j := j - (21 + n) * 8) (by omega)
    have e := e1.symm.trans ((congrArg (fun l => l[j - (21 + n) * 8]?) hn).trans e2)
    have hj : (21 + n) * 8 + (j - (21 + n) * 8) = j := by omega
    rw [hj] at e
    exact e
  · exact hr c1 c2
/-- all as it was, but for the data -/
theorem Ws.back {W : List (BitVec 64)} {n : Nat} (h : Ws W n B64 Zw) (hn : 3 ≤ n ∧ n ≤ 10) {j : Nat} (hj : j < 512) (hd : ¬ (336 ≤ j ∧ j < 504)) : W[j]? = W64[j]? :=
  same_of (n := n) (by rw [← bwF64, ← bwF64, h.bits, B64]) (by rw [h.node, (ws_start hn).node]) fun c1 c2 => h.rest j hj c1 c2 hd
end Go.Proofs.Ytcjddojcfdeflaa

/-
  The law ImageOpens.
-/
import Derived.Test.YtcjddojcfdeflaaImAD
import Derived.Test.YtcjddojcfdeflaaKxK
import Derived.Test.YtcjddojcfdeflaaEx
import Derived.Test.YtcjddojcfdeflaaIn
set_option linter.unusedSimpArgs false
set_option linter.unusedVariables false
namespace Go.Proofs.Ytcjddojcfdeflaa
open Go.RowKit Ev
def sameWI (st : St) (x y : V) (n : Nat) (a b : List (BitVec 64)) (e : Env) (s : St) : Prop := ∃ j, j ≤ n ∧ e.get 0 = some x ∧ e.get 1 = some y ∧ e.get 5 = some (.int .i64 (j : Int)) ∧ a.take j = b.take j ∧ s = st
theorem takeW_succ {a b : List (BitVec 64)} {j : Nat} {p q : BitVec 64} (h : a.take j = b.take j) (ha : a[j]? = some p) (hb : b[j]? = some q) : a.take (j + 1) = b.take (j + 1) ↔ p = q := by
  rw [List.take_add_one, List.take_add_one, ha, hb, h]
  simp
theorem zeroW_length (g : Gm) : (zeroW g).length = 8 * g.b.toNat := by unfold zeroW; rw [List.length_replicate]
structure ImgOk (g : Gm) : Prop where
  l1 : (img1 g).length = 8 * g.b.toNat
  l2 : (img2 g).length = 8 * g.b.toNat
  l3 : (img3 g).length = 8 * g.b.toNat
  l4 : (img4 g).length = 8 * g.b.toNat
  l5 : (imgW g).length = 8 * g.b.toNat
  h1 : 0 * 1 + (putH g 0#64).length ≤ (zeroW g).length
  h2 : (g.b - 1).toNat * 8 + (putH g 0#64).length ≤ (img1 g).length
  h3 : (nF g).toNat * 8 + (putN rootN).length ≤ (img2 g).length
  h4 : (nF g + 1).toNat * 8 + (putN (lostN g)).length ≤ (img3 g).length
  h5 : (1 + g.c * g.k).toNat * 8 + (takW g).length ≤ (img4 g).length
  b : 64 ≤ g.b ∧ g.b ≤ 1024
  hn : 1 + g.c * g.k ≤ nF g ∧ 16 ≤ g.c * g.k
theorem imgOk {g : Gm} (hg : isGood g) : ImgOk g := by
  have hck := ck_le hg.1
  obtain ⟨⟨hb1, hb2, hn1', hn2', hc1, hc2, hk1, hk2⟩, hdN1⟩ := id hg
  have hbn : 1 ≤ bN g ∧ bN g ≤ 2 := by unfold bN; omega
  have hbn2 : g.b ≤ 512 * bN g := by unfold bN; omega
  have hnF : nF g = 1 + g.c * g.k + bN g := rfl
  have hdF : dF g = nF g + g.n + g.n := rfl
  have hdN : dN g = g.b - 1 - dF g := rfl
  have hrl2 := putN_le rootN
  have hll2 := putN_le (lostN g)
  have htl := takW_length g
  have hH : (putH g 0#64).length = 8 := putH_length _ hg
  have z := zeroW_length g
  have a1 : 0 * 1 + (putH g 0#64).length ≤ (zeroW g).length := by omega
  have l1 : (img1 g).length = 8 * g.b.toNat := by unfold img1; rw [putL_length (by omega)]; exact z
  have a2 : (g.b - 1).toNat * 8 + (putH g 0#64).length ≤ (img1 g).length := by omega
  have l2 : (img2 g).length = 8 * g.b.toNat := by unfold img2; rw [putL_length a2]; exact l1
  have a3 : (nF g).toNat * 8 + (putN rootN).length ≤ (img2 g).length := by omega
  have l3 : (img3 g).length = 8 * g.b.toNat := by unfold img3; rw [putL_length a3]; exact l2
  have a4 : (nF g + 1).toNat * 8 + (putN (lostN g)).length ≤ (img3 g).length := by omega
  have l4 : (img4 g).length = 8 * g.b.toNat := by unfold img4; rw [putL_length a4]; exact l3
  have a5 : (1 + g.c * g.k).toNat * 8 + (takW g).length ≤ (img4 g).length := by omega
  have l5 : (imgW g).length = 8 * g.b.toNat := by unfold imgW; rw [putL_length a5]; exact l4
  exact ⟨l1, l2, l3, l4, l5, a1, a2, a3, a4, a5, ⟨hb1, hb2⟩, by omega, by omega⟩
theorem imgW_head {g : Gm} (hg : isGood g) : (imgW g).take 8 = putH g 0#64 := by
  have h := imgOk hg
  have hH : (putH g 0#64).length = 8 := putH_length _ hg
  obtain ⟨b1, b2⟩ := h.b
  obtain ⟨n1, n2⟩ := h.hn
  unfold imgW
  rw [putL_take h.h5 (by omega)]
  unfold img4
  rw [putL_take h.h4 (by omega)]
  unfold img3
  rw [putL_take h.h3 (by omega)]
  unfold img2
  rw [putL_take h.h2 (by omega)]
  unfold img1
  have := putL_here (L := zeroW g) (i := 0) (W := putH g 0#64) (by have := h.h1; omega)
  rw [List.drop_zero, hH] at this
  exact this
theorem imgW_of {g : Gm} (hg : isGood g) : ofH (g.b.toNat : Int) ((imgW g).take 8) = some (g, 0#64) := by
  rw [imgW_head hg]
  unfold ofH
  rw [getH_put 0#64 hg]
  have := (imgOk hg).b
  exact if_pos (by omega)
end Go.Proofs.Ytcjddojcfdeflaa

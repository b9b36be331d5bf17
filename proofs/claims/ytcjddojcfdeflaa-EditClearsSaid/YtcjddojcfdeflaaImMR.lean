/-
  PLAIN: ImM, ImN, ImO, ImP, ImQ, ImR, in one text.
-/
import Derived.Test.YtcjddojcfdeflaaImG
import Derived.Test.YtcjddojcfdeflaaNdBS
import Derived.Test.YtcjddojcfdeflaaDrw
set_option linter.unusedSimpArgs false
set_option linter.unusedVariables false
namespace Go.Proofs.Ytcjddojcfdeflaa
open Go.RowKit Ev
def rsetI (st : St) (x y v : V) (L : List (BitVec 64)) (yes : Bool) (l : List Int) (en : Env) (s : St) : Prop := ∃ k : Nat, k ≤ l.length ∧ en.get 0 = some x ∧ en.get 1 = some (.bool yes) ∧ en.get 2 = some v ∧ en.get 7 = some y ∧ en.get 8 = some (.int .i64 (k : Int)) ∧
  RdRow s y 1 L.length (wv (setB L yes (l.take k))) ∧ (0 < L.length → OwnRow st.nx s y 1 L.length (wv (setB L yes (l.take k)))) ∧ Ext st.nx st s
theorem putL_set {L : List (BitVec 64)} {i j : Nat} {W : List (BitVec 64)} {v : BitVec 64} (hj : W[j]? = some v) (h : i + W.length ≤ L.length) : putL L i (W.take (j + 1)) = (putL L i (W.take j)).set (i + j) v := by
  have hjl := lt_of_get hj
  have h1 : i + (W.take (j + 1)).length ≤ L.length := by rw [List.length_take]; omega
  have h2 : i + (W.take j).length ≤ L.length := by rw [List.length_take]; omega
  apply List.ext_getElem?
  intro k
  rw [putL_get h1, List.getElem?_set, putL_length h2, putL_get h2]
  simp only [List.length_take, List.getElem?_take]
  rw [show min (j + 1) W.length = j + 1 by omega, show min j W.length = j by omega]
  by_cases hk : i + j = k
  · rw [if_pos (by omega), if_pos hk, if_pos (by omega), if_pos (by omega), show k - i = j by omega]; exact hj
  · rw [if_neg hk]
    by_cases c : i ≤ k ∧ k < i + j
    · rw [if_pos (by omega), if_pos c, if_pos (by omega), if_pos (by omega)]
    · rw [if_neg (by omega), if_neg c]
theorem putL_nil (L : List (BitVec 64)) (i : Nat) : putL L i [] = L := by
  unfold putL
  rw [List.append_nil, List.length_nil, Nat.add_zero, List.take_append_drop]
def rpI (st : St) (q m n a : Nat) (w : V) (L W : List (BitVec 64)) (e : Env) (s : St) : Prop := ∃ j : Nat, j ≤ 8 ∧ e.get 0 = some (.p q 0) ∧ e.get 1 = some (.int .i64 (a : Int)) ∧ e.get 2 = some w ∧ e.get 6 = some (.sg m 0 n 1) ∧ e.get 7 = some (.int .i64 (j : Int)) ∧ OwnRow st.nx s (.sg m 0 n 1) 1 n (wv (putL L (a * 8) (W.take j))) ∧ Ext st.nx st s
/-- words put bit by bit are put at once -/
theorem putL_more {L W : List (BitVec 64)} {i k : Nat} (h : i + k + 8 ≤ L.length) (hk : k + 8 ≤ W.length) : putL (putL L i (W.take k)) (i + k) ((W.drop k).take 8) = putL L i (W.take (k + 8)) := by
  have l1 : (W.take k).length = k := by rw [List.length_take]; omega
  have l2 : ((W.drop k).take 8).length = 8 := by rw [List.length_take, List.length_drop]; omega
  have l3 : (W.take (k + 8)).length = k + 8 := by rw [List.length_take]; omega
  have h1 : i + (W.take k).length ≤ L.length := by omega
  have h2 : i + k + ((W.drop k).take 8).length ≤ (putL L i (W.take k)).length := by rw [putL_length h1]; omega
  have h3 : i + (W.take (k + 8)).length ≤ L.length := by omega
  apply List.ext_getElem?
  intro j
  rw [putL_get h2, putL_get h1, putL_get h3, l1, l2, l3]
  simp only [List.getElem?_take, List.getElem?_drop]
  by_cases c1 : i ≤ j ∧ j < i + k
  · rw [if_neg (by omega), if_pos c1, if_pos (by omega), if_pos (by omega), if_pos (by omega)]
  · rw [if_neg c1]
    by_cases c2 : i + k ≤ j ∧ j < i + k + 8
    · rw [if_pos c2, if_pos (by omega), if_pos (by omega), if_pos (by omega)]; congr 1; omega
    · rw [if_neg c2, if_neg (by omega)]
end Go.Proofs.Ytcjddojcfdeflaa
set_option linter.unusedSimpArgs false
set_option linter.unusedVariables false
namespace Go.Proofs.Ytcjddojcfdeflaa
open Go.RowKit Ev
theorem RdRow.keepQ {s s' : St} {x : V} {z n q : Nat} {l : List V} (h : RdRow s x z n l) (hn : s.nx ≤ s'.nx) (k : ∀ m, m < s.nx → m ≠ q → s'.h.get m = s.h.get m) (hq : ∀ m, rowIn x m → m ≠ q) : RdRow s' x z n l := by
  obtain ⟨h1, h2⟩ := h
  refine ⟨h1, ?_⟩
  rcases h2 with h2 | ⟨m, o, r, ty, sz, t, rfl, h3, h4, h5⟩ | ⟨m, o, ty, sz, t, rfl, h3, h4, h5⟩
  · exact .inl h2
  · exact .inr (.inl ⟨m, o, r, ty, sz, t, rfl, by omega, (k m h3 (hq m (.inl ⟨_, _, _, rfl⟩))).trans h4, h5⟩)
  · exact .inr (.inr ⟨m, o, ty, sz, t, rfl, by omega, (k m h3 (hq m (.inr ⟨_, _, _, rfl⟩))).trans h4, h5⟩)
def rbitW (g : Gm) : List (BitVec 64) := setB (List.replicate (8 * (bN g).toNat) 0#64) true (outs g g.b.toNat)
theorem rbitW_length (g : Gm) : (rbitW g).length = 8 * (bN g).toNat := by unfold rbitW; rw [setB_length, List.length_replicate]
end Go.Proofs.Ytcjddojcfdeflaa
set_option linter.unusedSimpArgs false
set_option linter.unusedVariables false
namespace Go.Proofs.Ytcjddojcfdeflaa
open Go.RowKit Ev
theorem fits_root : fitsN rootN := by decide
theorem fits_lost {g : Gm} (hg : isGood g) : fitsN (lostN g) := by
  have hck := ck_le hg.1
  obtain ⟨⟨hb1, hb2, hn1', hn2', hc1, hc2, hk1, hk2⟩, hdN1⟩ := id hg
  have hbn : 1 ≤ bN g ∧ bN g ≤ 2 := by unfold bN; omega
  have hnF : nF g = 1 + g.c * g.k + bN g := rfl
  unfold fitsN lostN
  rw [if_neg (by show ¬ (2 : Int) = 0; decide)]
  refine ⟨⟨by show (1 : Int) ≤ 2; decide, by show (2 : Int) ≤ 3; decide⟩, ⟨by show (0 : Int) ≤ 1; decide, by show (1 : Int) ≤ 16777215; decide⟩, ⟨by show 0 ≤ g.n; omega, by show g.n ≤ 1099511627776; omega⟩, by show 1 ≤ 4; decide, fun r hr => ?_⟩
  simp at hr
  subst hr
  exact ⟨⟨by show 0 ≤ nF g + g.n; omega, by show nF g + g.n ≤ 2147483648; omega⟩, by show 1 ≤ g.n; omega, by show g.n ≤ 2147483648; omega⟩
theorem putN_eight {N : Nd} (h : fitsN N) : (putN N).length = 8 := by
  unfold putN
  rw [if_pos h]
  split
  · simp
  · rw [List.length_set, bodyN, runsN_length]
def rimgW (g : Gm) : List (BitVec 64) := putL (img4 g) (bitsF g * 8) (rbitW g)
end Go.Proofs.Ytcjddojcfdeflaa
set_option linter.unusedSimpArgs false
set_option linter.unusedVariables false
namespace Go.Proofs.Ytcjddojcfdeflaa
open Go.RowKit Ev
theorem bit_word {L : List (BitVec 64)} {i k : Nat} {w : BitVec 64} (h : L[i]? = some w) (hk : k < 64) : bit L (i * 64 + k) = w.getLsbD k := by
  unfold bit
  rw [show (i * 64 + k) / 64 = i by omega, show (i * 64 + k) % 64 = k by omega, h]; rfl
theorem bit_rep (n N : Nat) : bit (List.replicate n 0#64) N = false := by
  unfold bit
  rw [List.getElem?_replicate]
  split <;> simp
theorem setB_more {n m i : Nat} {l : List Int} (hn : n ≤ m) (hi : i < n) : (setB (List.replicate n 0#64) true l)[i]? = (setB (List.replicate m 0#64) true l)[i]? := by
  have l1 : (setB (List.replicate n 0#64) true l).length = n := by rw [setB_length, List.length_replicate]
  have l2 : (setB (List.replicate m 0#64) true l).length = m := by rw [setB_length, List.length_replicate]
  obtain ⟨w1, h1⟩ : ∃ w, (setB (List.replicate n 0#64) true l)[i]? = some w := ⟨_, List.getElem?_eq_getElem (by omega)⟩
  obtain ⟨w2, h2⟩ : ∃ w, (setB (List.replicate m 0#64) true l)[i]? = some w := ⟨_, List.getElem?_eq_getElem (by omega)⟩
  rw [h1, h2]
  congr 1
  apply BitVec.eq_of_getLsbD_eq
  intro k hk
  rw [← bit_word h1 hk, ← bit_word h2 hk, bit_setB, bit_setB, bit_rep, bit_rep, List.length_replicate, List.length_replicate]
  have e1 : decide (i * 64 + k < n * 64) = true := decide_eq_true (by omega)
  have e2 : decide (i * 64 + k < m * 64) = true := decide_eq_true (by omega)
  simp only [e1, e2]
theorem setB_none {n m i : Nat} {l : List Int} (hl : ∀ x ∈ l, x < (n * 64 : Nat)) (hi : n ≤ i) (hm : i < m) : (setB (List.replicate m 0#64) true l)[i]? = some 0#64 := by
  have l2 : (setB (List.replicate m 0#64) true l).length = m := by rw [setB_length, List.length_replicate]
  obtain ⟨w2, h2⟩ : ∃ w, (setB (List.replicate m 0#64) true l)[i]? = some w := ⟨_, List.getElem?_eq_getElem (by omega)⟩
  rw [h2]
  congr 1
  apply BitVec.eq_of_getLsbD_eq
  intro k hk
  rw [← bit_word h2 hk, bit_setB, bit_rep, Bool.false_or]
  have : (l.any fun x => decide (x = ((i * 64 + k : Nat) : Int)) && decide (i * 64 + k < (List.replicate m 0#64).length * 64)) = false := by
    rw [List.any_eq_false]
    intro x hx h
    have := hl x hx
    simp only [Bool.and_eq_true, decide_eq_true_eq] at h
    omega
  rw [this]
  simp
theorem rimgW_eq {g : Gm} (hg : isGood g) : rimgW g = imgW g := by
  have h := imgOk hg
  have hck := ck_le hg.1
  obtain ⟨⟨hb1, hb2, hn1', hn2', hc1, hc2, hk1, hk2⟩, hdN1⟩ := id hg
  have hbn : 1 ≤ bN g ∧ bN g ≤ 2 := by unfold bN; omega
  have hbn2 : g.b ≤ 512 * bN g := by unfold bN; omega
  have hnF : nF g = 1 + g.c * g.k + bN g := rfl
  have hdF : dF g = nF g + g.n + g.n := rfl
  have hdN : dN g = g.b - 1 - dF g := rfl
  have htl := takW_length g
  have hrl := rbitW_length g
  have hH : (putH g 0#64).length = 8 := putH_length _ hg
  have hr2 := putN_le rootN
  have hl2 := putN_le (lostN g)
  obtain ⟨F, hF⟩ : ∃ F, F = (1 + g.c * g.k).toNat := ⟨_, rfl⟩
  have h5' : bitsF g * 8 + (rbitW g).length ≤ (img4 g).length := by rw [h.l4, hrl]; unfold bitsF; omega
  have h5 := h.h5
  unfold rimgW imgW
  apply List.ext_getElem?
  intro j
  rw [putL_get h5', putL_get h5, hrl, htl]
  unfold bitsF
  rw [← hF]
  by_cases c1 : F * 8 ≤ j ∧ j < F * 8 + (g.b.toNat + 63) / 64
  · rw [if_pos (by omega), if_pos c1]
    unfold rbitW takW
    exact (setB_more (by omega) (by omega)).symm
  · rw [if_neg c1]
    by_cases c2 : F * 8 ≤ j ∧ j < F * 8 + 8 * (bN g).toNat
    · rw [if_pos c2]
      unfold rbitW
      rw [setB_none (n := (g.b.toNat + 63) / 64) (fun x hx => by have := outs_bd g _ x hx; omega) (by omega) (by omega)]
      unfold img4
      rw [putL_get h.h4, if_neg (by omega)]
      unfold img3
      rw [putL_get h.h3, if_neg (by omega)]
      unfold img2
      rw [putL_get h.h2, if_neg (by omega)]
      unfold img1
      rw [putL_get (by have := h.h1; omega), if_neg (by omega)]
      unfold zeroW
      rw [List.getElem?_replicate, if_pos (by omega)]
    · rw [if_neg c2]
end Go.Proofs.Ytcjddojcfdeflaa
set_option linter.unusedSimpArgs false
set_option linter.unusedVariables false
namespace Go.Proofs.Ytcjddojcfdeflaa
open Go.RowKit Ev
/-- some of a row -/
theorem Gd_midC {P : Program} {c : Cx} {e : Env} {st : St} {t el n k k2 : Nat} {i i2 : IntKind} {y : V} {L : List (BitVec 64)} {x x2 : Operand} {Q : V × St → Prop} (hu : P.underlying t = some (.slice el)) (hi : infoOk P el 1 = true) (h : RdRow st y 1 n (wv L)) (hcap : CapOk y) (hv : opv e x = some (.int i (k : Int))) (hv2 : opv e x2 = some (.int i2 (k2 : Int))) (hk : k < k2) (hk2 : k2 ≤ n)
    (hQ : ∀ v, (∀ s, RdRow s y 1 n (wv L) → RdRow s v 1 (k2 - k) (wv ((L.drop k).take (k2 - k)))) → CapOk v → Q (v, st)) : Gd (sliceK P c e st t y (some x) (some x2)) Q := by
  have hwt : wv ((L.drop k).take (k2 - k)) = ((wv L).drop k).take (k2 - k) := by unfold wv; rw [List.map_take, List.map_drop]
  have hL : L.length = n := by have := h.1; simpa using this
  have hlen : (wv ((L.drop k).take (k2 - k))).length = (k2 - k) * 1 := by simp; omega
  have get : ∀ j v, (wv ((L.drop k).take (k2 - k)))[j]? = some v → (wv L)[k + j]? = some v := fun j v hj => by
    have hjk : j < k2 - k := by have := lt_of_get hj; omega
    rw [hwt, List.getElem?_take, if_pos hjk, List.getElem?_drop] at hj
    exact hj
  unfold sliceK
  rcases h.2 with ⟨_, rfl⟩ | ⟨m, o, q, ty, sz, tr, rfl, h3, h4, h5, h6⟩ | ⟨m, o, ty, sz, tr, rfl, h3, h4, h5, h6⟩
  · omega
  · have hq := hcap m o n q rfl
    rw [sliceE_midS hu hi hv hv2 m o n q hk (by omega) (fun a => some (a, st))]
    refine ⟨_, rfl, hQ _ (fun s hs => ?_) fun m' o' l' q' e => by injection e with _ _ e3 e4; omega⟩
    rcases hs.2 with ⟨e, _⟩ | ⟨m', o', q', ty', sz', tr', e, h3', h4', h5', h6'⟩ | ⟨m', o', ty', sz', tr', e, h3', h4', h5', h6'⟩
    · omega
    · injection e with e1 e2 e3 e4
      subst e1 e2 e4
      exact ⟨hlen, .inr (.inl ⟨m, o + k * 1, q - k, ty', sz', tr', rfl, h3', h4', by omega, fun j v hj => by rw [show o + k * 1 + j = o + (k + j) by omega]; exact h6' _ v (get j v hj)⟩)⟩
    · cases e
  · rw [sliceE_midG hu hi hv hv2 m o n hk hk2 (fun a => some (a, st))]
    refine ⟨_, rfl, hQ _ (fun s hs => ?_) fun m' o' l' q' e => by cases e⟩
    rcases hs.2 with ⟨e, _⟩ | ⟨m', o', q', ty', sz', tr', e, h3', h4', h5', h6'⟩ | ⟨m', o', ty', sz', tr', e, h3', h4', h5', h6'⟩
    · omega
    · cases e
    · injection e with e1 e2 e3 e4
      subst e1 e2
      exact ⟨hlen, .inr (.inr ⟨m, o + k * 1, ty', sz', tr', rfl, h3', h4', by omega, fun j v hj => by rw [show o + k * 1 + j = o + (k + j) by omega]; exact h6' _ v (get j v hj)⟩)⟩
set_option maxRecDepth 20000 in
set_option maxHeartbeats 4000000 in
theorem blockC_any (st : St) (g : Gm) (x : V) (n : Nat) (L : List (BitVec 64)) (hx : RdRow st x 1 (8 * n) (wv L)) (hcap : CapOk x) (a : Nat) (ha : a < n) (hn : n ≤ 100000) (nt : Nat) :
    Gd (callL Try.prog ⟨false, [], 0, nt⟩ 32 [.g [.int .i64 g.b, .int .i64 g.n, .int .i64 g.c, .int .i64 g.k, x], .int .i64 (a : Int)] st) fun r => RdRow r.2 r.1 1 8 (wv ((L.drop (a * 8)).take 8)) ∧ Ext st.nx st r.2 ∧ CapOk r.1 := by
  rw [Gd_callL Try.func32 rfl]
  have hone := hx.one
  have x0 := fun b => (Ext.refl st.nx st).new (Nat.le_refl _) b
  have c1 : ¬ (a : Int) < 0 := by omega
  have q1 : (((8 * n : Nat) : Int)).tdiv 8 = (n : Int) := by rw [Int.tdiv_eq_ediv_of_nonneg (by omega)]; omega
  have q1' : (8 * (n : Int)).tdiv 8 = (n : Int) := by rw [Int.tdiv_eq_ediv_of_nonneg (by omega)]; omega
  have q2 : IntKind.i64.wrap (n : Int) = (n : Int) := wrap_in (by omega) (by omega)
  have w1 : IntKind.i64.wrap ((a : Int) * 8) = ((a * 8 : Nat) : Int) := by rw [show (a : Int) * 8 = ((a * 8 : Nat) : Int) by omega]; exact wrap_in (by omega) (by omega)
  have w2 : IntKind.i64.wrap ((a : Int) + 1) = (a : Int) + 1 := wrap_in (by omega) (by omega)
  have w3 : IntKind.i64.wrap (((a : Int) + 1) * 8) = ((a * 8 + 8 : Nat) : Int) := by rw [show ((a : Int) + 1) * 8 = ((a * 8 + 8 : Nat) : Int) by omega]; exact wrap_in (by omega) (by omega)
  have c2 : ¬ (n : Int) ≤ (a : Int) := by omega
  have c2' : ¬ n ≤ a := by omega
  simp [evOp_call, sets, T.get_set, cellsOf, newC_is, loadE_eq, getC_eq, getsB_succ, getsB_zero, hone, c1, hx.lenS, q1, q1', q2, c2, c2', w1, w2, w3]
  refine Gd_midC (i := .i64) (i2 := .i64) (k := a * 8) (k2 := a * 8 + 8) un28 io39 (hx.ext (x0 _)) hcap (by simp [T.get_set]) (by simp [T.get_set]) (by omega) (by omega) fun v hv hcv => ?_
  simp [evOp_call, T.get_set]
  have h1 := hv _ (hx.ext (x0 (.cs 47 5 (((((T.lf.set 0 (V.int .i64 g.b)).set 1 (V.int .i64 g.n)).set 2 (V.int .i64 g.c)).set 3 (V.int .i64 g.k)).set 4 x))))
  rw [show a * 8 + 8 - a * 8 = 8 by omega] at h1
  exact ⟨h1, x0 _, hcv⟩

/-- a block's words -/
def blkW (L : List (BitVec 64)) (a : Nat) : List (BitVec 64) := (L.drop (a * 8)).take 8
def atN (g : Gm) (i : Nat) : Nat := (nF g + (i : Int) - 1).toNat
set_option maxRecDepth 20000 in
set_option maxHeartbeats 8000000 in
theorem inode_any (st : St) (g : Gm) (hg : isGood g) (x : V) (L : List (BitVec 64)) (hx : RdRow st x 1 (8 * g.b.toNat) (wv L)) (hcap : CapOk x) (i : Nat) (hi : 1 ≤ i ∧ (i : Int) ≤ g.n) (N : Nd) (hN : getNd (blkW L (atN g i)) = some N) (hgN : goodN g N) (hs : N.s ≤ 9223372036854775807) (nt : Nat) :
    Gd (callL Try.prog ⟨false, [], 0, nt⟩ 11 [.g [.int .i64 g.b, .int .i64 g.n, .int .i64 g.c, .int .i64 g.k, x], .int .i64 (i : Int)] st) fun r => ∃ z, r.1 = .t [ndV N z, .bool true] ∧ RdRow r.2 z 2 N.R.length (pairs N.R) ∧ (∀ m, rowIn z m → st.nx ≤ m) ∧ CapOk z ∧ Ext st.nx st r.2 := by
  rw [Gd_callL Try.func11 rfl]
  have hone := hx.one
  have hck := ck_le hg.1
  obtain ⟨⟨hb1, hb2, hn1', hn2', hc1, hc2, hk1, hk2⟩, hdN1⟩ := id hg
  have hbn : 1 ≤ bN g ∧ bN g ≤ 2 := by unfold bN; omega
  have hnF : nF g = 1 + g.c * g.k + bN g := rfl
  have hdF : dF g = nF g + g.n + g.n := rfl
  have hdN : dN g = g.b - 1 - dF g := rfl
  have gVg : V.g [V.int .i64 g.b, V.int .i64 g.n, V.int .i64 g.c, V.int .i64 g.k] = gV g := rfl
  have hat : ((atN g i : Nat) : Int) = nF g + (i : Int) - 1 := by unfold atN; omega
  simp [evOp_call, sets, T.get_set, cellsOf, newC_is, loadE_eq, getC_eq, getsB_succ, getsB_zero, hone]
  rw [gVg]
  have x0 : Ext st.nx st ⟨st.nx + 1 + 1, (st.h.set st.nx (.cs 47 5 (((((T.lf.set 0 (V.int .i64 g.b)).set 1 (V.int .i64 g.n)).set 2 (V.int .i64 g.c)).set 3 (V.int .i64 g.k)).set 4 x))).set (st.nx + 1) (.cs 33 4 (sets [V.int .i64 0, V.int .i64 0, V.int .i64 0, V.c (.slice none 0 0)] 0 .lf))⟩ := ((Ext.refl st.nx st).new (Nat.le_refl _) _).new (Nat.le_succ _) _
  refine Gd.mono (gnode_any _ [] (fun _ _ => rfl) 0 (Nat.zero_le _) g i _) ?_
  rintro ⟨r, s1⟩ ⟨hr, x1⟩
  simp only at hr x1
  rw [if_pos ⟨hg, by omega, hi.2⟩, ← hat] at hr
  subst hr
  have l1 : st.nx + 1 + 1 ≤ s1.nx := x1.le
  have k0 : s1.h.get st.nx = some (.cs 47 5 (((((T.lf.set 0 (V.int .i64 g.b)).set 1 (V.int .i64 g.n)).set 2 (V.int .i64 g.c)).set 3 (V.int .i64 g.k)).set 4 x)) := (x1.keep st.nx (by show st.nx < st.nx + 1 + 1; omega)).trans ((T.get_set_ne _ _ (show st.nx + 1 ≠ st.nx by omega)).trans (T.get_set_same _ _ _))
  have k1 : s1.h.get (st.nx + 1) = some (.cs 33 4 (sets [V.int .i64 0, V.int .i64 0, V.int .i64 0, V.c (.slice none 0 0)] 0 .lf)) := (x1.keep (st.nx + 1) (Nat.lt_succ_self _)).trans (T.get_set_same _ _ _)
  have hs1 : Ext st.nx st s1 := x0.trans (x1.mono (by show st.nx ≤ st.nx + 1 + 1; omega))
  have hne0 : ¬ ((atN g i : Nat) : Int) = 0 := by omega
  have hne0' : ¬ atN g i = 0 := by omega
  simp [evOp_call, T.get_set, hne0, hne0', loadE_eq, getC_eq, getsB_succ, getsB_zero, k0]
  refine Gd.mono (blockC_any s1 g x g.b.toNat L (hx.ext hs1) hcap (atN g i) (by omega) (by omega) _) ?_
  rintro ⟨w, s2⟩ ⟨hw, x2, hcw⟩
  simp only at hw x2 hcw
  have hl8 : (blkW L (atN g i)).length = 8 := by have := hw.1; simpa [blkW] using this
  simp [evOp_call, T.get_set]
  refine Gd.mono (nget_any s2 w (blkW L (atN g i)) (by rw [hl8]; exact hw) hcw _) ?_
  rintro ⟨r, s3⟩ ⟨⟨z, hr, hz, hzf, hzc⟩, x3⟩
  simp only at hr hz hzf hzc x3
  have hnd : ndOf (blkW L (atN g i)) = N := by unfold ndOf; rw [hN]; rfl
  rw [hnd, hN] at hr
  rw [hnd] at hz
  subst hr
  have hzo := hz.one
  have hs3 : Ext st.nx st s3 := (hs1.trans (x2.mono hs1.le)).trans (x3.mono (Nat.le_trans hs1.le x2.le))
  have ln2 := x2.le
  have ln3 := x3.le
  have k03 := (x3.keep _ (by omega)).trans ((x2.keep _ (by omega)).trans k0)
  have k13 := (x3.keep _ (by omega)).trans ((x2.keep _ (by omega)).trans k1)
  have u1 : ¬ s3.nx = st.nx := by omega
  have u2 : ¬ s3.nx = st.nx + 1 := by omega
  have hnew := fun b => (Ext.refl s3.nx s3).new (Nat.le_refl _) b
  simp [ndV, evOp_call, sets, T.get_set, newC_is, storeK_g, putB_eq, roT, cellsOf, loadE_eq, getC_eq, getsB_succ, getsB_zero, hzo, k03, u1, u2]
  have hndV : V.g [V.int .i64 N.t, V.int .i64 N.l, V.int .i64 N.s, z] = ndV N z := rfl
  rw [gVg, hndV]
  refine Gd.mono (ngood_any _ g N z (hz.ext (hnew _)) hzc hs _) ?_
  rintro ⟨r, s4⟩ ⟨hr, x4⟩
  simp only at hr x4
  rw [decide_eq_true hgN] at hr
  subst hr
  have ln4 : s3.nx + 1 ≤ s4.nx := x4.le
  have kY := x4.keep s3.nx (Nat.lt_succ_self _)
  rw [T.get_set_same] at kY
  have k14 := (x4.keep (st.nx + 1) (by show st.nx + 1 < s3.nx + 1; omega)).trans ((T.get_set_ne _ _ u2).trans k13)
  have hs4 : Ext st.nx st s4 := (hs3.trans ((hnew _).mono hs3.le)).trans (x4.mono (by show st.nx ≤ s3.nx + 1; omega))
  simp [evOp_call, sets, T.get_set, newC_is, storeK_g, putB_eq, roT, cellsOf, loadE_eq, getC_eq, getsB_succ, getsB_zero, hzo, kY, k14]
  refine ⟨?_, fun m hm => ?_, hzc, hs4.set (m := st.nx + 1) (Nat.le_succ _) (by omega) _⟩
  · refine ((hz.ext (hnew _)).ext x4).setOther (k := st.nx + 1) (fun o l q e => ?_) (fun o l q e => ?_) _
    · have := hzf (st.nx + 1) (.inr ⟨_, _, _, e⟩); omega
    · have := hzf (st.nx + 1) (.inl ⟨_, _, _, e⟩); omega
  · have := hzf m hm; omega
end Go.Proofs.Ytcjddojcfdeflaa
set_option linter.unusedSimpArgs false
set_option linter.unusedVariables false
namespace Go.Proofs.Ytcjddojcfdeflaa
open Go.RowKit Ev
set_option maxRecDepth 20000 in
set_option maxHeartbeats 4000000 in
theorem blockD_any (st : St) (g : Gm) (x : V) (n : Nat) (L : List (BitVec 64)) (hx : RdRow st x 1 (8 * n) (wv L)) (hcap : CapOk x) (a : Nat) (ha : a < n) (hn : n ≤ 100000) (nt : Nat) :
    Gd (callL Try.prog ⟨false, [], 0, nt⟩ 32 [.g [.int .i64 g.b, .int .i64 g.n, .int .i64 g.c, .int .i64 g.k, x], .int .i64 (a : Int)] st) fun r => (∀ s' : St, RdRow s' x 1 (8 * n) (wv L) → RdRow s' r.1 1 8 (wv (blkW L a))) ∧ Ext st.nx st r.2 ∧ CapOk r.1 := by
  rw [Gd_callL Try.func32 rfl]
  have hone := hx.one
  have x0 := fun b => (Ext.refl st.nx st).new (Nat.le_refl _) b
  have c1 : ¬ (a : Int) < 0 := by omega
  have q1 : (((8 * n : Nat) : Int)).tdiv 8 = (n : Int) := by rw [Int.tdiv_eq_ediv_of_nonneg (by omega)]; omega
  have q1' : (8 * (n : Int)).tdiv 8 = (n : Int) := by rw [Int.tdiv_eq_ediv_of_nonneg (by omega)]; omega
  have q2 : IntKind.i64.wrap (n : Int) = (n : Int) := wrap_in (by omega) (by omega)
  have w1 : IntKind.i64.wrap ((a : Int) * 8) = ((a * 8 : Nat) : Int) := by rw [show (a : Int) * 8 = ((a * 8 : Nat) : Int) by omega]; exact wrap_in (by omega) (by omega)
  have w2 : IntKind.i64.wrap ((a : Int) + 1) = (a : Int) + 1 := wrap_in (by omega) (by omega)
  have w3 : IntKind.i64.wrap (((a : Int) + 1) * 8) = ((a * 8 + 8 : Nat) : Int) := by rw [show ((a : Int) + 1) * 8 = ((a * 8 + 8 : Nat) : Int) by omega]; exact wrap_in (by omega) (by omega)
  have c2 : ¬ (n : Int) ≤ (a : Int) := by omega
  have c2' : ¬ n ≤ a := by omega
  simp [evOp_call, sets, T.get_set, cellsOf, newC_is, loadE_eq, getC_eq, getsB_succ, getsB_zero, hone, c1, hx.lenS, q1, q1', q2, c2, c2', w1, w2, w3]
  refine Gd_midC (i := .i64) (i2 := .i64) (k := a * 8) (k2 := a * 8 + 8) un28 io39 (hx.ext (x0 _)) hcap (by simp [T.get_set]) (by simp [T.get_set]) (by omega) (by omega) fun v hv hcv => ?_
  simp [evOp_call, T.get_set]
  refine ⟨fun s' h => ?_, x0 _, hcv⟩
  have h1 := hv s' h
  rw [show a * 8 + 8 - a * 8 = 8 by omega] at h1
  exact h1

def Zw : List (BitVec 64) := List.replicate 8 0#64
def lenR (R : List (Int × Int)) : Nat := (R.map fun r => r.2.toNat).sum
theorem lenR_take {R : List (Int × Int)} {k : Nat} {r : Int × Int} (h : R[k]? = some r) : lenR (R.take (k + 1)) = lenR (R.take k) + r.2.toNat := by
  unfold lenR
  rw [List.take_add_one, h]
  simp
theorem lenR_le {R : List (Int × Int)} (k : Nat) : lenR (R.take k) ≤ lenR R := by
  unfold lenR
  have : R.map (fun r => r.2.toNat) = (R.take k).map (fun r => r.2.toNat) ++ (R.drop k).map (fun r => r.2.toNat) := by rw [← List.map_append, List.take_append_drop]
  rw [this, List.sum_append]
  omega
def vOk (x : V) (n : Nat) (L : List (BitVec 64)) (v : V) : Prop := CapOk v ∧ ∀ s' : St, RdRow s' x 1 (8 * n) (wv L) → RdRow s' v 1 8 (wv Zw)
def okR (g : Gm) (L : List (BitVec 64)) (R : List (Int × Int)) : Prop := ∀ r ∈ R, 0 ≤ r.1 ∧ 0 ≤ r.2 ∧ r.1 + r.2 ≤ g.b ∧ ∀ k : Nat, r.1 ≤ (k : Int) → (k : Int) < r.1 + r.2 → blkW L k = Zw
def ibkB (st : St) (g : Gm) (x y z : V) (L : List (BitVec 64)) (R : List (Int × Int)) (vs : List V) (k : Nat) (e : Env) (s : St) : Prop := e.get 2 = some (.p st.nx 0) ∧ e.get 5 = some y ∧ e.get 10 = some z ∧ e.get 11 = some (.int .i64 (R.length : Int)) ∧ e.get 12 = some (.int .i64 (k : Int)) ∧ s.h.get st.nx = some (.cs 47 5 (((((T.lf.set 0 (V.int .i64 g.b)).set 1 (V.int .i64 g.n)).set 2 (V.int .i64 g.c)).set 3 (V.int .i64 g.k)).set 4 x)) ∧ st.nx + 2 ≤ s.nx ∧ Ext st.nx st s ∧ OwnRow (st.nx + 2) s y 1 vs.length vs ∧ ∀ v ∈ vs, vOk x g.b.toNat L v
def ibkO (st : St) (g : Gm) (x z : V) (L : List (BitVec 64)) (R : List (Int × Int)) (e : Env) (s : St) : Prop := ∃ (k : Nat) (vs : List V) (y : V), k ≤ R.length ∧ ibkB st g x y z L R vs k e s ∧ vs.length = lenR (R.take k)
def ibkI (st : St) (g : Gm) (x z : V) (L : List (BitVec 64)) (R : List (Int × Int)) (k : Nat) (r : Int × Int) (q : Nat) (e : Env) (s : St) : Prop := ∃ (i : Nat) (vs : List V) (y : V), i ≤ r.2.toNat ∧ ibkB st g x y z L R vs k e s ∧ vs.length = lenR (R.take k) + i ∧ e.get 7 = some (.p q 0) ∧ e.get 17 = some (.int .i64 r.2) ∧ e.get 18 = some (.int .i64 (i : Int)) ∧ (∃ t, s.h.get q = some (.cs 87 2 t) ∧ t.get 0 = some (.int .i64 r.1)) ∧ q < s.nx ∧ ∀ o ln, y ≠ .sg q o ln 1
end Go.Proofs.Ytcjddojcfdeflaa

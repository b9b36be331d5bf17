/-
  PLAIN: ImS, ImT, ImU, ImV, ImW, ImX, ImY, ImZ, ImSa, ImSb, ImF, ImSc, ImSd, in one text.
-/
import Derived.Test.YtgcpgidofikcdaaGreatDoorImMR
import Derived.Test.YtgcpgidofikcdaaGreatDoorSoAD
import Derived.Test.YtgcpgidofikcdaaGreatDoorHdRS
import Derived.Test.YtgcpgidofikcdaaGreatDoorImE
set_option linter.unusedSimpArgs false
set_option linter.unusedVariables false
namespace Go.Proofs.YtgcpgidofikcdaaGreatDoor
open Go.RowKit Ev
theorem soOf_zero : soOf Zw = ⟨0, []⟩ := by
  unfold soOf
  cases h : soGet Zw with
  | none => rfl
  | some s =>
    unfold soGet at h
    split at h
    · injection h with h
      rw [← h]
      decide +kernel
    · cases h
def zsl : Nat → List V
  | 0 => []
  | k + 1 => zsl k ++ [.int .i64 0, .s []]
theorem zsl_length : ∀ k, (zsl k).length = k * 2
  | 0 => rfl
  | k + 1 => by show (zsl k ++ _).length = _; rw [List.length_append, zsl_length k]; show _ + 2 = _; omega
theorem zsl_get : ∀ (n k : Nat), k < n → (zsl n)[k * 2 + 0]? = some (.int .i64 0) ∧ (zsl n)[k * 2 + 1]? = some (.s [])
  | 0, k, h => by omega
  | n + 1, k, h => by
    show (zsl n ++ _)[_]? = _ ∧ (zsl n ++ _)[_]? = _
    by_cases e : k < n
    · obtain ⟨h1, h2⟩ := zsl_get n k e
      rw [List.getElem?_append_left (by rw [zsl_length]; omega), List.getElem?_append_left (by rw [zsl_length]; omega)]
      exact ⟨h1, h2⟩
    · obtain rfl : k = n := by omega
      rw [List.getElem?_append_right (by rw [zsl_length]; omega), List.getElem?_append_right (by rw [zsl_length]; omega), zsl_length]
      rw [show k * 2 + 0 - k * 2 = 0 by omega, show k * 2 + 1 - k * 2 = 1 by omega]
      exact ⟨rfl, rfl⟩
def isI (b n : Nat) (rv : V) (s0 : St) (e : Env) (s : St) : Prop := ∃ (k : Nat) (y : V), k ≤ n ∧ e.get 7 = some y ∧ e.get 27 = some rv ∧ e.get 28 = some (.int .i64 (n : Int)) ∧ e.get 29 = some (.int .i64 (k : Int)) ∧ OwnRow b s y 2 k (zsl k) ∧ Ext b s0 s
set_option maxRecDepth 20000 in
set_option maxHeartbeats 8000000 in
theorem islots_any (st : St) (g : Gm) (hg : isGood g) (x : V) (L : List (BitVec 64)) (hx : RdRow st x 1 (8 * g.b.toNat) (wv L)) (hcap : CapOk x) (i : Nat) (hi : 1 ≤ i ∧ (i : Int) ≤ g.n) (N : Nd) (hN : getNd (blkW L (atN g i)) = some N) (hgN : goodN g N) (hs : N.s ≤ 9223372036854775807) (ht : N.t = 2) (hR : okR g L N.R) (hRl : N.R.length ≤ 100) (hcn : lenR N.R ≤ 100000) (nt : Nat) :
    Gd (callL Tryz.prog ⟨false, [], 0, nt⟩ 158 [.g [.int .i64 g.b, .int .i64 g.n, .int .i64 g.c, .int .i64 g.k, x], .int .i64 (i : Int)] st) fun r => RdRow r.2 r.1 2 (lenR N.R) (zsl (lenR N.R)) ∧ Ext st.nx st r.2 := by
  rw [Gd_callL Tryz.func158 rfl]
  have hone := hx.one
  simp [evOp_call, sets, T.get_set, cellsOf, newC_is, loadE_eq, getC_eq, getsB_succ, getsB_zero, hone]
  have x0 := fun b => (Ext.refl st.nx st).new (Nat.le_refl _) b
  refine Gd.mono (inode_any _ g hg x L (hx.ext (x0 _)) hcap i hi N hN hgN hs _) ?_
  rintro ⟨r, s1⟩ ⟨z, hr, hz, hzf, hzc, x1⟩
  simp only at hr hz hzf x1
  subst hr
  have hzo := hz.one
  have ln1 : st.nx + 1 ≤ s1.nx := x1.le
  have hs1 : Ext st.nx st s1 := (x0 _).trans (x1.mono (Nat.le_succ _))
  have kB := x1.keep st.nx (Nat.lt_succ_self _)
  rw [T.get_set_same] at kB
  have u1 : ¬ s1.nx = st.nx := by omega
  have hnew := fun b => (Ext.refl s1.nx s1).new (Nat.le_refl _) b
  have hs2 := fun b => hs1.trans ((hnew b).mono hs1.le)
  simp [ndV, evOp_call, sets, T.get_set, newC_is, storeK_g, putB_eq, roT, cellsOf, loadE_eq, getC_eq, getsB_succ, getsB_zero, hzo, ht, kB, u1]
  have hndV : V.g [V.int .i64 2, V.int .i64 N.l, V.int .i64 N.s, z] = ndV N z := by unfold ndV; rw [ht]
  rw [hndV]
  refine Gd.mono (iblocks_any _ g hg.1.2.1 x L (hx.ext (hs2 _)) hcap N z (hz.ext (hnew _)) hR hRl hcn _) ?_
  rintro ⟨rv, s3⟩ ⟨vs, hrv, hvl, hvs, x3⟩
  simp only at hrv x3
  have ln3 : s1.nx + 1 ≤ s3.nx := x3.le
  have hs3 : Ext st.nx st s3 := (hs2 _).trans (x3.mono (by show st.nx ≤ s1.nx + 1; omega))
  rw [← hvl]
  simp [evOp_call, T.get_set, hrv.lenS]
  refine Gd_loop (isI s3.nx vs.length rv s3) (fun e _ => muAt 29 vs.length e) ?_ ?_
  · exact ⟨0, .c (.slice none 0 0), Nat.zero_le _, by simp [T.get_set], by simp [T.get_set], by simp [T.get_set], by simp [T.get_set], OwnRow.nil _ _ _, Ext.refl _ _⟩
  rintro e s ⟨k, y, hk, g7, g27, g28, g29, hrow, hs⟩
  have hsle := hs.le
  by_cases hlt : k < vs.length
  case neg =>
    obtain rfl : k = vs.length := by omega
    simp [evOp_call, sets, T.get_set, g7, g28, g29]
    exact ⟨hrow.rd, hs3.trans (hs.mono hs3.le)⟩
  have hlt' : (k : Int) < vs.length := by omega
  have hwk := wrap_nat (n := k) (by omega)
  obtain ⟨v, hv⟩ : ∃ v, vs[k]? = some v := ⟨_, List.getElem?_eq_getElem hlt⟩
  obtain ⟨m1, o1, ty1, sz1, t1, i1, b1, k1, l1, c1⟩ := (hrv.ext hs).idx (st := s) un223 io60 hlt
  have d1 : t1.get o1 = some v := c1 0 _ (by omega) (by simpa using hv)
  obtain ⟨hvc, hvr⟩ := hvs v (List.mem_of_getElem? hv)
  have hvrow := hvr s (hx.ext (hs3.trans (hs.mono hs3.le)))
  simp [evOp_call, T.get_set, g7, g27, g28, g29, hlt', hlt, i1, loadE_eq, getC_eq, k1, d1]
  refine Gd.mono (sget_any s v Zw hvrow _) ?_
  rintro ⟨r, s4⟩ ⟨hr, x4⟩
  simp only at hr x4
  rw [soOf_zero] at hr
  subst hr
  have ln4 := x4.le
  have hnew4 := fun b => (Ext.refl s4.nx s4).new (Nat.le_refl _) b
  simp [soV, evOp_call, sets, T.get_set, newC_is, storeK_g, putB_eq, roT, cellsOf, loadE_eq, getC_eq, getsB_succ, getsB_zero]
  refine evOp_build1 (v := .g [.int .i64 0, .s []]) (cs := [.int .i64 0, .s []]) (fun k => el226 k) (fun k => ze229 k) rfl (by decide) (by simp [T.get_set]) (fun k => rfl) rfl ?_
  have x5 : ∀ b b', Ext s4.nx s4 ⟨s4.nx + 1 + 1, (s4.h.set s4.nx b).set (s4.nx + 1) b'⟩ := fun b b' => (hnew4 b).new (b := s4.nx) (Nat.le_succ _) b'
  simp [evOp_call, T.get_set, g7]
  refine Gd_append un226 un226 io229 (lx := 1) (new := [.int .i64 0, .s []]) ((hrow.ext x4).ext (x5 _ _)) (by show s3.nx ≤ s4.nx + 1 + 1; omega) (by decide) (fun s' h => by cases h) (fun k => rfl) (fun k => by simp [getC_eq, getsB_2, T.get_set, sets]) rfl (by omega) ?_
  intro w' s8 hro x9 _ _
  simp [evOp_call, T.get_set, g29, hwk]
  exact ⟨⟨k + 1, w', by omega, by simp [T.get_set], by simp [T.get_set, g27], by simp [T.get_set, g28], by simp [T.get_set], hro, (hs.trans (x4.mono hsle)).trans (((x5 _ _).mono (by omega)).trans x9)⟩, muAt_lt g29 (by simp [T.get_set]) hlt⟩
def inmI (st s1 : St) (n : Nat) (y : V) (e : Env) (s : St) : Prop := ∃ k : Nat, k ≤ n ∧ e.get 5 = some (.c (.slice none 0 0)) ∧ e.get 10 = some y ∧ e.get 11 = some (.int .i64 (n : Int)) ∧ e.get 12 = some (.int .i64 (k : Int)) ∧ Ext st.nx st s ∧ Ext s1.nx s1 s
set_option maxRecDepth 20000 in
set_option maxHeartbeats 8000000 in
theorem inames_any (st : St) (g : Gm) (hg : isGood g) (x : V) (L : List (BitVec 64)) (hx : RdRow st x 1 (8 * g.b.toNat) (wv L)) (hcap : CapOk x) (i : Nat) (hi : 1 ≤ i ∧ (i : Int) ≤ g.n) (N : Nd) (hN : getNd (blkW L (atN g i)) = some N) (hgN : goodN g N) (hs : N.s ≤ 9223372036854775807) (ht : N.t = 2) (hR : okR g L N.R) (hRl : N.R.length ≤ 100) (hcn : lenR N.R ≤ 100000) (nt : Nat) :
    Gd (callL Tryz.prog ⟨false, [], 0, nt⟩ 97 [.g [.int .i64 g.b, .int .i64 g.n, .int .i64 g.c, .int .i64 g.k, x], .int .i64 (i : Int)] st) fun r => r.1 = .c (.slice none 0 0) ∧ Ext st.nx st r.2 := by
  rw [Gd_callL Tryz.func97 rfl]
  have hone := hx.one
  simp [evOp_call, sets, T.get_set, cellsOf, newC_is, loadE_eq, getC_eq, getsB_succ, getsB_zero, hone]
  have x0 := fun b => (Ext.refl st.nx st).new (Nat.le_refl _) b
  refine Gd.mono (islots_any _ g hg x L (hx.ext (x0 _)) hcap i hi N hN hgN hs ht hR hRl hcn _) ?_
  rintro ⟨y, s1⟩ ⟨hy, x1⟩
  simp only at hy x1
  obtain ⟨n, hn⟩ : ∃ n, n = lenR N.R := ⟨_, rfl⟩
  rw [← hn] at hy hcn
  have ln1 : st.nx + 1 ≤ s1.nx := x1.le
  have hs1 : Ext st.nx st s1 := (x0 _).trans (x1.mono (Nat.le_succ _))
  simp [evOp_call, T.get_set, hy.lenS]
  refine Gd_loop (inmI st s1 n y) (fun e _ => muAt 12 n e) ?_ ?_
  · exact ⟨0, Nat.zero_le _, by simp [T.get_set], by simp [T.get_set], by simp [T.get_set], by simp [T.get_set], hs1, Ext.refl _ _⟩
  rintro e s ⟨k, hk, g5, g10, g11, g12, hxs, hs2⟩
  by_cases hlt : k < n
  case neg =>
    obtain rfl : k = n := by omega
    simp [evOp_call, sets, T.get_set, g5, g11, g12]
    exact hxs
  have hlt' : (k : Int) < n := by omega
  have hwk := wrap_nat (n := k) (by omega)
  obtain ⟨m1, o1, ty1, sz1, t1, i1, b1, k1, l1, c1⟩ := (hy.ext hs2).idx (st := s) un226 io229 hlt
  obtain ⟨z1, z2⟩ := zsl_get n k hlt
  have d1 : t1.get o1 = some (.int .i64 0) := c1 0 _ (by omega) z1
  have d2 : t1.get (o1 + 1) = some (.s []) := c1 1 _ (by omega) z2
  have hnew := fun b => (Ext.refl s.nx s).new (Nat.le_refl _) b
  simp [evOp_call, sets, T.get_set, g5, g10, g11, g12, hlt', hlt, i1, loadE_eq, getC_eq, getsB_succ, getsB_zero, k1, d1, d2, newC_is, storeK_g, putB_eq, roT, cellsOf, hwk]
  exact ⟨⟨k + 1, by omega, by simp [T.get_set, g5], by simp [T.get_set, g10], by simp [T.get_set, g11], by simp [T.get_set], hxs.trans ((hnew _).mono hxs.le), hs2.trans ((hnew _).mono hs2.le)⟩, muAt_lt g12 (by simp [T.get_set]) hlt⟩
end Go.Proofs.YtgcpgidofikcdaaGreatDoor
set_option linter.unusedSimpArgs false
set_option linter.unusedVariables false
namespace Go.Proofs.YtgcpgidofikcdaaGreatDoor
open Go.RowKit Ev
theorem blkW_eq {L W : List (BitVec 64)} {a : Nat} (hW : W.length = 8) (h : ∀ j, j < 8 → L[a * 8 + j]? = W[j]?) : blkW L a = W := by
  unfold blkW
  apply List.ext_getElem?
  intro j
  rw [List.getElem?_take]
  by_cases hj : j < 8
  · rw [if_pos hj, List.getElem?_drop]; exact h j hj
  · rw [if_neg hj, List.getElem?_eq_none (by omega)]
structure ImgAt (g : Gm) : Prop where
  root : blkW (imgW g) (atN g 1) = putN rootN
  lost : blkW (imgW g) (atN g 2) = putN (lostN g)
  free : ∀ k : Nat, nF g + 2 ≤ (k : Int) → (k : Int) < g.b - 1 → blkW (imgW g) k = Zw
theorem imgAt {g : Gm} (hg : isGood g) : ImgAt g := by
  have h := imgOk hg
  have hck := ck_le hg.1
  obtain ⟨⟨hb1, hb2, hn1', hn2', hc1, hc2, hk1, hk2⟩, hdN1⟩ := id hg
  have hbn : 1 ≤ bN g ∧ bN g ≤ 2 := by unfold bN; omega
  have hbn2 : g.b ≤ 512 * bN g := by unfold bN; omega
  have hnF : nF g = 1 + g.c * g.k + bN g := rfl
  have hdF : dF g = nF g + g.n + g.n := rfl
  have hdN : dN g = g.b - 1 - dF g := rfl
  have htl := takW_length g
  have hH : (putH g 0#64).length = 8 := putH_length _ hg
  have hr8 := putN_eight fits_root
  have hl8 := putN_eight (fits_lost hg)
  obtain ⟨F, hF⟩ : ∃ F, F = (1 + g.c * g.k).toNat := ⟨_, rfl⟩
  have h5 := h.h5
  have h4 := h.h4
  have h3 := h.h3
  have h2 := h.h2
  have h1 : 0 + (putH g 0#64).length ≤ (zeroW g).length := by have := h.h1; omega
  rw [← hF] at h5
  have get : ∀ j : Nat, (imgW g)[j]? = if F * 8 ≤ j ∧ j < F * 8 + (takW g).length then (takW g)[j - F * 8]? else if (nF g + 1).toNat * 8 ≤ j ∧ j < (nF g + 1).toNat * 8 + (putN (lostN g)).length then (putN (lostN g))[j - (nF g + 1).toNat * 8]? else if (nF g).toNat * 8 ≤ j ∧ j < (nF g).toNat * 8 + (putN rootN).length then (putN rootN)[j - (nF g).toNat * 8]? else if (g.b - 1).toNat * 8 ≤ j ∧ j < (g.b - 1).toNat * 8 + (putH g 0#64).length then (putH g 0#64)[j - (g.b - 1).toNat * 8]? else if 0 ≤ j ∧ j < 0 + (putH g 0#64).length then (putH g 0#64)[j - 0]? else (zeroW g)[j]? := fun j => by
    unfold imgW
    rw [← hF, putL_get h5]
    unfold img4
    rw [putL_get h4]
    unfold img3
    rw [putL_get h3]
    unfold img2
    rw [putL_get h2]
    unfold img1
    rw [putL_get h1]
  refine ⟨blkW_eq hr8 fun j hj => ?_, blkW_eq hl8 fun j hj => ?_, fun k hk1 hk2 => blkW_eq (by simp [Zw]) fun j hj => ?_⟩
  · unfold atN
    rw [get, if_neg (by omega), if_neg (by omega), if_pos (by omega)]
    congr 1
    omega
  · unfold atN
    rw [get, if_neg (by omega), if_pos (by omega)]
    congr 1
    omega
  · rw [get, if_neg (by omega), if_neg (by omega), if_neg (by omega), if_neg (by omega), if_neg (by omega)]
    unfold zeroW Zw
    rw [List.getElem?_replicate, List.getElem?_replicate, if_pos (by omega), if_pos hj]
theorem putN_none : putN noN = Zw := by decide +kernel
theorem fits_none : fitsN noN := by decide
/-- what each node of an empty image is -/
def nodeI (g : Gm) (i : Nat) : Nd := if i = 1 then rootN else if i = 2 then lostN g else noN
theorem node_at {g : Gm} (hg : isGood g) {i : Nat} (hi : 1 ≤ i ∧ (i : Int) ≤ g.n) : getNd (blkW (imgW g) (atN g i)) = some (nodeI g i) := by
  have h := imgAt hg
  have hck := ck_le hg.1
  obtain ⟨⟨hb1, hb2, hn1', hn2', hc1, hc2, hk1, hk2⟩, hdN1⟩ := id hg
  have hbn : 1 ≤ bN g ∧ bN g ≤ 2 := by unfold bN; omega
  have hnF : nF g = 1 + g.c * g.k + bN g := rfl
  have hdF : dF g = nF g + g.n + g.n := rfl
  have hdN : dN g = g.b - 1 - dF g := rfl
  unfold nodeI
  by_cases c1 : i = 1
  · subst c1; rw [if_pos rfl, h.root]; exact getNd_put fits_root
  · rw [if_neg c1]
    by_cases c2 : i = 2
    · subst c2; rw [if_pos rfl, h.lost]; exact getNd_put (fits_lost hg)
    · rw [if_neg c2, h.free (atN g i) (by unfold atN; omega) (by unfold atN; omega), ← putN_none]
      exact getNd_put fits_none
theorem node_good {g : Gm} (hg : isGood g) (i : Nat) : goodN g (nodeI g i) := by
  obtain ⟨⟨hb1, hb2, hn1', hn2', hc1, hc2, hk1, hk2⟩, hdN1⟩ := id hg
  obtain ⟨d1, d2, d3, d4, d5⟩ := d_le hg
  refine ⟨hg, ?_⟩
  unfold nodeI
  by_cases c1 : i = 1
  · rw [if_pos c1, if_neg (by decide)]
    refine ⟨by decide, by decide, ?_, ⟨by decide, .inr fun i hi => absurd hi (Nat.not_lt_zero _)⟩, by decide⟩
    unfold sizedN
    rw [if_pos (show rootN.t = 2 from rfl)]
    exact ⟨Int.le_refl _, by show (0 : Int) ≤ min 4096 g.b; omega⟩
  · rw [if_neg c1]
    by_cases c2 : i = 2
    · rw [if_pos c2, if_neg (by show ¬ (2 : Int) = 0; decide)]
      refine ⟨⟨by show (1 : Int) ≤ 2; decide, by show (2 : Int) ≤ 3; decide⟩, ⟨by show (1 : Int) ≤ 1; decide, by show (1 : Int) ≤ 200; decide⟩, ?_, ⟨by show 1 ≤ 4; decide, .inl ⟨rfl, rfl⟩⟩, ?_⟩
      · unfold sizedN
        rw [if_pos (show (lostN g).t = 2 from rfl)]
        exact ⟨by show 0 ≤ g.n; omega, by show g.n ≤ min 4096 g.b; omega⟩
      · show sumN [(nF g + g.n, g.n)] = needN (lostN g)
        simp [sumN, needN, lostN]
        rw [if_neg (by omega)]
        exact wrap_in (by omega) (by omega)
    · rw [if_neg c2, if_pos (show noN.t = 0 from rfl)]
      exact ⟨rfl, rfl, rfl⟩
end Go.Proofs.YtgcpgidofikcdaaGreatDoor
set_option linter.unusedSimpArgs false
set_option linter.unusedVariables false
namespace Go.Proofs.YtgcpgidofikcdaaGreatDoor
open Go.RowKit Ev
/-- a tree whose nodes have no bytes and no names -/
structure TrAt (s : St) (q m n : Nat) (K U : Nat → Int) : Prop where
  cell : ∃ tq, s.h.get q = some (.cs 95 1 tq) ∧ tq.get 0 = some (.sl m 0 (n + 1) (n + 1))
  row : ∃ t, s.h.get m = some (.cs 92 ((n + 1) * 5) t) ∧ ∀ i, i ≤ n → t.get (i * 5) = some (.int .i64 (K i)) ∧ t.get (i * 5 + 1) = some (.int .i64 (U i)) ∧ t.get (i * 5 + 2) = some (.int .i64 0) ∧ t.get (i * 5 + 3) = some (.c (.slice none 0 0)) ∧ t.get (i * 5 + 4) = some (.c (.slice none 0 0))
  lt : m < q ∧ q < s.nx
theorem TrAt.ext {s s' : St} {q m n : Nat} {K U : Nat → Int} (h : TrAt s q m n K U) (k : Ext s.nx s s') : TrAt s' q m n K U := by
  obtain ⟨⟨tq, h1, h2⟩, ⟨t, h3, h4⟩, h5, h6⟩ := h
  have := k.le
  exact ⟨⟨tq, (k.keep _ h6).trans h1, h2⟩, ⟨t, (k.keep _ (by omega)).trans h3, h4⟩, h5, by omega⟩
theorem rep_get5 {zs : List V} (hz : zs.length = 5) : ∀ (n i j : Nat), i < n → j < 5 → (rep zs n)[i * 5 + j]? = zs[j]?
  | 0, i, j, h, _ => by omega
  | n + 1, i, j, h, hj => by
    show (zs ++ rep zs n)[i * 5 + j]? = _
    cases i with
    | zero => rw [List.getElem?_append_left (by omega), Nat.zero_mul, Nat.zero_add]
    | succ i =>
      rw [List.getElem?_append_right (by omega), hz, show (i + 1) * 5 + j - 5 = i * 5 + j by omega]
      exact rep_get5 hz n i j (by omega) hj
theorem rep_len5 {zs : List V} (hz : zs.length = 5) : ∀ n, (rep zs n).length = n * 5
  | 0 => rfl
  | n + 1 => by show (zs ++ rep zs n).length = _; rw [List.length_append, hz, rep_len5 hz n]; omega
def bareR (st : St) (n : Nat) (r : V × St) : Prop := ∃ q m, r.1 = .p q 0 ∧ TrAt r.2 q m n (fun _ => 0) (fun i => if i = 1 ∨ i = 2 then 1 else 0) ∧ st.nx ≤ m ∧ Ext st.nx st r.2
set_option maxRecDepth 20000 in
set_option maxHeartbeats 4000000 in
theorem bare_any (st : St) (n : Nat) (hn : 2 ≤ n ∧ n ≤ 64) (nt : Nat) :
    Gd (callL Tryz.prog ⟨false, [], 0, nt⟩ 40 [.int .i64 (n : Int)] st) (bareR st n) := by
  rw [Gd_callL Tryz.func40 rfl]
  have w1 : IntKind.i64.wrap ((n : Int) + 1) = ((n + 1 : Nat) : Int) := wrap_nat (n := n) (by omega)
  simp only [evOp_call, sets, T.get_set, w1]
  simp [evOp_call, sets, T.get_set, w1]
  refine Gd_make (i := .i64) (i' := .i64) (n := n + 1) (q := n + 1) (zs := [.int .i64 0, .int .i64 0, .int .i64 0, .c (.slice none 0 0), .c (.slice none 0 0)]) (fun k => el93 k) io92 (fun k => ze92 k) (by simp [T.get_set]) (by simp [T.get_set]) (Nat.le_refl _) (by omega) ?_
  simp [evOp_call, sets, T.get_set, newC_is, cellsOf]
  have hn1 : ¬ st.nx + 1 = st.nx := by omega
  have hn2 : 1 < n + 1 := by omega
  have hn3 : 2 < n + 1 := by omega
  have hrl := rep_len5 (zs := [V.int .i64 0, V.int .i64 0, V.int .i64 0, V.c (.slice none 0 0), V.c (.slice none 0 0)]) rfl (n + 1)
  refine ⟨by kernel_rfl, ?_⟩
  simp [evOp_call, T.get_set, loadE_eq, getC_eq, hn1, hn2, hn3]
  have hb1 : 6 + 1 ≤ (n + 1) * 5 := by omega
  have hb2 : 11 + 1 ≤ (n + 1) * 5 := by omega
  have hb3 : 7 ≤ (n + 1) * 5 := by omega
  have hb4 : 12 ≤ (n + 1) * 5 := by omega
  have x1 := fun b b' => ((Ext.refl st.nx st).new (Nat.le_refl _) b).new (b := st.nx) (Nat.le_succ _) b'
  rw [cxOf_store (by kernel_rfl), forb_nil, putB_eq]
  simp [evOp_call, T.get_set, sets, roT, hrl, hn1, hn2, hn3, hb1, hb2, hb3, hb4]
  rw [cxOf_store (by kernel_rfl), forb_nil, putB_eq]
  simp [evOp_call, T.get_set, sets, roT, hrl, hn1, hn2, hn3, hb1, hb2, hb3, hb4]
  refine ⟨st.nx + 1, st.nx, rfl, ⟨⟨T.lf.set 0 (.sl st.nx 0 (n + 1) (n + 1)), ?_, T.get_set_same _ _ _⟩, ⟨_, T.get_set_same _ _ _, fun i hi => ?_⟩, ⟨Nat.lt_succ_self _, Nat.lt_succ_self _⟩⟩, Nat.le_refl _, (x1 _ _).set (m := st.nx) (Nat.le_refl _) (by show st.nx < st.nx + 1 + 1; omega) _⟩
  · rw [T.get_set_ne _ _ (show st.nx ≠ st.nx + 1 by omega), T.get_set_same]
  · have gz : ∀ j, j < 5 → (sets (rep [V.int .i64 0, V.int .i64 0, V.int .i64 0, V.c (.slice none 0 0), V.c (.slice none 0 0)] (n + 1)) 0 T.lf).get (i * 5 + j) = [V.int .i64 0, V.int .i64 0, V.int .i64 0, V.c (.slice none 0 0), V.c (.slice none 0 0)][j]? := fun j hj => by
      rw [get_sets, if_pos ⟨Nat.zero_le _, by rw [hrl]; omega⟩, Nat.sub_zero]
      exact rep_get5 rfl (n + 1) i j (by omega) hj
    have get : ∀ j, j < 5 → i * 5 + j ≠ 6 → i * 5 + j ≠ 11 → (((sets (rep [V.int .i64 0, V.int .i64 0, V.int .i64 0, V.c (.slice none 0 0), V.c (.slice none 0 0)] (n + 1)) 0 T.lf).set 6 (V.c (.int .i64 1))).set 11 (V.c (.int .i64 1))).get (i * 5 + j) = [V.int .i64 0, V.int .i64 0, V.int .i64 0, V.c (.slice none 0 0), V.c (.slice none 0 0)][j]? := fun j hj h1 h2 => by
      rw [T.get_set_ne _ _ (fun e => h2 e.symm), T.get_set_ne _ _ (fun e => h1 e.symm)]; exact gz j hj
    refine ⟨get 0 (by omega) (by omega) (by omega), ?_, get 2 (by omega) (by omega) (by omega), get 3 (by omega) (by omega) (by omega), get 4 (by omega) (by omega) (by omega)⟩
    by_cases c1 : i = 1
    · subst c1
      rw [T.get_set_ne _ _ (by decide), T.get_set_same]; rfl
    · by_cases c2 : i = 2
      · subst c2
        rw [T.get_set_same]; rfl
      · rw [get 1 (by omega) (by omega) (by omega)]
        simp [c1, c2]
def updN (f : Nat → Int) (k : Nat) (v : Int) : Nat → Int := fun i => if i = k then v else f i
/-- a node's kind is set -/
theorem TrAt.kind {s : St} {q m n : Nat} {K U : Nat → Int} (h : TrAt s q m n K U) (k : Nat) (hk : k ≤ n) (v : Int) {t : T V} (hm : s.h.get m = some (.cs 92 ((n + 1) * 5) t)) : TrAt ⟨s.nx, s.h.set m (.cs 92 ((n + 1) * 5) (t.set (k * 5) (.int .i64 v)))⟩ q m n (updN K k v) U := by
  obtain ⟨⟨tq, h1, h2⟩, ⟨t', h3, h4⟩, h5, h6⟩ := h
  rw [hm] at h3
  injection h3 with h3
  injection h3 with _ _ h3
  subst h3
  refine ⟨⟨tq, (T.get_set_ne _ _ (by omega)).trans h1, h2⟩, ⟨_, T.get_set_same _ _ _, fun i hi => ?_⟩, h5, h6⟩
  obtain ⟨g0, g1, g2, g3, g4⟩ := h4 i hi
  refine ⟨?_, (T.get_set_ne _ _ (by omega)).trans g1, (T.get_set_ne _ _ (by omega)).trans g2, (T.get_set_ne _ _ (by omega)).trans g3, (T.get_set_ne _ _ (by omega)).trans g4⟩
  unfold updN
  by_cases e : i = k
  · subst e; rw [if_pos rfl, T.get_set_same]
  · rw [if_neg e, T.get_set_ne _ _ (by omega)]; exact g0
def twoK : Nat → Int := updN (updN (fun _ => 0) 1 2) 2 2
def twoU : Nat → Int := fun i => if i = 1 ∨ i = 2 then 1 else 0
def treeR (st : St) (n : Nat) (r : V × St) : Prop := ∃ q m, r.1 = .p q 0 ∧ TrAt r.2 q m n twoK twoU ∧ st.nx ≤ m ∧ Ext st.nx st r.2
set_option maxRecDepth 20000 in
set_option maxHeartbeats 4000000 in
theorem new_any (st : St) (n : Nat) (hn : 2 ≤ n ∧ n ≤ 64) (nt : Nat) :
    Gd (callL Tryz.prog ⟨false, [], 0, nt⟩ 10 [.int .i64 (n : Int)] st) (treeR st n) := by
  rw [Gd_callL Tryz.func10 rfl]
  have m1 : ¬ (64 : Int) < n := by omega
  have m2 : ¬ (n : Int) < 2 := by omega
  have e1 : min (n : Int) 64 = n := by omega
  have e2 : max 2 (n : Int) = n := by omega
  simp [evOp_call, sets, T.get_set, evOp_min, evOp_max, min_i64, max_i64, m1, m2, e1, e2]
  have e3 : (if (2 : Int) < (n : Int) then (n : Int) else 2) = n := by split <;> omega
  rw [e3]
  refine Gd.mono (bare_any st n hn _) ?_
  rintro ⟨r, s1⟩ ⟨q, m, hr, hT, hm, x1⟩
  simp only at hr hT x1
  subst hr
  obtain ⟨⟨tq, h1, h2⟩, ⟨t, h3, _⟩, h5, h6⟩ := id hT
  have hq1 : ¬ m = q := by omega
  have hb1 : 6 ≤ (n + 1) * 5 := by omega
  have hb2 : 11 ≤ (n + 1) * 5 := by omega
  have hb3 : 5 + 1 ≤ (n + 1) * 5 := by omega
  have hb4 : 10 + 1 ≤ (n + 1) * 5 := by omega
  have hn2 : 1 < n + 1 := by omega
  have hn3 : 2 < n + 1 := by omega
  have hT1 := hT.kind 1 (by omega) 2 h3
  have hT2 := hT1.kind 2 (by omega) 2 (T.get_set_same _ _ _)
  simp [evOp_call, sets, T.get_set, loadE_eq, getC_eq, putB_eq, roT, h1, h2, h3, hq1, hb1, hb2, hb3, hb4, hn2, hn3]
  have hx2 : Ext st.nx st ⟨s1.nx, s1.h.set m (.cs 92 ((n + 1) * 5) ((t.set (1 * 5) (.int .i64 2)).set (2 * 5) (.int .i64 2)))⟩ := x1.set (m := m) hm (by omega) _
  refine ⟨q, m, rfl, ?_, hm, hx2⟩
  simp only [T.set_set] at hT2
  exact hT2
end Go.Proofs.YtgcpgidofikcdaaGreatDoor
set_option linter.unusedSimpArgs false
set_option linter.unusedVariables false
namespace Go.Proofs.YtgcpgidofikcdaaGreatDoor
open Go.RowKit Ev
theorem nilLen (s : St) : lenS s (V.c (.slice none 0 0)) = some (.int .i64 0, s) := (OwnRow.nil 0 s 2).rd.lenS s
abbrev partV (i : Int) : V := .g [.int .i64 i, .int .i64 2, .c (.slice none 0 0), .c (.slice none 0 0)]
set_option maxRecDepth 20000 in
set_option maxHeartbeats 2000000 in
theorem tsized_any (st : St) (i : Int) (nt : Nat) :
    Gd (callL Tryz.prog ⟨false, [], 0, nt⟩ 121 [partV i] st) fun r => r.1 = .bool true ∧ Ext st.nx st r.2 := by
  rw [Gd_callL Tryz.func121 rfl]
  simp [evOp_call, sets, T.get_set, cellsOf, newC_is, loadE_eq, getC_eq, getsB_succ, getsB_zero, nilLen]
  exact (Ext.refl st.nx st).new (Nat.le_refl _) _
set_option maxRecDepth 100000 in
set_option maxHeartbeats 8000000 in
theorem len1_any (st : St) (n : Nat) (h2 : n ≤ 1) (nt : Nat) :
    Gd (callL Tryz.prog ⟨false, [], 0, nt⟩ 187 [wd (BitVec.ofNat 64 n)] st) fun r => (∃ k : Int, r.1 = .int .i64 k) ∧ r.2 = st := by
  rw [Gd_callL Tryz.func187 rfl]
  simp [evOp_call, sets, T.get_set]
  rw [Gd_callL Tryz.func243 rfl]
  have hn : (BitVec.ofNat 64 n).toNat = n := by rw [BitVec.toNat_ofNat]; omega
  have c1 : ¬ 4294967296#64 ≤ BitVec.ofNat 64 n := by rw [BitVec.le_def, hn]; simp; omega
  have c2 : ¬ 65536#64 ≤ BitVec.ofNat 64 n := by rw [BitVec.le_def, hn]; simp; omega
  have c3 : ¬ 256#64 ≤ BitVec.ofNat 64 n := by rw [BitVec.le_def, hn]; simp; omega
  have hwu : IntKind.u8.wrap (n : Int) = (n : Int) := by
    rcases (show n = 0 ∨ n = 1 by omega) with rfl | rfl <;> decide
  have hcv : ∀ cx : Cx, convE Tryz.prog cx st 78 5 (wd (BitVec.ofNat 64 n)) = some (.int .u8 (n : Int), st) := fun cx => by
    have h := conv_int (P := Tryz.prog) (c := cx) (st := st) (src := 78) (dst := 5) (k' := .u64) (by rw [un78]; rfl) un5 ((BitVec.ofNat 64 n).toNat : Int)
    rw [hn, hwu] at h
    have e : wd (BitVec.ofNat 64 n) = .c (.int .u64 (n : Int)) := by unfold wd; rw [hn]
    rw [e]; exact h
  have hc2 : ∀ (cx : Cx) (K : Int), convE Tryz.prog cx st 5 3 (.int .u8 K) = some (.int .i64 (IntKind.i64.wrap K), st) := fun cx K => conv_int (by rw [un5]; rfl) un3 K
  have w0 : IntKind.i64.wrap 0 = 0 := by decide
  have w1 : IntKind.i64.wrap 1 = 1 := by decide
  have w2 : IntKind.i64.wrap 2 = 2 := by decide
  have w3 : IntKind.i64.wrap 3 = 3 := by decide
  have w4 : IntKind.i64.wrap 4 = 4 := by decide
  have w5 : IntKind.i64.wrap 5 = 5 := by decide
  simp [evOp_call, sets, T.get_set, c1, c2, c3, hcv]
  rcases (show n = 0 ∨ n = 1 by omega) with rfl | rfl
  · refine ⟨(.int .u8 0, st), by kernel_rfl, ?_⟩
    simp [evOp_call, sets, T.get_set, hc2, w0]
  · refine ⟨(.int .u8 1, st), by kernel_rfl, ?_⟩
    simp [evOp_call, sets, T.get_set, hc2, w1]

def in1I (x F : V) (a b : Nat) (st : St) (e : Env) (s : St) : Prop := e.get 2 = some (.int .i64 (b : Int)) ∧ e.get 8 = some (.int .i64 ((a + 1 : Nat) : Int)) ∧ s = st
set_option maxRecDepth 20000 in
set_option maxHeartbeats 4000000 in
theorem ins1_any (st : St) (x F : V) (b : Nat) (hb : b ≤ 1) (nt : Nat) : Gd (callL Tryz.prog ⟨false, [], 0, nt⟩ 234 [x, .int .i64 0, .int .i64 (b : Int), F] st) fun r => r = (.t [], st) := by
  rw [Gd_callL Tryz.func234 rfl]
  have w1 : IntKind.i64.wrap 1 = 1 := by decide
  simp [evOp_call, sets, T.get_set, w1]
  refine Gd_loop (in1I x F 0 b st) (fun e _ => 0) ?_ ?_
  · exact ⟨by simp [T.get_set], by simp [T.get_set], rfl⟩
  rintro e s ⟨g2, g8, rfl⟩
  have : ¬ (1 : Int) < b := by omega
  simp [evOp_call, T.get_set, g2, g8, this, sets]
theorem cloneN_nil (st : St) (nt : Nat) : Gd (callL Tryz.prog ⟨false, [], 0, nt⟩ 58 [.c (.slice none 0 0)] st) fun r => r = (.c (.slice none 0 0), st) := by
  rw [Gd_callL Tryz.func58 rfl]
  simp [sets, T.get_set, eql_nil un90 (OwnRow.nil 0 st 1).rd, isNil]
def pdI (f : V) (st : St) (e : Env) (s : St) : Prop := e.get 0 = some (.c (.slice none 0 0)) ∧ e.get 1 = some (.int .i64 0) ∧ e.get 2 = some (.int .i64 0) ∧ e.get 4 = some f ∧ s = st
set_option maxRecDepth 20000 in
set_option maxHeartbeats 4000000 in
theorem pdqN_nil (st : St) (k f : V) (nt : Nat) : Gd (callL Tryz.prog ⟨false, [], 0, nt⟩ 186 [.c (.slice none 0 0), .int .i64 0, .int .i64 0, k, f] st) fun r => r.2 = st := by
  rw [Gd_callL Tryz.func186 rfl]
  simp [evOp_call, sets, T.get_set]
  refine Gd_loop (pdI f st) (fun e _ => 0) ?_ ?_
  · exact ⟨by simp [T.get_set], by simp [T.get_set], by simp [T.get_set], by simp [T.get_set], rfl⟩
  rintro e s ⟨g0, g1, g2, g4, rfl⟩
  have w0 : IntKind.i64.wrap 0 = 0 := by decide
  simp [evOp_call, T.get_set, g0, g1, g2, g4, w0]
  refine Gd.mono (ins1_any s _ f 0 (by omega) _) ?_
  rintro _ rfl
  simp [evOp_call, T.get_set, sets]
theorem sortN_nil (st : St) (f : V) (nt : Nat) : Gd (callL Tryz.prog ⟨false, [], 0, nt⟩ 122 [.c (.slice none 0 0), f] st) fun r => r.2 = st := by
  rw [Gd_callL Tryz.func122 rfl]
  simp [evOp_call, sets, T.get_set, nilLen]
  refine Gd.mono (len1_any st 0 (by omega) _) ?_
  rintro ⟨r, s1⟩ ⟨⟨k, hr⟩, hs⟩
  simp only at hr hs
  subst hr hs
  simp [evOp_call, sets, T.get_set]
  refine Gd.mono (pdqN_nil s1 _ f _) ?_
  rintro ⟨r, s2⟩ hs
  simp only at hs
  subst hs
  simp [evOp_call, sets, T.get_set]
theorem slLen (m n : Nat) (s : St) : lenS s (V.sl m 0 n n) = some (.int .i64 (n : Int), s) := rfl
def tnJ (q m n : Nat) (K U : Nat → Int) (k : Nat) (s0 : St) (e : Env) (s : St) : Prop := e.get 10 = some (.sl m 0 (n + 1) (n + 1)) ∧ e.get 11 = some (.int .i64 ((n + 1 : Nat) : Int)) ∧ e.get 12 = some (.int .i64 (k : Int)) ∧ e.get 19 = some (.int .i64 0) ∧ e.get 20 = some (.int .i64 0) ∧ TrAt s q m n K U ∧ Ext s0.nx s0 s
def tnI (q m n : Nat) (K U : Nat → Int) (b : Nat) (s0 : St) (e : Env) (s : St) : Prop := ∃ k : Nat, k ≤ n + 1 ∧ e.get 10 = some (.sl m 0 (n + 1) (n + 1)) ∧ e.get 11 = some (.int .i64 ((n + 1 : Nat) : Int)) ∧ e.get 12 = some (.int .i64 (k : Int)) ∧ TrAt s q m n K U ∧ Ext b s0 s
set_option maxRecDepth 20000 in
set_option maxHeartbeats 4000000 in
theorem tname_any (st : St) (q m n : Nat) (hn : n ≤ 64) (K U : Nat → Int) (h : TrAt st q m n K U) (nt : Nat) : Gd (callL Tryz.prog ⟨false, [], 0, nt⟩ 55 [.p q 0] st) fun r => r.1 = .bool true ∧ TrAt r.2 q m n K U ∧ Ext st.nx st r.2 := by
  rw [Gd_callL Tryz.func55 rfl]
  obtain ⟨⟨tq, h1, h2⟩, _, _⟩ := id h
  simp [evOp_call, sets, T.get_set, loadE_eq, getC_eq, h1, h2, slLen]
  refine Gd_loop (tnI q m n K U st.nx st) (fun e _ => muAt 12 (n + 1) e) ?_ ?_
  · exact ⟨0, Nat.zero_le _, by simp [T.get_set], by simp [T.get_set], by simp [T.get_set], h, Ext.refl _ _⟩
  rintro e s ⟨k, hk, g10, g11, g12, hT, hs⟩
  by_cases hlt : k < n + 1
  case neg =>
    obtain rfl : k = n + 1 := by omega
    simp [evOp_call, sets, T.get_set, g11, g12]
    exact ⟨hT, hs⟩
  have hlt' : (k : Int) < (n : Int) + 1 := by omega
  have hwk := wrap_nat (n := k) (by omega)
  obtain ⟨_, ⟨t, h3, h4⟩, _, _⟩ := id hT
  obtain ⟨c0, c1, c2, c3, c4⟩ := h4 k (by omega)
  have hb : k * 5 + 5 ≤ (n + 1) * 5 := by omega
  have hnew := fun b => (Ext.refl s.nx s).new (Nat.le_refl _) b
  simp [evOp_call, sets, T.get_set, g10, g11, g12, hlt, hlt', loadE_eq, getC_eq, getsB_succ, getsB_zero, h3, c0, c1, c2, c3, c4, newC_is, storeK_g, putB_eq, roT, cellsOf, nilLen]
  have hT2 := fun b => hT.ext (hnew b)
  have hs2 := fun b => hs.trans ((hnew b).mono hs.le)
  refine Gd_loop (tnJ q m n K U k st) (fun e _ => 0) ?_ ?_
  · exact ⟨by simp [T.get_set, g10], by simp [T.get_set, g11], by simp [T.get_set, g12], by simp [T.get_set], by simp [T.get_set], hT2 _, hs2 _⟩
  rintro e2 s2 ⟨f10, f11, f12, f19, f20, hT3, hs3⟩
  simp [evOp_call, T.get_set, f10, f11, f12, f19, f20, hwk]
  exact ⟨⟨k + 1, by omega, by simp [T.get_set, f10], by simp [T.get_set, f11], by simp [T.get_set], hT3, hs3⟩, muAt_lt g12 (by simp [T.get_set]) hlt⟩
def twI (q m n : Nat) (K U : Nat → Int) (s0 : St) (e : Env) (s : St) : Prop := ∃ k : Nat, 3 ≤ k ∧ k ≤ n + 1 ∧ e.get 0 = some (.p q 0) ∧ e.get 3 = some (.int .i64 (k : Int)) ∧ TrAt s q m n K U ∧ Ext s0.nx s0 s
set_option maxRecDepth 20000 in
set_option maxHeartbeats 4000000 in
theorem twhole_any (st : St) (q m n : Nat) (hn : 2 ≤ n ∧ n ≤ 64) (K U : Nat → Int) (h : TrAt st q m n K U) (hK : ∀ i, 3 ≤ i → K i = 0) (nt : Nat) : Gd (callL Tryz.prog ⟨false, [], 0, nt⟩ 56 [.p q 0] st) fun r => r.1 = .bool true ∧ TrAt r.2 q m n K U ∧ Ext st.nx st r.2 := by
  rw [Gd_callL Tryz.func56 rfl]
  simp [evOp_call, sets, T.get_set]
  refine Gd_loop (twI q m n K U st) (fun e _ => muAt 3 (n + 1) e) ?_ ?_
  · exact ⟨3, Nat.le_refl _, by omega, by simp [T.get_set], by simp [T.get_set], h, Ext.refl _ _⟩
  rintro e s ⟨k, hk3, hk, g0, g3, hT, hs⟩
  obtain ⟨⟨tq, h1, h2⟩, ⟨t, h3, h4⟩, _, _⟩ := id hT
  by_cases hlt : k < n + 1
  case neg =>
    obtain rfl : k = n + 1 := by omega
    simp [evOp_call, sets, T.get_set, g0, g3, loadE_eq, getC_eq, h1, h2, slLen]
    exact ⟨hT, hs⟩
  have hlt' : (k : Int) < (n : Int) + 1 := by omega
  have hwk := wrap_nat (n := k) (by omega)
  obtain ⟨c0, c1, c2, c3, c4⟩ := h4 k (by omega)
  rw [hK k hk3] at c0
  have hnew := fun b => (Ext.refl s.nx s).new (Nat.le_refl _) b
  have hT2 := fun b => hT.ext (hnew b)
  have hs2 := fun b => hs.trans ((hnew b).mono hs.le)
  simp [evOp_call, sets, T.get_set, g0, g3, hlt, hlt', loadE_eq, getC_eq, getsB_succ, getsB_zero, h1, h2, h3, c0, c1, c2, c3, c4, newC_is, storeK_g, putB_eq, roT, cellsOf, slLen, hwk]
  exact ⟨⟨k + 1, by omega, by omega, by simp [T.get_set, g0], by simp [T.get_set], hT2 _, hs2 _⟩, muAt_lt g3 (by simp [T.get_set]) hlt⟩
end Go.Proofs.YtgcpgidofikcdaaGreatDoor
set_option linter.unusedSimpArgs false
set_option linter.unusedVariables false
namespace Go.Proofs.YtgcpgidofikcdaaGreatDoor
open Go.RowKit Ev
theorem cloneB_nilG (st : St) (fl : List (Nat × Nat)) (nt : Nat) : Gd (callL Tryz.prog ⟨false, fl, 0, nt⟩ 57 [.c (.slice none 0 0)] st) fun r => r = (.c (.slice none 0 0), st) := by
  rw [Gd_callL Tryz.func57 rfl]
  simp [sets, T.get_set, eql_nil un27 (OwnRow.nil 0 st 1).rd, isNil]
theorem TrAt.nils {x : Nat} {H : T B} {q m n : Nat} {K U : Nat → Int} {t : T V} (h : TrAt ⟨x, H.set m (.cs 92 ((n + 1) * 5) t)⟩ q m n K U) (k : Nat) (hk : k ≤ n) : TrAt ⟨x, H.set m (.cs 92 ((n + 1) * 5) ((t.set (k * 5 + 3) (.c (.slice none 0 0))).set (k * 5 + 4) (.c (.slice none 0 0))))⟩ q m n K U := by
  obtain ⟨⟨tq, h1, h2⟩, ⟨t', h3, h4⟩, h5, h6⟩ := h
  rw [T.get_set_same] at h3
  injection h3 with h3
  injection h3 with _ _ h3
  subst h3
  rw [T.get_set_ne _ _ (by omega)] at h1
  refine ⟨⟨tq, (T.get_set_ne _ _ (by omega)).trans h1, h2⟩, ⟨_, T.get_set_same _ _ _, fun i hi => ?_⟩, h5, h6⟩
  obtain ⟨g0, g1, g2, g3, g4⟩ := h4 i hi
  refine ⟨(T.get_set_ne _ _ (by omega)).trans ((T.get_set_ne _ _ (by omega)).trans g0), (T.get_set_ne _ _ (by omega)).trans ((T.get_set_ne _ _ (by omega)).trans g1), (T.get_set_ne _ _ (by omega)).trans ((T.get_set_ne _ _ (by omega)).trans g2), ?_, ?_⟩
  · rw [T.get_set_ne _ _ (by omega)]
    by_cases e : i = k
    · subst e; rw [T.get_set_same]
    · rw [T.get_set_ne _ _ (by omega)]; exact g3
  · by_cases e : i = k
    · subst e; rw [T.get_set_same]
    · rw [T.get_set_ne _ _ (by omega), T.get_set_ne _ _ (by omega)]; exact g4
def ltJ (q b : Nat) (s1 : St) (e : Env) (s : St) : Prop := e.get 0 = some (.p q 0) ∧ e.get 3 = some (.p b 0) ∧ e.get 5 = some (.c (.slice none 0 0)) ∧ e.get 45 = some (.int .i64 0) ∧ e.get 46 = some (.int .i64 0) ∧ s = s1
set_option maxRecDepth 20000 in
set_option maxHeartbeats 8000000 in
theorem take_any (st : St) (q m n k : Nat) (hn : n ≤ 64) (hk : 1 ≤ k ∧ k ≤ n) (K U : Nat → Int) (h : TrAt st q m n K U) (hK : K k = 0) (nt : Nat) : Gd (callL Tryz.prog ⟨false, [], 0, nt⟩ 54 [.p q 0, partV k] st) fun r => r.1 = .bool true ∧ TrAt r.2 q m n (updN K k 2) U ∧ ∀ b, b ≤ m → Ext b st r.2 := by
  rw [Gd_callL Tryz.func54 rfl]
  simp [evOp_call, sets, T.get_set, cellsOf, newC_is, loadE_eq, getC_eq, getsB_succ, getsB_zero]
  have hnew := fun b => (Ext.refl st.nx st).new (Nat.le_refl _) b
  refine ⟨by kernel_rfl, ?_⟩
  have hnew' := fun a (ha : a ≤ st.nx) b => (Ext.refl a st).new ha b
  have hT1 := fun b => h.ext (hnew b)
  obtain ⟨⟨tq, h1, h2⟩, ⟨t, h3, h4⟩, l1, l2⟩ := id h
  obtain ⟨c0, c1, c2, c3, c4⟩ := h4 k (by omega)
  rw [hK] at c0
  have u1 : ¬ st.nx = q := by omega
  have u2 : ¬ st.nx = m := by omega
  have b1 : ¬ (k : Int) < 1 := by omega
  have b2 : ¬ (n : Int) + 1 ≤ (k : Int) := by omega
  have b3 : k < n + 1 := by omega
  have hask : ∀ f : Nat → Res, asNat (V.int .i64 (k : Int)) f = f k := fun _ => rfl
  simp [evOp_call, sets, T.get_set, loadE_eq, getC_eq, getsB_succ, getsB_zero, h1, h2, h3, c0, u1, u2, b1, b2, b3, hask, slLen]
  rw [cxOf_call (by kernel_rfl) (by kernel_rfl), forb_nil]
  refine Gd.mono (tsized_any _ k _) ?_
  rintro ⟨r, s1⟩ ⟨hr, x1⟩
  simp only at hr x1
  subst hr
  have ln1 : st.nx + 1 ≤ s1.nx := x1.le
  have kP := x1.keep st.nx (Nat.lt_succ_self _)
  rw [T.get_set_same] at kP
  have hT1' := (hT1 _).ext x1
  simp [evOp_call, sets, T.get_set, loadE_eq, getC_eq, getsB_succ, getsB_zero, kP]
  refine Gd.mono (cloneN_nil s1 _) ?_
  rintro _ rfl
  simp [evOp_call, T.get_set]
  refine Gd.mono (sortN_nil s1 _ _) ?_
  rintro ⟨r, s2⟩ hs2
  simp only at hs2
  subst hs2
  simp [evOp_call, T.get_set, nilLen]
  obtain ⟨⟨tq', h1', h2'⟩, ⟨t', h3', h4'⟩, l1', l2'⟩ := id hT1'
  refine Gd_loop (ltJ q st.nx s2) (fun e _ => 0) ?_ ?_
  · exact ⟨by simp [T.get_set], by simp [T.get_set], by simp [T.get_set], by simp [T.get_set], by simp [T.get_set], rfl⟩
  rintro e s ⟨g0, g3, g5, g45, g46, rfl⟩
  simp [evOp_call, T.get_set, g45, g46]
  refine ⟨by kernel_rfl, ?_⟩
  have hown : ∀ a b : Nat, inF [(0, a), (a + 1, b)] a = false := fun a b => by simp
  simp [evOp_call, T.get_set, g0, g3, g5, loadE_eq, getC_eq, getsB_succ, getsB_zero, h1', h2', kP, b3, hask]
  refine ⟨by kernel_rfl, ?_⟩
  rw [cxOf_callL [(st.nx, st.nx + 1)] (by kernel_rfl) (by kernel_rfl) (looseW_at 82 (.p st.nx 1) (by simp [T.get_set]) (by kernel_rfl)) (fun x hx => by simp at hx; subst hx; simp [clashes_tmp, T.get_set]) (fun p hp => by simp at hp; subst hp; rw [isRo_cs kP]; decide), forb_nil]
  refine Gd.mono (cloneB_nilG s _ _) ?_
  rintro _ rfl
  simp [evOp_call, T.get_set, g5]
  rw [cxOf_store (by kernel_rfl), forb_nil, putB_eq]
  have hb1 : k * 5 + 1 ≤ (n + 1) * 5 := by omega
  have hb2 : k * 5 + 3 + 1 ≤ (n + 1) * 5 := by omega
  have hb3 : k * 5 + 4 + 1 ≤ (n + 1) * 5 := by omega
  have hb4 : k * 5 + 4 ≤ (n + 1) * 5 := by omega
  have hb5 : k * 5 + 5 ≤ (n + 1) * 5 := by omega
  simp [evOp_call, T.get_set, sets, roT, h3', hb1, hb2, hb3, hb4, hb5]
  rw [cxOf_store (by kernel_rfl), forb_nil, putB_eq]
  simp [evOp_call, T.get_set, sets, roT, h3', hb1, hb2, hb3, hb4, hb5]
  rw [cxOf_store (by kernel_rfl), forb_nil, putB_eq]
  simp [evOp_call, T.get_set, sets, roT, h3', hb1, hb2, hb3, hb4, hb5]
  have xk : ∀ b, b ≤ m → Ext b st s := fun b hb => (hnew' b (by omega) _).trans (x1.mono (by omega))
  refine ⟨(hT1'.kind k (by omega) 2 h3').nils k (by omega), fun b hb => (xk b hb).set hb (by omega) _⟩
end Go.Proofs.YtgcpgidofikcdaaGreatDoor
set_option linter.unusedSimpArgs false
set_option linter.unusedVariables false
namespace Go.Proofs.YtgcpgidofikcdaaGreatDoor
open Go.RowKit Ev
def kk : Nat → Nat → Int
  | 0 => fun _ => 0
  | 1 => updN (fun _ => 0) 1 2
  | _ => twoK
structure PartsAt (s : St) (w sz : Nat) : Prop where
  cell : ∃ ty t, s.h.get w = some (.cs ty sz t) ∧ ∀ i, i < 2 → t.get (i * 4) = some (.int .i64 ((i + 1 : Nat) : Int)) ∧ t.get (i * 4 + 1) = some (.int .i64 2) ∧ t.get (i * 4 + 2) = some (.c (.slice none 0 0)) ∧ t.get (i * 4 + 3) = some (.c (.slice none 0 0))
  lt : w < s.nx
  big : 8 ≤ sz
theorem PartsAt.ext {s s' : St} {w sz b : Nat} (h : PartsAt s w sz) (k : Ext b s s') (hb : w < b) : PartsAt s' w sz := by
  obtain ⟨⟨ty, t, h1, h2⟩, h3, h4⟩ := h
  have := k.le
  exact ⟨⟨ty, t, (k.keep _ hb).trans h1, h2⟩, by omega, h4⟩
def tbI (st : St) (w q m n : Nat) (e : Env) (s : St) : Prop := ∃ i : Nat, i ≤ 2 ∧ e.get 0 = some (.int .i64 (n : Int)) ∧ e.get 6 = some (.p q 0) ∧ e.get 17 = some (.sg w 0 2 4) ∧ e.get 18 = some (.int .i64 2) ∧ e.get 19 = some (.int .i64 (i : Int)) ∧ TrAt s q m n (kk i) twoU ∧ Ext st.nx st s
set_option maxRecDepth 20000 in
set_option maxHeartbeats 8000000 in
theorem tbuild_any (st : St) (w sz n : Nat) (hn : 2 ≤ n ∧ n ≤ 64) (hp : PartsAt st w sz) (nt : Nat) : Gd (callL Tryz.prog ⟨false, [], 0, nt⟩ 13 [.int .i64 (n : Int), .sg w 0 2 4] st) fun r => ∃ q m, r.1 = .t [.p q 0, .int .i64 0] ∧ TrAt r.2 q m n twoK twoU ∧ st.nx ≤ m ∧ Ext st.nx st r.2 := by
  rw [Gd_callL Tryz.func13 rfl]
  have b1 : ¬ (n : Int) < 2 := by omega
  have b2 : ¬ (64 : Int) < (n : Int) := by omega
  have hask : ∀ (i : Nat) (f : Nat → Res), asNat (V.int .i64 (i : Int)) f = f i := fun _ _ => rfl
  have hlen : ∀ s : St, lenS s (V.sg w 0 2 4) = some (.int .i64 2, s) := fun s => rfl
  simp [evOp_call, sets, T.get_set, b1, b2]
  refine Gd.mono (bare_any st n hn _) ?_
  rintro ⟨r, s1⟩ ⟨q, m, hr, hT, hm, x1⟩
  simp only at hr hT x1
  subst hr
  simp [evOp_call, sets, T.get_set, hlen]
  refine Gd_loop (tbI st w q m n) (fun e _ => muAt 19 2 e) ?_ ?_
  · exact ⟨0, by omega, by simp [T.get_set], by simp [T.get_set], by simp [T.get_set], by simp [T.get_set], by simp [T.get_set], hT, x1⟩
  rintro e s ⟨i, hi, g0, g6, g17, g18, g19, hT, hs⟩
  obtain ⟨⟨ty, t, p1, p2⟩, p3, p4⟩ := hp.ext hs hp.lt
  obtain ⟨⟨tq, h1, h2⟩, ⟨tm, h3, h4⟩, h5, h6⟩ := id hT
  by_cases hlt : i < 2
  case neg =>
    obtain rfl : i = 2 := by omega
    obtain ⟨a0, _⟩ := h4 1 (by omega)
    obtain ⟨a1, _⟩ := h4 2 (by omega)
    have e1 : kk 2 1 = 2 := by decide
    have e2 : kk 2 2 = 2 := by decide
    rw [e1] at a0
    rw [e2] at a1
    have b3 : 1 < n + 1 := by omega
    have b4 : 2 < n + 1 := by omega
    have b5 : 2 ≤ n := by omega
    have b6 : 1 ≤ n := by omega
    have b7 : 5 + 1 ≤ (n + 1) * 5 := by omega
    have b8 : 10 + 1 ≤ (n + 1) * 5 := by omega
    have hz : ∀ k : Nat, 3 ≤ k → kk 2 k = 0 := by
      intro k h
      show updN (updN (fun _ => 0) 1 2) 2 2 k = 0
      unfold updN
      rw [if_neg (by omega), if_neg (by omega)]
    simp at a0 a1
    simp [evOp_call, sets, T.get_set, g0, g6, g17, g18, g19, loadE_eq, getC_eq, h1, h2, h3, a0, a1, b3, b4, b5, b6, b7, b8]
    refine Gd.mono (tname_any s q m n hn.2 _ _ hT _) ?_
    rintro ⟨r, s2⟩ ⟨hr, hT2, x2⟩
    simp only at hr hT2 x2
    subst hr
    simp [evOp_call, sets, T.get_set, g6]
    refine Gd.mono (twhole_any s2 q m n hn _ _ hT2 hz _) ?_
    rintro ⟨r, s3⟩ ⟨hr, hT3, x3⟩
    simp only at hr hT3 x3
    subst hr
    simp [evOp_call, sets, T.get_set, g6]
    exact ⟨m, hT3, hm, (hs.trans (x2.mono hs.le)).trans (x3.mono (Nat.le_trans hs.le x2.le))⟩
  obtain ⟨c0, c1, c2, c3⟩ := p2 i hlt
  have hlt' : (i : Int) < 2 := by omega
  have hwk := wrap_nat (n := i) (by omega)
  have hb : i * 4 + 4 ≤ sz := by omega
  have hnew := fun b => (Ext.refl s.nx s).new (Nat.le_refl _) b
  simp [evOp_call, sets, T.get_set, g0, g6, g17, g18, g19, hlt, hlt', loadE_eq, getC_eq, getsB_succ, getsB_zero, p1, c0, c1, c2, c3, newC_is, storeK_g, putB_eq, roT, cellsOf, hb, hwk, hask]
  refine Gd.mono (take_any _ q m n (i + 1) hn.2 ⟨by omega, by omega⟩ (kk i) twoU (hT.ext (hnew _)) (by
    rcases (show i = 0 ∨ i = 1 by omega) with rfl | rfl <;> decide) _) ?_
  rintro ⟨r, s2⟩ ⟨hr, hT2, x2⟩
  simp only at hr hT2 x2
  subst hr
  simp [evOp_call, sets, T.get_set, g0, g6, g17, g18, g19, hwk]
  have ek : updN (kk i) (i + 1) 2 = kk (i + 1) := by
    rcases (show i = 0 ∨ i = 1 by omega) with rfl | rfl <;> rfl
  rw [ek] at hT2
  exact ⟨⟨i + 1, by omega, by simp [T.get_set, g0], by simp [T.get_set, g6], by simp [T.get_set, g17], by simp [T.get_set, g18], by simp [T.get_set], hT2, (hs.trans ((hnew _).mono hs.le)).trans (x2 st.nx hm)⟩, muAt_lt g19 (by simp [T.get_set]) hlt⟩
end Go.Proofs.YtgcpgidofikcdaaGreatDoor
set_option linter.unusedSimpArgs false
set_option linter.unusedVariables false
namespace Go.Proofs.YtgcpgidofikcdaaGreatDoor
open Go.RowKit Ev
noncomputable def itF : CallF := addF Tryz.prog (callL Tryz.prog) 34
theorem itF_both : CallSound Tryz.prog itF ∧ HasBody Tryz.prog itF := addF_both namesOkT mixesT _ (callL_both namesOkT mixesT)
structure TwoDirs (g : Gm) (L : List (BitVec 64)) : Prop where
  node : ∀ i : Nat, 1 ≤ i → (i : Int) ≤ g.n → ∃ N, getNd (blkW L (atN g i)) = some N ∧ goodN g N ∧ N.s ≤ 9223372036854775807 ∧ N.t = (if i = 1 ∨ i = 2 then 2 else 0) ∧ okR g L N.R ∧ N.R.length ≤ 100 ∧ lenR N.R ≤ 100000
def pk : Nat → List V
  | 0 => []
  | 1 => [.int .i64 1, .int .i64 2, .c (.slice none 0 0), .c (.slice none 0 0)]
  | _ => [.int .i64 1, .int .i64 2, .c (.slice none 0 0), .c (.slice none 0 0), .int .i64 2, .int .i64 2, .c (.slice none 0 0), .c (.slice none 0 0)]
def pj (k : Nat) : Nat := if k ≤ 1 then 0 else if k = 2 then 1 else 2
theorem parts_of {b : Nat} {s : St} {y : V} (h : OwnRow b s y 4 2 (pk 2)) : ∃ w sz, y = .sg w 0 2 4 ∧ ∃ t ty, s.h.get w = some (.cs ty sz t) ∧ w < s.nx ∧ 8 ≤ sz ∧ ∀ j v, (pk 2)[j]? = some v → t.get j = some v := by
  obtain ⟨_, ⟨_, h⟩ | ⟨m, ty, t, rfl, h1, h2, h3, h4, h5⟩⟩ := h
  · cases h
  · exact ⟨m, _, rfl, t, ty, h3, h2, by omega, h5⟩
def itI (st : St) (g : Gm) (x : V) (L : List (BitVec 64)) (e : Env) (s : St) : Prop := ∃ (k : Nat) (y : V) (t : T V), 1 ≤ k ∧ (k : Int) ≤ g.n + 1 ∧ e.get 1 = some (.p st.nx 0) ∧ e.get 4 = some y ∧ e.get 5 = some (.int .i64 (k : Int)) ∧ OwnRow (st.nx + 1) s y 4 (pj k) (pk (pj k)) ∧ s.h.get st.nx = some (.cs 65 5 t) ∧ t.get 0 = some (.int .i64 g.b) ∧ t.get 1 = some (.int .i64 g.n) ∧ t.get 2 = some (.int .i64 g.c) ∧ t.get 3 = some (.int .i64 g.k) ∧ t.get 4 = some x ∧ RdRow s x 1 (8 * g.b.toNat) (wv L) ∧ Ext st.nx st s ∧ st.nx + 1 ≤ s.nx
set_option maxRecDepth 20000 in
set_option maxHeartbeats 8000000 in
theorem itree_any (st : St) (g : Gm) (hg : isGood g) (hn : 2 ≤ g.n ∧ g.n ≤ 64) (x : V) (L : List (BitVec 64)) (hx : RdRow st x 1 (8 * g.b.toNat) (wv L)) (hcap : CapOk x) (hL : TwoDirs g L) (nt : Nat) :
    Gd (itF ⟨false, [], 0, nt⟩ 34 [.g [.int .i64 g.b, .int .i64 g.n, .int .i64 g.c, .int .i64 g.k, x]] st) fun r => ∃ q m, r.1 = .t [.p q 0, .int .i64 0] ∧ TrAt r.2 q m g.n.toNat twoK twoU ∧ st.nx ≤ m ∧ Ext st.nx st r.2 := by
  rw [itF, Gd_addF Tryz.func34 rfl]
  have hone := hx.one
  have x0 := fun b => (Ext.refl st.nx st).new (Nat.le_refl _) b
  simp [evOp_call, sets, T.get_set, cellsOf, newC_is, loadE_eq, getC_eq, getsB_succ, getsB_zero, hone]
  refine Gd_loop (itI st g x L) (fun e _ => muAt 5 (g.n.toNat + 1) e) ?_ ?_
  · exact ⟨1, .c (.slice none 0 0), _, Nat.le_refl _, by omega, by simp [T.get_set], by simp [T.get_set], by simp [T.get_set], OwnRow.nil _ _ 4, T.get_set_same _ _ _, by simp [T.get_set], by simp [T.get_set], by simp [T.get_set], by simp [T.get_set], by simp [T.get_set], hx.ext (x0 _), x0 _, Nat.le_refl _⟩
  rintro e s ⟨k, y, t, hk1, hk2, g1, g4, g5, hy, hb, t0, t1, t2, t3, t4, hx', hs, hl⟩
  by_cases hlt : (k : Int) ≤ g.n
  case neg =>
    have hk : (k : Int) = g.n + 1 := by omega
    have e2 : pj k = 2 := by unfold pj; rw [if_neg (by omega), if_neg (by omega)]
    rw [e2] at hy
    obtain ⟨w, sz, rfl, tw, ty, p1, p2, p3, p4⟩ := parts_of hy
    simp [evOp_call, sets, T.get_set, g1, g4, g5, loadE_eq, getC_eq, getsB_succ, getsB_zero, hb, t0, t1, t2, t3, t4, hlt]
    have hgn : ((g.n.toNat : Nat) : Int) = g.n := by omega
    have hB := tbuild_any s w sz g.n.toNat (by omega) ⟨⟨ty, tw, p1, fun i hi => by
      rcases (show i = 0 ∨ i = 1 by omega) with rfl | rfl
      · exact ⟨p4 0 _ rfl, p4 1 _ rfl, p4 2 _ rfl, p4 3 _ rfl⟩
      · exact ⟨p4 4 _ rfl, p4 5 _ rfl, p4 6 _ rfl, p4 7 _ rfl⟩⟩, p2, p3⟩ 52
    rw [hgn] at hB
    refine Gd.mono hB ?_
    rintro ⟨r, s1⟩ ⟨q, m, hr, hT, hm, x1⟩
    simp only at hr hT x1
    subst hr
    simp [evOp_call, sets, T.get_set]
    exact ⟨m, hT, by omega, hs.trans (x1.mono hs.le)⟩
  obtain ⟨N, n1, n2, n3, n4, n5, n6, n7⟩ := hL.node k hk1 hlt
  have hone' := hx'.one
  simp [evOp_call, sets, T.get_set, g1, g4, g5, loadE_eq, getC_eq, getsB_succ, getsB_zero, hb, t0, t1, t2, t3, t4, hlt, hone']
  refine Gd.mono (inode_any s g hg x L hx' hcap k ⟨hk1, hlt⟩ N n1 n2 n3 _) ?_
  rintro ⟨r, s1⟩ ⟨z, hr, hz, hzf, hzc, x1⟩
  simp only at hr hz hzf x1
  subst hr
  have hzo := hz.one
  simp [evOp_call, sets, T.get_set, g1, g4, g5, cellsOf, newC_is, loadE_eq, getC_eq, getsB_succ, getsB_zero, ndV, hzo, storeK_g, putB_eq, roT]
  by_cases hd : k = 1 ∨ k = 2
  · rw [if_pos hd] at n4
    simp [evOp_call, sets, T.get_set, n4]
    refine ⟨by kernel_rfl, ?_⟩
    have hown : ∀ a b : Nat, inF [(0, a), (a + 1, b)] a = false := fun a b => by simp
    have hb1 : s1.h.get st.nx = _ := (x1.keep _ (by omega)).trans hb
    have hl1 := x1.le
    have hnb : ¬ s1.nx = st.nx := by omega
    simp [evOp_call, sets, T.get_set, n4, g1, g4, g5, loadE_eq, getC_eq, getsB_succ, getsB_zero, hb1, hnb, t0, t1, t2, t3, t4, hone', hl1]
    have hxb : ∀ m, rowIn x m → m < st.nx := fun m hm => by
      rcases hm with ⟨_, _, _, e⟩ | ⟨_, _, _, e⟩
      · exact hx.lt_of.2 _ _ _ _ e
      · exact hx.lt_of.1 _ _ _ _ e
    have hxi : ∀ m, rowIn x m → inF [(s1.nx, s1.nx + 1), (st.nx, st.nx + 1)] m = false := fun m hm => by
      have := hxb m hm
      rw [inF_cons, if_neg (by omega), inF_cons, if_neg (by omega)]
      rfl
    rw [cxOf_callL [(s1.nx, s1.nx + 1), (st.nx, st.nx + 1)] (by kernel_rfl) (by kernel_rfl) (looseW_at2 30 1 (.p s1.nx 0) (.p st.nx 0) (by simp [T.get_set]) (by simp [T.get_set, g1]) (by kernel_rfl)) (fun x hx => by simp at hx; rcases hx with rfl | rfl <;> simp [clashes_tmp, T.get_set, g5]) (fun p hp => by
      simp at hp
      rcases hp with rfl | rfl
      · rw [isRo_cs (T.get_set_same _ _ _)]; decide
      · rw [isRo_cs ((T.get_set_ne _ _ hnb).trans hb1)]; decide), forb_nil]
    have x2 := fun b => x1.new hl1 b
    refine Gd_lift (R := fun v s' => v = .c (.slice none 0 0)) (Gd.mono (icontent_any _ g hg x L ((hx'.ext (x2 _)).er hxi) hcap k ⟨hk1, hlt⟩ N n1 n2 n3 n4 _) fun r h => h) ?_
    rintro v s2 s3 rfl _ x3
    have kb2 : s3.h.get st.nx = _ := (x3.keep st.nx (by show st.nx < s1.nx + 1; omega)).trans ((T.get_set_ne _ _ hnb).trans hb1)
    have kc2 : s3.h.get s1.nx = _ := (x3.keep s1.nx (Nat.lt_succ_self _)).trans (T.get_set_same _ _ _)
    have l3 : s1.nx + 1 ≤ s3.nx := x3.le
    have hll : st.nx < s1.nx + 1 := by omega
    simp [evOp_call, sets, T.get_set, g1, g5, loadE_eq, getC_eq, getsB_succ, getsB_zero, kb2, t0, t1, t2, t3, t4, hone', inF_ld hll]
    have x4 := (x2 _).trans (x3.mono (Nat.le_trans hl1 (Nat.le_succ _)))
    have hxi2 : ∀ m, rowIn x m → inF [(s1.nx, s1.nx + 1)] m = false := fun m hm => by
      have := hxb m hm
      rw [inF_cons, if_neg (by omega)]
      rfl
    rw [cxOf_callL [(s1.nx, s1.nx + 1)] (by kernel_rfl) (by kernel_rfl) (looseW_at 30 (.p s1.nx 0) (by simp [T.get_set]) (by kernel_rfl)) (fun x hx => by simp at hx; rcases hx with rfl | rfl <;> simp [clashes_tmp, T.get_set, g5]) (fun p hp => by
      simp at hp
      subst hp
      rw [isRo_cs kc2]; decide), forb_rsOf (by kernel_rfl)]
    refine Gd_lift (R := fun v s' => v = .c (.slice none 0 0)) (Gd.mono (inames_any _ g hg x L ((hx'.ext x4).er hxi2) hcap k ⟨hk1, hlt⟩ N n1 n2 n3 n4 n5 n6 n7 _) fun r h => h) ?_
    rintro v s4 s5 rfl _ x5
    simp [evOp_call, sets, T.get_set]
    refine evOp_build1 (v := .g [.int .i64 (k : Int), .int .i64 2, .c (.slice none 0 0), .c (.slice none 0 0)]) (cs := [.int .i64 (k : Int), .int .i64 2, .c (.slice none 0 0), .c (.slice none 0 0)]) (fun k => el36 k) (fun k => ze104 k) rfl (by omega) (by simp [T.get_set]) (fun k => rfl) rfl ?_
    simp [evOp_call, T.get_set]
    rw [cxOf_call (by kernel_rfl) (by kernel_rfl), forb_cons (by kernel_rfl) (forb_step (by kernel_rfl) (forb_step (by kernel_rfl) rfl))]
    have hfr := AppRow.from (.inl hy)
    have x6 := x4.trans (x5.mono (Nat.le_trans hl1 (Nat.le_trans (Nat.le_succ _) l3)))
    have l5 : s3.nx ≤ s5.nx := x5.le
    have hnew := fun b => (Ext.refl s5.nx s5).new (Nat.le_refl _) b
    have x7 := fun b => x6.trans ((hnew b).mono x6.le)
    have hln : (pk (pj k)).length = pj k * 4 := hy.1
    have hj1 : pj k ≤ 2 := by unfold pj; split <;> (try split) <;> omega
    refine Gd_appendL un36 un36 io104 (n := pj k) (lx := 1) (new := [.int .i64 (k : Int), .int .i64 2, .c (.slice none 0 0), .c (.slice none 0 0)]) (hy.ext (x7 _)) (fun m o ln e => rfl) (by show st.nx + 1 ≤ s5.nx + 1; omega) (by decide) (fun s' h => by cases h) (fun k => rfl) (fun k => by simp [getC_eq, getsB_succ, getsB_zero, T.get_set, sets, firsts]) rfl (by omega) ?_
    intro y' s6 ho he _ _
    have hwk : IntKind.i64.wrap ((k : Int) + 1) = ((k + 1 : Nat) : Int) := wrap_nat (n := k) (by omega)
    have e3 : pj (k + 1) = pj k + 1 ∧ pk (pj k + 1) = pk (pj k) ++ [.int .i64 (k : Int), .int .i64 2, .c (.slice none 0 0), .c (.slice none 0 0)] := by
      rcases hd with rfl | rfl <;> exact ⟨rfl, rfl⟩
    have kb6 : s6.h.get st.nx = some (.cs 65 5 t) := (he.keep _ (Nat.lt_succ_self _)).trans (((x7 _).keep _ (by omega)).trans hb)
    have hs6 : Ext st.nx st s6 := (hs.trans ((x7 _).mono hs.le)).trans (he.mono (Nat.le_succ _))
    have hl6 : s5.nx + 1 ≤ s6.nx := he.le
    simp [evOp_call, sets, T.get_set, g1, g5, hwk]
    refine ⟨⟨k + 1, y', t, by omega, by omega, by simp [T.get_set, g1], by simp [T.get_set], by simp [T.get_set], by rw [e3.1, e3.2]; exact ho, kb6, t0, t1, t2, t3, t4, hx.ext hs6, hs6, by omega⟩, ?_⟩
    exact muAt_lt g5 (by simp [T.get_set]) (by omega)
  · rw [if_neg hd] at n4
    have hwk : IntKind.i64.wrap ((k : Int) + 1) = ((k + 1 : Nat) : Int) := wrap_nat (n := k) (by omega)
    have e3 : pj (k + 1) = pj k := by unfold pj; rw [if_neg (by omega), if_neg (by omega), if_neg (by omega), if_neg (by omega)]
    have hl1 := x1.le
    have x2 := fun b => x1.new (Nat.le_trans (Nat.le_refl _) hl1) b
    simp [evOp_call, sets, T.get_set, n4, g1, g4, g5, hwk]
    refine ⟨⟨k + 1, y, t, by omega, by omega, by simp [T.get_set, g1], by simp [T.get_set, g4], by simp [T.get_set], by rw [e3]; exact hy.ext (x2 _), ((x2 _).keep _ (by omega)).trans hb, t0, t1, t2, t3, t4, hx'.ext (x2 _), hs.trans ((x2 _).mono hs.le), Nat.le_trans hl (x2 .. ).le⟩, ?_⟩
    exact muAt_lt g5 (by simp [T.get_set]) (by omega)
end Go.Proofs.YtgcpgidofikcdaaGreatDoor
set_option linter.unusedSimpArgs false
set_option linter.unusedVariables false
namespace Go.Proofs.YtgcpgidofikcdaaGreatDoor
open Go.RowKit Ev
theorem imgW_dirs {g : Gm} (hg : isGood g) : TwoDirs g (imgW g) := by
  have h := imgAt hg
  obtain ⟨⟨hb1, hb2, hn1', hn2', hc1, hc2, hk1, hk2⟩, hdN1⟩ := id hg
  obtain ⟨d1, d2, d3, d4, d5⟩ := d_le hg
  have hck := ck_le hg.1
  have hbn : 1 ≤ bN g ∧ bN g ≤ 2 := by unfold bN; omega
  have hnF : nF g = 1 + g.c * g.k + bN g := rfl
  have hdF : dF g = nF g + g.n + g.n := rfl
  have hdN : dN g = g.b - 1 - dF g := rfl
  refine ⟨fun i h1 h2 => ⟨nodeI g i, node_at hg ⟨h1, h2⟩, node_good hg i, ?_, ?_, ?_, ?_, ?_⟩⟩ <;> unfold nodeI <;> by_cases c1 : i = 1
  · rw [if_pos c1]; decide
  · rw [if_neg c1]
    by_cases c2 : i = 2
    · rw [if_pos c2]; show g.n ≤ _; omega
    · rw [if_neg c2]; decide
  · rw [if_pos c1, if_pos (.inl c1)]; rfl
  · rw [if_neg c1]
    by_cases c2 : i = 2
    · rw [if_pos c2, if_pos (.inr c2)]; rfl
    · rw [if_neg c2, if_neg (by omega)]; rfl
  · rw [if_pos c1]; intro r hr; cases hr
  · rw [if_neg c1]
    by_cases c2 : i = 2
    · rw [if_pos c2]
      intro r hr
      have hr' : r ∈ [(nF g + g.n, g.n)] := hr
      rw [List.mem_singleton] at hr'
      subst hr'
      refine ⟨by show 0 ≤ nF g + g.n; omega, by show 0 ≤ g.n; omega, by show nF g + g.n + g.n ≤ g.b; omega, fun k k1 k2 => h.free k ?_ ?_⟩
      · have : nF g + g.n ≤ (k : Int) := k1
        omega
      · have : (k : Int) < nF g + g.n + g.n := k2
        omega
    · rw [if_neg c2]; intro r hr; cases hr
  · rw [if_pos c1]; decide
  · rw [if_neg c1]
    by_cases c2 : i = 2
    · rw [if_pos c2]; show 1 ≤ 100; decide
    · rw [if_neg c2]; decide
  · rw [if_pos c1]; decide
  · rw [if_neg c1]
    by_cases c2 : i = 2
    · rw [if_pos c2]
      simp [lenR, lostN]
      omega
    · rw [if_neg c2]; decide
end Go.Proofs.YtgcpgidofikcdaaGreatDoor
set_option linter.unusedSimpArgs false
set_option linter.unusedVariables false
namespace Go.Proofs.YtgcpgidofikcdaaGreatDoor
open Go.RowKit Ev
/-- a function's value called -/
noncomputable def funK (P : Program) (F : CallF) (c : Cx) (v : V) (args : List V) (st : St) : Res := match v with
  | .f (.func f) first caps => (match ext? P f with
    | some g => (match extE P g (first ++ args ++ caps) st with | some r => some r | none => extS P c f (first ++ args ++ caps) st)
    | none => F c f (first ++ args ++ caps) st)
  | _ => none
theorem funK_f' {P : Program} {F : CallF} {c : Cx} {f : Nat} (h : ext? P f = none) (args : List V) (st : St) : funK P F c (.f (.func f) [] []) args st = F c f args st := by
  unfold funK
  simp [h]
theorem evOp_callV' {P : Program} {F : CallF} {c : Cx} {e : Env} {st : St} {d : Option Nat} {ty : TypeId} {p : String} {af : Array Edge} {g : Option (Nat × Bool)} (q : Nat) (args : Array Operand) (ats : Array TypeId) : evOp P F c e st ⟨d, .call ⟨.value (.tmp q), args, ats⟩, ty, p, af, g⟩ = opds e args.toList fun args => opd e (.tmp q) fun f => funK P F c f args st := rfl
def eqnI (st : St) (e : Env) (s : St) : Prop := s = st ∧ e.get 12 = some (.int .i64 0) ∧ e.get 13 = some (.int .i64 0)
theorem eqN_nil (st : St) (nt : Nat) : Gd (callL Tryz.prog ⟨false, [], 0, nt⟩ 62 [.c (.slice none 0 0), .c (.slice none 0 0)] st) fun r => r = (.bool true, st) := by
  rw [Gd_callL Tryz.func62 rfl]
  simp [evOp_call, sets, T.get_set, nilLen]
  refine Gd_loop (eqnI st) (fun e _ => 0) ?_ ?_
  · exact ⟨rfl, by simp [T.get_set], by simp [T.get_set]⟩
  rintro e s ⟨rfl, g12, g13⟩
  simp [evOp_call, T.get_set, g12, g13]
theorem convNil (c : Cx) (st : St) : convE Tryz.prog c st 27 9 (.c (.slice none 0 0)) = some (.s [], st) := by kernel_rfl
theorem eqB_nil (st : St) (nt : Nat) : Gd (callL Tryz.prog ⟨false, [], 0, nt⟩ 61 [.c (.slice none 0 0), .c (.slice none 0 0)] st) fun r => r = (.bool true, st) := by
  rw [Gd_callL Tryz.func61 rfl]
  simp [evOp_call, sets, T.get_set, nilLen, convNil]
abbrev entV (a b : Int) : V := .g [.int .i64 a, .int .i64 b, .int .i64 0, .c (.slice none 0 0), .c (.slice none 0 0)]
set_option maxRecDepth 20000 in
set_option maxHeartbeats 2000000 in
theorem same1_any (st : St) (a b b' : Int) (nt : Nat) : Gd (callL Tryz.prog ⟨false, [], 0, nt⟩ 60 [entV a b, entV a b'] st) fun r => r.1 = .bool true ∧ Ext st.nx st r.2 := by
  rw [Gd_callL Tryz.func60 rfl]
  have x1 := fun b b' => ((Ext.refl st.nx st).new (Nat.le_refl _) b).new (b := st.nx) (Nat.le_succ _) b'
  have hn1 : ¬ st.nx + 1 = st.nx := by omega
  simp [evOp_call, sets, T.get_set, cellsOf, newC_is, loadE_eq, getC_eq, getsB_succ, getsB_zero, hn1]
  refine Gd.mono (eqB_nil _ _) ?_
  rintro _ rfl
  simp [evOp_call, sets, T.get_set, cellsOf, newC_is, loadE_eq, getC_eq, getsB_succ, getsB_zero, hn1]
  refine Gd.mono (eqN_nil _ _) ?_
  rintro _ rfl
  simp [evOp_call, sets, T.get_set]
  exact x1 _ _
def esI (st : St) (m m' n : Nat) (f : V) (e : Env) (s : St) : Prop := ∃ k : Nat, k ≤ n + 1 ∧ e.get 1 = some (.sl m' 0 (n + 1) (n + 1)) ∧ e.get 2 = some f ∧ e.get 15 = some (.sl m 0 (n + 1) (n + 1)) ∧ e.get 16 = some (.int .i64 ((n + 1 : Nat) : Int)) ∧ e.get 17 = some (.int .i64 (k : Int)) ∧ Ext st.nx st s
set_option maxRecDepth 20000 in
set_option maxHeartbeats 4000000 in
theorem eqF_any (st : St) (q m q' m' n : Nat) (hn : n ≤ 64) (K U U' : Nat → Int) (h : TrAt st q m n K U) (h' : TrAt st q' m' n K U') (nt : Nat) : Gd (callL Tryz.prog ⟨false, [], 0, nt⟩ 59 [.sl m 0 (n + 1) (n + 1), .sl m' 0 (n + 1) (n + 1), .f (.func 60) [] []] st) fun r => r.1 = .bool true ∧ Ext st.nx st r.2 := by
  rw [Gd_callL Tryz.func59 rfl]
  have hask : ∀ (i : Nat) (f : Nat → Res), asNat (V.int .i64 (i : Int)) f = f i := fun _ _ => rfl
  simp [evOp_call, sets, T.get_set, slLen]
  refine Gd_loop (esI st m m' n (.f (.func 60) [] [])) (fun e _ => muAt 17 (n + 1) e) ?_ ?_
  · exact ⟨0, by omega, by simp [T.get_set], by simp [T.get_set], by simp [T.get_set], by simp [T.get_set], by simp [T.get_set], Ext.refl _ _⟩
  rintro e s ⟨k, hk, g1, g2, g15, g16, g17, hs⟩
  by_cases hlt : k < n + 1
  case neg =>
    obtain rfl : k = n + 1 := by omega
    simp [evOp_call, sets, T.get_set, g16, g17]
    exact hs
  have hlt' : (k : Int) < (n : Int) + 1 := by omega
  have hwk := wrap_nat (n := k) (by omega)
  obtain ⟨_, ⟨t, h3, h4⟩, p5, p6⟩ := h.ext hs
  obtain ⟨_, ⟨t', h3', h4'⟩, p5', p6'⟩ := h'.ext hs
  obtain ⟨c0, c1, c2, c3, c4⟩ := h4 k (by omega)
  obtain ⟨d0, d1, d2, d3, d4⟩ := h4' k (by omega)
  have hb : k * 5 + 5 ≤ (n + 1) * 5 := by omega
  have u1 : ¬ s.nx = m := by omega
  have u2 : ¬ s.nx = m' := by omega
  have u3 : ¬ s.nx + 1 = s.nx := by omega
  have x1 := fun b b' => ((Ext.refl s.nx s).new (Nat.le_refl _) b).new (b := s.nx) (Nat.le_succ _) b'
  simp [evOp_call, evOp_callV', sets, T.get_set, g1, g2, g15, g16, g17, hlt, hlt', loadE_eq, getC_eq, getsB_succ, getsB_zero, h3, h3', c0, c1, c2, c3, c4, d0, d1, d2, d3, d4, u1, u2, u3, newC_is, storeK_g, putB_eq, roT, cellsOf, hb, hask, hwk]
  rw [funK_f' (by kernel_rfl)]
  refine Gd.mono (same1_any _ _ _ _ _) ?_
  rintro ⟨r, s2⟩ ⟨hr, x2⟩
  simp only at hr x2
  subst hr
  simp [evOp_call, sets, T.get_set, g1, g2, g15, g16, g17, hwk]
  exact ⟨⟨k + 1, by omega, by simp [T.get_set, g1], by simp [T.get_set, g2], by simp [T.get_set, g15], by simp [T.get_set, g16], by simp [T.get_set], (hs.trans ((x1 _ _).mono hs.le)).trans (x2.mono (by show st.nx ≤ s.nx + 1 + 1; have := hs.le; omega))⟩, muAt_lt g17 (by simp [T.get_set]) hlt⟩
end Go.Proofs.YtgcpgidofikcdaaGreatDoor
set_option linter.unusedSimpArgs false
set_option linter.unusedVariables false
namespace Go.Proofs.YtgcpgidofikcdaaGreatDoor
open Go.RowKit Ev
set_option maxRecDepth 20000 in
set_option maxHeartbeats 4000000 in
theorem tsame_any (st : St) (q m q' m' n : Nat) (hn : n ≤ 64) (K U U' : Nat → Int) (h : TrAt st q m n K U) (h' : TrAt st q' m' n K U') (nt : Nat) : Gd (callL Tryz.prog ⟨false, [], 0, nt⟩ 16 [.p q 0, .p q' 0] st) fun r => r.1 = .bool true ∧ Ext st.nx st r.2 := by
  rw [Gd_callL Tryz.func16 rfl]
  obtain ⟨⟨tq, h1, h2⟩, _, l1, l2⟩ := id h
  obtain ⟨⟨tq', h1', h2'⟩, _, l1', l2'⟩ := id h'
  simp [evOp_call, sets, T.get_set]
  refine ⟨by kernel_rfl, ?_⟩
  simp [evOp_call, sets, T.get_set, loadE_eq, getC_eq, getsB_succ, getsB_zero, h1, h2, h1', h2']
  rw [cxOf_call (by kernel_rfl) (by kernel_rfl), forb_nil]
  refine Gd.mono (eqF_any st q m q' m' n hn K U U' h h' _) ?_
  rintro ⟨r, s2⟩ ⟨hr, x2⟩
  simp only at hr x2
  subst hr
  simp [evOp_call, sets, T.get_set]
  exact x2
end Go.Proofs.YtgcpgidofikcdaaGreatDoor
set_option linter.unusedVariables false
namespace Go.Proofs.YtgcpgidofikcdaaGreatDoor
open Go.RowKit Ev
theorem rel_gVi (ρ : Rho) (g : Gm) : Rel ρ (gV g) (.agg #[.int .i64 g.b, .int .i64 g.n, .int .i64 g.c, .int .i64 g.k]) := by
  unfold gV
  simp only [Rel]
  exact ⟨_, rfl, .cons (rel_int _ _) (.cons (rel_int _ _) (.cons (rel_int _ _) (.cons (rel_int _ _) .nil))), by simp⟩
end Go.Proofs.YtgcpgidofikcdaaGreatDoor
set_option linter.unusedSimpArgs false
set_option linter.unusedVariables false
namespace Go.Proofs.YtgcpgidofikcdaaGreatDoor
open Go.RowKit Ev
noncomputable def mkF : CallF := fun c f args st => match Nat.beq f 32 with
  | true => imF c f args st
  | false => itF c f args st
theorem mkF_both : CallSound Tryz.prog mkF ∧ HasBody Tryz.prog mkF := by
  constructor
  · intro c g args st v st' h hwf
    unfold mkF at h
    split at h
    · exact imF_both.1 _ _ _ _ _ _ h hwf
    · exact itF_both.1 _ _ _ _ _ _ h hwf
  · intro c g args st r h
    unfold mkF at h
    split at h
    · exact imF_both.2 _ _ _ _ _ h
    · exact itF_both.2 _ _ _ _ _ h
theorem mkF_ne {f : Nat} (h : Nat.beq f 32 = false) (h2 : Nat.beq f 34 = false) (c : Cx) (args : List V) (st : St) : mkF c f args st = callL Tryz.prog c f args st := by
  unfold mkF
  rw [h]
  exact addF_ne _ _ h2 _ _ _
theorem mkLaw : CallSound Tryz.prog (lawX Tryz.prog mkF 27) := lawX_sound namesOkT mixesT mkF_both Tryz.func27 rfl imAwake
theorem ptrNe (s : St) (x y : Operand) (q : Nat) : binE Tryz.prog s .neq 23 x y (.p q 0) (.c (.pointer none)) = some (.bool true, s) := by kernel_rfl
theorem iown_any (st : St) (g : Gm) (nt : Nat) : Gd (callL Tryz.prog ⟨false, [], 0, nt⟩ 33 [gV g] st) fun r => r.1 = gV g ∧ Ext st.nx st r.2 := by
  rw [Gd_callL Tryz.func33 rfl]
  have hn1 : ¬ st.nx + 1 = st.nx := by omega
  simp [gV, evOp_call, sets, T.get_set, cellsOf, newC_is, loadE_eq, getC_eq, getsB_succ, getsB_zero, storeK_g, putB_eq, roT, hn1]
  exact ((Ext.refl st.nx st).new (Nat.le_refl _) _).new (b := st.nx) (Nat.le_succ _) _
set_option maxRecDepth 20000 in
set_option maxHeartbeats 8000000 in
theorem g_ImageMakes (st : St) (g : Gm) :
    Gd (lawX Tryz.prog mkF 27 ⟨false, [], 0, 0⟩ 5 [gV g] st) fun r => r.1 = .bool true := by
  rw [Gd_lawX Tryz.func5 rfl]
  have gVg : V.g [V.int .i64 g.b, V.int .i64 g.n, V.int .i64 g.c, V.int .i64 g.k] = gV g := rfl
  simp [gV, evOp_call, sets, T.get_set, cellsOf, newC_is, loadE_eq, getC_eq, getsB_succ, getsB_zero, oracF_cons]
  rw [gVg, mkF_ne rfl rfl]
  refine Gd.mono (make_any _ g _) ?_
  rintro ⟨r, s1⟩ (⟨hg, z, hr, hz, x1⟩ | ⟨hg, hr, x1⟩)
  all_goals simp only at hr x1
  all_goals subst hr
  all_goals have k1 := (x1.keep st.nx (Nat.lt_succ_self _)).trans (T.get_set_same _ _ _)
  all_goals simp [oracF_cons, evOp_call, T.get_set, loadE_eq, getC_eq, getsB_succ, getsB_zero, k1]
  all_goals rw [gVg, mkF_ne rfl rfl]
  all_goals refine Gd.mono (good_any _ [] (fun _ _ => rfl) 0 (Nat.zero_le _) g _) ?_
  all_goals rintro ⟨r, s2⟩ ⟨hr, x2⟩
  all_goals simp only at hr x2
  all_goals subst hr
  rotate_left
  · have hd : decide (isGood g) = false := by simpa using hg
    simp [evOp_call, T.get_set, hd, nilLen]
  have hd : decide (isGood g) = true := by simpa using hg
  have l1 : st.nx + 1 ≤ s1.nx := x1.le
  have l2 : s1.nx ≤ s2.nx := x2.le
  have k2 := (x2.keep st.nx (by omega)).trans k1
  have hok := imgOk hg
  have hb1 := hok.b
  have hz2 := hz.rd.ext x2
  have hcz : CapOk z := by
    obtain ⟨_, m, ty, t, rfl, _⟩ := hz
    exact fun m o l q e => by injection e with _ _ e1 e2; omega
  simp [oracF_cons, evOp_call, T.get_set, hd]
  rw [mkF_ne rfl rfl]
  refine Gd.mono (iopen_any s2 z g.b.toNat (by omega) (imgW g) hz2 hcz g 0#64 (imgW_of hg) _) ?_
  rintro ⟨r, s3⟩ ⟨x, hr, hx, x3⟩
  simp only at hr hx x3
  subst hr
  have l3 : s2.nx ≤ s3.nx := x3.le
  have k3 := (x3.keep st.nx (by omega)).trans k2
  have hone := hx.rd.one
  have u1 : ¬ s3.nx = st.nx := by omega
  simp [oracF_cons, evOp_call, sets, cellsOf, newC_is, T.get_set, loadE_eq, getC_eq, getsB_succ, getsB_zero, k3, u1, storeK_g, putB_eq, roT, hone]
  rw [gVg, mkF_ne rfl rfl]
  refine Gd.mono (iown_any _ g _) ?_
  rintro ⟨r, s4⟩ ⟨hr, x4⟩
  simp only at hr x4
  subst hr
  have l4 : s3.nx + 1 ≤ s4.nx := x4.le
  simp [oracF_cons, evOp_call, T.get_set]
  have hM : ∀ c st, mkF c 32 [gV g] st = imF c 32 [gV g] st := fun _ _ => rfl
  rw [hM]
  refine Gd.mono (rmake_any _ g hg _) ?_
  rintro ⟨r, s5⟩ ⟨hr, x5⟩
  simp only at hr x5
  have hw : (imgW g).length = 8 * g.b.toNat := hok.l5
  simp [oracF_cons, evOp_call, T.get_set]
  rw [mkF_ne rfl rfl]
  have l5 : s4.nx ≤ s5.nx := x5.le
  have kB := (x5.keep s3.nx (by omega)).trans ((x4.keep s3.nx (Nat.lt_succ_self _)).trans (T.get_set_same _ _ _))
  have k5 := (x5.keep st.nx (by omega)).trans ((x4.keep st.nx (by show st.nx < s3.nx + 1; omega)).trans ((T.get_set_ne _ _ u1).trans k3))
  have xA := fun b => ((Ext.refl s3.nx s3).new (Nat.le_refl _) b)
  have x35 : Ext s3.nx s3 s5 := ((xA _).trans (x4.mono (Nat.le_succ _))).trans (x5.mono (by omega))
  have hz5 : RdRow s5 z 1 (imgW g).length (wv (imgW g)) := by rw [hw]; exact (hz2.ext x3).ext x35
  rw [rimgW_eq hg, ← hw] at hr
  refine Gd.mono (isame_any s5 z r (imgW g) (imgW g) hz5 hr (by omega) _) ?_
  rintro _ rfl
  have hx5 := hx.rd.ext x35
  simp [oracF_cons, evOp_call, T.get_set, loadE_eq, getC_eq, getsB_succ, getsB_zero, kB, hone]
  have hT : ∀ c args st, mkF c 34 args st = itF c 34 args st := fun _ _ _ => rfl
  rw [hT]
  refine Gd.mono (itree_any s5 g hg (by have := hg.1; unfold small4 at this; omega) x (imgW g) hx5 ?_ (imgW_dirs hg) _) ?_
  · intro a b c d e
    obtain ⟨_, ⟨rfl, _⟩ | ⟨m', ty', t', rfl, _⟩⟩ := hx <;> cases e
  rintro ⟨r, s6⟩ ⟨q, m, hr, hT6, hm, x6⟩
  simp only at hr hT6 x6
  subst hr
  have k6 := (x6.keep st.nx (by omega)).trans k5
  simp [oracF_cons, evOp_call, T.get_set, loadE_eq, getC_eq, getsB_succ, getsB_zero, k6, ptrNe]
  rw [mkF_ne rfl rfl]
  have hgn : ((g.n.toNat : Nat) : Int) = g.n := by have := hg.1; unfold small4 at this; omega
  have hN := new_any s6 g.n.toNat (by have := hg.1; unfold small4 at this; omega) 63
  rw [hgn] at hN
  refine Gd.mono hN ?_
  rintro ⟨r, s7⟩ ⟨q', m', hr, hT7, hm7, x7⟩
  simp only at hr hT7 x7
  subst hr
  simp [oracF_cons, evOp_call, T.get_set]
  rw [mkF_ne rfl rfl]
  refine Gd.mono (tsame_any s7 q m q' m' g.n.toNat (by have := hg.1; unfold small4 at this; omega) _ _ _ (hT6.ext x7) hT7 _) ?_
  rintro ⟨r, s8⟩ ⟨hr, x8⟩
  simp only at hr x8
  subst hr
  simp [evOp_call, T.get_set]
end Go.Proofs.YtgcpgidofikcdaaGreatDoor
set_option linter.unusedVariables false
namespace Go.Proofs.YtgcpgidofikcdaaGreatDoor
open Go.RowKit Ev
theorem w_ImageMakes (b n c k : Int) (W : World) (_ : -9223372036854775808 ≤ b ∧ b ≤ 9223372036854775807) (_ : -9223372036854775808 ≤ n ∧ n ≤ 9223372036854775807) (_ : -9223372036854775808 ≤ c ∧ c ≤ 9223372036854775807) (_ : -9223372036854775808 ≤ k ∧ k ≤ 9223372036854775807) :
    Calls Tryz.prog 5 #[.agg #[.int .i64 b, .int .i64 n, .int .i64 c, .int .i64 k]] W fun e W' => e = .returned (.bool true) ∧ Below W.heap.size W W' := by
  exact law_calls mkLaw (Begin.zero W) (.cons (rel_gVi _ ⟨b, n, c, k⟩) .nil) (g_ImageMakes ⟨0, .lf⟩ ⟨b, n, c, k⟩)
end Go.Proofs.YtgcpgidofikcdaaGreatDoor

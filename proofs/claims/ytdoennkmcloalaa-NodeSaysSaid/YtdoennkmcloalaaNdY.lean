/-
  The document's own nodes: what may be (the loop).
-/
import Derived.Test.YtdoennkmcloalaaNdX
set_option linter.unusedSimpArgs false
namespace Go.Proofs.Ytdoennkmcloalaa
open Go.RowKit Ev
theorem row_low {st : St} {y : V} {z n m : Nat} {l : List V} (hy : RdRow st y z n l) (hm : rowIn y m) : m < st.nx := by
  rcases hm with ⟨o, l, q, e⟩ | ⟨o, l, q, e⟩
  · exact hy.lt_of.2 _ _ _ _ e
  · exact hy.lt_of.1 _ _ _ _ e
/-- the boxes of a geometry and of a node, in slots 2 and 3 -/
def gE (st : St) (g : Gm) (N : Nd) (y : V) (e : Env) (s : St) : Prop := e.get 2 = some (.p st.nx 0) ∧ e.get 3 = some (.p (st.nx + 1) 0) ∧ s.h.get st.nx = some (.cs 54 4 ((((T.lf.set 0 (.int .i64 g.b)).set 1 (.int .i64 g.n)).set 2 (.int .i64 g.c)).set 3 (.int .i64 g.k))) ∧ s.h.get (st.nx + 1) = some (.cs 44 4 ((((T.lf.set 0 (.int .i64 N.t)).set 1 (.int .i64 N.l)).set 2 (.int .i64 N.s)).set 3 y)) ∧ Ext st.nx st s ∧ st.nx + 2 ≤ s.nx
theorem gE.more {st : St} {g : Gm} {N : Nd} {y : V} {e e' : Env} {s s' : St} (h : gE st g N y e s) (x : Ext s.nx s s') (h2 : e'.get 2 = e.get 2) (h3 : e'.get 3 = e.get 3) : gE st g N y e' s' := by
  obtain ⟨g2, g3, kG, kN, hx, hn⟩ := h
  exact ⟨h2.trans g2, h3.trans g3, (x.keep _ (by omega)).trans kG, (x.keep _ (by omega)).trans kN, hx.trans (x.mono (by omega)), Nat.le_trans hn x.le⟩
def gL (st : St) (g : Gm) (N : Nd) (y : V) (e : Env) (s : St) : Prop := ∃ i : Nat, i ≤ N.R.length ∧ gE st g N y e s ∧ e.get 5 = some (.int .i64 (dF g)) ∧ e.get 6 = some (.int .i64 (dN g)) ∧ e.get 7 = some (.int .i64 (i : Int)) ∧ ∀ r ∈ N.R.take i, inDoc g N r
set_option maxRecDepth 20000 in
set_option maxHeartbeats 16000000 in
theorem rngood_yes (st : St) (g : Gm) (N : Nd) (y : V) (hg : isGood g) (t0 : ¬ N.t = 0) (hr : rngT g N) (hy : RdRow st y 2 N.R.length (pairs N.R)) (hs : N.s ≤ 9223372036854775807) (nt : Nat) :
    Gd (callL Try.prog ⟨false, [], 0, nt⟩ 40 [gV g, ndV N y] st) fun r => r.1 = .bool (decide (goodN g N)) ∧ Ext st.nx st r.2 := by
  rw [Gd_callL Try.func40 rfl]
  have hcell : ∀ k : List V → Res, cellsOf (ndV N y) k = k [.int .i64 N.t, .int .i64 N.l, .int .i64 N.s, y] := fun k => rfl
  have gcell : ∀ k : List V → Res, cellsOf (gV g) k = k [.int .i64 g.b, .int .i64 g.n, .int .i64 g.c, .int .i64 g.k] := fun k => rfl
  have gVg : V.g [V.int .i64 g.b, V.int .i64 g.n, V.int .i64 g.c, V.int .i64 g.k] = gV g := rfl
  have hnd : V.g [.int .i64 N.t, .int .i64 N.l, .int .i64 N.s, y] = ndV N y := rfl
  have e2 : ∀ v w, Ext st.nx st ⟨st.nx + 1 + 1, (st.h.set st.nx v).set (st.nx + 1) w⟩ := fun v w => (bx_ext st v).new (Nat.le_succ _) w
  have q1 : ¬ st.nx + 1 = st.nx := by omega
  have hwu : wantK true (some V.u) = false := rfl
  have hwu2 : wantK false (some V.u) = false := rfl
  have hbb : g.b ≤ 1024 := hg.1.2.1
  have hdd := d_le hg
  have hgn : 4 ≤ g.n ∧ g.n ≤ 64 := ⟨hg.1.2.2.1, hg.1.2.2.2.1⟩
  have hgood := good_rng hg t0 hr
  obtain ⟨⟨a1, a2⟩, ⟨a3, a4⟩, h3, a7⟩ := hr
  have a5 : 0 ≤ N.s := by
    unfold sizedN at h3
    split at h3
    · exact h3.1
    · split at h3
      · omega
      · exact h3.1
  have a1' : ¬ N.t < 0 := by omega
  have a2' : ¬ 3 < N.t := by omega
  have a3' : ¬ N.l < 1 := by omega
  have a4' : ¬ 200 < N.l := by omega
  have a5' : ¬ N.s < 0 := by omega
  have a7' : ¬ 4 < N.R.length := by omega
  have a8' : ¬ (4 : Int) < (N.R.length : Int) := by omega
  refine Gd_seqJ (JE (gE st g N y)) ?_ ?_
  · simp [hcell, gcell, evOp_call, sets, T.get_set, newC_is]
    exact ⟨_, _, rfl, by simp [T.get_set], by simp [T.get_set], (T.get_set_ne _ _ q1).trans (T.get_set_same _ _ _), T.get_set_same _ _ _, e2 _ _, Nat.le_refl _⟩
  rintro _ ⟨e, s, rfl, hE⟩
  rw [seqC_n]
  refine Gd_seqJ (JE (gE st g N y)) ?_ ?_
  · have ⟨g2, g3, kG, kN, hx, hn⟩ := hE
    simp [evOp_call, T.get_set, g2, g3, loadE_eq, getC_eq, getsB_succ, getsB_zero, kG, kN]
    rw [gVg]
    refine Gd.mono (rgood_any _ [] (fun _ _ => rfl) g _) ?_
    rintro ⟨r, s1⟩ ⟨hr, x1⟩
    simp only at hr x1
    subst hr
    simp [evOp_call, T.get_set, hg]
    exact ⟨_, _, rfl, hE.more x1 (by simp [T.get_set]) (by simp [T.get_set])⟩
  clear hE
  rintro _ ⟨e, s, rfl, hE⟩
  rw [seqC_n]
  refine Gd_seqJ (JE (gE st g N y)) ?_ ?_
  · have ⟨g2, g3, kG, kN, hx, hn⟩ := hE
    simp [evOp_call, T.get_set, g2, g3, loadE_eq, getC_eq, kG, kN, t0]
    exact ⟨_, _, rfl, hE.more (Ext.refl _ _) (by simp [T.get_set]) (by simp [T.get_set])⟩
  clear hE
  rintro _ ⟨e, s, rfl, hE⟩
  rw [seqC_n]
  refine Gd_seqJ (JE (gE st g N y)) ?_ ?_
  · have ⟨g2, g3, kG, kN, hx, hn⟩ := hE
    have hlen := (hy.ext hx).lenS
    rcases (by omega : N.t = 1 ∨ N.t = 2 ∨ N.t = 3) with ht | ht | ht
    · have b1 : ¬ 4096 < N.s := by unfold sizedN at h3; rw [if_neg (by omega), if_neg (by omega)] at h3; omega
      simp [evOp_call, T.get_set, g2, g3, loadE_eq, getC_eq, kN, kG, ht, hwu, hwu2, a3', a4', a5', b1, hlen, a7', a8']
      exact ⟨_, _, rfl, hE.more (Ext.refl _ _) (by simp [T.get_set]) (by simp [T.get_set])⟩
    · have b1 : ¬ g.b < N.s := by unfold sizedN at h3; rw [if_pos ht] at h3; omega
      simp [evOp_call, T.get_set, g2, g3, loadE_eq, getC_eq, kN, kG, ht, hwu, hwu2, a3', a4', a5', b1, hlen, a7', a8']
      exact ⟨_, _, rfl, hE.more (Ext.refl _ _) (by simp [T.get_set]) (by simp [T.get_set])⟩
    · have b1 : 1 ≤ N.s ∧ N.s ≤ 400 := by unfold sizedN at h3; rw [if_neg (by omega), if_pos ht] at h3; exact h3
      have b2 : ¬ 4096 < N.s := by omega
      have b3 : ¬ N.s < 1 := by omega
      have b4 : ¬ 400 < N.s := by omega
      simp [evOp_call, T.get_set, g2, g3, loadE_eq, getC_eq, kN, kG, ht, hwu, hwu2, a3', a4', a5', b2, b3, b4, hlen, a7', a8']
      exact ⟨_, _, rfl, hE.more (Ext.refl _ _) (by simp [T.get_set]) (by simp [T.get_set])⟩
  clear hE
  rintro _ ⟨e, s, rfl, hE⟩
  rw [seqC_n]
  refine Gd_seqJ (JE fun e s => gE st g N y e s ∧ e.get 5 = some (.int .i64 (dF g)) ∧ e.get 6 = some (.int .i64 (dN g))) ?_ ?_
  · have ⟨g2, g3, kG, kN, hx, hn⟩ := hE
    simp [evOp_call, T.get_set, g2, g3, loadE_eq, getC_eq, getsB_succ, getsB_zero, kG, kN]
    rw [gVg]
    refine Gd.mono (rdata_any s g _) ?_
    rintro ⟨r, s1⟩ ⟨hr, x1⟩
    simp only at hr x1
    have hl : at2 g (dF g) (dN g) = .t [.int .i64 (dF g), .int .i64 (dN g)] := by unfold at2; rw [if_pos hg]
    rw [hl] at hr
    subst hr
    simp [evOp_call, T.get_set]
    exact ⟨_, _, rfl, hE.more x1 (by simp [T.get_set]) (by simp [T.get_set]), by simp [T.get_set], by simp [T.get_set]⟩
  clear hE
  rintro _ ⟨e, s, rfl, hE, g5, g6⟩
  rw [seqC_n]
  simp [evOp_call, T.get_set]
  refine Gd_loop (gL st g N y) (fun en _ => muAt 7 N.R.length en) ?_ ?_
  · exact ⟨0, Nat.zero_le _, hE.more (Ext.refl _ _) (by simp [T.get_set]) (by simp [T.get_set]), by simp [T.get_set, g5], by simp [T.get_set, g6], by simp [T.get_set], fun r h => by simp at h⟩
  clear hE g5 g6
  rintro e s ⟨i, hi, hE, g5, g6, g7, hdoc⟩
  have ⟨g2, g3, kG, kN, hx, hn⟩ := hE
  have hys := hy.ext hx
  by_cases hlt : i < N.R.length
  case neg =>
    obtain rfl : i = N.R.length := by omega
    rw [List.take_length] at hdoc
    simp [evOp_call, T.get_set, g2, g3, g5, g6, g7, loadE_eq, getC_eq, getsB_succ, getsB_zero, kN, kG, hys.lenS]
    refine ⟨by kernel_rfl, ?_⟩
    rw [cxOf_call (by kernel_rfl) (by kernel_rfl), forb_nil]
    refine Gd.mono (rapart_any s y N.R hys (by omega) (fun r h => (hdoc r h).1) _) ?_
    rintro _ rfl
    by_cases hap : apartR N.R N.R.length
    case neg =>
      rw [decide_eq_false hap]
      have hd : decide (goodN g N) = false := decide_eq_false fun h => hap (hgood.1 h).1.2
      simp [evOp_call, T.get_set, g3, loadE_eq, getC_eq, getsB_succ, getsB_zero, kN, hd]
      exact hx
    rw [decide_eq_true hap]
    simp [evOp_call, T.get_set, g3, loadE_eq, getC_eq, getsB_succ, getsB_zero, kN]
    rw [hnd, cxOf_callL [(st.nx + 1, st.nx + 1 + 1)] (by kernel_rfl) (by kernel_rfl) (looseW_at 3 (.p (st.nx + 1) 0) (by simp [T.get_set, g3]) (by kernel_rfl)) (fun x hx => by simp at hx; subst hx; simp [clashes_tmp, T.get_set, ndV, blkOf]) (fun p hp => by simp at hp; subst hp; rw [isRo_cs kN]; decide), forb_nil]
    simp only [List.append_nil]
    refine Gd.mono (rblocks_fl s _ (fun k hk => by rw [inF_cons, if_neg (by omega)]; rfl) N y hys (by omega) (fun m hm => by have := row_low hy hm; rw [inF_cons, if_neg (by omega)]; rfl) _) ?_
    rintro ⟨r, s8⟩ ⟨hr, x8⟩
    simp only at hr x8
    subst hr
    have kN8 := (x8.keep _ (by omega)).trans kN
    have n8 := x8.le
    have l8 : ∀ (b i nx' : Nat), inF ((0, st.nx + 1) :: (st.nx + 1 + 1, nx') :: forb b (rsOf [] i s.nx s8.nx) []) (st.nx + 1) = false := fun b i nx' => inF_ld (by omega)
    simp [evOp_call, T.get_set, g3, loadE_eq, getC_eq, getsB_succ, getsB_zero, kN8, l8]
    rw [hnd, cxOf_call (by kernel_rfl) (by kernel_rfl), forb_step (by kernel_rfl) rfl]
    refine Gd.mono (rneeds_any s8 N y hs _) ?_
    rintro ⟨r, s9⟩ ⟨hr, x9⟩
    simp only at hr x9
    subst hr
    have hd : decide (goodN g N) = decide (sumN N.R = needN N) := decide_eq_decide.2 ⟨fun h => (hgood.1 h).2, fun h => hgood.2 ⟨⟨hdoc, hap⟩, h⟩⟩
    simp [evOp_call, T.get_set, hd]
    exact (hx.trans (x8.mono (Nat.le_trans (by omega) hn))).trans (x9.mono (Nat.le_trans (Nat.le_trans (by omega) hn) n8))
  have hlt' : (i : Int) < N.R.length := by omega
  have hwi := wrap_nat (n := i) (by omega)
  obtain ⟨m, o, ty, sz, tr, hid, hm, hgt, ho, hc⟩ := hys.idx (st := s) un42 io182 hlt
  obtain ⟨⟨F, L⟩, hr⟩ : ∃ r, N.R[i]? = some r := ⟨_, List.getElem?_eq_getElem hlt⟩
  have hcl := pairs_at N.R i _ hr
  have u0 : tr.get o = some (.int .i64 F) := hc 0 _ (by omega) hcl.1
  have u1 : tr.get (o + 1) = some (.int .i64 L) := hc 1 _ (by omega) hcl.2
  have hmem := List.mem_of_getElem? hr
  have n1 : ¬ s.nx = st.nx := by omega
  have n2 : ¬ s.nx = st.nx + 1 := by omega
  have hbx := fun v => bx_ext s v
  have hend := fun v => hx.trans ((hbx v).mono (Nat.le_trans (by omega) hn))
  have no : ¬ inDoc g N (F, L) → decide (goodN g N) = false := fun h => decide_eq_false fun h2 => h ((hgood.1 h2).1.1 _ hmem)
  by_cases c1 : L < 1
  · simp [evOp_call, T.get_set, g2, g3, g5, g6, g7, loadE_eq, getC_eq, getsB_succ, getsB_zero, kN, kG, hys.lenS, hlt', hid, hgt, u0, u1, newC_is, cellsOf, putB_eq, storeK_g, roT, sets, n1, n2, hwu, hwu2, c1, no fun h => by have := h.1.1.1; dsimp only at this; omega]
    exact hend _
  by_cases c2 : F < 0
  · simp [evOp_call, T.get_set, g2, g3, g5, g6, g7, loadE_eq, getC_eq, getsB_succ, getsB_zero, kN, kG, hys.lenS, hlt', hid, hgt, u0, u1, newC_is, cellsOf, putB_eq, storeK_g, roT, sets, n1, n2, hwu, hwu2, c1, c2, no fun h => by have := h.1.1.2; dsimp only at this; omega]
    exact hend _
  by_cases c3 : 1024 < F
  · simp [evOp_call, T.get_set, g2, g3, g5, g6, g7, loadE_eq, getC_eq, getsB_succ, getsB_zero, kN, kG, hys.lenS, hlt', hid, hgt, u0, u1, newC_is, cellsOf, putB_eq, storeK_g, roT, sets, n1, n2, hwu, hwu2, c1, c2, c3, no fun h => by have := h.1.2.1; dsimp only at this; omega]
    exact hend _
  by_cases c4 : 1024 < L
  · simp [evOp_call, T.get_set, g2, g3, g5, g6, g7, loadE_eq, getC_eq, getsB_succ, getsB_zero, kN, kG, hys.lenS, hlt', hid, hgt, u0, u1, newC_is, cellsOf, putB_eq, storeK_g, roT, sets, n1, n2, hwu, hwu2, c1, c2, c3, c4, no fun h => by have := h.1.2.2; dsimp only at this; omega]
    exact hend _
  have hsm : smallR (F, L) := ⟨⟨by dsimp only; omega, by dsimp only; omega⟩, by dsimp only; omega, by dsimp only; omega⟩
  have w1 : IntKind.i64.wrap (F + L) = F + L := wrap_in (by omega) (by omega)
  have w2 : IntKind.i64.wrap (dF g + dN g) = dF g + dN g := wrap_in (by omega) (by omega)
  have next : inDoc g N (F, L) → ∀ r ∈ N.R.take (i + 1), inDoc g N r := fun h r hr2 => by
    rw [List.take_add_one, hr] at hr2
    rcases List.mem_append.1 hr2 with h2 | h2
    · exact hdoc r h2
    · simp at h2; subst h2; exact h
  by_cases hin : dF g ≤ F ∧ F + L ≤ dF g + dN g
  · have d1 : ¬ F < dF g := by omega
    have d2 : ¬ dF g + dN g < F + L := by omega
    simp [evOp_call, T.get_set, g2, g3, g5, g6, g7, loadE_eq, getC_eq, getsB_succ, getsB_zero, kN, kG, hys.lenS, hlt', hid, hgt, u0, u1, newC_is, cellsOf, putB_eq, storeK_g, roT, sets, n1, n2, hwu, hwu2, c1, c2, c3, c4, w1, w2, d1, d2, hwi]
    exact ⟨⟨i + 1, hlt, hE.more (hbx _) (by simp [T.get_set]) (by simp [T.get_set]), by simp [T.get_set, g5], by simp [T.get_set, g6], by simp [T.get_set], next ⟨hsm, .inl hin⟩⟩, muAt_lt g7 (by simp [T.get_set]) hlt⟩
  have hout : ∃ b : Bool, b = true ∧ (if F < dF g then b = true else F + L > dF g + dN g) := by
    by_cases d1 : F < dF g
    · exact ⟨true, rfl, by rw [if_pos d1]⟩
    · exact ⟨true, rfl, by rw [if_neg d1]; omega⟩
  by_cases t2 : N.t = 2
  case neg =>
    have hno := no fun h => h.2.elim (fun h2 => hin h2) fun h2 => t2 h2.1
    by_cases d1 : F < dF g
    · simp [evOp_call, T.get_set, g2, g3, g5, g6, g7, loadE_eq, getC_eq, getsB_succ, getsB_zero, kN, kG, hys.lenS, hlt', hid, hgt, u0, u1, newC_is, cellsOf, putB_eq, storeK_g, roT, sets, n1, n2, hwu, hwu2, c1, c2, c3, c4, w1, w2, d1, t2, hno]
      exact hend _
    · have d2 : dF g + dN g < F + L := by omega
      simp [evOp_call, T.get_set, g2, g3, g5, g6, g7, loadE_eq, getC_eq, getsB_succ, getsB_zero, kN, kG, hys.lenS, hlt', hid, hgt, u0, u1, newC_is, cellsOf, putB_eq, storeK_g, roT, sets, n1, n2, hwu, hwu2, c1, c2, c3, c4, w1, w2, d1, d2, t2, hno]
      exact hend _
  have rest : ∀ (e' : Env) (v : B), e'.get 2 = e.get 2 → True := fun _ _ _ => trivial
  by_cases d1 : F < dF g
  · simp [evOp_call, T.get_set, g2, g3, g5, g6, g7, loadE_eq, getC_eq, getsB_succ, getsB_zero, kN, kG, hys.lenS, hlt', hid, hgt, u0, u1, newC_is, cellsOf, putB_eq, storeK_g, roT, sets, n1, n2, hwu, hwu2, c1, c2, c3, c4, w1, w2, d1, t2]
    rw [gVg]
    refine Gd.mono (rislost_any _ g hg y N.R (hys.ext (hbx _)) _) ?_
    rintro ⟨r, s2⟩ ⟨hr2, x2⟩
    simp only at hr2 x2
    have hx2 := (hbx _).trans (x2.mono (Nat.le_succ _))
    by_cases hl : N.R = lostR g
    · rw [decide_eq_true hl] at hr2
      subst hr2
      simp [evOp_call, T.get_set, g7, hwi]
      exact ⟨⟨i + 1, hlt, hE.more hx2 (by simp [T.get_set]) (by simp [T.get_set]), by simp [T.get_set, g5], by simp [T.get_set, g6], by simp [T.get_set], next ⟨hsm, .inr ⟨t2, hl⟩⟩⟩, muAt_lt g7 (by simp [T.get_set]) hlt⟩
    · rw [decide_eq_false hl] at hr2
      subst hr2
      simp [evOp_call, T.get_set, no fun h => h.2.elim (fun h2 => hin h2) fun h2 => hl h2.2]
      exact hx.trans (hx2.mono (Nat.le_trans (by omega) hn))
  · have d2 : dF g + dN g < F + L := by omega
    simp [evOp_call, T.get_set, g2, g3, g5, g6, g7, loadE_eq, getC_eq, getsB_succ, getsB_zero, kN, kG, hys.lenS, hlt', hid, hgt, u0, u1, newC_is, cellsOf, putB_eq, storeK_g, roT, sets, n1, n2, hwu, hwu2, c1, c2, c3, c4, w1, w2, d1, d2, t2]
    rw [gVg]
    refine Gd.mono (rislost_any _ g hg y N.R (hys.ext (hbx _)) _) ?_
    rintro ⟨r, s2⟩ ⟨hr2, x2⟩
    simp only at hr2 x2
    have hx2 := (hbx _).trans (x2.mono (Nat.le_succ _))
    by_cases hl : N.R = lostR g
    · rw [decide_eq_true hl] at hr2
      subst hr2
      simp [evOp_call, T.get_set, g7, hwi]
      exact ⟨⟨i + 1, hlt, hE.more hx2 (by simp [T.get_set]) (by simp [T.get_set]), by simp [T.get_set, g5], by simp [T.get_set, g6], by simp [T.get_set], next ⟨hsm, .inr ⟨t2, hl⟩⟩⟩, muAt_lt g7 (by simp [T.get_set]) hlt⟩
    · rw [decide_eq_false hl] at hr2
      subst hr2
      simp [evOp_call, T.get_set, no fun h => h.2.elim (fun h2 => hin h2) fun h2 => hl h2.2]
      exact hx.trans (hx2.mono (Nat.le_trans (by omega) hn))
theorem rngood_any (st : St) (g : Gm) (N : Nd) (y : V) (hy : RdRow st y 2 N.R.length (pairs N.R)) (hs : N.s ≤ 9223372036854775807) (nt : Nat) :
    Gd (callL Try.prog ⟨false, [], 0, nt⟩ 40 [gV g, ndV N y] st) fun r => r.1 = .bool (decide (goodN g N)) ∧ Ext st.nx st r.2 := by
  by_cases h : isGood g ∧ ¬ N.t = 0 ∧ rngT g N
  · exact rngood_yes st g N y h.1 h.2.1 h.2.2 hy hs nt
  · exact rngood_no st g N y h hy hs nt
end Go.Proofs.Ytdoennkmcloalaa

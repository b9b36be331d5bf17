/-
  Contracts: records read.
-/
import Derived.Test.YtdoennkmcloalaaRdC
set_option linter.unusedSimpArgs false
namespace Go.Proofs.Ytdoennkmcloalaa
open Go.RowKit Ev
def pairR (L : List (BitVec 64)) (i : Nat) : Int × BitVec 64 := ((wat L (2 + 2 * i)).toInt, wat L (3 + 2 * i))
def pairsR (L : List (BitVec 64)) (c : Nat) : List (Int × BitVec 64) := (List.range c).map (pairR L)
theorem pairsR_succ (L : List (BitVec 64)) (c : Nat) : pairsR L (c + 1) = pairsR L c ++ [pairR L c] := by unfold pairsR; rw [List.range_succ]; simp
theorem pairsR_length (L : List (BitVec 64)) (c : Nat) : (pairsR L c).length = c := by simp [pairsR]
def cntR (L : List (BitVec 64)) : Nat := (wat L 1).toNat
def getOk (L : List (BitVec 64)) : Prop := 2 ≤ L.length ∧ cntR L ≤ 400 ∧ 2 + 2 * cntR L < L.length ∧ fitsL (L.take (3 + 2 * cntR L)) ∧ fitsR (wat L 0) (pairsR L (cntR L))
instance (L : List (BitVec 64)) : Decidable (getOk L) := by unfold getOk; infer_instance
/-- what is read: number, writes, or none -/
def getN (L : List (BitVec 64)) : BitVec 64 := if getOk L then wat L 0 else 0#64
def getK (L : List (BitVec 64)) : List (Int × BitVec 64) := if getOk L then pairsR L (cntR L) else []
theorem nilFrom (b : Nat) : RowFrom b (.c (.slice none 0 0)) := ⟨fun _ _ _ _ e => (by cases e), fun _ _ _ _ e => by cases e⟩
def rgV (L : List (BitVec 64)) (st : St) (b : Nat) (r : V × St) : Prop := ∃ v, r.1 = .t [.g [wd (getN L), v], .bool (decide (getOk L))] ∧ RdRow r.2 v 2 (getK L).length (iw (getK L)) ∧ RowFrom b v ∧ Ext b st r.2
def rgL (x : V) (L : List (BitVec 64)) (q2 q5 b : Nat) (s0 : St) (e : Env) (s : St) : Prop := ∃ (j : Nat) (v : V), j ≤ cntR L ∧ e.get 0 = some x ∧ e.get 2 = some (.p q2 0) ∧ e.get 4 = some (.int .i64 ((2 + 2 * cntR L : Nat) : Int)) ∧ e.get 5 = some (.p q5 0) ∧ e.get 6 = some (.int .i64 ((2 + 2 * j : Nat) : Int)) ∧
  s.h.get q2 = some (.cs 126 2 ((T.lf.set 0 (.int .u64 0)).set 1 (.c (.slice none 0 0)))) ∧ (∃ t, s.h.get q5 = some (.cs 126 2 t) ∧ t.get 0 = some (wd (wat L 0)) ∧ t.get 1 = some v) ∧ OwnRow b s v 2 j (iw (pairsR L j)) ∧ Ext s0.nx s0 s ∧ b ≤ s.nx
theorem forb_oneR {b i x y : Nat} {l : List (Nat × Nat)} (h : Nat.testBit b i = true) : forb b [(i, x, y)] l = l := by
  show (match Nat.testBit b i with | true => l | false => (x, y) :: l) = l
  rw [h]
theorem bx_ext (st : St) (v : B) : Ext st.nx st ⟨st.nx + 1, st.h.set st.nx v⟩ := (Ext.refl _ _).new (Nat.le_refl _) _
@[simp] theorem blR1 (x0 : Operand) (a : V) (h : a.one = true) (st : St) : bldK Try.prog 126 [(0, x0)] [a] [.int .u64 0, .c (.slice none 0 0)] st = some (.g [a, .c (.slice none 0 0)], st) := by
  rw [bldK_ok so126, partsK_one rfl h (by simp)]; rfl
theorem forb_on1 {b i j x y u v : Nat} {l : List (Nat × Nat)} (h : Nat.testBit b i = true) (h2 : Nat.testBit b j = true) : forb b (rsOf [(i, x, y)] j u v) l = l := by
  unfold rsOf
  cases Nat.beq u v
  · show (match Nat.testBit b j with | true => forb b [(i, x, y)] l | false => (u, v) :: forb b [(i, x, y)] l) = l
    rw [h2]
    exact forb_oneR h
  · exact forb_oneR h
set_option maxRecDepth 20000 in
set_option maxHeartbeats 8000000 in
theorem rdget_any (st : St) (x : V) (L : List (BitVec 64)) (hx : RdRow st x 1 L.length (wv L)) (hcap : CapOk x) (hL2 : L.length ≤ 1000000) (nt : Nat) :
    Gd (callL Try.prog ⟨false, [], 0, nt⟩ 167 [x] st) (rgV L st st.nx) := by
  rw [Gd_callL Try.func167 rfl]
  by_cases h2 : L.length < 2
  · have h2' : (L.length : Int) < 2 := by omega
    have hno : ¬ getOk L := fun h => by have := h.1; omega
    simp [evOp_call, sets, T.get_set, newC_is, hx.lenS, h2', storeK_g, putB_eq, roT, loadE_eq, getC_eq, getsB_2]
    refine ⟨_, by simp [getN, hno, wd_0], ?_, nilFrom _, bx_ext st _⟩
    unfold getK; rw [if_neg hno]
    exact (OwnRow.nil 0 _ 2).rd
  · have h2' : ¬ (L.length : Int) < 2 := by omega
    obtain ⟨m1, o1, ty1, sz1, t1, i1, b1, k1, l1, c1⟩ := hx.idx (st := st) un23 io24 (i := 1) (by omega)
    have d1 : t1.get o1 = some (wd (wat L 1)) := c1 0 _ (by omega) (by simpa using wv_get (wat_get (L := L) (i := 1) (by omega)))
    have n1 : ¬ st.nx = m1 := by omega
    by_cases hbig : 400#64 < wat L 1
    · have hno : ¬ getOk L := fun h => by have := h.2.1; unfold cntR at this; rw [BitVec.lt_def] at hbig; simp at hbig; omega
      simp [evOp_call, sets, T.get_set, newC_is, hx.lenS, h2', i1, n1, k1, d1, hbig, storeK_g, putB_eq, roT, loadE_eq, getC_eq, getsB_2]
      refine ⟨_, by simp [getN, hno, wd_0], ?_, nilFrom _, bx_ext st _⟩
      unfold getK; rw [if_neg hno]
      exact (OwnRow.nil 0 _ 2).rd
    · have hc : cntR L ≤ 400 := by unfold cntR; rw [BitVec.lt_def] at hbig; simp at hbig; omega
      have hti : (wat L 1).toInt = (cntR L : Int) := by unfold cntR at hc ⊢; rw [BitVec.toInt_eq_toNat_cond]; split <;> omega
      obtain ⟨c, hcc⟩ : ∃ c, c = cntR L := ⟨_, rfl⟩
      rw [← hcc] at hc hti
      have w1 : IntKind.i64.wrap (2 * (c : Int)) = 2 * (c : Int) := wrap_in (by omega) (by omega)
      have w2 : IntKind.i64.wrap (2 + 2 * (c : Int)) = ((2 + 2 * c : Nat) : Int) := by rw [show (2 + 2 * (c : Int)) = ((2 + 2 * c : Nat) : Int) by omega]; exact wrap_in (by omega) (by omega)
      obtain ⟨sm, hsm⟩ : ∃ sm, sm = 2 + 2 * c := ⟨_, rfl⟩
      rw [← hsm] at w2
      have w3 : IntKind.i64.wrap ((sm : Int) + 1) = ((sm + 1 : Nat) : Int) := by rw [show ((sm : Int) + 1) = ((sm + 1 : Nat) : Int) by omega]; exact wrap_in (by omega) (by omega)
      obtain ⟨s1, hs1⟩ : ∃ s1, s1 = sm + 1 := ⟨_, rfl⟩
      rw [← hs1] at w3
      by_cases hlen : L.length ≤ sm
      · have hlen' : (L.length : Int) ≤ sm := by omega
        have hno : ¬ getOk L := fun h => by have := h.2.2.1; rw [← hcc] at this; omega
        simp [evOp_call, sets, T.get_set, newC_is, hx.lenS, h2', i1, n1, k1, d1, hbig, hti, w1, w2, hlen, hlen', storeK_g, putB_eq, roT, loadE_eq, getC_eq, getsB_2]
        refine ⟨_, by simp [getN, hno, wd_0], ?_, nilFrom _, bx_ext st _⟩
        unfold getK; rw [if_neg hno]
        exact (OwnRow.nil 0 _ 2).rd
      · have hlen' : ¬ (L.length : Int) ≤ sm := by omega
        simp [evOp_call, sets, T.get_set, newC_is, hx.lenS, h2', i1, n1, k1, d1, hbig, hti, w1, w2, w3, hlen, hlen', loadE_eq, getC_eq]
        refine Gd_headR (i := .i64) (k := s1) un23 io24 (hx.ext (bx_ext st _)) hcap (by simp [T.get_set]) (by omega) (by omega) fun v hv hvc _ _ _ => ?_
        have htl : (L.take s1).length = s1 := by simp; omega
        simp [evOp_call, sets, T.get_set]
        refine Gd.mono (sfits_any _ v (L.take s1) (by rw [htl]; exact hv) hvc (by rw [htl]; omega) (by rw [htl]; omega) _) ?_
        rintro _ rfl
        by_cases hf : fitsL (L.take s1)
        · have hd : decide (fitsL (L.take s1)) = true := by simpa using hf
          obtain ⟨m0, o0, ty0, sz0, t0, i0, b0, k0, l0, c0⟩ := hx.idx (st := st) un23 io24 (i := 0) (by omega)
          have d0 : t0.get o0 = some (wd (wat L 0)) := c0 0 _ (by omega) (by simpa using wv_get (wat_get (L := L) (i := 0) (by omega)))
          have n0 : ¬ st.nx = m0 := by omega
          have q1 : ¬ st.nx + 1 = st.nx := by omega
          simp [evOp_call, sets, T.get_set, hd, i0, n0, k0, d0, storeK_g, putB_eq, roT, loadE_eq, getC_eq, getsB_2, newC_is]
          have e2 : ∀ v w, Ext st.nx st ⟨st.nx + 1 + 1, (st.h.set st.nx v).set (st.nx + 1) w⟩ := fun v w => (bx_ext st v).new (Nat.le_succ _) w
          refine Gd_loop (rgL x L st.nx (st.nx + 1) (st.nx + 1 + 1) st) (fun en _ => gapAt 6 sm en) ?_ ?_
          · refine ⟨0, .c (.slice none 0 0), Nat.zero_le _, by simp [T.get_set], by simp [T.get_set], by simp [T.get_set]; omega, by simp [T.get_set], by simp [T.get_set], ?_, ⟨_, T.get_set_same _ _ _, by simp [T.get_set], by simp [T.get_set]⟩, OwnRow.nil _ _ _, e2 _ _, Nat.le_refl _⟩
            exact (T.get_set_ne _ _ q1).trans (T.get_set_same _ _ _)
          · rintro en s ⟨j, v, hj, g0, g2, g4, g5, g6, kq2, ⟨tq, kq5, tq0, tq1⟩, hv, hs, hbn⟩
            rw [← hcc] at hj g4
            rw [← hsm] at g4
            have hxs := hx.ext hs
            obtain ⟨i, hi⟩ : ∃ i, i = 2 + 2 * j := ⟨_, rfl⟩
            rw [← hi] at g6
            have hne5 : ¬ s.nx = st.nx + 1 := by omega
            have hne2 : ¬ s.nx = st.nx := by omega
            by_cases hlt : j < c
            · have hlt' : (i : Int) < (sm : Int) := by omega
              have hltn : i < sm := by omega
              have wi1 : IntKind.i64.wrap ((i : Int) + 1) = ((i + 1 : Nat) : Int) := by rw [show ((i : Int) + 1) = ((i + 1 : Nat) : Int) by omega]; exact wrap_in (by omega) (by omega)
              have wi2 : IntKind.i64.wrap ((i : Int) + 2) = (i : Int) + 2 := wrap_in (by omega) (by omega)
              obtain ⟨i1, hi1⟩ : ∃ i1, i1 = i + 1 := ⟨_, rfl⟩
              rw [← hi1] at wi1
              obtain ⟨ma, oa, tya, sza, ta, ia, ba, ka, la, ca⟩ := hxs.idx (st := s) un23 io24 (i := i) (by omega)
              have da : ta.get oa = some (wd (wat L i)) := ca 0 _ (by omega) (by simpa using wv_get (wat_get (L := L) (i := i) (by omega)))
              obtain ⟨mb, ob, tyb, szb, tb, ib, bb, kb, lb, cb⟩ := hxs.idx (st := s) un23 io24 (i := i1) (by omega)
              have db : tb.get ob = some (wd (wat L i1)) := cb 0 _ (by omega) (by simpa using wv_get (wat_get (L := L) (i := i1) (by omega)))
              have hpr : pairR L j = ((wat L i).toInt, wat L i1) := by unfold pairR; rw [hi1, hi, show 2 + 2 * j + 1 = 3 + 2 * j by omega]
              simp [evOp_call, T.get_set, g0, g2, g4, g5, g6, hlt', hltn]
              refine ⟨by kernel_rfl, ?_⟩
              simp [evOp_call, T.get_set, g0, g2, g4, g5, g6, loadE_eq, getC_eq, kq5, tq1, ia, ib, ka, kb, da, db, wi1]
              refine evOp_build1 (v := .g [.int .i64 (wat L i).toInt, wd (wat L i1)]) (cs := [.int .i64 (wat L i).toInt, wd (wat L i1)]) (fun k => el115 k) (fun k => ze117 k) rfl (by omega) (by simp [T.get_set]) (fun k => rfl) rfl ?_
              simp [evOp_call, T.get_set]
              rw [cxOf_call (by kernel_rfl) (by kernel_rfl), forb_oneR (by kernel_rfl)]
              have hext := fun v => (Ext.refl s.nx s).new (Nat.le_refl _) v
              refine Gd_append un115 un115 io117 (n := j) (lx := 1) (new := [.int .i64 (wat L i).toInt, wd (wat L i1)]) (hv.ext (hext _)) (by show st.nx + 1 + 1 ≤ s.nx + 1; omega) (by decide) (fun s' h => by cases h) (fun k => rfl) (fun k => by simp [getC_eq, getsB_2, T.get_set, sets]) rfl (by omega) ?_
              intro s' st' ho' he' _ _
              have kq5' : st'.h.get (st.nx + 1) = _ := (he'.keep _ (Nat.lt_succ_self _)).trans ((T.get_set_ne _ _ hne5).trans kq5)
              have kq2' : st'.h.get st.nx = _ := (he'.keep _ (by omega)).trans ((T.get_set_ne _ _ hne2).trans kq2)
              have hone' := ho'.rd.one
              have hle' : s.nx + 1 ≤ st'.nx := he'.le
              have hfr := AppRow.from (.inl ho')
              have q1' : ¬ st.nx + 1 = st.nx := by omega
              simp [evOp_call, T.get_set, g0, g2, g4, g5, g6]
              rw [cxOf_store]
              rotate_left
              · kernel_rfl
              rw [forb_on1 (by kernel_rfl) (by kernel_rfl)]
              rw [storeK_1 hone']
              simp [evOp_call, T.get_set, g0, g2, g4, g5, g6, putB_eq, roT, kq5', sets, wi2]
              refine ⟨⟨j + 1, s', by rw [← hcc]; omega, by simp [T.get_set, g0], by simp [T.get_set, g2], by simp [T.get_set, g4]; omega, by simp [T.get_set, g5], by simp [T.get_set]; omega, ?_, ⟨_, T.get_set_same _ _ _, by simp [T.get_set, tq0], by simp [T.get_set]⟩, ?_, ?_, by show st.nx + 1 + 1 ≤ st'.nx; omega⟩, gapAt_lt g6 (by simp [T.get_set]; rfl) hlt' (by omega)⟩
              · exact (T.get_set_ne _ _ q1').trans kq2'
              · rw [pairsR_succ, iw_app, hpr]
                exact OwnRow.setOther ho' (fun o l z e => by have := hfr.1 _ _ _ _ e; omega) _
              · exact ((hs.trans ((hext _).mono (by omega))).trans (he'.mono (by omega))).set (m := st.nx + 1) (by omega) (by omega) _
            · obtain rfl : j = c := by omega
              have hv1 := hv.rd
              have hvone := hv1.one
              have hpl := pairsR_length L j
              simp [evOp_call, sets, T.get_set, g0, g2, g4, g5, g6, show ¬ i < sm by omega, loadE_eq, getC_eq, getsB_2, kq5, tq0, tq1]
              refine Gd.mono (fits_any s (wat L 0) v (pairsR L j) (by rw [hpl]; exact hv1) (by omega) _) ?_
              rintro ⟨r, s2⟩ ⟨hr, x2⟩
              simp only at hr x2
              subst hr
              have l2 := x2.le
              have k2' : s2.h.get st.nx = _ := (x2.keep _ (by omega)).trans kq2
              have k5' : s2.h.get (st.nx + 1) = _ := (x2.keep _ (by omega)).trans kq5
              have hs2 : Ext st.nx st s2 := hs.trans (x2.mono (by omega))
              have hfin : ∀ v, Ext st.nx st ⟨s2.nx, s2.h.set st.nx v⟩ := fun v => hs2.set (m := st.nx) (Nat.le_refl _) (by omega) v
              have htk : L.take (3 + 2 * cntR L) = L.take s1 := by rw [← hcc, show 3 + 2 * j = s1 by omega]
              by_cases hfi : fitsR (wat L 0) (pairsR L j)
              · have hd2 : decide (fitsR (wat L 0) (pairsR L j)) = true := by simpa using hfi
                have hyes : getOk L := ⟨by omega, by omega, by rw [← hcc]; omega, by rw [htk]; exact hf, by rw [← hcc]; exact hfi⟩
                have hK : getK L = pairsR L j := by unfold getK; rw [if_pos hyes, ← hcc]
                simp [evOp_call, sets, T.get_set, hd2, g2, g5, storeK_g, putB_eq, roT, loadE_eq, getC_eq, getsB_2, k2', k5', tq0, tq1, hvone]
                refine ⟨_, by simp [getN, hyes], ?_, (AppRow.from (.inl hv)).mono (by omega), hfin _⟩
                rw [hK, hpl]
                have hfr := AppRow.from (.inl hv)
                exact (OwnRow.setOther (hv.ext x2) (fun o l z e => by have := hfr.1 _ _ _ _ e; omega) _).rd
              · have hd2 : decide (fitsR (wat L 0) (pairsR L j)) = false := by simpa using hfi
                have hno : ¬ getOk L := fun h => hfi (by have := h.2.2.2.2; rw [← hcc] at this; exact this)
                simp [evOp_call, sets, T.get_set, hd2, g2, g5, storeK_g, putB_eq, roT, loadE_eq, getC_eq, getsB_2, k2']
                refine ⟨_, by simp [getN, hno, wd_0], ?_, nilFrom _, hfin _⟩
                unfold getK; rw [if_neg hno]
                exact (OwnRow.nil 0 _ 2).rd
        · have hd : decide (fitsL (L.take s1)) = false := by simpa using hf
          have hno : ¬ getOk L := fun h => hf (by have := h.2.2.2.1; rw [← hcc, show 3 + 2 * c = s1 by omega] at this; exact this)
          simp [evOp_call, sets, T.get_set, hd, storeK_g, putB_eq, roT, loadE_eq, getC_eq, getsB_2]
          refine ⟨_, by simp [getN, hno, wd_0], ?_, nilFrom _, bx_ext st _⟩
          unfold getK; rw [if_neg hno]
          exact (OwnRow.nil 0 _ 2).rd
end Go.Proofs.Ytdoennkmcloalaa

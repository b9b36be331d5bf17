/-
  The document's own records: read.
-/
import Derived.Test.YtenncnbaoejekaaRdQ
set_option linter.unusedSimpArgs false
namespace Go.Proofs.Ytenncnbaoejekaa
open Go.RowKit Ev
@[simp] theorem blQ1 (x0 : Operand) (a : V) (h : a.one = true) (st : St) : bldK Try.prog 137 [(0, x0)] [a] [.int .u64 0, .c (.slice none 0 0)] st = some (.g [a, .c (.slice none 0 0)], st) := by
  rw [bldK_ok so137, partsK_one rfl h (by simp)]; rfl
def rqL (x : V) (L : List (BitVec 64)) (q2 q5 b : Nat) (s0 : St) (e : Env) (s : St) : Prop := ∃ (j : Nat) (v : V), j ≤ cntR L ∧ e.get 0 = some x ∧ e.get 2 = some (.p q2 0) ∧ e.get 4 = some (.p q5 0) ∧ e.get 5 = some (.int .i64 (cntR L : Int)) ∧ e.get 6 = some (.int .i64 (j : Int)) ∧
  s.h.get q2 = some (.cs 137 2 ((T.lf.set 0 (.int .u64 0)).set 1 (.c (.slice none 0 0)))) ∧ (∃ t, s.h.get q5 = some (.cs 137 2 t) ∧ t.get 0 = some (wd (wat L 0)) ∧ t.get 1 = some v) ∧ OwnRow b s v 2 j (iw (pairsR L j)) ∧ (∀ r ∈ pairsR L j, okAt r) ∧ Ext s0.nx s0 s ∧ b ≤ s.nx
theorem okW {w x : BitVec 64} : okAt (w.toInt, x) ↔ ¬ (1048576#64 < w) := by
  unfold okAt
  simp only
  rw [BitVec.lt_def, BitVec.toInt_eq_toNat_cond]
  have := w.isLt
  simp
  split <;> omega
set_option maxRecDepth 20000 in
set_option maxHeartbeats 8000000 in
theorem rrget_any (st : St) (x : V) (L : List (BitVec 64)) (hx : RdRow st x 1 L.length (wv L)) (hcap : CapOk x) (hL2 : L.length ≤ 1000000) (nt : Nat) :
    Gd (callL Try.prog ⟨false, [], 0, nt⟩ 96 [x] st) (rgV L st st.nx) := by
  rw [Gd_callL Try.func96 rfl]
  have none_ : ∀ s', Ext st.nx st s' → ¬ getOk L → rgV L st st.nx (.t [.g [wd 0#64, .c (.slice none 0 0)], .bool false], s') := fun s' hs hno => by
    refine ⟨_, by simp [getN, hno], ?_, nilFrom _, hs⟩
    unfold getK; rw [if_neg hno]
    exact (OwnRow.nil 0 _ 2).rd
  by_cases h3 : L.length < 3
  · have h3' : (L.length : Int) < 3 := by omega
    have hno : ¬ getOk L := fun h => by have := h.2.2.1; omega
    simp [evOp_call, sets, T.get_set, newC_is, hx.lenS, h3', storeK_g, putB_eq, roT, loadE_eq, getC_eq, getsB_2]
    exact none_ _ (bx_ext st _) hno
  · have h3' : ¬ (L.length : Int) < 3 := by omega
    obtain ⟨m0, o0, ty0, sz0, t0, i0, b0, k0, l0, c0⟩ := hx.idx (st := st) un30 io31 (i := 0) (by omega)
    have d0 : t0.get o0 = some (wd (wat L 0)) := c0 0 _ (by omega) (by simpa using wv_get (wat_get (L := L) (i := 0) (by omega)))
    have n0 : ¬ st.nx = m0 := by omega
    obtain ⟨m1, o1, ty1, sz1, t1, i1, b1, k1, l1, c1⟩ := hx.idx (st := st) un30 io31 (i := 1) (by omega)
    have d1 : t1.get o1 = some (wd (wat L 1)) := c1 0 _ (by omega) (by simpa using wv_get (wat_get (L := L) (i := 1) (by omega)))
    have n1 : ¬ st.nx = m1 := by omega
    by_cases hz : wat L 0 = 0#64
    · have hno : ¬ getOk L := fun h => h.2.2.2.2.1 hz
      simp [evOp_call, sets, T.get_set, newC_is, hx.lenS, h3', i0, n0, k0, d0, hz, storeK_g, putB_eq, roT, loadE_eq, getC_eq, getsB_2]
      exact none_ _ (bx_ext st _) hno
    · by_cases hbig : 400#64 < wat L 1
      · have hno : ¬ getOk L := fun h => by have := h.2.1; unfold cntR at this; rw [BitVec.lt_def] at hbig; simp at hbig; omega
        simp [evOp_call, sets, T.get_set, newC_is, hx.lenS, h3', i0, n0, k0, d0, hz, i1, n1, k1, d1, hbig, storeK_g, putB_eq, roT, loadE_eq, getC_eq, getsB_2]
        exact none_ _ (bx_ext st _) hno
      · have hc : cntR L ≤ 400 := by unfold cntR; rw [BitVec.lt_def] at hbig; simp at hbig; omega
        have hti : (wat L 1).toInt = (cntR L : Int) := by unfold cntR at hc ⊢; rw [BitVec.toInt_eq_toNat_cond]; split <;> omega
        have hcmp : (BitVec.ofNat 64 L.length < 3#64 + 2#64 * wat L 1) ↔ L.length < 3 + 2 * cntR L := by
          unfold cntR at hc ⊢
          rw [BitVec.lt_def, BitVec.toNat_ofNat, BitVec.toNat_add, BitVec.toNat_mul]
          simp
          omega
        obtain ⟨c, hcc⟩ : ∃ c, c = cntR L := ⟨_, rfl⟩
        rw [← hcc] at hc hti hcmp
        by_cases hlen : L.length < 3 + 2 * c
        · have hlt := hcmp.2 hlen
          have hno : ¬ getOk L := fun h => by have := h.2.2.1; rw [← hcc] at this; omega
          simp [evOp_call, sets, T.get_set, newC_is, hx.lenS, h3', i0, n0, k0, d0, hz, i1, n1, k1, d1, hbig, hlt, storeK_g, putB_eq, roT, loadE_eq, getC_eq, getsB_2]
          exact none_ _ (bx_ext st _) hno
        · have hlt : ¬ (BitVec.ofNat 64 L.length < 3#64 + 2#64 * wat L 1) := fun h => hlen (hcmp.1 h)
          have q1 : ¬ st.nx + 1 = st.nx := by omega
          have v1 : ¬ st.nx + 1 = m1 := by omega
          simp [evOp_call, sets, T.get_set, newC_is, hx.lenS, h3', i0, n0, k0, d0, hz, i1, n1, v1, k1, d1, hbig, hlt, hti, storeK_g, putB_eq, roT, loadE_eq, getC_eq, getsB_2]
          have e2 : ∀ v w, Ext st.nx st ⟨st.nx + 1 + 1, (st.h.set st.nx v).set (st.nx + 1) w⟩ := fun v w => (bx_ext st v).new (Nat.le_succ _) w
          refine Gd_loop (rqL x L st.nx (st.nx + 1) (st.nx + 1 + 1) st) (fun en _ => muAt 6 c en) ?_ ?_
          · refine ⟨0, .c (.slice none 0 0), Nat.zero_le _, by simp [T.get_set], by simp [T.get_set], by simp [T.get_set], by simp [T.get_set, hcc], by simp [T.get_set], ?_, ⟨_, T.get_set_same _ _ _, by simp [T.get_set], by simp [T.get_set]⟩, OwnRow.nil _ _ _, fun r h => by simp [pairsR] at h, e2 _ _, Nat.le_refl _⟩
            exact (T.get_set_ne _ _ q1).trans (T.get_set_same _ _ _)
          · rintro en s ⟨j, v, hj, g0, g2, g4, g5, g6, kq2, ⟨tq, kq5, tq0, tq1⟩, hv, hok, hs, hbn⟩
            rw [← hcc] at hj g5
            have hxs := hx.ext hs
            have hne5 : ¬ s.nx = st.nx + 1 := by omega
            have hne2 : ¬ s.nx = st.nx := by omega
            have hfin0 : ∀ v, Ext st.nx st ⟨s.nx, s.h.set st.nx v⟩ := fun v => hs.set (m := st.nx) (Nat.le_refl _) (by omega) v
            by_cases hltj : j < c
            · have hlt' : (j : Int) < (c : Int) := by omega
              have hw := wrap_nat (n := j) (by omega)
              obtain ⟨i, hi⟩ : ∃ i, i = 2 + 2 * j := ⟨_, rfl⟩
              obtain ⟨i', hi'⟩ : ∃ i', i' = 3 + 2 * j := ⟨_, rfl⟩
              have wa : IntKind.i64.wrap (2 * (j : Int)) = 2 * (j : Int) := wrap_in (by omega) (by omega)
              have wb : IntKind.i64.wrap (2 + 2 * (j : Int)) = (i : Int) := by rw [show (2 + 2 * (j : Int)) = (i : Int) by omega]; exact wrap_in (by omega) (by omega)
              have wc : IntKind.i64.wrap (3 + 2 * (j : Int)) = (i' : Int) := by rw [show (3 + 2 * (j : Int)) = (i' : Int) by omega]; exact wrap_in (by omega) (by omega)
              obtain ⟨ma, oa, tya, sza, ta, ia, ba, ka, la, ca⟩ := hxs.idx (st := s) un30 io31 (i := i) (by omega)
              have da : ta.get oa = some (wd (wat L i)) := ca 0 _ (by omega) (by simpa using wv_get (wat_get (L := L) (i := i) (by omega)))
              obtain ⟨mb, ob, tyb, szb, tb, ib, bb, kb, lb, cb⟩ := hxs.idx (st := s) un30 io31 (i := i') (by omega)
              have db : tb.get ob = some (wd (wat L i')) := cb 0 _ (by omega) (by simpa using wv_get (wat_get (L := L) (i := i') (by omega)))
              have hpr : pairR L j = ((wat L i).toInt, wat L i') := by unfold pairR; rw [hi, hi']
              by_cases hov : 1048576#64 < wat L i
              · have hno : ¬ getOk L := fun h => by
                  have h5 := h.2.2.2.2.2.2 (pairR L j) (by rw [← hcc]; unfold pairsR; exact List.mem_map.2 ⟨j, List.mem_range.2 hltj, rfl⟩)
                  rw [hpr] at h5
                  exact okW.1 h5 hov
                simp [evOp_call, sets, T.get_set, g0, g2, g4, g5, g6, hlt', hltj, wa, wb, ia, loadE_eq, getC_eq, getsB_2, ka, da, hov, storeK_g, putB_eq, roT, kq2]
                exact none_ _ (hfin0 _) hno
              · simp [evOp_call, T.get_set, g0, g2, g4, g5, g6, hlt', hltj, wa, wb, ia, loadE_eq, getC_eq, ka, da, hov]
                refine ⟨by kernel_rfl, ?_⟩
                try simp [evOp_call, T.get_set, g0, g2, g4, g5, g6, loadE_eq, getC_eq, kq5, tq1, ia, ib, ka, kb, da, db, wa, wb, wc]
                refine evOp_build1 (v := .g [.int .i64 (wat L i).toInt, wd (wat L i')]) (cs := [.int .i64 (wat L i).toInt, wd (wat L i')]) (fun k => el134 k) (fun k => ze206 k) rfl (by omega) (by simp [T.get_set]) (fun k => rfl) rfl ?_
                simp [evOp_call, T.get_set]
                rw [cxOf_call (by kernel_rfl) (by kernel_rfl), forb_oneR (by kernel_rfl)]
                have hext := fun v => (Ext.refl s.nx s).new (Nat.le_refl _) v
                refine Gd_append un134 un134 io206 (n := j) (lx := 1) (new := [.int .i64 (wat L i).toInt, wd (wat L i')]) (hv.ext (hext _)) (by show st.nx + 1 + 1 ≤ s.nx + 1; omega) (by decide) (fun s' h => by cases h) (fun k => rfl) (fun k => by simp [getC_eq, getsB_2, T.get_set, sets]) rfl (by omega) ?_
                intro s' st' ho' he' _ _
                have kq5' : st'.h.get (st.nx + 1) = _ := (he'.keep _ (Nat.lt_succ_self _)).trans ((T.get_set_ne _ _ hne5).trans kq5)
                have kq2' : st'.h.get st.nx = _ := (he'.keep _ (by omega)).trans ((T.get_set_ne _ _ hne2).trans kq2)
                have hone' := ho'.rd.one
                have hle' : s.nx + 1 ≤ st'.nx := he'.le
                have hfr := AppRow.from (.inl ho')
                have q1' : ¬ st.nx + 1 = st.nx := by omega
                simp [evOp_call, T.get_set, g0, g2, g4, g5, g6]
                rw [cxOf_store]
                rotate_left
                · kernel_rfl
                rw [forb_on1 (by kernel_rfl) (by kernel_rfl)]
                rw [storeK_1 hone']
                simp [evOp_call, T.get_set, g0, g2, g4, g5, g6, putB_eq, roT, kq5', sets, hw]
                refine ⟨⟨j + 1, s', by rw [← hcc]; omega, by simp [T.get_set, g0], by simp [T.get_set, g2], by simp [T.get_set, g4], by simp [T.get_set, g5, hcc], by simp [T.get_set], ?_, ⟨_, T.get_set_same _ _ _, by simp [T.get_set, tq0], by simp [T.get_set]⟩, ?_, fun r h => ?_, ?_, by show st.nx + 1 + 1 ≤ st'.nx; omega⟩, muAt_lt g6 (by simp [T.get_set]) hltj⟩
                · exact (T.get_set_ne _ _ q1').trans kq2'
                · rw [pairsR_succ, iw_app, hpr]
                  exact OwnRow.setOther ho' (fun o l z e => by have := hfr.1 _ _ _ _ e; omega) _
                · rw [pairsR_succ] at h
                  rcases List.mem_append.1 h with h | h
                  · exact hok r h
                  · simp at h; subst h; rw [hpr]; exact okW.2 hov
                · exact ((hs.trans ((hext _).mono (by omega))).trans (he'.mono (by omega))).set (m := st.nx + 1) (by omega) (by omega) _
            · obtain rfl : j = c := by omega
              have hv1 := hv.rd
              have hvone := hv1.one
              have hpl := pairsR_length L j
              obtain ⟨s1, hs1⟩ : ∃ s1, s1 = 3 + 2 * j := ⟨_, rfl⟩
              have wa : IntKind.i64.wrap (2 * (j : Int)) = 2 * (j : Int) := wrap_in (by omega) (by omega)
              have wc : IntKind.i64.wrap (3 + 2 * (j : Int)) = (s1 : Int) := by rw [show (3 + 2 * (j : Int)) = (s1 : Int) by omega]; exact wrap_in (by omega) (by omega)
              have htl : (L.take s1).length = s1 := by simp; omega
              have htk : L.take (3 + 2 * cntR L) = L.take s1 := by rw [← hcc, hs1]
              simp [evOp_call, sets, T.get_set, g0, g2, g4, g5, g6, wa, wc]
              refine Gd_headR (i := .i64) (k := s1) un30 io31 hxs hcap (by simp [T.get_set]) (by omega) (by omega) fun u hu huc _ _ _ => ?_
              simp [evOp_call, sets, T.get_set]
              refine Gd.mono (rfits_any _ u (L.take s1) (by rw [htl]; exact hu) huc (by rw [htl]; omega) (by rw [htl]; omega) _) ?_
              rintro _ rfl
              by_cases hf : fitsL (L.take s1)
              · have hd : decide (fitsL (L.take s1)) = true := by simpa using hf
                have hyes : getOk L := ⟨by omega, by omega, by rw [← hcc]; omega, by rw [htk]; exact hf, by rw [← hcc]; exact ⟨hz, by omega, hok⟩⟩
                have hK : getK L = pairsR L j := by unfold getK; rw [if_pos hyes, ← hcc]
                simp [evOp_call, sets, T.get_set, hd, g2, g4, storeK_g, putB_eq, roT, loadE_eq, getC_eq, getsB_2, kq2, kq5, tq0, tq1, hvone]
                have hfr := AppRow.from (.inl hv)
                refine ⟨_, by simp [getN, hyes], ?_, hfr.mono (by omega), hfin0 _⟩
                rw [hK, hpl]
                exact (OwnRow.setOther hv (fun o l z e => by have := hfr.1 _ _ _ _ e; omega) _).rd
              · have hd : decide (fitsL (L.take s1)) = false := by simpa using hf
                have hno : ¬ getOk L := fun h => hf (by have := h.2.2.2.1; rw [htk] at this; exact this)
                simp [evOp_call, sets, T.get_set, hd, g2, storeK_g, putB_eq, roT, loadE_eq, getC_eq, getsB_2, kq2]
                exact none_ _ (hfin0 _) hno
end Go.Proofs.Ytenncnbaoejekaa

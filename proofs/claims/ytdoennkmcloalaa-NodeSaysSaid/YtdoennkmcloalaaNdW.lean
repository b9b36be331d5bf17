/-
  The document's own nodes: a node read.
-/
import Derived.Test.YtdoennkmcloalaaNdV
set_option linter.unusedSimpArgs false
namespace Go.Proofs.Ytdoennkmcloalaa
open Go.RowKit Ev
def rgnI (x : V) (L : List (BitVec 64)) (q2 q4 b : Nat) (s0 : St) (e : Env) (s : St) : Prop := ∃ (k : Nat) (z : V), k ≤ 4 ∧ e.get 0 = some x ∧ e.get 2 = some (.p q2 0) ∧ e.get 4 = some (.p q4 0) ∧ e.get 5 = some (.int .i64 ((2 + k : Nat) : Int)) ∧
  (∃ t2, s.h.get q2 = some (.cs 44 4 t2)) ∧ (∃ t, s.h.get q4 = some (.cs 44 4 t) ∧ t.get 0 = some (.int .i64 (rreadN L).t) ∧ t.get 1 = some (.int .i64 (rreadN L).l) ∧ t.get 2 = some (.int .i64 (rreadN L).s) ∧ t.get 3 = some z) ∧ OwnRow b s z 2 (readR L k).length (pairs (readR L k)) ∧ Ext s0.nx s0 s ∧ b ≤ s.nx
set_option maxRecDepth 20000 in
set_option maxHeartbeats 8000000 in
theorem rnget_any (st : St) (x : V) (L : List (BitVec 64)) (hx : RdRow st x 1 L.length (wv L)) (nt : Nat) :
    Gd (callL Try.prog ⟨false, [], 0, nt⟩ 38 [x] st) (ngV L st) := by
  rw [Gd_callL Try.func38 rfl]
  have none_ : getNd L = none → ∀ s : St, (∃ z, V.t [.g [.int .i64 0, .int .i64 0, .int .i64 0, .c (.slice none 0 0)], .bool false] = .t [ndV (ndOf L) z, .bool (getNd L).isSome] ∧ RdRow s z 2 (ndOf L).R.length (pairs (ndOf L).R) ∧ (∀ m, rowIn z m → st.nx ≤ m) ∧ CapOk z) := fun h s => ⟨.c (.slice none 0 0), by unfold ndOf; rw [h]; rfl, by unfold ndOf; rw [h]; exact (OwnRow.nil 0 _ 2).rd, fun m hm => (by rcases hm with ⟨_, _, _, e⟩ | ⟨_, _, _, e⟩ <;> cases e), fun _ _ _ _ e => (by cases e)⟩
  by_cases h8 : L.length = 8
  · have h8' : (L.length : Int) = 8 := by omega
    obtain ⟨m0, o0, ty0, sz0, t0, i0, b0, k0, l0, c0⟩ := hx.idx (st := st) un23 io24 (i := 0) (by omega)
    have d0 : t0.get o0 = some (wd (wat L 0)) := c0 0 _ (by omega) (by simpa using wv_get (wat_get (L := L) (i := 0) (by omega)))
    obtain ⟨m1, o1, ty1, sz1, t1, i1, b1, k1, l1, c1⟩ := hx.idx (st := st) un23 io24 (i := 1) (by omega)
    have d1 : t1.get o1 = some (wd (wat L 1)) := c1 0 _ (by omega) (by simpa using wv_get (wat_get (L := L) (i := 1) (by omega)))
    have n0 : ¬ st.nx = m0 := by omega
    have n1 : ¬ st.nx = m1 := by omega
    have q1 : ¬ st.nx + 1 = st.nx := by omega
    have e2 : ∀ v w, Ext st.nx st ⟨st.nx + 1 + 1, (st.h.set st.nx v).set (st.nx + 1) w⟩ := fun v w => (bx_ext st v).new (Nat.le_succ _) w
    by_cases hbig : 1099511627776#64 < wat L 1
    · simp [evOp_call, sets, T.get_set, newC_is, hx.lenS, h8', i1, loadE_eq, getC_eq, getsB_succ, getsB_zero, k1, d1, n1, hbig, storeK_g, putB_eq, roT]
      exact ⟨none_ (rget_big hbig) _, bx_ext st _⟩
    simp [evOp_call, sets, T.get_set, newC_is, hx.lenS, h8', i1, loadE_eq, getC_eq, k1, d1, n1, hbig]
    refine ⟨by kernel_rfl, ?_⟩
    simp [evOp_call, sets, T.get_set, newC_is, i0, i1, loadE_eq, getC_eq, k0, k1, d0, d1, n0, n1]
    rw [cxOf_store]
    rotate_left
    · kernel_rfl
    rw [forb_oneR (by kernel_rfl)]
    simp [evOp_call, sets, T.get_set, newC_is, storeK_g, putB_eq, roT]
    refine Gd_loop (rgnI x L st.nx (st.nx + 1) (st.nx + 1 + 1) st) (fun en _ => muAt 5 6 en) ?_ ?_
    · refine ⟨0, .c (.slice none 0 0), by omega, by simp [T.get_set], by simp [T.get_set], by simp [T.get_set], by simp [T.get_set], ⟨_, (T.get_set_ne _ _ q1).trans (T.get_set_same _ _ _)⟩, ⟨_, T.get_set_same _ _ _, by simp [T.get_set, rreadN], by simp [T.get_set, rreadN], by simp [T.get_set, rreadN], by simp [T.get_set]⟩, OwnRow.nil _ _ _, e2 _ _, Nat.le_refl _⟩
    · rintro en s ⟨k, z, hk, g0, g2, g4, g5, ⟨tz, kq2⟩, ⟨tq, kq4, tq0, tq1, tq2, tq3⟩, hz, hs, hbn⟩
      have hxs := hx.ext hs
      have hne4 : ¬ s.nx = st.nx + 1 := by omega
      have hne2 : ¬ s.nx = st.nx := by omega
      by_cases hlt : k < 4
      · have hlt' : ((2 + k : Nat) : Int) < 6 := by omega
        have hlt2 : (2 + (k : Int)) < 6 := by omega
        have hwk : IntKind.i64.wrap (2 + (k : Int) + 1) = 2 + ((k : Int) + 1) := by rw [show 2 + (k : Int) + 1 = 2 + ((k : Int) + 1) by omega]; exact wrap_in (by omega) (by omega)
        have hsucc := readR_succ h8 hlt
        have hrl := readR_le L k
        obtain ⟨j, hj⟩ : ∃ j, j = 2 + k := ⟨_, rfl⟩
        rw [← hj] at g5
        have hj6 : (j : Int) < 6 := by omega
        have hwj := wrap_nat (n := j) (by omega)
        obtain ⟨ma, oa, tya, sza, ta, ia, ba, ka, la, ca⟩ := hxs.idx (st := s) un23 io24 (i := j) (by omega)
        have da : ta.get oa = some (wd (wat L (2 + k))) := ca 0 _ (by omega) (by
          rw [Nat.mul_one, Nat.add_zero]
          subst hj
          exact wv_get (wat_get (by omega)))
        have hma : ¬ s.nx = ma := by omega
        by_cases hw : wat L (2 + k) = 0#64
        · rw [if_pos hw, List.append_nil] at hsucc
          rw [← hsucc] at hz
          simp [evOp_call, T.get_set, g0, g2, g4, g5, hj6, ia, loadE_eq, getC_eq, ka, da, hw, hwj]
          exact ⟨⟨k + 1, z, by omega, by simp [T.get_set, g0], by simp [T.get_set, g2], by simp [T.get_set, g4], by simp [T.get_set]; omega, ⟨tz, kq2⟩, ⟨tq, kq4, tq0, tq1, tq2, tq3⟩, hz, hs, hbn⟩, muAt_lt g5 (by simp [T.get_set]) (by omega)⟩
        · rw [if_neg hw] at hsucc
          simp [evOp_call, T.get_set, g0, g2, g4, g5, hj6, ia, loadE_eq, getC_eq, ka, da, hw, kq4, tq3]
          refine ⟨by kernel_rfl, ?_⟩
          refine evOp_build1 (v := .g [.int .i64 (unR (wat L (2 + k))).1, .int .i64 (unR (wat L (2 + k))).2]) (cs := [.int .i64 (unR (wat L (2 + k))).1, .int .i64 (unR (wat L (2 + k))).2]) (fun k => el42 k) (fun k => ze182 k) rfl (by omega) (by simp [T.get_set, unR]) (fun k => rfl) rfl ?_
          simp [evOp_call, T.get_set]
          rw [cxOf_call (by kernel_rfl) (by kernel_rfl), forb_cons (by kernel_rfl) rfl]
          have hext := fun v => (Ext.refl s.nx s).new (Nat.le_refl _) v
          refine Gd_append un42 un42 io182 (n := (readR L k).length) (lx := 1) (new := [.int .i64 (unR (wat L (2 + k))).1, .int .i64 (unR (wat L (2 + k))).2]) (hz.ext (hext _)) (by show st.nx + 1 + 1 ≤ s.nx + 1; omega) (by decide) (fun s' h => by cases h) (fun k => rfl) (fun k => by simp [getC_eq, getsB_2, T.get_set, sets]) rfl (by omega) ?_
          intro s' st' ho' he' _ _
          have kq4' : st'.h.get (st.nx + 1) = _ := (he'.keep _ (Nat.lt_succ_self _)).trans ((T.get_set_ne _ _ hne4).trans kq4)
          have kq2' : st'.h.get st.nx = _ := (he'.keep _ (by omega)).trans ((T.get_set_ne _ _ hne2).trans kq2)
          have hone' := ho'.rd.one
          have hle' : s.nx + 1 ≤ st'.nx := he'.le
          have hfr := AppRow.from (.inl ho')
          simp [evOp_call, T.get_set, g0, g2, g4, g5]
          rw [cxOf_store]
          rotate_left
          · kernel_rfl
          rw [forb_step (by kernel_rfl) (forb_cons (by kernel_rfl) rfl), storeK_1 hone']
          simp [evOp_call, T.get_set, g0, g2, g4, g5, putB_eq, roT, kq4', sets, hwj]
          refine ⟨⟨k + 1, s', by omega, by simp [T.get_set, g0], by simp [T.get_set, g2], by simp [T.get_set, g4], by simp [T.get_set]; omega, ⟨tz, (T.get_set_ne _ _ q1).trans kq2'⟩, ⟨_, T.get_set_same _ _ _, by simp [T.get_set, tq0], by simp [T.get_set, tq1], by simp [T.get_set, tq2], by simp [T.get_set]⟩, ?_, ?_, by show st.nx + 1 + 1 ≤ st'.nx; omega⟩, muAt_lt g5 (by simp [T.get_set]) (by omega)⟩
          · rw [hsucc, pairs_app, List.length_append]
            exact OwnRow.setOther ho' (fun o l z e => by have := hfr.1 _ _ _ _ e; omega) _
          · exact ((hs.trans ((hext _).mono (by omega))).trans (he'.mono (by omega))).set (m := st.nx + 1) (by omega) (by omega) _
      · obtain rfl : k = 4 := by omega
        have hzr := hz.rd
        have hR : (rreadN L).R = readR L 4 := rfl
        have hrl := readR_le L 4
        simp [evOp_call, T.get_set, g0, g2, g4, g5, loadE_eq, getC_eq, getsB_succ, getsB_zero, kq4, tq0, tq1, tq2, tq3]
        refine Gd.mono (rnput_any s (rreadN L) z (by rw [hR]; exact hzr) _) ?_
        rintro ⟨y, s1⟩ ⟨hy, x1⟩
        simp only at hy x1
        simp [evOp_call, T.get_set, g0, g2, g4]
        refine Gd.mono (rsame_any s1 y x (putN (rreadN L)) L hy ((hx.ext hs).ext x1) (by rw [putN_len]; split <;> omega) _) ?_
        rintro _ rfl
        have l1 := x1.le
        have k2' : s1.h.get st.nx = _ := (x1.keep _ (by omega)).trans kq2
        have k4' : s1.h.get (st.nx + 1) = _ := (x1.keep _ (by omega)).trans kq4
        have hs1 : Ext st.nx st s1 := hs.trans (x1.mono (by omega))
        have hfin : ∀ v, Ext st.nx st ⟨s1.nx, s1.h.set st.nx v⟩ := fun v => hs1.set (m := st.nx) (Nat.le_refl _) (by omega) v
        by_cases heq : putN (rreadN L) = L
        · have hyes := rget_yes h8 heq
          simp [evOp_call, T.get_set, g0, g2, g4, heq, loadE_eq, getC_eq, getsB_succ, getsB_zero, k2', k4', tq0, tq1, tq2, tq3, storeK_g, putB_eq, roT, hzr.one, sets]
          have hfr := AppRow.from (.inl hz)
          refine ⟨⟨z, ?_, ?_, ?_, own_cap hz⟩, hfin _⟩
          · unfold ndOf; rw [hyes]; rfl
          rotate_left
          · rintro m (⟨o, l, q, e⟩ | ⟨o, l, q, e⟩)
            · have := hfr.2 _ _ _ _ e; omega
            · have := hfr.1 _ _ _ _ e; omega
          · unfold ndOf; rw [hyes]
            exact (OwnRow.setOther (hz.ext x1) (fun o l z e => by have := hfr.1 _ _ _ _ e; omega) _).rd
        · have hno := rget_no heq
          simp [evOp_call, T.get_set, g0, g2, g4, heq, loadE_eq, getC_eq, getsB_succ, getsB_zero, k2', storeK_g, putB_eq, roT, sets]
          exact ⟨none_ hno _, hfin _⟩
  · have h8' : ¬ (L.length : Int) = 8 := by omega
    simp [evOp_call, sets, T.get_set, newC_is, hx.lenS, h8', storeK_g, putB_eq, roT, loadE_eq, getC_eq, getsB_succ, getsB_zero]
    exact ⟨none_ (rget_len h8) _, bx_ext st _⟩
end Go.Proofs.Ytdoennkmcloalaa

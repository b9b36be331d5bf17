/-
  Contracts of package node: a node read.
-/
import Derived.Test.YtdoennkmcloalaaNdA
import Derived.Test.YtdoennkmcloalaaEqW
import Derived.Test.YtdoennkmcloalaaMid
import Derived.Test.YtdoennkmcloalaaRdG
set_option linter.unusedSimpArgs false
namespace Go.Proofs.Ytdoennkmcloalaa
open Go.RowKit Ev
theorem readR_succ {L : List (BitVec 64)} (h : L.length = 8) {k : Nat} (hk : k < 4) : readR L (k + 1) = readR L k ++ (if wat L (2 + k) = 0#64 then [] else [unR (wat L (2 + k))]) := by
  unfold readR
  have e : (L.drop 2)[k]? = some (wat L (2 + k)) := by rw [List.getElem?_drop]; exact wat_get (by omega)
  rw [List.take_add_one, e]
  simp only [Option.toList_some, List.filter_append, List.map_append]
  congr 1
  by_cases hw : wat L (2 + k) = 0#64
  · rw [if_pos hw, hw]; rfl
  · rw [if_neg hw, List.filter_cons_of_pos (by simpa using hw)]; rfl
theorem readR_le (L : List (BitVec 64)) (k : Nat) : (readR L k).length ≤ k := by
  unfold readR
  rw [List.length_map]
  exact Nat.le_trans (List.length_filter_le _ _) (by simp; omega)
theorem own_cap {b z n : Nat} {st : St} {x : V} {l : List V} (h : OwnRow b st x z n l) : CapOk x := by
  intro m o l' q e
  rcases h.2 with ⟨rfl, _⟩ | ⟨m', ty, t, rfl, _⟩
  · cases e
  · cases e
def nilV : V := .c (.slice none 0 0)
def noN : Nd := ⟨0, 0, 0, []⟩
def ndOf (L : List (BitVec 64)) : Nd := (getNd L).getD noN
@[simp] theorem blN3 (x0 x1 x2 : Operand) (a b d : V) (h : a.one = true) (h2 : b.one = true) (h3 : d.one = true) (st : St) : bldK Try.prog 41 [(0, x0), (1, x1), (2, x2)] [a, b, d] [.int .i64 0, .int .i64 0, .int .i64 0, .c (.slice none 0 0)] st = some (.g [a, b, d, .c (.slice none 0 0)], st) := by
  rw [bldK_ok so41, partsK_one rfl h (by simp), partsK_one rfl h2 (by simp), partsK_one rfl h3 (by simp)]; rfl
def ngV (L : List (BitVec 64)) (st : St) (r : V × St) : Prop := (∃ z, r.1 = .t [ndV (ndOf L) z, .bool (getNd L).isSome] ∧ RdRow r.2 z 2 (ndOf L).R.length (pairs (ndOf L).R) ∧ (∀ m, rowIn z m → st.nx ≤ m) ∧ CapOk z) ∧ Ext st.nx st r.2
def ngI (x v : V) (L : List (BitVec 64)) (q2 q4 b : Nat) (s0 : St) (e : Env) (s : St) : Prop := ∃ (k : Nat) (z : V), k ≤ 4 ∧ e.get 0 = some x ∧ e.get 2 = some (.p q2 0) ∧ e.get 4 = some (.p q4 0) ∧ e.get 27 = some v ∧ e.get 28 = some (.int .i64 4) ∧ e.get 29 = some (.int .i64 (k : Int)) ∧
  (∃ t2, s.h.get q2 = some (.cs 41 4 t2)) ∧ (∃ t, s.h.get q4 = some (.cs 41 4 t) ∧ t.get 0 = some (.int .i64 (readN L).t) ∧ t.get 1 = some (.int .i64 (readN L).l) ∧ t.get 2 = some (.int .i64 (readN L).s) ∧ t.get 3 = some z) ∧ OwnRow b s z 2 (readR L k).length (pairs (readR L k)) ∧ Ext s0.nx s0 s ∧ b ≤ s.nx
set_option maxRecDepth 20000 in
set_option maxHeartbeats 8000000 in
theorem nget_any (st : St) (x : V) (L : List (BitVec 64)) (hx : RdRow st x 1 L.length (wv L)) (hcap : CapOk x) (nt : Nat) :
    Gd (callL Try.prog ⟨false, [], 0, nt⟩ 37 [x] st) (ngV L st) := by
  rw [Gd_callL Try.func37 rfl]
  have none_ : getNd L = none → ∀ s : St, (∃ z, V.t [.g [.int .i64 0, .int .i64 0, .int .i64 0, .c (.slice none 0 0)], .bool false] = .t [ndV (ndOf L) z, .bool (getNd L).isSome] ∧ RdRow s z 2 (ndOf L).R.length (pairs (ndOf L).R) ∧ (∀ m, rowIn z m → st.nx ≤ m) ∧ CapOk z) := fun h s => ⟨.c (.slice none 0 0), by unfold ndOf; rw [h]; rfl, by unfold ndOf; rw [h]; exact (OwnRow.nil 0 _ 2).rd, fun m hm => (by rcases hm with ⟨_, _, _, e⟩ | ⟨_, _, _, e⟩ <;> cases e), fun _ _ _ _ e => (by cases e)⟩
  by_cases h8 : L.length = 8
  · have h8' : (L.length : Int) = 8 := by omega
    obtain ⟨m0, o0, ty0, sz0, t0, i0, b0, k0, l0, c0⟩ := hx.idx (st := st) un23 io24 (i := 0) (by omega)
    have d0 : t0.get o0 = some (wd (wat L 0)) := c0 0 _ (by omega) (by simpa using wv_get (wat_get (L := L) (i := 0) (by omega)))
    obtain ⟨m1, o1, ty1, sz1, t1, i1, b1, k1, l1, c1⟩ := hx.idx (st := st) un23 io24 (i := 1) (by omega)
    have d1 : t1.get o1 = some (wd (wat L 1)) := c1 0 _ (by omega) (by simpa using wv_get (wat_get (L := L) (i := 1) (by omega)))
    have n0 : ¬ st.nx = m0 := by omega
    have n1 : ¬ st.nx = m1 := by omega
    have q1 : ¬ st.nx + 1 = st.nx := by omega
    have e2 : ∀ v w, Ext st.nx st ⟨st.nx + 1 + 1, (st.h.set st.nx v).set (st.nx + 1) w⟩ := fun v w => (bx_ext st v).new (Nat.le_succ _) w
    simp [evOp_call, sets, T.get_set, newC_is, hx.lenS, h8']
    refine ⟨by kernel_rfl, ?_⟩
    simp [evOp_call, sets, T.get_set, newC_is, i0, i1, loadE_eq, getC_eq, k0, k1, d0, d1, n0, n1]
    rw [cxOf_store]
    rotate_left
    · kernel_rfl
    rw [forb_oneR (by kernel_rfl)]
    simp [evOp_call, sets, T.get_set, newC_is, storeK_g, putB_eq, roT]
    refine Gd_midR (i := .i64) (i2 := .i64) (k := 2) (k2 := 6) un23 io24 (hx.ext (e2 _ _)) hcap (by simp) (by simp) (by omega) (by omega) fun v hv => ?_
    have hv2 := hv _ (hx.ext (e2 (.cs 41 4 .lf) (.cs 41 4 .lf)))
    simp [evOp_call, sets, T.get_set, hv2.lenS]
    refine Gd_loop (ngI x v L st.nx (st.nx + 1) (st.nx + 1 + 1) st) (fun en _ => muAt 29 4 en) ?_ ?_
    · refine ⟨0, .c (.slice none 0 0), by omega, by simp [T.get_set], by simp [T.get_set], by simp [T.get_set], by simp [T.get_set], by simp [T.get_set], by simp [T.get_set], ⟨_, (T.get_set_ne _ _ q1).trans (T.get_set_same _ _ _)⟩, ⟨_, T.get_set_same _ _ _, by simp [T.get_set, readN], by simp [T.get_set, readN], by simp [T.get_set, readN], by simp [T.get_set]⟩, OwnRow.nil _ _ _, e2 _ _, Nat.le_refl _⟩
    · rintro en s ⟨k, z, hk, g0, g2, g4, g27, g28, g29, ⟨tz, kq2⟩, ⟨tq, kq4, tq0, tq1, tq2, tq3⟩, hz, hs, hbn⟩
      have hvs := hv s (hx.ext hs)
      have hne4 : ¬ s.nx = st.nx + 1 := by omega
      have hne2 : ¬ s.nx = st.nx := by omega
      by_cases hlt : k < 4
      · have hlt' : (k : Int) < 4 := by omega
        have hwk := wrap_nat (n := k) (by omega)
        have hsucc := readR_succ h8 hlt
        have hrl := readR_le L k
        obtain ⟨ma, oa, tya, sza, ta, ia, ba, ka, la, ca⟩ := hvs.idx (st := s) un23 io24 (i := k) (by omega)
        have da : ta.get oa = some (wd (wat L (2 + k))) := ca 0 _ (by omega) (by
          rw [Nat.mul_one, Nat.add_zero]
          refine wv_get ?_
          rw [List.getElem?_take, if_pos (by omega), List.getElem?_drop]
          exact wat_get (by omega))
        by_cases hw : wat L (2 + k) = 0#64
        · rw [if_pos hw, List.append_nil] at hsucc
          rw [← hsucc] at hz
          simp [evOp_call, T.get_set, g0, g2, g4, g27, g28, g29, hlt', ia, loadE_eq, getC_eq, ka, da, hw, hwk]
          exact ⟨⟨k + 1, z, by omega, by simp [T.get_set, g0], by simp [T.get_set, g2], by simp [T.get_set, g4], by simp [T.get_set, g27], by simp [T.get_set, g28], by simp [T.get_set], ⟨tz, kq2⟩, ⟨tq, kq4, tq0, tq1, tq2, tq3⟩, hz, hs, hbn⟩, muAt_lt g29 (by simp [T.get_set]) hlt⟩
        · rw [if_neg hw] at hsucc
          simp [evOp_call, T.get_set, g0, g2, g4, g27, g28, g29, hlt', ia, loadE_eq, getC_eq, ka, da, hw, kq4, tq3]
          refine evOp_build1 (v := .g [.int .i64 (unR (wat L (2 + k))).1, .int .i64 (unR (wat L (2 + k))).2]) (cs := [.int .i64 (unR (wat L (2 + k))).1, .int .i64 (unR (wat L (2 + k))).2]) (fun k => el39 k) (fun k => ze47 k) rfl (by omega) (by simp [T.get_set, unR]) (fun k => rfl) rfl ?_
          simp [evOp_call, T.get_set]
          have hext := fun v => (Ext.refl s.nx s).new (Nat.le_refl _) v
          refine Gd_append un39 un39 io47 (n := (readR L k).length) (lx := 1) (new := [.int .i64 (unR (wat L (2 + k))).1, .int .i64 (unR (wat L (2 + k))).2]) (hz.ext (hext _)) (by show st.nx + 1 + 1 ≤ s.nx + 1; omega) (by decide) (fun s' h => by cases h) (fun k => rfl) (fun k => by simp [getC_eq, getsB_2, T.get_set, sets]) rfl (by omega) ?_
          intro s' st' ho' he' _ _
          have kq4' : st'.h.get (st.nx + 1) = _ := (he'.keep _ (Nat.lt_succ_self _)).trans ((T.get_set_ne _ _ hne4).trans kq4)
          have kq2' : st'.h.get st.nx = _ := (he'.keep _ (by omega)).trans ((T.get_set_ne _ _ hne2).trans kq2)
          have hone' := ho'.rd.one
          have hle' : s.nx + 1 ≤ st'.nx := he'.le
          have hfr := AppRow.from (.inl ho')
          simp [evOp_call, T.get_set, g0, g2, g4, g27, g28, g29]
          rw [storeK_1 hone']
          simp [evOp_call, T.get_set, g0, g2, g4, g27, g28, g29, putB_eq, roT, kq4', sets, hwk]
          refine ⟨⟨k + 1, s', by omega, by simp [T.get_set, g0], by simp [T.get_set, g2], by simp [T.get_set, g4], by simp [T.get_set, g27], by simp [T.get_set, g28], by simp [T.get_set], ⟨tz, (T.get_set_ne _ _ q1).trans kq2'⟩, ⟨_, T.get_set_same _ _ _, by simp [T.get_set, tq0], by simp [T.get_set, tq1], by simp [T.get_set, tq2], by simp [T.get_set]⟩, ?_, ?_, by show st.nx + 1 + 1 ≤ st'.nx; omega⟩, muAt_lt g29 (by simp [T.get_set]) hlt⟩
          · rw [hsucc, pairs_app, List.length_append]
            exact OwnRow.setOther ho' (fun o l z e => by have := hfr.1 _ _ _ _ e; omega) _
          · exact ((hs.trans ((hext _).mono (by omega))).trans (he'.mono (by omega))).set (m := st.nx + 1) (by omega) (by omega) _
      · obtain rfl : k = 4 := by omega
        have hzr := hz.rd
        have hR : (readN L).R = readR L 4 := rfl
        have hrl := readR_le L 4
        simp [evOp_call, T.get_set, g0, g2, g4, g27, g28, g29, loadE_eq, getC_eq, getsB_succ, getsB_zero, kq4, tq0, tq1, tq2, tq3]
        refine Gd.mono (nput_any s (readN L) z (by rw [hR]; exact hzr) _) ?_
        rintro ⟨y, s1⟩ ⟨hy, _, x1⟩
        simp only at hy x1
        simp [evOp_call, T.get_set, g0, g2, g4]
        refine Gd.mono (eq_any s1 y x (putN (readN L)) L hy ((hx.ext hs).ext x1) (by rw [putN_len]; split <;> omega) _) ?_
        rintro _ rfl
        have l1 := x1.le
        have k2' : s1.h.get st.nx = _ := (x1.keep _ (by omega)).trans kq2
        have k4' : s1.h.get (st.nx + 1) = _ := (x1.keep _ (by omega)).trans kq4
        have hs1 : Ext st.nx st s1 := hs.trans (x1.mono (by omega))
        have hfin : ∀ v, Ext st.nx st ⟨s1.nx, s1.h.set st.nx v⟩ := fun v => hs1.set (m := st.nx) (Nat.le_refl _) (by omega) v
        by_cases heq : putN (readN L) = L
        · have hyes : getNd L = some (readN L) := by unfold getNd; rw [if_pos ⟨h8, heq⟩]
          simp [evOp_call, T.get_set, g0, g2, g4, heq, loadE_eq, getC_eq, getsB_succ, getsB_zero, k2', k4', tq0, tq1, tq2, tq3, storeK_g, putB_eq, roT, hzr.one, sets]
          have hfr := AppRow.from (.inl hz)
          refine ⟨⟨z, ?_, ?_, ?_, own_cap hz⟩, hfin _⟩
          · unfold ndOf; rw [hyes]; rfl
          rotate_left
          · rintro m (⟨o, l, q, e⟩ | ⟨o, l, q, e⟩)
            · have := hfr.2 _ _ _ _ e; omega
            · have := hfr.1 _ _ _ _ e; omega
          · unfold ndOf; rw [hyes]
            exact (OwnRow.setOther (hz.ext x1) (fun o l z e => by have := hfr.1 _ _ _ _ e; omega) _).rd
        · have hno : getNd L = none := by unfold getNd; rw [if_neg (fun h => heq h.2)]
          simp [evOp_call, T.get_set, g0, g2, g4, heq, loadE_eq, getC_eq, getsB_succ, getsB_zero, k2', storeK_g, putB_eq, roT, sets]
          exact ⟨none_ hno _, hfin _⟩
  · have h8' : ¬ (L.length : Int) = 8 := by omega
    have hno : getNd L = none := by unfold getNd; rw [if_neg (fun h => h8 h.1)]
    simp [evOp_call, sets, T.get_set, newC_is, hx.lenS, h8', storeK_g, putB_eq, roT, loadE_eq, getC_eq, getsB_succ, getsB_zero]
    exact ⟨none_ hno _, bx_ext st _⟩
end Go.Proofs.Ytdoennkmcloalaa

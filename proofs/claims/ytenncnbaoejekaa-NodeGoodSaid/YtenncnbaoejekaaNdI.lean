/-
  The walk of NodeGood.
-/
import Derived.Test.YtenncnbaoejekaaNdH
set_option linter.unusedSimpArgs false
namespace Go.Proofs.Ytenncnbaoejekaa
open Go.RowKit Ev
theorem row_below {st : St} {y : V} {z n m : Nat} {l : List V} (hy : RdRow st y z n l) (hm : rowIn y m) : m < st.nx := by
  rcases hm with ⟨o, l, q, e⟩ | ⟨o, l, q, e⟩
  · exact hy.lt_of.2 _ _ _ _ e
  · exact hy.lt_of.1 _ _ _ _ e
theorem sl_cap {b n : Nat} {st : St} {z : V} {L : List (BitVec 64)} (h : SlRow b st z n L) : CapOk z := by
  obtain ⟨_, m, _, _, rfl, _⟩ := h
  intro m o l q e
  injection e with _ _ e1 e2
  omega
theorem good_sum {g : Gm} {N : Nd} (h : goodN g N) : sumN N.R = needN N := by
  obtain ⟨_, h⟩ := h
  by_cases ht : N.t = 0
  · rw [if_pos ht] at h
    obtain ⟨h1, h2, h3⟩ := h
    have : N.R = [] := List.length_eq_zero_iff.1 h3
    unfold needN
    rw [this, h2, ht]; rfl
  · rw [if_neg ht] at h; exact h.2.2.2.2
set_option maxRecDepth 20000 in
set_option maxHeartbeats 16000000 in
theorem g_NodeGood (st : St) (g : Gm) (N : Nd) (y : V) (hy : RdRow st y 2 N.R.length (pairs N.R)) (hcap : CapOk y) (hs : N.s ≤ 9223372036854775807) :
    Gd (lawC Try.prog 67 ⟨false, [], 0, 0⟩ 16 [gV g, ndV N y] st) fun r => r.1 = .bool true := by
  rw [Gd_lawC Try.func16 rfl]
  have hcell : ∀ k : List V → Res, cellsOf (ndV N y) k = k [.int .i64 N.t, .int .i64 N.l, .int .i64 N.s, y] := fun k => rfl
  have gcell : ∀ k : List V → Res, cellsOf (gV g) k = k [.int .i64 g.b, .int .i64 g.n, .int .i64 g.c, .int .i64 g.k] := fun k => rfl
  have gVg : V.g [V.int .i64 g.b, V.int .i64 g.n, V.int .i64 g.c, V.int .i64 g.k] = gV g := rfl
  have hnd : V.g [.int .i64 N.t, .int .i64 N.l, .int .i64 N.s, y] = ndV N y := rfl
  have e2 : ∀ v w, Ext st.nx st ⟨st.nx + 1 + 1, (st.h.set st.nx v).set (st.nx + 1) w⟩ := fun v w => (bx_ext st v).new (Nat.le_succ _) w
  have q1 : ¬ st.nx + 1 = st.nx := by omega
  by_cases h10 : (10 : Int) < N.R.length
  · simp [hcell, gcell, evOp_call, sets, T.get_set, newC_is, loadE_eq, getC_eq, getsB_succ, getsB_zero, q1, hy.lenS, h10, oracF_cons]
  simp [hcell, gcell, evOp_call, sets, T.get_set, newC_is, loadE_eq, getC_eq, getsB_succ, getsB_zero, q1, hy.lenS, h10, oracF_cons]
  generalize hS : (⟨st.nx + 1 + 1, _⟩ : St) = s0
  have x0 : Ext st.nx st s0 := hS ▸ e2 _ _
  have n0 : st.nx + 1 < s0.nx := by rw [← hS]; exact Nat.lt_succ_self _
  have kG : s0.h.get st.nx = some (gB g) := by rw [← hS]; exact (T.get_set_ne _ _ q1).trans (T.get_set_same _ _ _)
  have kN : s0.h.get (st.nx + 1) = some (.cs 96 4 ((((T.lf.set 0 (.int .i64 N.t)).set 1 (.int .i64 N.l)).set 2 (.int .i64 N.s)).set 3 y)) := by rw [← hS]; exact T.get_set_same _ _ _
  clear hS
  unfold gB at kG
  rw [gVg, hnd]
  refine Gd.mono (ngood_any s0 g N y (hy.ext x0) hcap hs _) ?_
  rintro ⟨r, s1⟩ ⟨hr, x1⟩
  simp only at hr x1
  subst hr
  have y1 := x0.trans (x1.mono x0.le)
  have n1 : st.nx + 1 < s1.nx := Nat.lt_of_lt_of_le n0 x1.le
  have kG1 := (x1.keep _ (by omega)).trans kG
  have kN1 := (x1.keep _ (by omega)).trans kN
  by_cases hG : goodN g N
  · have hf := good_fits hG
    have hl8 : (putN N).length = 8 := by rw [putN_len, if_pos hf]
    simp [evOp_call, T.get_set, loadE_eq, getC_eq, getsB_succ, getsB_zero, kN1, hG, oracF_cons]
    rw [hnd]
    refine Gd.mono (nput_any s1 N y (hy.ext y1) _) ?_
    rintro ⟨z, s2⟩ ⟨hz, hzo, x2⟩
    simp only at hz hzo x2
    have y2 := y1.trans (x2.mono y1.le)
    have n2 : st.nx + 1 < s2.nx := Nat.lt_of_lt_of_le n1 x2.le
    have kG2 := (x2.keep _ (by omega)).trans kG1
    have kN2 := (x2.keep _ (by omega)).trans kN1
    simp [evOp_call, T.get_set, oracF_cons]
    refine Gd.mono (nget_any s2 z (putN N) hz (sl_cap (hzo hf)) _) ?_
    rintro ⟨r, s3⟩ ⟨⟨w, hr, hw, hwm, hwc⟩, x3⟩
    simp only at hr hw hwm x3
    have hO : ndOf (putN N) = N := by unfold ndOf; rw [getNd_put hf]; rfl
    rw [hO] at hw hr
    rw [getNd_put hf] at hr
    subst hr
    have y3 := y2.trans (x3.mono y2.le)
    have n3 : st.nx + 1 < s3.nx := Nat.lt_of_lt_of_le n2 x3.le
    have kG3 := (x3.keep _ (by omega)).trans kG2
    have kN3 := (x3.keep _ (by omega)).trans kN2
    have hwone := hw.one
    simp [ndV, evOp_call, sets, T.get_set, newC_is, storeK_g, putB_eq, roT]
    refine ⟨by kernel_rfl, ?_⟩
    generalize hS : (⟨s3.nx + 1, _⟩ : St) = s4
    have x4 : Ext s3.nx s3 s4 := hS ▸ bx_ext s3 _
    have n4 : s4.nx = s3.nx + 1 := by rw [← hS]
    obtain ⟨tw, kW4, tw0, tw1, tw2, tw3⟩ : ∃ t, s4.h.get s3.nx = some (.cs 96 4 t) ∧ t.get 0 = some (.int .i64 N.t) ∧ t.get 1 = some (.int .i64 N.l) ∧ t.get 2 = some (.int .i64 N.s) ∧ t.get 3 = some w := by rw [← hS]; exact ⟨_, T.get_set_same _ _ _, by simp [T.get_set], by simp [T.get_set], by simp [T.get_set], by simp [T.get_set]⟩
    have kG4 := (x4.keep _ (by omega)).trans kG3
    have kN4 := (x4.keep _ (by omega)).trans kN3
    have y4 := y3.trans (x4.mono y3.le)
    clear hS
    have hnw : V.g [.int .i64 N.t, .int .i64 N.l, .int .i64 N.s, w] = ndV N w := rfl
    have l4 : ∀ (b nx' : Nat), inF ((0, s3.nx) :: (s3.nx + 1, nx') :: forb b [] []) s3.nx = false := fun b nx' => inF_lds fun e he => by cases he
    simp [evOp_call, T.get_set, hz.lenS, hl8, loadE_eq, getC_eq, getsB_succ, getsB_zero, kW4, tw0, tw1, tw2, tw3, l4, n4, oracF_cons]
    rw [hnw, cxOf_callL [(st.nx + 1, st.nx + 1 + 1)] (by kernel_rfl) (by kernel_rfl) (looseW_at 3 (.p (st.nx + 1) 0) (by simp [T.get_set]) (by kernel_rfl)) (fun x hx => by simp at hx; subst hx; simp [clashes_tmp, T.get_set, ndV, blkOf]), forb_nil]
    simp only [List.append_nil]
    refine Gd.mono (inode_fl s4 [(st.nx + 1, st.nx + 1 + 1)] (fun k hk => by rw [inF_cons, if_neg (by omega)]; rfl) N w (hw.ext x4) (by omega) (fun m hm => by have := hwm m hm; rw [inF_cons, if_neg (by omega)]; rfl) _) ?_
    rintro ⟨r, s5⟩ ⟨⟨u, hr, hu, _⟩, x5⟩
    simp only at hr hu x5
    subst hr
    have kG5 := (x5.keep _ (by omega)).trans kG4
    have kN5 := (x5.keep _ (by omega)).trans kN4
    have kW5 := (x5.keep _ (by omega)).trans kW4
    have y5 := y4.trans (x5.mono y4.le)
    have n5 := x5.le
    have r5 : ∀ i : Nat, ∀ e ∈ rsOf [] i (s3.nx + 1) s5.nx, s3.nx < e.2.1 := fun i => rsOf_lt (fun e h => by cases h) (Nat.lt_succ_self _)
    have l5 : ∀ (b i nx' : Nat), inF ((0, st.nx + 1) :: (st.nx + 1 + 1, nx') :: forb b (rsOf [] i (s3.nx + 1) s5.nx) []) (st.nx + 1) = false := fun b i nx' => inF_lds fun e he => Nat.lt_trans n3 (r5 i e he)
    simp [evOp_call, T.get_set, loadE_eq, getC_eq, getsB_succ, getsB_zero, kN5, l5, oracF_cons]
    rw [hnd, cxOf_call (by kernel_rfl) (by kernel_rfl), forb_step (by kernel_rfl) rfl]
    refine Gd.mono (inode_fl s5 [] (fun _ _ => rfl) N y (hy.ext y5) (by omega) (fun _ _ => rfl) _) ?_
    rintro ⟨r, s6⟩ ⟨⟨u2, hr, hu2, _⟩, x6⟩
    simp only at hr hu2 x6
    subst hr
    have kG6 := (x6.keep _ (by omega)).trans kG5
    have kN6 := (x6.keep _ (by omega)).trans kN5
    have kW6 := (x6.keep _ (by omega)).trans kW5
    have y6 := y5.trans (x6.mono y5.le)
    have n6 := x6.le
    have r6 : ∀ i j : Nat, ∀ e ∈ rsOf (rsOf [] i (s3.nx + 1) s5.nx) j s5.nx s6.nx, s3.nx < e.2.1 := fun i j => rsOf_lt (r5 i) (by omega)
    simp [evOp_call, T.get_set, oracF_cons]
    rw [cxOf_call (by kernel_rfl) (by kernel_rfl), forb_step (by kernel_rfl) (forb_step (by kernel_rfl) rfl)]
    refine Gd.mono (nodes_any s6 N N u u2 (hu.ext x6) hu2 (by omega) _) ?_
    rintro ⟨r, s7⟩ ⟨hr, x7⟩
    simp only at hr x7
    subst hr
    have kG7 := (x7.keep _ (by omega)).trans kG6
    have kN7 := (x7.keep _ (by omega)).trans kN6
    have kW7 := (x7.keep _ (by omega)).trans kW6
    have y7 := y6.trans (x7.mono y6.le)
    have n7 := x7.le
    have r7 : ∀ i j k : Nat, ∀ e ∈ rsOf (rsOf (rsOf [] i (s3.nx + 1) s5.nx) j s5.nx s6.nx) k s6.nx s7.nx, s3.nx < e.2.1 := fun i j k => rsOf_lt (r6 i j) (by omega)
    have l7 : ∀ (b i j k nx' : Nat), inF ((0, st.nx + 1) :: (st.nx + 1 + 1, nx') :: forb b (rsOf (rsOf (rsOf [] i (s3.nx + 1) s5.nx) j s5.nx s6.nx) k s6.nx s7.nx) []) (st.nx + 1) = false := fun b i j k nx' => inF_lds fun e he => Nat.lt_trans n3 (r7 i j k e he)
    simp [evOp_call, T.get_set, loadE_eq, getC_eq, getsB_succ, getsB_zero, kN7, l7, oracF_cons]
    rw [hnd, cxOf_callL [(st.nx + 1, st.nx + 1 + 1)] (by kernel_rfl) (by kernel_rfl) (looseW_at 3 (.p (st.nx + 1) 0) (by simp [T.get_set]) (by kernel_rfl)) (fun x hx => by simp at hx; subst hx; simp [clashes_tmp, T.get_set, ndV, blkOf]), forb_step (by kernel_rfl) (forb_step (by kernel_rfl) (forb_step (by kernel_rfl) rfl))]
    simp only [List.append_nil]
    refine Gd.mono (blocks_any s7 _ (fun k hk => by rw [inF_cons, if_neg (by omega)]; rfl) N y (hy.ext y7) (by omega) (fun m hm => by have := row_below hy hm; rw [inF_cons, if_neg (by omega)]; rfl) _) ?_
    rintro ⟨r, s8⟩ ⟨hr, x8⟩
    simp only at hr x8
    subst hr
    have kG8 := (x8.keep _ (by omega)).trans kG7
    have kN8 := (x8.keep _ (by omega)).trans kN7
    have kW8 := (x8.keep _ (by omega)).trans kW7
    have y8 := y7.trans (x8.mono y7.le)
    have n8 := x8.le
    have r8 : ∀ i j k m : Nat, ∀ e ∈ rsOf (rsOf (rsOf (rsOf [] i (s3.nx + 1) s5.nx) j s5.nx s6.nx) k s6.nx s7.nx) m s7.nx s8.nx, s3.nx < e.2.1 := fun i j k m => rsOf_lt (r7 i j k) (by omega)
    have l8 : ∀ (b i j k m nx' : Nat), inF ((0, st.nx + 1) :: (st.nx + 1 + 1, nx') :: forb b (rsOf (rsOf (rsOf (rsOf [] i (s3.nx + 1) s5.nx) j s5.nx s6.nx) k s6.nx s7.nx) m s7.nx s8.nx) []) (st.nx + 1) = false := fun b i j k m nx' => inF_lds fun e he => Nat.lt_trans n3 (r8 i j k m e he)
    simp [evOp_call, T.get_set, loadE_eq, getC_eq, getsB_succ, getsB_zero, kN8, l8, oracF_cons]
    rw [hnd, cxOf_call (by kernel_rfl) (by kernel_rfl), forb_step (by kernel_rfl) (forb_step (by kernel_rfl) (forb_step (by kernel_rfl) (forb_step (by kernel_rfl) rfl)))]
    refine Gd.mono (needs_any s8 N y hs _) ?_
    rintro ⟨r, s9⟩ ⟨hr, x9⟩
    simp only at hr x9
    subst hr
    have kG9 := (x9.keep _ (by omega)).trans kG8
    have kW9 := (x9.keep _ (by omega)).trans kW8
    have n9 := x9.le
    have r9 : ∀ i j k m o : Nat, ∀ e ∈ rsOf (rsOf (rsOf (rsOf (rsOf [] i (s3.nx + 1) s5.nx) j s5.nx s6.nx) k s6.nx s7.nx) m s7.nx s8.nx) o s8.nx s9.nx, s3.nx < e.2.1 := fun i j k m o => rsOf_lt (r8 i j k m) (by omega)
    have l9 : ∀ (b i j k m o nx' : Nat), inF ((0, st.nx) :: (st.nx + 1, nx') :: forb b (rsOf (rsOf (rsOf (rsOf (rsOf [] i (s3.nx + 1) s5.nx) j s5.nx s6.nx) k s6.nx s7.nx) m s7.nx s8.nx) o s8.nx s9.nx) []) st.nx = false := fun b i j k m o nx' => inF_lds fun e he => by have := r9 i j k m o e he; omega
    have l9' : ∀ (b i j k m o nx' : Nat), inF ((0, s3.nx) :: (s3.nx + 1, nx') :: forb b (rsOf (rsOf (rsOf (rsOf (rsOf [] i (s3.nx + 1) s5.nx) j s5.nx s6.nx) k s6.nx s7.nx) m s7.nx s8.nx) o s8.nx s9.nx) []) s3.nx = false := fun b i j k m o nx' => inF_lds fun e he => r9 i j k m o e he
    have hsum := good_sum hG
    simp [evOp_call, T.get_set, hsum, loadE_eq, getC_eq, getsB_succ, getsB_zero, kG9, kW9, tw0, tw1, tw2, tw3, l9, l9', oracF_cons]
    rw [gVg, hnw, cxOf_call (by kernel_rfl) (by kernel_rfl), forb_step (by kernel_rfl) (forb_step (by kernel_rfl) (forb_step (by kernel_rfl) (forb_step (by kernel_rfl) (forb_step (by kernel_rfl) rfl))))]
    refine Gd.mono (ngood_any s9 g N w (((((((hw.ext x4).ext x5).ext x6).ext x7).ext x8).ext x9)) hwc hs _) ?_
    rintro ⟨r, s10⟩ ⟨hr, x10⟩
    simp only at hr x10
    subst hr
    simp [evOp_call, T.get_set, hG]
  · simp [evOp_call, T.get_set, hG]
theorem rel_gVN (ρ : Rho) (g : Gm) : Rel ρ (gV g) (.agg #[.int .i64 g.b, .int .i64 g.n, .int .i64 g.c, .int .i64 g.k]) := by
  unfold gV
  simp only [Rel]
  exact ⟨_, rfl, .cons (rel_int _ _) (.cons (rel_int _ _) (.cons (rel_int _ _) (.cons (rel_int _ _) .nil))), by simp⟩
theorem w_NodeGood (b n c k : Int) (p q r : Int) (R : List (Int × Int)) (W : World) (_ : -9223372036854775808 ≤ b ∧ b ≤ 9223372036854775807) (_ : -9223372036854775808 ≤ n ∧ n ≤ 9223372036854775807) (_ : -9223372036854775808 ≤ c ∧ c ≤ 9223372036854775807) (_ : -9223372036854775808 ≤ k ∧ k ≤ 9223372036854775807)
    (_ : (Lit.int .i64 p).wf = true) (_ : (Lit.int .i64 q).wf = true) (hr : (Lit.int .i64 r).wf = true) (x : Value) (hx0 : InRow W x 2 R.length (pairs R) ∧ InCap x) (_ : ∀ r ∈ R, (Lit.int .i64 r.1).wf = true ∧ (Lit.int .i64 r.2).wf = true) :
    Calls Try.prog 16 #[.agg #[.int .i64 b, .int .i64 n, .int .i64 c, .int .i64 k], .agg #[.int .i64 p, .int .i64 q, .int .i64 r, x]] W fun e W' => e = .returned (.bool true) ∧ Below W.heap.size W W' := by
  obtain ⟨hx, hc⟩ := hx0
  obtain ⟨st, ρ, w, hb, _, hw', _, hk⟩ := (Begin.zero W).row hx
  exact law_calls (lawC_sound namesOkN mixesN Try.func67 rfl nodeAwake) hb (.cons (rel_gVN _ ⟨b, n, c, k⟩) (.cons (rel_ndV _ p q r _ _ _ hw' hk.one) .nil)) (g_NodeGood st ⟨b, n, c, k⟩ ⟨p, q, r, R⟩ w hk (rel_cap hw' hc) (i64_bd hr).2)
end Go.Proofs.Ytenncnbaoejekaa

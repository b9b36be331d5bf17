/-
  The walk of SlotSays.
-/
import Derived.Test.YtdoennkmcloalaaSoI
set_option linter.unusedSimpArgs false
set_option linter.unusedVariables false
namespace Go.Proofs.Ytdoennkmcloalaa
open Go.RowKit Ev
set_option maxRecDepth 20000 in
set_option maxHeartbeats 4000000 in
theorem sput_none (st : St) (s : So) (hb : ∀ b ∈ s.l, b < 256) (hg : ¬ soGood s) (nt : Nat) : Gd (callL Try.prog ⟨false, [], 0, nt⟩ 56 [soV s] st) fun r => r.1 = .c (.slice none 0 0) := by
  rw [Gd_callL Try.func56 rfl]
  have hcell : ∀ k : List V → Res, cellsOf (soV s) k = k [.int .i64 s.n, .s s.l] := fun k => rfl
  have hsv : V.g [.int .i64 s.n, .s s.l] = soV s := rfl
  simp [hcell, evOp_call, sets, T.get_set, newC_is, loadE_eq, getC_eq, getsB_succ, getsB_zero]
  rw [hsv]
  refine Gd.mono (sgood_any _ s hb _) ?_
  rintro ⟨r, s1⟩ ⟨hr, x1⟩
  simp only at hr x1
  subst hr
  simp [T.get_set, hg]
theorem Gd_both {α : Type} {r : Option α} {P Q : α → Prop} (h : Gd r P) (k : Gd r Q) : Gd r fun a => P a ∧ Q a := by
  obtain ⟨a, h1, h2⟩ := h
  obtain ⟨b, k1, k2⟩ := k
  rw [h1] at k1
  injection k1 with k1
  subst k1
  exact ⟨a, h1, h2, k2⟩
theorem sputR_any (st : St) (s : So) (hb : ∀ b ∈ s.l, b < 256) (nt : Nat) : Gd (callL Try.prog ⟨false, [], 0, nt⟩ 56 [soV s] st) fun r => (RdRow r.2 r.1 1 (soPut s).length (wv (soPut s)) ∧ RowFrom st.nx r.1) ∧ Ext st.nx st r.2 := by
  by_cases hg : soGood s
  · exact Gd.mono (sput_any st s hb nt) fun r h => ⟨⟨h.1, rowFrom_sl (h.2.1 hg)⟩, h.2.2⟩
  · exact Gd.mono (Gd_both (sput_any st s hb nt) (sput_none st s hb hg nt)) fun r h => ⟨⟨h.1.1, by rw [h.2]; exact rowFrom_nil _⟩, h.1.2.2⟩
theorem soF2_callL {g : Nat} (h : Nat.beq g 52 = false) (k : Nat.beq g 57 = false) (c : Cx) (args : List V) (st : St) : soF2 c g args st = callL Try.prog c g args st := by rw [soF2_ne h, soF1_ne k]
theorem rputS2_any (st : St) (s : So) (hb : ∀ b ∈ s.l, b < 256) (hn : s.l.length ≤ 1000000) (nt : Nat) : Gd (soF2 ⟨false, [], 0, nt⟩ 57 [soV s] st) fun r => (RdRow r.2 r.1 1 (soPut s).length (wv (soPut s)) ∧ RowFrom st.nx r.1) ∧ Ext st.nx st r.2 := by
  rw [soF2_ne rfl]
  exact Gd.mono (rputS_any st s hb hn nt) fun r h => ⟨⟨h.1, h.2.1⟩, h.2.2⟩
set_option maxRecDepth 20000 in
set_option maxHeartbeats 8000000 in
theorem g_SlotSays (st : St) (s : So) (x : V) (L : List (BitVec 64)) (hb : ∀ b ∈ s.l, b < 256) (hx : RdRow st x 1 L.length (wv L)) (hcap : CapOk x) (hin : 0 < L.length → ∃ m o q, x = .sl m o L.length q ∧ m < st.nx ∧ ∀ s, Ext st.nx st s → isRo s.h m = true) :
    Gd (lawX Try.prog soF2 50 ⟨false, [], 0, 0⟩ 5 [soV s, x] st) fun r => r.1 = .bool true := by
  rw [Gd_lawX Try.func5 rfl]
  have hcell : ∀ k : List V → Res, cellsOf (soV s) k = k [.int .i64 s.n, .s s.l] := fun k => rfl
  have hsv : ∀ s : So, V.g [.int .i64 s.n, .s s.l] = soV s := fun _ => rfl
  have ocell : ∀ k : List V → Res, cellsOf (soV (soOf L)) k = k [.int .i64 (soOf L).n, .s (soOf L).l] := fun k => rfl
  have hwu : wantK true (some V.u) = false := rfl
  rw [show sets [soV s, x] 0 T.lf = (T.set .lf 0 (soV s)).set 1 x from rfl]
  simp [hcell, evOp_call, sets, T.get_set, newC_is, loadE_eq, getC_eq, getsB_succ, getsB_zero, oracF_cons]
  by_cases a0 : 100 < s.l.length
  · have a0' : (100 : Int) < s.l.length := by omega
    simp [evOp_call, T.get_set, hx.lenS, loadE_eq, getC_eq, len_str un9, a0, a0', oracF_cons]
  have a0' : ¬ (100 : Int) < s.l.length := by omega
  by_cases a1 : 12 < L.length
  · have a1' : (12 : Int) < L.length := by omega
    simp [evOp_call, T.get_set, hx.lenS, loadE_eq, getC_eq, len_str un9, a0, a0', a1, a1', oracF_cons]
  have a1' : ¬ (12 : Int) < L.length := by omega
  simp [evOp_call, T.get_set, hx.lenS, loadE_eq, getC_eq, len_str un9, a0, a0', a1, a1', oracF_cons, newC_is, storeK_g, putB_eq, roT, sets]
  obtain ⟨s0, hS0⟩ : ∃ s0 : St, s0 = ⟨st.nx + 1 + 1, (st.h.set st.nx (.cs 63 2 ((T.lf.set 0 (.int .i64 s.n)).set 1 (.s s.l)))).set (st.nx + 1) (.cs 64 2 ((((T.lf.set 0 (.int .i64 0)).set 1 (.s [])).set 0 (.int .i64 s.n)).set 1 (.s s.l)))⟩ := ⟨_, rfl⟩
  have n0 : s0.nx = st.nx + 2 := by rw [hS0]
  have x0 : Ext st.nx st s0 := by rw [hS0]; exact (bx_ext st _).new (Nat.le_succ _) _
  have q1 : ¬ st.nx + 1 = st.nx := by omega
  have kA0 : s0.h.get st.nx = some (.cs 63 2 ((T.lf.set 0 (.int .i64 s.n)).set 1 (.s s.l))) := by rw [hS0]; exact (T.get_set_ne _ _ q1).trans (T.get_set_same _ _ _)
  have kB0 : s0.h.get (st.nx + 1) = some (.cs 64 2 ((((T.lf.set 0 (.int .i64 0)).set 1 (.s [])).set 0 (.int .i64 s.n)).set 1 (.s s.l))) := by rw [hS0]; exact T.get_set_same _ _ _
  rw [← hS0, soF2_callL rfl rfl]
  refine Gd.mono (sget_any s0 x L (hx.ext x0) _) ?_
  rintro ⟨r, s1⟩ ⟨hr, x1⟩
  simp only at hr x1
  subst hr
  have n1 : s0.nx ≤ s1.nx := x1.le
  have kA1 := (x1.keep st.nx (by omega)).trans kA0
  have kB1 := (x1.keep (st.nx + 1) (by omega)).trans kB0
  have hx1 := (hx.ext x0).ext x1
  have hst : ∀ (c : Cx) (st : St) (t : TypeId) (n i : Nat) (s : So), storeK Try.prog c st t n i (soV s) = storeK Try.prog c st t n i (.g [.int .i64 s.n, .s s.l]) := fun _ _ _ _ _ _ => rfl
  simp [hst, evOp_call, T.get_set, oracF_cons, newC_is, storeK_g, putB_eq, roT, sets]
  have qz : V.g [.int .i64 (soOf L).n, .s (soOf L).l] = soV (soOf L) := rfl
  obtain ⟨s2, hS2⟩ : ∃ s2 : St, s2 = ⟨s1.nx + 1, s1.h.set s1.nx (.cs 63 2 ((((T.lf.set 0 (.int .i64 0)).set 1 (.s [])).set 0 (.int .i64 (soOf L).n)).set 1 (.s (soOf L).l)))⟩ := ⟨_, rfl⟩
  have n2 : s2.nx = s1.nx + 1 := by rw [hS2]
  have x2 : Ext st.nx st s2 := by rw [hS2]; exact (x0.trans (x1.mono (by omega))).new (by omega) _
  have d1 : ¬ s1.nx = st.nx := by omega
  have d2 : ¬ s1.nx = st.nx + 1 := by omega
  have up2 : ∀ m (v : Option B), ¬ s1.nx = m → s1.h.get m = v → s2.h.get m = v := by rw [hS2]; exact fun m v h k => (T.get_set_ne _ _ h).trans k
  have kA2 := up2 _ _ d1 kA1
  have kB2 := up2 _ _ d2 kB1
  have kC2 : s2.h.get s1.nx = some (.cs 63 2 ((((T.lf.set 0 (.int .i64 0)).set 1 (.s [])).set 0 (.int .i64 (soOf L).n)).set 1 (.s (soOf L).l))) := by rw [hS2]; exact T.get_set_same _ _ _
  rw [← hS2]
  refine Gd.mono (rgetS_any s2 x L (hx.ext x2) hcap (fun h => by
    obtain ⟨m, o, q, h1, h2, h3⟩ := hin h
    exact ⟨m, o, q, h1, Nat.lt_of_lt_of_le h2 x2.le, fun s' h' => h3 s' (x2.trans (h'.mono x2.le))⟩) _) ?_
  rintro ⟨r, s3⟩ ⟨hr, x3⟩
  simp only at hr x3
  subst hr
  have n3 : s2.nx ≤ s3.nx := x3.le
  have kA3 := (x3.keep st.nx (by omega)).trans kA2
  have kB3 := (x3.keep (st.nx + 1) (by omega)).trans kB2
  have kC3 := (x3.keep s1.nx (by omega)).trans kC2
  simp [hst, evOp_call, T.get_set, oracF_cons, newC_is, storeK_g, putB_eq, roT, sets]
  obtain ⟨s4, hS4⟩ : ∃ s4 : St, s4 = ⟨s3.nx + 1, s3.h.set s3.nx (.cs 64 2 ((((T.lf.set 0 (.int .i64 0)).set 1 (.s [])).set 0 (.int .i64 (soOf L).n)).set 1 (.s (soOf L).l)))⟩ := ⟨_, rfl⟩
  have n4 : s4.nx = s3.nx + 1 := by rw [hS4]
  have f1 : ¬ s3.nx = st.nx := by omega
  have f2 : ¬ s3.nx = st.nx + 1 := by omega
  have f3 : ¬ s3.nx = s1.nx := by omega
  have up4 : ∀ m (v : Option B), ¬ s3.nx = m → s3.h.get m = v → s4.h.get m = v := by rw [hS4]; exact fun m v h k => (T.get_set_ne _ _ h).trans k
  have kA4 := up4 _ _ f1 kA3
  have kB4 := up4 _ _ f2 kB3
  have kC4 := up4 _ _ f3 kC3
  have kD4 : s4.h.get s3.nx = some (.cs 64 2 ((((T.lf.set 0 (.int .i64 0)).set 1 (.s [])).set 0 (.int .i64 (soOf L).n)).set 1 (.s (soOf L).l))) := by rw [hS4]; exact T.get_set_same _ _ _
  rw [← hS4]
  simp only [← n4]
  refine ⟨by kernel_rfl, ?_⟩
  have hl : ∀ (m b nx : Nat) (rs : List (Nat × Nat × Nat)), m ≤ s3.nx → ltS s3.nx rs → inF ((0, m) :: (m + 1, nx) :: forb b rs []) m = false := fun m b nx rs hm hr => ltS_inF hr hm
  have hl0 : ∀ m nx : Nat, inF [(0, m), (m + 1, nx)] m = false := fun m nx => by rw [inF_cons, if_neg (by omega), inF_cons, if_neg (by omega)]; rfl
  have m0 : st.nx ≤ s3.nx := by omega
  have m1 : st.nx + 1 ≤ s3.nx := by omega
  have m2 : s1.nx ≤ s3.nx := by omega
  have m3 : s3.nx ≤ s3.nx := Nat.le_refl _
  have z4 : s3.nx < s4.nx := by omega
  simp [evOp_call, T.get_set, loadE_eq, getC_eq, getsB_succ, getsB_zero, kA4, hl0, oracF_cons]
  rw [hsv, cxOf_callL [(st.nx + 1, st.nx + 1 + 1)] (by kernel_rfl) (by kernel_rfl) (looseW_at 5 (.p (st.nx + 1) 0) (by simp [T.get_set]) (by kernel_rfl)) (fun x hx => by simp at hx; subst hx; simp [clashes_tmp, T.get_set, soV, blkOf]) (fun p hp => by simp at hp; subst hp; rw [isRo_cs kB4]; decide), forb_nil]
  simp only [List.append_nil]
  refine Gd_lift (R := fun v s' => v = .bool (decide (soGood s))) (Gd.mono (by rw [soF2_callL rfl rfl]; exact sgood_any _ s hb _) fun r h => h) ?_
  rintro r1 _ s5 rfl - x5
  have n5 : s4.nx ≤ s5.nx := x5.le
  have kA5 := (x5.keep _ (by omega)).trans kA4
  have kB5 := (x5.keep _ (by omega)).trans kB4
  have kC5 := (x5.keep _ (by omega)).trans kC4
  have kD5 := (x5.keep _ (by omega)).trans kD4
  have z5 : s3.nx < s5.nx := by omega
  simp (maxDischargeDepth := 12) [evOp_call, T.get_set, loadE_eq, getC_eq, getsB_succ, getsB_zero, kB5, hl, hl0, oracF_cons, ltS_nil, ltS_rs, m0, m1, m2, m3, z4, z5]
  rw [hsv, cxOf_call (by kernel_rfl) (by kernel_rfl), forb_step (by kernel_rfl) rfl, liftF_nil, soF2_callL rfl rfl]
  refine Gd.mono (rgoodS_any s5 s (by omega) _) ?_
  rintro ⟨r, s6⟩ ⟨hr, x6⟩
  simp only at hr x6
  subst hr
  have n6 : s5.nx ≤ s6.nx := x6.le
  have kA6 := (x6.keep _ (by omega)).trans kA5
  have kB6 := (x6.keep _ (by omega)).trans kB5
  have kC6 := (x6.keep _ (by omega)).trans kC5
  have kD6 := (x6.keep _ (by omega)).trans kD5
  have z6 : s3.nx < s6.nx := by omega
  simp (maxDischargeDepth := 12) [evOp_call, T.get_set, bin_beqS, loadE_eq, getC_eq, getsB_succ, getsB_zero, kA6, hl, hl0, oracF_cons, ltS_nil, ltS_rs, m0, m1, m2, m3, z4, z5, z6]
  rw [hsv, cxOf_callL [(st.nx + 1, st.nx + 1 + 1)] (by kernel_rfl) (by kernel_rfl) (looseW_at 5 (.p (st.nx + 1) 0) (by simp [T.get_set]) (by kernel_rfl)) (fun x hx => by simp at hx; subst hx; simp [clashes_tmp, T.get_set, soV, blkOf]) (fun p hp => by simp at hp; subst hp; rw [isRo_cs kB6]; decide), forb_step (by kernel_rfl) (forb_step (by kernel_rfl) rfl)]
  simp only [List.append_nil]
  refine Gd_lift (R := fun v s' => RdRow s' v 1 (soPut s).length (wv (soPut s)) ∧ RowFrom s6.nx v) (Gd.mono (by rw [soF2_callL rfl rfl]; exact sputR_any _ s hb _) fun r h => h) ?_
  rintro y1 _ s7 hy k7 x7
  have hy7 := RdRow.sub k7 hy.1
  clear hy k7
  have n7 : s6.nx ≤ s7.nx := x7.le
  have kA7 := (x7.keep _ (by omega)).trans kA6
  have kB7 := (x7.keep _ (by omega)).trans kB6
  have kC7 := (x7.keep _ (by omega)).trans kC6
  have kD7 := (x7.keep _ (by omega)).trans kD6
  have z7 : s3.nx < s7.nx := by omega
  simp (maxDischargeDepth := 12) [evOp_call, T.get_set, bin_beqS, loadE_eq, getC_eq, getsB_succ, getsB_zero, kB7, hl, hl0, oracF_cons, ltS_nil, ltS_rs, m0, m1, m2, m3, z4, z5, z6, z7]
  rw [hsv, cxOf_call (by kernel_rfl) (by kernel_rfl), forb_step (by kernel_rfl) (forb_step (by kernel_rfl) (forb_step (by kernel_rfl) rfl)), liftF_nil]
  refine Gd.mono (rputS2_any s7 s hb (by omega) _) ?_
  rintro ⟨y2, s8⟩ ⟨hy8, x8⟩
  simp only at hy8 x8
  have n8 : s7.nx ≤ s8.nx := x8.le
  have kC8 := (x8.keep _ (by omega)).trans kC7
  have kD8 := (x8.keep _ (by omega)).trans kD7
  have z8 : s3.nx < s8.nx := by omega
  simp (maxDischargeDepth := 12) [evOp_call, T.get_set, bin_beqS, loadE_eq, getC_eq, getsB_succ, getsB_zero, hl, hl0, oracF_cons, ltS_nil, ltS_rs, m0, m1, m2, m3, z4, z5, z6, z7, z8]
  rw [cxOf_call (by kernel_rfl) (by kernel_rfl), forb_step (by kernel_rfl) (forb_step (by kernel_rfl) (forb_step (by kernel_rfl) (forb_step (by kernel_rfl) rfl))), liftF_nil, soF2_callL rfl rfl]
  refine Gd.mono (sameSo s8 y1 y2 (soPut s) (soPut s) (hy7.ext x8) hy8.1 (by rw [soPut_len]; split <;> omega) _) ?_
  rintro _ rfl
  simp (maxDischargeDepth := 12) [evOp_call, T.get_set, bin_beqS, loadE_eq, getC_eq, getsB_succ, getsB_zero, kC8, kD8, hl, hl0, oracF_cons, ltS_nil, ltS_rs, m0, m1, m2, m3, z4, z5, z6, z7, z8]
theorem fits_wordsS : Fits Try.prog (rowC wC) 23 := fits_row Try.underlying23 (by kernel_rfl) (by decide) (fits_w Try.underlying24)
theorem w_SlotSays (a : Int × List Nat) (L : List (BitVec 64)) (W : World) (cs : Array Value) (hlen : cs.toList.length = 2) (hs : slC.rel W (fun j => cs.toList[j]?.getD default) a) (y : Value) (hy : (rowC wC).rel W (fun j => [y][j]?.getD default) L) :
    Calls Try.prog 5 #[.agg cs, y] W fun e W' => e = .returned (.bool true) ∧ Below W.heap.size W W' := by
  obtain ⟨s1, r1, x, b1, l1, q1, e1, a1⟩ := slC.enter (Begin.zero W) hs
  obtain ⟨s2, r2, v, b2, l2, q2, e2, a2⟩ := (rowC wC).enter b1 hy
  have h1 : Rel r2 (soV ⟨a.1, a.2⟩) (.agg cs) := by rw [← soV_two a1]; exact Rel.mono l2 _ _ (rel_agg hlen q1)
  exact law_calls (lawX_sound namesOkO mixesO soF2_both Try.func50 rfl slotAwake) b2 (.cons h1 (.cons (q2 0 (by decide)).2 .nil))
    (g_SlotSays s2 ⟨a.1, a.2⟩ (v 0) L a1.2.2.1 (rowC_words a2) a2.2.1 fun h => rowC_sl a2 (List.getElem?_eq_getElem h))
end Go.Proofs.Ytdoennkmcloalaa

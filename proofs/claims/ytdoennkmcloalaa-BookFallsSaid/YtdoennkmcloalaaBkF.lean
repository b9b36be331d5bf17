/-
  The law BookFalls, walked.
-/
import Derived.Test.YtdoennkmcloalaaBkE
set_option linter.unusedSimpArgs false
namespace Go.Proofs.Ytdoennkmcloalaa
open Go.RowKit Ev
theorem bkRan : Ev.yesQ Try.prog 100000 84 = true := by kernel_rfl
theorem bkAwake (w : World) : Calls Try.prog 84 #[] w fun e w' => e = .returned (.bool true) ∧ Below w.heap.size w w' := Ev.yesQ_ok namesOkB mixesB bkRan w
def bfI (st : St) (y k : V) (l : List (Int × BitVec 64)) (num : BitVec 64) (clear : Bool) (a : Int) (e : Env) (s : St) : Prop := ∃ i : Nat, i ≤ l.length ∧ e.get 0 = some y ∧ e.get 1 = some (wd num) ∧ e.get 2 = some (.bool clear) ∧ e.get 3 = some (.int .i64 a) ∧ e.get 4 = some k ∧ e.get 11 = some (.int .i64 (i : Int)) ∧ (∀ r ∈ l.take i, okAt r) ∧ s = st
noncomputable def bkB (q : Nat) (f n c : Int) : B := .cs 122 4 ((((T.lf.set 0 (.p q 0)).set 1 (.int .i64 f)).set 2 (.int .i64 n)).set 3 (.int .i64 c))
set_option maxRecDepth 20000 in
set_option maxHeartbeats 16000000 in
theorem g_BookFalls (st : St) (y k : Nat → V) (l : List (Int × BitVec 64)) (num : BitVec 64) (clear : Bool) (a : Int) (K : List Int) (hy : (rowC (pairC iC wC)).at' st y l) (hk : (rowC iC).at' st k K) (ha : i64 a) :
    Gd (lawC Try.prog 84 ⟨false, [], 0, 0⟩ 12 [y 0, wd num, .bool clear, .int .i64 a, k 0] st) fun r => r.1 = .bool true := by
  rw [Gd_lawC Try.func12 rfl]
  have hyr := rowC_pairs hy
  obtain ⟨hkr, hkw⟩ := rowC_ints hk
  by_cases c1 : (20 : Int) < (l.length : Int)
  · simp [evOp_call, sets, T.get_set, oracF_cons, rowC_len hy, rowC_len hk, c1]
  by_cases c2 : num = 0#64
  · simp [evOp_call, sets, T.get_set, oracF_cons, rowC_len hy, rowC_len hk, c1, c2]
  by_cases c3 : a < 1
  · simp [evOp_call, sets, T.get_set, oracF_cons, rowC_len hy, rowC_len hk, c1, c2, c3]
  by_cases c4 : 60 < a
  · simp [evOp_call, sets, T.get_set, oracF_cons, rowC_len hy, rowC_len hk, c1, c2, c3, c4]
  by_cases c5 : (10 : Int) < (K.length : Int)
  · simp [evOp_call, sets, T.get_set, oracF_cons, rowC_len hy, rowC_len hk, c1, c2, c3, c4, c5]
  simp [evOp_call, sets, T.get_set, oracF_cons, rowC_len hy, rowC_len hk, c1, c2, c3, c4, c5]
  refine Gd_loop (bfI st (y 0) (k 0) l num clear a) (fun e _ => muAt 11 l.length e) ?_ ?_
  · exact ⟨0, Nat.zero_le _, by simp [T.get_set], by simp [T.get_set], by simp [T.get_set], by simp [T.get_set], by simp [T.get_set], by simp [T.get_set], by simp, rfl⟩
  rintro e s ⟨i, hi, g0, g1, g2, g3, g4, g11, hok, rfl⟩
  by_cases hlt : i < l.length
  · have hlt' : (i : Int) < l.length := by omega
    have hwi := wrap_nat (n := i) (by omega)
    obtain ⟨m, o, ty, sz, tr, hid, hm, hg, ho, hc⟩ := hyr.idx (st := s) un115 io117 hlt
    obtain ⟨⟨F, N⟩, hr⟩ : ∃ r, l[i]? = some r := ⟨_, List.getElem?_eq_getElem hlt⟩
    have hcl := iw_at l i _ hr
    have t0 : tr.get o = some (.int .i64 F) := hc 0 _ (by omega) hcl.1
    by_cases d1 : F < 0
    · simp [evOp_call, T.get_set, g0, g1, g2, g3, g4, g11, hlt', rowC_len hy, hid, loadE_eq, getC_eq, hg, t0, d1, sets]
    by_cases d2 : 1048576 < F
    · simp [evOp_call, T.get_set, g0, g1, g2, g3, g4, g11, hlt', rowC_len hy, hid, loadE_eq, getC_eq, hg, t0, d1, d2, sets]
    simp [evOp_call, T.get_set, g0, g1, g2, g3, g4, g11, hlt', rowC_len hy, hid, loadE_eq, getC_eq, hg, t0, d1, d2, hwi]
    exact ⟨⟨i + 1, hlt, by simp [T.get_set, g0], by simp [T.get_set, g1], by simp [T.get_set, g2], by simp [T.get_set, g3], by simp [T.get_set, g4], by simp [T.get_set], mem_take1 hr hok ⟨by show 0 ≤ F; omega, by show F ≤ 1048576; omega⟩, rfl⟩, muAt_lt g11 (by simp [T.get_set]) hlt⟩
  obtain rfl : i = l.length := by omega
  rw [List.take_length] at hok
  have hfit : fitsR num l := ⟨c2, by omega, hok⟩
  have hpl := putR_length hfit
  simp [evOp_call, T.get_set, g0, g1, g2, g3, g4, g11, rowC_len hy, oracF_cons]
  refine Gd.mono (begun_any s 8 (by omega) _) ?_
  rintro ⟨r, s1⟩ ⟨q, v, hr, hv, hav⟩
  simp only at hr hv
  subst hr
  have hbk : ∀ m : Int, V.g [V.p q 0, V.int .i64 1, V.int .i64 8, V.int .i64 m] = bkV q 1 8 m := fun _ => rfl
  have hone := hyr.one
  simp [bkV, evOp_call, T.get_set, g0, g1, g2, g3, g4, g11, oracF_cons, tupK, newC_is, cellsOf, storeK_g, putB_eq, roT, sets, hone, wd_one]
  have hav : absV v = zeroA 10 := hav
  have hv2 : ∀ A B, MLive s ⟨s1.nx + 1 + 1, (s1.h.set s1.nx A).set (s1.nx + 1) B⟩ q v := fun A B => (hv.more ((Ext.refl _ _).new (Nat.le_refl _) A)).more ((Ext.refl _ _).new (Nat.le_refl _) B)
  have bx1 : ∀ A B, BoxAt ⟨s1.nx + 1 + 1, (s1.h.set s1.nx A).set (s1.nx + 1) B⟩ q v s1.nx A := fun A B => (BoxAt.new hv.at' A).more ((Ext.refl _ _).new (Nat.le_refl _) B)
  have bx2 : ∀ A B, BoxAt ⟨s1.nx + 1 + 1, (s1.h.set s1.nx A).set (s1.nx + 1) B⟩ q v (s1.nx + 1) B := fun A B => BoxAt.new (hv.more ((Ext.refl _ _).new (Nat.le_refl _) A)).at' B
  have hz := zero_calm 10
  have hzo := zero_allO 10
  have hw8 : winB 1 8 10 := by decide
  have hz0 : (allN (zeroA 10).L)[((1 : Int) * 8).toNat]? = some 0#64 := zero_get (by decide)
  have hsz : szB (absV v) 10 0 := by rw [hav]; exact ⟨hz.ok.len, by have := hz.fu; omega, hz.ok.op⟩
  have hbf : ∀ (c : Int), (bkV q 1 8 c) = V.g [V.p q 0, V.int .i64 1, V.int .i64 8, V.int .i64 c] := fun _ => rfl
  have hoffz : (zeroA 10).off = false := hz.ok.off
  cases clear
  · simp [evOp_call, T.get_set, g0, g1, g2, g3, g4, g11, oracF_cons, tupK, loadE_eq, getC_eq, getsB_succ, getsB_zero, hone, wd_one]
    refine Gd.mono (mfuse_any _ q v (hv2 _ _).at' a (k 0) K ((hv2 _ _).row hkr).1 (by omega) _) ?_
    rintro ⟨r, s4⟩ ⟨hr, v4, hs4, ha4⟩
    simp only at hr hs4
    subst hr
    have hv4 := (hv2 _ _).step hs4
    have b41 := (bx1 _ _).step hs4
    have b42 := (bx2 _ _).step hs4
    have hA4 : absV v4 = { zeroA 10 with fuse := a, K := K } := by
      rw [ha4, hav]; unfold AS.fused; rw [if_neg (by rw [hoffz]; simp)]
    have hok4 : okS (absV v4) 10 0 := by rw [hA4]; exact ⟨hz.ok.len, hz.ok.off, hz.ok.ok, hz.ok.op⟩
    have hsz4 : szB (absV v4) 10 0 := ⟨hok4.len, by rw [hA4]; exact ha.2, hok4.op⟩
    simp [evOp_call, T.get_set, g0, g1, g2, g3, g4, g11, oracF_cons, tupK, loadE_eq, getC_eq, getsB_succ, getsB_zero, hone, wd_one, b41.get, b42.get]
    rw [← hbf]
    refine Gd.mono (bkeep_any _ q v4 hv4.at' 10 0 hsz4 (by omega) 1 8 3 (by omega) num (y 0) l (hv4.row hyr).1 (by omega) (by omega) _) ?_
    rintro ⟨r, s5⟩ ⟨hr, v5, hs5, ha5⟩
    simp only at hr hs5
    have hv5 := hv4.step hs5
    have b5 := b41.step hs5
    obtain ⟨hE2, hfin⟩ := keep_fin K hok4 (by rw [hA4]; exact hzo) hw8 hfit (by omega) (by rw [hA4]; exact hz0)
    rw [← ha5] at hE2 hfin
    obtain ⟨E, hE⟩ : ∃ E, E = (keepA (absV v4) 1 8 num l).2 := ⟨_, rfl⟩
    rw [← hE] at hE2 hfin hr
    subst hr
    clear hE
    rcases hE2 with ⟨rfl, hoff⟩ | ⟨rfl, hoff⟩
    · have hoff' : v5.off = false := hoff
      rw [hoff, if_neg (by simp)] at hfin
      have hR5 : v5.R.length = 10 := by
        have := hfin.ok.len
        rw [← absLen]
        unfold fallM at this
        rwa [List.length_mapIdx] at this
      simp [evOp_call, T.get_set, g0, g1, g2, g3, g4, g11, oracF_cons, tupK, loadE_eq, getC_eq, getsB_succ, getsB_zero, hone, wd_one]
      refine Gd.mono (mfuse_any _ q v5 hv5.at' 0 _ [] (OwnRow.nil 0 _ 1).rd (by simp) _) ?_
      rintro ⟨r, s6⟩ ⟨hr, v6, hs6, ha6⟩
      simp only at hr hs6
      subst hr
      have hv6 := hv5.step hs6
      have b6 := b5.step hs6
      have hA6 : absV v6 = { absV v5 with fuse := 0, K := [] } := by
        rw [ha6]; unfold AS.fused; simp [hoff]
      have hR6 : v6.R.length = 10 := by rw [← absLen, hA6]; show (absV v5).L.length = 10; rw [absLen, hR5]
      have ho6 : v6.off = false := by show (absV v6).off = _; rw [hA6]; exact hoff
      simp [evOp_call, T.get_set, g0, g1, g2, g3, g4, g11, oracF_cons, tupK, loadE_eq, getC_eq, getsB_succ, getsB_zero, hone, wd_one]
      have hkr6 := hv6.row hkr
      refine Gd.mono (mcrash_any s6 q v6 hv6.at' (k 0) K (fun st' v' hs _ _ => (hkr6.step hs).1) (by omega) _) ?_
      rintro ⟨r, s7⟩ ⟨hr, hs7⟩
      simp only at hr hs7
      subst hr
      rw [ho6] at hs7
      simp only [if_true, Bool.false_eq_true, if_false] at hs7
      have hv7 := hv6.step hs7
      have b7 := b6.step hs7
      simp [evOp_call, T.get_set, g0, g1, g2, g3, g4, g11, oracF_cons, tupK, loadE_eq, getC_eq, getsB_succ, getsB_zero, hone, wd_one]
      refine Gd.mono (mon_any s7 q _ hv7.at' _) ?_
      rintro ⟨r, s8⟩ ⟨hr, hs8⟩
      simp only at hr hs8
      subst hr
      obtain ⟨v8, hv8e⟩ : ∃ v8, v8 = ({ v6.fell K with off := false } : MV) := ⟨_, rfl⟩
      rw [← hv8e] at hs8
      have hv8 := hv7.step hs8
      have b8 := b7.step hs8
      have hL8 : (absV v8).L = fallM K (absV v5).L := by
        rw [hv8e]
        show (v6.fell K).R.map (·.m) = _
        rw [show (v6.fell K).R.map (·.m) = fallM K (absV v6).L from fallN_m K v6.R, hA6]
      have ho8 : (absV v8).off = false := by rw [hv8e]; rfl
      have ho8' : v8.off = false := ho8
      rw [← hL8] at hfin
      have hR8 : v8.R.length = 10 := by rw [← absLen]; exact hfin.ok.len
      simp [evOp_call, T.get_set, g0, g1, g2, g3, g4, g11, oracF_cons, tupK, loadE_eq, getC_eq, getsB_succ, getsB_zero, hone, wd_one, b8.get]
      rw [← hbf]
      refine Gd.mono (bread_any s8 q v8 hv8.at' (by omega) 1 8 3 (by rw [hR8]; exact hw8) (by omega) _) ?_
      rintro ⟨r, s9⟩ ⟨e9, hr⟩
      simp only at hr e9
      rcases hr with ⟨h, _⟩ | ⟨_, w, num', K', b, hr, hw9, hwf, hrd, hK4⟩
      · rw [ho8'] at h; cases h
      subst hr
      have hwo := hw9.one
      rcases hfin.read ho8 hw8 hfit (by omega) with ⟨hro, hcl⟩ | ⟨hro, hcl⟩
      · rw [hro] at hrd
        rcases hrd with ⟨_, h⟩ | ⟨rfl, _, rfl, rfl⟩
        · cases h
        exact absurd (hcl rfl) (by simp)
      · rw [hro] at hrd
        rcases hrd with ⟨rfl, h⟩ | ⟨_, h, _⟩
        rotate_left
        · cases h
        injection h with h
        injection h with h h2
        subst h
        subst h2
        have hx9 := fun b => (Ext.refl s9.nx s9).new (Nat.le_refl _) b
        have hv10 := fun b => (hv8.more e9).more (hx9 b)
        simp [evOp_call, T.get_set, g0, g1, g2, g3, g4, g11, oracF_cons, tupK, loadE_eq, getC_eq, getsB_succ, getsB_zero, hone, wd_one, newC_is, cellsOf, storeK_g, putB_eq, roT, sets, hwo, hw9.lenS]
        refine Gd.mono (writes_fl _ [] (fun _ _ => rfl) w _ (hw9.ext (hx9 _)) (by omega) (fun _ _ => rfl) _) ?_
        rintro ⟨r1, s10⟩ ⟨hr1, e10⟩
        simp only at hr1 e10
        simp [evOp_call, T.get_set, g0, g1, g2, g3, g4, g11, oracF_cons, tupK, loadE_eq, getC_eq, getsB_succ, getsB_zero, hone, wd_one, newC_is, cellsOf, storeK_g, putB_eq, roT, sets, hwo, hw9.lenS]
        refine Gd.mono (writes_fl _ [] (fun _ _ => rfl) (y 0) _ (((hv10 _).more e10).row hyr).1 (by omega) (fun _ _ => rfl) _) ?_
        rintro ⟨r2, s11⟩ ⟨hr2, e11⟩
        simp only at hr2 e11
        simp [evOp_call, T.get_set, g0, g1, g2, g3, g4, g11, oracF_cons, tupK, loadE_eq, getC_eq, getsB_succ, getsB_zero, hone, wd_one, newC_is, cellsOf, storeK_g, putB_eq, roT, sets, hwo, hw9.lenS]
        refine Gd.mono (equalW_any s11 r1 r2 _ _ (hr1.ext e11) hr2 (by omega) _) ?_
        rintro _ rfl
        simp [evOp_call, T.get_set, g0, g1, g2, g3, g4, g11, oracF_cons, tupK, loadE_eq, getC_eq, getsB_succ, getsB_zero, hone, wd_one, newC_is, cellsOf, storeK_g, putB_eq, roT, sets, hwo, hw9.lenS]
    · have hoff' : v5.off = true := hoff
      rw [if_pos hoff] at hfin
      have hR5 : v5.R.length = 10 := by rw [← absLen]; exact hfin.ok.len
      simp [evOp_call, T.get_set, g0, g1, g2, g3, g4, g11, oracF_cons, tupK, loadE_eq, getC_eq, getsB_succ, getsB_zero, hone, wd_one]
      refine Gd.mono (moff_any s5 q v5 hv5.at' _) ?_
      rintro _ rfl
      rw [hoff']
      simp [evOp_call, T.get_set, g0, g1, g2, g3, g4, g11, oracF_cons, tupK, loadE_eq, getC_eq, getsB_succ, getsB_zero, hone, wd_one]
      refine Gd.mono (mfuse_any _ q v5 hv5.at' 0 _ [] (OwnRow.nil 0 _ 1).rd (by simp) _) ?_
      rintro ⟨r, s6⟩ ⟨hr, v6, hs6, ha6⟩
      simp only at hr hs6
      subst hr
      have hv6 := hv5.step hs6
      have b6 := b5.step hs6
      have hA6 : absV v6 = absV v5 := by
        rw [ha6]; unfold AS.fused; simp [hoff]
      have hR6 : v6.R.length = 10 := by rw [← absLen, hA6]; show (absV v5).L.length = 10; rw [absLen, hR5]
      have ho6 : v6.off = true := by show (absV v6).off = _; rw [hA6]; exact hoff
      simp [evOp_call, T.get_set, g0, g1, g2, g3, g4, g11, oracF_cons, tupK, loadE_eq, getC_eq, getsB_succ, getsB_zero, hone, wd_one]
      have hkr6 := hv6.row hkr
      refine Gd.mono (mcrash_any s6 q v6 hv6.at' (k 0) K (fun st' v' hs _ _ => (hkr6.step hs).1) (by omega) _) ?_
      rintro ⟨r, s7⟩ ⟨hr, hs7⟩
      simp only at hr hs7
      subst hr
      rw [ho6] at hs7
      simp only [if_true, Bool.false_eq_true, if_false] at hs7
      have hv7 := hv6.step hs7
      have b7 := b6.step hs7
      simp [evOp_call, T.get_set, g0, g1, g2, g3, g4, g11, oracF_cons, tupK, loadE_eq, getC_eq, getsB_succ, getsB_zero, hone, wd_one]
      refine Gd.mono (mon_any s7 q _ hv7.at' _) ?_
      rintro ⟨r, s8⟩ ⟨hr, hs8⟩
      simp only at hr hs8
      subst hr
      obtain ⟨v8, hv8e⟩ : ∃ v8, v8 = ({ v6 with off := false } : MV) := ⟨_, rfl⟩
      rw [← hv8e] at hs8
      have hv8 := hv7.step hs8
      have b8 := b7.step hs8
      have hL8 : (absV v8).L = (absV v5).L := by
        rw [hv8e]
        show (v6).R.map (·.m) = _
        rw [show (v6).R.map (·.m) = (absV v6).L from rfl, hA6]
      have ho8 : (absV v8).off = false := by rw [hv8e]; rfl
      have ho8' : v8.off = false := ho8
      rw [← hL8] at hfin
      have hR8 : v8.R.length = 10 := by rw [← absLen]; exact hfin.ok.len
      simp [evOp_call, T.get_set, g0, g1, g2, g3, g4, g11, oracF_cons, tupK, loadE_eq, getC_eq, getsB_succ, getsB_zero, hone, wd_one, b8.get]
      rw [← hbf]
      refine Gd.mono (bread_any s8 q v8 hv8.at' (by omega) 1 8 3 (by rw [hR8]; exact hw8) (by omega) _) ?_
      rintro ⟨r, s9⟩ ⟨e9, hr⟩
      simp only at hr e9
      rcases hr with ⟨h, _⟩ | ⟨_, w, num', K', b, hr, hw9, hwf, hrd, hK4⟩
      · rw [ho8'] at h; cases h
      subst hr
      have hwo := hw9.one
      rcases hfin.read ho8 hw8 hfit (by omega) with ⟨hro, hcl⟩ | ⟨hro, hcl⟩
      · rw [hro] at hrd
        rcases hrd with ⟨_, h⟩ | ⟨rfl, _, rfl, rfl⟩
        · cases h
        simp [evOp_call, T.get_set, g0, g1, g2, g3, g4, g11, oracF_cons, tupK, loadE_eq, getC_eq, getsB_succ, getsB_zero, hone, wd_one, newC_is, cellsOf, storeK_g, putB_eq, roT, sets, hwo, hw9.lenS]
      · rw [hro] at hrd
        rcases hrd with ⟨rfl, h⟩ | ⟨_, h, _⟩
        rotate_left
        · cases h
        injection h with h
        injection h with h h2
        subst h
        subst h2
        have hx9 := fun b => (Ext.refl s9.nx s9).new (Nat.le_refl _) b
        have hv10 := fun b => (hv8.more e9).more (hx9 b)
        simp [evOp_call, T.get_set, g0, g1, g2, g3, g4, g11, oracF_cons, tupK, loadE_eq, getC_eq, getsB_succ, getsB_zero, hone, wd_one, newC_is, cellsOf, storeK_g, putB_eq, roT, sets, hwo, hw9.lenS]
        refine Gd.mono (writes_fl _ [] (fun _ _ => rfl) w _ (hw9.ext (hx9 _)) (by omega) (fun _ _ => rfl) _) ?_
        rintro ⟨r1, s10⟩ ⟨hr1, e10⟩
        simp only at hr1 e10
        simp [evOp_call, T.get_set, g0, g1, g2, g3, g4, g11, oracF_cons, tupK, loadE_eq, getC_eq, getsB_succ, getsB_zero, hone, wd_one, newC_is, cellsOf, storeK_g, putB_eq, roT, sets, hwo, hw9.lenS]
        refine Gd.mono (writes_fl _ [] (fun _ _ => rfl) (y 0) _ (((hv10 _).more e10).row hyr).1 (by omega) (fun _ _ => rfl) _) ?_
        rintro ⟨r2, s11⟩ ⟨hr2, e11⟩
        simp only at hr2 e11
        simp [evOp_call, T.get_set, g0, g1, g2, g3, g4, g11, oracF_cons, tupK, loadE_eq, getC_eq, getsB_succ, getsB_zero, hone, wd_one, newC_is, cellsOf, storeK_g, putB_eq, roT, sets, hwo, hw9.lenS]
        refine Gd.mono (equalW_any s11 r1 r2 _ _ (hr1.ext e11) hr2 (by omega) _) ?_
        rintro _ rfl
        simp [evOp_call, T.get_set, g0, g1, g2, g3, g4, g11, oracF_cons, tupK, loadE_eq, getC_eq, getsB_succ, getsB_zero, hone, wd_one, newC_is, cellsOf, storeK_g, putB_eq, roT, sets, hwo, hw9.lenS]
  · simp [evOp_call, T.get_set, g0, g1, g2, g3, g4, g11, oracF_cons, tupK, loadE_eq, getC_eq, getsB_succ, getsB_zero, hone, wd_one]
    rw [← hbf]
    refine Gd.mono (bkeep_any _ q v (hv2 _ _).at' 10 0 hsz (by omega) 1 8 3 (by omega) num (y 0) l ((hv2 _ _).row hyr).1 (by omega) (by omega) _) ?_
    rintro ⟨r, s3⟩ ⟨hr, v3, hs3, ha3⟩
    simp only at hr hs3
    rw [hav] at ha3 hr
    obtain ⟨p1, p2, p3, p4, _⟩ := keep_calm hz hzo hw8 hfit (by omega) hz0
    rw [p1] at hr
    rw [← ha3] at p2 p3 p4
    subst hr
    have hv3 := (hv2 _ _).step hs3
    have b31 := (bx1 _ _).step hs3
    have b32 := (bx2 _ _).step hs3
    simp [evOp_call, T.get_set, g0, g1, g2, g3, g4, g11, oracF_cons, tupK, loadE_eq, getC_eq, getsB_succ, getsB_zero, hone, wd_one]
    refine Gd.mono (mfuse_any _ q v3 hv3.at' a (k 0) K (hv3.row hkr).1 (by omega) _) ?_
    rintro ⟨r, s4⟩ ⟨hr, v4, hs4, ha4⟩
    simp only at hr hs4
    subst hr
    have hv4 := hv3.step hs4
    have b41 := b31.step hs4
    have b42 := b32.step hs4
    have hA4 : absV v4 = { absV v3 with fuse := a, K := K } := by
      rw [ha4]; unfold AS.fused; rw [if_neg (by rw [p2.ok.off]; simp)]
    have hok4 : okS (absV v4) 10 (0 + (putR num l).length + 1) := by rw [hA4]; exact ⟨p2.ok.len, p2.ok.off, p2.ok.ok, p2.ok.op⟩
    have hsz4 : szB (absV v4) 10 (0 + (putR num l).length + 1) := ⟨hok4.len, by rw [hA4]; exact ha.2, hok4.op⟩
    simp [evOp_call, T.get_set, g0, g1, g2, g3, g4, g11, oracF_cons, tupK, loadE_eq, getC_eq, getsB_succ, getsB_zero, hone, wd_one, b41.get, b42.get]
    rw [← hbf]
    refine Gd.mono (bclear_any _ q v4 hv4.at' 10 (0 + (putR num l).length + 1) hsz4 (by omega) 1 8 3 (by omega) _) ?_
    rintro ⟨r, s5⟩ ⟨hr, v5, hs5, ha5⟩
    simp only at hr hs5
    have hv5 := hv4.step hs5
    have b5 := b41.step hs5
    obtain ⟨hE2, hfin⟩ := clear_fin (num := num) (l := l) K hok4 (by rw [hA4]; exact p3) hw8 (by omega) (by rw [hA4]; exact p4)
    rw [← ha5] at hE2 hfin
    obtain ⟨E, hE⟩ : ∃ E, E = (clearA (absV v4) 1 8).2 := ⟨_, rfl⟩
    rw [← hE] at hE2 hfin hr
    subst hr
    clear hE
    rcases hE2 with ⟨rfl, hoff⟩ | ⟨rfl, hoff⟩
    · have hoff' : v5.off = false := hoff
      rw [hoff, if_neg (by simp)] at hfin
      have hR5 : v5.R.length = 10 := by
        have := hfin.ok.len
        rw [← absLen]
        unfold fallM at this
        rwa [List.length_mapIdx] at this
      simp [evOp_call, T.get_set, g0, g1, g2, g3, g4, g11, oracF_cons, tupK, loadE_eq, getC_eq, getsB_succ, getsB_zero, hone, wd_one]
      refine Gd.mono (mfuse_any _ q v5 hv5.at' 0 _ [] (OwnRow.nil 0 _ 1).rd (by simp) _) ?_
      rintro ⟨r, s6⟩ ⟨hr, v6, hs6, ha6⟩
      simp only at hr hs6
      subst hr
      have hv6 := hv5.step hs6
      have b6 := b5.step hs6
      have hA6 : absV v6 = { absV v5 with fuse := 0, K := [] } := by
        rw [ha6]; unfold AS.fused; simp [hoff]
      have hR6 : v6.R.length = 10 := by rw [← absLen, hA6]; show (absV v5).L.length = 10; rw [absLen, hR5]
      have ho6 : v6.off = false := by show (absV v6).off = _; rw [hA6]; exact hoff
      simp [evOp_call, T.get_set, g0, g1, g2, g3, g4, g11, oracF_cons, tupK, loadE_eq, getC_eq, getsB_succ, getsB_zero, hone, wd_one]
      have hkr6 := hv6.row hkr
      refine Gd.mono (mcrash_any s6 q v6 hv6.at' (k 0) K (fun st' v' hs _ _ => (hkr6.step hs).1) (by omega) _) ?_
      rintro ⟨r, s7⟩ ⟨hr, hs7⟩
      simp only at hr hs7
      subst hr
      rw [ho6] at hs7
      simp only [if_true, Bool.false_eq_true, if_false] at hs7
      have hv7 := hv6.step hs7
      have b7 := b6.step hs7
      simp [evOp_call, T.get_set, g0, g1, g2, g3, g4, g11, oracF_cons, tupK, loadE_eq, getC_eq, getsB_succ, getsB_zero, hone, wd_one]
      refine Gd.mono (mon_any s7 q _ hv7.at' _) ?_
      rintro ⟨r, s8⟩ ⟨hr, hs8⟩
      simp only at hr hs8
      subst hr
      obtain ⟨v8, hv8e⟩ : ∃ v8, v8 = ({ v6.fell K with off := false } : MV) := ⟨_, rfl⟩
      rw [← hv8e] at hs8
      have hv8 := hv7.step hs8
      have b8 := b7.step hs8
      have hL8 : (absV v8).L = fallM K (absV v5).L := by
        rw [hv8e]
        show (v6.fell K).R.map (·.m) = _
        rw [show (v6.fell K).R.map (·.m) = fallM K (absV v6).L from fallN_m K v6.R, hA6]
      have ho8 : (absV v8).off = false := by rw [hv8e]; rfl
      have ho8' : v8.off = false := ho8
      rw [← hL8] at hfin
      have hR8 : v8.R.length = 10 := by rw [← absLen]; exact hfin.ok.len
      simp [evOp_call, T.get_set, g0, g1, g2, g3, g4, g11, oracF_cons, tupK, loadE_eq, getC_eq, getsB_succ, getsB_zero, hone, wd_one, b8.get]
      rw [← hbf]
      refine Gd.mono (bread_any s8 q v8 hv8.at' (by omega) 1 8 3 (by rw [hR8]; exact hw8) (by omega) _) ?_
      rintro ⟨r, s9⟩ ⟨e9, hr⟩
      simp only at hr e9
      rcases hr with ⟨h, _⟩ | ⟨_, w, num', K', b, hr, hw9, hwf, hrd, hK4⟩
      · rw [ho8'] at h; cases h
      subst hr
      have hwo := hw9.one
      rcases hfin.read ho8 hw8 hfit (by omega) with ⟨hro, hcl⟩ | ⟨hro, hcl⟩
      · rw [hro] at hrd
        rcases hrd with ⟨_, h⟩ | ⟨rfl, _, rfl, rfl⟩
        · cases h
        simp [evOp_call, T.get_set, g0, g1, g2, g3, g4, g11, oracF_cons, tupK, loadE_eq, getC_eq, getsB_succ, getsB_zero, hone, wd_one, newC_is, cellsOf, storeK_g, putB_eq, roT, sets, hwo, hw9.lenS]
      · rw [hro] at hrd
        rcases hrd with ⟨rfl, h⟩ | ⟨_, h, _⟩
        rotate_left
        · cases h
        injection h with h
        injection h with h h2
        subst h
        subst h2
        exact absurd (hcl rfl) (by simp)
    · have hoff' : v5.off = true := hoff
      rw [if_pos hoff] at hfin
      have hR5 : v5.R.length = 10 := by rw [← absLen]; exact hfin.ok.len
      simp [evOp_call, T.get_set, g0, g1, g2, g3, g4, g11, oracF_cons, tupK, loadE_eq, getC_eq, getsB_succ, getsB_zero, hone, wd_one]
      refine Gd.mono (moff_any s5 q v5 hv5.at' _) ?_
      rintro _ rfl
      rw [hoff']
      simp [evOp_call, T.get_set, g0, g1, g2, g3, g4, g11, oracF_cons, tupK, loadE_eq, getC_eq, getsB_succ, getsB_zero, hone, wd_one]
      refine Gd.mono (mfuse_any _ q v5 hv5.at' 0 _ [] (OwnRow.nil 0 _ 1).rd (by simp) _) ?_
      rintro ⟨r, s6⟩ ⟨hr, v6, hs6, ha6⟩
      simp only at hr hs6
      subst hr
      have hv6 := hv5.step hs6
      have b6 := b5.step hs6
      have hA6 : absV v6 = absV v5 := by
        rw [ha6]; unfold AS.fused; simp [hoff]
      have hR6 : v6.R.length = 10 := by rw [← absLen, hA6]; show (absV v5).L.length = 10; rw [absLen, hR5]
      have ho6 : v6.off = true := by show (absV v6).off = _; rw [hA6]; exact hoff
      simp [evOp_call, T.get_set, g0, g1, g2, g3, g4, g11, oracF_cons, tupK, loadE_eq, getC_eq, getsB_succ, getsB_zero, hone, wd_one]
      have hkr6 := hv6.row hkr
      refine Gd.mono (mcrash_any s6 q v6 hv6.at' (k 0) K (fun st' v' hs _ _ => (hkr6.step hs).1) (by omega) _) ?_
      rintro ⟨r, s7⟩ ⟨hr, hs7⟩
      simp only at hr hs7
      subst hr
      rw [ho6] at hs7
      simp only [if_true, Bool.false_eq_true, if_false] at hs7
      have hv7 := hv6.step hs7
      have b7 := b6.step hs7
      simp [evOp_call, T.get_set, g0, g1, g2, g3, g4, g11, oracF_cons, tupK, loadE_eq, getC_eq, getsB_succ, getsB_zero, hone, wd_one]
      refine Gd.mono (mon_any s7 q _ hv7.at' _) ?_
      rintro ⟨r, s8⟩ ⟨hr, hs8⟩
      simp only at hr hs8
      subst hr
      obtain ⟨v8, hv8e⟩ : ∃ v8, v8 = ({ v6 with off := false } : MV) := ⟨_, rfl⟩
      rw [← hv8e] at hs8
      have hv8 := hv7.step hs8
      have b8 := b7.step hs8
      have hL8 : (absV v8).L = (absV v5).L := by
        rw [hv8e]
        show (v6).R.map (·.m) = _
        rw [show (v6).R.map (·.m) = (absV v6).L from rfl, hA6]
      have ho8 : (absV v8).off = false := by rw [hv8e]; rfl
      have ho8' : v8.off = false := ho8
      rw [← hL8] at hfin
      have hR8 : v8.R.length = 10 := by rw [← absLen]; exact hfin.ok.len
      simp [evOp_call, T.get_set, g0, g1, g2, g3, g4, g11, oracF_cons, tupK, loadE_eq, getC_eq, getsB_succ, getsB_zero, hone, wd_one, b8.get]
      rw [← hbf]
      refine Gd.mono (bread_any s8 q v8 hv8.at' (by omega) 1 8 3 (by rw [hR8]; exact hw8) (by omega) _) ?_
      rintro ⟨r, s9⟩ ⟨e9, hr⟩
      simp only at hr e9
      rcases hr with ⟨h, _⟩ | ⟨_, w, num', K', b, hr, hw9, hwf, hrd, hK4⟩
      · rw [ho8'] at h; cases h
      subst hr
      have hwo := hw9.one
      rcases hfin.read ho8 hw8 hfit (by omega) with ⟨hro, hcl⟩ | ⟨hro, hcl⟩
      · rw [hro] at hrd
        rcases hrd with ⟨_, h⟩ | ⟨rfl, _, rfl, rfl⟩
        · cases h
        simp [evOp_call, T.get_set, g0, g1, g2, g3, g4, g11, oracF_cons, tupK, loadE_eq, getC_eq, getsB_succ, getsB_zero, hone, wd_one, newC_is, cellsOf, storeK_g, putB_eq, roT, sets, hwo, hw9.lenS]
      · rw [hro] at hrd
        rcases hrd with ⟨rfl, h⟩ | ⟨_, h, _⟩
        rotate_left
        · cases h
        injection h with h
        injection h with h h2
        subst h
        subst h2
        have hx9 := fun b => (Ext.refl s9.nx s9).new (Nat.le_refl _) b
        have hv10 := fun b => (hv8.more e9).more (hx9 b)
        simp [evOp_call, T.get_set, g0, g1, g2, g3, g4, g11, oracF_cons, tupK, loadE_eq, getC_eq, getsB_succ, getsB_zero, hone, wd_one, newC_is, cellsOf, storeK_g, putB_eq, roT, sets, hwo, hw9.lenS]
        refine Gd.mono (writes_fl _ [] (fun _ _ => rfl) w _ (hw9.ext (hx9 _)) (by omega) (fun _ _ => rfl) _) ?_
        rintro ⟨r1, s10⟩ ⟨hr1, e10⟩
        simp only at hr1 e10
        simp [evOp_call, T.get_set, g0, g1, g2, g3, g4, g11, oracF_cons, tupK, loadE_eq, getC_eq, getsB_succ, getsB_zero, hone, wd_one, newC_is, cellsOf, storeK_g, putB_eq, roT, sets, hwo, hw9.lenS]
        refine Gd.mono (writes_fl _ [] (fun _ _ => rfl) (y 0) _ (((hv10 _).more e10).row hyr).1 (by omega) (fun _ _ => rfl) _) ?_
        rintro ⟨r2, s11⟩ ⟨hr2, e11⟩
        simp only at hr2 e11
        simp [evOp_call, T.get_set, g0, g1, g2, g3, g4, g11, oracF_cons, tupK, loadE_eq, getC_eq, getsB_succ, getsB_zero, hone, wd_one, newC_is, cellsOf, storeK_g, putB_eq, roT, sets, hwo, hw9.lenS]
        refine Gd.mono (equalW_any s11 r1 r2 _ _ (hr1.ext e11) hr2 (by omega) _) ?_
        rintro _ rfl
        simp [evOp_call, T.get_set, g0, g1, g2, g3, g4, g11, oracF_cons, tupK, loadE_eq, getC_eq, getsB_succ, getsB_zero, hone, wd_one, newC_is, cellsOf, storeK_g, putB_eq, roT, sets, hwo, hw9.lenS]
theorem fits_writes : Fits Try.prog (rowC (pairC iC wC)) 115 := fits_row Try.underlying115 (by kernel_rfl) (by decide)
  (fits_struct Try.underlying117 (by kernel_rfl) (FitsF.cons rfl (by kernel_rfl) (fits_i Try.underlying3) (FitsF.one rfl (by kernel_rfl) (fits_w Try.underlying24))))
theorem fits_intsB : Fits Try.prog (rowC iC) 76 := fits_row Try.underlying76 (by kernel_rfl) (by decide) (fits_i Try.underlying3)
theorem w0_BookFalls (l : List (Int × BitVec 64)) (num : BitVec 64) (c : Bool) (a : Int) (K : List Int) (W : World) (x : Value) (hx : (rowC (pairC iC wC)).rel W (fun j => [x][j]?.getD default) l) (ha : i64 a) (z : Value) (hz : (rowC iC).rel W (fun j => [z][j]?.getD default) K) :
    Calls Try.prog 12 #[x, .int .u64 (num.toNat : Int), .bool c, .int .i64 a, z] W fun e W' => e = .returned (.bool true) ∧ Below W.heap.size W W' := by
  obtain ⟨s1, r1, v1, b1, l1, q1, e1, a1⟩ := (rowC (pairC iC wC)).enter (Begin.zero W) hx
  obtain ⟨s3, r3, v3, b3, l3, q3, e3, a3⟩ := (rowC iC).enter b1 hz
  exact law_calls (lawC_sound namesOkB mixesB Try.func84 rfl bkAwake) b3 (.cons (Rel.mono l3 _ _ (q1 0 (by decide)).2) (.cons (by simp [wd, Rel, Value.oneCell']) (.cons (by simp [Rel, Value.oneCell']) (.cons (rel_int _ _) (.cons (q3 0 (by decide)).2 .nil)))))
    (g_BookFalls s3 v1 v3 l num c a K ((rowC (pairC iC wC)).ext a1 e3) a3 ha)
theorem w_BookFalls (l : List (Int × BitVec 64)) (n : Int) (c : Bool) (a : Int) (K : List Int) (W : World) (x : Value) (hx : (rowC (pairC iC wC)).rel W (fun j => [x][j]?.getD default) l) (hn : (Lit.int .u64 n).wf = true) (ha : i64 a) (z : Value) (hz : (rowC iC).rel W (fun j => [z][j]?.getD default) K) :
    Calls Try.prog 12 #[x, .int .u64 n, .bool c, .int .i64 a, z] W fun e W' => e = .returned (.bool true) ∧ Below W.heap.size W W' := by
  obtain ⟨q, rfl, hq⟩ := u64_nat hn
  have e : ((BitVec.ofInt 64 (q : Int)).toNat : Int) = (q : Int) := by
    rw [BitVec.toNat_ofInt]
    omega
  have := w0_BookFalls l (BitVec.ofInt 64 q) c a K W x hx ha z hz
  rw [e] at this
  exact this
end Go.Proofs.Ytdoennkmcloalaa

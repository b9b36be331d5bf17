/-
  The law BookRoom, walked.
-/
import Derived.Test.YtdoennkmcloalaaBkE
set_option linter.unusedSimpArgs false
namespace Go.Proofs.Ytdoennkmcloalaa
open Go.RowKit Ev
theorem bkRan3 : Ev.yesQ Try.prog 100000 84 = true := by kernel_rfl
theorem bkAwake3 (w : World) : Calls Try.prog 84 #[] w fun e w' => e = .returned (.bool true) ∧ Below w.heap.size w w' := Ev.yesQ_ok namesOkB mixesB bkRan3 w
def noW (n : Nat) : List (Int × BitVec 64) := List.replicate n (0, 0#64)
theorem noW_length (n : Nat) : (noW n).length = n := by simp [noW]
theorem rep_noW : ∀ n, rep [V.int .i64 0, V.int .u64 0] n = iw (noW n)
  | 0 => rfl
  | n + 1 => by
    show [V.int .i64 0, V.int .u64 0] ++ rep [V.int .i64 0, V.int .u64 0] n = iw (noW (n + 1))
    rw [rep_noW n]
    unfold noW
    rw [List.replicate_succ]
    show _ = [V.int .i64 0, wd 0#64] ++ iw (List.replicate n (0, 0#64))
    rw [wd_0]
theorem noW_fits {num : BitVec 64} {n : Nat} : fitsR num (noW n) ↔ num ≠ 0#64 ∧ n ≤ 400 := by
  unfold fitsR
  rw [noW_length]
  refine ⟨fun h => ⟨h.1, h.2.1⟩, fun h => ⟨h.1, h.2, fun r hr => ?_⟩⟩
  have := List.eq_of_mem_replicate hr
  subst this
  exact ⟨Int.le_refl _, by decide⟩
theorem madeRow {st : St} {n : Nat} : RdRow ⟨st.nx + 1, st.h.set st.nx (.cs 117 (rep [V.int .i64 0, V.int .u64 0] n).length (sets (rep [V.int .i64 0, V.int .u64 0] n) 0 .lf))⟩ (.sl st.nx 0 n n) 2 (noW n).length (iw (noW n)) := by
  rw [rep_noW, noW_length]
  refine ⟨by rw [iw_length, noW_length], .inr (.inl ⟨st.nx, 0, n, 117, _, _, rfl, Nat.lt_succ_self _, T.get_set_same _ _ _, ?_, fun j v hj => ?_⟩)⟩
  · rw [iw_length, noW_length]; omega
  · have := lt_of_get hj
    rw [get_sets, if_pos ⟨by omega, by omega⟩]
    simpa using hj
def roomI (n : Int) : Int := if (0 : Int) < (if (400 : Int) < (n * 8 - 11).tdiv 2 then 400 else (n * 8 - 11).tdiv 2) then (if (400 : Int) < (n * 8 - 11).tdiv 2 then 400 else (n * 8 - 11).tdiv 2) else 0
theorem one_ne : ¬ (1#64 = 0#64) := by decide
set_option maxRecDepth 20000 in
set_option maxHeartbeats 4000000 in
theorem broom_any (st : St) (q : Nat) (f n c : Int) (hn : 1 ≤ n ∧ n ≤ 1024) (nt : Nat) :
    Gd (callL Try.prog ⟨false, [], 0, nt⟩ 96 [bkV q f n c] st) fun r => r.1 = .int .i64 (roomI n) ∧ Ext st.nx st r.2 := by
  rw [Gd_callL Try.func96 rfl]
  have hx1 := fun b => (Ext.refl st.nx st).new (Nat.le_refl _) b
  simp [bkV, evOp_call, sets, T.get_set, newC_is, cellsOf, loadE_eq, getC_eq, getsB_succ, getsB_zero]
  refine Gd.mono (size_any _ 1#64 _ [] (nilRow2 _) (by simp) _) ?_
  rintro ⟨r, s1⟩ ⟨hr, e1⟩
  simp only at hr e1
  rw [show (putR 1#64 []).length = 3 from putR_length (K := []) ⟨one_ne, by simp, fun _ h => by cases h⟩] at hr
  subst hr
  have hl1 : st.nx + 1 ≤ s1.nx := e1.le
  have x1 : Ext st.nx st s1 := (hx1 _).trans (e1.mono (Nat.le_succ _))
  have k1 : s1.h.get st.nx = _ := (e1.keep st.nx (Nat.lt_succ_self _)).trans (T.get_set_same _ _ _)
  simp [evOp_call, sets, T.get_set]
  refine Gd_make (fun k => el115 k) io117 (fun k => ze117 k) (i := .i64) (i' := .i64) (n := 1) (q := 1) rfl rfl (by omega) (by omega) ?_
  simp [evOp_call, sets, T.get_set]
  have hx2 := fun b => (Ext.refl s1.nx s1).new (Nat.le_refl _) b
  refine Gd.mono (size_any _ 1#64 _ (noW 1) madeRow (by simp [noW]) _) ?_
  rintro ⟨r, s2⟩ ⟨hr, e2⟩
  simp only at hr e2
  rw [show (putR 1#64 (noW 1)).length = 5 from putR_length (noW_fits.2 ⟨one_ne, by omega⟩)] at hr
  subst hr
  have x2 := (x1.trans ((hx2 _).mono x1.le)).trans (e2.mono (by show st.nx ≤ s1.nx + 1; omega))
  have k2 : s2.h.get st.nx = _ := (e2.keep st.nx (by show st.nx < s1.nx + 1; omega)).trans (((hx2 _).keep st.nx (by omega)).trans k1)
  have hw : IntKind.i64.wrap 2 = 2 := by decide
  simp [evOp_call, sets, T.get_set, loadE_eq, getC_eq, getsB_succ, getsB_zero, k2, hw]
  rw [show V.g [V.p q 0, V.int .i64 f, V.int .i64 n, V.int .i64 c] = bkV q f n c from rfl]
  refine Gd.mono (bwords_any s2 q f n c hn _) ?_
  rintro ⟨r, s3⟩ ⟨hr, e3⟩
  simp only at hr e3
  subst hr
  have x3 := x2.trans (e3.mono x2.le)
  have w3 : IntKind.i64.wrap (n * 8 - 8 - 3) = n * 8 - 11 := by rw [show n * 8 - 8 - 3 = n * 8 - 11 by omega]; exact wrap_in (by omega) (by omega)
  have w4 : IntKind.i64.wrap ((n * 8 - 11).tdiv 2) = (n * 8 - 11).tdiv 2 := by
    have h1 : (n * 8 - 11).tdiv 2 ≤ 9000 := by
      rcases Int.le_total 0 (n * 8 - 11) with h | h
      · rw [Int.tdiv_eq_ediv_of_nonneg h]; omega
      · have : (n * 8 - 11) = -(11 - n * 8) := by omega
        rw [this, Int.neg_tdiv, Int.tdiv_eq_ediv_of_nonneg (by omega)]; omega
    have h2 : -9000 ≤ (n * 8 - 11).tdiv 2 := by
      rcases Int.le_total 0 (n * 8 - 11) with h | h
      · rw [Int.tdiv_eq_ediv_of_nonneg h]; omega
      · have : (n * 8 - 11) = -(11 - n * 8) := by omega
        rw [this, Int.neg_tdiv, Int.tdiv_eq_ediv_of_nonneg (by omega)]; omega
    exact wrap_in (by omega) (by omega)
  simp [evOp_call, sets, T.get_set, w3, w4, hw, roomI, evOp_min, evOp_max, min_i64, max_i64]
  exact x3
theorem roomI_one : roomI 1 = 0 := by decide
theorem roomI_two {n : Int} (h : 2 ≤ n) : roomI n = if 400 < 4 * n - 6 then 400 else 4 * n - 6 := by
  unfold roomI
  rw [Int.tdiv_eq_ediv_of_nonneg (by omega), show (n * 8 - 11) / 2 = 4 * n - 6 by omega]
  by_cases h1 : (400 : Int) < 4 * n - 6
  · rw [if_pos h1, if_pos (by omega)]
  · rw [if_neg h1, if_pos (by omega)]
set_option maxRecDepth 20000 in
set_option maxHeartbeats 16000000 in
theorem g_BookRoom (st : St) (n : Int) :
    Gd (lawC Try.prog 84 ⟨false, [], 0, 0⟩ 14 [.int .i64 n] st) fun r => r.1 = .bool true := by
  rw [Gd_lawC Try.func14 rfl]
  by_cases c1 : n < 1
  · simp [evOp_call, sets, T.get_set, oracF_cons, c1]
  by_cases c2 : 110 < n
  · simp [evOp_call, sets, T.get_set, oracF_cons, c1, c2]
  obtain ⟨m, rfl⟩ := Int.eq_ofNat_of_zero_le (show 0 ≤ n by omega)
  simp [evOp_call, sets, T.get_set, oracF_cons, c1, c2]
  refine Gd.mono (begun_any st m (by omega) _) ?_
  rintro ⟨r, s1⟩ ⟨q, v, hr, hv, hav⟩
  simp only at hr hv
  subst hr
  have hbf : ∀ (c : Int), (bkV q 1 m c) = V.g [V.p q 0, V.int .i64 1, V.int .i64 (m : Int), V.int .i64 c] := fun _ => rfl
  have hz := zero_calm (m + 2)
  have hzo := zero_allO (m + 2)
  have hw : winB 1 (m : Int) ((m + 2 : Nat) : Int) := ⟨by omega, by omega, by omega, by omega⟩
  have hz0 : (allN (zeroA (m + 2)).L)[((1 : Int) * 8).toNat]? = some 0#64 := zero_get (by show 8 < _; omega)
  simp [bkV, evOp_call, sets, T.get_set, oracF_cons, tupK, newC_is, cellsOf, storeK_g, putB_eq, roT, loadE_eq, getC_eq, getsB_succ, getsB_zero]
  rw [← hbf]
  have hv1 := fun b => hv.more ((Ext.refl s1.nx s1).new (Nat.le_refl _) b)
  have hb1 := fun b => BoxAt.new hv.at' b
  refine Gd.mono (broom_any _ q 1 m 3 (by omega) _) ?_
  rintro ⟨r, s2⟩ ⟨hr, e2⟩
  simp only at hr e2
  subst hr
  have hv2 := (hv1 _).more e2
  have hb2 := (hb1 _).more e2
  have hsz : szB (absV v) (m + 2) 0 := by rw [hav]; exact ⟨hz.ok.len, by have := hz.fu; omega, hz.ok.op⟩
  obtain ⟨k, hk, hk4, hk1, hk2, hk3⟩ : ∃ k : Nat, roomI (m : Int) = k ∧ k ≤ 400 ∧ (400 < k + 1 ∨ (m : Int) * 8 - 8 < 3 + 2 * ((k : Int) + 1)) ∧ (k = 0 → m = 1) ∧ (k ≠ 0 → 3 + 2 * (k : Int) ≤ (m : Int) * 8 - 8) := by
    rcases (show m = 1 ∨ 2 ≤ m by omega) with rfl | h2m
    · exact ⟨0, roomI_one, by omega, .inr (by omega), fun _ => rfl, fun h => absurd rfl h⟩
    · have hr := roomI_two (n := (m : Int)) (by omega)
      by_cases h4 : (400 : Int) < 4 * (m : Int) - 6
      · rw [if_pos h4] at hr
        exact ⟨400, hr, by omega, .inl (by omega), by omega, by omega⟩
      · rw [if_neg h4] at hr
        exact ⟨4 * m - 6, by omega, by omega, .inr (by omega), by omega, by omega⟩
  rw [hk]
  have c3 : ¬ (k : Int) < 0 := by omega
  have c4 : ¬ 400 < (k : Int) := by omega
  have wk : IntKind.i64.wrap ((k : Int) + 1) = ((k + 1 : Nat) : Int) := by rw [show (k : Int) + 1 = ((k + 1 : Nat) : Int) by omega]; exact wrap_in (by omega) (by omega)
  simp [evOp_call, sets, T.get_set, oracF_cons, tupK, loadE_eq, getC_eq, getsB_succ, getsB_zero, hb2.get, c3, c4, hk4]
  refine ⟨by kernel_rfl, ?_⟩
  refine Gd_make (fun k => el115 k) io117 (fun k => ze117 k) (i := .i64) (i' := .i64) (n := k + 1) (q := k + 1) (by simp [T.get_set, wk]) (by simp [T.get_set, wk]) (by omega) (by omega) ?_
  simp [evOp_call, sets, T.get_set, oracF_cons, tupK, loadE_eq, getC_eq, getsB_succ, getsB_zero, hb2.get]
  have hx3 := fun b => (Ext.refl s2.nx s2).new (Nat.le_refl _) b
  have hv3 := fun b => hv2.more (hx3 b)
  have hb3 := fun b => hb2.more (hx3 b)
  rw [cxOf_call (by kernel_rfl) (by kernel_rfl), forb_cons (by kernel_rfl) rfl, ← hbf]
  have hpk : ∀ j : Nat, j ≤ 400 → (putR 1#64 (noW j)).length = 3 + 2 * j := fun j hj => by
    have := putR_length (noW_fits (num := 1#64).2 ⟨one_ne, hj⟩)
    rwa [noW_length] at this
  have hbad : keepA (absV v) 1 m 1#64 (noW (k + 1)) = (absV v, 1) := by
    unfold keepA
    rw [if_pos]
    by_cases h5 : k + 1 ≤ 400
    · right; rw [hpk _ h5]; omega
    · left; exact putR_nil.2 (fun h => h5 (noW_fits.1 h).2)
  refine Gd.mono (bkeep_any _ q v (hv3 _).at' (m + 2) 0 hsz (by omega) 1 m 3 (by omega) 1#64 _ (noW (k + 1)) madeRow (by rw [noW_length]; omega) (by
    by_cases h5 : k + 1 ≤ 400
    · rw [hpk _ h5]; omega
    · rw [putR_nil.2 (fun h => h5 (noW_fits.1 h).2)]; omega) _) ?_
  rintro ⟨r, s4⟩ ⟨hr, v4, hs4, ha4⟩
  simp only at hr hs4
  rw [hbad] at hr ha4
  subst hr
  have hv4 := (hv3 _).step hs4
  have hb4 := (hb3 _).step hs4
  have ha4 : absV v4 = absV v := ha4
  by_cases hk0 : k = 0
  · have hm1 := hk2 hk0
    subst hk0
    subst hm1
    simp [evOp_call, sets, T.get_set, oracF_cons, tupK, loadE_eq, getC_eq, getsB_succ, getsB_zero, hb4.get]
  have hk0' : ¬ (k : Int) = 0 := by omega
  simp [evOp_call, sets, T.get_set, oracF_cons, tupK, loadE_eq, getC_eq, getsB_succ, getsB_zero, hb4.get, hk0, hk0']
  refine ⟨by kernel_rfl, ?_⟩
  refine Gd_make (fun k => el115 k) io117 (fun k => ze117 k) (i := .i64) (i' := .i64) (n := k) (q := k) (by simp [T.get_set, wk]) (by simp [T.get_set, wk]) (by omega) (by omega) ?_
  simp [evOp_call, sets, T.get_set, oracF_cons, tupK, loadE_eq, getC_eq, getsB_succ, getsB_zero, hb4.get]
  have hx5 := fun b => (Ext.refl s4.nx s4).new (Nat.le_refl _) b
  have hv5 := fun b => hv4.more (hx5 b)
  have hb5 := fun b => hb4.more (hx5 b)
  rw [cxOf_call (by kernel_rfl) (by kernel_rfl), forb_cons (by kernel_rfl) rfl, ← hbf]
  have hfk := noW_fits (num := 1#64).2 ⟨one_ne, hk4⟩
  have hlk := hpk k hk4
  have hk3 := hk3 hk0
  refine Gd.mono (bkeep_any _ q v4 (hv5 _).at' (m + 2) 0 (by rw [ha4]; exact hsz) (by omega) 1 m 3 (by omega) 1#64 _ (noW k) madeRow (by rw [noW_length]; omega) (by omega) _) ?_
  rintro ⟨r, s6⟩ ⟨hr, v6, hs6, ha6⟩
  simp only at hr hs6
  rw [ha4, hav] at hr ha6
  obtain ⟨p1, p2, p3, p4, _⟩ := keep_calm hz hzo hw hfk (by omega) hz0
  rw [p1] at hr
  rw [← ha6] at p2 p3 p4
  subst hr
  have hv6 := (hv5 _).step hs6
  have hb6 := (hb5 _).step hs6
  have hR6 : v6.R.length = m + 2 := by rw [← absLen]; exact p2.ok.len
  have hoff6 : v6.off = false := p2.ok.off
  simp [evOp_call, sets, T.get_set, oracF_cons, tupK, loadE_eq, getC_eq, getsB_succ, getsB_zero, hb6.get]
  rw [← hbf]
  refine Gd.mono (bread_any s6 q v6 hv6.at' (by omega) 1 m 3 (by rw [hR6]; exact hw) (by omega) _) ?_
  rintro ⟨r, s7⟩ ⟨e7, hr⟩
  simp only at hr e7
  rcases hr with ⟨h, _⟩ | ⟨_, w, num', K', b, hr, hw7, hwf, hrd, hK4⟩
  · rw [hoff6] at h; cases h
  subst hr
  rw [read_stands p2.ok.ls p2.ok.off hw hfk (by omega) p4] at hrd
  rcases hrd with ⟨rfl, h⟩ | ⟨_, h, _⟩
  rotate_left
  · cases h
  injection h with h
  injection h with h h2
  subst h
  subst h2
  have hwo := hw7.one
  simp [evOp_call, sets, T.get_set, oracF_cons, tupK, loadE_eq, getC_eq, getsB_succ, getsB_zero, newC_is, cellsOf, storeK_g, putB_eq, roT, hwo, wd_one, hw7.lenS, noW_length]
theorem w_BookRoom (n : Int) (W : World) (_ : i64 n) : Calls Try.prog 14 #[.int .i64 n] W fun e W' => e = .returned (.bool true) ∧ Below W.heap.size W W' :=
  law_calls (lawC_sound namesOkB mixesB Try.func84 rfl bkAwake3) (Begin.zero W) (.cons (rel_int _ _) .nil) (g_BookRoom _ n)
end Go.Proofs.Ytdoennkmcloalaa

/-
  The law BookAgain, walked.
-/
import Derived.Test.YtdoennkmcloalaaBkE
set_option linter.unusedSimpArgs false
namespace Go.Proofs.Ytdoennkmcloalaa
open Go.RowKit Ev
theorem bkRan2 : Ev.yesQ Try.prog 100000 84 = true := by kernel_rfl
theorem bkAwake2 (w : World) : Calls Try.prog 84 #[] w fun e w' => e = .returned (.bool true) ∧ Below w.heap.size w w' := Ev.yesQ_ok namesOkB mixesB bkRan2 w
theorem calm.still {s : AS} {N i : Nat} (h : calm s N i) (ho : allO s.L) : calm s N 0 := ⟨⟨h.ok.len, h.ok.off, h.ok.ok, fun m hm => by rw [ho m hm]; exact Nat.le_refl _⟩, h.fu⟩
/-- a fall of what is sure, and the power's coming -/
theorem calm.fallen {s t : AS} {N i : Nat} {K : List Int} (h : calm s N i) (ho : allO s.L) (e : t = { s.fell K with off := false }) : calm t N 0 ∧ t.L = s.L ∧ allO t.L := by
  have e1 : t.L = s.L := by rw [e]; show fallM K s.L = s.L; exact fall_allO ho K
  refine ⟨⟨⟨by rw [e1, h.ok.len], by rw [e], fun m hm => h.ok.ok m (by rwa [e1] at hm), fun m hm => by rw [e1] at hm; rw [ho m hm]; exact Nat.le_refl _⟩, ?_⟩, e1, by rw [e1]; exact ho⟩
  rw [e]; show (0 : Int) < 1; omega
theorem calm.sz {s : AS} {N i : Nat} (h : calm s N i) : szB s N i := ⟨h.ok.len, by have := h.fu; omega, h.ok.op⟩
noncomputable def bkX (q : Nat) (f n c : Int) : B := .cs 122 4 ((((((((T.lf.set 0 (V.c (Value.pointer none))).set 1 (V.int .i64 0)).set 2 (V.int .i64 0)).set 3 (V.int .i64 0)).set 0 (V.p q 0)).set 1 (V.int .i64 f)).set 2 (V.int .i64 n)).set 3 (V.int .i64 c))
def baI (st : St) (y : V) (q b : Nat) (n : Nat) (e : Env) (s : St) : Prop := ∃ (i : Nat) (v : MV), i ≤ n ∧ e.get 0 = some y ∧ e.get 3 = some (.p b 0) ∧ e.get 4 = some (.p q 0) ∧ e.get 6 = some (.int .i64 (i : Int)) ∧ MLive st s q v ∧ BoxAt s q v b (bkX q 1 10 3) ∧ st.nx ≤ b ∧ calm (absV v) 12 0 ∧ allO (absV v).L ∧ (allN (absV v).L)[((1 : Int) * 8).toNat]? = some 0#64
set_option maxRecDepth 20000 in
set_option maxHeartbeats 16000000 in
theorem g_BookAgain (st : St) (y : Nat → V) (l : List (BitVec 64 × List (Int × BitVec 64))) (hy : (rowC (pairC wC (rowC (pairC iC wC)))).at' st y l) :
    Gd (lawC Try.prog 84 ⟨false, [], 0, 0⟩ 13 [y 0] st) fun r => r.1 = .bool true := by
  rw [Gd_lawC Try.func13 rfl]
  by_cases c1 : (10 : Int) < (l.length : Int)
  · simp [evOp_call, sets, T.get_set, oracF_cons, rowC_len hy, c1]
  simp [evOp_call, sets, T.get_set, oracF_cons, rowC_len hy, c1]
  refine Gd.mono (begun_any st 10 (by omega) _) ?_
  rintro ⟨r, s1⟩ ⟨q, v, hr, hv, hav⟩
  simp only at hr hv
  subst hr
  have hav : absV v = zeroA 12 := hav
  simp [bkV, evOp_call, T.get_set, oracF_cons, tupK, newC_is, cellsOf, storeK_g, putB_eq, roT, sets, rowC_len hy]
  have hw10 : winB 1 10 12 := by decide
  have hbf : ∀ (c : Int), (bkV q 1 10 c) = V.g [V.p q 0, V.int .i64 1, V.int .i64 10, V.int .i64 c] := fun _ => rfl
  refine Gd_loop (baI st (y 0) q s1.nx l.length) (fun e _ => muAt 6 l.length e) ?_ ?_
  · exact ⟨0, v, Nat.zero_le _, by simp [T.get_set], by simp [T.get_set], by simp [T.get_set], by simp [T.get_set], hv.more ((Ext.refl _ _).new (Nat.le_refl _) _), BoxAt.new hv.at' _, hv.ext.le, by rw [hav]; exact zero_calm 12, by rw [hav]; exact zero_allO 12, by rw [hav]; exact zero_get (by decide)⟩
  rintro e s ⟨i, v, hi, g0, g3, g4, g6, hv, hb, hbn, hc, ho, hm⟩
  have hR : v.R.length = 12 := by rw [← absLen]; exact hc.ok.len
  have hys := (rowC (pairC wC (rowC (pairC iC wC)))).ext hy hv.ext
  by_cases hlt : i < l.length
  case neg =>
    obtain rfl : i = l.length := by omega
    simp [evOp_call, T.get_set, g0, g3, g4, g6, rowC_len hys, sets]
  have hlt' : (i : Int) < l.length := by omega
  have hwi := wrap_nat (n := i) (by omega)
  obtain ⟨⟨num, K⟩, hl⟩ : ∃ r, l[i]? = some r := ⟨_, List.getElem?_eq_getElem hlt⟩
  obtain ⟨m, o, ty, sz, tr, yy, hid, hmt, hgt, hcl, hat⟩ := rowC_old un137 io126 hy hl
  have t0 : tr.get o = some (wd num) := by have := hcl 0 (by decide); rw [hat.1.1] at this; exact this
  have t1 : tr.get (o + 1) = some (yy 1) := hcl 1 (by decide)
  have hK : RdRow st (yy 1) 2 K.length (iw K) := rowC_pairs hat.2
  have hKl : ∀ s, lenS s (yy 1) = some (.int .i64 (K.length : Int), s) := fun s => hK.lenS s
  have hone := hK.one
  have gs := hgt s hv.ext
  by_cases c2 : (30 : Int) < (K.length : Int)
  · simp [evOp_call, T.get_set, g0, g3, g4, g6, oracF_cons, tupK, loadE_eq, getC_eq, getsB_succ, getsB_zero, hlt', rowC_len hys, hid, gs, t0, t1, hKl, c2, sets]
  simp [evOp_call, T.get_set, g0, g3, g4, g6, oracF_cons, tupK, loadE_eq, getC_eq, getsB_succ, getsB_zero, hlt', rowC_len hys, hid, gs, t0, t1, hKl, c2]
  refine Gd.mono (size_any s num (yy 1) K (hv.row hK).1 (by omega) _) ?_
  rintro ⟨r, s2⟩ ⟨hr, e2⟩
  simp only at hr e2
  subst hr
  have hv2 := hv.more e2
  have hb2 := hb.more e2
  have gs2 := hgt s2 hv2.ext
  have kb2 := hb2.get
  unfold bkX at kb2
  simp [evOp_call, T.get_set, g0, g3, g4, g6, oracF_cons, tupK, loadE_eq, getC_eq, getsB_succ, getsB_zero, hlt', hid, gs2, t0, t1, hKl, kb2]
  refine ⟨by kernel_rfl, ?_⟩
  rw [cxOf_call (by kernel_rfl) (by kernel_rfl), forb_nil, ← hbf]
  have hp30 : (putR num K).length ≤ 63 := by
    by_cases hf : fitsR num K
    · rw [putR_length hf]; omega
    · rw [putR_nil.2 hf]; omega
  refine Gd.mono (bkeep_any s2 q v hv2.at' 12 0 hc.sz (by omega) 1 10 3 (by omega) num (yy 1) K (hv2.row hK).1 (by omega) (by omega) _) ?_
  rintro ⟨r, s3⟩ ⟨hr, v3, hs3, ha3⟩
  simp only at hr hs3
  have hv3 := hv2.step hs3
  have hb3 := hb2.step hs3
  by_cases hf : fitsR num K
  case neg =>
    have hp0 : (putR num K).length = 0 := putR_nil.2 hf
    have hka : keepA (absV v) 1 10 num K = (absV v, 1) := by unfold keepA; rw [if_pos (.inl hp0)]
    rw [hka] at hr ha3
    subst hr
    simp [evOp_call, T.get_set, g0, g3, g4, g6, oracF_cons, tupK, loadE_eq, getC_eq, getsB_succ, getsB_zero, hlt', hp0, hwi]
    have hav3 : absV v3 = absV v := ha3
    exact ⟨⟨i + 1, v3, hlt, by simp [T.get_set, g0], by simp [T.get_set, g3], by simp [T.get_set, g4], by simp [T.get_set], hv3, hb3, hbn, by rw [hav3]; exact hc, by rw [hav3]; exact ho, by rw [hav3]; exact hm⟩, muAt_lt g6 (by simp [T.get_set]) hlt⟩
  have hpl := putR_length hf
  obtain ⟨p1, p2, p3, p4, _⟩ := keep_calm hc ho hw10 hf (by omega) hm
  rw [p1] at hr
  rw [← ha3] at p2 p3 p4
  subst hr
  have hp0 : 0 < (putR num K).length := by omega
  have hp0' : (0 : Int) < ((putR num K).length : Int) := by omega
  simp [evOp_call, T.get_set, g0, g3, g4, g6, oracF_cons, tupK, loadE_eq, getC_eq, getsB_succ, getsB_zero, hlt', hp0, hp0', hwi]
  have hR3 : v3.R.length = 12 := by rw [← absLen]; exact p2.ok.len
  have ho3 : v3.off = false := p2.ok.off
  refine Gd.mono (mcrash_on s3 q v3 hv3.at' ho3 _ [] (fun st' v' hs _ _ => (OwnRow.nil 0 _ 1).rd) (by omega) _) ?_
  rintro ⟨r, s4⟩ ⟨hr, hs4⟩
  simp only at hr hs4
  subst hr
  have hv4 := hv3.step hs4
  have hb4 := hb3.step hs4
  simp [evOp_call, T.get_set, g0, g3, g4, g6, oracF_cons, tupK, loadE_eq, getC_eq, getsB_succ, getsB_zero, hlt']
  refine Gd.mono (mon_any s4 q _ hv4.at' _) ?_
  rintro ⟨r, s5⟩ ⟨hr, hs5⟩
  simp only at hr hs5
  subst hr
  obtain ⟨v5, hv5e⟩ : ∃ v5, v5 = ({ v3.fell [] with off := false } : MV) := ⟨_, rfl⟩
  rw [← hv5e] at hs5
  have hA5 : absV v5 = { (absV v3).fell [] with off := false } := by
    rw [hv5e, ← abs_fell]; rfl
  obtain ⟨hc5, hL5, ho5⟩ := calm.fallen p2 p3 hA5
  rw [← hL5] at p4
  have hv5 := hv4.step hs5
  have hb5 := hb4.step hs5
  have kb5 := hb5.get
  unfold bkX at kb5
  have hR5 : v5.R.length = 12 := by rw [← absLen]; exact hc5.ok.len
  have hoff5 : v5.off = false := hc5.ok.off
  simp [evOp_call, T.get_set, g0, g3, g4, g6, oracF_cons, tupK, loadE_eq, getC_eq, getsB_succ, getsB_zero, hlt', kb5]
  rw [← hbf]
  refine Gd.mono (bread_any s5 q v5 hv5.at' (by omega) 1 10 3 (by rw [hR5]; exact hw10) (by omega) _) ?_
  rintro ⟨r, s6⟩ ⟨e6, hr⟩
  simp only at hr e6
  rcases hr with ⟨h, _⟩ | ⟨_, w, num', K', b, hr, hw6, hwf, hrd, hK4⟩
  · rw [hoff5] at h; cases h
  subst hr
  rw [read_stands hc5.ok.ls hc5.ok.off hw10 hf (by omega) p4] at hrd
  rcases hrd with ⟨rfl, h⟩ | ⟨_, h, _⟩
  rotate_left
  · cases h
  injection h with h
  injection h with h h2
  subst h
  subst h2
  have hwo := hw6.one
  have hx6 := fun b => (Ext.refl s6.nx s6).new (Nat.le_refl _) b
  have hv6 := hv5.more e6
  have hb6 := hb5.more e6
  have kb6 := hb6.get
  unfold bkX at kb6
  have gs6 := fun b => hgt _ (hv6.more (hx6 b)).ext
  have hmne : ¬ s6.nx = m := by have := hv6.ext.le; omega
  have hmne' : ¬ m = s6.nx := by have := hv6.ext.le; omega
  have gs6' := hgt s6 hv6.ext
  have hidy : ∀ k : V → Res, idxE Try.prog 137 (y 0) i k = k (.p m o) := hid
  simp [evOp_call, T.get_set, g0, g3, g4, g6, oracF_cons, tupK, loadE_eq, getC_eq, getsB_succ, getsB_zero, hlt', newC_is, cellsOf, storeK_g, putB_eq, roT, sets, hwo, wd_one, hw6.lenS]
  refine ⟨by kernel_rfl, ?_⟩
  simp [evOp_call, T.get_set, g0, g3, g4, g6, oracF_cons, tupK, loadE_eq, getC_eq, getsB_succ, getsB_zero, hlt', newC_is, cellsOf, storeK_g, putB_eq, roT, sets, hwo, wd_one, hw6.lenS, hid, gs6', t0, t1, hmne, hmne']
  obtain ⟨my, oy, qy, hy0, hmy, hro⟩ := rowC_sl hy hl
  have hv7 := fun b => hv6.more (hx6 b)
  rw [cxOf_callRo [(my, my + 1)] (by kernel_rfl) (by kernel_rfl) (looseW_at 0 (.sl my oy l.length qy) (by simp [T.get_set, g0, hy0]) (by kernel_rfl)) (fun p hp => by simp at hp; subst hp; exact hro _ (hv7 _).ext), forb_nil]
  refine Gd.mono (writes_fl _ [] (fun _ _ => rfl) w _ (hw6.ext (hx6 _)) (by omega) (fun _ _ => rfl) _) ?_
  rintro ⟨r1, s8⟩ ⟨hr1, e8⟩
  simp only at hr1 e8
  have hv8 := (hv7 _).more e8
  have gs8 := hgt s8 hv8.ext
  have hle8 : s6.nx + 1 ≤ s8.nx := e8.le
  have hm8 : m < s6.nx := by have := hv6.ext.le; omega
  have hld8 : ∀ (b i nx' : Nat), inF ((0, m) :: (m + 1, nx') :: forb b (rsOf [] i (s6.nx + 1) s8.nx) []) m = false := fun b i nx' => inF_ld (by omega)
  simp [evOp_call, T.get_set, g0, g3, g4, g6, oracF_cons, tupK, loadE_eq, getC_eq, getsB_succ, getsB_zero, hlt', newC_is, cellsOf, storeK_g, putB_eq, roT, sets, hwo, wd_one, hw6.lenS, hid, gs8, t0, t1, hmne, hmne', hld8]
  rw [cxOf_call (by kernel_rfl) (by kernel_rfl)]
  refine Gd.mono (writes_fl s8 _ (fun k hk => by
      first
      | exact inF_forbs rfl (rsOf_lt (fun e he => by cases he) (by omega))
      | (rw [forb_step (by kernel_rfl) rfl]; rfl)) (yy 1) K (hv8.row hK).1 (by omega) (fun m' hm' => ?_) _) ?_
  · have : m' < st.nx := by
      rcases hm' with ⟨_, _, _, e⟩ | ⟨_, _, _, e⟩
      · exact hK.nm_lt (by first | exact .inl ⟨_, _, _, e⟩ | exact .inr ⟨_, _, _, e⟩)
      · exact hK.nm_lt (by first | exact .inl ⟨_, _, _, e⟩ | exact .inr ⟨_, _, _, e⟩)
    have := hv6.ext.le
    exact inF_forbs rfl (rsOf_lt (fun e he => by cases he) (by show m' < s6.nx + 1; omega))
  rintro ⟨r2, s9⟩ ⟨hr2, e9⟩
  simp only at hr2 e9
  have hv9 := hv8.more e9
  simp [evOp_call, T.get_set, g0, g3, g4, g6, oracF_cons, tupK, loadE_eq, getC_eq, getsB_succ, getsB_zero, hlt', newC_is, cellsOf, storeK_g, putB_eq, roT, sets, hwo, wd_one, hw6.lenS, hid, gs8, t0, t1, hmne, hmne', hld8]
  rw [cxOf_call (by kernel_rfl) (by kernel_rfl), forb_step (by kernel_rfl) (forb_step (by kernel_rfl) rfl)]
  refine Gd.mono (equalW_any s9 r1 r2 _ _ (hr1.ext e9) hr2 (by omega) _) ?_
  rintro _ rfl
  have hb9 := ((hb6.more (hx6 _)).more e8).more e9
  have kb9 := hb9.get
  unfold bkX at kb9
  have hld9 : ∀ (b i j nx' : Nat), inF ((0, s1.nx) :: (s1.nx + 1, nx') :: forb b (rsOf (rsOf [] i (s6.nx + 1) s8.nx) j s8.nx s9.nx) []) s1.nx = false := fun b i j nx' => inF_lds (rsOf_lt (rsOf_lt (fun e he => by cases he) (by have := hb6.lt; omega)) (by have := hb6.lt; omega))
  simp [evOp_call, T.get_set, g0, g3, g4, g6, oracF_cons, tupK, loadE_eq, getC_eq, getsB_succ, getsB_zero, hlt', newC_is, cellsOf, storeK_g, putB_eq, roT, sets, hwo, wd_one, hw6.lenS, hid, gs8, t0, t1, hmne, hmne', hld8, kb9, hld9]
  rw [← hbf]
  rw [cxOf_call (by kernel_rfl) (by kernel_rfl), forb_step (by kernel_rfl) (forb_step (by kernel_rfl) rfl)]
  refine Gd.mono (bclear_any s9 q v5 hv9.at' 12 0 hc5.sz (by omega) 1 10 3 (by omega) _) ?_
  rintro ⟨r, s10⟩ ⟨hr, v10, hs10, ha10⟩
  simp only at hr hs10
  obtain ⟨z1, z2, z3, z4⟩ := clear_calm hc5 ho5 hw10
  rw [z1] at hr
  rw [← ha10] at z2 z3 z4
  subst hr
  simp [evOp_call, T.get_set, g0, g3, g4, g6, oracF_cons, tupK, loadE_eq, getC_eq, getsB_succ, getsB_zero, hlt', hwi]
  refine ⟨⟨i + 1, v10, hlt, by simp [T.get_set, g0], by simp [T.get_set, g3], by simp [T.get_set, g4], by simp [T.get_set], hv9.step hs10, hb9.step hs10, hbn, z2.still z3, z3, ?_⟩, muAt_lt g6 (by simp [T.get_set]) hlt⟩
  rw [z4, setFrom_get (by rw [hc5.ok.ls.nlen]; decide), if_pos (by decide)]
  rfl
theorem fits_recs : Fits Try.prog (rowC (pairC wC (rowC (pairC iC wC)))) 137 := fits_row Try.underlying137 (by kernel_rfl) (by decide)
  (fits_struct Try.underlying126 (by kernel_rfl) (FitsF.cons rfl (by kernel_rfl) (fits_w Try.underlying24) (FitsF.one rfl (by kernel_rfl)
    (fits_row Try.underlying115 (by kernel_rfl) (by decide) (fits_struct Try.underlying117 (by kernel_rfl) (FitsF.cons rfl (by kernel_rfl) (fits_i Try.underlying3) (FitsF.one rfl (by kernel_rfl) (fits_w Try.underlying24))))))))
theorem w_BookAgain (l : List (BitVec 64 × List (Int × BitVec 64))) (W : World) (x : Value) (hx : (rowC (pairC wC (rowC (pairC iC wC)))).rel W (fun j => [x][j]?.getD default) l) :
    Calls Try.prog 13 #[x] W fun e W' => e = .returned (.bool true) ∧ Below W.heap.size W W' := by
  obtain ⟨s1, r1, v1, b1, l1, q1, e1, a1⟩ := (rowC (pairC wC (rowC (pairC iC wC)))).enter (Begin.zero W) hx
  exact law_calls (lawC_sound namesOkB mixesB Try.func84 rfl bkAwake2) b1 (.cons (q1 0 (by decide)).2 .nil) (g_BookAgain s1 v1 l a1)
end Go.Proofs.Ytdoennkmcloalaa

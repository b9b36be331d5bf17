/-
  The law BooksOrder, walked.
-/
import Derived.Test.YtdoennkmcloalaaBsF
set_option linter.unusedSimpArgs false
namespace Go.Proofs.Ytdoennkmcloalaa
open Go.RowKit Ev
def boL (st : St) (x0 : V) (q p : Nat) (x z : V) (n : Nat) (e : Env) (s : St) : Prop := ∃ (i : Nat) (v : MV) (y : V) (kept : List Int) (H : List (Option RecW)) (P : List RecW), i ≤ n ∧ e.get 0 = some x0 ∧ e.get 3 = some x ∧ e.get 4 = some (.p q 0) ∧ e.get 5 = some (.p p 0) ∧ e.get 7 = some y ∧ e.get 8 = some (.int .i64 (i : Int)) ∧
  MLive st s q v ∧ BsAt s q v p z 4 (BitVec.ofNat 64 kept.length) ∧ Shelf 4 (absV v) H ∧ Kpt H kept P ∧ kept.length ≤ i ∧ OwnRow st.nx s y 1 kept.length (ivs kept) ∧ (∀ j, Nm y j → ¬ MOw q v j ∧ j ≠ p ∧ ¬ Nm x j ∧ ¬ Nm z j) ∧ RowAp s q v x 4 4 (bkRow q 4)
theorem next_nat {k : Nat} (hk : k ≤ 100000) : nextW (BitVec.ofNat 64 k) = BitVec.ofNat 64 (k + 1) := by
  unfold nextW
  rw [if_neg]
  · rw [BitVec.ofNat_add]
  · intro e
    have := congrArg BitVec.toNat e
    rw [BitVec.toNat_ofNat] at this
    simp at this
    omega
def ofI (s0 : St) (a y : V) (n : Nat) (e : Env) (s : St) : Prop := ∃ i : Nat, i ≤ n ∧ e.get 7 = some y ∧ e.get 14 = some a ∧ e.get 15 = some (.int .i64 (i : Int)) ∧ s = s0
set_option maxRecDepth 20000 in
set_option maxHeartbeats 16000000 in
theorem g_BooksOrder (st : St) (k : Nat → V) (K : List Int) (hk : (rowC iC).at' st k K) :
    Gd (lawC Try.prog 97 ⟨false, [], 0, 0⟩ 16 [k 0] st) fun r => r.1 = .bool true := by
  rw [Gd_lawC Try.func16 rfl]
  obtain ⟨hkr, hkw⟩ := rowC_ints hk
  by_cases c1 : (20 : Int) < (K.length : Int)
  · simp [evOp_call, sets, T.get_set, oracF_cons, rowC_len hk, c1]
  simp [evOp_call, sets, T.get_set, oracF_cons, rowC_len hk, c1]
  refine Gd.mono (shelf_any st 4 (by omega) _) ?_
  rintro ⟨r, s0⟩ ⟨x, q, v, hr, hv, ha, hx, hxc⟩
  simp only at hr hv hx
  subst hr
  have hs : Shelf 4 (absV v) (List.replicate 4 none) := by rw [ha]; exact Shelf.zero 4
  simp [evOp_call, sets, T.get_set, oracF_cons, tupK]
  refine Gd.mono (bopen_any s0 q v hv.at' x 4 (by omega) hx _ hs _) ?_
  rintro ⟨r, s1⟩ ⟨p, z, hr, e1, hb, hp⟩
  simp only at hr e1 hb
  subst hr
  have hv1 := hv.more e1
  have hx1 := hx.more e1
  have hst : st.nx ≤ p := by have := hv.ext.le; omega
  have hxp : ∀ j, Nm x j → j ≠ p := fun j hj e => by have := hx.1.nm_lt hj; omega
  simp [evOp_call, sets, T.get_set, oracF_cons, tupK]
  refine Gd_loop (boL st (k 0) q p x z K.length) (fun e _ => muAt 8 K.length e) ?_ ?_
  · refine ⟨0, v, _, [], _, [], Nat.zero_le _, by simp [T.get_set], by simp [T.get_set], by simp [T.get_set], by simp [T.get_set], by simp [T.get_set], by simp [T.get_set], hv1, hb, hs, ⟨by decide, rfl, fun j r h => by simp at h⟩, Nat.le_refl _, OwnRow.nil _ _ _, fun j hj => (nm_nil hj).elim, hx1⟩
  clear hv hs ha hx1 hb hv1
  rintro e s ⟨i, v, y, kept, H, P, hi, g0, g3, g4, g5, g7, g8, hv, hb, hs, hkp, hki, hy, hyn, hx2⟩
  by_cases hlt : i < K.length
  case neg =>
    obtain rfl : i = K.length := by omega
    simp [evOp_call, T.get_set, g0, g3, g4, g5, g7, g8, rowC_len hk, oracF_cons, tupK]
    have hoff : v.off = false := hs.c.ok.off
    have hR : v.R.length = 4 * 4 := by rw [← absLen]; exact hs.c.ok.len
    refine Gd.mono (mcrash_on s q v hv.at' hoff _ [] (fun st' v' hs _ _ => (OwnRow.nil 0 _ 1).rd) (by omega) _) ?_
    rintro ⟨r, s4⟩ ⟨hr, hs4⟩
    simp only at hr hs4
    subst hr
    have hv4 := hv.step hs4
    have hx4 := hx2.step hs4
    simp [evOp_call, T.get_set, g0, g3, g4, g5, g7, g8, oracF_cons, tupK]
    refine Gd.mono (mon_any s4 q _ hv4.at' _) ?_
    rintro ⟨r, s5⟩ ⟨hr, hs5⟩
    simp only at hr hs5
    subst hr
    obtain ⟨v5, hv5e⟩ : ∃ v5, v5 = ({ v.fell [] with off := false } : MV) := ⟨_, rfl⟩
    rw [← hv5e] at hs5
    have hA5 : absV v5 = { (absV v).fell [] with off := false } := by
      rw [hv5e, ← abs_fell]; rfl
    have hs' := hs.fallen hA5
    have hv5 := hv4.step hs5
    have hx5 := hx4.step hs5
    simp [evOp_call, T.get_set, g0, g3, g4, g5, g7, g8, oracF_cons, tupK]
    refine Gd.mono (bopen_any s5 q v5 hv5.at' x 4 (by omega) hx5 H hs' _) ?_
    rintro ⟨r, s6⟩ ⟨p6, z6, hr, e6, hb6, hp6⟩
    simp only at hr e6 hb6
    subst hr
    have hv6 := hv5.more e6
    simp [evOp_call, T.get_set, g0, g3, g4, g5, g7, g8, oracF_cons, tupK]
    refine Gd.mono (bsall_any s6 q v5 hv6.at' p6 z6 4 (by omega) _ hb6 H hs' _) ?_
    rintro ⟨r, s7⟩ ⟨E, hrow, e7, heach, hperm, hsrt, hE8, _, _⟩
    simp only at hrow e7 heach
    have hEP := hkp.sorted (by omega) hperm hsrt
    have hEl : E.length = kept.length := by rw [← hkp.len, ← hEP, List.length_map]
    have hy5 : OwnRow st.nx s7 y 1 kept.length (ivs kept) := by
      have h4 := hy.bs ⟨s4, hs4, .inl rfl⟩ (p := p) (fun j hj => ⟨(hyn j hj).1, (hyn j hj).2.1⟩)
      have h5 := h4.bs ⟨s5, hs5, .inl rfl⟩ (p := p) (fun j hj => ⟨hs4.not_own (hyn j hj).1 (hy.rd.nm_lt hj), (hyn j hj).2.1⟩)
      exact (h5.ext e6).ext e7
    simp [evOp_call, T.get_set, g0, g3, g4, g5, g7, g8, oracF_cons, tupK, hrow.lenS, hy5.rd.lenS, hEl]
    refine Gd_loop (ofI s7 r y kept.length) (fun e _ => muAt 15 kept.length e) ?_ ?_
    · exact ⟨0, Nat.zero_le _, by simp [T.get_set, g7], by simp [T.get_set], by simp [T.get_set], rfl⟩
    rintro e s ⟨i, hi, g7, g14, g15, rfl⟩
    by_cases hlt : i < kept.length
    case neg =>
      obtain rfl : i = kept.length := by omega
      simp [evOp_call, T.get_set, g7, g14, g15, hrow.lenS, hEl, sets]
    have hltE : i < E.length := by omega
    have hlt' : (i : Int) < kept.length := by omega
    have hwi := wrap_nat (n := i) (by omega)
    obtain ⟨mb, o, ty, sz, tr, hid, hmb, hg, ho, hcl⟩ := hrow.idx (st := s) un137 io126 hltE
    obtain ⟨mb2, o2, ty2, sz2, tr2, hid2, hmb2, hg2, ho2, hcl2⟩ := hy5.rd.idx (st := s) un76 io3 hlt
    obtain ⟨⟨num, w, K'⟩, hEi⟩ : ∃ e, E[i]? = some e := ⟨_, List.getElem?_eq_getElem hltE⟩
    obtain ⟨a0, a1⟩ := rwE_at E i _ hEi
    have hPi : P[i]? = some (num, K') := by rw [← hEP, List.getElem?_map, hEi]; rfl
    obtain ⟨_, c, vv, hki2, hK'⟩ := hkp.each i _ hPi
    have hK' : K' = [(c, vv)] := hK'
    subst hK'
    have hw := heach _ (List.mem_of_getElem? hEi)
    have hw : RdRow s w 2 1 (iw [(c, vv)]) := hw
    obtain ⟨mb3, o3, ty3, sz3, tr3, hid3, hmb3, hg3, ho3, hcl3⟩ := hw.idx (st := s) un115 io117 (i := 0) (by omega)
    have t1 : tr.get (o + 1) = some w := hcl 1 _ (by omega) a1
    have t2 : tr2.get o2 = some (.int .i64 c) := hcl2 0 _ (by omega) (by simp [ivs, hki2])
    have t3 : tr3.get o3 = some (.int .i64 c) := hcl3 0 _ (by omega) rfl
    have hid3' : ∀ k : V → Res, idxE Try.prog 115 w 0 k = k (.p mb3 o3) := hid3
    simp [evOp_call, T.get_set, g7, g14, g15, loadE_eq, getC_eq, getsB_succ, getsB_zero, hlt', hrow.lenS, hEl, hid, hg, t1, hw.lenS, hid2, hg2, t2, hid3', hg3, t3]
    refine ⟨by kernel_rfl, ?_⟩
    simp [evOp_call, T.get_set, g7, g14, g15, loadE_eq, getC_eq, getsB_succ, getsB_zero, hlt', hrow.lenS, hEl, hid, hg, t1, hw.lenS, hid2, hg2, t2, hid3', hg3, t3, hwi]
    exact ⟨⟨i + 1, hlt, by simp [T.get_set, g7], by simp [T.get_set, g14], by simp [T.get_set], rfl⟩, muAt_lt g15 (by simp [T.get_set]) hlt⟩
  have hlt' : (i : Int) < K.length := by omega
  have hwi := wrap_nat (n := i) (by omega)
  obtain ⟨mb, o, ty, sz, tr, hid, hmb, hg, ho, hcl⟩ := hkr.idx (st := st) un76 io3 hlt
  obtain ⟨a, hai⟩ : ∃ a, K[i]? = some a := ⟨_, List.getElem?_eq_getElem hlt⟩
  have t0 : tr.get o = some (.int .i64 a) := hcl 0 _ (by omega) (by simp [hai])
  have hgs := (hv.ext.keep mb hmb).trans hg
  obtain ⟨c, hc4, hand⟩ := and3 Try.prog s 3 (.tmp 49) (.const (.int .i64 3)) a
  simp [evOp_call, T.get_set, g0, g3, g4, g5, g7, g8, rowC_len hk, hlt', hid, loadE_eq, getC_eq, hgs, t0, hand]
  refine evOp_build1 (v := .g [.int .i64 (c : Int), wd (BitVec.ofNat 64 i)]) (cs := [.int .i64 (c : Int), wd (BitVec.ofNat 64 i)]) (fun k => el115 k) (fun k => ze117 k) rfl (by decide) (by simp [T.get_set]) (fun k => rfl) rfl ?_
  have hxx := fun b => (Ext.refl s.nx s).new (Nat.le_refl _) b
  have hrow : RdRow ⟨s.nx + 1, s.h.set s.nx (.cs 117 2 (sets [.int .i64 (c : Int), wd (BitVec.ofNat 64 i)] 0 .lf))⟩ (.sl s.nx 0 1 1) 2 [((c : Int), BitVec.ofNat 64 i)].length (iw [((c : Int), BitVec.ofNat 64 i)]) := by
    refine ⟨rfl, .inr (.inl ⟨s.nx, 0, 1, _, _, _, rfl, Nat.lt_succ_self _, T.get_set_same _ _ _, Nat.le_refl _, fun j v hj => ?_⟩)⟩
    have := lt_of_get hj
    rw [iw_length] at this
    rw [get_sets, if_pos ⟨by omega, by simp at this ⊢; omega⟩]
    simpa [iw] using hj
  have hv3 := fun b => hv.more (hxx b)
  simp [evOp_call, T.get_set, g0, g3, g4, g5, g7, g8, oracF_cons, tupK]
  refine Gd.mono (bskeep_any _ q v (hv3 _).at' p z 4 (by omega) _ (hb.more (hxx _)) H hs (c : Int) _ [((c : Int), BitVec.ofNat 64 i)] hrow (by simp) _) ?_
  rintro ⟨r, s4⟩ ⟨v4, num, e4, m4, hr, hst4, hb4, hor⟩
  simp only at hr hst4 hb4
  subst hr
  rcases hor with ⟨hno, _⟩ | ⟨_, he4, ha4, hok, hbad⟩
  · exact absurd ⟨by omega, by omega⟩ hno
  have hnm := next_nat (k := kept.length) (by omega)
  rw [hnm] at he4 ha4 hok
  have hnz : BitVec.ofNat 64 (kept.length + 1) ≠ 0#64 := fun e => by
    have := congrArg BitVec.toNat e
    rw [BitVec.toNat_ofNat] at this
    simp at this
    omega
  have hfit : fitsR (BitVec.ofNat 64 (kept.length + 1)) [((c : Int), BitVec.ofNat 64 i)] := ⟨hnz, by simp, fun r hr => by simp at hr; subst hr; exact ⟨by show (0 : Int) ≤ c; omega, by show (c : Int) ≤ 1048576; omega⟩⟩
  have hfl : (putR (BitVec.ofNat 64 (kept.length + 1)) [((c : Int), BitVec.ofNat 64 i)]).length ≤ 24 := by rw [putR_length hfit]; simp
  have hlive := (hv3 _).bs hst4 hb.no hst (Nat.lt_succ_of_lt hb.lt)
  have hx4 := (hx2.more (hxx _)).bs hst4 (fun e => hxp p e rfl)
  have hy4 := (hy.ext (hxx _)).bs hst4 (fun j hj => ⟨(hyn j hj).1, (hyn j hj).2.1⟩)
  have hyn4 : ∀ j, Nm y j → ¬ MOw q v4 j ∧ j ≠ p ∧ ¬ Nm x j ∧ ¬ Nm z j := fun j hj => by
    refine ⟨fun e => ?_, (hyn j hj).2⟩
    obtain ⟨s5, k5, _⟩ := hst4
    have hjl : j < s.nx := hy.rd.nm_lt hj
    exact k5.not_own (hyn j hj).1 (Nat.lt_succ_of_lt hjl) e
  obtain ⟨h0, hh0⟩ : ∃ h0, H[c]? = some h0 := ⟨_, List.getElem?_eq_getElem (by rw [hs.len]; exact hc4)⟩
  cases h0 with
  | some r0 =>
    rw [hs.busy hh0 hfit hfl] at he4 ha4
    subst he4
    obtain ⟨_, rfl⟩ := hbad (by show (15 : Int) ≠ 0; decide)
    simp [evOp_call, T.get_set, g0, g3, g4, g5, g7, g8, oracF_cons, tupK, hwi]
    have ha4' : absV v4 = absV v := ha4
    exact ⟨⟨i + 1, v4, y, kept, H, P, hlt, by simp [T.get_set, g0], by simp [T.get_set, g3], by simp [T.get_set, g4], by simp [T.get_set, g5], by simp [T.get_set, g7], by simp [T.get_set], hlive, hb4, by rw [ha4']; exact hs, hkp, by omega, hy4, hyn4, hx4⟩, muAt_lt g8 (by simp [T.get_set]) hlt⟩
  | none =>
    obtain ⟨p1, p2⟩ := hs.keep hh0 hfit hfl
    rw [p1] at he4
    subst he4
    obtain ⟨rfl, rfl⟩ := hok rfl
    rw [← ha4] at p2
    simp [evOp_call, T.get_set, g0, g3, g4, g5, g7, g8, oracF_cons, tupK, hwi]
    refine evOp_build1 (v := .int .i64 (c : Int)) (cs := [.int .i64 (c : Int)]) (fun k => el76 k) (fun k => ze3 k) rfl (by decide) (by simp [T.get_set]) (fun k => rfl) rfl ?_
    have hx5 := fun b => (Ext.refl s4.nx s4).new (Nat.le_refl _) b
    have hl4 := hlive.ext.le
    simp [evOp_call, T.get_set, g0, g3, g4, g5, g7, g8, oracF_cons, tupK]
    refine Gd_append un76 un76 io3 (n := kept.length) (lx := 1) (new := [.int .i64 (c : Int)]) (hy4.ext (hx5 _)) (by show st.nx ≤ s4.nx + 1; omega) (by decide) (fun s' h => by cases h) (fun k => rfl) (fun k => by simp [getC_eq, getsB_1, T.get_set, sets]) rfl (by omega) ?_
    intro y' s6 hy6 e6 hk6 hor6
    simp [evOp_call, T.get_set, g0, g3, g4, g5, g7, g8, oracF_cons, tupK, hwi]
    have hlv := fun b => hlive.more (hx5 b)
    have hnz6 : ∀ k, MOw q v4 k → ∀ o ln, y ≠ .sg k o ln 1 := fun k hk o ln e => (hyn4 k (by rw [e]; exact .inl ⟨_, _, _, rfl⟩)).1 hk
    have hpb : p < s4.nx := hb4.lt
    have keepB : ∀ m, m < s4.nx → ¬ Nm y m → s6.h.get m = s4.h.get m := fun m hm hn => (hk6 m (Nat.lt_succ_of_lt hm) (fun o ln e => hn (by rw [e]; exact .inl ⟨_, _, _, rfl⟩))).trans (T.get_set_ne _ _ (by omega))
    have hle6 : s4.nx ≤ s6.nx := Nat.le_trans (Nat.le_succ _) e6.le
    have hlive6 : MLive st s6 q v4 := ⟨(hlv _).at'.other e6.le (fun k hk => hk6 k ((hlv _).at'.own_lt hk) (hnz6 k hk)), hlive.own, (hlv _).ext.trans e6⟩
    have hb6 : BsAt s6 q v4 p z 4 (BitVec.ofNat 64 (kept.length + 1)) := by
      obtain ⟨t, b1, b2, b3⟩ := hb4.blk
      refine ⟨Nat.lt_of_lt_of_le hpb hle6, hb4.no, ⟨t, (keepB p hpb (fun e => (hyn4 p e).2.1 rfl)).trans b1, b2, b3⟩, ⟨hb4.row.1.other hle6 fun j hj => keepB j (hb4.row.1.nm_lt hj) (fun e => ?_), hb4.row.2⟩, hb4.ne⟩
      exact (hyn4 j e).2.2.2 hj
    have hx6 : RowAp s6 q v4 x 4 4 (bkRow q 4) := ⟨hx4.1.other hle6 fun j hj => keepB j (hx4.1.nm_lt hj) (fun e => (hyn4 j e).2.2.1 hj), hx4.2⟩
    refine ⟨⟨i + 1, v4, y', kept ++ [(c : Int)], _, _, hlt, by simp [T.get_set, g0], by simp [T.get_set, g3], by simp [T.get_set, g4], by simp [T.get_set, g5], by simp [T.get_set], by simp [T.get_set], hlive6, by rw [List.length_append]; exact hb6, p2, hkp.add hh0, by simp; omega, ?_, fun j hj => ?_, hx6⟩, muAt_lt g8 (by simp [T.get_set]) hlt⟩
    · have : ivs (kept ++ [(c : Int)]) = ivs kept ++ [.int .i64 (c : Int)] := by unfold ivs; simp
      rw [List.length_append, this]
      exact hy6
    · rcases hor6 with rfl | ⟨ln, rfl⟩
      · exact hyn4 j hj
      · rcases hj with ⟨_, _, _, e⟩ | ⟨_, _, _, e⟩
        · injection e with e
          have e : s4.nx + 1 = j := e
          exact ⟨fun h => by have := hlive.at'.own_lt h; omega, by omega, fun h => by have := hx4.1.nm_lt h; omega, fun h => by have := hb4.row.1.nm_lt h; omega⟩
        · cases e
theorem fits_intsB : Fits Try.prog (rowC iC) 76 := fits_row Try.underlying76 (by kernel_rfl) (by decide) (fits_i Try.underlying3)
theorem w_BooksOrder (l : List Int) (W : World) (x : Value) (hx : (rowC iC).rel W (fun j => [x][j]?.getD default) l) :
    Calls Try.prog 16 #[x] W fun e W' => e = .returned (.bool true) ∧ Below W.heap.size W W' := by
  obtain ⟨s1, r1, v1, b1, l1, q1, e1, a1⟩ := (rowC iC).enter (Begin.zero W) hx
  exact law_calls (lawC_sound namesOkB mixesB Try.func97 rfl bsAwake) b1 (.cons (q1 0 (by decide)).2 .nil) (g_BooksOrder s1 v1 l a1)
end Go.Proofs.Ytdoennkmcloalaa

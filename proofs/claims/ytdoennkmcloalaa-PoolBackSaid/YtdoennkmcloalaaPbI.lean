/-
  The walk of PoolBack.
-/
import Derived.Test.YtdoennkmcloalaaPbH
import Derived.Test.YtdoennkmcloalaaEx
import Derived.Test.YtdoennkmcloalaaIn
import Derived.Test.YtdoennkmcloalaaDrw
set_option linter.unusedSimpArgs false
set_option linter.unusedVariables false
namespace Go.Proofs.Ytdoennkmcloalaa
open Go.RowKit Ev
theorem PoolAt.er {s : St} {q m : Nat} {g : Gm} {z : V} {L : List (BitVec 64)} (h : PoolAt s q g z m L) {l : List (Nat × Nat)} (hq : inF l q = false) (hz : ∀ b, rowIn z b → inF l b = false) : PoolAt (er l s) q g z m L := by
  obtain ⟨h1, ⟨t, h2, h3⟩, h4⟩ := h
  exact ⟨h1, ⟨t, by rw [er_get, if_pos ⟨h1, hq⟩]; exact h2, h3⟩, h4.er hz⟩
theorem p80 {st : St} {q : Nat} {z : V} {L : List (BitVec 64)} (h : PoolAt st q g80 z 2 L) : P1 st q 2 g80 z L 42 79 := ⟨good80, h, by omega, rfl, rfl, rfl, by omega, by omega⟩
def pbI (st : St) (x : V) (l : List Int) (q0 q : Nat) (e : Env) (s : St) : Prop := ∃ (i : Nat) (z : V), i ≤ l.length ∧ e.get 0 = some x ∧ e.get 3 = some (.p q0 0) ∧ e.get 4 = some (.p q 0) ∧ e.get 6 = some (.int .i64 37) ∧ e.get 7 = some (.int .i64 (i : Int)) ∧ Ext st.nx st s ∧ st.nx ≤ q0 ∧ q0 < q ∧ (∃ t, s.h.get q0 = some (.cs 38 4 t) ∧ t.get 0 = some (.int .i64 80)) ∧ PoolAt s q g80 z 2 E80 ∧ ∀ b, rowIn z b → q0 < b
set_option maxRecDepth 20000 in
set_option maxHeartbeats 8000000 in
theorem g_PoolBack (st : St) (x : V) (l : List Int) (hx : RdRow st x 1 l.length (iv l)) (hl : ∀ i ∈ l, -9223372036854775808 ≤ i ∧ i ≤ 9223372036854775807) (hin : 0 < l.length → ∃ m o q, x = .sl m o l.length q ∧ m < st.nx ∧ ∀ s, Ext st.nx st s → isRo s.h m = true) :
    Gd (lawX Try.prog (callL Try.prog) 64 ⟨false, [], 0, 0⟩ 11 [x] st) fun r => r.1 = .bool true := by
  rw [Gd_lawX Try.func11 rfl]
  have hwf : wantK false (some V.u) = false := rfl
  have hwu : wantK true (some V.u) = false := rfl
  simp [evOp_call, sets, T.get_set, oracF_cons, hx.lenS]
  by_cases a0 : 15 < l.length
  · have a0' : (15 : Int) < l.length := by omega
    simp [evOp_call, T.get_set, oracF_cons, a0, a0']
  have a0' : ¬ (15 : Int) < l.length := by omega
  simp [evOp_call, T.get_set, oracF_cons, a0, a0']
  refine Gd.mono (plain80_any st _) ?_
  rintro ⟨r, s1⟩ ⟨hr, x1⟩
  simp only at hr x1
  subst hr
  have gst : ∀ (c : Cx) (st : St) (t : TypeId) (n i : Nat), storeK Try.prog c st t n i (gV g80) = storeK Try.prog c st t n i (.g [.int .i64 80, .int .i64 10, .int .i64 1, .int .i64 20]) := fun _ _ _ _ _ => rfl
  have gVg : V.g [.int .i64 80, .int .i64 10, .int .i64 1, .int .i64 20] = gV g80 := rfl
  have n1 : st.nx ≤ s1.nx := x1.le
  simp [gst, evOp_call, T.get_set, oracF_cons, newC_is, storeK_g, putB_eq, roT, sets, loadE_eq, getC_eq, getsB_succ, getsB_zero]
  refine ⟨by kernel_rfl, ?_⟩
  obtain ⟨s2, hS2⟩ : ∃ s2 : St, s2 = ⟨s1.nx + 1, s1.h.set s1.nx (.cs 38 4 ((((((((T.lf.set 0 (V.int IntKind.i64 0)).set 1 (V.int IntKind.i64 0)).set 2 (V.int IntKind.i64 0)).set 3 (V.int IntKind.i64 0)).set 0 (V.int IntKind.i64 80)).set 1 (V.int IntKind.i64 10)).set 2 (V.int IntKind.i64 1)).set 3 (V.int IntKind.i64 20)))⟩ := ⟨_, rfl⟩
  have n2 : s2.nx = s1.nx + 1 := by rw [hS2]
  have x2 : Ext st.nx st s2 := by rw [hS2]; exact x1.new n1 _
  obtain ⟨tq, kq, eq⟩ : ∃ t, s2.h.get s1.nx = some (.cs 38 4 t) ∧ t.get 0 = some (.int .i64 80) := ⟨_, by rw [hS2]; exact T.get_set_same _ _ _, by simp [T.get_set]⟩
  rw [← hS2]
  simp only [← n2]
  rw [gVg, cxOf_callL [(s1.nx, s1.nx + 1)] (by kernel_rfl) (by kernel_rfl) (looseW_at 3 (.p s1.nx 0) (by simp [T.get_set]) (by kernel_rfl)) (fun x hx => by simp at hx; subst hx; simp [clashes_tmp, T.get_set, gV, blkOf]) (fun p hp => by simp at hp; subst hp; rw [isRo_cs kq]; decide), forb_nil]
  simp only [List.append_nil]
  have hE2 : emptyI g80 g80.b.toNat = E80 := rfl
  have hM2 : (g80.b.toNat + 63) / 64 = 2 := rfl
  refine Gd_lift (R := fun v s' => ∃ y, v = .g [y] ∧ RdRow s' y 1 2 (wv E80)) (Gd.mono (empty_any _ g80 good80 _) fun r h => by
    obtain ⟨y, h1, h2, h3⟩ := h
    rw [hE2, hM2] at h2
    exact ⟨⟨y, h1, h2⟩, h3⟩) ?_
  rintro _ _ s3 ⟨y, rfl, hy⟩ k3 x3
  have hy3 := RdRow.sub k3 hy
  clear hy k3
  have n3 : s2.nx ≤ s3.nx := x3.le
  have kq3 := (x3.keep s1.nx (by omega)).trans kq
  simp [evOp_call, T.get_set, oracF_cons]
  rw [cxOf_call (by kernel_rfl) (by kernel_rfl), forb_rsOf (by kernel_rfl), liftF_nil]
  refine Gd.mono (pnew_any s3 g80 good80 y E80 (by rw [hM2]; exact hy3) _) ?_
  rintro ⟨r, s4⟩ ⟨q, z, hr, hp, hq, hzf, x4⟩
  simp only at hr hp hzf x4
  subst hr
  rw [hM2] at hp
  have n4 : s3.nx ≤ s4.nx := x4.le
  have kq4 := (x4.keep s1.nx (by omega)).trans kq3
  simp [evOp_call, T.get_set, oracF_cons, tupK, hwf]
  have hgE : gapsC E80 42 79 (K80 0) := by rw [← N80_zero]; exact gaps80 (by omega)
  have hlE : lens (K80 0) = 37 := by rw [lens80 (by omega)]; rfl
  refine Gd.mono (pfree_any s4 q 2 g80 z E80 good80 hp (by omega) 42 79 rfl rfl (by omega) (by omega) (K80 0) hgE _) ?_
  rintro ⟨r, s5⟩ ⟨hr, x5⟩
  simp only at hr x5
  subst hr
  rw [hlE]
  have n5 : s4.nx ≤ s5.nx := x5.le
  have kq5 := (x5.keep s1.nx (by omega)).trans kq4
  have hs5 : Ext st.nx st s5 := ((x2.trans (x3.mono (by omega))).trans (x4.mono (by omega))).trans (x5.mono (by omega))
  simp [evOp_call, T.get_set, oracF_cons]
  refine Gd_loop (pbI st x l s1.nx q) (fun en _ => muAt 7 l.length en) ?_ ?_
  · exact ⟨0, z, Nat.zero_le _, by simp [T.get_set], by simp [T.get_set], by simp [T.get_set], by simp [T.get_set], by simp [T.get_set], hs5, n1, by omega, ⟨tq, kq5, eq⟩, hp.ext x5, fun b hb => (by
      rcases hb with ⟨_, _, _, e⟩ | ⟨_, _, _, e⟩
      · have := hzf.2 _ _ _ _ e; omega
      · have := hzf.1 _ _ _ _ e; omega)⟩
  rintro en s ⟨i, z, hi, g0, g3, g4, g6, g7, hs, hq0, hq1, ⟨tb, kb, eb⟩, hpp, hzb⟩
  have hxs := hx.ext hs
  have hqs := hpp.1
  by_cases hlt : i < l.length
  case neg =>
    obtain rfl : i = l.length := by omega
    simp [evOp_call, T.get_set, oracF_cons, g0, g3, g4, g6, g7, hxs.lenS]
    refine ⟨by kernel_rfl, ?_⟩
    rw [cxOf_call (by kernel_rfl) (by kernel_rfl), forb_nil, liftF_nil]
    refine Gd.mono (pfree_any s q 2 g80 z E80 good80 hpp (by omega) 42 79 rfl rfl (by omega) (by omega) (K80 0) hgE _) ?_
    rintro ⟨r, s6⟩ ⟨hr, x6⟩
    simp only at hr x6
    subst hr
    rw [hlE]
    have n6 : s.nx ≤ s6.nx := x6.le
    have kb6 := (x6.keep s1.nx (by omega)).trans kb
    have hp6 := hpp.ext x6
    have hfg : ∀ b, s1.nx < b → inF [(s1.nx, s1.nx + 1)] b = false := fun b hb => by rw [inF_cons, if_neg (by omega)]; rfl
    simp (maxDischargeDepth := 12) [evOp_call, T.get_set, oracF_cons, g0, g3, g4, g6, g7, hwu]
    rw [cxOf_callL [(s1.nx, s1.nx + 1)] (by kernel_rfl) (by kernel_rfl) (looseW_at 3 (.p s1.nx 0) (by simp [T.get_set, g3]) (by kernel_rfl)) (fun x hx => by simp at hx; subst hx; simp [clashes_tmp, T.get_set, blkOf]; exact hfg q hq1) (fun p hp => by simp at hp; subst hp; rw [isRo_cs kb6]; decide), forb_step (by kernel_rfl) rfl]
    simp only [List.append_nil]
    refine Gd_lift (R := fun v s' => ∃ y, v = .g [y] ∧ RdRow s' y 1 2 (wv E80) ∧ ∀ b, rowIn y b → s6.nx ≤ b) (Gd.mono (pbits_any _ q 2 g80 z E80 (hp6.er (hfg q hq1) fun b hb => hfg b (hzb b hb)) (by omega) _) fun r h => by
      obtain ⟨y, h1, h2, h3, h4⟩ := h
      exact ⟨⟨y, h1, h2, h3⟩, h4⟩) ?_
    rintro _ _ s7 ⟨y, rfl, hy, hyb⟩ k7 x7
    have hy7 := RdRow.sub k7 hy
    clear hy k7
    have n7 : s6.nx ≤ s7.nx := x7.le
    have kb7 := (x7.keep s1.nx (by omega)).trans kb6
    simp (maxDischargeDepth := 12) [evOp_call, T.get_set, oracF_cons, g0, g3, g4, g6, g7, hwu]
    rw [cxOf_callL [(s1.nx, s1.nx + 1)] (by kernel_rfl) (by kernel_rfl) (looseW_at 3 (.p s1.nx 0) (by simp [T.get_set, g3]) (by kernel_rfl)) (fun x hx => by simp at hx; subst hx; simp [clashes_tmp, T.get_set, blkOf]) (fun p hp => by simp at hp; subst hp; rw [isRo_cs kb7]; decide), forb_step (by kernel_rfl) (forb_step (by kernel_rfl) rfl)]
    simp only [List.append_nil]
    refine Gd_lift (R := fun v s' => v = .int .i64 43) (Gd.mono (count_any _ y E80 (hy7.er fun b hb => hfg b (by have := hyb b hb; omega)) (by decide) _) fun r h => ⟨by rw [h.1, cnt80]; rfl, h.2⟩) ?_
    rintro _ _ s8 rfl - x8
    have n8 : s7.nx ≤ s8.nx := x8.le
    have kb8 := (x8.keep s1.nx (by omega)).trans kb7
    have w43 : IntKind.i64.wrap 43 = 43 := by decide
    have hlm : ∀ (b nx : Nat), inF ((0, s1.nx) :: (s1.nx + 1, nx) :: forb b (rsOf (rsOf (rsOf [] 1 s.nx s6.nx) 6 s6.nx s7.nx) 7 s7.nx s8.nx) []) s1.nx = false := fun b nx => inF_lds (rsOf_lt (rsOf_lt (rsOf_lt (fun e h => by cases h) (by omega)) (by omega)) (by omega))
    simp (maxDischargeDepth := 12) [evOp_call, T.get_set, oracF_cons, g0, g3, g4, g6, g7, hwu, loadE_eq, getC_eq, kb8, eb, hlm, w43]
  have hlt' : (i : Int) < l.length := by omega
  have hwi := wrap_nat (n := i) (by omega)
  obtain ⟨w, hw⟩ : ∃ w, l[i]? = some w := ⟨_, List.getElem?_eq_getElem hlt⟩
  have hwb := hl w (List.mem_of_getElem? hw)
  obtain ⟨m1, o1, ty1, sz1, tr1, i1, b1, k1, l1, c1, r1⟩ := hxs.idxB un76 io3 hlt
  have d0 : tr1.get o1 = some (.int .i64 w) := by simpa using c1 0 _ (by omega) (by simpa using iv_get hw)
  simp [evOp_call, T.get_set, oracF_cons, g0, g3, g4, g6, g7, hxs.lenS, hlt', i1, loadE_eq, getC_eq, k1, d0]
  have fin : ∀ (en' : Env) (s' : St) (z' : V), en'.get 0 = some x → en'.get 3 = some (.p s1.nx 0) → en'.get 4 = some (.p q 0) → en'.get 6 = some (.int .i64 37) → en'.get 7 = some (.int .i64 ((i + 1 : Nat) : Int)) → Ext q s s' → PoolAt s' q g80 z' 2 E80 → (∀ b, rowIn z' b → s1.nx < b) → pbI st x l s1.nx q en' s' ∧ muAt 7 l.length en' < muAt 7 l.length en := fun en' s' z' h0 h3 h4 h6 h7 hx' hp' hz' => ⟨⟨i + 1, z', hlt, h0, h3, h4, h6, h7, hs.trans (hx'.mono (by omega)), hq0, hq1, ⟨tb, (hx'.keep _ hq1).trans kb, eb⟩, hp', hz'⟩, muAt_lt g7 h7 hlt⟩
  by_cases c1 : w < 0
  · have c1' : ¬ 0 ≤ w := by omega
    refine Gd.mono (take_neg s q 2 g80 z E80 42 79 (p80 hpp) w c1 _) ?_
    rintro ⟨r, s6⟩ ⟨hr, x6⟩
    simp only at hr x6
    subst hr
    have k6 := (x6.keep _ b1).trans k1
    simp [evOp_call, T.get_set, oracF_cons, tupK, g0, g3, g4, g6, g7, i1, loadE_eq, getC_eq, k6, d0, c1, c1', hwu, hwi]
    exact fin _ _ z (by simp [T.get_set, g0]) (by simp [T.get_set, g3]) (by simp [T.get_set, g4]) (by simp [T.get_set, g6]) (by simp [T.get_set]) (x6.mono (by omega)) (hpp.ext x6) hzb
  have c1' : 0 ≤ w := by omega
  by_cases c2 : 37 < w
  · have c2' : ¬ w ≤ 37 := by omega
    have hcn : cnt ((42 : Int), (37 : Int)) = true := by decide
    refine Gd.mono (take_none s q 2 g80 z E80 42 79 (p80 hpp) w 42 37 hgE hcn ⟨c2, hwb.2⟩ (free80_none c2) _) ?_
    rintro ⟨r, s6⟩ ⟨hr, x6⟩
    simp only at hr x6
    subst hr
    have k6 := (x6.keep _ b1).trans k1
    simp [evOp_call, T.get_set, oracF_cons, tupK, g0, g3, g4, g6, g7, i1, loadE_eq, getC_eq, k6, d0, c1, c1', c2, c2', hwu, hwi]
    exact fin _ _ z (by simp [T.get_set, g0]) (by simp [T.get_set, g3]) (by simp [T.get_set, g4]) (by simp [T.get_set, g6]) (by simp [T.get_set]) (x6.mono (by omega)) (hpp.ext x6) hzb
  obtain ⟨n, rfl⟩ := Int.eq_ofNat_of_zero_le c1'
  have hn37 : n ≤ 37 := by omega
  have hT : Gd (callL Try.prog ⟨false, [], 0, 90⟩ 69 [.p q 0, .int .i64 0, .int .i64 (n : Int), .int .i64 4] s) (tkYes s q 2 g80 (N80 n) (if n = 0 then [] else [(42, (n : Int))])) := by
    by_cases h0 : n = 0
    · subst h0
      rw [N80_zero, if_pos rfl]
      exact take_zero s q 2 g80 z E80 42 79 (p80 hpp) _
    · rw [if_neg h0]
      exact take_some s q 2 g80 z E80 42 79 (p80 hpp) (n : Int) ⟨by omega, by omega⟩ 42 ⟨by omega, by omega⟩ (free80_some (by omega) hn37).1 _
  refine Gd.mono hT ?_
  rintro ⟨r, s6⟩ ⟨y6, hr, hy6, hyb, z6, hp6, hn6, hk6, x6, hz6⟩
  simp only at hr hy6 hp6 hn6 hk6 x6
  subst hr
  simp [evOp_call, T.get_set, oracF_cons, tupK, g0, g3, g4, g6, g7]
  refine ⟨by kernel_rfl, ?_⟩
  obtain ⟨m', o', q', hxe, hm', hro⟩ := hin (by omega)
  have hm1 : m1 = m' := by
    rw [hxe] at r1
    rcases r1 with ⟨_, _, _, e⟩ | ⟨_, _, _, e⟩
    · injection e with e; exact e.symm
    · cases e
  have hs6 : Ext st.nx st s6 := hs.trans (x6.mono (by omega))
  have k6 := (x6.keep m1 (by omega)).trans k1
  rw [cxOf_callRo [(m', m' + 1)] (by kernel_rfl) (by kernel_rfl) (looseW_at 0 (.sl m' o' l.length q') (by simp [T.get_set, g0, hxe]) (by kernel_rfl)) (fun p hp => by simp at hp; subst hp; exact hro _ hs6), forb_nil, liftF_nil]
  refine Gd.mono (pfree_any s6 q 2 g80 z6 (N80 n) good80 hp6 (by omega) 42 79 rfl rfl (by omega) (by omega) (K80 n) (gaps80 hn37) _) ?_
  rintro ⟨r, s7⟩ ⟨hr, x7⟩
  simp only at hr x7
  subst hr
  rw [lens80 hn37]
  have n7 : s6.nx ≤ s7.nx := x7.le
  have k7 := (x7.keep m1 (by omega)).trans k6
  have w37 : IntKind.i64.wrap (37 - (n : Int)) = 37 - (n : Int) := wrap_in (by omega) (by omega)
  have hlm : ∀ (b nx : Nat), inF ((0, m1) :: (m1 + 1, nx) :: forb b (rsOf [] 1 s6.nx s7.nx) []) m1 = false := fun b nx => inF_ld (by omega)
  simp (maxDischargeDepth := 12) [evOp_call, T.get_set, oracF_cons, g0, g3, g4, g6, g7, i1, loadE_eq, getC_eq, k7, d0, w37, hlm, hwf]
  rw [cxOf_call (by kernel_rfl) (by kernel_rfl), forb_step (by kernel_rfl) rfl, liftF_nil]
  have hGv : Gd (callL Try.prog ⟨false, [], 0, 90⟩ 78 [.p q 0, y6] s7) (gvR s7 q 2 g80 E80) := by
    by_cases h0 : n = 0
    · subst h0
      rw [N80_zero] at hp6
      rw [if_pos rfl] at hy6
      have := give_any s7 q 2 g80 z6 E80 42 79 (p80 (hp6.ext x7)) y6 [] (hy6.ext x7) (by simp) (fun r hr => by cases hr) 90
      exact this
    · rw [if_neg h0] at hy6
      obtain ⟨u1, u2, u3⟩ := free80_some (n := n) (by omega) hn37
      have := give_any s7 q 2 g80 z6 (N80 n) 42 79 (p80 (hp6.ext x7)) y6 [(42, (n : Int))] (hy6.ext x7) (by simp) (fun r hr => by simp at hr; subst hr; exact ⟨by omega, by show 1 ≤ (n : Int); omega, by show 42 + (n : Int) ≤ 79; omega, u2⟩) 90
      rw [u3] at this
      exact this
  refine Gd.mono hGv ?_
  rintro ⟨r, s8⟩ ⟨hr, z8, hp8, hn8, hk8, x8, hz8⟩
  simp only at hr hp8 hn8 hk8 x8
  subst hr
  simp [evOp_call, T.get_set, oracF_cons, g0, g3, g4, g6, g7, hwi]
  exact fin _ _ z8 (by simp [T.get_set, g0]) (by simp [T.get_set, g3]) (by simp [T.get_set, g4]) (by simp [T.get_set, g6]) (by simp [T.get_set]) ((x6.trans (x7.mono (by omega))).trans x8) hp8 (fun b hb => by have := hz8 b hb; omega)
theorem fits_intsP : Fits Try.prog (rowC iC) 76 := fits_row Try.underlying76 (by kernel_rfl) (by decide) (fits_i Try.underlying3)
theorem w_PoolBack (l : List Int) (W : World) (y : Value) (hy : (rowC iC).rel W (fun j => [y][j]?.getD default) l) :
    Calls Try.prog 11 #[y] W fun e W' => e = .returned (.bool true) ∧ Below W.heap.size W W' := by
  obtain ⟨s1, r1, v, b1, l1, q1, e1, a1⟩ := (rowC iC).enter (Begin.zero W) hy
  obtain ⟨h1, h2⟩ := rowC_ints a1
  exact law_calls (lawX_sound namesOkL mixesL (callL_both namesOkL mixesL) Try.func64 rfl plAwake) b1 (.cons (q1 0 (by decide)).2 .nil)
    (g_PoolBack s1 (v 0) l h1 h2 fun h => rowC_sl a1 (List.getElem?_eq_getElem h))
end Go.Proofs.Ytdoennkmcloalaa

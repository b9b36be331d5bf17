/-
  PLAIN: EdJ, EdK, EdL, EdM, in one text.
-/
import Derived.Test.YtcjddojcfdeflaaEdFI
import Derived.Test.YtcjddojcfdeflaaIn
set_option linter.unusedSimpArgs false
set_option linter.unusedVariables false
namespace Go.Proofs.Ytcjddojcfdeflaa
open Go.RowKit Ev
def wcells (D : List (Nat × BitVec 64)) : List V := D.flatMap fun d => [.int .i64 (d.1 : Int), wd d.2]
theorem wcells_append (L K : List (Nat × BitVec 64)) : wcells (L ++ K) = wcells L ++ wcells K := by simp [wcells]
theorem wcells_get : ∀ (L : List (Nat × BitVec 64)) (i : Nat) (r : Nat × BitVec 64), L[i]? = some r → (wcells L)[i * 2 + 0]? = some (.int .i64 (r.1 : Int))
  | [], i, r, h => by simp at h
  | q :: L, 0, r, h => by simp at h; subst h; rfl
  | q :: L, i + 1, r, h => by
    have h2 := wcells_get L i r (by simpa using h)
    show ((.int .i64 (q.1 : Int)) :: wd q.2 :: wcells L)[(i + 1) * 2 + 0]? = _
    rw [show (i + 1) * 2 + 0 = (i * 2 + 0) + 1 + 1 by omega]
    simpa using h2
def dOf (W : List (BitVec 64)) : Nat → List (Nat × BitVec 64)
  | 0 => []
  | i + 1 => if W[i]? = W64[i]? then dOf W i else dOf W i ++ [(i, (W[i]?).getD 0)]
theorem dOf_len (W : List (BitVec 64)) : ∀ i, (dOf W i).length ≤ i
  | 0 => by simp [dOf]
  | i + 1 => by
    have := dOf_len W i
    unfold dOf
    split
    · omega
    · simp; omega
theorem dOf_data {W : List (BitVec 64)} {n : Nat} (hn : 3 ≤ n ∧ n ≤ 10) (hW : Ws W n B64 Zw) : ∀ i, i ≤ 512 → ∀ d ∈ dOf W i, 336 ≤ d.1 ∧ d.1 < 504
  | 0, _, d, h => by simp [dOf] at h
  | i + 1, hi, d, h => by
    unfold dOf at h
    split at h
    · exact dOf_data hn hW i (by omega) d h
    · rename_i hne
      rcases List.mem_append.1 h with h | h
      · exact dOf_data hn hW i (by omega) d h
      · obtain rfl : d = (i, (W[i]?).getD 0) := by simpa using h
        exact Decidable.byContradiction fun hno => hne (hW.back hn (by omega) hno)
theorem dOf_same : ∀ i, dOf W64 i = []
  | 0 => rfl
  | i + 1 => by unfold dOf; rw [if_pos rfl]; exact dOf_same i
theorem dOf_none {W : List (BitVec 64)} : ∀ i, dOf W i = [] → ∀ j, j < i → W[j]? = W64[j]?
  | 0, _, j, h => by omega
  | i + 1, h, j, hj => by
    unfold dOf at h
    split at h
    · rename_i he
      by_cases hji : j = i
      · subst hji; exact he
      · exact dOf_none i h j (by omega)
    · simp at h
def ewrI (s2 : St) (q c m : Nat) (W : List (BitVec 64)) (e : Env) (s : St) : Prop := ∃ (i : Nat) (y : V) (D : List (Nat × BitVec 64)), i ≤ 512 ∧ e.get 0 = some (.p q 0) ∧ e.get 4 = some (.p c 0) ∧ e.get 17 = some (.sg m 0 512 1) ∧ e.get 18 = some (.int .i64 512) ∧ e.get 19 = some (.int .i64 (i : Int)) ∧ e.get 2 = some (.c (.slice none 0 0)) ∧ e.get 3 = some y ∧ OwnRow s2.nx s y 2 D.length (wcells D) ∧ D.length ≤ i ∧ D = dOf W i ∧ Ext s2.nx s2 s
set_option maxRecDepth 20000 in
set_option maxHeartbeats 4000000 in
theorem ewrites_any (st : St) (q m : Nat) (W : List (BitVec 64)) (h : EdAt st q m g64 W) (hWb : bwF g64 W = B64) (hw : EdWas st q m) (nt : Nat) :
    Gd (callL Try.prog ⟨false, [], 0, nt⟩ 10 [.p q 0] st) fun r => ∃ y, r.1 = .t [.c (.slice none 0 0), y] ∧ OwnRow st.nx r.2 y 2 (dOf W 512).length (wcells (dOf W 512)) ∧ Ext st.nx st r.2 := by
  rw [Gd_callL Try.func10 rfl]
  have hwf : wantK false (some V.u) = false := rfl
  have hwu : wantK true (some V.u) = false := rfl
  have hWl : W.length = 512 := h.len
  have hq1 := h.q1
  have hrd := h.rd
  have hm1 := h.m1
  obtain ⟨ty, tr, km, hro, hcW⟩ := h.row
  obtain ⟨t, kt, t0, t1, t2, t3, t4⟩ := h.box
  obtain ⟨t', y0, yb, kt', t5, t6, hy0, hyb, -, -⟩ := hw
  rw [kt] at kt'
  injection kt' with kt'
  injection kt' with _ _ kt'
  subst kt'
  simp [evOp_call, sets, T.get_set, loadE_eq, getC_eq, getsB_succ, getsB_zero, kt, t0, t1, t2, t3, t4]
  refine Gd.mono (ibits_any st g64 good64 _ W hrd (capSg _ _ _ _) _) ?_
  rintro ⟨r, s1⟩ ⟨mb, hr, hmb, hmb0, x1⟩
  simp only at hr hmb x1
  subst hr
  have n1 := x1.le
  have hqn : ¬ s1.nx = q := by omega
  have kt1 := (x1.keep q hq1).trans kt
  obtain ⟨c, hc⟩ : ∃ c, c = s1.nx := ⟨_, rfl⟩
  obtain ⟨s2, hs2⟩ : ∃ s2 : St, s2 = ⟨s1.nx + 1, s1.h.set s1.nx (.cs 49 1 (T.lf.set 0 (V.sg mb 0 (8 * (bN g64).toNat) 1)))⟩ := ⟨_, rfl⟩
  simp [evOp_call, sets, T.get_set, newC_is, cellsOf, storeK_g, putB_eq, roT, loadE_eq, getC_eq, kt1, t4, hqn]
  rw [← hs2, ← hc]
  have x2 : Ext s1.nx s1 s2 := by rw [hs2]; exact (Ext.refl _ _).new (Nat.le_refl _) _
  have n2 : s2.nx = c + 1 := by rw [hs2, hc]
  obtain ⟨tc, kc, c0⟩ : ∃ t, s2.h.get c = some (.cs 49 1 t) ∧ t.get 0 = some (.sg mb 0 8 1) := ⟨_, by rw [hs2, hc]; exact T.get_set_same _ _ _, by simp [T.get_set]; rfl⟩
  clear hs2
  have xs2 : Ext st.nx st s2 := x1.trans (x2.mono n1)
  have hr2 := hrd.ext xs2
  have hy02 := hy0.ext xs2
  have hyb2 := hyb.ext xs2
  have hmb2 : RdRow s2 (.sg mb 0 8 1) 1 8 (wv B64) := by
    have h1 := hmb.ext x2
    have h2 : bitsW g64 W (bN g64).toNat = B64 := hWb
    rw [h2] at h1
    exact h1
  have kt2 := (x2.keep q (by omega)).trans kt1
  have km2 := (x2.keep m (by omega)).trans ((x1.keep m hm1).trans km)
  clear hmb hrd hy0 hyb
  rw [hr2.lenS]
  simp [evOp_call, sets, T.get_set, -Int.natCast_mul, -Int.natCast_add]
  refine Gd_loop (ewrI s2 q c m W) (fun en _ => muAt 19 512 en) ?_ ?_
  · exact ⟨0, _, [], Nat.zero_le _, by simp [T.get_set], by simp [T.get_set], by simp [T.get_set]; rfl, by simp [T.get_set]; rfl, by simp [T.get_set], by simp [T.get_set], by simp [T.get_set], OwnRow.nil _ _ _, by simp, rfl, Ext.refl _ _⟩
  rintro en s ⟨i, y, D, hi, g0, g4, g17, g18, g19, g2, g3, hy, hD, hDd, hs⟩
  have hle := hs.le
  by_cases hlt : i < 512
  · have hlt' : (i : Int) < 512 := by omega
    have hwi := wrap_nat (n := i) (by omega)
    have w1 : IntKind.i64.wrap ((i : Int) + 1) = (i : Int) + 1 := wrap_in (by omega) (by omega)
    have q8 : (i : Int).tdiv 8 = (i : Int) / 8 := Int.tdiv_eq_ediv_of_nonneg (by omega)
    have w8 : IntKind.i64.wrap ((i : Int) / 8) = (i : Int) / 8 := wrap_in (by omega) (by omega)
    obtain ⟨w, hwW⟩ : ∃ w, W[i]? = some w := ⟨_, List.getElem?_eq_getElem (by rw [hWl]; exact hlt)⟩
    obtain ⟨v, hvW⟩ : ∃ v, W64[i]? = some v := ⟨_, List.getElem?_eq_getElem (by rw [len64]; exact hlt)⟩
    have d1 : tr.get i = some (wd w) := hcW i _ (wv_get hwW)
    have kmS := (hs.keep m (by omega)).trans km2
    have ktS := (hs.keep q (by omega)).trans kt2
    have kcS := (hs.keep c (by omega)).trans kc
    simp [evOp_call, sets, T.get_set, g0, g4, g17, g18, g19, g2, g3, hlt, hlt', loadE_eq, getC_eq, kmS, d1, q8, w8, kcS, c0, getsB_succ, getsB_zero]
    have hh := bhas_any s (.sg mb 0 8 1) B64 (by rw [show B64.length = 8 from by decide +kernel]; exact hmb2.ext hs) ((i : Int) / 8) (by omega) 64
    refine Gd.mono hh ?_
    rintro ⟨r, s3⟩ ⟨hr, x3⟩
    simp only at hr x3
    subst hr
    have n3 := x3.le
    have ktS3 := (x3.keep q (by omega)).trans ktS
    have hs3 : Ext s2.nx s2 s3 := hs.trans (x3.mono hle)
    cases hb : hasI B64 ((i : Int) / 8)
    · clear hh
      have hsS := hs.trans ((x3).mono hle)
      have hleS := hsS.le
      obtain ⟨m1, o1, ty1, sz1, tr1, i1, b1, k1, l1, c1⟩ := (hy02.ext hsS).idx (st := s3) un28 io39 (i := i) hlt
      have d2 : tr1.get o1 = some (wd v) := by simpa using c1 0 _ (by omega) (by simpa using wv_get hvW)
      have hyS := hy.ext (x3)
      by_cases hwv : w = v
      · simp [evOp_call, sets, T.get_set, g0, g4, g17, g18, g19, g2, g3, hwf, hwu, loadE_eq, getC_eq, getsB_succ, getsB_zero, ktS3, t5, t6, i1, k1, d2, hwv, w1]
        exact ⟨⟨i + 1, y, D, hlt, by simp [T.get_set, g0], by simp [T.get_set, g4], by simp [T.get_set, g17], by simp [T.get_set, g18], by simp [T.get_set], by simp [T.get_set, g2], by simp [T.get_set, g3], hyS, by omega, by rw [hDd]; simp [dOf, hwW, hvW, hwv], hsS⟩, muAt_lt g19 (by simp [T.get_set]) hlt⟩
      · simp [evOp_call, sets, T.get_set, g0, g4, g17, g18, g19, g2, g3, hwf, hwu, loadE_eq, getC_eq, getsB_succ, getsB_zero, ktS3, t5, t6, i1, k1, d2, hwv, w1]
        refine evOp_build1 (v := .g [.int .i64 (i : Int), wd w]) (cs := [.int .i64 (i : Int), wd w]) (fun k => el36 k) (fun k => ze41 k) rfl (by omega) (by simp [T.get_set]) (fun k => rfl) rfl ?_
        simp [evOp_call, sets, T.get_set, g0, g4, g17, g18, g19, g2, g3, hwf, hwu]
        refine Gd_append un36 un36 io41 (b := s2.nx) (n := D.length) (lx := 1) (new := [.int .i64 (i : Int), wd w]) (hyS.ext ((Ext.refl _ _).new (Nat.le_refl _) _)) (by show s2.nx ≤ s3.nx + 1; omega) (by decide) (fun s' h => by cases h) (fun k => rfl) (fun k => by simp [getC_eq, getsB_2, T.get_set, sets]) rfl (by omega) ?_
        intro y5 s5 hy5 x5 _ _
        simp [evOp_call, sets, T.get_set, g0, g4, g17, g18, g19, g2, g3, hwf, hwu, w1]
        have e5 : wcells D ++ [.int .i64 (i : Int), wd w] = wcells (D ++ [(i, w)]) := by rw [wcells_append]; rfl
        rw [e5] at hy5
        refine ⟨⟨i + 1, y5, D ++ [(i, w)], hlt, by simp [T.get_set, g0], by simp [T.get_set, g4], by simp [T.get_set, g17], by simp [T.get_set, g18], by simp [T.get_set], by simp [T.get_set, g2], by simp [T.get_set], by rw [List.length_append]; exact hy5, by simp; omega, ?_, (hsS.new hleS _).trans x5⟩, muAt_lt g19 (by simp [T.get_set]) hlt⟩
        rw [hDd]; simp [dOf, hwW, hvW, hwv]
    · simp [evOp_call, sets, T.get_set, g0, g4, g17, g18, g19, g2, g3, hwf, hwu, loadE_eq, getC_eq, ktS3, t6, getsB_succ, getsB_zero]
      refine Gd.mono (bhas_any s3 yb B64 (by rw [show B64.length = 8 from by decide +kernel]; exact hyb2.ext hs3) ((i : Int) / 8) (by omega) 64) ?_
      rintro ⟨r, s4⟩ ⟨hr, x4⟩
      simp only at hr x4
      rw [hb] at hr
      subst hr
      have ktS4 := (x4.keep q (by omega)).trans ktS3
      have hsS := hs.trans ((x3.trans (x4.mono n3)).mono hle)
      have hleS := hsS.le
      obtain ⟨m1, o1, ty1, sz1, tr1, i1, b1, k1, l1, c1⟩ := (hy02.ext hsS).idx (st := s4) un28 io39 (i := i) hlt
      have d2 : tr1.get o1 = some (wd v) := by simpa using c1 0 _ (by omega) (by simpa using wv_get hvW)
      have hyS := hy.ext (x3.trans (x4.mono n3))
      by_cases hwv : w = v
      · simp [evOp_call, sets, T.get_set, g0, g4, g17, g18, g19, g2, g3, hwf, hwu, loadE_eq, getC_eq, getsB_succ, getsB_zero, ktS4, t5, t6, i1, k1, d2, hwv, w1]
        exact ⟨⟨i + 1, y, D, hlt, by simp [T.get_set, g0], by simp [T.get_set, g4], by simp [T.get_set, g17], by simp [T.get_set, g18], by simp [T.get_set], by simp [T.get_set, g2], by simp [T.get_set, g3], hyS, by omega, by rw [hDd]; simp [dOf, hwW, hvW, hwv], hsS⟩, muAt_lt g19 (by simp [T.get_set]) hlt⟩
      · simp [evOp_call, sets, T.get_set, g0, g4, g17, g18, g19, g2, g3, hwf, hwu, loadE_eq, getC_eq, getsB_succ, getsB_zero, ktS4, t5, t6, i1, k1, d2, hwv, w1]
        refine evOp_build1 (v := .g [.int .i64 (i : Int), wd w]) (cs := [.int .i64 (i : Int), wd w]) (fun k => el36 k) (fun k => ze41 k) rfl (by omega) (by simp [T.get_set]) (fun k => rfl) rfl ?_
        simp [evOp_call, sets, T.get_set, g0, g4, g17, g18, g19, g2, g3, hwf, hwu]
        refine Gd_append un36 un36 io41 (b := s2.nx) (n := D.length) (lx := 1) (new := [.int .i64 (i : Int), wd w]) (hyS.ext ((Ext.refl _ _).new (Nat.le_refl _) _)) (by show s2.nx ≤ s4.nx + 1; omega) (by decide) (fun s' h => by cases h) (fun k => rfl) (fun k => by simp [getC_eq, getsB_2, T.get_set, sets]) rfl (by omega) ?_
        intro y5 s5 hy5 x5 _ _
        simp [evOp_call, sets, T.get_set, g0, g4, g17, g18, g19, g2, g3, hwf, hwu, w1]
        have e5 : wcells D ++ [.int .i64 (i : Int), wd w] = wcells (D ++ [(i, w)]) := by rw [wcells_append]; rfl
        rw [e5] at hy5
        refine ⟨⟨i + 1, y5, D ++ [(i, w)], hlt, by simp [T.get_set, g0], by simp [T.get_set, g4], by simp [T.get_set, g17], by simp [T.get_set, g18], by simp [T.get_set], by simp [T.get_set, g2], by simp [T.get_set], by rw [List.length_append]; exact hy5, by simp; omega, ?_, (hsS.new hleS _).trans x5⟩, muAt_lt g19 (by simp [T.get_set]) hlt⟩
        rw [hDd]; simp [dOf, hwW, hvW, hwv]
  · obtain rfl : i = 512 := by omega
    simp [evOp_call, sets, T.get_set, g0, g4, g17, g18, g19, g2, g3]
    subst hDd
    exact ⟨⟨hy.1, hy.2.imp id fun ⟨m', ty', t', e, h1, h2⟩ => ⟨m', ty', t', e, by omega, h2⟩⟩, xs2.trans (hs.mono xs2.le)⟩
end Go.Proofs.Ytcjddojcfdeflaa
set_option linter.unusedSimpArgs false
set_option linter.unusedVariables false
namespace Go.Proofs.Ytcjddojcfdeflaa
open Go.RowKit Ev
theorem edit_eqlnil (st : St) (x y : Operand) (n : Nat) : binE Try.prog st .eql 24 x y (.p n 0) (.c (.pointer none)) = some (.bool false, st) := by kernel_rfl
theorem bldNd (st : St) : bldK Try.prog 33 [(0, .const (.int .i64 1)), (1, .const (.int .i64 1))] [.int .i64 1, .int .i64 1] [.int .i64 0, .int .i64 0, .int .i64 0, .c (.slice none 0 0)] st = some (.g [.int .i64 1, .int .i64 1, .int .i64 0, .c (.slice none 0 0)], st) := by kernel_rfl
def ecI (s7 : St) (q m n : Nat) (W : List (BitVec 64)) (y : V) (D : List (Nat × BitVec 64)) (en : Env) (s : St) : Prop := ∃ i : Nat, i ≤ D.length ∧ en.get 1 = some (.int .i64 (n : Int)) ∧ en.get 5 = some (.p q 0) ∧ en.get 7 = some (.c (.slice none 0 0)) ∧ en.get 8 = some y ∧ en.get 9 = some (.int .i64 (i : Int)) ∧ s = s7
set_option maxRecDepth 20000 in
set_option maxHeartbeats 4000000 in
theorem g_EditClears (st : St) (x : V) (len : Nat) (l : List V) (hx : RdRow st x 1 len l) (hl : bytesR l) (n0 : Int) :
    Gd (lawX Try.prog edF3 4 ⟨false, [], 0, 0⟩ 3 [x, .int .i64 n0] st) fun r => r.1 = .bool true := by
  rw [Gd_lawX Try.func3 rfl]
  have hwf : wantK false (some V.u) = false := rfl
  have hwu : wantK true (some V.u) = false := rfl
  by_cases h1 : 1200 < (len : Int)
  · simp [evOp_call, sets, T.get_set, hx.lenS, h1, hwf, hwu]
  by_cases h2 : n0 < 3
  · simp [evOp_call, sets, T.get_set, hx.lenS, h1, h2, hwf, hwu]
  by_cases h3 : 10 < n0
  · simp [evOp_call, sets, T.get_set, hx.lenS, h1, h2, h3, hwf, hwu]
  obtain ⟨n, rfl⟩ : ∃ n : Nat, n0 = (n : Int) := ⟨n0.toNat, by omega⟩
  have hn : 3 ≤ n ∧ n ≤ 10 := by omega
  have hlen : len ≤ 1200 := by omega
  simp [evOp_call, sets, T.get_set, hx.lenS, h1, h2, h3, hwf, hwu]
  rw [oracF_ne _ rfl, liftF_nil, edF3_ne (by kernel_rfl), wbF_zero, edF2_ne (by kernel_rfl), wbF_zero, edF1_ne (by kernel_rfl), wbF_zero]
  refine Gd.mono (emade_any st _) ?_
  rintro ⟨z, s1⟩ ⟨hz, x1⟩
  simp only at hz x1
  have n1 := x1.le
  simp [evOp_call, sets, T.get_set, oracF_cons, hwf, hwu]
  refine Gd.mono (enew_any s1 st.nx z hz _) ?_
  rintro ⟨r, s2⟩ ⟨q, m, hr, hE, hEw, hm, hq, x2⟩
  simp only at hr hE hEw x2
  subst hr
  have n2 := x2.le
  simp [evOp_call, sets, T.get_set, oracF_cons, hwf, hwu, tupK, edit_eqlnil]
  rw [bldNd]
  simp [evOp_call, sets, T.get_set, oracF_cons, hwf, hwu]
  rw [edF3_ne (by kernel_rfl), wbF_zero, edF2_ne (by kernel_rfl), wbF_zero, edF1_ne (by kernel_rfl), wbF_zero]
  refine Gd.mono (eset0_any s2 q m n hn W64 hE (ws_start hn) _) ?_
  rintro ⟨r, s3⟩ ⟨hr, W3, hE3, hW3, k3⟩
  simp only at hr hE3 hW3 k3
  subst hr
  have n3 := k3.le
  have hxm : ¬ rowIn x m := fun hb => by have := rowAt_none hx hb; omega
  have hx3 := k3.rd ((hx.ext x1).ext x2) hxm
  have hw3 := hEw.kp k3 hE.q1 hE.qm
  simp [evOp_call, sets, T.get_set, oracF_cons, hwf, hwu]
  rw [edF3_ne (by kernel_rfl), wbF_zero]
  refine Gd.mono (efill_any s3 q m n hn W3 hE3 hW3 len hlen x l hx3 hl hxm _) ?_
  rintro ⟨r, s4⟩ ⟨hr, W4, hE4, hW4, k4⟩
  simp only at hr hE4 hW4 k4
  subst hr
  have n4 := k4.le
  have hw4 := hw3.kp k4 hE3.q1 hE3.qm
  simp [evOp_call, sets, T.get_set, oracF_cons, hwf, hwu]
  rw [edF3_ne (by kernel_rfl), wbF_zero, edF2_ne (by kernel_rfl), wbF_zero, edF1_ne (by kernel_rfl), wbF_zero]
  refine Gd.mono (eclear_any s4 q m n hn W4 hE4 len hlen hW4 _) ?_
  rintro ⟨r, s5⟩ ⟨hr, W5, hE5, hW5, k5⟩
  simp only at hr hE5 hW5 k5
  subst hr
  have n5 := k5.le
  have hw5 := hw4.kp k5 hE4.q1 hE4.qm
  simp [evOp_call, sets, T.get_set, oracF_cons, hwf, hwu]
  rw [edF3_ne (by kernel_rfl), wbF_zero, edF2_ne (by kernel_rfl), wbF_zero, edF1_ne (by kernel_rfl), wbF_zero]
  refine Gd.mono (ewrites_any s5 q m W5 hE5 hW5.bits hw5 _) ?_
  rintro ⟨r, s6⟩ ⟨y, hr, hy, x6⟩
  simp only at hr hy x6
  have hDd := dOf_data hn hW5 512 (Nat.le_refl _)
  have hD := dOf_len W5 512
  generalize dOf W5 512 = D at hy hDd hD
  subst hr
  have n6 := x6.le
  have hE6 := hE5.ext x6
  simp [evOp_call, sets, T.get_set, oracF_cons, hwf, hwu, tupK]
  refine Gd_loop (ecI s6 q m n W5 y D) (fun en _ => muAt 9 D.length en) ?_ ?_
  · exact ⟨0, Nat.zero_le _, by simp [T.get_set], by simp [T.get_set], by simp [T.get_set], by simp [T.get_set], by simp [T.get_set], rfl⟩
  rintro en s ⟨i, hi, g1, g5, g7, g8, g9, rfl⟩
  by_cases hlt : i < D.length
  · have hlt' : (i : Int) < (D.length : Int) := by omega
    have w1 : IntKind.i64.wrap ((i : Int) + 1) = (i : Int) + 1 := wrap_in (by omega) (by omega)
    obtain ⟨d, hd⟩ : ∃ d, D[i]? = some d := ⟨_, List.getElem?_eq_getElem hlt⟩
    have hdr := hDd d (List.mem_of_getElem? hd)
    obtain ⟨m1, o1, ty1, sz1, tr1, i1, b1, k1, l1, c1⟩ := hy.rd.idx (st := s) un36 io41 hlt
    have d1 : tr1.get o1 = some (.int .i64 (d.1 : Int)) := by simpa using c1 0 _ (by omega) (wcells_get D i d hd)
    have e1 : ¬ (d.1 : Int) < 336 := by omega
    have e2 : ¬ 504 ≤ (d.1 : Int) := by omega
    simp [evOp_call, sets, T.get_set, g1, g5, g7, g8, g9, hy.rd.lenS, hlt', oracF_cons, hwf, hwu, i1, loadE_eq, getC_eq, getsB_succ, getsB_zero, k1, d1, e1, e2, w1]
    exact ⟨⟨i + 1, hlt, by simp [T.get_set, g1], by simp [T.get_set, g5], by simp [T.get_set, g7], by simp [T.get_set, g8], by simp [T.get_set], rfl⟩, muAt_lt g9 (by simp [T.get_set]) hlt⟩
  · obtain rfl : i = D.length := by omega
    have hNd : getNd (blkW W5 (atN g64 n)) = some noN := by rw [atN64 (by omega), hW5.node, ← putN_none]; exact getNd_put fits_none
    obtain ⟨t, kt, t0, t1, t2, t3, t4⟩ := hE6.box
    simp [evOp_call, sets, T.get_set, g1, g5, g7, g8, g9, hy.rd.lenS, oracF_cons, hwf, hwu, loadE_eq, getC_eq, getsB_succ, getsB_zero, kt, t0, t1, t2, t3, t4]
    rw [edF3_ne (by kernel_rfl), wbF_zero, edF2_ne (by kernel_rfl), wbF_zero, edF1_ne (by kernel_rfl), wbF_zero]
    refine Gd.mono (inode_any s g64 good64 _ W5 hE6.rd (capSg _ _ _ _) n ⟨by omega, by show (n : Int) ≤ 10; omega⟩ noN hNd goodNo (by decide) _) ?_
    rintro ⟨r, s7⟩ ⟨z7, hr, hz7, hzf7, hzc7, x7⟩
    simp only at hr hz7 x7
    subst hr
    have hzo := hz7.one
    simp [ndV, evOp_call, sets, T.get_set, g1, g5, g7, g8, g9, tupK, newC_is, cellsOf, storeK_g, putB_eq, roT, hzo, oracF_cons, hwf, hwu, loadE_eq, getC_eq]
    have hnl : ∀ s : St, lenS s (.c (.slice none 0 0)) = some (.int .i64 0, s) := fun s => rfl
    rw [hnl]
    simp [evOp_call, sets, T.get_set, g1, g5, g7, g8, g9, tupK, oracF_cons, hwf, hwu, loadE_eq, getC_eq, noN]
end Go.Proofs.Ytcjddojcfdeflaa
set_option linter.unusedSimpArgs false
set_option linter.unusedVariables false
namespace Go.Proofs.Ytcjddojcfdeflaa
open Go.RowKit Ev
noncomputable def edF4 : CallF := addF Try.prog edF3 4
theorem dOf_some {W : List (BitVec 64)} (hW : Ws W 3 B64 (putN (F64 0 0))) : (0 : Int) < ((dOf W 512).length : Int) := by
  by_cases h : dOf W 512 = []
  · have hall := dOf_none 512 h
    have he : W = W64 := by
      refine List.ext_getElem? fun j => ?_
      by_cases hj : j < 512
      · exact hall j hj
      · rw [List.getElem?_eq_none (by rw [hW.len]; omega), List.getElem?_eq_none (by rw [len64]; omega)]
    have h1 := hW.node
    rw [he, (ws_start (n := 3) (by omega)).node] at h1
    exact absurd h1 (by decide +kernel)
  · have := List.length_pos_iff.2 h
    omega
set_option maxRecDepth 20000 in
set_option maxHeartbeats 4000000 in
theorem g_awake (st : St) :
    Gd (edF4 ⟨false, [], 0, 0⟩ 4 [] st) fun r => r.1 = .bool true := by
  unfold edF4
  rw [Gd_addF Try.func4 rfl]
  have hwf : wantK false (some V.u) = false := rfl
  have hwu : wantK true (some V.u) = false := rfl
  have hnl : ∀ s : St, lenS s (.c (.slice none 0 0)) = some (.int .i64 0, s) := fun s => rfl
  have hgb : g64.b = 64 := rfl
  simp [evOp_call, sets, T.get_set, hwf, hwu]
  rw [edF3_ne (by kernel_rfl), wbF_zero, edF2_ne (by kernel_rfl), wbF_zero, edF1_ne (by kernel_rfl), wbF_zero]
  refine Gd.mono (emade_any st _) ?_
  rintro ⟨z, s1⟩ ⟨hz, x1⟩
  simp only at hz x1
  have n1 := x1.le
  simp [evOp_call, sets, T.get_set, hwf, hwu]
  refine Gd.mono (enew_any s1 st.nx z hz _) ?_
  rintro ⟨r, s2⟩ ⟨q, m, hr, hE, hEw, hm, hq, x2⟩
  simp only at hr hE hEw x2
  subst hr
  have n2 := x2.le
  simp [evOp_call, sets, T.get_set, hwf, hwu, tupK, edit_eqlnil]
  rw [edF3_ne (by kernel_rfl), wbF_zero, edF2_ne (by kernel_rfl), wbF_zero, edF1_ne (by kernel_rfl), wbF_zero]
  refine Gd.mono (ewrites_any s2 q m W64 hE rfl hEw _) ?_
  rintro ⟨r, s3⟩ ⟨y3, hr, hy3, x3⟩
  simp only at hr hy3 x3
  subst hr
  rw [dOf_same] at hy3
  have n3 := x3.le
  have hE3 := hE.ext x3
  have hw3 := hEw.kp (Kp.ofExt (m := m) x3) hE.q1 hE.qm
  simp [evOp_call, sets, T.get_set, hwf, hwu, tupK]
  rw [bldNd]
  simp [evOp_call, sets, T.get_set, hwf, hwu]
  rw [edF3_ne (by kernel_rfl), wbF_zero, edF2_ne (by kernel_rfl), wbF_zero, edF1_ne (by kernel_rfl), wbF_zero]
  refine Gd.mono (eset0_any s3 q m 3 (by omega) W64 hE3 (ws_start (by omega)) _) ?_
  rintro ⟨r, s4⟩ ⟨hr, W4, hE4, hW4, k4⟩
  simp only at hr hE4 hW4 k4
  subst hr
  have n4 := k4.le
  have hw4 := hw3.kp k4 hE3.q1 hE3.qm
  simp [evOp_call, sets, T.get_set, hwf, hwu]
  rw [edF3_ne (by kernel_rfl), wbF_zero, edF2_ne (by kernel_rfl), wbF_zero, edF1_ne (by kernel_rfl), wbF_zero]
  refine Gd.mono (ewrites_any s4 q m W4 hE4 hW4.bits hw4 _) ?_
  rintro ⟨r, s5⟩ ⟨y5, hr, hy5, x5⟩
  simp only at hr hy5 x5
  subst hr
  have hpos := dOf_some hW4
  generalize dOf W4 512 = D at hy5 hpos
  have hpos2 : 0 < D.length := by omega
  have hE5 := hE4.ext x5
  have f0 : FOk 0 := fOk (by omega)
  have hNd : getNd (blkW W4 (atN g64 3)) = some (F64 0 0) := by rw [atN64 (by omega), hW4.node]; exact getNd_put f0.fits
  obtain ⟨t, kt, t0, t1, t2, t3, t4⟩ := hE5.box
  simp [evOp_call, sets, T.get_set, hwf, hwu, tupK, loadE_eq, getC_eq, getsB_succ, getsB_zero, kt, t0, t1, t2, t3, t4]
  rw [edF3_ne (by kernel_rfl), wbF_zero, edF2_ne (by kernel_rfl), wbF_zero, edF1_ne (by kernel_rfl), wbF_zero]
  refine Gd.mono (inode_any s5 g64 good64 _ W4 hE5.rd (capSg _ _ _ _) 3 ⟨by omega, by decide⟩ (F64 0 0) hNd f0.good (by decide) _) ?_
  rintro ⟨r, s7⟩ ⟨z7, hr, hz7, hzf7, hzc7, x7⟩
  simp only at hr hz7 x7
  subst hr
  have hzo := hz7.one
  have kt7 := (x7.keep q hE5.q1).trans kt
  have hqn : ¬ s7.nx = q := by have := hE5.q1; have := x7.le; omega
  simp [ndV, evOp_call, sets, T.get_set, tupK, newC_is, cellsOf, storeK_g, putB_eq, roT, hzo, hwf, hwu, loadE_eq, getC_eq]
  rw [hnl]
  simp [evOp_call, sets, T.get_set, tupK, hwf, hwu, loadE_eq, getC_eq, hy3.rd.lenS]
  simp [evOp_call, sets, T.get_set, tupK, hwf, hwu, loadE_eq, getC_eq, hy5.rd.lenS, hpos, hpos2, F64, kt7, t0, hqn, hgb]
end Go.Proofs.Ytcjddojcfdeflaa
set_option linter.unusedSimpArgs false
set_option linter.unusedVariables false
namespace Go.Proofs.Ytcjddojcfdeflaa
open Go.RowKit Ev
theorem namesOkE : Ev.namesOk Try.prog = true := by kernel_rfl
theorem mixesE : Try.prog.follows .mixedOrders = true := by kernel_rfl
theorem edF3_both : CallSound Try.prog edF3 ∧ HasBody Try.prog edF3 :=
  addF_both namesOkE mixesE _ (wbF_both (addF_both namesOkE mixesE _ (wbF_both (addF_both namesOkE mixesE _ (wbF_both (callL_both namesOkE mixesE))))))
theorem edAwake (W : World) : Calls Try.prog 4 #[] W fun e W' => e = .returned (.bool true) ∧ Below W.heap.size W W' := law_calls (addF_both namesOkE mixesE _ edF3_both).1 (Begin.zero W) .nil (g_awake ⟨0, .lf⟩)
theorem editLaw : CallSound Try.prog (lawX Try.prog edF3 4) := lawX_sound namesOkE mixesE edF3_both Try.func4 rfl edAwake
abbrev yCE : Codec Nat := konst (fun b => .int .u8 (b : Int)) (fun b => .int .u8 (b : Int)) (fun b => b < 256) fun a _ => ⟨rfl, fun ρ => by simp [Rel, Value.oneCell']⟩
theorem u8_natE {r : Int} (h : (Lit.int .u8 r).wf = true) : ∃ n : Nat, r = n ∧ n < 256 := by
  have h' : IntKind.u8.min ≤ r ∧ r ≤ IntKind.u8.max := by simpa [Lit.wf] using h
  have e1 : IntKind.u8.min = 0 := by decide
  have e2 : IntKind.u8.max = 255 := by decide
  rw [e1, e2] at h'
  exact ⟨r.toNat, by omega, by omega⟩
theorem fits_yE {P : Program} {t : TypeId} (h : P.underlying t = some (.int .u8)) : Fits P yCE t := fun hx => by
  obtain ⟨n, rfl, _, hw⟩ := DataW.trod_int h hx
  obtain ⟨q, rfl, hq⟩ := u8_natE hw
  exact ⟨rfl, q, rfl, hq⟩
theorem fits_ysE : Fits Try.prog (rowC yCE) 22 := fits_row Try.underlying22 (by kernel_rfl) (by decide) (fits_yE Try.underlying5)
theorem w_EditClears (l : List Nat) (n : Int) (W : World) (x : Value) (hx : (rowC yCE).rel W (fun j => [x][j]?.getD default) l) (_ : -9223372036854775808 ≤ n ∧ n ≤ 9223372036854775807) :
    Calls Try.prog 3 #[x, .int .i64 n] W fun e W' => e = .returned (.bool true) ∧ Below W.heap.size W W' := by
  obtain ⟨s1, r1, v1, b1, l1, q1, e1, a1⟩ := (rowC yCE).enter (Begin.zero W) hx
  obtain ⟨h1, h2⟩ := konst_row a1
  refine law_calls editLaw b1 (.cons (q1 0 (by decide)).2 (.cons (rel_int _ _) .nil)) (g_EditClears s1 (v1 0) l.length _ h1 (fun v hv => ?_) n)
  obtain ⟨b, hb, rfl⟩ := List.mem_map.1 hv
  exact ⟨b, rfl, h2 b hb⟩
end Go.Proofs.Ytcjddojcfdeflaa

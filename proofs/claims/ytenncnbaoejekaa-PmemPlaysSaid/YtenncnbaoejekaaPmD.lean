/-
  The walk of PmemFuse.
-/
import Derived.Test.YtenncnbaoejekaaPmC
set_option linter.unusedSimpArgs false
namespace Go.Proofs.Ytenncnbaoejekaa
open Go.RowKit Ev
def smI (st : St) (x y : V) (L K : List (BitVec 64)) (e : Env) (s : St) : Prop := ∃ i : Nat, i ≤ L.length ∧ e.get 0 = some x ∧ e.get 1 = some y ∧ e.get 5 = some (.int .i64 (i : Int)) ∧ (∀ j, j < i → L[j]? = K[j]?) ∧ s = st
set_option maxRecDepth 20000 in
theorem same4_any (st : St) (x y : V) (L K : List (BitVec 64)) (hx : RdRow st x 1 L.length (wv L)) (hy : RdRow st y 1 K.length (wv K)) (hL : L.length ≤ 1000000) (nt : Nat) :
    Gd (callL Try.prog ⟨false, [], 0, nt⟩ 42 [x, y] st) fun r => r = (.bool (decide (L = K)), st) := by
  rw [Gd_callL Try.func42 rfl]
  by_cases hl : L.length = K.length
  · have hl' : (L.length : Int) = K.length := by omega
    simp [evOp_call, sets, T.get_set, hx.lenS, hy.lenS, hl']
    refine Gd_loop (smI st x y L K) (fun e _ => muAt 5 L.length e) ?_ ?_
    · exact ⟨0, Nat.zero_le _, by simp [T.get_set], by simp [T.get_set], by simp [T.get_set], fun j hj => by omega, rfl⟩
    · rintro e s ⟨i, hi, g0, g1, g5, hj, rfl⟩
      by_cases hlt : i < L.length
      · have hlt' : (i : Int) < L.length := by omega
        have hwi := wrap_nat (n := i) (by omega)
        obtain ⟨m1, o1, ty1, sz1, t1, i1, b1, k1, l1, d1⟩ := hx.idx (st := s) un30 io31 hlt
        obtain ⟨m2, o2, ty2, sz2, t2, i2, b2, k2, l2, d2⟩ := hy.idx (st := s) un30 io31 (i := i) (by omega)
        obtain ⟨a, ha⟩ : ∃ a, L[i]? = some a := ⟨_, List.getElem?_eq_getElem hlt⟩
        obtain ⟨b, hb⟩ : ∃ b, K[i]? = some b := ⟨_, List.getElem?_eq_getElem (by omega)⟩
        have q1 : t1.get o1 = some (wd a) := d1 0 _ (by omega) (by simpa using wv_get ha)
        have q2 : t2.get o2 = some (wd b) := d2 0 _ (by omega) (by simpa using wv_get hb)
        simp [evOp_call, T.get_set, g0, g1, g5, hx.lenS, hlt']
        refine ⟨by kernel_rfl, ?_⟩
        by_cases hab : a = b
        · subst hab
          simp [evOp_call, T.get_set, g0, g1, g5, hx.lenS, hlt', i1, i2, loadE_eq, getC_eq, k1, k2, q1, q2, hwi]
          refine ⟨⟨i + 1, hlt, by simp [T.get_set, g0], by simp [T.get_set, g1], by simp [T.get_set], fun j hj2 => ?_, rfl⟩, muAt_lt g5 (by simp [T.get_set]) hlt⟩
          by_cases e : j = i
          · subst e; rw [ha, hb]
          · exact hj j (by omega)
        · have hne : ¬ L = K := fun e => by rw [e, hb] at ha; injection ha with ha; exact hab ha.symm
          simp [evOp_call, T.get_set, g0, g1, g5, hx.lenS, hlt', i1, i2, loadE_eq, getC_eq, k1, k2, q1, q2, hab, hne]
      · obtain rfl : i = L.length := by omega
        have heq : L = K := List.ext_getElem? fun j => by
          by_cases h : j < L.length
          · exact hj j h
          · rw [List.getElem?_eq_none (by omega), List.getElem?_eq_none (by omega)]
        simp [evOp_call, T.get_set, g0, g1, g5, hx.lenS, heq]
  · have hl' : ¬ (L.length : Int) = K.length := by omega
    have hne : ¬ L = K := fun e => hl (by rw [e])
    simp [evOp_call, sets, T.get_set, hx.lenS, hy.lenS, hl', hne]
def pfI (st : St) (x k : V) (calls : Nat) (K : List Int) (qa qb n : Nat) (e : Env) (s : St) : Prop := ∃ (i : Nat) (va vb : MV), i ≤ n ∧ e.get 0 = some x ∧ e.get 1 = some (.int .i64 (calls : Int)) ∧ e.get 2 = some k ∧ e.get 7 = some (.p qa 0) ∧ e.get 9 = some (.p qb 0) ∧ e.get 11 = some (.int .i64 (i : Int)) ∧
  M2 st s qa va qb vb ∧ FuA calls i K (absV va) (absV vb)
def pfJ (st : St) (x k : V) (calls i : Nat) (K : List Int) (qa qb : Nat) (r : X × Env × St) : Prop := ∃ (e : Env) (s : St) (va vb : MV), r = (.n, e, s) ∧ e.get 0 = some x ∧ e.get 1 = some (.int .i64 (calls : Int)) ∧ e.get 2 = some k ∧ e.get 7 = some (.p qa 0) ∧ e.get 9 = some (.p qb 0) ∧ e.get 11 = some (.int .i64 (i : Int)) ∧
  M2 st s qa va qb vb ∧ FuM calls i K (absV va) (absV vb)
def pfK (st : St) (x k : V) (calls i : Nat) (K : List Int) (qa qb : Nat) (r : X × Env × St) : Prop := ∃ (e : Env) (s : St) (va vb : MV) (c : Int), r = (.n, e, s) ∧ e.get 0 = some x ∧ e.get 1 = some (.int .i64 (calls : Int)) ∧ e.get 2 = some k ∧ e.get 7 = some (.p qa 0) ∧ e.get 9 = some (.p qb 0) ∧ e.get 11 = some (.int .i64 (i : Int)) ∧
  e.get 12 = some (.int .i64 c) ∧ e.get 13 = some (.int .i64 c) ∧ c = (if calls ≤ i + 1 then 14 else 0) ∧ va.off = vb.off ∧ M2 st s qa va qb vb ∧ FuA calls (i + 1) K (absV va) (absV vb)
set_option maxRecDepth 20000 in
set_option maxHeartbeats 16000000 in
theorem g_PmemFuse (st : St) (x k : Nat → V) (calls : Int) (L : List ActD) (K : List Int) (hx : (rowC actC).at' st x L) (hk : (rowC iC).at' st k K) :
    Gd (lawC Try.prog 23 ⟨false, [], 0, 0⟩ 5 [x 0, .int .i64 calls, k 0] st) fun r => r.1 = .bool true := by
  rw [Gd_lawC Try.func5 rfl]
  by_cases c1 : (25 : Int) < L.length
  · simp [evOp_call, sets, T.get_set, rowC_len hx, rowC_len hk, c1]
  by_cases c2 : calls < 1
  · simp [evOp_call, sets, T.get_set, rowC_len hx, rowC_len hk, c1, c2]
  by_cases c3 : 30 < calls
  · simp [evOp_call, sets, T.get_set, rowC_len hx, rowC_len hk, c1, c2, c3]
  by_cases c4 : (10 : Int) < K.length
  · simp [evOp_call, sets, T.get_set, rowC_len hx, rowC_len hk, c1, c2, c3, c4]
  obtain ⟨cs, rfl⟩ := Int.eq_ofNat_of_zero_le (show 0 ≤ calls by omega)
  simp [evOp_call, sets, T.get_set, rowC_len hx, rowC_len hk, c1, c2, c3, c4, oracF_cons]
  refine Gd.mono (mnew_any st 3 (by omega) _) ?_
  rintro ⟨r, s0⟩ ⟨qa, va0, hr, hva0, ha0⟩
  simp only at hr hva0
  subst hr
  simp [evOp_call, sets, T.get_set, oracF_cons]
  refine Gd.mono (mnew_any s0 3 (by omega) _) ?_
  rintro ⟨r, s1⟩ ⟨qb, vb0, hr, hvb0, hb0⟩
  simp only at hr hvb0
  subst hr
  have h2 := M2.make hva0 hvb0
  simp [evOp_call, sets, T.get_set, oracF_cons]
  have hkk := rowC_ints hk
  refine Gd.mono (mfuse_any s1 qa va0 h2.a.at' (cs : Int) (k 0) K (h2.a.row hkk.1).1 (by omega) _) ?_
  rintro ⟨r, s2⟩ ⟨hr, va1, hs1, ha1⟩
  simp only at hr hs1
  subst hr
  have h3 := h2.left hs1
  simp [evOp_call, sets, T.get_set]
  have hfu0 : FuA cs 0 K (absV va1) (absV vb0) := by
    have hz := fromA_ok (List.replicate (3 * 8) 0#64) 3
    refine .inl ⟨by omega, ?_, ?_, ?_, ?_, ?_, ?_⟩
    · rw [ha1, ha0, hb0]; rfl
    · rw [ha1, ha0]; exact ⟨hz.len, rfl, hz.ok, hz.op⟩
    · rw [hb0]; exact hz
    · rw [ha1, ha0]; show (cs : Int) = (cs : Int) - ((0 : Nat) : Int); omega
    · rw [hb0]; show (0 : Int) < 1; omega
    · rw [ha1, ha0]; rfl
  refine Gd_loop (pfI st (x 0) (k 0) cs K qa qb L.length) (fun e _ => muAt 11 L.length e) ?_ ?_
  · exact ⟨0, va1, vb0, Nat.zero_le _, by simp [T.get_set], by simp [T.get_set], by simp [T.get_set], by simp [T.get_set], by simp [T.get_set], by simp [T.get_set], h3, hfu0⟩
  · clear h3 hfu0 hs1 h2 hva0 hvb0
    rintro e s ⟨i, va, vb, hi, g0, g1, g2, g7, g9, g11, hm, hfu⟩
    have gE := g11
    obtain ⟨sa, sb⟩ := hfu.sz (by omega)
    obtain ⟨ra, fa, oa⟩ := sa.v
    obtain ⟨rb, fb, ob⟩ := sb.v
    by_cases hlt : i < L.length
    · have hlt' : (i : Int) < L.length := by omega
      have hwi := wrap_nat (n := i) (by omega)
      have hwi2 : ((i + 1 : Nat) : Int) = (i : Int) + 1 := by omega
      obtain ⟨a, ha⟩ : ∃ a, L[i]? = some a := ⟨_, List.getElem?_eq_getElem hlt⟩
      obtain ⟨m1, o1, ty1, sz1, t1, z1, i1, b1, hk1, d1, ha1'⟩ := rowC_old (c := actC) un22 io34 hx ha
      obtain ⟨mr, or, qr, hsl, hmr, hro⟩ := rowC_sl hx ha
      obtain ⟨p0, p1, p2, p3, p4, p5⟩ := actC_at ha1'
      have e0 : t1.get o1 = some (.int .i64 a.1) := (d1 0 (by decide)).trans (by rw [p0])
      have e1 : t1.get (o1 + 1) = some (.int .i64 a.2.1) := (d1 1 (by decide)).trans (by rw [p1])
      have e2 : t1.get (o1 + 2) = some (wd a.2.2.1) := (d1 2 (by decide)).trans (by rw [p2])
      simp [evOp_call, T.get_set, g0, g1, g2, g7, g9, g11, rowC_len hx, hlt', hwi]
      refine condK_join (pfJ st (x 0) (k 0) cs i K qa qb) ?_ ?_
      · by_cases hc : i + 1 = cs
        · have hc' : (i : Int) + 1 = cs := by omega
          obtain ⟨hbo, hfm⟩ := hfu.crash hc
          have hkr := hm.b.row hkk.1
          simp [evOp_call, T.get_set, g0, g1, g2, g7, g9, g11, hc', oracF_cons]
          refine Gd.mono (mcrash_on s qb vb hm.b.at' hbo (k 0) K (fun st' v' hs _ _ => (hkr.step hs).1) (by omega) _) ?_
          rintro ⟨r, s5⟩ ⟨hr, hs5⟩
          simp only at hr hs5
          subst hr
          simp [evOp_call, T.get_set, g0, g1, g2, g7, g9, g11]
          exact ⟨_, s5, va, vb.fell K, rfl, by simp [T.get_set, g0], by simp [T.get_set, g1], by simp [T.get_set, g2], by simp [T.get_set, g7], by simp [T.get_set, g9], by simp [T.get_set, g11], hm.right hs5, by rw [abs_fell]; exact hfm⟩
        · have hc' : ¬ (i : Int) + 1 = cs := by omega
          simp [evOp_call, T.get_set, g0, g1, g2, g7, g9, g11, hc']
          exact ⟨_, s, va, vb, rfl, by simp [T.get_set, g0], by simp [T.get_set, g1], by simp [T.get_set, g2], by simp [T.get_set, g7], by simp [T.get_set, g9], by simp [T.get_set, g11], hm, hfu.mid hc⟩
      · clear g0 g1 g2 g7 g9 g11 hfu hm sa sb ra fa oa rb fb ob
        rintro _ ⟨en, s2, va2, vb2, rfl, g0, g1, g2, g7, g9, g11, hm, hfm⟩
        obtain ⟨sa, sb⟩ := hfm.sz (by omega)
        obtain ⟨ra, fa, oa⟩ := sa.v
        obtain ⟨rb, fb, ob⟩ := sb.v
        have k1 := hk1 s2 hm.a.ext
        simp [evOp_call, T.get_set, g0, g1, g2, g7, g9, g11, i1, loadE_eq, getC_eq, k1, e0]
        refine condK_join (pfK st (x 0) (k 0) cs i K qa qb) ?_ ?_
        · by_cases c0 : a.1 = 0
          · obtain ⟨n, hn⟩ : ∃ n : Nat, a.2.1 % 16 = (n : Int) := ⟨(a.2.1 % 16).toNat, by omega⟩
            have hn16 : n < 16 := by omega
            have hst := hfm.step (opk_store i (a := (n : Int)) (by omega) a.2.2.1)
            simp [evOp_call, T.get_set, g0, g1, g2, g7, g9, g11, c0]
            refine ⟨by kernel_rfl, ?_⟩
            simp [evOp_call, T.get_set, g0, g1, g2, g7, g9, g11, i1, loadE_eq, getC_eq, k1, e1, e2, hn, oracF_cons]
            rw [cxOf_callRo [(mr, mr + 1), (mr, mr + 1)] (by kernel_rfl) (by kernel_rfl) (looseW_at 0 (.sl mr or L.length qr) (by simp [T.get_set, g0, hsl]) (by kernel_rfl)) (fun p hp => by simp at hp; subst hp; exact hro _ hm.a.ext)]
            simp only [forb_nil]
            refine Gd.mono (mstore_any s2 qa va2 hm.a.at' (n : Int) a.2.2.1 (by omega) (by omega) (by omega) (fun r hr => by have := oa r hr; omega) _) ?_
            rintro ⟨r, s3⟩ ⟨hr, va3, hs3, ha3⟩
            simp only at hr hs3
            subst hr
            have hm3 := hm.left hs3
            have k3 := hk1 s3 hm3.a.ext
            have hld : ∀ b, inF ((0, m1) :: (m1 + 1, s3.nx) :: forb b (rsOf [] 12 s2.nx s3.nx) []) m1 = false := fun b => inF_lds (rsOf_lt (fun e h => by cases h) (Nat.lt_of_lt_of_le b1 hm.a.ext.le))
            simp [evOp_call, T.get_set, g0, g1, g2, g7, g9, g11, i1, loadE_eq, getC_eq, k3, e1, e2, hn, hld, oracF_cons]
            rw [cxOf_call (by kernel_rfl) (by kernel_rfl), forb_step (by kernel_rfl) rfl]
            refine Gd.mono (mstore_any s3 qb vb2 hm3.b.at' (n : Int) a.2.2.1 (by omega) (by omega) (by omega) (fun r hr => by have := ob r hr; omega) _) ?_
            rintro ⟨r, s4⟩ ⟨hr, vb3, hs4, hb3⟩
            simp only at hr hs4
            subst hr
            have hm4 := hm3.right hs4
            rw [← ha3, ← hb3] at hst
            simp [evOp_call, T.get_set, g0, g1, g2, g7, g9, g11]
            exact ⟨_, s4, va3, vb3, _, rfl, by simp [T.get_set, g0], by simp [T.get_set, g1], by simp [T.get_set, g2], by simp [T.get_set, g7], by simp [T.get_set, g9], by simp [T.get_set, g11], by simp [T.get_set]; exact hst.2.1, by simp [T.get_set], by rw [← hst.2.1]; exact hst.2.2.1, hst.2.2.2, hm4, hst.1⟩
          · by_cases c1' : a.1 = 1
            · obtain ⟨n, hn⟩ : ∃ n : Nat, a.2.1 % 2 = (n : Int) := ⟨(a.2.1 % 2).toNat, by omega⟩
              have hn2 : n < 2 := by omega
              have hst := hfm.step (opk_flush i (a := (n : Int)) (by omega))
              simp [evOp_call, T.get_set, g0, g1, g2, g7, g9, g11, c0, c1']
              refine ⟨by kernel_rfl, ?_⟩
              simp [evOp_call, T.get_set, g0, g1, g2, g7, g9, g11, i1, loadE_eq, getC_eq, k1, e1, e2, hn, oracF_cons]
              refine Gd_buildW (vs := ivs [(n : Int)]) (fun k => el32 k) (fun k => ze3 k) rfl (by simp [T.get_set, ivs]) (by simp [ivs]) rfl rfl (by omega) ?_
              have hb := built_row (st := s2) (el := 3) (vs := ivs [(n : Int)]) (n := 1) (by decide) rfl
              have hex := (Ext.refl s2.nx s2).new (Nat.le_refl _) (.cs 3 1 (sets (ivs [(n : Int)]) 0 .lf))
              have hmb := hm.more hex
              simp [evOp_call, T.get_set, g0, g1, g2, g7, g9, g11, oracF_cons]
              rw [cxOf_callRo [(mr, mr + 1)] (by kernel_rfl) (by kernel_rfl) (looseW_at 0 (.sl mr or L.length qr) (by simp [T.get_set, g0, hsl]) (by kernel_rfl)) (fun p hp => by simp at hp; subst hp; exact hro _ hmb.a.ext), forb_cons (by kernel_rfl) rfl]
              refine Gd.mono (mflush_any _ qa va2 hmb.a.at' _ [(n : Int)] hb (fun k hk e => by have := nm_sl hk; have := hm.a.at'.own_lt e; omega) (by simp) (by omega) (by omega) _) ?_
              rintro ⟨r, s3⟩ ⟨hr, va3, hs3, ha3⟩
              simp only at hr hs3
              subst hr
              have hm3 := hmb.left hs3
              have k3 := hk1 s3 hm3.a.ext
              have hl3 : s2.nx + 1 ≤ s3.nx := hs3.kept.le
              have hld : ∀ b, inF ((0, m1) :: (m1 + 1, s3.nx) :: forb b (rsOf [(7, s2.nx, s2.nx + 1)] 8 (s2.nx + 1) s3.nx) []) m1 = false := fun b => inF_lds (rsOf_lt (fun e h => by simp at h; subst h; exact Nat.lt_of_lt_of_le b1 hm.a.ext.le) (Nat.lt_of_lt_of_le b1 (Nat.le_succ_of_le hm.a.ext.le)))
              simp [evOp_call, T.get_set, g0, g1, g2, g7, g9, g11, i1, loadE_eq, getC_eq, k3, e1, e2, hn, hld, oracF_cons]
              refine Gd_buildW (vs := ivs [(n : Int)]) (fun k => el32 k) (fun k => ze3 k) rfl (by simp [T.get_set, ivs]) (by simp [ivs]) rfl rfl (by omega) ?_
              have hb2 := built_row (st := s3) (el := 3) (vs := ivs [(n : Int)]) (n := 1) (by decide) rfl
              have hmb3 := hm3.more ((Ext.refl s3.nx s3).new (Nat.le_refl _) (.cs 3 1 (sets (ivs [(n : Int)]) 0 .lf)))
              simp [evOp_call, T.get_set, g0, g1, g2, g7, g9, g11, oracF_cons]
              rw [cxOf_call (by kernel_rfl) (by kernel_rfl), forb_cons (by kernel_rfl) (forb_step (by kernel_rfl) (forb_cons (by kernel_rfl) rfl))]
              refine Gd.mono (mflush_any _ qb vb2 hmb3.b.at' _ [(n : Int)] hb2 (fun k hk e => by have := nm_sl hk; have := hm3.b.at'.own_lt e; omega) (by simp) (by omega) (by omega) _) ?_
              rintro ⟨r, s4⟩ ⟨hr, vb3, hs4, hb3⟩
              simp only at hr hs4
              subst hr
              have hm4 := hmb3.right hs4
              rw [← ha3, ← hb3] at hst
              simp [evOp_call, T.get_set, g0, g1, g2, g7, g9, g11]
              exact ⟨_, s4, va3, vb3, _, rfl, by simp [T.get_set, g0], by simp [T.get_set, g1], by simp [T.get_set, g2], by simp [T.get_set, g7], by simp [T.get_set, g9], by simp [T.get_set, g11], by simp [T.get_set]; exact hst.2.1, by simp [T.get_set], by rw [← hst.2.1]; exact hst.2.2.1, hst.2.2.2, hm4, hst.1⟩
            · have hst := hfm.step (opk_fence i)
              simp [evOp_call, T.get_set, g0, g1, g2, g7, g9, g11, c0, c1', oracF_cons]
              refine Gd.mono (mfence_any s2 qa va2 hm.a.at' (by omega) (by omega) _) ?_
              rintro ⟨r, s3⟩ ⟨hr, va3, hs3, ha3⟩
              simp only at hr hs3
              subst hr
              have hm3 := hm.left hs3
              simp [evOp_call, T.get_set, g0, g1, g2, g7, g9, g11, oracF_cons]
              refine Gd.mono (mfence_any s3 qb vb2 hm3.b.at' (by omega) (by omega) _) ?_
              rintro ⟨r, s4⟩ ⟨hr, vb3, hs4, hb3⟩
              simp only at hr hs4
              subst hr
              have hm4 := hm3.right hs4
              rw [← ha3, ← hb3] at hst
              simp [evOp_call, T.get_set, g0, g1, g2, g7, g9, g11]
              exact ⟨_, s4, va3, vb3, _, rfl, by simp [T.get_set, g0], by simp [T.get_set, g1], by simp [T.get_set, g2], by simp [T.get_set, g7], by simp [T.get_set, g9], by simp [T.get_set, g11], by simp [T.get_set]; exact hst.2.1, by simp [T.get_set], by rw [← hst.2.1]; exact hst.2.2.1, hst.2.2.2, hm4, hst.1⟩
        · clear g0 g1 g2 g7 g9 g11 hfm hm sa sb ra fa oa rb fb ob k1
          rintro _ ⟨en, s3, va3, vb3, c, rfl, g0, g1, g2, g7, g9, g11, g12, g13, hc, hoff, hm, hfu⟩
          have fin : ∀ (en2 : Env), en2.get 0 = some (x 0) → en2.get 1 = some (.int .i64 (cs : Int)) → en2.get 2 = some (k 0) → en2.get 7 = some (.p qa 0) → en2.get 9 = some (.p qb 0) → en2.get 11 = some (.int .i64 ((i + 1 : Nat) : Int)) →
              pfI st (x 0) (k 0) cs K qa qb L.length en2 s3 ∧ muAt 11 L.length en2 < muAt 11 L.length e := fun en2 q0 q1 q2 q7 q9 q11 => ⟨⟨i + 1, va3, vb3, hlt, q0, q1, q2, q7, q9, q11, hm, hfu⟩, muAt_lt gE q11 hlt⟩
          by_cases hcc : cs ≤ i + 1
          · have hcc' : (cs : Int) ≤ (i : Int) + 1 := by omega
            rw [if_pos hcc] at hc
            subst hc
            simp [evOp_call, T.get_set, g0, g1, g2, g7, g9, g11, g12, g13, hwi, hcc', oracF_cons]
            refine Gd.mono (moff_any s3 qa va3 hm.a.at' _) ?_
            rintro _ rfl
            simp [evOp_call, T.get_set, g0, g1, g2, g7, g9, g11, g12, g13, hwi, hcc', oracF_cons]
            refine Gd.mono (moff_any s3 qb vb3 hm.b.at' _) ?_
            rintro _ rfl
            simp [evOp_call, T.get_set, g0, g1, g2, g7, g9, g11, g12, g13, hwi, hcc', hoff]
            exact fin _ (by simp [T.get_set, g0]) (by simp [T.get_set, g1]) (by simp [T.get_set, g2]) (by simp [T.get_set, g7]) (by simp [T.get_set, g9]) (by simp [T.get_set])
          · have hcc' : ¬ (cs : Int) ≤ (i : Int) + 1 := by omega
            rw [if_neg hcc] at hc
            subst hc
            simp [evOp_call, T.get_set, g0, g1, g2, g7, g9, g11, g12, g13, hwi, hcc', oracF_cons]
            refine Gd.mono (moff_any s3 qa va3 hm.a.at' _) ?_
            rintro _ rfl
            simp [evOp_call, T.get_set, g0, g1, g2, g7, g9, g11, g12, g13, hwi, hcc', oracF_cons]
            refine Gd.mono (moff_any s3 qb vb3 hm.b.at' _) ?_
            rintro _ rfl
            simp [evOp_call, T.get_set, g0, g1, g2, g7, g9, g11, g12, g13, hwi, hcc', hoff]
            exact fin _ (by simp [T.get_set, g0]) (by simp [T.get_set, g1]) (by simp [T.get_set, g2]) (by simp [T.get_set, g7]) (by simp [T.get_set, g9]) (by simp [T.get_set])
    · obtain rfl : i = L.length := by omega
      have hLL : (absV va).L = (absV vb).L := by
        rcases hfu with ⟨_, h, _⟩ | h
        · exact h
        · exact h.2.2.2.1
      simp [evOp_call, T.get_set, g0, g1, g2, g7, g9, g11, rowC_len hx, oracF_cons]
      refine Gd.mono (mwords_any s qa va hm.a.at' (by omega) _) ?_
      rintro ⟨wa, s3⟩ ⟨hwa, e3⟩
      simp only at hwa e3
      have hm3 := hm.more e3
      simp [evOp_call, T.get_set, g0, g1, g2, g7, g9, g11, oracF_cons]
      refine Gd.mono (mwords_any s3 qb vb hm3.b.at' (by omega) _) ?_
      rintro ⟨wb, s4⟩ ⟨hwb, e4⟩
      simp only at hwb e4
      simp [evOp_call, T.get_set, g0, g1, g2, g7, g9, g11, oracF_cons]
      have r1 := hwa.rd.ext e4
      have r2 := hwb.rd
      rw [ra, hLL] at r1
      rw [rb] at r2
      have hlen : (allN (absV vb).L).length = 24 := by have := r2.1; simpa using this
      refine Gd.mono (same4_any s4 wa wb (allN (absV vb).L) (allN (absV vb).L) (by rw [hlen]; exact r1) (by rw [hlen]; exact r2) (by omega) _) ?_
      rintro _ rfl
      simp [evOp_call, T.get_set]
theorem w_PmemFuse (l : List ActD) (calls : Int) (k : List Int) (W : World) (x : Value) (hx : (rowC actC).rel W (fun j => [x][j]?.getD default) l) (_ : -9223372036854775808 ≤ calls ∧ calls ≤ 9223372036854775807) (z : Value) (hz : (rowC iC).rel W (fun j => [z][j]?.getD default) k) :
    Calls Try.prog 5 #[x, .int .i64 calls, z] W fun e W' => e = .returned (.bool true) ∧ Below W.heap.size W W' := by
  obtain ⟨s1, r1, v1, b1, l1, q1, e1, a1⟩ := (rowC actC).enter (Begin.zero W) hx
  obtain ⟨s3, r3, v3, b3, l3, q3, e3, a3⟩ := (rowC iC).enter b1 hz
  exact law_calls (lawC_sound namesOkP mixesP Try.func23 rfl pmAwake) b3 (.cons (Rel.mono l3 _ _ (q1 0 (by decide)).2) (.cons (rel_int _ _) (.cons (q3 0 (by decide)).2 .nil)))
    (g_PmemFuse s3 v1 v3 calls l k ((rowC actC).ext a1 e3) a3)
end Go.Proofs.Ytenncnbaoejekaa

/-
  Contracts of package span: some words made sure.
-/
import Derived.Test.YtenncnbaoejekaaSpB
set_option linter.unusedSimpArgs false
namespace Go.Proofs.Ytenncnbaoejekaa
open Go.RowKit Ev
def spI (s0 : St) (q b0 : Nat) (v : MV) (f n a : Int) (y : V) (l : List (BitVec 64)) (e : Env) (se : St) : Prop := ∃ (j : Nat) (vj : MV), j ≤ l.length ∧ e.get 1 = some (.int .i64 a) ∧ e.get 2 = some y ∧ e.get 3 = some (.p b0 0) ∧ e.get 19 = some y ∧ e.get 20 = some (.int .i64 (l.length : Int)) ∧ e.get 21 = some (.int .i64 (j : Int)) ∧
  MStep q v vj s0 se ∧ storesA (absV v) f n a (l.take j) = (absV vj, 0)
def spL (s1 : St) (b0 : Nat) (f a c : Int) (y : V) (N : Nat) (e : Env) (se : St) : Prop := ∃ (j : Nat) (z : V), j ≤ N ∧ e.get 1 = some (.int .i64 a) ∧ e.get 2 = some y ∧ e.get 3 = some (.p b0 0) ∧ e.get 10 = some z ∧ e.get 11 = some (.int .i64 (c + j)) ∧ OwnRow s1.nx se z 1 j (ivs ((List.range j).map fun i : Nat => f + c + (i : Int))) ∧ Ext s1.nx s1 se
set_option maxRecDepth 20000 in
set_option maxHeartbeats 8000000 in
theorem spush_any (st : St) (q : Nat) (v : MV) (h : MemAt st q v) (N i0 : Nat) (hsz : szB (absV v) N i0) (hN : N ≤ 1024) (f n a : Int) (y : V) (l : List (BitVec 64)) (hy : RdRow st y 1 l.length (wv l)) (hyn : ∀ k, Nm y k → ¬ MOw q v k) (hi0 : i0 + l.length < 1000) (nt : Nat) :
    Gd (callL Try.prog ⟨false, [], 0, nt⟩ 52 [spV q f n, .int .i64 a, y] st) fun r => r.1 = .int .i64 (pushA (absV v) f n a l).2 ∧ ∃ v', MStep q v v' st r.2 ∧ absV v' = (pushA (absV v) f n a l).1 := by
  rw [Gd_callL Try.func52 rfl]
  have hex : ∀ (s : St) b, Ext s.nx s ⟨s.nx + 1, s.h.set s.nx b⟩ := fun s b => (Ext.refl _ _).new (Nat.le_refl _) _
  have hsp : V.g [V.p q 0, V.int .i64 f, V.int .i64 n] = spV q f n := rfl
  obtain ⟨hRv, hFv, hOv⟩ := hsz.v
  have hAL : (absV v).L.length = v.R.length := absLen v
  simp [spV, evOp_call, sets, T.get_set, newC_is, cellsOf, loadE_eq, getC_eq, getsB_succ, getsB_zero, hy.lenS]
  rw [hsp]
  refine Gd.mono (has_any _ q v (h.ext (hex st _)) (by omega) f n a l.length _) ?_
  rintro ⟨r, s1⟩ ⟨hr, e1⟩
  simp only at hr e1
  subst hr
  have hl1 : st.nx + 1 ≤ s1.nx := e1.le
  have x1 : Ext st.nx st s1 := (hex st _).trans (e1.mono (Nat.le_succ _))
  have k1 : s1.h.get st.nx = _ := (e1.keep st.nx (Nat.lt_succ_self _)).trans (T.get_set_same _ _ _)
  have m1 := MStep.ofExt h x1
  unfold pushA
  rw [hAL]
  by_cases hh : hasB v.R.length f n a l.length
  · obtain ⟨⟨w1, w2, w3, w4⟩, w5, w6, w7, w8⟩ := id hh
    have hnb : ∀ k, MOw q v k → k < st.nx := fun k hk => h.own_lt hk
    rw [if_pos hh]
    simp [evOp_call, sets, T.get_set, hh, hy.lenS]
    refine Gd_loop (spI s1 q st.nx v f n a y l) (fun e _ => muAt 21 l.length e) ?_ ?_
    · exact ⟨0, v, Nat.zero_le _, by simp [T.get_set], by simp [T.get_set], by simp [T.get_set], by simp [T.get_set], by simp [T.get_set], by simp [T.get_set], MStep.refl m1.at', rfl⟩
    · rintro e s ⟨j, vj, hj, g1, g2, g3, g19, g20, g21, hs, hst⟩
      have hle := hs.kept.le
      have k2 : s.h.get st.nx = _ := (hs.kept.keep st.nx (by omega) (fun e => by have := hnb _ e; omega)).trans k1
      have hys : RdRow s y 1 l.length (wv l) := hs.row (hy.ext x1) hyn
      have hszj : szB (absV vj) N (i0 + j) := by
        have := szB.stores (f := f) (n := n) (a := a) (l.take j) hsz
        rw [hst] at this
        exact this.mono (by rw [List.length_take]; omega)
      obtain ⟨hRj, hFj, hOj⟩ := hszj.v
      by_cases hlt : j < l.length
      · have hlt' : (j : Int) < l.length := by omega
        have hwj := wrap_nat (n := j) (by omega)
        have wa : IntKind.i64.wrap (a + j) = a + j := wrap_in (by omega) (by omega)
        obtain ⟨m2, o2, ty2, sz2, t2, i2, b2, kk2, l2, d2⟩ := hys.idx (st := s) un30 io31 hlt
        obtain ⟨w, hw⟩ : ∃ w, l[j]? = some w := ⟨_, List.getElem?_eq_getElem hlt⟩
        have q2 : t2.get o2 = some (wd w) := d2 0 _ (by omega) (by simpa using wv_get hw)
        obtain ⟨hok, hbad⟩ := storesA_take hw hst
        simp [evOp_call, T.get_set, g1, g2, g3, g19, g20, g21, hlt', i2, loadE_eq, getC_eq, kk2, q2, k2, getsB_succ, getsB_zero, wa]
        rw [hsp]
        refine Gd.mono (sset_any s q vj hs.at' (by omega) hFj (fun r hr => by have := hOj r hr; omega) f n (a + j) w _) ?_
        rintro ⟨r, s2⟩ ⟨hr, v2, hs2, ha2⟩
        simp only at hr hs2
        subst hr
        by_cases h0 : (absV vj).ssetE f n (a + j) = 0
        · simp [h0, evOp_call, T.get_set, g1, g2, g3, g19, g20, g21, hwj]
          exact ⟨⟨j + 1, v2, hlt, by simp [T.get_set, g1], by simp [T.get_set, g2], by simp [T.get_set, g3], by simp [T.get_set, g19], by simp [T.get_set, g20], by simp [T.get_set], hs.trans hs2, by rw [hok h0, ha2]⟩, muAt_lt g21 (by simp [T.get_set]) hlt⟩
        · have hb := hbad h0
          simp [h0, evOp_call, T.get_set, g1, g2, g3, g19, g20, g21, sets, hb]
          exact ⟨v2, (m1.trans hs).trans hs2, ha2⟩
      · obtain rfl : j = l.length := by omega
        rw [List.take_length] at hst
        rw [hst]
        simp [evOp_call, T.get_set, g1, g2, g3, g19, g20, g21]
        have ha8 : a.tdiv 8 = a / 8 := Int.tdiv_eq_ediv_of_nonneg (by omega)
        have we : IntKind.i64.wrap (a + l.length) = a + l.length := wrap_in (by omega) (by omega)
        have we2 : IntKind.i64.wrap (a + l.length - 1) = a + l.length - 1 := wrap_in (by omega) (by omega)
        have ha9 : (a + l.length - 1).tdiv 8 = (a + l.length - 1) / 8 := Int.tdiv_eq_ediv_of_nonneg (by omega)
        have wq : IntKind.i64.wrap (a / 8) = a / 8 := wrap_in (by omega) (by omega)
        have wq2 : IntKind.i64.wrap ((a + l.length - 1) / 8) = (a + l.length - 1) / 8 := wrap_in (by omega) (by omega)
        obtain ⟨K, hK⟩ : ∃ K, K = ((a + l.length - 1) / 8 - a / 8 + 1).toNat := ⟨_, rfl⟩
        simp [ha8, wq]
        refine Gd_loop (spL s st.nx f a (a / 8) y K) (fun e _ => gapAt 11 (a / 8 + K) e) ?_ ?_
        · exact ⟨0, _, Nat.zero_le _, by simp [T.get_set, g1], by simp [T.get_set, g2], by simp [T.get_set, g3], by simp [T.get_set], by simp [T.get_set], OwnRow.nil _ _ _, Ext.refl _ _⟩
        · clear g19 g20 g21
          rintro en s3 ⟨j, z, hj2, g1, g2, g3, g10, g11, hz, e3⟩
          have k3 : s3.h.get st.nx = _ := (e3.keep st.nx (by omega)).trans k2
          have hy3 := hys.ext e3
          have wj : IntKind.i64.wrap (a / 8 + j + 1) = a / 8 + j + 1 := wrap_in (by omega) (by omega)
          have wfj : IntKind.i64.wrap (f + (a / 8 + j)) = f + (a / 8 + j) := wrap_in (by omega) (by omega)
          by_cases hlt : j < K
          · have hle2 : a / 8 + (j : Int) ≤ (a + l.length - 1) / 8 := by omega
            simp [evOp_call, T.get_set, g1, g2, g3, g10, g11, hy3.lenS, we, we2, ha9, wq2, hle2, loadE_eq, getC_eq, k3, wfj]
            refine Gd_buildW (vs := [.int .i64 (f + (a / 8 + j))]) (fun k => el32 k) (fun k => ze3 k) rfl (by simp [T.get_set]) (by simp) rfl rfl (by omega) ?_
            have hext := fun b => (Ext.refl s3.nx s3).new (Nat.le_refl _) b
            simp [evOp_call, T.get_set, g10]
            refine Gd_append un32 un32 io3 (lx := 1) (new := [.int .i64 (f + (a / 8 + j))]) (hz.ext (hext _)) (by show s.nx ≤ s3.nx + 1; have := e3.le; omega) (by decide) (fun s' h => by cases h) (fun k => rfl) (fun k => by simp [getC_eq, getsB_1, T.get_set, sets]) rfl (by omega) ?_
            intro z' s4 hz4 he4 _ _
            simp [evOp_call, T.get_set, g1, g2, g3, g10, g11, wj]
            refine ⟨⟨j + 1, z', hlt, by simp [T.get_set, g1], by simp [T.get_set, g2], by simp [T.get_set, g3], by simp [T.get_set], by simp [T.get_set]; omega, ?_, (e3.trans ((hext _).mono e3.le)).trans he4⟩, gapAt_lt (k' := a / 8 + (j : Int) + 1) g11 (by simp [T.get_set]) (by omega) (by omega)⟩
            have hiv : ivs ((List.range (j + 1)).map fun i : Nat => f + a / 8 + (i : Int)) = ivs ((List.range j).map fun i : Nat => f + a / 8 + (i : Int)) ++ [.int .i64 (f + (a / 8 + j))] := by
              rw [List.range_succ]; unfold ivs; simp; omega
            rw [hiv]; exact hz4
          · obtain rfl : j = K := by omega
            have hle2 : ¬ a / 8 + (j : Int) ≤ (a + l.length - 1) / 8 := by omega
            have hls : linesOf f a l.length = (List.range j).map fun i : Nat => f + a / 8 + (i : Int) := by unfold linesOf; rw [← hK]
            have hm3 := MStep.ofExt hs.at' e3
            have hzr := hz.rd
            have hlen : ((List.range j).map fun i : Nat => f + a / 8 + (i : Int)).length = j := by simp
            simp [evOp_call, T.get_set, g1, g2, g3, g10, g11, hy3.lenS, we, we2, ha9, wq2, hle2, loadE_eq, getC_eq, k3]
            rw [hls]
            refine Gd.mono (mflush_any s3 q vj hm3.at' z _ (by rw [hlen]; exact hzr) (fun k hk e => by have := hz.nm_ge hk; have := hs.at'.own_lt e; omega) (by rw [hlen]; omega) hFj (by omega) _) ?_
            rintro ⟨r, s5⟩ ⟨hr, v5, hs5, ha5⟩
            simp only at hr hs5
            subst hr
            have hm5 := ((m1.trans hs).trans hm3).trans hs5
            obtain ⟨R, hRd⟩ : ∃ R, R = (List.range j).map fun i : Nat => f + a / 8 + (i : Int) := ⟨_, rfl⟩
            rw [← hRd] at ha5 ⊢
            have hle3 : s.nx ≤ s3.nx := e3.le
            have k5 : s5.h.get st.nx = _ := (hs5.kept.keep st.nx (by omega) (fun e => by
              rcases hs.own _ e with e | e
              · have := hnb _ e; omega
              · omega)).trans k3
            have hF5 : v5.fuse ≤ 9223372036854775807 ∧ v5.R.length = N := by
              have := hszj.flush R
              rw [← ha5] at this
              exact ⟨this.v.2.1, this.v.1⟩
            by_cases hE : (absV vj).flushE R = 0
            · simp [hE, evOp_call, T.get_set, g1, g2, g3, g10, g11, loadE_eq, getC_eq, k5]
              refine Gd.mono (mfence_any s5 q v5 hs5.at' hF5.1 (by omega) _) ?_
              rintro ⟨r, s6⟩ ⟨hr, v6, hs6, ha6⟩
              simp only at hr hs6
              subst hr
              simp [evOp_call, T.get_set, sets, ← ha5]
              exact ⟨v6, hm5.trans hs6, ha6⟩
            · simp [hE, evOp_call, T.get_set, sets]
              exact ⟨v5, hm5, ha5⟩
  · rw [if_neg hh]
    simp [hh, evOp_call, sets, T.get_set]
    exact ⟨v, m1, rfl⟩
end Go.Proofs.Ytenncnbaoejekaa

/-
  Contracts of package geom: where things stand.
-/
import Derived.Test.YtcjddojcfdeflaaGmA
import Derived.Test.YtcjddojcfdeflaaTyImg
set_option linter.unusedSimpArgs false
namespace Go.Proofs.Ytcjddojcfdeflaa
open Go.RowKit Ev
set_option maxRecDepth 20000 in
set_option maxHeartbeats 4000000 in
theorem gbits_any (st : St) (fl : List (Nat × Nat)) (hfn : ∀ k, st.nx ≤ k → inF fl k = false) (wb : Nat) (hwb : wb ≤ st.nx) (g : Gm) (nt : Nat) :
    Gd (callL Try.prog ⟨false, fl, wb, nt⟩ 22 [gV g] st) fun r => r.1 = at2 g (1 + g.c * g.k) (bN g) ∧ Ext st.nx st r.2 := by
  rw [Gd_callL Try.func22 rfl]
  have e0 := box_ext st g
  have f0 := hfn st.nx (Nat.le_refl _)
  have f1 := hfn (st.nx + 1) (by omega)
  simp [gV, evOp_call, sets, T.get_set, cellsOf, newC_is, loadE_eq, f0, f1, getC_eq, getsB_succ, getsB_zero]
  refine Gd.mono (whole_any _ fl (fun k hk => hfn k (by have : st.nx + 1 ≤ k := hk; omega)) wb (by show wb ≤ st.nx + 1; omega) g _) ?_
  rintro ⟨r, s1⟩ ⟨hr, x1⟩
  simp only at hr x1
  subst hr
  have hs1 : Ext st.nx st s1 := e0.trans (x1.mono (Nat.le_succ _))
  have b1 : st.nx + 1 ≤ s1.nx := x1.le
  have f3 := hfn s1.nx (by omega)
  have hw1 : wb ≤ s1.nx := by omega
  have o3 : ∀ nx, inF ((0, s1.nx) :: (s1.nx + 1, nx) :: fl) s1.nx = false := fun nx => inF_ownF f3
  by_cases hg : isGood g
  · rw [if_pos hg]
    simp [f3, o3, hw1, at2, hg, evOp_call, sets, T.get_set, layV, loadE_eq, f0, f1, getC_eq, newC_is, storeK_g, putB_eq, roT]
    refine ⟨by kernel_rfl, ?_⟩
    exact hs1.new (by omega) _
  · rw [if_neg hg]
    simp [f3, o3, hw1, at2, hg, evOp_call, sets, T.get_set, zeros10, loadE_eq, f0, f1, getC_eq, newC_is, storeK_g, putB_eq, roT]
    refine ⟨by kernel_rfl, ?_⟩
    exact hs1.new (by omega) _
theorem gback_any (st : St) (fl : List (Nat × Nat)) (hfn : ∀ k, st.nx ≤ k → inF fl k = false) (wb : Nat) (hwb : wb ≤ st.nx) (g : Gm) (nt : Nat) :
    Gd (callL Try.prog ⟨false, fl, wb, nt⟩ 37 [gV g] st) fun r => r.1 = .int .i64 (if isGood g then g.b - 1 else 0) ∧ Ext st.nx st r.2 := by
  rw [Gd_callL Try.func37 rfl]
  have e0 := box_ext st g
  have f0 := hfn st.nx (Nat.le_refl _)
  have f1 := hfn (st.nx + 1) (by omega)
  simp [gV, evOp_call, sets, T.get_set, cellsOf, newC_is, loadE_eq, f0, f1, getC_eq, getsB_succ, getsB_zero]
  refine Gd.mono (good_any _ fl (fun k hk => hfn k (by have : st.nx + 1 ≤ k := hk; omega)) wb (by show wb ≤ st.nx + 1; omega) g _) ?_
  rintro ⟨r, s1⟩ ⟨hr, x1⟩
  simp only at hr x1
  subst hr
  have hs1 : Ext st.nx st s1 := e0.trans (x1.mono (Nat.le_succ _))
  have k0 : s1.h.get st.nx = some (.cs 45 4 ((((T.lf.set 0 (.int .i64 g.b)).set 1 (.int .i64 g.n)).set 2 (.int .i64 g.c)).set 3 (.int .i64 g.k))) := by
    rw [x1.keep st.nx (Nat.lt_succ_self _)]
    exact T.get_set_same _ _ _
  by_cases hg : isGood g
  · have hd : decide (isGood g) = true := by simpa using hg
    have w6 : IntKind.i64.wrap (g.b - 1) = g.b - 1 := by obtain ⟨h1, h2, _⟩ := hg.1; exact wrap_in (by omega) (by omega)
    rw [if_pos hg]
    simp [evOp_call, T.get_set, hd, loadE_eq, f0, f1, getC_eq, k0, w6]
    exact hs1
  · have hd : decide (isGood g) = false := by simpa using hg
    rw [if_neg hg]
    simp [evOp_call, T.get_set, hd]
    exact hs1
set_option maxRecDepth 20000 in
set_option maxHeartbeats 4000000 in
theorem gnode_any (st : St) (fl : List (Nat × Nat)) (hfn : ∀ k, st.nx ≤ k → inF fl k = false) (wb : Nat) (hwb : wb ≤ st.nx) (g : Gm) (n : Int) (nt : Nat) :
    Gd (callL Try.prog ⟨false, fl, wb, nt⟩ 17 [gV g, .int .i64 n] st) fun r => r.1 = .int .i64 (if isGood g ∧ 1 ≤ n ∧ n ≤ g.n then nF g + n - 1 else 0) ∧ Ext st.nx st r.2 := by
  rw [Gd_callL Try.func17 rfl]
  have e0 := box_ext st g
  have f0 := hfn st.nx (Nat.le_refl _)
  have f1 := hfn (st.nx + 1) (by omega)
  simp [gV, evOp_call, sets, T.get_set, cellsOf, newC_is, loadE_eq, f0, f1, getC_eq, getsB_succ, getsB_zero]
  refine Gd.mono (good_any _ fl (fun k hk => hfn k (by have : st.nx + 1 ≤ k := hk; omega)) wb (by show wb ≤ st.nx + 1; omega) g _) ?_
  rintro ⟨r, s1⟩ ⟨hr, x1⟩
  simp only at hr x1
  subst hr
  have hs1 : Ext st.nx st s1 := e0.trans (x1.mono (Nat.le_succ _))
  have k0 : s1.h.get st.nx = some (.cs 45 4 ((((T.lf.set 0 (.int .i64 g.b)).set 1 (.int .i64 g.n)).set 2 (.int .i64 g.c)).set 3 (.int .i64 g.k))) := by
    rw [x1.keep st.nx (Nat.lt_succ_self _)]
    exact T.get_set_same _ _ _
  by_cases hg : isGood g
  · have hd : decide (isGood g) = true := by simpa using hg
    have hck := ck_le hg.1
    obtain ⟨h1, h2, h3, h4, h5, h6, h7, h8⟩ := hg.1
    have hbn : 1 ≤ bN g ∧ bN g ≤ 2 := by unfold bN; omega
    have hnF : nF g = 1 + g.c * g.k + bN g := rfl
    simp [evOp_call, T.get_set, hd, loadE_eq, f0, f1, getC_eq, k0]
    refine Gd.mono (between_any _ _ _ _ _ _ _) ?_
    rintro _ rfl
    by_cases hn : 1 ≤ n ∧ n ≤ g.n
    · have hd2 : decide (1 ≤ n ∧ n ≤ g.n) = true := by simpa using hn
      simp only [hd2]
      have w1 : IntKind.i64.wrap (nF g + n) = nF g + n := wrap_in (by omega) (by omega)
      have w2 : IntKind.i64.wrap (nF g + n - 1) = nF g + n - 1 := wrap_in (by omega) (by omega)
      simp [evOp_call, T.get_set, loadE_eq, f0, f1, getC_eq, k0, getsB_succ, getsB_zero]
      refine Gd.mono (lay_any s1 fl (fun k hk => hfn k (by have := hs1.le; omega)) wb (by have := hs1.le; omega) g hg.1 _) ?_
      rintro ⟨r, s2⟩ ⟨hr, x2⟩
      simp only at hr x2
      subst hr
      simp [evOp_call, T.get_set, layV, w1, w2, hg, hn]
      exact hs1.trans (x2.mono hs1.le)
    · have hd2 : decide (1 ≤ n ∧ n ≤ g.n) = false := by simpa using hn
      simp only [hd2]
      have hno : ¬ (isGood g ∧ 1 ≤ n ∧ n ≤ g.n) := fun h => hn h.2
      rw [if_neg hno]
      simp [evOp_call, T.get_set]
      exact hs1
  · have hd : decide (isGood g) = false := by simpa using hg
    have hno : ¬ (isGood g ∧ 1 ≤ n ∧ n ≤ g.n) := fun h => hg h.1
    rw [if_neg hno]
    simp [evOp_call, T.get_set, hd]
    exact hs1
end Go.Proofs.Ytcjddojcfdeflaa

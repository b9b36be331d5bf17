/-
  Contracts of package geom: where things stand.
-/
import Derived.Test.YtcjddojcfdeflaaGm
set_option linter.unusedSimpArgs false
namespace Go.Proofs.Ytcjddojcfdeflaa
open Go.RowKit Ev
def zeros10 : List V := [.int .i64 0, .int .i64 0, .int .i64 0, .int .i64 0, .int .i64 0, .int .i64 0, .int .i64 0, .int .i64 0, .int .i64 0, .int .i64 0]
theorem box_ext (st : St) (g : Gm) : Ext st.nx st ⟨st.nx + 1, st.h.set st.nx (.cs 45 4 ((((T.lf.set 0 (.int .i64 g.b)).set 1 (.int .i64 g.n)).set 2 (.int .i64 g.c)).set 3 (.int .i64 g.k)))⟩ := (Ext.refl _ _).new (Nat.le_refl _) _
set_option maxRecDepth 20000 in
set_option maxHeartbeats 4000000 in
theorem whole_any (st : St) (fl : List (Nat × Nat)) (hfn : ∀ k, st.nx ≤ k → inF fl k = false) (wb : Nat) (hwb : wb ≤ st.nx) (g : Gm) (nt : Nat) :
    Gd (callL Try.prog ⟨false, fl, wb, nt⟩ 48 [gV g] st) fun r => r.1 = .g (if isGood g then layV g else zeros10) ∧ Ext st.nx st r.2 := by
  rw [Gd_callL Try.func48 rfl]
  have e0 := box_ext st g
  have f0 := hfn st.nx (Nat.le_refl _)
  have f1 := hfn (st.nx + 1) (by omega)
  have q2 : ¬ st.nx + 1 = st.nx := by omega
  have q5 : wb ≤ st.nx + 1 := by omega
  obtain ⟨z, hz⟩ : ∃ z : T V, z = ((((((((((T.lf.set 0 (.int .i64 0)).set 1 (.int .i64 0)).set 2 (.int .i64 0)).set 3 (.int .i64 0)).set 4 (.int .i64 0)).set 5 (.int .i64 0)).set 6 (.int .i64 0)).set 7 (.int .i64 0)).set 8 (.int .i64 0)).set 9 (.int .i64 0)) := ⟨_, rfl⟩
  simp [gV, evOp_call, sets, T.get_set, cellsOf, newC_is, loadE_eq, f0, f1, getC_eq, getsB_succ, getsB_zero, q2]
  rw [← hz]
  have e1 := e0.new (Nat.le_succ _) (.cs 93 10 z)
  refine Gd.mono (good_any _ fl (fun k hk => hfn k (by have : st.nx + 1 + 1 ≤ k := hk; omega)) wb (by show wb ≤ st.nx + 1 + 1; omega) g _) ?_
  rintro ⟨r, s1⟩ ⟨hr, x1⟩
  simp only at hr x1
  subst hr
  have b1 : st.nx + 2 ≤ s1.nx := x1.le
  have hs1 : Ext st.nx st s1 := e1.trans (x1.mono (by show st.nx ≤ st.nx + 1 + 1; omega))
  have k0 : s1.h.get st.nx = some (.cs 45 4 ((((T.lf.set 0 (.int .i64 g.b)).set 1 (.int .i64 g.n)).set 2 (.int .i64 g.c)).set 3 (.int .i64 g.k))) := by
    rw [x1.keep st.nx (by show st.nx < st.nx + 1 + 1; omega)]
    show ((T.set _ st.nx _).set (st.nx + 1) _).get st.nx = _
    rw [T.get_set_ne _ _ q2, T.get_set_same]
  have k1 : s1.h.get (st.nx + 1) = some (.cs 93 10 z) := by
    rw [x1.keep (st.nx + 1) (by show st.nx + 1 < st.nx + 1 + 1; omega)]
    exact T.get_set_same _ _ _
  by_cases hg : isGood g
  · have hd : decide (isGood g) = true := by simpa using hg
    rw [if_pos hg]
    simp [evOp_call, T.get_set, hd, loadE_eq, f0, f1, getC_eq, k0, getsB_succ, getsB_zero]
    refine Gd.mono (lay_any s1 fl (fun k hk => hfn k (by omega)) wb (by omega) g hg.1 _) ?_
    rintro ⟨r, s2⟩ ⟨hr, x2⟩
    simp only at hr x2
    subst hr
    have k2 : s2.h.get (st.nx + 1) = some (.cs 93 10 z) := by rw [x2.keep _ (by omega)]; exact k1
    simp [evOp_call, T.get_set, loadE_eq, f0, f1, getC_eq, k2, storeK_g, layV, putB_eq, roT, q5, sets, getsB_succ, getsB_zero]
    exact (hs1.trans (x2.mono hs1.le)).set (by omega) (by have := x2.le; omega) _
  · have hd : decide (isGood g) = false := by simpa using hg
    rw [if_neg hg]
    simp [evOp_call, T.get_set, hd, loadE_eq, f0, f1, getC_eq, k1, storeK_g, putB_eq, roT, q5, sets, getsB_succ, getsB_zero, zeros10]
    exact hs1.set (by omega) (by omega) _
/-- two numbers of a part -/
def at2 (g : Gm) (a b : Int) : V := if isGood g then .t [.int .i64 a, .int .i64 b] else .t [.int .i64 0, .int .i64 0]
set_option maxRecDepth 20000 in
set_option maxHeartbeats 4000000 in
theorem glost_any (st : St) (fl : List (Nat × Nat)) (hfn : ∀ k, st.nx ≤ k → inF fl k = false) (wb : Nat) (hwb : wb ≤ st.nx) (g : Gm) (nt : Nat) :
    Gd (callL Try.prog ⟨false, fl, wb, nt⟩ 38 [gV g] st) fun r => r.1 = at2 g (nF g + g.n) g.n ∧ Ext st.nx st r.2 := by
  rw [Gd_callL Try.func38 rfl]
  have e0 := box_ext st g
  have f0 := hfn st.nx (Nat.le_refl _)
  have f1 := hfn (st.nx + 1) (by omega)
  simp [gV, evOp_call, sets, T.get_set, cellsOf, newC_is, loadE_eq, f0, f1, getC_eq, getsB_succ, getsB_zero]
  refine Gd.mono (whole_any _ fl (fun k hk => hfn k (by have : st.nx + 1 ≤ k := hk; omega)) wb (by show wb ≤ st.nx + 1; omega) g _) ?_
  rintro ⟨r, s1⟩ ⟨hr, x1⟩
  simp only at hr x1
  subst hr
  have hs1 : Ext st.nx st s1 := e0.trans (x1.mono (Nat.le_succ _))
  have b1 : st.nx + 1 ≤ s1.nx := x1.le
  have f3 := hfn s1.nx (by omega)
  have hw1 : wb ≤ s1.nx := by omega
  have o3 : ∀ nx, inF ((0, s1.nx) :: (s1.nx + 1, nx) :: fl) s1.nx = false := fun nx => inF_ownF f3
  by_cases hg : isGood g
  · rw [if_pos hg]
    simp [f3, o3, hw1, at2, hg, evOp_call, sets, T.get_set, layV, loadE_eq, f0, f1, getC_eq, newC_is, storeK_g, putB_eq, roT]
    refine ⟨by kernel_rfl, ?_⟩
    exact hs1.new (by omega) _
  · rw [if_neg hg]
    simp [f3, o3, hw1, at2, hg, evOp_call, sets, T.get_set, zeros10, loadE_eq, f0, f1, getC_eq, newC_is, storeK_g, putB_eq, roT]
    refine ⟨by kernel_rfl, ?_⟩
    exact hs1.new (by omega) _
set_option maxRecDepth 20000 in
set_option maxHeartbeats 4000000 in
theorem gdata_any (st : St) (fl : List (Nat × Nat)) (hfn : ∀ k, st.nx ≤ k → inF fl k = false) (wb : Nat) (hwb : wb ≤ st.nx) (g : Gm) (nt : Nat) :
    Gd (callL Try.prog ⟨false, fl, wb, nt⟩ 56 [gV g] st) fun r => r.1 = at2 g (dF g) (dN g) ∧ Ext st.nx st r.2 := by
  rw [Gd_callL Try.func56 rfl]
  have e0 := box_ext st g
  have f0 := hfn st.nx (Nat.le_refl _)
  have f1 := hfn (st.nx + 1) (by omega)
  simp [gV, evOp_call, sets, T.get_set, cellsOf, newC_is, loadE_eq, f0, f1, getC_eq, getsB_succ, getsB_zero]
  refine Gd.mono (whole_any _ fl (fun k hk => hfn k (by have : st.nx + 1 ≤ k := hk; omega)) wb (by show wb ≤ st.nx + 1; omega) g _) ?_
  rintro ⟨r, s1⟩ ⟨hr, x1⟩
  simp only at hr x1
  subst hr
  have hs1 : Ext st.nx st s1 := e0.trans (x1.mono (Nat.le_succ _))
  have b1 : st.nx + 1 ≤ s1.nx := x1.le
  have f3 := hfn s1.nx (by omega)
  have hw1 : wb ≤ s1.nx := by omega
  have o3 : ∀ nx, inF ((0, s1.nx) :: (s1.nx + 1, nx) :: fl) s1.nx = false := fun nx => inF_ownF f3
  by_cases hg : isGood g
  · rw [if_pos hg]
    simp [f3, o3, hw1, at2, hg, evOp_call, sets, T.get_set, layV, loadE_eq, f0, f1, getC_eq, newC_is, storeK_g, putB_eq, roT]
    refine ⟨by kernel_rfl, ?_⟩
    exact hs1.new (by omega) _
  · rw [if_neg hg]
    simp [f3, o3, hw1, at2, hg, evOp_call, sets, T.get_set, zeros10, loadE_eq, f0, f1, getC_eq, newC_is, storeK_g, putB_eq, roT]
    refine ⟨by kernel_rfl, ?_⟩
    exact hs1.new (by omega) _
end Go.Proofs.Ytcjddojcfdeflaa

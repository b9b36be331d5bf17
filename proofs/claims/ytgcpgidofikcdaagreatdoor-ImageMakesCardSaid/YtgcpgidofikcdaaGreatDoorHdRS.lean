/-
  PLAIN: GmR, HdR, HdS, in one text.
-/
import Derived.Test.YtgcpgidofikcdaaGreatDoorGmA
import Derived.Test.YtgcpgidofikcdaaGreatDoorHdWF
set_option linter.unusedSimpArgs false
namespace Go.Proofs.YtgcpgidofikcdaaGreatDoor
open Go.RowKit Ev
theorem rbox_ext (st : St) (g : Gm) : Ext st.nx st ⟨st.nx + 1, st.h.set st.nx (.cs 70 4 ((((T.lf.set 0 (.int .i64 g.b)).set 1 (.int .i64 g.n)).set 2 (.int .i64 g.c)).set 3 (.int .i64 g.k)))⟩ := (Ext.refl _ _).new (Nat.le_refl _) _
theorem rbb_any (st : St) (fl : List (Nat × Nat)) (hfn : inF fl st.nx = false) (wb : Nat) (g : Gm) (h : 64 ≤ g.b ∧ g.b ≤ 1024) (nt : Nat) :
    Gd (callL Tryz.prog ⟨false, fl, wb, nt⟩ 146 [gV g] st) fun r => r.1 = .int .i64 (bN g) ∧ Ext st.nx st r.2 := by
  rw [Gd_callL Tryz.func146 rfl]
  have e0 := rbox_ext st g
  have w1 : IntKind.i64.wrap (g.b + 511) = g.b + 511 := wrap_in (by omega) (by omega)
  have w2 : (g.b + 511).tdiv 512 = bN g := by rw [Int.tdiv_eq_ediv_of_nonneg (by omega)]; rfl
  have w3 : IntKind.i64.wrap (bN g) = bN g := by unfold bN; exact wrap_in (by omega) (by omega)
  simp [gV, sets, T.get_set, cellsOf, newC_is, loadE_eq, hfn, getC_eq, w1, w2, w3]
  exact e0
theorem rk0 {st s1 : St} {g : Gm} (x1 : Ext (st.nx + 1) ⟨st.nx + 1, st.h.set st.nx (.cs 70 4 ((((T.lf.set 0 (.int .i64 g.b)).set 1 (.int .i64 g.n)).set 2 (.int .i64 g.c)).set 3 (.int .i64 g.k)))⟩ s1) : s1.h.get st.nx = some (.cs 70 4 ((((T.lf.set 0 (.int .i64 g.b)).set 1 (.int .i64 g.n)).set 2 (.int .i64 g.c)).set 3 (.int .i64 g.k))) := by
  rw [x1.keep st.nx (Nat.lt_succ_self _)]
  exact T.get_set_same _ _ _
set_option maxRecDepth 20000 in
set_option maxHeartbeats 4000000 in
theorem rgood_any (st : St) (fl : List (Nat × Nat)) (hfn : ∀ k, st.nx ≤ k → inF fl k = false) (g : Gm) (nt : Nat) :
    Gd (callL Tryz.prog ⟨false, fl, 0, nt⟩ 87 [gV g] st) fun r => r.1 = .bool (decide (isGood g)) ∧ Ext st.nx st r.2 := by
  rw [Gd_callL Tryz.func87 rfl]
  have e0 := rbox_ext st g
  have f0 := hfn st.nx (Nat.le_refl _)
  have o0 : ∀ nx, inF ((0, st.nx) :: (st.nx + 1, nx) :: fl) st.nx = false := fun nx => inF_ownF f0
  by_cases c1 : g.b < 64
  · have hd : decide (isGood g) = false := decide_eq_false fun h => by have := h.1.1; omega
    simp [f0, o0, gV, evOp_call, sets, T.get_set, cellsOf, newC_is, loadE_eq, getC_eq, hd, c1]
    exact e0
  · by_cases c2 : 1024 < g.b
    · have hd : decide (isGood g) = false := decide_eq_false fun h => by have := h.1.2.1; omega
      simp [f0, o0, gV, evOp_call, sets, T.get_set, cellsOf, newC_is, loadE_eq, getC_eq, hd, c1, c2]
      exact e0
    · by_cases c3 : g.n < 4
      · have hd : decide (isGood g) = false := decide_eq_false fun h => by have := h.1.2.2.1; omega
        simp [f0, o0, gV, evOp_call, sets, T.get_set, cellsOf, newC_is, loadE_eq, getC_eq, hd, c1, c2, c3]
        exact e0
      · by_cases c4 : 64 < g.n
        · have hd : decide (isGood g) = false := decide_eq_false fun h => by have := h.1.2.2.2.1; omega
          simp [f0, o0, gV, evOp_call, sets, T.get_set, cellsOf, newC_is, loadE_eq, getC_eq, hd, c1, c2, c3, c4]
          exact e0
        · by_cases c5 : g.c < 1
          · have hd : decide (isGood g) = false := decide_eq_false fun h => by have := h.1.2.2.2.2.1; omega
            simp [f0, o0, gV, evOp_call, sets, T.get_set, cellsOf, newC_is, loadE_eq, getC_eq, hd, c1, c2, c3, c4, c5]
            exact e0
          · by_cases c6 : 8 < g.c
            · have hd : decide (isGood g) = false := decide_eq_false fun h => by have := h.1.2.2.2.2.2.1; omega
              simp [f0, o0, gV, evOp_call, sets, T.get_set, cellsOf, newC_is, loadE_eq, getC_eq, hd, c1, c2, c3, c4, c5, c6]
              exact e0
            · by_cases c7 : g.k < 16
              · have hd : decide (isGood g) = false := decide_eq_false fun h => by have := h.1.2.2.2.2.2.2.1; omega
                simp [f0, o0, gV, evOp_call, sets, T.get_set, cellsOf, newC_is, loadE_eq, getC_eq, hd, c1, c2, c3, c4, c5, c6, c7]
                exact e0
              · by_cases c8 : 110 < g.k
                · have hd : decide (isGood g) = false := decide_eq_false fun h => by have := h.1.2.2.2.2.2.2.2; omega
                  simp [f0, o0, gV, evOp_call, sets, T.get_set, cellsOf, newC_is, loadE_eq, getC_eq, hd, c1, c2, c3, c4, c5, c6, c7, c8]
                  exact e0
                · have hs4 : small4 g := ⟨by omega, by omega, by omega, by omega, by omega, by omega, by omega, by omega⟩
                  have hck := ck_le hs4
                  have hbn : 1 ≤ bN g ∧ bN g ≤ 2 := by unfold bN; omega
                  have w1 : IntKind.i64.wrap (g.c * g.k) = g.c * g.k := wrap_in (by omega) (by omega)
                  have w2 : IntKind.i64.wrap (2 + g.c * g.k) = 2 + g.c * g.k := wrap_in (by omega) (by omega)
                  have w3 : IntKind.i64.wrap (2 + g.c * g.k + bN g) = 2 + g.c * g.k + bN g := wrap_in (by omega) (by omega)
                  have w4 : IntKind.i64.wrap (2 * g.n) = 2 * g.n := wrap_in (by omega) (by omega)
                  have w5 : IntKind.i64.wrap (2 + g.c * g.k + bN g + 2 * g.n) = 2 + g.c * g.k + bN g + 2 * g.n := wrap_in (by omega) (by omega)
                  have hd : decide (isGood g) = decide (2 + g.c * g.k + bN g + 2 * g.n < g.b) := by
                    rw [decide_eq_decide]
                    have hdn : dN g = g.b - 1 - (1 + g.c * g.k + bN g + g.n + g.n) := rfl
                    exact ⟨fun h => by have := h.2; omega, fun h => ⟨hs4, by omega⟩⟩
                  simp [f0, o0, gV, evOp_call, sets, T.get_set, cellsOf, newC_is, loadE_eq, getC_eq, getsB_succ, getsB_zero, c1, c2, c3, c4, c5, c6, c7, c8, w1, w2]
                  refine ⟨by kernel_rfl, ?_⟩
                  rw [cxOf_callL [(st.nx, st.nx + 1), (st.nx, st.nx + 1), (st.nx, st.nx + 1), (st.nx, st.nx + 1)] (by kernel_rfl) (by kernel_rfl) (looseW_at3 1 41 43 (.p st.nx 0) (.p st.nx 2) (.p st.nx 3) (by simp [T.get_set]) (by simp [T.get_set]) (by simp [T.get_set]) (by kernel_rfl)) (fun x hx => by simp at hx; subst hx; simp [clashes_tmp, T.get_set]) (fun p hp => by simp at hp; subst hp; rw [isRo_cs (T.get_set_same _ _ _)]; decide)]
                  simp only [forb_nil]
                  refine Gd.mono (rbb_any _ ([(st.nx, st.nx + 1), (st.nx, st.nx + 1), (st.nx, st.nx + 1), (st.nx, st.nx + 1)] ++ fl) (by refine inF_app ?_ (hfn _ (Nat.le_succ _)); show inF _ (st.nx + 1) = false; rw [inF_cons, if_neg (by omega), inF_cons, if_neg (by omega), inF_cons, if_neg (by omega), inF_cons, if_neg (by omega)]; rfl) 0 g ⟨by omega, by omega⟩ _) ?_
                  rintro ⟨r, s1⟩ ⟨hr, x1⟩
                  simp only at hr x1
                  subst hr
                  have k0 := rk0 x1
                  have hld : ∀ (b i nx' : Nat), inF ((0, st.nx) :: (st.nx + 1, nx') :: forb b (rsOf [] i (st.nx + 1) s1.nx) fl) st.nx = false := fun b i nx' => inF_ldF f0 (by omega)
                  simp [f0, o0, evOp_call, T.get_set, loadE_eq, getC_eq, k0, hld, w3, w4, w5, hd]
                  exact e0.trans (x1.mono (Nat.le_succ _))
set_option maxRecDepth 20000 in
set_option maxHeartbeats 4000000 in
theorem rbits_any (st : St) (fl : List (Nat × Nat)) (hfn : ∀ k, st.nx ≤ k → inF fl k = false) (g : Gm) (nt : Nat) :
    Gd (callL Tryz.prog ⟨false, fl, 0, nt⟩ 149 [gV g] st) fun r => r.1 = at2 g (1 + g.c * g.k) (bN g) ∧ Ext st.nx st r.2 := by
  rw [Gd_callL Tryz.func149 rfl]
  have e0 := rbox_ext st g
  have f0 := hfn st.nx (Nat.le_refl _)
  have o0 : ∀ nx, inF ((0, st.nx) :: (st.nx + 1, nx) :: fl) st.nx = false := fun nx => inF_ownF f0
  simp [f0, o0, gV, evOp_call, sets, T.get_set, cellsOf, newC_is, loadE_eq, getC_eq, getsB_succ, getsB_zero]
  refine Gd.mono (rgood_any _ fl (fun k hk => hfn k (Nat.le_of_succ_le hk)) g _) ?_
  rintro ⟨r, s1⟩ ⟨hr, x1⟩
  simp only at hr x1
  subst hr
  have hs1 : Ext st.nx st s1 := e0.trans (x1.mono (Nat.le_succ _))
  have l1 : st.nx < s1.nx := x1.le
  have k0 := rk0 x1
  by_cases hg : isGood g
  · have hd : decide (isGood g) = true := by simpa using hg
    have hck := ck_le hg.1
    obtain ⟨h1, h2, h3, h4, h5, h6, h7, h8⟩ := hg.1
    have w1 : IntKind.i64.wrap (g.c * g.k) = g.c * g.k := wrap_in (by omega) (by omega)
    have w2 : IntKind.i64.wrap (1 + g.c * g.k) = 1 + g.c * g.k := wrap_in (by omega) (by omega)
    simp [f0, o0, evOp_call, T.get_set, hd, loadE_eq, getC_eq, getsB_succ, getsB_zero, k0, w1, w2]
    refine ⟨by kernel_rfl, ?_⟩
    rw [cxOf_callL [(st.nx, st.nx + 1), (st.nx, st.nx + 1)] (by kernel_rfl) (by kernel_rfl) (looseW_at2 7 9 (.p st.nx 2) (.p st.nx 3) (by simp [T.get_set]) (by simp [T.get_set]) (by kernel_rfl)) (fun x hx => by simp at hx; subst hx; simp [clashes_tmp, T.get_set]) (fun p hp => by simp at hp; subst hp; rw [isRo_cs k0]; decide)]
    simp only [forb_nil]
    refine Gd.mono (rbb_any _ ([(st.nx, st.nx + 1), (st.nx, st.nx + 1)] ++ fl) (by refine inF_app ?_ (hfn _ (Nat.le_of_lt l1)); rw [inF_cons, if_neg (by omega), inF_cons, if_neg (by omega)]; rfl) 0 g ⟨by omega, by omega⟩ _) ?_
    rintro ⟨r, s2⟩ ⟨hr, x2⟩
    simp only at hr x2
    subst hr
    simp [evOp_call, T.get_set, at2, hg]
    exact hs1.trans (x2.mono hs1.le)
  · have hd : decide (isGood g) = false := by simpa using hg
    simp [evOp_call, T.get_set, hd, at2, hg]
    exact hs1
def nodeV (g : Gm) (n : Int) : V := .int .i64 (if isGood g ∧ 1 ≤ n ∧ n ≤ g.n then nF g + n - 1 else 0)
set_option maxRecDepth 20000 in
set_option maxHeartbeats 4000000 in
theorem rnode_any (st : St) (fl : List (Nat × Nat)) (hfn : ∀ k, st.nx ≤ k → inF fl k = false) (g : Gm) (n : Int) (nt : Nat) :
    Gd (callL Tryz.prog ⟨false, fl, 0, nt⟩ 90 [gV g, .int .i64 n] st) fun r => r.1 = nodeV g n ∧ Ext st.nx st r.2 := by
  rw [Gd_callL Tryz.func90 rfl]
  have e0 := rbox_ext st g
  have f0 := hfn st.nx (Nat.le_refl _)
  simp [f0, gV, evOp_call, sets, T.get_set, cellsOf, newC_is, loadE_eq, getC_eq, getsB_succ, getsB_zero]
  refine Gd.mono (rgood_any _ fl (fun k hk => hfn k (Nat.le_of_succ_le hk)) g _) ?_
  rintro ⟨r, s1⟩ ⟨hr, x1⟩
  simp only at hr x1
  subst hr
  have hs1 : Ext st.nx st s1 := e0.trans (x1.mono (Nat.le_succ _))
  have l1 : st.nx < s1.nx := x1.le
  have k0 := rk0 x1
  by_cases hg : isGood g
  · have hd : decide (isGood g) = true := by simpa using hg
    have hck := ck_le hg.1
    obtain ⟨h1, h2, h3, h4, h5, h6, h7, h8⟩ := hg.1
    have hbn : 1 ≤ bN g ∧ bN g ≤ 2 := by unfold bN; omega
    have hnF : nF g = 1 + g.c * g.k + bN g := rfl
    by_cases c1 : n < 1
    · have hno : nodeV g n = .int .i64 0 := by unfold nodeV; rw [if_neg fun h => by omega]
      rw [hno]
      simp [evOp_call, T.get_set, hd, c1]
      exact hs1
    · by_cases c2 : g.n < n
      · have hno : nodeV g n = .int .i64 0 := by unfold nodeV; rw [if_neg fun h => by omega]
        rw [hno]
        simp [f0, evOp_call, T.get_set, hd, c1, loadE_eq, getC_eq, k0, c2]
        exact hs1
      · have hyes : nodeV g n = .int .i64 (nF g + n - 1) := by unfold nodeV; rw [if_pos ⟨hg, by omega, by omega⟩]
        have w1 : IntKind.i64.wrap (1 + g.c * g.k + bN g) = nF g := wrap_in (by omega) (by omega)
        have w2 : IntKind.i64.wrap (nF g + n) = nF g + n := wrap_in (by omega) (by omega)
        have w3 : IntKind.i64.wrap (nF g + n - 1) = nF g + n - 1 := wrap_in (by omega) (by omega)
        rw [hyes]
        simp [f0, evOp_call, T.get_set, hd, c1, loadE_eq, getC_eq, getsB_succ, getsB_zero, k0, c2]
        refine Gd.mono (rbits_any s1 fl (fun k hk => hfn k (by omega)) g _) ?_
        rintro ⟨r, s2⟩ ⟨hr, x2⟩
        simp only at hr x2
        unfold at2 at hr
        rw [if_pos hg] at hr
        subst hr
        simp [evOp_call, T.get_set, w1, w2, w3]
        exact hs1.trans (x2.mono hs1.le)
  · have hd : decide (isGood g) = false := by simpa using hg
    have hno : nodeV g n = .int .i64 0 := by unfold nodeV; rw [if_neg fun h => hg h.1]
    rw [hno]
    simp [evOp_call, T.get_set, hd]
    exact hs1
set_option maxRecDepth 20000 in
set_option maxHeartbeats 4000000 in
theorem rlost_any (st : St) (g : Gm) (nt : Nat) :
    Gd (callL Tryz.prog ⟨false, [], 0, nt⟩ 151 [gV g] st) fun r => r.1 = at2 g (nF g + g.n) g.n ∧ Ext st.nx st r.2 := by
  rw [Gd_callL Tryz.func151 rfl]
  have e0 := rbox_ext st g
  simp [gV, evOp_call, sets, T.get_set, cellsOf, newC_is, loadE_eq, getC_eq, getsB_succ, getsB_zero]
  refine Gd.mono (rgood_any _ [] (fun _ _ => rfl) g _) ?_
  rintro ⟨r, s1⟩ ⟨hr, x1⟩
  simp only at hr x1
  subst hr
  have hs1 : Ext st.nx st s1 := e0.trans (x1.mono (Nat.le_succ _))
  have l1 : st.nx < s1.nx := x1.le
  have k0 := rk0 x1
  by_cases hg : isGood g
  · have hd : decide (isGood g) = true := by simpa using hg
    have hck := ck_le hg.1
    obtain ⟨h1, h2, h3, h4, h5, h6, h7, h8⟩ := hg.1
    have hbn : 1 ≤ bN g ∧ bN g ≤ 2 := by unfold bN; omega
    have hnF : nF g = 1 + g.c * g.k + bN g := rfl
    have hnv : nodeV g g.n = .int .i64 (nF g + g.n - 1) := by unfold nodeV; rw [if_pos ⟨hg, by omega, by omega⟩]
    have w1 : IntKind.i64.wrap (nF g + g.n) = nF g + g.n := wrap_in (by omega) (by omega)
    simp [evOp_call, T.get_set, hd, loadE_eq, getC_eq, getsB_succ, getsB_zero, k0]
    refine ⟨by kernel_rfl, ?_⟩
    rw [cxOf_callL [(st.nx, st.nx + 1)] (by kernel_rfl) (by kernel_rfl) (looseW_at 1 (.p st.nx 0) (by simp [T.get_set]) (by kernel_rfl)) (fun x hx => by simp at hx; rcases hx with rfl | rfl <;> simp [clashes_tmp, T.get_set]) (fun p hp => by simp at hp; subst hp; rw [isRo_cs k0]; decide)]
    simp only [forb_nil, List.append_nil]
    refine Gd.mono (rnode_any s1 [(st.nx, st.nx + 1)] (fun k hk => by rw [inF_cons, if_neg (by omega)]; rfl) g g.n _) ?_
    rintro ⟨r, s2⟩ ⟨hr, x2⟩
    simp only at hr x2
    rw [hnv] at hr
    subst hr
    have k1 : s2.h.get st.nx = _ := (x2.keep _ l1).trans k0
    have hld : ∀ (b i nx' : Nat), inF ((0, st.nx) :: (st.nx + 1, nx') :: forb b (rsOf [] i s1.nx s2.nx) []) st.nx = false := fun b i nx' => inF_ld (by omega)
    simp [evOp_call, T.get_set, loadE_eq, getC_eq, k1, hld, w1, at2, hg]
    exact hs1.trans (x2.mono hs1.le)
  · have hd : decide (isGood g) = false := by simpa using hg
    simp [evOp_call, T.get_set, hd, at2, hg]
    exact hs1
set_option maxRecDepth 20000 in
set_option maxHeartbeats 4000000 in
theorem rdata_any (st : St) (g : Gm) (nt : Nat) :
    Gd (callL Tryz.prog ⟨false, [], 0, nt⟩ 152 [gV g] st) fun r => r.1 = at2 g (dF g) (dN g) ∧ Ext st.nx st r.2 := by
  rw [Gd_callL Tryz.func152 rfl]
  have e0 := rbox_ext st g
  simp [gV, evOp_call, sets, T.get_set, cellsOf, newC_is, loadE_eq, getC_eq, getsB_succ, getsB_zero]
  refine Gd.mono (rgood_any _ [] (fun _ _ => rfl) g _) ?_
  rintro ⟨r, s1⟩ ⟨hr, x1⟩
  simp only at hr x1
  subst hr
  have hs1 : Ext st.nx st s1 := e0.trans (x1.mono (Nat.le_succ _))
  have l1 : st.nx < s1.nx := x1.le
  have k0 := rk0 x1
  by_cases hg : isGood g
  · have hd : decide (isGood g) = true := by simpa using hg
    have hck := ck_le hg.1
    obtain ⟨h1, h2, h3, h4, h5, h6, h7, h8⟩ := hg.1
    have hbn : 1 ≤ bN g ∧ bN g ≤ 2 := by unfold bN; omega
    have hnF : nF g = 1 + g.c * g.k + bN g := rfl
    have hdF : dF g = nF g + g.n + g.n := rfl
    have hdN : dN g = g.b - 1 - dF g := rfl
    have w1 : IntKind.i64.wrap (nF g + g.n + g.n) = dF g := wrap_in (by omega) (by omega)
    have w2 : IntKind.i64.wrap (g.b - 1) = g.b - 1 := wrap_in (by omega) (by omega)
    have w3 : IntKind.i64.wrap (g.b - 1 - (nF g + g.n)) = g.b - 1 - (nF g + g.n) := wrap_in (by omega) (by omega)
    have w4 : IntKind.i64.wrap (g.b - 1 - (nF g + g.n) - g.n) = dN g := by rw [show g.b - 1 - (nF g + g.n) - g.n = dN g by omega]; exact wrap_in (by omega) (by omega)
    simp [evOp_call, T.get_set, hd, loadE_eq, getC_eq, getsB_succ, getsB_zero, k0]
    refine Gd.mono (rlost_any s1 g _) ?_
    rintro ⟨r, s2⟩ ⟨hr, x2⟩
    simp only at hr x2
    have hl : at2 g (nF g + g.n) g.n = .t [.int .i64 (nF g + g.n), .int .i64 g.n] := by unfold at2; rw [if_pos hg]
    rw [hl] at hr
    subst hr
    have k1 : s2.h.get st.nx = _ := (x2.keep _ l1).trans k0
    simp [evOp_call, T.get_set, loadE_eq, getC_eq, k1, w1, w2, w3, w4, at2, hg]
    first | exact hs1.trans (x2.mono hs1.le) | exact ⟨by kernel_rfl, hs1.trans (x2.mono hs1.le)⟩
  · have hd : decide (isGood g) = false := by simpa using hg
    simp [evOp_call, T.get_set, hd, at2, hg]
    exact hs1
end Go.Proofs.YtgcpgidofikcdaaGreatDoor
set_option linter.unusedSimpArgs false
namespace Go.Proofs.YtgcpgidofikcdaaGreatDoor
open Go.RowKit Ev
theorem magic_any (c : Cx) (st : St) : Gd (callL Tryz.prog c 147 [] st) fun r => r = (wd magicW, st) := by
  rw [Gd_callL Tryz.func147 rfl]
  simp [evOp_call, sets, T.get_set, magicW]
set_option maxRecDepth 20000 in
set_option maxHeartbeats 4000000 in
theorem rput_any (st : St) (g : Gm) (p : BitVec 64) (nt : Nat) :
    Gd (callL Tryz.prog ⟨false, [], 0, nt⟩ 89 [gV g, wd p] st) fun r => RdRow r.2 r.1 1 (putH g p).length (wv (putH g p)) ∧ Ext st.nx st r.2 := by
  rw [Gd_callL Tryz.func89 rfl]
  have gVg : V.g [V.int .i64 g.b, V.int .i64 g.n, V.int .i64 g.c, V.int .i64 g.k] = gV g := rfl
  rw [show sets [gV g, wd p] 0 T.lf = (T.set .lf 0 (gV g)).set 1 (wd p) from rfl]
  have hcell : ∀ k : List V → Res, cellsOf (gV g) k = k [V.int .i64 g.b, V.int .i64 g.n, V.int .i64 g.c, V.int .i64 g.k] := fun k => rfl
  simp [hcell, evOp_call, sets, T.get_set, newC_is, loadE_eq, getC_eq, getsB_succ, getsB_zero]
  rw [gVg]
  refine Gd.mono (rgood_any _ [] (fun _ _ => rfl) g _) ?_
  rintro ⟨r, s1⟩ ⟨hr, x1⟩
  simp only at hr x1
  subst hr
  have l1 : st.nx < s1.nx := x1.le
  have hs1 : Ext st.nx st s1 := (hbox_ext st _).trans (x1.mono (Nat.le_succ _))
  have k0 : s1.h.get st.nx = _ := (x1.keep _ (Nat.lt_succ_self _)).trans (T.get_set_same _ _ _)
  have q0 : ¬ s1.nx = st.nx := by omega
  by_cases hg : isGood g
  · have hd : decide (isGood g) = true := by simpa using hg
    simp [evOp_call, T.get_set, hd]
    refine ⟨by kernel_rfl, ?_⟩
    refine Gd.mono (magic_any _ _) ?_
    rintro _ rfl
    simp [evOp_call, T.get_set, loadE_eq, getC_eq, k0]
    refine Gd_buildW (vs := wv (preH g)) (fun k => el60 k) (fun k => ze78 k) rfl (by simp [T.get_set, wv, preH, magicW]) (by simp [wv, preH]) rfl rfl (by omega) ?_
    have ha := AppRow.built (b := st.nx) (n := 6) (st := s1) (el := 78) (vs := wv (preH g)) (by omega) (by decide) rfl
    have hs2 : ∀ v, Ext st.nx st ⟨s1.nx + 1, s1.h.set s1.nx v⟩ := fun v => hs1.new (by omega) v
    simp [evOp_call, T.get_set]
    refine Gd.mono (rslOf_any _ 0 _ (preH g) ha.rd (by show 6 ≤ 1000000; omega) _) ?_
    rintro _ rfl
    simp [evOp_call, T.get_set]
    refine Gd_buildW (vs := [wd p, wd (slOf (preH g))]) (fun k => el60 k) (fun k => ze78 k) rfl (by simp [T.get_set]) (by simp) rfl rfl (by omega) ?_
    simp [evOp_call, T.get_set]
    have hext := fun v => (Ext.refl (s1.nx + 1) (⟨s1.nx + 1, s1.h.set s1.nx (.cs 78 6 (sets (wv (preH g)) 0 T.lf))⟩ : St)).new (Nat.le_refl _) v
    refine Gd_appendA un60 un60 io78 (lx := 2) (new := [wd p, wd (slOf (preH g))]) (ha.ext (hext _)) (by show st.nx ≤ s1.nx + 1 + 1; omega) (by decide) (fun s' h => by cases h) (fun k => rfl) (fun k => by simp [getC_eq, getsB_2, T.get_set, sets]) rfl (by omega) (by omega) ?_
    intro s' st' ho' he'
    have hpr : putH g p = preH g ++ [p, slOf (preH g)] := by unfold putH; rw [if_pos hg]
    have ho2 : OwnRow st.nx st' s' 1 8 (wv (putH g p)) := by rw [hpr, wv_app]; exact ho'
    simp [evOp_call, T.get_set]
    exact ⟨by rw [putH_length p hg]; exact ho2.rd, ((hs2 _).trans ((hext _).mono (by omega))).trans he'⟩
  · have hd : decide (isGood g) = false := by simpa using hg
    have hp := putH_bad p hg
    simp [evOp_call, T.get_set, hd]
    rw [hp]
    exact ⟨(OwnRow.nil 0 s1 1).rd, hs1⟩
end Go.Proofs.YtgcpgidofikcdaaGreatDoor
set_option linter.unusedSimpArgs false
namespace Go.Proofs.YtgcpgidofikcdaaGreatDoor
open Go.RowKit Ev
end Go.Proofs.YtgcpgidofikcdaaGreatDoor

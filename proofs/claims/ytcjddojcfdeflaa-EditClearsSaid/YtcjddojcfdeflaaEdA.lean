/-
  Contracts of package edit, 1: the blocks of a node, each as a row of its own; a pool over more words than it has blocks.
-/
import Derived.Test.YtcjddojcfdeflaaImMR
import Derived.Test.YtcjddojcfdeflaaPbAI
set_option linter.unusedSimpArgs false
set_option linter.unusedVariables false
namespace Go.Proofs.Ytcjddojcfdeflaa
open Go.RowKit Ev
/-- the numbers of the blocks of runs -/
def runN (r : Int × Int) (i : Nat) : List Nat := (List.range i).map fun j => r.1.toNat + j
def blkN (R : List (Int × Int)) : List Nat := R.flatMap fun r => runN r r.2.toNat
theorem runN_succ (r : Int × Int) (i : Nat) : runN r (i + 1) = runN r i ++ [r.1.toNat + i] := by simp [runN, List.range_succ]
theorem runN_len (r : Int × Int) (i : Nat) : (runN r i).length = i := by simp [runN]
theorem blkN_take {R : List (Int × Int)} {k : Nat} {r : Int × Int} (h : R[k]? = some r) : blkN (R.take (k + 1)) = blkN (R.take k) ++ runN r r.2.toNat := by
  unfold blkN
  rw [List.take_add_one, h]
  simp
theorem blkN_len : ∀ R : List (Int × Int), (blkN R).length = lenR R
  | [] => rfl
  | r :: R => by
    have ih := blkN_len R
    unfold blkN lenR at *
    simp [runN_len, ih]
/-- rows that are these blocks -/
def FA (x : V) (n : Nat) (L : List (BitVec 64)) (As : List Nat) (vs : List V) : Prop := vs.length = As.length ∧ ∀ (j : Nat) v a, vs[j]? = some v → As[j]? = some a → CapOk v ∧ ∀ s' : St, RdRow s' x 1 (8 * n) (wv L) → RdRow s' v 1 8 (wv (blkW L a))
theorem FA.snoc {x : V} {n : Nat} {L : List (BitVec 64)} {As : List Nat} {vs : List V} (h : FA x n L As vs) {v : V} {a : Nat} (hc : CapOk v) (hv : ∀ s' : St, RdRow s' x 1 (8 * n) (wv L) → RdRow s' v 1 8 (wv (blkW L a))) : FA x n L (As ++ [a]) (vs ++ [v]) := by
  obtain ⟨h1, h2⟩ := h
  refine ⟨by simp [h1], fun j w b hw hb => ?_⟩
  by_cases hj : j < vs.length
  · rw [List.getElem?_append_left hj] at hw
    rw [List.getElem?_append_left (by omega)] at hb
    exact h2 j w b hw hb
  · rw [List.getElem?_append_right (by omega)] at hw hb
    have h0 : j - vs.length = 0 := by
      have := lt_of_get hw
      simp at this
      omega
    rw [h0] at hw
    rw [show j - As.length = 0 by omega] at hb
    simp at hw hb
    subst hw hb
    exact ⟨hc, hv⟩
def okBk (g : Gm) (R : List (Int × Int)) : Prop := ∀ r ∈ R, 0 ≤ r.1 ∧ 0 ≤ r.2 ∧ r.1 + r.2 ≤ g.b
def ebkB (st : St) (g : Gm) (x y z : V) (L : List (BitVec 64)) (R : List (Int × Int)) (As : List Nat) (vs : List V) (k : Nat) (e : Env) (s : St) : Prop := e.get 2 = some (.p st.nx 0) ∧ e.get 5 = some y ∧ e.get 10 = some z ∧ e.get 11 = some (.int .i64 (R.length : Int)) ∧ e.get 12 = some (.int .i64 (k : Int)) ∧ s.h.get st.nx = some (.cs 47 5 (((((T.lf.set 0 (V.int .i64 g.b)).set 1 (V.int .i64 g.n)).set 2 (V.int .i64 g.c)).set 3 (V.int .i64 g.k)).set 4 x)) ∧ st.nx + 2 ≤ s.nx ∧ Ext st.nx st s ∧ OwnRow (st.nx + 2) s y 1 vs.length vs ∧ FA x g.b.toNat L As vs
def ebkO (st : St) (g : Gm) (x z : V) (L : List (BitVec 64)) (R : List (Int × Int)) (e : Env) (s : St) : Prop := ∃ (k : Nat) (vs : List V) (y : V), k ≤ R.length ∧ ebkB st g x y z L R (blkN (R.take k)) vs k e s
def ebkI (st : St) (g : Gm) (x z : V) (L : List (BitVec 64)) (R : List (Int × Int)) (k : Nat) (r : Int × Int) (q : Nat) (e : Env) (s : St) : Prop := ∃ (i : Nat) (vs : List V) (y : V), i ≤ r.2.toNat ∧ ebkB st g x y z L R (blkN (R.take k) ++ runN r i) vs k e s ∧ e.get 7 = some (.p q 0) ∧ e.get 17 = some (.int .i64 r.2) ∧ e.get 18 = some (.int .i64 (i : Int)) ∧ (∃ t, s.h.get q = some (.cs 87 2 t) ∧ t.get 0 = some (.int .i64 r.1)) ∧ q < s.nx ∧ ∀ o ln, y ≠ .sg q o ln 1
set_option maxRecDepth 20000 in
set_option maxHeartbeats 4000000 in
theorem pnewM_any (st : St) (g : Gm) (hg : isGood g) (x : V) (L : List (BitVec 64)) (m : Nat) (hm : (g.b.toNat + 63) / 64 ≤ m) (hm2 : m ≤ 100000) (hx : RdRow st x 1 m (wv L)) (nt : Nat) :
    Gd (callL Try.prog ⟨false, [], 0, nt⟩ 51 [gV g, .g [x]] st) fun r => ∃ q z, r.1 = .t [.p q 0, .int .i64 0] ∧ PoolAt r.2 q g z m L ∧ st.nx ≤ q ∧ RowFrom st.nx z ∧ Ext st.nx st r.2 := by
  rw [Gd_callL Try.func51 rfl]
  have e0 := box_ext st g
  have hs4 := hg.1
  obtain ⟨h1, h2, h3, h4, h5, h6, h7, h8⟩ := hs4
  have hone := hx.one
  obtain ⟨n, hn⟩ : ∃ n : Nat, g.b = (n : Int) := ⟨g.b.toNat, by omega⟩
  have hnt : g.b.toNat = n := by omega
  rw [hnt] at hm
  have hmn : ¬ (m : Int) < ((n : Int) + 63) / 64 := by omega
  have q1 : ¬ st.nx + 1 = st.nx := by omega
  have e1 := e0.new (Nat.le_succ _) (.cs 49 1 (sets [x] 0 .lf))
  simp [gV, evOp_call, sets, T.get_set, cellsOf, newC_is, loadE_eq, getC_eq, getsB_succ, getsB_zero, q1]
  refine Gd.mono (good_any _ [] (fun _ _ => rfl) 0 (Nat.zero_le _) g _) ?_
  rintro ⟨r, s1⟩ ⟨hr, x1⟩
  simp only at hr x1
  subst hr
  have b1 : st.nx + 2 ≤ s1.nx := x1.le
  have k0 : s1.h.get st.nx = some (.cs 45 4 ((((T.lf.set 0 (.int .i64 g.b)).set 1 (.int .i64 g.n)).set 2 (.int .i64 g.c)).set 3 (.int .i64 g.k))) := by
    rw [x1.keep st.nx (by show st.nx < st.nx + 1 + 1; omega)]
    exact (T.get_set_ne (n := st.nx + 1) (m := st.nx) _ _ (by omega)).trans (T.get_set_same _ _ _)
  have k1 : s1.h.get (st.nx + 1) = some (.cs 49 1 (sets [x] 0 .lf)) := by
    rw [x1.keep (st.nx + 1) (by show st.nx + 1 < st.nx + 1 + 1; omega)]; exact T.get_set_same _ _ _
  have ex1 : Ext st.nx st s1 := e1.trans (x1.mono (by show st.nx ≤ st.nx + 1 + 1; omega))
  have hx1 := hx.ext ex1
  have w1 : IntKind.i64.wrap ((n : Int) + 64) = (n : Int) + 64 := wrap_in (by omega) (by omega)
  have w2 : IntKind.i64.wrap ((n : Int) + 64 - 1) = (n : Int) + 64 - 1 := wrap_in (by omega) (by omega)
  have w3 : ((n : Int) + 64 - 1).tdiv 64 = (((n + 63) / 64 : Nat) : Int) := by rw [Int.tdiv_eq_ediv_of_nonneg (by omega)]; omega
  have w5 : IntKind.i64.wrap (((n : Int) + 63) / 64) = ((n : Int) + 63) / 64 := wrap_in (by omega) (by omega)
  simp [hg, evOp_call, sets, T.get_set, tupK, cellsOf, newC_is, loadE_eq, getC_eq, getsB_1, k0, k1, hn, hx1.lenS, w1, w2, w3, w5, hmn]
  refine ⟨by kernel_rfl, ?_⟩
  simp [hg, evOp_call, sets, T.get_set, tupK, cellsOf, newC_is, loadE_eq, getC_eq, getsB_succ, getsB_zero, k0, k1]
  rw [cxOf_callL [(st.nx, st.nx + 1)] (by kernel_rfl) (by kernel_rfl) (looseW_at 2 (.p st.nx 0) (by simp [T.get_set]) (by kernel_rfl)) (fun x hx => by simp at hx; subst hx; simp [clashes_tmp, T.get_set, blkOf]) (fun p hp => by simp at hp; subst hp; rw [isRo_cs k0]; decide)]
  have hfl : ∀ k, k ≠ st.nx → inF ([(st.nx, st.nx + 1)] ++ []) k = false := fun k hk => by simp only [List.append_nil]; rw [inF_cons, if_neg (by omega)]; rfl
  simp only [forb_nil]
  refine Gd.mono (copied_fl s1 _ (fun k hk => hfl k (by omega)) x _ _ hx1 (by omega) (fun m h => hfl m (by have := rowAt_none hx h; omega)) _) ?_
  rintro ⟨r, s2⟩ ⟨z, hr, hz, hzf, x2⟩
  simp only at hr hz hzf x2
  subst hr
  have hzone := hz.one
  have b2 := x2.le
  simp [hg, evOp_call, sets, T.get_set, tupK, cellsOf, newC_is, loadE_eq, getC_eq, getsB_succ, getsB_zero, k0, k1, hzone]
  rw [bld_pool _ _ _ _ _ _ _ _ rfl]
  simp [hg, evOp_call, sets, T.get_set, tupK, cellsOf, newC_is, hzone]
  have ex3 : Ext s2.nx s2 ⟨s2.nx + 1, s2.h.set s2.nx (.cs 112 5 (((((T.lf.set 0 (.int .i64 (n : Int))).set 1 (.int .i64 g.n)).set 2 (.int .i64 g.c)).set 3 (.int .i64 g.k)).set 4 z))⟩ := (Ext.refl _ _).new (Nat.le_refl _) _
  have ex2 : Ext st.nx st s2 := ex1.trans (x2.mono (by omega))
  exact ⟨z, ⟨Nat.lt_succ_self _, ⟨_, T.get_set_same _ _ _, by simp [T.get_set, hn], by simp [T.get_set], by simp [T.get_set], by simp [T.get_set], by simp [T.get_set]⟩, hz.ext ex3⟩, by omega, hzf.mono (by omega), ex2.trans (ex3.mono (by omega))⟩
end Go.Proofs.Ytcjddojcfdeflaa

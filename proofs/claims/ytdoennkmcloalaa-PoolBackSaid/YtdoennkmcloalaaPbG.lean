/-
  Contracts of package pool: Give, Bits.
-/
import Derived.Test.YtdoennkmcloalaaPbF
set_option linter.unusedSimpArgs false
set_option linter.unusedVariables false
namespace Go.Proofs.Ytdoennkmcloalaa
open Go.RowKit Ev
def gvI (st : St) (q m : Nat) (g : Gm) (z : V) (L : List (BitVec 64)) (f e : Nat) (y : V) (K : List Rn) (en : Env) (s : St) : Prop := ∃ j : Nat, j ≤ K.length ∧ en.get 0 = some (.p q 0) ∧ en.get 1 = some y ∧ en.get 5 = some (.int .i64 (f : Int)) ∧ en.get 6 = some (.int .i64 (e : Int)) ∧ en.get 16 = some y ∧ en.get 17 = some (.int .i64 (K.length : Int)) ∧ en.get 18 = some (.int .i64 (j : Int)) ∧ Ext st.nx st s
def gvR (st : St) (q m : Nat) (g : Gm) (L : List (BitVec 64)) (r : V × St) : Prop := r.1 = .int .i64 0 ∧ mkR st q m g L r
set_option maxRecDepth 20000 in
set_option maxHeartbeats 4000000 in
theorem give_any (st : St) (q m : Nat) (g : Gm) (z : V) (L : List (BitVec 64)) (f e : Nat) (P : P1 st q m g z L f e) (y : V) (K : List Rn) (hy : RdRow st y 2 K.length (cells K)) (hK : K.length ≤ 1) (hr : ∀ r ∈ K, (f : Int) ≤ r.1 ∧ 1 ≤ r.2 ∧ r.1 + r.2 ≤ (e : Int) ∧ nextB L false r.1 (r.1 + r.2) = none) (nt : Nat) :
    Gd (callL Try.prog ⟨false, [], 0, nt⟩ 78 [.p q 0, y] st) (gvR st q m g (setB L false (allJ K))) := by
  rw [Gd_callL Try.func78 rfl]
  have P0 := P
  obtain ⟨hg, hp, hm, hc, hf, he, hfe, he2⟩ := P
  have hwf : wantK false (some V.u) = false := rfl
  simp [evOp_call, sets, T.get_set]
  refine Gd.mono (pdata_any st q m g z L hg hp _) ?_
  rintro ⟨r, s1⟩ ⟨hr1, x1⟩
  simp only at hr1 x1
  subst hr1
  rw [he, hf]
  simp [tupK, evOp_call, sets, T.get_set, hy.lenS]
  refine Gd_loop (gvI st q m g z L f e y K) (fun en _ => muAt 18 K.length en) ?_ ?_
  · exact ⟨0, Nat.zero_le _, by simp [T.get_set], by simp [T.get_set], by simp [T.get_set], by simp [T.get_set], by simp [T.get_set], by simp [T.get_set], by simp [T.get_set], x1⟩
  rintro en s ⟨j, hj, g0, g1, g5, g6, g16, g17, g18, hs⟩
  have hys := hy.ext hs
  have hps := hp.ext hs
  have hps0 := hps
  obtain ⟨hq, ⟨t, ht, t0, t1, t2, t3, t4⟩, hrz⟩ := hps
  have hLm : L.length = m := by have := hrz.1; simpa using this
  have hrL : RdRow s z 1 L.length (wv L) := by rw [hLm]; exact hrz
  by_cases hlt : j < K.length
  · have hlt' : (j : Int) < K.length := by omega
    obtain ⟨⟨a, n⟩, hrr⟩ : ∃ r, K[j]? = some r := ⟨_, List.getElem?_eq_getElem hlt⟩
    obtain ⟨h1, h2, h3, h4⟩ := hr _ (List.mem_of_getElem? hrr)
    simp only at h1 h2 h3 h4
    obtain ⟨m1, o1, ty1, sz1, tr1, i1, b1, k1, l1, c1⟩ := hys.idx (st := s) un39 io47 hlt
    have d0 : tr1.get o1 = some (.int .i64 a) := by simpa using c1 0 _ (by omega) (cells_get K j _ hrr).1
    have d1 : tr1.get (o1 + 1) = some (.int .i64 n) := by simpa using c1 1 _ (by omega) (cells_get K j _ hrr).2
    have e1 : ¬ n < 1 := by omega
    have e2 : ¬ a < (f : Int) := by omega
    have e3 : ¬ (e : Int) ≤ a := by omega
    have e4 : ¬ (e : Int) - a < n := by omega
    have w1 : IntKind.i64.wrap ((e : Int) - a) = (e : Int) - a := wrap_in (by omega) (by omega)
    have w2 : IntKind.i64.wrap (a + n) = a + n := wrap_in (by omega) (by omega)
    have hwj := wrap_nat (n := j) (by omega)
    have nq : ¬ s.nx = q := by omega
    simp [evOp_call, T.get_set, g0, g1, g5, g6, g16, g17, g18, hlt', i1, loadE_eq, getC_eq, getsB_succ, getsB_zero, k1, d0, d1, newC_is, storeK_g, putB_eq, roT, sets, e1, e2, e3, e4, w1, hwf]
    refine ⟨by kernel_rfl, ?_⟩
    simp [evOp_call, T.get_set, g0, g1, g5, g6, g16, g17, g18, loadE_eq, getC_eq, getsB_succ, getsB_zero, nq, ht, t4, w2]
    rw [cxOf_call (by kernel_rfl) (by kernel_rfl), forb_nil]
    refine Gd.mono (next_any _ z L (hrL.ext ((Ext.refl _ _).new (Nat.le_refl _) _)) (by omega) false a (a + n) (by omega) _) ?_
    rintro ⟨r, s2⟩ ⟨hr2, x2⟩
    simp only at hr2 x2
    subst hr2
    rw [h4]
    have hs2 : Ext st.nx st s2 := (hs.new hs.le _).trans (x2.mono (by show st.nx ≤ s.nx + 1; have := hs.le; omega))
    simp [nextV, tupK, evOp_call, T.get_set, g0, g1, g5, g6, g16, g17, g18, hwj]
    exact ⟨⟨j + 1, by omega, by simp [T.get_set, g0], by simp [T.get_set, g1], by simp [T.get_set, g5], by simp [T.get_set, g6], by simp [T.get_set, g16], by simp [T.get_set, g17], by simp [T.get_set], hs2⟩, muAt_lt g18 (by simp [T.get_set]) hlt⟩
  · obtain rfl : j = K.length := by omega
    have hKc : K.filter cnt = K := List.filter_eq_self.2 fun r hr0 => by
      obtain ⟨h1, h2, h3, h4⟩ := hr r hr0
      unfold cnt; simp; omega
    simp [evOp_call, T.get_set, g0, g1, g5, g6, g16, g17, g18]
    refine Gd.mono (apart1_any s y K hys hK hKc _) ?_
    rintro ⟨r, s2⟩ ⟨hr2, x2⟩
    simp only at hr2 x2
    subst hr2
    have hs2 : Ext st.nx st s2 := hs.trans (x2.mono hs.le)
    simp [evOp_call, T.get_set, g0, g1, g5, g6, g16, g17, g18]
    refine Gd.mono (mark_any s2 q m g z L (hps0.ext x2) hm false y K (hys.ext x2) ⟨by omega, fun r hr0 => by
      obtain ⟨h1, h2, h3, h4⟩ := hr r hr0
      omega⟩ _) ?_
    rintro ⟨r, s3⟩ ⟨z', hp3, hle, hk, hx3, hz3⟩
    have hl2 := hs2.le
    simp [evOp_call, sets, T.get_set]
    exact ⟨rfl, z', hp3, Nat.le_trans hl2 hle, fun k h1 h2 => (hk k (by omega) h2).trans (hs2.keep k h1), (hs2.mono (by have := hp.1; omega)).trans hx3, hz3⟩
set_option maxRecDepth 20000 in
set_option maxHeartbeats 4000000 in
theorem pbits_any (st : St) (q m : Nat) (g : Gm) (z : V) (L : List (BitVec 64)) (hp : PoolAt st q g z m L) (hm : m ≤ 100000) (nt : Nat) :
    Gd (callL Try.prog ⟨false, [], 0, nt⟩ 80 [.p q 0] st) fun r => ∃ y, r.1 = .g [y] ∧ RdRow r.2 y 1 m (wv L) ∧ (∀ b, rowIn y b → st.nx ≤ b) ∧ Ext st.nx st r.2 := by
  rw [Gd_callL Try.func80 rfl]
  obtain ⟨hq, ⟨t, ht, t0, t1, t2, t3, t4⟩, hr⟩ := hp
  have nq : ¬ st.nx = q := by omega
  have x0 : ∀ v, Ext st.nx st ⟨st.nx + 1, st.h.set st.nx v⟩ := fun v => (Ext.refl _ _).new (Nat.le_refl _) v
  simp [evOp_call, sets, T.get_set, newC_is, loadE_eq, getC_eq, getsB_succ, getsB_zero, ht, t4, nq]
  refine Gd.mono (copied_any _ z m (wv L) (hr.ext (x0 _)) (by omega) _) ?_
  rintro ⟨r, s1⟩ ⟨y, hr1, hy, hyf, x1⟩
  simp only at hr1 hy hyf x1
  subst hr1
  have hl1 : st.nx + 1 ≤ s1.nx := x1.le
  have hyone := hy.one
  have k1 : s1.h.get st.nx = _ := (x1.keep st.nx (Nat.lt_succ_self _)).trans (T.get_set_same _ _ _)
  have hs1 : Ext st.nx st s1 := (x0 _).trans (x1.mono (Nat.le_succ _))
  simp [evOp_call, sets, T.get_set, newC_is, loadE_eq, getC_eq, getsB_succ, getsB_zero, k1, storeK_g, putB_eq, roT, hyone]
  exact ⟨hy.setOther (k := st.nx) (fun o l z' e => by have h := hyf.1 _ _ _ _ e; have h2 : st.nx + 1 ≤ st.nx := h; omega) (fun o l q' e => by have h := hyf.2 _ _ _ _ e; have h2 : st.nx + 1 ≤ st.nx := h; omega) _, fun b hb => (by
    rcases hb with ⟨_, _, _, e⟩ | ⟨_, _, _, e⟩
    · have h := hyf.2 _ _ _ _ e; have h2 : st.nx + 1 ≤ b := h; omega
    · have h := hyf.1 _ _ _ _ e; have h2 : st.nx + 1 ≤ b := h; omega), hs1.set (m := st.nx) (Nat.le_refl _) (by omega) _⟩
end Go.Proofs.Ytdoennkmcloalaa

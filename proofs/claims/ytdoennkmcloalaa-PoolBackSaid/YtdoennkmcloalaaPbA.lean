/-
  Contracts of package pool: data, gaps, Free.
-/
import Derived.Test.YtdoennkmcloalaaPbR
set_option linter.unusedSimpArgs false
set_option linter.unusedVariables false
namespace Go.Proofs.Ytdoennkmcloalaa
open Go.RowKit Ev
set_option maxRecDepth 20000 in
set_option maxHeartbeats 4000000 in
theorem pdata_any (st : St) (q m : Nat) (g : Gm) (z : V) (L : List (BitVec 64)) (hg : isGood g) (hp : PoolAt st q g z m L) (nt : Nat) :
    Gd (callL Try.prog ⟨false, [], 0, nt⟩ 153 [.p q 0] st) fun r => r.1 = .t [.int .i64 (dF g), .int .i64 (dF g + dN g)] ∧ Ext st.nx st r.2 := by
  rw [Gd_callL Try.func153 rfl]
  obtain ⟨hq, ⟨t, ht, t0, t1, t2, t3, t4⟩, hr⟩ := hp
  have hs4 := hg.1
  obtain ⟨h1, h2, h3, h4, h5, h6, h7, h8⟩ := hs4
  obtain ⟨b1, b2, b3, b4, b5, b6, b7⟩ := grp_bd hg (c := 0) (by omega) (by omega)
  simp [evOp_call, sets, T.get_set, loadE_eq, getC_eq, ht, t0, t1, t2, t3, t4, getsB_succ, getsB_zero]
  refine Gd.mono (gdata_any st [] (fun _ _ => rfl) 0 (Nat.zero_le _) g _) ?_
  rintro ⟨r, s1⟩ ⟨hr1, x1⟩
  simp only at hr1 x1
  subst hr1
  have w1 : IntKind.i64.wrap (dF g + dN g) = dF g + dN g := wrap_in (by omega) (by omega)
  simp [at2, hg, tupK, evOp_call, sets, T.get_set, w1]
  exact x1
/-- one gap or none: from a on -/
def gapsC (L : List (BitVec 64)) (f e : Nat) : List Rn → Prop := fun K => (K = [] ∧ nextB L false (f : Int) (e : Int) = none) ∨ (∃ a : Nat, K = [((a : Int), (e : Int) - (a : Int))] ∧ f ≤ a ∧ a < e ∧ nextB L false (f : Int) (e : Int) = some a ∧ nextB L true (a : Int) (e : Int) = none ∧ nextB L false (e : Int) (e : Int) = none)
def gapI (st : St) (q m : Nat) (g : Gm) (z : V) (L : List (BitVec 64)) (f e : Nat) (K : List Rn) (en : Env) (s : St) : Prop := en.get 0 = some (.p q 0) ∧ en.get 5 = some (.int .i64 (e : Int)) ∧ PoolAt s q g z m L ∧ Ext st.nx st s ∧
  ((en.get 4 = some (.int .i64 (f : Int)) ∧ en.get 3 = some (.c (.slice none 0 0))) ∨ (nextB L false (e : Int) (e : Int) = none ∧ en.get 4 = some (.int .i64 (e : Int)) ∧ ∃ y, en.get 3 = some y ∧ OwnRow st.nx s y 2 K.length (cells K)))
def gapR (st : St) (K : List Rn) (r : V × St) : Prop := OwnRow st.nx r.2 r.1 2 K.length (cells K) ∧ Ext st.nx st r.2
set_option maxRecDepth 20000 in
set_option maxHeartbeats 4000000 in
theorem gaps_any (st : St) (q m : Nat) (g : Gm) (z : V) (L : List (BitVec 64)) (hg : isGood g) (hp : PoolAt st q g z m L) (hm : m ≤ 100000) (f e : Nat) (hf : dF g = (f : Int)) (he : dF g + dN g = (e : Int)) (hfe : f < e) (he2 : e ≤ 100000) (K : List Rn) (hK : gapsC L f e K) (nt : Nat) :
    Gd (callL Try.prog ⟨false, [], 0, nt⟩ 155 [.p q 0] st) (gapR st K) := by
  rw [Gd_callL Try.func155 rfl]
  simp [evOp_call, sets, T.get_set]
  refine Gd.mono (pdata_any st q m g z L hg hp _) ?_
  rintro ⟨r, s1⟩ ⟨hr1, x1⟩
  simp only at hr1 x1
  subst hr1
  rw [he, hf]
  simp [tupK, evOp_call, sets, T.get_set]
  refine Gd_loop (gapI st q m g z L f e K) (fun en _ => muAt 4 e en) ?_ ?_
  · exact ⟨by simp [T.get_set], by simp [T.get_set], hp.ext x1, x1, .inl ⟨by simp [T.get_set], by simp [T.get_set]⟩⟩
  · rintro en s ⟨g0, g5, hpp, hx, hc⟩
    have hpp0 := hpp
    obtain ⟨hq, ⟨t, ht, t0, t1, t2, t3, t4⟩, hr⟩ := hpp
    have hLm : L.length = m := by have := hr.1; simpa using this
    have hrL : RdRow s z 1 L.length (wv L) := by rw [hLm]; exact hr
    rcases hc with ⟨g4, g3⟩ | ⟨hn0, g4, y, g3, hy⟩
    · simp [evOp_call, T.get_set, g0, g3, g4, g5, loadE_eq, getC_eq, ht, t0, t1, t2, t3, t4, getsB_succ, getsB_zero]
      refine Gd.mono (next_any s z L hrL (by omega) false (f : Int) (e : Int) (by omega) _) ?_
      rintro ⟨r, s2⟩ ⟨hr2, x2⟩
      simp only at hr2 x2
      subst hr2
      rcases hK with ⟨rfl, hn⟩ | ⟨a, rfl, hfa, hae, hn1, hn2, hn3⟩
      · rw [hn]
        simp [nextV, tupK, evOp_call, T.get_set, g0, g3, g4, g5]
        exact ⟨OwnRow.nil _ _ _, hx.trans (x2.mono hx.le)⟩
      · rw [hn1]
        have ht2 := (x2.keep _ hq).trans ht
        simp [nextV, tupK, evOp_call, T.get_set, g0, g3, g4, g5, loadE_eq, getC_eq, ht2, t4, getsB_succ, getsB_zero]
        refine Gd.mono (next_any s2 z L (hrL.ext x2) (by omega) true (a : Int) (e : Int) (by omega) _) ?_
        rintro ⟨r, s3⟩ ⟨hr3, x3⟩
        simp only at hr3 x3
        subst hr3
        rw [hn2]
        have w1 : IntKind.i64.wrap ((e : Int) - (a : Int)) = (e : Int) - (a : Int) := wrap_in (by omega) (by omega)
        simp [nextV, tupK, evOp_call, T.get_set, g0, g3, g4, g5, w1]
        refine evOp_build1 (v := .g [.int .i64 (a : Int), .int .i64 ((e : Int) - (a : Int))]) (cs := [.int .i64 (a : Int), .int .i64 ((e : Int) - (a : Int))]) (fun k => el39 k) (fun k => ze47 k) rfl (by omega) (by simp [T.get_set]) (fun k => rfl) rfl ?_
        simp [evOp_call, T.get_set, g0, g3, g4, g5]
        have hb := hx.le
        have hb2 := x2.le
        have hb3 := x3.le
        refine Gd_append_nil (b := st.nx) un39 un39 io47 (lx := 1) (new := [.int .i64 (a : Int), .int .i64 ((e : Int) - (a : Int))]) (by show st.nx ≤ s3.nx + 1; omega) (by decide) (fun s' h => by cases h) (fun k => rfl) (fun k => by simp [getC_eq, getsB_2, T.get_set, sets]) rfl (by omega) ?_
        intro y s4 hy x4 _
        have hx3 : Ext st.nx st s3 := (hx.trans (x2.mono hb)).trans (x3.mono (by omega))
        have hx4 : Ext st.nx st s4 := (hx3.new hx3.le _).trans (x4.mono (by show st.nx ≤ s3.nx + 1; omega))
        have hp4 : PoolAt s4 q g z m L := (((hpp0.ext x2).ext x3).ext ((Ext.refl _ _).new (Nat.le_refl _) _)).ext x4
        simp [evOp_call, T.get_set, g0, g3, g4, g5]
        exact ⟨⟨by simp [T.get_set, g0], by simp [T.get_set, g5], hp4, hx4, .inr ⟨hn3, by simp [T.get_set], y, by simp [T.get_set], hy⟩⟩, by rw [muAt_eq g4, muAt_eq (k := (e : Int)) (i := .i64) (by simp [T.get_set])]; omega⟩
    · simp [evOp_call, T.get_set, g0, g3, g4, g5, loadE_eq, getC_eq, ht, t0, t1, t2, t3, t4, getsB_succ, getsB_zero]
      refine Gd.mono (next_any s z L hrL (by omega) false (e : Int) (e : Int) (by omega) _) ?_
      rintro ⟨r, s2⟩ ⟨hr2, x2⟩
      simp only at hr2 x2
      subst hr2
      rw [hn0]
      simp [nextV, tupK, evOp_call, T.get_set, g0, g3, g4, g5]
      exact ⟨hy.ext x2, hx.trans (x2.mono hx.le)⟩
set_option maxRecDepth 20000 in
set_option maxHeartbeats 4000000 in
theorem pfree_any (st : St) (q m : Nat) (g : Gm) (z : V) (L : List (BitVec 64)) (hg : isGood g) (hp : PoolAt st q g z m L) (hm : m ≤ 100000) (f e : Nat) (hf : dF g = (f : Int)) (he : dF g + dN g = (e : Int)) (hfe : f < e) (he2 : e ≤ 100000) (K : List Rn) (hK : gapsC L f e K) (nt : Nat) :
    Gd (callL Try.prog ⟨false, [], 0, nt⟩ 79 [.p q 0] st) fun r => r.1 = .int .i64 (lens K) ∧ Ext st.nx st r.2 := by
  rw [Gd_callL Try.func79 rfl]
  have hKl : K.length ≤ 1 := by rcases hK with ⟨rfl, _⟩ | ⟨a, rfl, _⟩ <;> simp
  have hKc : K.filter cnt = K := by
    rcases hK with ⟨rfl, _⟩ | ⟨a, rfl, h1, h2, _⟩
    · rfl
    · have : cnt ((a : Int), (e : Int) - (a : Int)) = true := by unfold cnt; simp; omega
      simp [List.filter, this]
  have hKs : lens K ≤ 9223372036854775807 := by
    rcases hK with ⟨rfl, _⟩ | ⟨a, rfl, h1, h2, _⟩
    · decide
    · simp [lens]; omega
  simp [evOp_call, sets, T.get_set]
  refine Gd.mono (gaps_any st q m g z L hg hp hm f e hf he hfe he2 K hK _) ?_
  rintro ⟨y, s1⟩ ⟨hy, x1⟩
  simp only at hy x1
  simp [evOp_call, sets, T.get_set]
  refine Gd.mono (total_any s1 y K _ hy.rd (by omega) (by rw [hKc]; exact hKs)) ?_
  rintro ⟨r, s2⟩ ⟨hr, x2⟩
  simp only at hr x2
  subst hr
  rw [hKc]
  simp [evOp_call, sets, T.get_set]
  exact x1.trans (x2.mono x1.le)
end Go.Proofs.Ytdoennkmcloalaa

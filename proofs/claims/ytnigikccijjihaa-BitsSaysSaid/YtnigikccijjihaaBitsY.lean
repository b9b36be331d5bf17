/-
  BitsSays' walk.
-/
import Derived.Test.YtnigikccijjihaaBitsS
set_option linter.unusedSimpArgs false
namespace Go.Proofs.Ytnigikccijjihaa
open Go.RowKit Ev
@[simp] theorem fdBits (y : V) (k : V → Res) : fldK Try.prog 103 0 (.g [y]) k = k y := by kernel_rfl
def nextR (r : Option Nat) : V × V := match r with
  | some i => (.int .i64 (i : Int), .bool true)
  | none => (.int .i64 0, .bool false)
theorem nextV_eq (r : Option Nat) : ∃ (a : Int) (b : Bool), nextV r = .t [.int .i64 a, .bool b] := by
  cases r with
  | none => exact ⟨_, _, rfl⟩
  | some i => exact ⟨_, _, rfl⟩
theorem freeV_eq (r : Option Int) : ∃ (a : Int) (b : Bool), freeV r = .t [.int .i64 a, .bool b] := by
  cases r with
  | none => exact ⟨_, _, rfl⟩
  | some i => exact ⟨_, _, rfl⟩
set_option maxRecDepth 20000 in
set_option maxHeartbeats 4000000 in
theorem g_BitsSays (st : St) (v w : V) (L : List (BitVec 64)) (l : List Int) (yes : Bool) (f e n : Int) (hx : RdRow st v 1 L.length (wv L)) (hy : RdRow st w 1 l.length (iv l)) (hl : ∀ i ∈ l, -9223372036854775808 ≤ i ∧ i ≤ 9223372036854775807) (hf : -9223372036854775808 ≤ f ∧ f ≤ 9223372036854775807) :
    Gd (lawC Try.prog 88 ⟨false, [], 0, 0⟩ 17 [v, .bool yes, w, .int .i64 f, .int .i64 e, .int .i64 n] st) fun r => r.1 = .bool true := by
  rw [Gd_lawC Try.func17 rfl]
  have hone := hx.one
  by_cases h6 : (8 : Int) < L.length
  · simp [evOp_call, sets, T.get_set, hx.lenS, hy.lenS, h6]
  · by_cases h30 : (30 : Int) < l.length
    · simp [evOp_call, sets, T.get_set, hx.lenS, hy.lenS, h6, h30]
    · have hL5 : L.length ≤ 100000 := by omega
      have hl5 : l.length ≤ 100000 := by omega
      have e0 : Ext st.nx st ⟨st.nx + 1, st.h.set st.nx (.cs 103 1 (T.lf.set 0 v))⟩ := (Ext.refl _ _).new (Nat.le_refl _) _
      simp [evOp_call, sets, T.get_set, hx.lenS, hy.lenS, h6, h30, hone, cellsOf, newC_is, storeK_g, putB_eq, roT, loadE_eq, getC_eq, getsB_1, oracF_cons]
      refine Gd.mono (next_any _ v L (hx.ext e0) hL5 yes f e hf _) ?_
      rintro ⟨r, s1⟩ ⟨hr, e1⟩
      simp only at hr e1
      obtain ⟨a1, c1, hn1⟩ := nextV_eq (nextB L yes f e)
      have hn1' := hn1
      rw [hn1] at hr
      subst hr
      have x1 : Ext st.nx st s1 := e0.trans (e1.mono (Nat.le_succ _))
      have q1 : s1.h.get st.nx = some (.cs 103 1 (T.lf.set 0 v)) := (e1.keep _ (Nat.lt_succ_self _)).trans (T.get_set_same _ _ _)
      have b1 : st.nx < s1.nx := e1.le
      simp [evOp_call, sets, T.get_set, hx.lenS, hy.lenS, cellsOf, loadE_eq, getC_eq, getsB_1, oracF_cons, q1]
      refine Gd.mono (rnext_any s1 v L (hx.ext x1) hL5 yes f e hf _) ?_
      rintro _ rfl
      rw [hn1']
      simp [evOp_call, sets, T.get_set, cellsOf, loadE_eq, getC_eq, getsB_1, oracF_cons, q1]
      refine Gd.mono (free_any s1 v L (hx.ext x1) hL5 f e n hf _) ?_
      rintro ⟨r, s2⟩ ⟨hr, e2⟩
      simp only at hr e2
      obtain ⟨a2, c2, hn2⟩ := freeV_eq (freeB L f e n)
      have hn2' := hn2
      rw [hn2] at hr
      subst hr
      have x2 : Ext st.nx st s2 := x1.trans (e2.mono x1.le)
      have q2 : s2.h.get st.nx = some (.cs 103 1 (T.lf.set 0 v)) := (e2.keep _ b1).trans q1
      have b2 : st.nx < s2.nx := Nat.lt_of_lt_of_le b1 e2.le
      simp [evOp_call, sets, T.get_set, cellsOf, loadE_eq, getC_eq, getsB_1, oracF_cons, q2]
      refine Gd.mono (rfree_any s2 v L (hx.ext x2) hL5 f e n hf _) ?_
      rintro _ rfl
      rw [hn2']
      simp [evOp_call, sets, T.get_set, cellsOf, loadE_eq, getC_eq, getsB_1, oracF_cons, q2]
      refine Gd.mono (set_any s2 v w L (hx.ext x2) hL5 yes l (hy.ext x2) hl5 hl _) ?_
      rintro ⟨r, s3⟩ ⟨y, hr, hry, e3⟩
      simp only at hr hry e3
      subst hr
      have hyone := hry.one
      have x3 : Ext st.nx st s3 := x2.trans (e3.mono x2.le)
      have q3 : s3.h.get st.nx = some (.cs 103 1 (T.lf.set 0 v)) := (e3.keep _ b2).trans q2
      have b3 : st.nx < s3.nx := Nat.lt_of_lt_of_le b2 e3.le
      simp [evOp_call, sets, T.get_set, cellsOf, loadE_eq, getC_eq, getsB_1, oracF_cons, q3]
      refine Gd.mono (rset_any s3 v w L (hx.ext x3) hL5 yes l (hy.ext x3) hl5 _) ?_
      rintro ⟨z, s4⟩ ⟨hrz, e4⟩
      simp only at hrz e4
      have x4 : Ext st.nx st s4 := x3.trans (e4.mono x3.le)
      have q4 : s4.h.get st.nx = some (.cs 103 1 (T.lf.set 0 v)) := (e4.keep _ b3).trans q3
      have b4 : st.nx < s4.nx := Nat.lt_of_lt_of_le b3 e4.le
      have hsl := setB_length yes l L
      simp [evOp_call, sets, T.get_set, cellsOf, loadE_eq, getC_eq, getsB_1, oracF_cons, q4]
      refine Gd.mono (sameB_any s4 y z (setB L yes l) (setB L yes l) (by rw [hsl]; exact hry.ext e4) (by rw [hsl]; exact hrz) (by omega) _) ?_
      rintro _ rfl
      simp [evOp_call, sets, T.get_set, cellsOf, loadE_eq, getC_eq, getsB_1, oracF_cons, q4]
      refine Gd.mono (count_any s4 v L (hx.ext x4) hL5 _) ?_
      rintro ⟨r, s5⟩ ⟨hr, e5⟩
      simp only at hr e5
      subst hr
      have x5 : Ext st.nx st s5 := x4.trans (e5.mono x4.le)
      have q5 : s5.h.get st.nx = some (.cs 103 1 (T.lf.set 0 v)) := (e5.keep _ b4).trans q4
      have b5 : st.nx < s5.nx := Nat.lt_of_lt_of_le b4 e5.le
      simp [evOp_call, sets, T.get_set, cellsOf, loadE_eq, getC_eq, getsB_1, oracF_cons, q5]
      refine Gd.mono (rcount_any s5 v L (hx.ext x5) hL5 _) ?_
      rintro _ rfl
      simp [evOp_call, sets, T.get_set, cellsOf, loadE_eq, getC_eq, getsB_1, oracF_cons, q5]
      refine Gd.mono (bhas_any s5 v L (hx.ext x5) f hf _) ?_
      rintro ⟨r, s6⟩ ⟨hr, e6⟩
      simp only at hr e6
      subst hr
      simp [evOp_call, sets, T.get_set, cellsOf, loadE_eq, getC_eq, getsB_1, oracF_cons, q5]
      refine Gd.mono (rhas_any s6 v L ((hx.ext x5).ext e6) hL5 f hf _) ?_
      rintro _ rfl
      simp [evOp_call, sets, T.get_set, cellsOf, loadE_eq, getC_eq, getsB_1, oracF_cons, q5]
/-- whatever came in -/
theorem w_BitsSays (L0 : List Int) (yes : Bool) (l : List Int) (f e n : Int) (W : World) (x : Value) (hx : InRow W x 1 L0.length (L0.map fun v => V.int .u64 v)) (hw : ∀ r ∈ L0, (Lit.int .u64 r).wf = true) (y : Value) (hy : InRow W y 1 l.length (l.map fun v => V.int .i64 v)) (hw2 : ∀ r ∈ l, (Lit.int .i64 r).wf = true)
    (hf : -9223372036854775808 ≤ f ∧ f ≤ 9223372036854775807) (_ : -9223372036854775808 ≤ e ∧ e ≤ 9223372036854775807) (_ : -9223372036854775808 ≤ n ∧ n ≤ 9223372036854775807) : Calls Try.prog 17 #[x, .bool yes, y, .int .i64 f, .int .i64 e, .int .i64 n] W fun e W' => e = .returned (.bool true) ∧ Below W.heap.size W W' := by
  obtain ⟨K, hK, hm⟩ := wv_of hw
  rw [hm, ← hK] at hx
  obtain ⟨st, ρ, v, hb, _, hv, _, hr⟩ := (Begin.zero W).row hx
  obtain ⟨st2, ρ2, w, hb2, hle, hw', he, hk⟩ := hb.row hy
  exact law_calls (lawC_sound namesOkB mixesB Try.func88 rfl bitsAwake) hb2 (.cons (Rel.mono hle _ _ hv) (.cons (rel_bool _) (.cons hw' (.cons (rel_int _ _) (.cons (rel_int _ _) (.cons (rel_int _ _) .nil)))))) (g_BitsSays st2 v w K l yes f e n (hr.ext he) hk (fun i hi => i64_bd (hw2 i hi)) hf)
end Go.Proofs.Ytnigikccijjihaa

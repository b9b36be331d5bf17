/-
  GeomMore's walk.
-/
import Derived.Test.YtnigikccijjihaaGm2
import Derived.Test.YtnigikccijjihaaIn
import Derived.Test.YtnigikccijjihaaEq
set_option linter.unusedSimpArgs false
namespace Go.Proofs.Ytnigikccijjihaa
open Go.RowKit Ev
theorem namesOkG : Ev.namesOk Try.prog = true := by kernel_rfl
theorem mixesG : Try.prog.follows .mixedOrders = true := by kernel_rfl
theorem ranGeom : Ev.yesQ Try.prog 100000 56 = true := by kernel_rfl
theorem geomAwake (W : World) : Calls Try.prog 56 #[] W fun e W' => e = .returned (.bool true) ∧ Below W.heap.size W W' := Ev.yesQ_ok namesOkG mixesG ranGeom W
/-- two geometries' boxes -/
structure G2 (st s : St) (g h : Gm) : Prop where
  k0 : s.h.get st.nx = some (.cs 56 4 ((((T.lf.set 0 (.int .i64 g.b)).set 1 (.int .i64 g.n)).set 2 (.int .i64 g.c)).set 3 (.int .i64 g.k)))
  k1 : ∃ t, s.h.get (st.nx + 1) = some (.cs 56 4 t) ∧ t.get 0 = some (.int .i64 h.b) ∧ t.get 1 = some (.int .i64 h.n) ∧ t.get 2 = some (.int .i64 h.c) ∧ t.get 3 = some (.int .i64 h.k)
  lt : st.nx + 1 < s.nx
theorem G2.ext {st s s' : St} {g h : Gm} (w : G2 st s g h) (k : Ext s.nx s s') : G2 st s' g h := by
  have := w.lt
  obtain ⟨t, h1, h2⟩ := w.k1
  exact ⟨(k.keep _ (by omega)).trans w.k0, ⟨t, (k.keep _ (by omega)).trans h1, h2⟩, Nat.lt_of_lt_of_le w.lt k.le⟩
set_option maxRecDepth 20000 in
set_option maxHeartbeats 4000000 in
theorem g_GeomMore (st : St) (g : Gm) (hb : -9223372036854775808 ≤ g.b ∧ g.b ≤ 9223372036854775807) :
    Gd (lawC Try.prog 56 ⟨false, [], 0, 0⟩ 9 [gV g] st) fun r => r.1 = .bool true := by
  rw [Gd_lawC Try.func9 rfl]
  have q1 : ¬ st.nx + 1 = st.nx := by omega
  obtain ⟨h, hh⟩ : ∃ h : Gm, h = ⟨IntKind.i64.wrap (g.b + 1), g.n, g.c, g.k⟩ := ⟨_, rfl⟩
  have gVh : V.g [V.int .i64 (IntKind.i64.wrap (g.b + 1)), V.int .i64 g.n, V.int .i64 g.c, V.int .i64 g.k] = gV h := by rw [hh]; rfl
  have gVg : V.g [V.int .i64 g.b, V.int .i64 g.n, V.int .i64 g.c, V.int .i64 g.k] = gV g := rfl
  rw [show sets [gV g] 0 T.lf = T.set .lf 0 (gV g) from rfl]
  have hcell : ∀ k : List V → Res, cellsOf (gV g) k = k [V.int .i64 g.b, V.int .i64 g.n, V.int .i64 g.c, V.int .i64 g.k] := fun k => rfl
  simp [evOp_call, sets, T.get_set, hcell, newC_is, loadE_eq, getC_eq, getsB_succ, getsB_zero, storeK_g, putB_eq, roT, oracF_cons, q1]
  rw [gVg]
  refine Gd.mono (good_any _ [] (fun _ _ => rfl) 0 (Nat.zero_le _) g _) ?_
  rintro ⟨r, s1⟩ ⟨hr, x1⟩
  simp only at hr x1
  subst hr
  have w0 : G2 st s1 g h := by
    refine G2.ext (s := ⟨st.nx + 1 + 1, _⟩) ⟨?_, ⟨(((((T.lf.set 0 (V.int .i64 g.b)).set 1 (.int .i64 g.n)).set 2 (.int .i64 g.c)).set 3 (.int .i64 g.k)).set 0 (.int .i64 (IntKind.i64.wrap (g.b + 1)))), ?_, ?_⟩, ?_⟩ x1
    · exact (T.get_set_ne _ _ q1).trans (T.get_set_same _ _ _)
    · exact T.get_set_same _ _ _
    · subst hh; simp [T.get_set]
    · show st.nx + 1 < st.nx + 1 + 1; omega
  obtain ⟨t, k1, t0, t1, t2, t3⟩ := w0.k1
  by_cases hg : isGood g
  · have hd : decide (isGood g) = true := by simpa using hg
    simp [evOp_call, T.get_set, hd, loadE_eq, getC_eq, w0.k0, k1, t0, t1, t2, t3, getsB_succ, getsB_zero, oracF_cons]
    have gVh2 : V.g [V.int .i64 h.b, V.int .i64 h.n, V.int .i64 h.c, V.int .i64 h.k] = gV h := rfl
    rw [gVh2]
    refine Gd.mono (good_any _ [] (fun _ _ => rfl) 0 (Nat.zero_le _) h _) ?_
    rintro ⟨r, s2⟩ ⟨hr, x2⟩
    simp only at hr x2
    subst hr
    by_cases hg2 : isGood h
    · have hd2 : decide (isGood h) = true := by simpa using hg2
      obtain ⟨h1, h2, h3, h4, h5, h6, h7, h8⟩ := hg.1
      obtain ⟨i1, i2, i3, i4, i5, i6, i7, i8⟩ := hg2.1
      have hckg := ck_le hg.1
      have hckh := ck_le hg2.1
      have hhb : h.b = g.b + 1 := by rw [hh]; exact wrap_in (by omega) (by omega)
      have hhn : h.n = g.n := by rw [hh]
      have hhk : h.c * h.k = g.c * g.k := by rw [hh]
      have b1 : bN g = (g.b + 511) / 512 := rfl
      have b2 : bN h = (h.b + 511) / 512 := rfl
      have n1 : dN g = g.b - 1 - (1 + g.c * g.k + bN g + g.n + g.n) := rfl
      have n2 : dN h = h.b - 1 - (1 + h.c * h.k + bN h + h.n + h.n) := rfl
      have w1 : IntKind.i64.wrap (dN h + bN h) = dN h + bN h := wrap_in (by omega) (by omega)
      have w2 : IntKind.i64.wrap (dN g + bN g) = dN g + bN g := wrap_in (by omega) (by omega)
      have w3 : IntKind.i64.wrap (dN g + bN g + 1) = dN g + bN g + 1 := wrap_in (by omega) (by omega)
      have w4 : IntKind.i64.wrap (g.b - 1 + 1) = g.b - 1 + 1 := wrap_in (by omega) (by omega)
      have w5 : g.b.tmod 512 = g.b % 512 := Int.tmod_eq_emod_of_nonneg (by omega)
      have c1 : dN h + bN h = dN g + bN g + 1 := by omega
      have c3 : h.b - 1 = g.b - 1 + 1 := by omega
      have hd0 := hd2
      have w00 := w0.ext x2
      obtain ⟨t, k1, t0, t1, t2, t3⟩ := w00.k1
      simp [evOp_call, hd2, T.get_set, loadE_eq, getC_eq, w00.k0, k1, t0, t1, t2, t3, getsB_succ, getsB_zero, oracF_cons]
      rw [gVg]
      refine Gd.mono (gdata_any s2 [] (fun _ _ => rfl) 0 (Nat.zero_le _) g _) ?_
      rintro ⟨r, s3⟩ ⟨hr, x3⟩
      simp only at hr x3
      subst hr
      have w03 := w00.ext x3
      obtain ⟨t, k1, t0, t1, t2, t3⟩ := w03.k1
      simp [evOp_call, at2, hg, hg2, T.get_set, loadE_eq, getC_eq, w03.k0, k1, t0, t1, t2, t3, getsB_succ, getsB_zero, oracF_cons]
      rw [gVh2]
      refine Gd.mono (gdata_any s3 [] (fun _ _ => rfl) 0 (Nat.zero_le _) h _) ?_
      rintro ⟨r, s4⟩ ⟨hr, x4⟩
      simp only at hr x4
      subst hr
      have w04 := w03.ext x4
      obtain ⟨t, k1, t0, t1, t2, t3⟩ := w04.k1
      simp [evOp_call, at2, hg, hg2, T.get_set, loadE_eq, getC_eq, w04.k0, k1, t0, t1, t2, t3, getsB_succ, getsB_zero, oracF_cons]
      rw [gVg]
      refine Gd.mono (gbits_any s4 [] (fun _ _ => rfl) 0 (Nat.zero_le _) g _) ?_
      rintro ⟨r, s5⟩ ⟨hr, x5⟩
      simp only at hr x5
      subst hr
      have w05 := w04.ext x5
      obtain ⟨t, k1, t0, t1, t2, t3⟩ := w05.k1
      simp [evOp_call, at2, hg, hg2, T.get_set, loadE_eq, getC_eq, w05.k0, k1, t0, t1, t2, t3, getsB_succ, getsB_zero, oracF_cons]
      rw [gVh2]
      refine Gd.mono (gbits_any s5 [] (fun _ _ => rfl) 0 (Nat.zero_le _) h _) ?_
      rintro ⟨r, s6⟩ ⟨hr, x6⟩
      simp only at hr x6
      subst hr
      have w06 := w05.ext x6
      obtain ⟨t, k1, t0, t1, t2, t3⟩ := w06.k1
      have e1 : ∀ (fl : List (Nat × Nat)), (fl = [] ∨ fl = [(st.nx, st.nx + 1)]) → ∀ k, s6.nx ≤ k → inF fl k = false := fun fl hf k hk => by
        have := w06.lt
        rcases hf with rfl | rfl
        · rfl
        · rw [inF_cons, if_neg (by omega)]; rfl
      by_cases hcc : bN h = bN g
      · have w1' : IntKind.i64.wrap (dN h + bN g) = dN g + bN g + 1 := by rw [← hcc]; rw [w1, c1, hcc]
        simp [w1', evOp_call, at2, hg, hg2, w1, w2, w3, c1, hcc, T.get_set, loadE_eq, getC_eq, w06.k0, k1, t0, t1, t2, t3, getsB_succ, getsB_zero, oracF_cons]
        refine ⟨by kernel_rfl, ?_⟩
        rw [cxOf_callL [(st.nx, st.nx + 1)] (by kernel_rfl) (by kernel_rfl) (looseW_at 1 (.p st.nx 0) (by simp [T.get_set]) (by kernel_rfl)) (fun x hx => by simp at hx; subst hx; simp [clashes_tmp, T.get_set])]
        simp only [forb_nil, List.append_nil]
        rw [gVh2]
        refine Gd.mono (gback_any s6 [(st.nx, st.nx + 1)] (e1 _ (.inr rfl)) 0 (Nat.zero_le _) h _) ?_
        rintro ⟨r, s7⟩ ⟨hr, x7⟩
        simp only at hr x7
        subst hr
        have w07 := w06.ext x7
        have l6 := w06.lt
        have hld : ∀ (b i nx' : Nat), inF ((0, st.nx) :: (st.nx + 1, nx') :: forb b (rsOf [] i s6.nx s7.nx) []) st.nx = false := fun b i nx' => inF_ld (by omega)
        simp [evOp_call, T.get_set, loadE_eq, getC_eq, w07.k0, getsB_succ, getsB_zero, oracF_cons, hld, hg2]
        rw [cxOf_call (by kernel_rfl) (by kernel_rfl), forb_rsOf (by kernel_rfl), gVg]
        refine Gd.mono (gback_any s7 [] (fun _ _ => rfl) 0 (Nat.zero_le _) g _) ?_
        rintro ⟨r, s8⟩ ⟨hr, x8⟩
        simp only at hr x8
        subst hr
        simp [evOp_call, T.get_set, hg, w4, c3]
        exact (wrap_in (by omega) (by omega)).symm
      · have h512 : g.b % 512 = 0 := by omega
        simp [evOp_call, at2, hg, hg2, w1, w2, w3, c1, hcc, w5, h512, T.get_set, loadE_eq, getC_eq, w06.k0, k1, t0, t1, t2, t3, getsB_succ, getsB_zero, oracF_cons]
        refine ⟨by kernel_rfl, ?_⟩
        rw [cxOf_callL [(st.nx, st.nx + 1)] (by kernel_rfl) (by kernel_rfl) (looseW_at 1 (.p st.nx 0) (by simp [T.get_set]) (by kernel_rfl)) (fun x hx => by simp at hx; subst hx; simp [clashes_tmp, T.get_set])]
        simp only [forb_nil, List.append_nil]
        rw [gVh2]
        refine Gd.mono (gback_any s6 [(st.nx, st.nx + 1)] (e1 _ (.inr rfl)) 0 (Nat.zero_le _) h _) ?_
        rintro ⟨r, s7⟩ ⟨hr, x7⟩
        simp only at hr x7
        subst hr
        have w07 := w06.ext x7
        have l6 := w06.lt
        have hld : ∀ (b i nx' : Nat), inF ((0, st.nx) :: (st.nx + 1, nx') :: forb b (rsOf [] i s6.nx s7.nx) []) st.nx = false := fun b i nx' => inF_ld (by omega)
        simp [evOp_call, T.get_set, loadE_eq, getC_eq, w07.k0, getsB_succ, getsB_zero, oracF_cons, hld, hg2]
        rw [cxOf_call (by kernel_rfl) (by kernel_rfl), forb_rsOf (by kernel_rfl), gVg]
        refine Gd.mono (gback_any s7 [] (fun _ _ => rfl) 0 (Nat.zero_le _) g _) ?_
        rintro ⟨r, s8⟩ ⟨hr, x8⟩
        simp only at hr x8
        subst hr
        simp [evOp_call, T.get_set, hg, w4, c3]
        exact (wrap_in (by omega) (by omega)).symm
    · have hd2 : decide (isGood h) = false := by simpa using hg2
      simp [evOp_call, T.get_set, hd2]
  · have hd : decide (isGood g) = false := by simpa using hg
    simp [evOp_call, T.get_set, hd, loadE_eq, getC_eq, w0.k0, getsB_succ, getsB_zero, oracF_cons]
theorem rel_gV (ρ : Rho) (g : Gm) : Rel ρ (gV g) (.agg #[.int .i64 g.b, .int .i64 g.n, .int .i64 g.c, .int .i64 g.k]) := by
  unfold gV
  simp only [Rel]
  exact ⟨_, rfl, .cons (rel_int _ _) (.cons (rel_int _ _) (.cons (rel_int _ _) (.cons (rel_int _ _) .nil))), rfl⟩
theorem w_GeomMore (b n c k : Int) (W : World) (hb : -9223372036854775808 ≤ b ∧ b ≤ 9223372036854775807) (_ : -9223372036854775808 ≤ n ∧ n ≤ 9223372036854775807) (_ : -9223372036854775808 ≤ c ∧ c ≤ 9223372036854775807) (_ : -9223372036854775808 ≤ k ∧ k ≤ 9223372036854775807) :
    Calls Try.prog 9 #[.agg #[.int .i64 b, .int .i64 n, .int .i64 c, .int .i64 k]] W fun e W' => e = .returned (.bool true) ∧ Below W.heap.size W W' :=
  law_calls (lawC_sound namesOkG mixesG Try.func56 rfl geomAwake) (Begin.zero W) (.cons (rel_gV _ ⟨b, n, c, k⟩) .nil) (g_GeomMore ⟨0, .lf⟩ ⟨b, n, c, k⟩ hb)
end Go.Proofs.Ytnigikccijjihaa

/-
  The law TreeApart.
-/
import Derived.Test.YtgcpgidofikcdaaDoorTmLa
import Derived.Test.YtgcpgidofikcdaaDoorTmPt
set_option linter.unusedSimpArgs false
set_option linter.unusedVariables false
namespace Go.Proofs.YtgcpgidofikcdaaDoor
open Go.RowKit Ev
def lpI (st : St) (y y1 : V) (q m n : Nat) (L : Nat) (e : Env) (s : St) : Prop := ∃ (i : Nat) (x : V) (Y Z : Nat → V) (E : Tr) (LB DB : Nat → Prop), i ≤ L ∧ e.get 0 = some y ∧ e.get 1 = some y1 ∧ e.get 5 = some (.p q 0) ∧ e.get 6 = some (.int .i64 (i : Int)) ∧ TrN st s q m n i x Y Z E LB DB
/-- three file systems: the one, what is changed, what is not -/
structure Three (st s : St) (q m n uq um vq vm a b c B : Nat) (x xv : V) (Y Z Yv Zv : Nat → V) (E : Tr) (LB DB LBv DBv : Nat → Prop) : Prop where
  t : TrG s q m n x Y Z E LB DB
  v : TrG s vq vm n xv Yv Zv E LBv DBv
  tlt : q < a ∧ m < a ∧ (∀ k, LB k → k < a) ∧ ∀ k, DB k → k < a
  vlt : (b ≤ vq ∧ vq < c) ∧ (b ≤ vm ∧ vm < c) ∧ (∀ k, LBv k → b ≤ k ∧ k < c) ∧ ∀ k, DBv k → b ≤ k ∧ k < c
  u : ∃ xu Yu Zu Eu LBu DBu, TrN st s uq um n B xu Yu Zu Eu LBu DBu ∧ (a ≤ um ∧ um < b) ∧ ∀ k, LBu k → (a ≤ k ∧ k < b) ∨ c ≤ k
  ord : a ≤ b ∧ b ≤ c ∧ c ≤ s.nx
theorem Three.more {st s s' : St} {q m n uq um vq vm a b c B : Nat} {x xv : V} {Y Z Yv Zv : Nat → V} {E : Tr} {LB DB LBv DBv : Nat → Prop} (h : Three st s q m n uq um vq vm a b c B x xv Y Z Yv Zv E LB DB LBv DBv) (k : Ext s.nx s s') : Three st s' q m n uq um vq vm a b c B x xv Y Z Yv Zv E LB DB LBv DBv := by
  obtain ⟨h1, h2, h3, h4, ⟨xu, Yu, Zu, Eu, LBu, DBu, u1, u2, u3⟩, h5⟩ := h
  have := k.le
  exact ⟨h1.ext k, h2.ext k, h3, h4, ⟨xu, Yu, Zu, Eu, LBu, DBu, u1.more k, u2, u3⟩, h5.1, h5.2.1, by omega⟩
def lqI (st : St) (y1 : V) (q m n uq um vq vm a b c B : Nat) (x xv : V) (Y Z Yv Zv : Nat → V) (E : Tr) (LB DB LBv DBv : Nat → Prop) (L : Nat) (e : Env) (s : St) : Prop := ∃ (i : Nat), i ≤ L ∧ e.get 1 = some y1 ∧ e.get 5 = some (.p q 0) ∧ e.get 7 = some (.p uq 0) ∧ e.get 8 = some (.p vq 0) ∧ e.get 9 = some (.int .i64 (i : Int)) ∧ Three st s q m n uq um vq vm a b c (B + i) x xv Y Z Yv Zv E LB DB LBv DBv
set_option maxRecDepth 20000 in
set_option maxHeartbeats 16000000 in
theorem g_TreeApart (st : St) (y z : Nat → V) (l l2 : List LOp) (hy : (rowC opC).at' st y l) (hz : (rowC opC).at' st z l2) :
    Gd (lawX Tryd.prog tmF 9 ⟨false, [], 0, 0⟩ 4 [y 0, z 0] st) fun r => r.1 = .bool true := by
  rw [Gd_lawX Tryd.func4 rfl]
  by_cases c3 : (20 : Int) < (l.length : Int)
  · simp [evOp_call, sets, T.get_set, oracF_cons, rowC_len hy, rowC_len hz, c3]
  by_cases c4 : (20 : Int) < (l2.length : Int)
  · simp [evOp_call, sets, T.get_set, oracF_cons, rowC_len hy, rowC_len hz, c3, c4]
  simp [evOp_call, sets, T.get_set, oracF_cons, rowC_len hy, rowC_len hz, c3, c4]
  rw [tmF_ne rfl]
  refine Gd.mono (newT_any st 12 _) ?_
  rintro ⟨r, s0⟩ ⟨q, m, x, Y, Z, hr, TG, hm, hq, x0⟩
  simp only at hr TG x0
  subst hr
  simp [evOp_call, sets, T.get_set, ptrEq]
  obtain ⟨n, hn⟩ : ∃ n, n = nodesN 12 := ⟨_, rfl⟩
  have hn2 : 2 ≤ n ∧ n ≤ 64 := by rw [hn]; exact nodesN_ok 12
  rw [← hn] at TG
  refine Gd_loop (lpI st (y 0) (z 0) q m n l.length) (fun e _ => muAt 6 l.length e) ?_ ?_
  · exact ⟨0, x, Y, Z, newE, noB, noB, Nat.zero_le _, by simp [T.get_set], by simp [T.get_set], by simp [T.get_set], by simp [T.get_set], TG, newE_ok hn2, x0, hq, hm, fun b h => h.elim, fun b h => h.elim⟩
  clear TG Y Z x
  rintro e s ⟨i, x, Y, Z, E, LB, DB, hi, g0, g1, g5, g6, T0⟩
  by_cases hlt : i < l.length
  · have hlt' : (i : Int) < l.length := by omega
    have hwi := wrap_nat (n := i) (by omega)
    obtain ⟨o, hl⟩ : ∃ r, l[i]? = some r := ⟨_, List.getElem?_eq_getElem hlt⟩
    obtain ⟨mt, of, ty, sz, tr, yy, hid, hmt, hgt, hcl, hat⟩ := rowC_old un22 io29 hy hl
    obtain ⟨o0, o1, o2, o3, o4, hin⟩ := opC_in hat
    have t0 : tr.get of = some (.int .i64 o.1) := by have := hcl 0 (by decide); rw [o0] at this; exact this
    have t1 := hcl 1 (by decide); rw [o1] at t1
    have t2 := hcl 2 (by decide); rw [o2] at t2
    have t3 := hcl 3 (by decide); rw [o3] at t3
    have t4 := hcl 4 (by decide); rw [o4] at t4
    have t5 := hcl 5 (by decide)
    simp [evOp_call, T.get_set, g0, g1, g5, g6, rowC_len hy, hlt', sets, hid, loadE_eq, getC_eq, hgt s T0.ext, getsB_succ, getsB_zero, t0, t1, t2, t3, t4, t5, oracF_cons]
    rw [tmF_ne rfl]
    have hin' := hin.ext T0.ext
    refine Gd.mono (heavy_any s (toOp o) (yy 5) hin'.y _) ?_
    rintro ⟨r, s1⟩ ⟨hr, x1⟩
    simp only at hr x1
    subst hr
    cases hv : heavyB (toOp o) with
    | true => simp [evOp_call, T.get_set, sets]
    | false =>
      have T1 := T0.more x1
      simp [evOp_call, T.get_set, g0, g1, g5, g6, sets, hid, loadE_eq, getC_eq, hgt s1 T1.ext, getsB_succ, getsB_zero, t0, t1, t2, t3, t4, t5, oracF_cons]
      refine Gd.mono (T1.do (by omega) hin hv _) ?_
      rintro ⟨r, s3⟩ ⟨ry, rz, Y3, Z3, LB3, DB3, hr, hry, hrz, TG3, F3, hbl⟩
      simp only at hr hry hrz TG3 F3
      subst hr
      have T3 := T1.step (o := toOp o) hin.a hin.b hin.d TG3 F3
      simp [evOp_call, T.get_set, g0, g1, g5, g6, sets, hwi]
      exact ⟨⟨i + 1, x, Y3, Z3, _, LB3, DB3, hlt, by simp [T.get_set, g0], by simp [T.get_set, g1], by simp [T.get_set, g5], by simp [T.get_set], T3⟩, muAt_lt g6 (by simp [T.get_set]) hlt⟩
  obtain rfl : i = l.length := by omega
  simp [evOp_call, T.get_set, g0, g1, g5, g6, rowC_len hy, sets, oracF_cons]
  refine Gd.mono (clone_any T0.tr T0.ok (by omega) _) ?_
  rintro ⟨r, s1⟩ ⟨uq, um, xu, Yu, Zu, LBu, DBu, hr, TU, hlo, x1⟩
  simp only at hr TU x1
  subst hr
  have T1 := T0.more x1
  simp [evOp_call, T.get_set, g0, g1, g5, g6, rowC_len hy, sets, oracF_cons]
  refine Gd.mono (clone_any T1.tr T1.ok (by omega) _) ?_
  rintro ⟨r, s2⟩ ⟨vq, vm, xv, Yv, Zv, LBv, DBv, hr, TV, hlo2, x2⟩
  simp only at hr TV x2
  subst hr
  have T2 := T1.more x2
  have TU2 := TU.ext x2
  simp [evOp_call, T.get_set, g0, g1, g5, g6, rowC_len hz, sets, oracF_cons]
  have l0 := T0.tr.lt
  have l1 := TU.lt
  have l2' := TV.lt
  have n0 := T0.ext.le
  have n1 := x1.le
  have n2 := x2.le
  refine Gd_loop (lqI st (z 0) q m n uq um vq vm s.nx s1.nx s2.nx l.length x xv Y Z Yv Zv E LB DB LBv DBv l2.length) (fun e _ => muAt 9 l2.length e) ?_ ?_
  · refine ⟨0, Nat.zero_le _, by simp [T.get_set, g1], by simp [T.get_set, g5], by simp [T.get_set], by simp [T.get_set], by simp [T.get_set], T2.tr, TV, ⟨l0.1, l0.2.1, fun k h => (T0.tr.lb k h).1, fun k h => (T0.tr.db k h).1⟩, ⟨⟨by omega, by omega⟩, ⟨by omega, by omega⟩, fun k h => ⟨hlo2.2.2.1 k h, (TV.lb k h).1⟩, fun k h => ⟨hlo2.2.2.2 k h, (TV.db k h).1⟩⟩, ⟨xu, Yu, Zu, E, LBu, DBu, ⟨TU2, T0.ok, T2.ext, by omega, by omega, fun k h => by have := hlo.2.2.1 k h; omega, fun k h => by have := hlo.2.2.2 k h; omega⟩, ⟨by omega, by omega⟩, fun k h => .inl ⟨hlo.2.2.1 k h, (TU.lb k h).1⟩⟩, by omega, by omega, Nat.le_refl _⟩
  have hOE := T0.ok
  clear T0 T1 T2 TU TU2 TV x1 x2 hlo hlo2 g0 g1 g5 g6
  rintro e s3 ⟨j, hj, g1, g5, g7, g8, g9, T0⟩
  by_cases hlt2 : j < l2.length
  · have hlt' : (j : Int) < l2.length := by omega
    have hwi := wrap_nat (n := j) (by omega)
    obtain ⟨o, hl⟩ : ∃ r, l2[j]? = some r := ⟨_, List.getElem?_eq_getElem hlt2⟩
    obtain ⟨mt, of, ty, sz, tr, yy, hid, hmt, hgt, hcl, hat⟩ := rowC_old un22 io29 hz hl
    obtain ⟨o0, o1, o2, o3, o4, hin⟩ := opC_in hat
    have t0 : tr.get of = some (.int .i64 o.1) := by have := hcl 0 (by decide); rw [o0] at this; exact this
    have t1 := hcl 1 (by decide); rw [o1] at t1
    have t2 := hcl 2 (by decide); rw [o2] at t2
    have t3 := hcl 3 (by decide); rw [o3] at t3
    have t4 := hcl 4 (by decide); rw [o4] at t4
    have t5 := hcl 5 (by decide)
    have hx3 : Ext st.nx st s3 := by obtain ⟨_, _, _, _, _, _, u1, _⟩ := T0.u; exact u1.ext
    simp [evOp_call, T.get_set, g1, g5, g7, g8, g9, rowC_len hz, hlt', sets, hid, loadE_eq, getC_eq, hgt s3 hx3, getsB_succ, getsB_zero, t0, t1, t2, t3, t4, t5, oracF_cons]
    rw [tmF_ne rfl]
    have hin' := hin.ext hx3
    refine Gd.mono (heavy_any s3 (toOp o) (yy 5) hin'.y _) ?_
    rintro ⟨r, s4⟩ ⟨hr, x4⟩
    simp only at hr x4
    subst hr
    cases hv : heavyB (toOp o) with
    | true => simp [evOp_call, T.get_set, sets]
    | false =>
      have T1 := T0.more x4
      obtain ⟨tt, tv, tlt, vlt, ⟨xu1, Yu1, Zu1, Eu1, LBu1, DBu1, u1, u2, u3⟩, hord⟩ := T1
      simp [evOp_call, T.get_set, g1, g5, g7, g8, g9, sets, hid, loadE_eq, getC_eq, hgt s4 u1.ext, getsB_succ, getsB_zero, t0, t1, t2, t3, t4, t5, oracF_cons]
      refine Gd.mono (u1.do (by omega) hin hv _) ?_
      rintro ⟨r, s5⟩ ⟨ry, rz, Y3, Z3, LB3, DB3, hr, hry, hrz, TG3, F3, hbl⟩
      simp only at hr hry hrz TG3 F3
      subst hr
      have U3 := u1.step (o := toOp o) hin.a hin.b hin.d TG3 F3
      have n5 := F3.le
      simp [evOp_call, T.get_set, g1, g5, g7, g8, g9, sets, hwi]
      refine ⟨⟨j + 1, hlt2, by simp [T.get_set, g1], by simp [T.get_set, g5], by simp [T.get_set, g7], by simp [T.get_set, g8], by simp [T.get_set], ?_, ?_, tlt, vlt, ⟨xu1, Y3, Z3, _, LB3, DB3, U3, u2, fun k h => ?_⟩, hord.1, hord.2.1, by omega⟩, muAt_lt g9 (by simp [T.get_set]) hlt2⟩
      · have hno : ∀ k, k < s.nx → ¬ LBu1 k := fun k h1 h => by have := u3 k h; omega
        exact tt.frame F3 ⟨by omega, by omega, fun h => by have := tlt.2.2.1 _ h; omega, fun h => by have := tlt.2.2.2 _ h; omega⟩ ⟨hno _ tlt.1, hno _ tlt.2.1, fun k hk => hno k (by
          rcases hk with hk | hk
          · exact tlt.2.2.1 k hk
          · exact tlt.2.2.2 k hk)⟩
      · have hno : ∀ k, s1.nx ≤ k ∧ k < s2.nx → ¬ LBu1 k := fun k h1 h => by have := u3 k h; omega
        exact tv.frame F3 ⟨by omega, by omega, fun h => by have := vlt.2.2.1 _ h; omega, fun h => by have := vlt.2.2.2 _ h; omega⟩ ⟨hno _ vlt.1, hno _ vlt.2.1, fun k hk => hno k (by
          rcases hk with hk | hk
          · exact vlt.2.2.1 k hk
          · exact vlt.2.2.2 k hk)⟩
      · rcases F3.lb k h with h | h
        · exact u3 k h
        · exact .inr (by omega)
  obtain rfl : j = l2.length := by omega
  simp [evOp_call, T.get_set, g1, g5, g7, g8, g9, rowC_len hz, sets, oracF_cons]
  rw [tmF_ne rfl]
  refine Gd.mono (sameT_any T0.t T0.v hOE hOE (by omega) _) ?_
  rintro ⟨r, s4⟩ ⟨⟨b, hr, hb⟩, x4⟩
  simp only at hr x4
  subst hr
  have hbt : b = true := hb.2 ⟨rfl, fun j _ => ⟨rfl, rfl, rfl⟩⟩
  subst hbt
  have T1 := T0.more x4
  simp [evOp_call, T.get_set, g1, g5, g7, g8, g9, sets, oracF_cons]
  refine Gd.mono (parts_any T1.t hOE (by omega) _) ?_
  rintro ⟨r, s5⟩ ⟨hr, x5⟩
  simp only at hr x5
  have T2 := T1.more x5
  simp [evOp_call, T.get_set, g1, g5, g7, g8, g9, sets, oracF_cons, hr]
  refine Gd.mono (parts_any T2.v hOE (by omega) _) ?_
  rintro ⟨r2, s6⟩ ⟨hr2, x6⟩
  simp only at hr2 x6
  simp [evOp_call, T.get_set, g1, g5, g7, g8, g9, sets, oracF_cons, hr2]
theorem w_TreeApart (l l2 : List LOp) (W : World) (x : Value) (hx : (rowC opC).rel W (fun j => [x][j]?.getD default) l) (x2 : Value) (hx2 : (rowC opC).rel W (fun j => [x2][j]?.getD default) l2) :
    Calls Tryd.prog 4 #[x, x2] W fun e W' => e = .returned (.bool true) ∧ Below W.heap.size W W' := by
  obtain ⟨s1, r1, v1, b1, l1, q1, e1, a1⟩ := (rowC opC).enter (Begin.zero W) hx
  obtain ⟨s2, r2, v2, b2, l2', q2, e2, a2⟩ := (rowC opC).enter b1 hx2
  exact law_calls treeLaw b2 (.cons (Rel.mono l2' _ _ (q1 0 (by decide)).2) (.cons (q2 0 (by decide)).2 .nil)) (g_TreeApart s2 v1 v2 l l2 ((rowC opC).ext a1 e2) a2)
end Go.Proofs.YtgcpgidofikcdaaDoor

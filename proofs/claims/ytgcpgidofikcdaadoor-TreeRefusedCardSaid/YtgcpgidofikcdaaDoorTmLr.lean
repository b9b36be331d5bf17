/-
  The law TreeRefused.
-/
import Derived.Test.YtgcpgidofikcdaaDoorTmLa
set_option linter.unusedSimpArgs false
set_option linter.unusedVariables false
namespace Go.Proofs.YtgcpgidofikcdaaDoor
open Go.RowKit Ev
def lrI (st : St) (k : Int) (y : V) (q m n : Nat) (L : Nat) (e : Env) (s : St) : Prop := ∃ (i : Nat) (x : V) (Y Z : Nat → V) (E : Tr) (LB DB : Nat → Prop), i ≤ L ∧ e.get 0 = some (.int .i64 k) ∧ e.get 1 = some y ∧ e.get 5 = some (.p q 0) ∧ e.get 6 = some (.int .i64 (i : Int)) ∧ TrN st s q m n i x Y Z E LB DB
set_option maxRecDepth 20000 in
set_option maxHeartbeats 16000000 in
theorem g_TreeRefused (st : St) (k : Int) (y : Nat → V) (l : List LOp) (hy : (rowC opC).at' st y l) :
    Gd (lawX Tryd.prog tmF 9 ⟨false, [], 0, 0⟩ 3 [.int .i64 k, y 0] st) fun r => r.1 = .bool true := by
  rw [Gd_lawX Tryd.func3 rfl]
  by_cases c3 : (40 : Int) < (l.length : Int)
  · simp [evOp_call, sets, T.get_set, oracF_cons, rowC_len hy, c3]
  simp [evOp_call, sets, T.get_set, oracF_cons, rowC_len hy, c3]
  rw [tmF_ne rfl]
  refine Gd.mono (newT_any st k _) ?_
  rintro ⟨r, s0⟩ ⟨q, m, x, Y, Z, hr, TG, hm, hq, x0⟩
  simp only at hr TG x0
  subst hr
  simp [evOp_call, sets, T.get_set, ptrEq]
  refine Gd_loop (lrI st k (y 0) q m (nodesN k) l.length) (fun e _ => muAt 6 l.length e) ?_ ?_
  · exact ⟨0, x, Y, Z, newE, noB, noB, Nat.zero_le _, by simp [T.get_set], by simp [T.get_set], by simp [T.get_set], by simp [T.get_set], TG, newE_ok (nodesN_ok k), x0, hq, hm, fun b h => h.elim, fun b h => h.elim⟩
  clear TG Y Z x
  rintro e s ⟨i, x, Y, Z, E, LB, DB, hi, g0, g1, g5, g6, T0⟩
  by_cases hlt : i < l.length
  case neg =>
    obtain rfl : i = l.length := by omega
    simp [evOp_call, T.get_set, g0, g1, g6, rowC_len hy, sets]
  have hlt' : (i : Int) < l.length := by omega
  have hwi := wrap_nat (n := i) (by omega)
  obtain ⟨o, hl⟩ : ∃ r, l[i]? = some r := ⟨_, List.getElem?_eq_getElem hlt⟩
  obtain ⟨mt, of, ty, sz, tr, yy, hid, hmt, hgt, hcl, hat⟩ := rowC_old un22 io29 hy hl
  obtain ⟨o0, o1, o2, o3, o4, hin⟩ := opC_in hat
  have t0 : tr.get of = some (.int .i64 o.1) := by have := hcl 0 (by decide); rw [o0] at this; exact this
  have t1 := hcl 1 (by decide); rw [o1] at t1
  have t2 := hcl 2 (by decide); rw [o2] at t2
  have t3 := hcl 3 (by decide); rw [o3] at t3
  have t4 := hcl 4 (by decide); rw [o4] at t4
  have t5 := hcl 5 (by decide)
  have hyone := hin.y.one
  simp [evOp_call, T.get_set, g0, g1, g5, g6, rowC_len hy, hlt', sets, hid, loadE_eq, getC_eq, hgt s T0.ext, getsB_succ, getsB_zero, t0, t1, t2, t3, t4, t5, oracF_cons]
  rw [tmF_ne rfl]
  have hin' := hin.ext T0.ext
  refine Gd.mono (heavy_any s (toOp o) (yy 5) hin'.y _) ?_
  rintro ⟨r, s1⟩ ⟨hr, x1⟩
  simp only at hr x1
  subst hr
  cases hv : heavyB (toOp o) with
  | true => simp [evOp_call, T.get_set, sets]
  | false =>
    have T1 := T0.more x1
    simp [evOp_call, T.get_set, g0, g1, g5, g6, sets, oracF_cons]
    refine Gd.mono (clone_any T1.tr T1.ok (by omega) _) ?_
    rintro ⟨r, s2⟩ ⟨cq, cm, xc, Yc, Zc, LBc, DBc, hr, TC, hlo, x2⟩
    simp only at hr TC x2
    subst hr
    have T2 := T1.more x2
    simp [evOp_call, T.get_set, g0, g1, g5, g6, sets, hid, loadE_eq, getC_eq, hgt s2 T2.ext, getsB_succ, getsB_zero, t0, t1, t2, t3, t4, t5, oracF_cons]
    refine Gd.mono (T2.do (by omega) hin hv _) ?_
    rintro ⟨r, s3⟩ ⟨ry, rz, Y3, Z3, LB3, DB3, hr, hry, hrz, TG3, F3, hbl⟩
    simp only at hr hry hrz TG3 F3
    subst hr
    have T3 := T2.step (o := toOp o) hin.a hin.b hin.d TG3 F3
    have lt1 := T1.tr.lt
    have TC3 := TC.frame F3 (m' := m) ⟨by omega, by omega, fun h => by have := hlo.2.2.1 _ h; omega, fun h => by have := hlo.2.2.2 _ h; omega⟩ ⟨fun h => by have := (T1.tr.lb _ h).1; omega, fun h => by have := (T1.tr.lb _ h).1; omega, fun b hb h => by
      have := (T1.tr.lb _ h).1
      rcases hb with hb | hb
      · have := hlo.2.2.1 _ hb; omega
      · have := hlo.2.2.2 _ hb; omega⟩
    have x4 := fun w => (Ext.refl s3.nx s3).new (Nat.le_refl _) w
    have ryone := hry.one
    have rzone := hrz.one
    have hmu : ∀ e' : Env, e'.get 6 = some (.int .i64 ((i + 1 : Nat) : Int)) → muAt 6 l.length e' < muAt 6 l.length e := fun e' h => muAt_lt g6 h hlt
    generalize hRE : doE (nodesN k) E (toOp o) = RE at *
    by_cases ce : RE.1.err = 0
    · simp [evOp_call, T.get_set, g0, g1, g5, g6, sets, newC_is, cellsOf, storeK_g, putB_eq, roT, loadE_eq, getC_eq, getsB_succ, getsB_zero, ryone, rzone, ce, hwi]
      exact ⟨⟨i + 1, x, Y3, Z3, RE.2, LB3, DB3, hlt, by simp [T.get_set, g0], by simp [T.get_set, g1], by simp [T.get_set, g5], by simp [T.get_set], T3.more (x4 _)⟩, hmu _ (by simp [T.get_set])⟩
    · have hr := do_ref (n := nodesN k) (E := E) (o := toOp o) (by rw [hRE]; exact ce)
      rw [hRE] at hr
      obtain ⟨⟨er, nd, tyr, lk, szr, dt, nm⟩, E2⟩ := RE
      obtain ⟨hr1, hr2⟩ := hr
      simp only [refR, Rs.mk.injEq] at hr1
      simp only at hr2 ce
      obtain ⟨_, rfl, rfl, rfl, rfl, rfl, rfl⟩ := hr1
      subst hr2
      have ry0 := hry.lenS
      have rz0 := hrz.lenS
      simp only [List.length_nil] at ry0 rz0
      simp [evOp_call, T.get_set, g0, g1, g5, g6, sets, newC_is, cellsOf, storeK_g, putB_eq, roT, loadE_eq, getC_eq, getsB_succ, getsB_zero, ryone, rzone, ce, hwi, ry0, rz0, oracF_cons]
      rw [tmF_ne rfl]
      have T4 := T3.more (x4 (.cs 34 7 (sets [.int .i64 er, .int .i64 0, .int .i64 0, .int .i64 0, .int .i64 0, ry, rz] 0 (sets [.int .i64 0, .int .i64 0, .int .i64 0, .int .i64 0, .int .i64 0, .c (.slice none 0 0), .c (.slice none 0 0)] 0 .lf))))
      have TC4 := TC3.ext (x4 (.cs 34 7 (sets [.int .i64 er, .int .i64 0, .int .i64 0, .int .i64 0, .int .i64 0, ry, rz] 0 (sets [.int .i64 0, .int .i64 0, .int .i64 0, .int .i64 0, .int .i64 0, .c (.slice none 0 0), .c (.slice none 0 0)] 0 .lf))))
      refine Gd.mono (sameT_any TC4 T4.tr T1.ok T4.ok (by omega) _) ?_
      rintro ⟨r, s5⟩ ⟨⟨b, hr, hb⟩, x5⟩
      simp only at hr x5
      subst hr
      have hbt : b = true := hb.2 ⟨rfl, fun j _ => ⟨rfl, rfl, rfl⟩⟩
      subst hbt
      simp [evOp_call, T.get_set, g0, g1, g5, g6, sets, hwi]
      exact ⟨⟨i + 1, x, Y3, Z3, _, LB3, DB3, hlt, by simp [T.get_set, g0], by simp [T.get_set, g1], by simp [T.get_set, g5], by simp [T.get_set], T4.more x5⟩, hmu _ (by simp [T.get_set])⟩
theorem w_TreeRefused (k : Int) (l : List LOp) (W : World) (_ : -9223372036854775808 ≤ k ∧ k ≤ 9223372036854775807) (x : Value) (hx : (rowC opC).rel W (fun j => [x][j]?.getD default) l) :
    Calls Tryd.prog 3 #[.int .i64 k, x] W fun e W' => e = .returned (.bool true) ∧ Below W.heap.size W W' := by
  obtain ⟨s1, r1, v1, b1, l1, q1, e1, a1⟩ := (rowC opC).enter (Begin.zero W) hx
  exact law_calls treeLaw b1 (.cons (rel_int _ _) (.cons (q1 0 (by decide)).2 .nil)) (g_TreeRefused s1 k v1 l a1)
end Go.Proofs.YtgcpgidofikcdaaDoor

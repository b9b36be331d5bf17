/-
  Contracts: Parts, how many.
-/
import Derived.Test.YtgcpgidofikcdaaDoorTmNC
set_option linter.unusedSimpArgs false
set_option linter.unusedVariables false
namespace Go.Proofs.YtgcpgidofikcdaaDoor
open Go.RowKit Ev
theorem cxOf_mayT {c : Cx} {e : Env} {s0 : St} {o : Oper} {ops : List Oper} {i : Nat} {rs : List (Nat × Nat × Nat)} (ht : touches o.op = true) (hp : plainLd o.op = none) (hm : mayW ops i = true) :
    cxOf c ops o i rs s0 e = ⟨c.all, forb (befOf ops i) rs c.l, c.wb, c.nt⟩ := by
  unfold cxOf
  rw [ht, hp, hm]
def cntK (E : Tr) (k : Nat) : Nat := ((List.range k).filter fun i => decide ((E i).k ≠ 0)).length
theorem cntK_le (E : Tr) (k : Nat) : cntK E k ≤ k := by
  unfold cntK
  exact Nat.le_trans (List.length_filter_le _ _) (by simp)
theorem cntK_succ (E : Tr) (k : Nat) : cntK E (k + 1) = cntK E k + if (E k).k = 0 then 0 else 1 := by
  unfold cntK
  rw [List.range_succ, List.filter_append, List.length_append]
  by_cases h : (E k).k = 0
  · simp [h]
  · simp [h]
theorem cntK_congr {E E' : Tr} {k : Nat} (h : ∀ i, i < k → (E i).k = (E' i).k) : cntK E k = cntK E' k := by
  induction k with
  | zero => rfl
  | succ k ih => rw [cntK_succ, cntK_succ, ih fun i hi => h i (by omega), h k (Nat.lt_succ_self _)]
def ptI (st : St) (q n : Nat) (x : V) (E : Tr) (e : Env) (s : St) : Prop := ∃ (k : Nat) (y : V) (L : List V), k ≤ n + 1 ∧ e.get 3 = some y ∧ e.get 9 = some x ∧ e.get 10 = some (.int .i64 ((n + 1 : Nat) : Int)) ∧ e.get 11 = some (.int .i64 (k : Int)) ∧ OwnRow st.nx s y 4 (cntK E k) L ∧ Ext st.nx st s
set_option maxRecDepth 20000 in
set_option maxHeartbeats 16000000 in
theorem parts_any {st : St} {q m n B : Nat} {x : V} {Y Z : Nat → V} {E : Tr} {LB DB : Nat → Prop} (TG : TrG st q m n x Y Z E LB DB) (O : TOk n B E) (hB : B ≤ 1000000) (nt : Nat) :
    Gd (tmF ⟨false, [], 0, nt⟩ 15 [.p q 0] st) fun r => (∀ s, lenS s r.1 = some (.int .i64 (cntK E (n + 1) : Int), s)) ∧ Ext st.nx st r.2 := by
  rw [Gd_tmF rfl rfl Tryd.func15 rfl]
  have hn2 := O.n2
  obtain ⟨tq, hq, q0⟩ := TG.cell
  have hlt := TG.lt
  have hln := TG.len
  simp [evOp_call, sets, T.get_set, loadE_eq, getC_eq, hq, q0, hln]
  refine Gd_loop (ptI st q n x E) (fun e _ => muAt 11 (n + 1) e) ?_ ?_
  · exact ⟨0, .c (.slice none 0 0), [], Nat.zero_le _, by simp [T.get_set], by simp [T.get_set], by simp [T.get_set], by simp [T.get_set], OwnRow.nil _ _ _, Ext.refl _ _⟩
  rintro e s ⟨k, y, L, hk, g3, g9, g10, g11, hy, hx⟩
  have nS := hx.le
  by_cases hlt0 : k < n + 1
  case neg =>
    obtain rfl : k = n + 1 := by omega
    simp [evOp_call, sets, T.get_set, g3, g10, g11]
    exact ⟨hy.rd.lenS, hx⟩
  have hlt' : (k : Int) < (n : Int) + 1 := by omega
  have hwk := wrap_nat (n := k) (by omega)
  have TGs := TG.ext hx
  obtain ⟨ty2, sz2, t2, hm2, hro2, hsz2, row2⟩ := TGs.row
  obtain ⟨e1, e2, e3, e4, e5, e6, e7⟩ := row2 k (by omega)
  have hii := fun c => TGs.idx (i := k) (by omega) c
  have hlt2 := TGs.lt
  have v1 : ¬ s.nx = m := by omega
  have o1 := e6.1.one
  have o2 := e7.rd.one
  have x3 := fun w => (Ext.refl s.nx s).new (Nat.le_refl _) w
  by_cases ck : (E k).k = 0
  · have ck' : ((E k).k : Int) = 0 := by omega
    simp [evOp_call, T.get_set, g3, g9, g10, g11, hlt', loadE_eq, getC_eq, getsB_succ, getsB_zero, hm2, e1, e2, e3, e4, e5, v1, newC_is, storeK_g, putB_eq, roT, sets, cellsOf, hii, o1, o2, ck, ck', hwk]
    exact ⟨⟨k + 1, y, L, by omega, by simp [T.get_set, g3], by simp [T.get_set, g9], by simp [T.get_set, g10], by simp [T.get_set], by rw [cntK_succ, if_pos ck]; exact hy.ext (x3 _), hx.trans ((x3 _).mono hx.le)⟩, muAt_lt g11 (by simp [T.get_set]) hlt0⟩
  have ck' : ¬ ((E k).k : Int) = 0 := by omega
  simp [evOp_call, T.get_set, g3, g9, g10, g11, hlt', loadE_eq, getC_eq, getsB_succ, getsB_zero, hm2, e1, e2, e3, e4, e5, v1, newC_is, storeK_g, putB_eq, roT, sets, cellsOf, hii, o1, o2, ck, ck', hwk]
  obtain ⟨s5, hs5⟩ : ∃ s5 : St, s5 = ⟨s.nx + 1, s.h.set s.nx (.cs 48 5 (sets [.int .i64 ((E k).k : Int), .int .i64 ((E k).up : Int), .int .i64 (E k).nm, Y k, Z k] 0 (sets [.int .i64 0, .int .i64 0, .int .i64 0, .c (.slice none 0 0), .c (.slice none 0 0)] 0 .lf)))⟩ := ⟨_, rfl⟩
  have x5 : Ext s.nx s s5 := by rw [hs5]; exact x3 _
  have n5 : s5.nx = s.nx + 1 := by rw [hs5]
  have g5 : s5.h.get s.nx = some (.cs 48 5 (sets [.int .i64 ((E k).k : Int), .int .i64 ((E k).up : Int), .int .i64 (E k).nm, Y k, Z k] 0 (sets [.int .i64 0, .int .i64 0, .int .i64 0, .c (.slice none 0 0), .c (.slice none 0 0)] 0 .lf))) := by rw [hs5]; exact T.get_set_same _ _ _
  simp only [sets] at hs5 g5
  have TG5 := TGs.ext x5
  obtain ⟨ty5, sz5, t5, hmm5, _, _, row5⟩ := TG5.row
  obtain ⟨_, _, _, _, _, b6, b7⟩ := row5 k (by omega)
  have y6 := b6.1
  have y7 := b7.rd
  rw [← hs5]
  refine ⟨by kernel_rfl, ?_⟩
  simp only [← n5]
  have hYl : ∀ b, BlkOf (Y k) b → b < st.nx := fun b hb => (TG.db b (e6.2.1 b hb)).1
  have hZl : ∀ b, BlkOf (Z k) b → b < st.nx := fun b hb => (TG.lb b (e7.blk b hb).1).1
  have hffc : ∀ b, b < st.nx → inF [(s.nx, s.nx + 1)] b = false := fun b h => by rw [inF_cons, if_neg (by omega)]; rfl
  have hffb : ∀ b, b < st.nx → inF [(s.nx, s.nx + 1), (s.nx, s.nx + 1)] b = false := fun b h => by rw [inF_cons, if_neg (by omega), inF_cons, if_neg (by omega)]; rfl
  rw [cxOf_callL [(s.nx, s.nx + 1), (s.nx, s.nx + 1)] (by kernel_rfl) (by kernel_rfl) (looseW_at2 21 5 (.p s.nx 0) (.p s.nx 0) (by simp [T.get_set]) (by simp [T.get_set]) (by kernel_rfl)) (fun y hy => by
    simp at hy
    subst hy
    rw [clashes_tmp']; simp [T.get_set]
    exact rd_blkF y6 fun b hb => hffb b (hYl b hb)) (fun p hp => by
      simp at hp
      subst hp
      rw [isRo_cs g5]; decide), forb_nil]
  simp only [List.append_nil]
  show Gd (liftF tmK ⟨false, [(s.nx, s.nx + 1), (s.nx, s.nx + 1)], 0, _⟩ _ _ s5) _
  refine Gd_lift (R := fun v s' => RdRow s' v 1 (E k).d.length (yv (E k).d)) (by
    rw [tmK_ne rfl]
    refine Gd.mono (cloneB_any (er _ s5) (Y k) (E k).d.length (yv (E k).d) (y6.er fun b hb => hffb b (hYl b hb)) (by have := (O.dat k).2; omega) _) ?_
    rintro ⟨v, s'⟩ ⟨c1, c2, c3, c4, c5, c6⟩
    exact ⟨c1, c6⟩) ?_
  rintro y2 s5' s6 hy2 k6 x6
  have hy2 := RdRow.sub k6 hy2
  have hyo2 : V.one y2 = true := hy2.one
  have n6 := x6.le
  have g6 := (x6.keep s.nx (by omega)).trans g5
  simp [evOp_call, T.get_set, loadE_eq, getC_eq, getsB_succ, getsB_zero, g6]
  refine ⟨inF_lds (rsOf_lt (by simp) (by omega)), fun _ => ?_⟩
  have y7' : RdRow s6 (Z k) 2 (E k).l.length (cellsN (E k).l) := y7.ext x6
  rw [cxOf_callL [(s.nx, s.nx + 1)] (by kernel_rfl) (by kernel_rfl) (looseW_at 21 (.p s.nx 0) (by simp [T.get_set]) (by kernel_rfl)) (fun y hy => by
    simp at hy
    subst hy
    rw [clashes_tmp']; simp [T.get_set]
    exact rd_blkF y7' fun b hb => hffc b (hZl b hb)) (fun p hp => by
      simp at hp
      subst hp
      rw [isRo_cs g6]; decide), forb_step (by kernel_rfl) rfl]
  simp only [List.append_nil]
  show Gd (liftF tmK ⟨false, [(s.nx, s.nx + 1)], 0, _⟩ _ _ s6) _
  refine Gd_lift (R := fun v s' => RdRow s' v 2 (E k).l.length (cellsN (E k).l)) (by
    rw [tmK_ne rfl]
    refine Gd.mono (cloneN_any (er _ s6) (Z k) (E k).l.length (cellsN (E k).l) (y7'.er fun b hb => hffc b (hZl b hb)) (by have := (O.lok k).len; omega) _) ?_
    rintro ⟨v, s'⟩ ⟨c1, c2, c3, c4, c5, c6⟩
    exact ⟨c1, c6⟩) ?_
  rintro z2 s6' s7 hz2 k7 x7
  have hz2 := RdRow.sub k7 hz2
  have hzo2 : V.one z2 = true := hz2.one
  have n7 := x7.le
  simp [evOp_call, T.get_set, loadE_eq, getC_eq, hyo2, hzo2]
  refine evOp_build1 (v := .g [.int .i64 (k : Int), .int .i64 ((E k).k : Int), y2, z2]) (cs := [.int .i64 (k : Int), .int .i64 ((E k).k : Int), y2, z2]) (fun k => el38 k) (fun k => ze69 k) rfl (by decide) (by simp [T.get_set]) (fun k => by simp [cellsOf]) rfl ?_
  simp [evOp_call, T.get_set]
  rw [cxOf_call (by kernel_rfl) (by kernel_rfl), forb_cons (by kernel_rfl) (forb_step (by kernel_rfl) (forb_step (by kernel_rfl) rfl))]
  have hx7 := x5.trans ((x6.mono (by omega)).trans (x7.mono (by omega)))
  have x8 := fun w => (Ext.refl s7.nx s7).new (Nat.le_refl _) w
  have hcl := cntK_le E k
  refine Gd_append un38 un38 io69 (n := cntK E k) (lx := 1) (new := [.int .i64 (k : Int), .int .i64 ((E k).k : Int), y2, z2]) ((hy.ext hx7).ext (x8 _)) (by show st.nx ≤ s7.nx + 1; omega) (by decide) (fun s' h => by cases h) (fun k => rfl) (fun k => by simp [getC_eq, getsB_succ, getsB_zero, T.get_set, sets]) rfl (by omega) ?_
  intro y' s9 ho he _ _
  simp [evOp_call, T.get_set, g3, g9, g10, g11, hwk]
  refine ⟨⟨k + 1, y', _, by omega, by simp [T.get_set], by simp [T.get_set, g9], by simp [T.get_set, g10], by simp [T.get_set], by rw [cntK_succ, if_neg ck]; exact ho, ?_⟩, muAt_lt g11 (by simp [T.get_set]) hlt0⟩
  exact (hx.trans (hx7.mono hx.le)).trans (((x8 _).mono (by omega)).trans he)
end Go.Proofs.YtgcpgidofikcdaaDoor

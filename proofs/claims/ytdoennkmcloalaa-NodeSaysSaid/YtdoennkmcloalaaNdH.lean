/-
  The contract of node.Good; the walk of NodeGood.
-/
import Derived.Test.YtdoennkmcloalaaNdG
import Derived.Test.YtdoennkmcloalaaNdO
import Derived.Test.YtdoennkmcloalaaDrw
set_option linter.unusedSimpArgs false
namespace Go.Proofs.Ytdoennkmcloalaa
open Go.RowKit Ev
set_option maxRecDepth 20000 in
set_option maxHeartbeats 8000000 in
theorem ngood_any (st : St) (g : Gm) (N : Nd) (y : V) (hy : RdRow st y 2 N.R.length (pairs N.R)) (hcap : CapOk y) (hs : N.s ≤ 9223372036854775807) (nt : Nat) :
    Gd (callL Try.prog ⟨false, [], 0, nt⟩ 39 [gV g, ndV N y] st) fun r => r.1 = .bool (decide (goodN g N)) ∧ Ext st.nx st r.2 := by
  rw [Gd_callL Try.func39 rfl]
  have hcell : ∀ k : List V → Res, cellsOf (ndV N y) k = k [.int .i64 N.t, .int .i64 N.l, .int .i64 N.s, y] := fun k => rfl
  have gcell : ∀ k : List V → Res, cellsOf (gV g) k = k [.int .i64 g.b, .int .i64 g.n, .int .i64 g.c, .int .i64 g.k] := fun k => rfl
  have gVg : V.g [V.int .i64 g.b, V.int .i64 g.n, V.int .i64 g.c, V.int .i64 g.k] = gV g := rfl
  have hnd : V.g [.int .i64 N.t, .int .i64 N.l, .int .i64 N.s, y] = ndV N y := rfl
  have e2 : ∀ v w, Ext st.nx st ⟨st.nx + 1 + 1, (st.h.set st.nx v).set (st.nx + 1) w⟩ := fun v w => (bx_ext st v).new (Nat.le_succ _) w
  have q1 : ¬ st.nx + 1 = st.nx := by omega
  simp [hcell, gcell, evOp_call, sets, T.get_set, newC_is, loadE_eq, getC_eq, getsB_succ, getsB_zero, q1]
  generalize hS : (⟨st.nx + 1 + 1, _⟩ : St) = s0
  have x0 : Ext st.nx st s0 := hS ▸ e2 _ _
  have n0 : st.nx + 1 < s0.nx := by rw [← hS]; exact Nat.lt_succ_self _
  have kG : s0.h.get st.nx = some (gB g) := by rw [← hS]; exact (T.get_set_ne _ _ q1).trans (T.get_set_same _ _ _)
  have kN : s0.h.get (st.nx + 1) = some (.cs 41 4 ((((T.lf.set 0 (.int .i64 N.t)).set 1 (.int .i64 N.l)).set 2 (.int .i64 N.s)).set 3 y)) := by rw [← hS]; exact T.get_set_same _ _ _
  clear hS
  unfold gB at kG
  rw [gVg]
  refine Gd.mono (good_any _ [] (fun _ _ => rfl) 0 (Nat.zero_le _) g _) ?_
  rintro ⟨r, s1⟩ ⟨hr, x1⟩
  simp only at hr x1
  subst hr
  have y1 := x0.trans (x1.mono x0.le)
  have n1 : st.nx + 1 < s1.nx := Nat.lt_of_lt_of_le n0 x1.le
  have kG1 := (x1.keep _ (by omega)).trans kG
  have kN1 := (x1.keep _ (by omega)).trans kN
  by_cases hg : isGood g
  · by_cases ht : N.t = 0
    · have hG : goodN g N ↔ noneN N := by unfold goodN; rw [if_pos ht]; exact ⟨fun h => h.2, fun h => ⟨hg, h⟩⟩
      have hnd0 : V.g [.int .i64 0, .int .i64 N.l, .int .i64 N.s, y] = ndV N y := by unfold ndV; rw [ht]
      simp [evOp_call, T.get_set, hg, loadE_eq, getC_eq, getsB_succ, getsB_zero, kN1, ht]
      rw [hnd0]
      refine Gd.mono (noth_any _ [] (fun _ _ => rfl) 0 N y (fun s => hy.lenS s) _) ?_
      rintro ⟨r, s2⟩ ⟨hr, x2⟩
      simp only at hr x2
      subst hr
      simp [T.get_set, hG]
      exact y1.trans (x2.mono y1.le)
    · have hG : goodN g N ↔ goodT g N := by unfold goodN; rw [if_neg ht]; exact ⟨fun h => h.2, fun h => ⟨hg, h⟩⟩
      simp [evOp_call, T.get_set, hg, loadE_eq, getC_eq, getsB_succ, getsB_zero, kN1, kG1, ht]
      refine ⟨by kernel_rfl, ?_⟩
      refine Gd.mono (betw_any _ _ _ _ _) ?_
      rintro _ rfl
      by_cases c1 : 1 ≤ N.t ∧ N.t ≤ 3
      · simp [evOp_call, T.get_set, hg, loadE_eq, getC_eq, getsB_succ, getsB_zero, kN1, kG1, ht, c1]
        refine Gd.mono (betw_any _ _ _ _ _) ?_
        rintro _ rfl
        by_cases c2 : 1 ≤ N.l ∧ N.l ≤ 200
        · simp [evOp_call, T.get_set, hg, loadE_eq, getC_eq, getsB_succ, getsB_zero, kN1, kG1, ht, c1, c2]
          rw [gVg, hnd, cxOf_call (by kernel_rfl) (by kernel_rfl), forb_nil]
          refine Gd.mono (sized_any s1 g hg.1.2.1 N y _) ?_
          rintro ⟨r, s2⟩ ⟨hr, x2⟩
          simp only at hr x2
          subst hr
          have y2 := y1.trans (x2.mono y1.le)
          have n2 : st.nx + 1 < s2.nx := Nat.lt_of_lt_of_le n1 x2.le
          have kG2 := (x2.keep _ (by omega)).trans kG1
          have kN2 := (x2.keep _ (by omega)).trans kN1
          by_cases c3 : sizedN g N
          · have l2G : ∀ (b i nx' : Nat), inF ((0, st.nx) :: (st.nx + 1, nx') :: forb b (rsOf [] i s1.nx s2.nx) []) st.nx = false := fun b i nx' => inF_ld (by omega)
            have l2N : ∀ (b i nx' : Nat), inF ((0, st.nx + 1) :: (st.nx + 1 + 1, nx') :: forb b (rsOf [] i s1.nx s2.nx) []) (st.nx + 1) = false := fun b i nx' => inF_ld (by omega)
            simp [evOp_call, T.get_set, loadE_eq, getC_eq, getsB_succ, getsB_zero, kN2, kG2, c3, l2G, l2N]
            rw [gVg, hnd, cxOf_call (by kernel_rfl) (by kernel_rfl), forb_step (by kernel_rfl) rfl]
            refine Gd.mono (placed_any s2 g hg N y (hy.ext y2) hcap _) ?_
            rintro ⟨r, s3⟩ ⟨hr, x3⟩
            simp only at hr x3
            subst hr
            have y3 := y2.trans (x3.mono y2.le)
            have n3 : st.nx + 1 < s3.nx := Nat.lt_of_lt_of_le n2 x3.le
            have kN3 := (x3.keep _ (by omega)).trans kN2
            by_cases c4 : placedN g N
            · have r3 : ∀ i j : Nat, ∀ e ∈ rsOf (rsOf [] i s1.nx s2.nx) j s2.nx s3.nx, st.nx + 1 < e.2.1 := fun i j => rsOf_lt (rsOf_lt (fun e h => by cases h) n1) n2
              have l3N : ∀ (b i j nx' : Nat), inF ((0, st.nx + 1) :: (st.nx + 1 + 1, nx') :: forb b (rsOf (rsOf [] i s1.nx s2.nx) j s2.nx s3.nx) []) (st.nx + 1) = false := fun b i j nx' => inF_lds (r3 i j)
              simp [evOp_call, T.get_set, loadE_eq, getC_eq, getsB_succ, getsB_zero, kN3, c4, l3N]
              rw [hnd]
              rw [cxOf_callL [(st.nx + 1, st.nx + 1 + 1)] (by kernel_rfl) (by kernel_rfl) (looseW_at 3 (.p (st.nx + 1) 0) (by simp [T.get_set]) (by kernel_rfl)) (fun x hx => by simp at hx; subst hx; simp [clashes_tmp, T.get_set, ndV, blkOf]) (fun p hp => by simp at hp; subst hp; rw [isRo_cs kN3]; decide), forb_step (by kernel_rfl) (forb_step (by kernel_rfl) rfl)]
              simp only [List.append_nil]
              refine Gd.mono (blocks_any s3 _ (fun k hk => by rw [inF_cons, if_neg (by omega)]; rfl) N y (hy.ext y3) (by have := c4.1; omega) (fun m hm => ?_) _) ?_
              · have : m < st.nx := by
                  rcases hm with ⟨o, l, q, e⟩ | ⟨o, l, q, e⟩
                  · exact hy.lt_of.2 _ _ _ _ e
                  · exact hy.lt_of.1 _ _ _ _ e
                rw [inF_cons, if_neg (by omega)]; rfl
              rintro ⟨r, s4⟩ ⟨hr, x4⟩
              simp only at hr x4
              subst hr
              have y4 := y3.trans (x4.mono y3.le)
              have n4 : st.nx + 1 < s4.nx := Nat.lt_of_lt_of_le n3 x4.le
              have kN4 := (x4.keep _ (by omega)).trans kN3
              have r4 : ∀ i j k : Nat, ∀ e ∈ rsOf (rsOf (rsOf [] i s1.nx s2.nx) j s2.nx s3.nx) k s3.nx s4.nx, st.nx + 1 < e.2.1 := fun i j k => rsOf_lt (r3 i j) n3
              have l4N : ∀ (b i j k nx' : Nat), inF ((0, st.nx + 1) :: (st.nx + 1 + 1, nx') :: forb b (rsOf (rsOf (rsOf [] i s1.nx s2.nx) j s2.nx s3.nx) k s3.nx s4.nx) []) (st.nx + 1) = false := fun b i j k nx' => inF_lds (r4 i j k)
              simp [evOp_call, T.get_set, loadE_eq, getC_eq, getsB_succ, getsB_zero, kN4, l4N]
              rw [hnd, cxOf_call (by kernel_rfl) (by kernel_rfl), forb_step (by kernel_rfl) (forb_step (by kernel_rfl) (forb_step (by kernel_rfl) rfl))]
              refine Gd.mono (needs_any s4 N y hs _) ?_
              rintro ⟨r, s5⟩ ⟨hr, x5⟩
              simp only at hr x5
              subst hr
              have y5 := y4.trans (x5.mono y4.le)
              have hfin : goodT g N ↔ sumN N.R = needN N := ⟨fun h => h.2.2.2.2, fun h => ⟨c1, c2, c3, c4, h⟩⟩
              simp [evOp_call, T.get_set, hG, hfin]
              exact y5
            · have hno : ¬ goodT g N := fun h => c4 h.2.2.2.1
              simp [evOp_call, T.get_set, c4, hG, hno]
              exact y3
          · have hno : ¬ goodT g N := fun h => c3 h.2.2.1
            simp [evOp_call, T.get_set, c3, hG, hno]
            exact y2
        · have hno : ¬ goodT g N := fun h => c2 h.2.1
          simp [evOp_call, T.get_set, c1, c2, hG, hno]
          exact y1
      · have hno : ¬ goodT g N := fun h => c1 h.1
        simp [evOp_call, T.get_set, hg, loadE_eq, getC_eq, getsB_succ, getsB_zero, kN1, kG1, ht, c1, hG, hno]
        exact y1
  · have hG : ¬ goodN g N := fun h => hg h.1
    simp [evOp_call, T.get_set, hg, hG]
    exact y1
end Go.Proofs.Ytdoennkmcloalaa

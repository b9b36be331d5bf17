/-
  The document's own nodes: what may be.
-/
import Derived.Test.YtdoennkmcloalaaNdW
set_option linter.unusedSimpArgs false
namespace Go.Proofs.Ytdoennkmcloalaa
open Go.RowKit Ev
set_option maxRecDepth 20000 in
set_option maxHeartbeats 4000000 in
theorem rblocks_fl (st : St) (fl : List (Nat × Nat)) (hfn : ∀ k, st.nx ≤ k → inF fl k = false) (N : Nd) (y : V) (hy : RdRow st y 2 N.R.length (pairs N.R)) (hK : N.R.length ≤ 1000000) (hfy : ∀ m, rowIn y m → inF fl m = false) (nt : Nat) :
    Gd (callL Try.prog ⟨false, fl, 0, nt⟩ 47 [ndV N y] st) fun r => r.1 = .int .i64 (sumN N.R) ∧ Ext st.nx st r.2 := by
  rw [Gd_callL Try.func47 rfl]
  have hcell : ∀ k : List V → Res, cellsOf (ndV N y) k = k [.int .i64 N.t, .int .i64 N.l, .int .i64 N.s, y] := fun k => rfl
  have f0 := hfn st.nx (Nat.le_refl _)
  simp [hcell, f0, evOp_call, sets, T.get_set, newC_is, loadE_eq, getC_eq]
  refine Gd_loop (rbI st N.R y) (fun en _ => muAt 4 N.R.length en) ?_ ?_
  · exact ⟨0, Nat.zero_le _, by simp [T.get_set], by simp [T.get_set, sumN], by simp [T.get_set], bx_ext st _, _, T.get_set_same _ _ _, by simp [T.get_set]⟩
  · rintro en s ⟨k, hk, g1, g3, g4, hs, tb, kb, kb3⟩
    have hys := hy.ext hs
    by_cases hlt : k < N.R.length
    · have hlt' : (k : Int) < N.R.length := by omega
      have hwk := wrap_nat (n := k) (by omega)
      obtain ⟨m, o, ty, sz, tr, hid, hm, hg, ho, hc, hri⟩ := hys.idxB (st := s) un42 io182 hlt
      obtain ⟨⟨F, L⟩, hr⟩ : ∃ r, N.R[k]? = some r := ⟨_, List.getElem?_eq_getElem hlt⟩
      have hcl := pairs_at N.R k _ hr
      have t1 : tr.get (o + 1) = some (.int .i64 L) := hc 1 _ (by omega) hcl.2
      have hfm := hfy m hri
      simp [evOp_call, f0, hfm, T.get_set, g1, g3, g4, kb, kb3, hys.lenS, hlt', hid, loadE_eq, getC_eq, hg, t1, hwk]
      exact ⟨⟨k + 1, hlt, by simp [T.get_set, g1], by simp [T.get_set, sumN_take hr], by simp [T.get_set], hs, tb, kb, kb3⟩, muAt_lt g4 (by simp [T.get_set]) hlt⟩
    · obtain rfl : k = N.R.length := by omega
      rw [List.take_length] at g3
      simp [evOp_call, f0, T.get_set, g1, g3, g4, kb, kb3, hys.lenS, loadE_eq, getC_eq]
      exact hs
def rngT (g : Gm) (N : Nd) : Prop := (1 ≤ N.t ∧ N.t ≤ 3) ∧ (1 ≤ N.l ∧ N.l ≤ 200) ∧ sizedN g N ∧ N.R.length ≤ 4
theorem good_rng {g : Gm} (hg : isGood g) {N : Nd} (h0 : ¬ N.t = 0) (hr : rngT g N) : goodN g N ↔ ((∀ r ∈ N.R, inDoc g N r) ∧ apartR N.R N.R.length) ∧ sumN N.R = needN N := by
  obtain ⟨h1, h2, h3, h4⟩ := hr
  unfold goodN
  rw [if_neg h0]
  unfold goodT
  rw [placed_doc hg h4]
  exact ⟨fun h => ⟨h.2.2.2.2.1, h.2.2.2.2.2⟩, fun h => ⟨hg, h1, h2, h3, h.1, h.2⟩⟩
theorem good_norng {g : Gm} {N : Nd} (h0 : ¬ N.t = 0) (hr : ¬ rngT g N) : ¬ goodN g N := by
  rintro ⟨_, h⟩
  rw [if_neg h0] at h
  obtain ⟨h1, h2, h3, ⟨h4, _⟩, _⟩ := h
  exact hr ⟨h1, h2, h3, h4⟩
def rgI2 (st : St) (g : Gm) (N : Nd) (y : V) (e : Env) (s : St) : Prop := ∃ i : Nat, i ≤ N.R.length ∧ e.get 2 = some (.p st.nx 0) ∧ e.get 3 = some (.p (st.nx + 1) 0) ∧ e.get 5 = some (.int .i64 (dF g)) ∧ e.get 6 = some (.int .i64 (dN g)) ∧ e.get 7 = some (.int .i64 (i : Int)) ∧
  s.h.get st.nx = some (.cs 54 4 ((((T.lf.set 0 (.int .i64 g.b)).set 1 (.int .i64 g.n)).set 2 (.int .i64 g.c)).set 3 (.int .i64 g.k))) ∧ s.h.get (st.nx + 1) = some (.cs 44 4 ((((T.lf.set 0 (.int .i64 N.t)).set 1 (.int .i64 N.l)).set 2 (.int .i64 N.s)).set 3 y)) ∧ Ext st.nx st s ∧ st.nx + 2 ≤ s.nx ∧ ∀ r ∈ N.R.take i, inDoc g N r
def rgJ2 (st : St) (g : Gm) (N : Nd) (y : V) (r : X × Env × St) : Prop := r.1 = .n ∧ rgI2 st g N y r.2.1 r.2.2
set_option maxRecDepth 20000 in
set_option maxHeartbeats 16000000 in
theorem rngood_no (st : St) (g : Gm) (N : Nd) (y : V) (hno : ¬ (isGood g ∧ ¬ N.t = 0 ∧ rngT g N)) (hy : RdRow st y 2 N.R.length (pairs N.R)) (hs : N.s ≤ 9223372036854775807) (nt : Nat) :
    Gd (callL Try.prog ⟨false, [], 0, nt⟩ 40 [gV g, ndV N y] st) fun r => r.1 = .bool (decide (goodN g N)) ∧ Ext st.nx st r.2 := by
  rw [Gd_callL Try.func40 rfl]
  have hcell : ∀ k : List V → Res, cellsOf (ndV N y) k = k [.int .i64 N.t, .int .i64 N.l, .int .i64 N.s, y] := fun k => rfl
  have gcell : ∀ k : List V → Res, cellsOf (gV g) k = k [.int .i64 g.b, .int .i64 g.n, .int .i64 g.c, .int .i64 g.k] := fun k => rfl
  have gVg : V.g [V.int .i64 g.b, V.int .i64 g.n, V.int .i64 g.c, V.int .i64 g.k] = gV g := rfl
  have hnd : V.g [.int .i64 N.t, .int .i64 N.l, .int .i64 N.s, y] = ndV N y := rfl
  have e2 : ∀ v w, Ext st.nx st ⟨st.nx + 1 + 1, (st.h.set st.nx v).set (st.nx + 1) w⟩ := fun v w => (bx_ext st v).new (Nat.le_succ _) w
  have q1 : ¬ st.nx + 1 = st.nx := by omega
  have hwu : wantK true (some V.u) = false := rfl
  have hwu2 : wantK false (some V.u) = false := rfl
  simp [hcell, gcell, evOp_call, sets, T.get_set, newC_is, loadE_eq, getC_eq, getsB_succ, getsB_zero, q1]
  rw [gVg]
  refine Gd.mono (rgood_any _ [] (fun _ _ => rfl) g _) ?_
  rintro ⟨r, s1⟩ ⟨hr, x1⟩
  simp only at hr x1
  subst hr
  have y1 := (e2 _ _).trans (x1.mono (Nat.le_succ_of_le (Nat.le_succ _)))
  have n1 : st.nx + 2 ≤ s1.nx := x1.le
  have kG := (x1.keep st.nx (by show st.nx < st.nx + 1 + 1; omega)).trans ((T.get_set_ne _ _ q1).trans (T.get_set_same _ _ _))
  have kN := (x1.keep (st.nx + 1) (Nat.lt_succ_self _)).trans (T.get_set_same _ _ _)
  by_cases hg : isGood g
  case neg =>
    have hd : ¬ goodN g N := fun h => hg h.1
    simp [evOp_call, T.get_set, hg, hd]
    exact y1
  by_cases t0 : N.t = 0
  · simp [evOp_call, T.get_set, hg, loadE_eq, getC_eq, getsB_succ, getsB_zero, kN, t0]
    rw [show V.g [.int .i64 0, .int .i64 N.l, .int .i64 N.s, y] = ndV N y by unfold ndV; rw [t0]]
    refine Gd.mono (rzero_any s1 N y (hy.ext y1) _) ?_
    rintro ⟨r, s2⟩ ⟨hr, x2⟩
    simp only at hr x2
    subst hr
    have hq : goodN g N ↔ (N.t = 0 ∧ N.l = 0 ∧ N.s = 0 ∧ N.R.length = 0) := by
      unfold goodN
      rw [if_pos t0]
      exact ⟨fun h => ⟨t0, h.2⟩, fun h => ⟨hg, h.2⟩⟩
    have hd : decide (goodN g N) = zeroN N := by
      unfold zeroN
      exact decide_eq_decide.2 hq
    simp [evOp_call, T.get_set, hd]
    exact y1.trans (x2.mono y1.le)
  have hbb : g.b ≤ 1024 := hg.1.2.1
  have hy1 := hy.ext y1
  by_cases hr : rngT g N
  case neg =>
    have hd : ¬ goodN g N := good_norng t0 hr
    by_cases a1 : N.t < 0
    · simp [evOp_call, T.get_set, hg, loadE_eq, getC_eq, kN, kG, t0, hwu, hwu2, hd, a1]
      exact y1
    by_cases a2 : 3 < N.t
    · simp [evOp_call, T.get_set, hg, loadE_eq, getC_eq, kN, kG, t0, hwu, hwu2, hd, a1, a2]
      exact y1
    by_cases a3 : N.l < 1
    · simp [evOp_call, T.get_set, hg, loadE_eq, getC_eq, kN, kG, t0, hwu, hwu2, hd, a1, a2, a3]
      exact y1
    by_cases a4 : 200 < N.l
    · simp [evOp_call, T.get_set, hg, loadE_eq, getC_eq, kN, kG, t0, hwu, hwu2, hd, a1, a2, a3, a4]
      exact y1
    by_cases a5 : N.s < 0
    · simp [evOp_call, T.get_set, hg, loadE_eq, getC_eq, kN, kG, t0, hwu, hwu2, hd, a1, a2, a3, a4, a5]
      exact y1
    have hrest : ¬ (sizedN g N ∧ N.R.length ≤ 4) := fun h => hr ⟨by omega, by omega, h⟩
    have a7i : ∀ {p : Prop}, (sizedN g N → p) → ¬ p → False ∨ True := fun _ _ => .inr trivial
    rcases (by omega : N.t = 1 ∨ N.t = 2 ∨ N.t = 3) with ht | ht | ht
    · by_cases b1 : 4096 < N.s
      · simp [evOp_call, T.get_set, hg, loadE_eq, getC_eq, kN, kG, ht, hwu, hwu2, hd, a3, a4, a5, b1]
        exact y1
      · have a7 : ¬ N.R.length ≤ 4 := fun h => hrest ⟨by unfold sizedN; rw [if_neg (by omega), if_neg (by omega)]; omega, h⟩
        have a7' : 4 < N.R.length := by omega
        have a8' : (4 : Int) < (N.R.length : Int) := by omega
        simp [evOp_call, T.get_set, hg, loadE_eq, getC_eq, kN, kG, ht, hwu, hwu2, hd, a3, a4, a5, b1, hy1.lenS, a7', a8']
        exact y1
    · by_cases b1 : g.b < N.s
      · simp [evOp_call, T.get_set, hg, loadE_eq, getC_eq, kN, kG, ht, hwu, hwu2, hd, a3, a4, a5, b1]
        exact y1
      · have a7 : ¬ N.R.length ≤ 4 := fun h => hrest ⟨by unfold sizedN; rw [if_pos ht]; omega, h⟩
        have a7' : 4 < N.R.length := by omega
        have a8' : (4 : Int) < (N.R.length : Int) := by omega
        simp [evOp_call, T.get_set, hg, loadE_eq, getC_eq, kN, kG, ht, hwu, hwu2, hd, a3, a4, a5, b1, hy1.lenS, a7', a8']
        exact y1
    · by_cases b1 : 4096 < N.s
      · simp [evOp_call, T.get_set, hg, loadE_eq, getC_eq, kN, kG, ht, hwu, hwu2, hd, a3, a4, a5, b1]
        exact y1
      by_cases b2 : N.s < 1
      · simp [evOp_call, T.get_set, hg, loadE_eq, getC_eq, kN, kG, ht, hwu, hwu2, hd, a3, a4, a5, b1, b2]
        exact y1
      by_cases b3 : 400 < N.s
      · simp [evOp_call, T.get_set, hg, loadE_eq, getC_eq, kN, kG, ht, hwu, hwu2, hd, a3, a4, a5, b1, b2, b3]
        exact y1
      · have a7 : ¬ N.R.length ≤ 4 := fun h => hrest ⟨by unfold sizedN; rw [if_neg (by omega), if_pos ht]; omega, h⟩
        have a7' : 4 < N.R.length := by omega
        have a8' : (4 : Int) < (N.R.length : Int) := by omega
        simp [evOp_call, T.get_set, hg, loadE_eq, getC_eq, kN, kG, ht, hwu, hwu2, hd, a3, a4, a5, b1, b2, b3, hy1.lenS, a7', a8']
        exact y1
  exact absurd ⟨hg, t0, hr⟩ hno
end Go.Proofs.Ytdoennkmcloalaa

/-
  Contract of slices.BinarySearch, for a rising row of whole numbers.
-/
import Derived.Test.YtdoennkmcloalaaTyAll
import Derived.Test.YtdoennkmcloalaaLkB
set_option linter.unusedSimpArgs false
set_option linter.unusedVariables false
namespace Go.Proofs.Ytdoennkmcloalaa
open Go.RowKit Ev
/-- rising -/
def RisI (L : List Int) : Prop := L.Pairwise (· < ·)
theorem RisI.lt {L : List Int} (h : RisI L) {i j : Nat} (hij : i < j) (hj : j < L.length) : L[i]'(by omega) < L[j] := List.pairwise_iff_getElem.1 h i j (by omega) hj hij
/-- how many are less -/
def cntL (w : Int) (L : List Int) : Nat := (L.filter fun x => decide (x < w)).length
theorem cntL_le (w : Int) (L : List Int) : cntL w L ≤ L.length := List.length_filter_le _ _
theorem cntL_eq {w : Int} : ∀ {L : List Int} {j : Nat}, RisI L → j ≤ L.length → (∀ i (h : i < L.length), i < j → L[i] < w) → (∀ i (h : i < L.length), j ≤ i → w ≤ L[i]) → cntL w L = j
  | [], j, _, hj, _, _ => by simp at hj; subst hj; rfl
  | x :: L, j, hr, hj, h1, h2 => by
    have hr' : RisI L := (List.pairwise_cons.1 hr).2
    cases j with
    | zero =>
      have : w ≤ x := h2 0 (by simp) (Nat.le_refl _)
      have e : cntL w (x :: L) = cntL w L := by unfold cntL; rw [List.filter_cons, if_neg (by simp; omega)]
      rw [e]
      exact cntL_eq hr' (Nat.zero_le _) (fun i _ h => by omega) (fun i h _ => h2 (i + 1) (by simp; omega) (Nat.zero_le _))
    | succ j =>
      have : x < w := h1 0 (by simp) (Nat.succ_pos _)
      have e : cntL w (x :: L) = cntL w L + 1 := by unfold cntL; rw [List.filter_cons, if_pos (by simpa using this)]; rfl
      rw [e, cntL_eq hr' (by simpa using hj) (fun i h k => h1 (i + 1) (by simp; omega) (by omega)) (fun i h k => h2 (i + 1) (by simp; omega) (by omega))]
theorem cntL_lt {w : Int} {L : List Int} (hr : RisI L) {i : Nat} (h : i < L.length) : i < cntL w L ↔ L[i] < w := by
  -- the first ones are those
  have key : ∀ (L : List Int), RisI L → ∀ i (h : i < L.length), i < cntL w L ↔ L[i] < w := by
    intro L
    induction L with
    | nil => intro _ i h; simp at h
    | cons x L ih =>
      intro hr i h
      have hr' : RisI L := (List.pairwise_cons.1 hr).2
      by_cases hx : x < w
      · have e : cntL w (x :: L) = cntL w L + 1 := by unfold cntL; rw [List.filter_cons, if_pos (by simpa using hx)]; rfl
        rw [e]
        cases i with
        | zero => simpa using hx
        | succ i => simpa using ih hr' i (by simpa using h)
      · have e : cntL w (x :: L) = 0 := by
          unfold cntL
          rw [List.length_eq_zero_iff, List.filter_eq_nil_iff]
          intro y hy
          rcases List.mem_cons.1 hy with rfl | hy
          · simpa using hx
          · have := (List.pairwise_cons.1 hr).1 y hy
            simp; omega
        rw [e]
        cases i with
        | zero => simp; omega
        | succ i =>
          have := (List.pairwise_cons.1 hr).1 (L[i]'(by simpa using h)) (List.getElem_mem _)
          simp; omega
  exact key L hr i h
noncomputable def bsG (e : Env) : Nat := match e.get 7, e.get 8 with
  | some (.c (.int _ (.ofNat j))), some (.c (.int _ (.ofNat k))) => k - j
  | _, _ => 0
theorem bsG_eq {e : Env} {i j : Nat} (h7 : e.get 7 = some (.int .i64 (i : Int))) (h8 : e.get 8 = some (.int .i64 (j : Int))) : bsG e = j - i := by unfold bsG; rw [h7, h8]
def bsJ (x : V) (L : List Int) (w : Int) (st : St) (e : Env) (s : St) : Prop := ∃ i j : Nat, i ≤ j ∧ j ≤ L.length ∧ i ≤ cntL w L ∧ cntL w L ≤ j ∧ e.get 0 = some x ∧ e.get 1 = some (.int .i64 w) ∧ e.get 6 = some (.int .i64 (L.length : Int)) ∧ e.get 7 = some (.int .i64 (i : Int)) ∧ e.get 8 = some (.int .i64 (j : Int)) ∧ s = st
theorem half_w {a : Nat} (h : a ≤ 2000000) : (max (IntKind.i64.wrap (a : Int) % 18446744073709551616) 0 >>> 1 : Int) = ((a / 2 : Nat) : Int) := by
  have h1 : IntKind.i64.wrap (a : Int) = (a : Int) := wrap_in (by omega) (by omega)
  rw [h1]
  have h2 : ((a : Int) % 18446744073709551616) = (a : Int) := Int.emod_eq_of_lt (by omega) (by omega)
  rw [h2, Int.max_eq_left (by omega)]
  show Int.shiftRight (a : Int) 1 = _
  rw [show Int.shiftRight (a : Int) 1 = ((a >>> 1 : Nat) : Int) from rfl, Nat.shiftRight_eq_div_pow]
set_option maxRecDepth 20000 in
set_option maxHeartbeats 8000000 in
theorem bs_any (st : St) (x : V) (L : List Int) (w : Int) (hr : RisI L) (hl : L.length ≤ 1000000) (hx : RdRow st x 1 L.length (L.map fun v => .int .i64 v)) (nt : Nat) : Gd (callL Try.prog ⟨false, [], 0, nt⟩ 173 [x, .int .i64 w] st) fun r => r = (.t [.int .i64 (cntL w L : Int), .bool (decide (L[cntL w L]? = some w))], st) := by
  rw [Gd_callL Try.func173 rfl]
  have hwu : wantK true (some V.u) = false := rfl
  have hwf : wantK false (some V.u) = false := rfl
  simp [evOp_call, sets, T.get_set, hx.lenS]
  refine Gd_loop (bsJ x L w st) (fun e _ => bsG e) ?_ ?_
  · exact ⟨0, L.length, Nat.zero_le _, Nat.le_refl _, Nat.zero_le _, cntL_le _ _, by simp [T.get_set], by simp [T.get_set], by simp [T.get_set], by simp [T.get_set], by simp [T.get_set], rfl⟩
  rintro e s ⟨i, j, hij, hj, h1, h2, g0, g1, g6, g7, g8, rfl⟩
  by_cases hlt : i < j
  · have hlt' : (i : Int) < (j : Int) := by omega
    simp [evOp_call, T.get_set, g0, g1, g6, g7, g8, hwu, hlt']
    rw [show ((i : Int) + (j : Int)) = ((i + j : Nat) : Int) by omega, half_w (by omega)]
    obtain ⟨k, hk⟩ : ∃ k, k = (i + j) / 2 := ⟨_, rfl⟩
    rw [← hk]
    have k1 : i ≤ k := by omega
    have k2 : k < j := by omega
    have hkl : k < L.length := by omega
    have h00 : ∀ f : Nat → Res, asNat (V.int .i64 (k : Int)) f = f k := fun _ => rfl
    obtain ⟨m1, o1, ty1, sz1, tr1, i1, b1, t1, l1, c1⟩ := hx.idx (st := s) un76 io3 (i := k) hkl
    have d0 : tr1.get o1 = some (.int .i64 L[k]) := by
      have := c1 0 (.int .i64 L[k]) (by omega) (by simp [hkl])
      simpa using this
    rw [h00, i1]
    have hw1 : IntKind.i64.wrap ((k : Int) + 1) = ((k + 1 : Nat) : Int) := wrap_in (by omega) (by omega)
    simp [evOp_call, T.get_set, g0, g1, g6, g7, g8, hwu, loadE_eq, getC_eq, t1, d0]
    refine Gd.mono (less_any s L[k] w _) ?_
    rintro _ rfl
    have hcl := cntL_lt hr hkl (w := w)
    simp [evOp_call, T.get_set, g0, g1, g6, g7, g8]
    by_cases hlw : L[k] < w
    · simp [evOp_call, T.get_set, g0, g1, g6, g7, g8, hlw, hw1]
      exact ⟨⟨k + 1, j, by omega, hj, by have := hcl.2 hlw; omega, h2, by simp [T.get_set, g0], by simp [T.get_set, g1], by simp [T.get_set, g6], by simp [T.get_set], by simp [T.get_set, g8], rfl⟩, by rw [bsG_eq g7 g8, bsG_eq (i := k + 1) (j := j) (by simp [T.get_set]) (by simp [T.get_set, g8])]; omega⟩
    · simp [evOp_call, T.get_set, g0, g1, g6, g7, g8, hlw, hw1]
      exact ⟨⟨i, k, by omega, by omega, h1, by have := fun h => hlw (hcl.1 h); omega, by simp [T.get_set, g0], by simp [T.get_set, g1], by simp [T.get_set, g6], by simp [T.get_set, g7], by simp [T.get_set], rfl⟩, by rw [bsG_eq g7 g8, bsG_eq (i := i) (j := k) (by simp [T.get_set, g7]) (by simp [T.get_set])]; omega⟩
  · obtain rfl : i = j := by omega
    have hc : cntL w L = i := by omega
    simp [evOp_call, T.get_set, g0, g1, g6, g7, g8, hwu, hwf, sets]
    by_cases hil : i < L.length
    · obtain ⟨m1, o1, ty1, sz1, tr1, i1, b1, t1, l1, c1⟩ := hx.idx (st := s) un76 io3 (i := i) hil
      have d0 : tr1.get o1 = some (.int .i64 L[i]) := by
        have := c1 0 (.int .i64 L[i]) (by omega) (by simp [hil])
        simpa using this
      simp [evOp_call, T.get_set, g0, g1, g6, g7, g8, hwu, hwf, sets, hil, i1, loadE_eq, getC_eq, t1, d0]
      by_cases hw : L[i] = w
      · simp [evOp_call, T.get_set, g0, g1, g6, g7, g8, hwu, hwf, sets, hw]
        exact ⟨by rw [hc], by rw [hc, List.getElem?_eq_getElem hil, hw]⟩
      · simp [evOp_call, T.get_set, g0, g1, g6, g7, g8, hwu, hwf, sets, hil, hw, i1, loadE_eq, getC_eq, t1, d0]
        rw [Gd_callL Try.func210 rfl]
        simp [evOp_call, T.get_set, g0, g1, g6, g7, g8, hwu, hwf, sets, hil, hw]
        exact ⟨by rw [hc], by rw [hc, List.getElem?_eq_getElem hil]; intro h; injection h with h; exact hw h⟩
    · simp [evOp_call, T.get_set, g0, g1, g6, g7, g8, hwu, hwf, sets, hil]
      exact ⟨by rw [hc], by rw [hc, List.getElem?_eq_none (by omega)]; intro h; cases h⟩
end Go.Proofs.Ytdoennkmcloalaa

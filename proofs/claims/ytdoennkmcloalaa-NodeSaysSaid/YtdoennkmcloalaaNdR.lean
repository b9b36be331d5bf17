/-
  The document's own nodes: zero, Blocks, Needs.
-/
import Derived.Test.YtdoennkmcloalaaNdH
set_option linter.unusedSimpArgs false
namespace Go.Proofs.Ytdoennkmcloalaa
open Go.RowKit Ev
def zeroN (N : Nd) : Bool := decide (N.t = 0 ∧ N.l = 0 ∧ N.s = 0 ∧ N.R.length = 0)
theorem rzero_any (st : St) (N : Nd) (y : V) (hy : RdRow st y 2 N.R.length (pairs N.R)) (nt : Nat) :
    Gd (callL Try.prog ⟨false, [], 0, nt⟩ 129 [ndV N y] st) fun r => r.1 = .bool (zeroN N) ∧ Ext st.nx st r.2 := by
  rw [Gd_callL Try.func129 rfl]
  have hcell : ∀ k : List V → Res, cellsOf (ndV N y) k = k [.int .i64 N.t, .int .i64 N.l, .int .i64 N.s, y] := fun k => rfl
  unfold zeroN
  by_cases h0 : N.t = 0
  · by_cases h1 : N.l = 0
    · by_cases h2 : N.s = 0
      · simp [hcell, evOp_call, sets, T.get_set, newC_is, loadE_eq, getC_eq, h0, h1, h2, hy.lenS]
        exact bx_ext st _
      · simp [hcell, evOp_call, sets, T.get_set, newC_is, loadE_eq, getC_eq, h0, h1, h2]
        exact bx_ext st _
    · simp [hcell, evOp_call, sets, T.get_set, newC_is, loadE_eq, getC_eq, h0, h1]
      exact bx_ext st _
  · simp [hcell, evOp_call, sets, T.get_set, newC_is, loadE_eq, getC_eq, h0]
    exact bx_ext st _
def rbI (st : St) (R : List (Int × Int)) (y : V) (e : Env) (s : St) : Prop := ∃ k : Nat, k ≤ R.length ∧ e.get 1 = some (.p st.nx 0) ∧ e.get 3 = some (.int .i64 (sumN (R.take k))) ∧ e.get 4 = some (.int .i64 (k : Int)) ∧ Ext st.nx st s ∧ ∃ t, s.h.get st.nx = some (.cs 44 4 t) ∧ t.get 3 = some y
set_option maxRecDepth 20000 in
set_option maxHeartbeats 4000000 in
theorem rblocks_any (st : St) (N : Nd) (y : V) (hy : RdRow st y 2 N.R.length (pairs N.R)) (hK : N.R.length ≤ 1000000) (nt : Nat) :
    Gd (callL Try.prog ⟨false, [], 0, nt⟩ 47 [ndV N y] st) fun r => r.1 = .int .i64 (sumN N.R) ∧ Ext st.nx st r.2 := by
  rw [Gd_callL Try.func47 rfl]
  have hcell : ∀ k : List V → Res, cellsOf (ndV N y) k = k [.int .i64 N.t, .int .i64 N.l, .int .i64 N.s, y] := fun k => rfl
  simp [hcell, evOp_call, sets, T.get_set, newC_is, loadE_eq, getC_eq]
  refine Gd_loop (rbI st N.R y) (fun en _ => muAt 4 N.R.length en) ?_ ?_
  · exact ⟨0, Nat.zero_le _, by simp [T.get_set], by simp [T.get_set, sumN], by simp [T.get_set], bx_ext st _, _, T.get_set_same _ _ _, by simp [T.get_set]⟩
  · rintro en s ⟨k, hk, g1, g3, g4, hs, tb, kb, kb3⟩
    have hys := hy.ext hs
    by_cases hlt : k < N.R.length
    · have hlt' : (k : Int) < N.R.length := by omega
      have hwk := wrap_nat (n := k) (by omega)
      obtain ⟨m, o, ty, sz, tr, hid, hm, hg, ho, hc⟩ := hys.idx (st := s) un42 io182 hlt
      obtain ⟨⟨F, L⟩, hr⟩ : ∃ r, N.R[k]? = some r := ⟨_, List.getElem?_eq_getElem hlt⟩
      have hcl := pairs_at N.R k _ hr
      have t1 : tr.get (o + 1) = some (.int .i64 L) := hc 1 _ (by omega) hcl.2
      simp [evOp_call, T.get_set, g1, g3, g4, kb, kb3, hys.lenS, hlt', hid, loadE_eq, getC_eq, hg, t1, hwk]
      exact ⟨⟨k + 1, hlt, by simp [T.get_set, g1], by simp [T.get_set, sumN_take hr], by simp [T.get_set], hs, tb, kb, kb3⟩, muAt_lt g4 (by simp [T.get_set]) hlt⟩
    · obtain rfl : k = N.R.length := by omega
      rw [List.take_length] at g3
      simp [evOp_call, T.get_set, g1, g3, g4, kb, kb3, hys.lenS, loadE_eq, getC_eq]
      exact hs
theorem rneeds_any (st : St) (N : Nd) (y : V) (hs : N.s ≤ 9223372036854775807) (nt : Nat) :
    Gd (callL Try.prog ⟨false, [], 0, nt⟩ 49 [ndV N y] st) fun r => r.1 = .int .i64 (needN N) ∧ Ext st.nx st r.2 := by
  rw [Gd_callL Try.func49 rfl]
  have hcell : ∀ k : List V → Res, cellsOf (ndV N y) k = k [.int .i64 N.t, .int .i64 N.l, .int .i64 N.s, y] := fun k => rfl
  unfold needN
  by_cases h0 : N.s < 0
  · simp [hcell, evOp_call, sets, T.get_set, newC_is, loadE_eq, getC_eq, h0]
    exact bx_ext st _
  · have hd : N.s.tdiv 64 = N.s / 64 := Int.tdiv_eq_ediv_of_nonneg (by omega)
    have hm : N.s.tmod 64 = N.s % 64 := Int.tmod_eq_emod_of_nonneg (by omega)
    have hd2 : (N.s % 64 + 63).tdiv 64 = (N.s % 64 + 63) / 64 := Int.tdiv_eq_ediv_of_nonneg (by omega)
    have w1 : IntKind.i64.wrap (N.s / 64) = N.s / 64 := wrap_in (by omega) (by omega)
    have w3 : IntKind.i64.wrap (N.s % 64) = N.s % 64 := wrap_in (by omega) (by omega)
    have w4 : IntKind.i64.wrap (N.s % 64 + 63) = N.s % 64 + 63 := wrap_in (by omega) (by omega)
    have w5 : IntKind.i64.wrap ((N.s % 64 + 63) / 64) = (N.s % 64 + 63) / 64 := wrap_in (by omega) (by omega)
    have w6 : IntKind.i64.wrap (N.s / 64 + (N.s % 64 + 63) / 64) = upDiv N.s := by
      rw [wrap_in (by omega) (by omega)]
      unfold upDiv
      split <;> omega
    by_cases t1 : N.t = 1
    · simp [hcell, evOp_call, sets, T.get_set, newC_is, loadE_eq, getC_eq, h0, t1, hd, hm, hd2, w1, w3, w4, w5, w6]
      exact bx_ext st _
    · by_cases t3 : N.t = 3
      · simp [hcell, evOp_call, sets, T.get_set, newC_is, loadE_eq, getC_eq, h0, t1, t3, hd, hm, hd2, w1, w3, w4, w5, w6]
        exact bx_ext st _
      · by_cases t2 : N.t = 2
        · simp [hcell, evOp_call, sets, T.get_set, newC_is, loadE_eq, getC_eq, h0, t1, t3, t2]
          exact bx_ext st _
        · simp [hcell, evOp_call, sets, T.get_set, newC_is, loadE_eq, getC_eq, h0, t1, t3, t2]
          exact bx_ext st _
end Go.Proofs.Ytdoennkmcloalaa

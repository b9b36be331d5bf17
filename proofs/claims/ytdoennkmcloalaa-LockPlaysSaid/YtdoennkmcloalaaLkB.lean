/-
  Contracts of package slices, for rows of at most one: BinarySearch, Insert, Delete.
-/
import Derived.Test.YtdoennkmcloalaaLkA
import Derived.Test.YtdoennkmcloalaaMid
set_option linter.unusedSimpArgs false
set_option linter.unusedVariables false
namespace Go.Proofs.Ytdoennkmcloalaa
open Go.RowKit Ev
noncomputable def bsM (e : Env) : Nat := match e.get 8 with
  | some (.c (.int _ (.ofNat k))) => k
  | _ => 0
theorem bsM_eq {e : Env} {j : Nat} (h : e.get 8 = some (.int .i64 (j : Int))) : bsM e = j := by unfold bsM; rw [h]
def bsI (x : V) (n : Nat) (w : Int) (st : St) (e : Env) (s : St) : Prop := ∃ j : Nat, j ≤ n ∧ e.get 0 = some x ∧ e.get 1 = some (.int .i64 w) ∧ e.get 6 = some (.int .i64 (n : Int)) ∧ e.get 7 = some (.int .i64 0) ∧ e.get 8 = some (.int .i64 (j : Int)) ∧ s = st
set_option maxRecDepth 20000 in
set_option maxHeartbeats 4000000 in
theorem less_any (st : St) (a b : Int) (nt : Nat) : Gd (callL Try.prog ⟨false, [], 0, nt⟩ 209 [.int .i64 a, .int .i64 b] st) fun r => r = (.bool (decide (a < b)), st) := by
  rw [Gd_callL Try.func209 rfl]
  have hwu : wantK true (some V.u) = false := rfl
  simp [evOp_call, sets, T.get_set]
  rw [Gd_callL Try.func188 rfl]
  simp [evOp_call, sets, T.get_set, hwu]
set_option maxRecDepth 20000 in
set_option maxHeartbeats 4000000 in
theorem bs_nil (st : St) (w : Int) (nt : Nat) : Gd (callL Try.prog ⟨false, [], 0, nt⟩ 173 [.c (.slice none 0 0), .int .i64 w] st) fun r => r = (.t [.int .i64 0, .bool false], st) := by
  rw [Gd_callL Try.func173 rfl]
  have hwu : wantK true (some V.u) = false := rfl
  have hwf : wantK false (some V.u) = false := rfl
  have hln : ∀ s : St, lenS s (V.c (.slice none 0 0)) = some (.int .i64 0, s) := fun s => (OwnRow.nil 0 s 1).rd.lenS s
  simp [evOp_call, sets, T.get_set, hln]
  refine Gd_loop (bsI (.c (.slice none 0 0)) 0 w st) (fun e _ => 0) ?_ ?_
  · exact ⟨0, Nat.le_refl _, by simp [T.get_set], by simp [T.get_set], by simp [T.get_set], by simp [T.get_set], by simp [T.get_set], rfl⟩
  rintro e s ⟨j, hj, g0, g1, g6, g7, g8, rfl⟩
  obtain rfl : j = 0 := by omega
  simp [evOp_call, T.get_set, g0, g1, g6, g7, g8, hwu, hwf, sets]
set_option maxRecDepth 20000 in
set_option maxHeartbeats 4000000 in
theorem bs_one (st : St) (x : V) (w : Int) (hx : RdRow st x 1 1 [.int .i64 w]) (nt : Nat) : Gd (callL Try.prog ⟨false, [], 0, nt⟩ 173 [x, .int .i64 w] st) fun r => r = (.t [.int .i64 0, .bool true], st) := by
  rw [Gd_callL Try.func173 rfl]
  have hwu : wantK true (some V.u) = false := rfl
  have hwf : wantK false (some V.u) = false := rfl
  obtain ⟨m1, o1, ty1, sz1, tr1, i1, b1, k1, l1, c1⟩ := hx.idx (st := st) un76 io3 (i := 0) (by omega)
  have d0 : tr1.get o1 = some (.int .i64 w) := by simpa using c1 0 _ (by omega) rfl
  have hcv : ∀ c : Cx, convE Try.prog c st 3 179 (.int .i64 1) = some (.int .u64 1, st) := fun c => by kernel_rfl
  simp [evOp_call, sets, T.get_set, hx.lenS]
  refine Gd_loop (bsI x 1 w st) (fun e _ => bsM e) ?_ ?_
  · exact ⟨1, Nat.le_refl _, by simp [T.get_set], by simp [T.get_set], by simp [T.get_set], by simp [T.get_set], by simp [T.get_set], rfl⟩
  rintro e s ⟨j, hj, g0, g1, g6, g7, g8, rfl⟩
  rcases (show j = 0 ∨ j = 1 by omega) with rfl | rfl
  · simp [evOp_call, T.get_set, g0, g1, g6, g7, g8, hwu, hwf, i1, loadE_eq, getC_eq, k1, d0, sets]
  · simp [evOp_call, T.get_set, g0, g1, g6, g7, g8, hwu]
    have h0 : max (IntKind.i64.wrap 1 % 18446744073709551616) 0 >>> 1 = 0 := by decide
    have hmw : IntKind.i64.wrap 0 = 0 := by decide
    have h00 : ∀ f : Nat → Res, asNat (V.int .i64 0) f = f 0 := fun _ => rfl
    rw [h0, h00, i1]
    simp [evOp_call, T.get_set, g0, g1, g6, g7, g8, hwu, loadE_eq, getC_eq, k1, d0]
    refine Gd.mono (less_any s w w _) ?_
    rintro _ rfl
    simp [evOp_call, T.get_set, g0, g1, g6, g7, g8]
    exact ⟨⟨0, by omega, by simp [T.get_set, g0], by simp [T.get_set, g1], by simp [T.get_set, g6], by simp [T.get_set, g7], by simp [T.get_set], rfl⟩, by rw [bsM_eq g8, bsM_eq (j := 0) (by simp [T.get_set])]; decide⟩
set_option maxRecDepth 20000 in
set_option maxHeartbeats 4000000 in
theorem ins_nil (st : St) (v : V) (w : Int) (hv : RdRow st v 1 1 [.int .i64 w]) (nt : Nat) : Gd (callL Try.prog ⟨false, [], 0, nt⟩ 177 [.c (.slice none 0 0), .int .i64 0, v] st) fun r => OwnRow st.nx r.2 r.1 1 1 [.int .i64 w] ∧ Ext st.nx st r.2 := by
  rw [Gd_callL Try.func177 rfl]
  have hln : ∀ s : St, lenS s (V.c (.slice none 0 0)) = some (.int .i64 0, s) := fun s => (OwnRow.nil 0 s 1).rd.lenS s
  have hsl : ∀ (c : Cx) (e : Env), e.get 11 = some (.int .i64 0) → sliceK Try.prog c e st 76 (V.c (.slice none 0 0)) (some (.tmp 11)) none = some (V.c (.slice none 0 0), st) := fun c e h => by
    unfold sliceK sliceE
    rw [un76]
    have hb : ∀ f : Nat → Res, bnd e 0 (some (.tmp 11)) f = f 0 := fun f => bnd_at (i := .i64) (k := 0) (by simp [h]) f
    have hb2 : ∀ f : Nat → Res, bnd e 0 none f = f 0 := fun _ => rfl
    simp only [infoOk_sz io3, hb, hb2]
  simp [evOp_call, sets, T.get_set]
  rw [hsl _ _ (by simp [T.get_set])]
  simp [evOp_call, sets, T.get_set, hv.lenS, hln]
  refine Gd_append_nil (b := st.nx) un76 un76 io3 (Nat.le_refl _) (by decide) hv.notS hv.len (fun k => hv.firsts k) hv.1 (by omega) ?_
  intro y s1 hy x1 _
  simp [evOp_call, sets, T.get_set]
  exact ⟨hy, x1⟩
end Go.Proofs.Ytdoennkmcloalaa

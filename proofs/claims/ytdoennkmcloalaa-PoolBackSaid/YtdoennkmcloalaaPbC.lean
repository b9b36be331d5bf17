/-
  Contracts: sorting of at most one; Merge, Split, Cut, Apart of at most one run.
-/
import Derived.Test.YtdoennkmcloalaaPbB
set_option linter.unusedSimpArgs false
set_option linter.unusedVariables false
namespace Go.Proofs.Ytdoennkmcloalaa
open Go.RowKit Ev
set_option maxRecDepth 100000 in
set_option maxHeartbeats 8000000 in
theorem len1_any (st : St) (n : Nat) (h2 : n ≤ 1) (nt : Nat) :
    Gd (callL Try.prog ⟨false, [], 0, nt⟩ 187 [wd (BitVec.ofNat 64 n)] st) fun r => (∃ k : Int, r.1 = .int .i64 k) ∧ r.2 = st := by
  rw [Gd_callL Try.func187 rfl]
  simp [evOp_call, sets, T.get_set]
  rw [Gd_callL Try.func229 rfl]
  have hn : (BitVec.ofNat 64 n).toNat = n := by rw [BitVec.toNat_ofNat]; omega
  have c1 : ¬ 4294967296#64 ≤ BitVec.ofNat 64 n := by rw [BitVec.le_def, hn]; simp; omega
  have c2 : ¬ 65536#64 ≤ BitVec.ofNat 64 n := by rw [BitVec.le_def, hn]; simp; omega
  have c3 : ¬ 256#64 ≤ BitVec.ofNat 64 n := by rw [BitVec.le_def, hn]; simp; omega
  have hwu : IntKind.u8.wrap (n : Int) = (n : Int) := by
    rcases (show n = 0 ∨ n = 1 by omega) with rfl | rfl <;> decide
  have hcv : ∀ cx : Cx, convE Try.prog cx st 24 5 (wd (BitVec.ofNat 64 n)) = some (.int .u8 (n : Int), st) := fun cx => by
    have h := conv_int (P := Try.prog) (c := cx) (st := st) (src := 24) (dst := 5) (k' := .u64) (by rw [un24]; rfl) un5 ((BitVec.ofNat 64 n).toNat : Int)
    rw [hn, hwu] at h
    have e : wd (BitVec.ofNat 64 n) = .c (.int .u64 (n : Int)) := by unfold wd; rw [hn]
    rw [e]; exact h
  have hc2 : ∀ (cx : Cx) (K : Int), convE Try.prog cx st 5 3 (.int .u8 K) = some (.int .i64 (IntKind.i64.wrap K), st) := fun cx K => conv_int (by rw [un5]; rfl) un3 K
  have w0 : IntKind.i64.wrap 0 = 0 := by decide
  have w1 : IntKind.i64.wrap 1 = 1 := by decide
  have w2 : IntKind.i64.wrap 2 = 2 := by decide
  have w3 : IntKind.i64.wrap 3 = 3 := by decide
  have w4 : IntKind.i64.wrap 4 = 4 := by decide
  have w5 : IntKind.i64.wrap 5 = 5 := by decide
  simp [evOp_call, sets, T.get_set, c1, c2, c3, hcv]
  rcases (show n = 0 ∨ n = 1 by omega) with rfl | rfl
  · refine ⟨(.int .u8 0, st), by kernel_rfl, ?_⟩
    simp [evOp_call, sets, T.get_set, hc2, w0]
  · refine ⟨(.int .u8 1, st), by kernel_rfl, ?_⟩
    simp [evOp_call, sets, T.get_set, hc2, w1]

def in1I (x F : V) (a b : Nat) (st : St) (e : Env) (s : St) : Prop := e.get 2 = some (.int .i64 (b : Int)) ∧ e.get 8 = some (.int .i64 ((a + 1 : Nat) : Int)) ∧ s = st
set_option maxRecDepth 20000 in
set_option maxHeartbeats 4000000 in
theorem ins1_any (st : St) (x F : V) (b : Nat) (hb : b ≤ 1) (nt : Nat) : Gd (callL Try.prog ⟨false, [], 0, nt⟩ 220 [x, .int .i64 0, .int .i64 (b : Int), F] st) fun r => r = (.t [], st) := by
  rw [Gd_callL Try.func220 rfl]
  have w1 : IntKind.i64.wrap 1 = 1 := by decide
  simp [evOp_call, sets, T.get_set, w1]
  refine Gd_loop (in1I x F 0 b st) (fun e _ => 0) ?_ ?_
  · exact ⟨by simp [T.get_set], by simp [T.get_set], rfl⟩
  rintro e s ⟨g2, g8, rfl⟩
  have : ¬ (1 : Int) < b := by omega
  simp [evOp_call, T.get_set, g2, g8, this, sets]
def st1I (x F : V) (b : Nat) (st : St) (e : Env) (s : St) : Prop := e.get 0 = some x ∧ e.get 1 = some (.int .i64 (b : Int)) ∧ e.get 2 = some F ∧ e.get 6 = some (.int .i64 20) ∧ e.get 7 = some (.int .i64 0) ∧ e.get 8 = some (.int .i64 20) ∧ s = st
set_option maxRecDepth 20000 in
set_option maxHeartbeats 4000000 in
theorem stable1_any (st : St) (x F : V) (b : Nat) (hb : b ≤ 1) (nt : Nat) : Gd (callL Try.prog ⟨false, [], 0, nt⟩ 230 [x, .int .i64 (b : Int), F] st) fun r => r = (.t [], st) := by
  rw [Gd_callL Try.func230 rfl]
  have h1 : ¬ (20 : Int) ≤ b := by omega
  have h2 : ¬ (20 : Int) < b := by omega
  simp [evOp_call, sets, T.get_set]
  refine Gd_loop (st1I x F b st) (fun e _ => 0) ?_ ?_
  · exact ⟨by simp [T.get_set], by simp [T.get_set], by simp [T.get_set], by simp [T.get_set], by simp [T.get_set], by simp [T.get_set], rfl⟩
  rintro e s ⟨g0, g1, g2, g6, g7, g8, rfl⟩
  simp [evOp_call, T.get_set, g0, g1, g2, g6, g7, g8, h1]
  refine Gd.mono (ins1_any s x F b hb _) ?_
  rintro _ rfl
  simp [evOp_call, T.get_set, g0, g1, g2, g6, g7, g8]
  refine Gd_loop (st1I x F b s) (fun e _ => 0) ?_ ?_
  · exact ⟨by simp [T.get_set, g0], by simp [T.get_set, g1], by simp [T.get_set, g2], by simp [T.get_set, g6], by simp [T.get_set, g7], by simp [T.get_set, g8], rfl⟩
  rintro e s ⟨g0, g1, g2, g6, g7, g8, rfl⟩
  simp [evOp_call, T.get_set, g0, g1, g2, g6, g7, g8, h2, sets]
set_option maxRecDepth 20000 in
set_option maxHeartbeats 4000000 in
theorem sortS1_any (st : St) (x F : V) (K : List Rn) (hx : RdRow st x 2 K.length (cells K)) (hK : K.length ≤ 1) (nt : Nat) : Gd (callL Try.prog ⟨false, [], 0, nt⟩ 191 [x, F] st) fun r => r = (.t [], st) := by
  rw [Gd_callL Try.func191 rfl]
  simp [evOp_call, sets, T.get_set, hx.lenS]
  refine Gd.mono (stable1_any st x F K.length hK _) ?_
  rintro _ rfl
  simp [evOp_call, sets, T.get_set]
def pd1I (x F : V) (b : Nat) (w : Int) (st : St) (e : Env) (s : St) : Prop := e.get 0 = some x ∧ e.get 1 = some (.int .i64 0) ∧ e.get 2 = some (.int .i64 (b : Int)) ∧ e.get 3 = some (.int .i64 w) ∧ e.get 4 = some F ∧ s = st
set_option maxRecDepth 20000 in
set_option maxHeartbeats 4000000 in
theorem sortF1_any (st : St) (x F : V) (K : List Rn) (hx : RdRow st x 2 K.length (cells K)) (hK : K.length ≤ 1) (nt : Nat) : Gd (callL Try.prog ⟨false, [], 0, nt⟩ 139 [x, F] st) fun r => r = (.t [], st) := by
  rw [Gd_callL Try.func139 rfl]
  simp [evOp_call, sets, T.get_set, hx.lenS]
  refine Gd.mono (len1_any st K.length hK _) ?_
  rintro ⟨r, s1⟩ ⟨⟨w, hr⟩, e1⟩
  simp only at hr e1
  subst hr e1
  simp [evOp_call, sets, T.get_set]
  rw [Gd_callL Try.func186 rfl]
  have w0 : IntKind.i64.wrap (K.length : Int) = (K.length : Int) := wrap_in (by omega) (by omega)
  have h12 : (K.length : Int) ≤ 12 := by omega
  simp [evOp_call, sets, T.get_set]
  refine Gd_loop (pd1I x F K.length w s1) (fun e _ => 0) ?_ ?_
  · exact ⟨by simp [T.get_set], by simp [T.get_set], by simp [T.get_set], by simp [T.get_set], by simp [T.get_set], rfl⟩
  rintro e s ⟨g0, g1, g2, g3, g4, rfl⟩
  simp [evOp_call, T.get_set, g0, g1, g2, g3, g4, w0, h12]
  refine Gd.mono (ins1_any s x F K.length hK _) ?_
  rintro _ rfl
  simp [evOp_call, T.get_set, sets]
end Go.Proofs.Ytdoennkmcloalaa

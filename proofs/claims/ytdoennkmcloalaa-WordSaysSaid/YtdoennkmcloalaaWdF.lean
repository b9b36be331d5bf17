/-
  Contracts of package word and of the document's own answer: a word put into bytes.
-/
import Derived.Test.YtdoennkmcloalaaWdE
set_option linter.unusedSimpArgs false
namespace Go.Proofs.Ytdoennkmcloalaa
open Go.RowKit Ev
def putN (B : List Int) (o : Nat) (v : BitVec 64) (i : Nat) : List Int := B.take o ++ bytesN v i ++ B.drop (o + i)
def putF (B : List Int) (k : Int) (v : BitVec 64) : List Int := if inB B k then putN B (8 * k.toNat) v 8 else B
theorem putN_len {B : List Int} {o i : Nat} (v : BitVec 64) (h : o + i ≤ B.length) : (putN B o v i).length = B.length := by
  unfold putN; simp [bytesN_len]; omega
theorem putN_zero (B : List Int) (o : Nat) (v : BitVec 64) : putN B o v 0 = B := by unfold putN; simp [bytesN]
theorem putN_set {B : List Int} {o i : Nat} {v : BitVec 64} (h : o + i < B.length) : (putN B o v i).set (o + i) (byteN v i) = putN B o v (i + 1) := by
  unfold putN
  have hl : (B.take o ++ bytesN v i).length = o + i := by simp [bytesN_len]; omega
  rw [List.set_append_right _ _ (by rw [hl]; exact Nat.le_refl _), hl, Nat.sub_self]
  rw [List.drop_eq_getElem_cons h, List.set_cons_zero, bytesN_succ]
  simp [Nat.add_assoc]
theorem bv_set (B : List Int) (i : Nat) (b : Int) : bv (B.set i b) = (bv B).set i (.int .u8 b) := by unfold bv; rw [List.map_set]
theorem putF_len (B : List Int) (k : Int) (v : BitVec 64) : (putF B k v).length = B.length := by
  unfold putF
  split
  · rename_i h
    exact putN_len v (by unfold inB at h; omega)
  · rfl
/-- bytes copied -/
theorem Gd_copy8 {st : St} {x : V} {B : List Int} {m nt : Nat} {Q : V × St → Prop} (hx : RdRow st x 1 B.length (bv B)) (hB : B.length ≤ 1000000) (hm : st.h.get m = some (.cs 5 0 .lf)) (hlt : m < st.nx)
    (hQ : ∀ z st', (z = .sl m 0 0 0 ∨ OwnRow st.nx st' z 1 B.length (bv B)) → RdRow st' z 1 B.length (bv B) → Ext m st st' → Q (z, st')) : Gd (builtinE Try.prog ⟨false, [], 0, nt⟩ .append [22, 22] [.sl m 0 0 0, x] st) Q := by
  refine Gd_append0 un22 un22 io5 (by decide) hm hx.notS (fun k => hx.len k) (fun k => hx.firsts k) hx.1 (by omega) (fun h0 => ?_) fun h1 => ?_
  · have e : B = [] := List.length_eq_zero_iff.1 h0
    subst e
    exact hQ _ _ (.inl rfl) ⟨rfl, .inr (.inl ⟨m, 0, 0, 5, 0, .lf, rfl, hlt, T.get_set_same _ _ _, Nat.le_refl _, fun j v h => by simp [bv] at h⟩)⟩ ((Ext.refl m st).set (Nat.le_refl _) hlt _)
  · have ho : OwnRow st.nx ⟨st.nx + 1, st.h.set st.nx (.cs 5 (bv B).length (sets (bv B) 0 .lf))⟩ (.sg st.nx 0 B.length 1) 1 B.length (bv B) := by
      refine ⟨hx.1, .inr ⟨st.nx, 5, sets (bv B) 0 .lf, rfl, Nat.le_refl _, Nat.lt_succ_self _, ?_, by decide, fun j v hj => ?_⟩⟩
      · rw [← hx.1]; exact T.get_set_same _ _ _
      · have hjl := lt_of_get hj
        rw [get_sets, if_pos ⟨Nat.zero_le _, by omega⟩]
        simpa using hj
    exact hQ _ _ (.inr ho) ho.rd (((Ext.refl st.nx st).new (Nat.le_refl _) _).mono (by omega))
def rpI (st : St) (k : Nat) (v : BitVec 64) (B : List Int) (e : Env) (s : St) : Prop := ∃ (i : Nat) (z : V), i ≤ 8 ∧ e.get 1 = some (.int .i64 (k : Int)) ∧ e.get 2 = some (wd v) ∧ e.get 8 = some z ∧ e.get 9 = some (.int .i64 (i : Int)) ∧ OwnRow st.nx s z 1 B.length (bv (putN B (8 * k) v i)) ∧ Ext st.nx st s
set_option maxRecDepth 20000 in
set_option maxHeartbeats 4000000 in
theorem rput_any (st : St) (x : V) (B : List Int) (hx : RdRow st x 1 B.length (bv B)) (hB : B.length ≤ 1000000) (k : Int) (v : BitVec 64) (nt : Nat) :
    Gd (callL Try.prog ⟨false, [], 0, nt⟩ 21 [x, .int .i64 k, wd v] st) fun r => ∃ z, r.1 = .t [z, .bool (decide (inB B k))] ∧ RdRow r.2 z 1 B.length (bv (putF B k v)) ∧ Ext st.nx st r.2 := by
  rw [Gd_callL Try.func21 rfl]
  have h0 : ¬ (8 : Int) = 0 := by decide
  have w0 : IntKind.i64.wrap ((B.length : Int) / 8) = (B.length : Int) / 8 := wrap_in (by omega) (by omega)
  simp [evOp_call, sets, T.get_set]
  rw [evOp_build0 (fun k => el22 k) (fun k => ze5 k) rfl]
  simp [evOp_call, T.get_set]
  have he : Ext st.nx st ⟨st.nx + 1, st.h.set st.nx (.cs 5 0 .lf)⟩ := (Ext.refl _ _).new (Nat.le_refl _) _
  refine Gd_copy8 (hx.ext he) hB (T.get_set_same _ _ _) (Nat.lt_succ_self _) ?_
  intro z s1 hz hzr hx1
  have e1 : Ext st.nx st s1 := he.trans hx1
  have hx2 := hx.ext e1
  unfold putF inB
  by_cases c1 : k < 0
  · have c1' : ¬ 0 ≤ k := by omega
    simp [evOp_call, sets, T.get_set, c1, c1']
    exact ⟨hzr, e1⟩
  have c1' : 0 ≤ k := by omega
  by_cases c2 : (B.length : Int) / 8 ≤ k
  · have c2' : ¬ k < (B.length : Int) / 8 := by omega
    simp [evOp_call, sets, T.get_set, c1, c2, c2', hx2.lenS, len8 B hB, w0, h0]
    exact ⟨hzr, e1⟩
  have c2' : k < (B.length : Int) / 8 := by omega
  obtain ⟨n, rfl⟩ : ∃ n : Nat, k = (n : Int) := ⟨k.toNat, by omega⟩
  have hn : 8 * n + 8 ≤ B.length := by omega
  have hown : OwnRow st.nx s1 z 1 B.length (bv B) := by
    rcases hz with rfl | h
    · rcases hzr.2 with ⟨e | e, _⟩ | ⟨m, o, q, ty, sz, t, e, _⟩ | ⟨m, o, ty, sz, t, e, _⟩
      · cases e
      · cases e
      · injection e with _ _ e3 _; omega
      · cases e
    · obtain ⟨a1, a2⟩ := h
      refine ⟨a1, ?_⟩
      rcases a2 with a2 | ⟨m, ty, t, e, a3, a4⟩
      · exact .inl a2
      · exact .inr ⟨m, ty, t, e, Nat.le_trans (Nat.le_succ _) a3, a4⟩
  simp [evOp_call, sets, T.get_set, c1, c2, c2', hx2.lenS, len8 B hB, w0, h0]
  refine Gd_loop (rpI st n v B) (fun en _ => muAt 9 8 en) ?_ ?_
  · exact ⟨0, z, by omega, by simp [T.get_set], by simp [T.get_set], by simp [T.get_set], by simp [T.get_set], by rw [putN_zero]; exact hown, e1⟩
  · rintro en s ⟨i, z, hi, g1, g2, g8, g9, hrow, hxs⟩
    by_cases hlt : i < 8
    · have hlt' : (i : Int) < 8 := by omega
      have w1 : IntKind.i64.wrap ((i : Int) + 1) = ((i + 1 : Nat) : Int) := by rw [show ((i : Int) + 1) = ((i + 1 : Nat) : Int) by omega]; exact wrap_in (by omega) (by omega)
      have w2 : IntKind.i64.wrap (8 * (n : Int)) = 8 * (n : Int) := wrap_in (by omega) (by omega)
      have w3 : IntKind.i64.wrap (8 * (n : Int) + (i : Int)) = 8 * (n : Int) + (i : Int) := wrap_in (by omega) (by omega)
      have w4 : IntKind.i64.wrap (8 * (i : Int)) = 8 * (i : Int) := wrap_in (by omega) (by omega)
      have h10 : (8 * (i : Int) % 18446744073709551616).toNat = 8 * i := by omega
      have hin : 8 * n + i < B.length := by omega
      have has8 : ∀ f : Nat → Res, asNat (.int .i64 (8 * (n : Int) + (i : Int))) f = f (8 * n + i) := fun f => by
        rw [show 8 * (n : Int) + (i : Int) = ((8 * n + i : Nat) : Int) by omega]
        exact asNat_cast ..
      obtain ⟨m, ty, t, e, hb, hm, hg, hro, hc, hput⟩ := hrow.put (i := 8 * n + i) (by omega)
      subst e
      have hid : ∀ k : V → Res, idxE Try.prog 22 (.sg m 0 B.length 1) (8 * n + i) k = k (.p m (8 * n + i)) := fun k => by
        rw [idxE_sg un22 (fun k => infoOk_sz io5 k), if_pos (by omega)]; simp
      simp [evOp_call, T.get_set, g1, g2, g8, g9, hlt', w2, w3, w4, h10, un179, conv_byte, has8, hid, putB_eq, hg, hro, sets, hin]
      rw [if_pos (show 8 * n + i + 1 ≤ B.length by omega)]
      simp [evOp_call, T.get_set, g1, g2, g8, g9, w1]
      refine ⟨⟨i + 1, .sg m 0 B.length 1, by omega, by simp [T.get_set, g1], by simp [T.get_set, g2], by simp [T.get_set, g8], by simp [T.get_set], ?_, hxs.set hb hm _⟩, muAt_lt g9 (by simp [T.get_set]) hlt⟩
      rw [← putN_set (show 8 * n + i < B.length by omega), bv_set]
      exact hput _
    · obtain rfl : i = 8 := by omega
      simp [evOp_call, T.get_set, g1, g2, g8, g9]
      exact ⟨hrow.rd, hxs⟩
end Go.Proofs.Ytdoennkmcloalaa

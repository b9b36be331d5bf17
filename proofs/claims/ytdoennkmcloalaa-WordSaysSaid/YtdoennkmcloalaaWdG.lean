/-
  Contracts of package word: a word put into bytes.
-/
import Derived.Test.YtdoennkmcloalaaWdF
import Derived.Test.YtdoennkmcloalaaDrw
set_option linter.unusedSimpArgs false
namespace Go.Proofs.Ytdoennkmcloalaa
open Go.RowKit Ev
theorem copy_sg {P : Program} {st : St} {t t' el n m o ld wb nt : Nat} {x : V} {l : List V} (hu : P.underlying t = some (.slice el)) (hi : infoOk P el 1 = true) (h : RdRow st x 1 n l) (hl : n ≤ ld) :
    builtinE P ⟨false, [], wb, nt⟩ .copy [t, t'] [.sg m o ld 1, x] st = putB ⟨false, [], wb, nt⟩ st m o l fun st => some (.int .i64 (n : Int), st) := by
  unfold builtinE
  have h1 : ∀ k : Nat → Res, lenA (.sg m o ld 1) k = k ld := fun k => rfl
  simp only [elemOf_ok hu hi, h1, h.len, fn_eq]
  rw [show Nat.min n ld = n from Nat.min_eq_left hl, h.firsts]
  rfl
theorem isNil_zero {v : V} {n : Nat} {l : List V} {st : St} (h : RdRow st v 1 n l) (hn : 0 < n) : isNil v = false := by
  cases hv : isNil v with
  | false => rfl
  | true => obtain ⟨_, h0⟩ := isNil_len h hv; omega
theorem clone8_any (st : St) (x : V) (B : List Int) (hx : RdRow st x 1 B.length (bv B)) (hB : B.length ≤ 1000000) (nt : Nat) :
    Gd (callL Try.prog ⟨false, [], 0, nt⟩ 115 [x] st) fun r => RdRow r.2 r.1 1 B.length (bv B) ∧ (0 < B.length → OwnRow st.nx r.2 r.1 1 B.length (bv B)) ∧ Ext st.nx st r.2 := by
  rw [Gd_callL Try.func115 rfl]
  by_cases hnil : isNil x = true
  · obtain ⟨rfl, h0⟩ := isNil_len hx hnil
    simp [evOp_call, sets, T.get_set, eql_nil un22 hx, hnil]
    exact ⟨hx, fun h => by omega, Ext.refl _ _⟩
  · simp [evOp_call, sets, T.get_set, eql_nil un22 hx, hnil]
    rw [evOp_build0 (fun k => el22 k) (fun k => ze5 k) rfl]
    simp [evOp_call, T.get_set]
    have he : Ext st.nx st ⟨st.nx + 1, st.h.set st.nx (.cs 5 0 .lf)⟩ := (Ext.refl _ _).new (Nat.le_refl _) _
    refine Gd_copy8 (hx.ext he) hB (T.get_set_same _ _ _) (Nat.lt_succ_self _) ?_
    intro z s1 hz hzr hx1
    simp [evOp_call, T.get_set]
    refine ⟨hzr, fun h => ?_, he.trans hx1⟩
    rcases hz with rfl | ho
    · rcases hzr.2 with ⟨e | e, _⟩ | ⟨m, o, q, ty, sz, t, e, _⟩ | ⟨m, o, ty, sz, t, e, _⟩
      · cases e
      · cases e
      · injection e with _ _ e3 _; omega
      · cases e
    · obtain ⟨a1, a2⟩ := ho
      refine ⟨a1, ?_⟩
      rcases a2 with a2 | ⟨m, ty, t, e, a3, a4⟩
      · exact .inl a2
      · exact .inr ⟨m, ty, t, e, Nat.le_trans (Nat.le_succ _) a3, a4⟩
set_option maxRecDepth 20000 in
set_option maxHeartbeats 4000000 in
theorem put_any (st : St) (x : V) (B : List Int) (hx : RdRow st x 1 B.length (bv B)) (hB : B.length ≤ 1000000) (k : Int) (v : BitVec 64) (nt : Nat) :
    Gd (callL Try.prog ⟨false, [], 0, nt⟩ 20 [x, .int .i64 k, wd v] st) fun r => ∃ z, r.1 = .t [z, .bool (decide (inB B k))] ∧ RdRow r.2 z 1 B.length (bv (putF B k v)) ∧ Ext st.nx st r.2 := by
  rw [Gd_callL Try.func20 rfl]
  simp [evOp_call, sets, T.get_set]
  refine Gd.mono (clone8_any st x B hx hB _) ?_
  rintro ⟨z, s1⟩ ⟨hz, hzo, x1⟩
  simp only at hz hzo x1
  have hx1 := hx.ext x1
  simp [evOp_call, sets, T.get_set]
  refine Gd.mono (has_any _ s1 x B hx1 hB k) ?_
  rintro _ rfl
  unfold putF
  by_cases h : inB B k
  case neg =>
    simp [evOp_call, sets, T.get_set, h]
    exact ⟨hz, x1⟩
  obtain ⟨h1, h2⟩ := h
  have h : inB B k := ⟨h1, h2⟩
  obtain ⟨n, rfl⟩ : ∃ n : Nat, k = (n : Int) := ⟨k.toNat, by omega⟩
  have hn : 8 * n + 8 ≤ B.length := by omega
  obtain ⟨a1, a2⟩ := hzo (by omega)
  rcases a2 with ⟨_, a2⟩ | ⟨m, ty, t, rfl, hb, hm, hg, hro, hc⟩
  · omega
  rw [Nat.mul_one] at hg
  have w2 : IntKind.i64.wrap (8 * (n : Int)) = 8 * (n : Int) := wrap_in (by omega) (by omega)
  simp [evOp_call, sets, T.get_set, h, w2]
  refine ⟨by kernel_rfl, ?_⟩
  unfold sliceK
  rw [sliceE_lo (k := 8 * n) (i := .i64) un22 io5 (by simp [T.get_set, w2]) _ _ _ (by omega), if_neg (by omega)]
  simp [evOp_call, sets, T.get_set]
  refine evOp_build1 (v := wd v) (cs := [wd v]) (fun k => el23 k) (fun k => ze24 k) rfl (by omega) (by simp [T.get_set]) (fun k => rfl) rfl ?_
  have e0 : Ext s1.nx s1 ⟨s1.nx + 1, s1.h.set s1.nx (.cs 24 1 (sets [wd v] 0 .lf))⟩ := (Ext.refl _ _).new (Nat.le_refl _) _
  have hbv := (AppRow.built (b := s1.nx) (st := s1) (el := 24) (vs := wv [v]) (n := 1) (Nat.le_refl _) (by decide) rfl).rd
  simp [evOp_call, sets, T.get_set]
  rw [cxOf_call (by kernel_rfl) (by kernel_rfl), forb_cons (by kernel_rfl) rfl]
  refine Gd.mono (bytes_any _ _ [v] hbv (by simp) _) ?_
  rintro ⟨y, s2⟩ ⟨hy, _, _, x2⟩
  simp only at hy x2
  have x12 : Ext s1.nx s1 s2 := e0.trans (x2.mono (Nat.le_succ _))
  have hg2 := (x12.keep _ hm).trans hg
  have hy8 : RdRow s2 y 1 8 (bv (bytesN v 8)) := by simpa [bytesL] using hy
  simp [evOp_call, sets, T.get_set]
  rw [cxOf_call (by kernel_rfl) (by kernel_rfl), forb_step (by kernel_rfl) (forb_cons (by kernel_rfl) rfl), copy_sg un22 io5 hy8 (by omega), putB_eq, hg2]
  have hcn : 8 * n + (bv (bytesN v 8)).length ≤ B.length ∧ ty ≠ roT ∧ 0 ≤ m := ⟨by simp [bytesN_len]; omega, hro, Nat.zero_le _⟩
  simp only [ok_top, inF_nil, Bool.not_false, cond_true, Option.bind_some, csK_cs, if_pos hcn]
  simp [evOp_call, T.get_set]
  have xx : Ext st.nx st s2 := x1.trans (x12.mono x1.le)
  refine ⟨⟨by rw [bv_length, putN_len v (by omega)]; omega, .inr (.inr ⟨m, 0, ty, B.length, sets (bv (bytesN v 8)) (8 * n) t, rfl, Nat.lt_of_lt_of_le hm x12.le, T.get_set_same _ _ _, by omega, fun j w hj => ?_⟩)⟩, xx.set hb (Nat.lt_of_lt_of_le hm x12.le) _⟩
  rw [Nat.zero_add]
  obtain ⟨b, hb', rfl⟩ := bv_of hj
  rw [get_sets, bv_length, bytesN_len]
  unfold putN at hb'
  by_cases j1 : j < 8 * n
  · rw [if_neg (by omega)]
    rw [List.append_assoc, List.getElem?_append_left (by rw [List.length_take]; omega), List.getElem?_take, if_pos j1] at hb'
    exact hc j _ (bv_get hb')
  · have hl1 : (B.take (8 * n)).length = 8 * n := by rw [List.length_take]; omega
    by_cases j2 : j < 8 * n + 8
    · rw [if_pos (by omega)]
      rw [List.getElem?_append_left (by rw [List.length_append, hl1, bytesN_len]; omega), List.getElem?_append_right (by omega), hl1] at hb'
      exact bv_get hb'
    · rw [if_neg (by omega)]
      rw [List.getElem?_append_right (by rw [List.length_append, hl1, bytesN_len]; omega), List.length_append, hl1, bytesN_len, List.getElem?_drop, show 8 * n + 8 + (j - (8 * n + 8)) = j by omega] at hb'
      exact hc j _ (bv_get hb')
end Go.Proofs.Ytdoennkmcloalaa

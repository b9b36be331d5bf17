/-
  Contracts of package pmem: words' places, the power.
-/
import Derived.Test.YtenncnbaoejekaaMm
set_option linter.unusedSimpArgs false
namespace Go.Proofs.Ytenncnbaoejekaa
open Go.RowKit Ev
theorem moff_any (st : St) (q : Nat) (v : MV) (h : MemAt st q v) (nt : Nat) :
    Gd (callL Try.prog ⟨false, [], 0, nt⟩ 41 [.p q 0] st) fun r => r = (.bool v.off, st) := by
  obtain ⟨t, h1, h2, h3, h4, h5, h6, h7, h8⟩ := h.blk
  rw [Gd_callL Try.func41 rfl]
  simp [sets, T.get_set, loadE_eq, getC_eq, h1, h3]
theorem mlines_any (st : St) (q : Nat) (v : MV) (h : MemAt st q v) (nt : Nat) :
    Gd (callL Try.prog ⟨false, [], 0, nt⟩ 45 [.p q 0] st) fun r => r = (.int .i64 (v.R.length : Int), st) := by
  obtain ⟨t, h1, h2, h3, h4, h5, h6, h7, h8⟩ := h.blk
  rw [Gd_callL Try.func45 rfl]
  simp [sets, T.get_set, loadE_eq, getC_eq, h1, h2, h.row.lenS]
theorem mon_any (st : St) (q : Nat) (v : MV) (h : MemAt st q v) (nt : Nat) :
    Gd (callL Try.prog ⟨false, [], 0, nt⟩ 34 [.p q 0] st) fun r => r.1 = .t [] ∧ MStep q v { v with off := false } st r.2 := by
  obtain ⟨t, h1, h2, h3, h4, h5, h6, h7, h8⟩ := h.blk
  rw [Gd_callL Try.func34 rfl]
  simp [sets, T.get_set, loadE_eq, getC_eq, h1, putB_eq, roT]
  obtain ⟨a1, a2⟩ := h.setB (v' := { v with off := false }) (t.set 1 (.bool false)) (by simp [memIs, T.get_set, *]) rfl rfl h.keep (fun k hk => ⟨fun e => h.q2 (by rw [← e]; exact hk), .inl hk⟩)
  exact ⟨a1, a2, fun k hk => .inl hk⟩
def word8 (R : List LR) (a : Int) : Prop := 0 ≤ a ∧ a / 8 < R.length
instance (R : List LR) (a : Int) : Decidable (word8 R a) := by unfold word8; infer_instance
def lineOf (v : MV) (a : Int) : LR := v.R[(a / 8).toNat]?.getD ⟨0, .u, ⟨[], [], [], 0⟩⟩
def wordV (v : MV) (a : Int) : V := if v.off = true then .t [.c (.pointer none), .int .i64 0, .int .i64 14] else if word8 v.R a then .t [.p (lineOf v a).n 0, .int .i64 (a % 8), .int .i64 0] else .t [.c (.pointer none), .int .i64 0, .int .i64 1]
theorem lineOf_get {v : MV} {a : Int} (h : word8 v.R a) : v.R[(a / 8).toNat]? = some (lineOf v a) := by
  obtain ⟨h1, h2⟩ := h
  unfold lineOf
  rw [List.getElem?_eq_getElem (by omega)]; rfl
theorem mword_any (st : St) (q : Nat) (v : MV) (h : MemAt st q v) (a : Int) (ha : -9223372036854775808 ≤ a ∧ a ≤ 9223372036854775807) (nt : Nat) :
    Gd (callL Try.prog ⟨false, [], 0, nt⟩ 106 [.p q 0, .int .i64 a] st) fun r => r = (wordV v a, st) := by
  obtain ⟨t, h1, h2, h3, h4, h5, h6, h7, h8⟩ := h.blk
  rw [Gd_callL Try.func106 rfl]
  unfold wordV
  cases ho : v.off with
  | true =>
    rw [ho] at h3
    simp [sets, T.get_set, loadE_eq, getC_eq, h1, h3]
  | false =>
    rw [ho] at h3
    by_cases c1 : a < 0
    · have hw : ¬ word8 v.R a := fun h => by have := h.1; omega
      simp [evOp_call, sets, T.get_set, loadE_eq, getC_eq, h1, h3, c1, hw]
    · have hd : a.tdiv 8 = a / 8 := Int.tdiv_eq_ediv_of_nonneg (by omega)
      have hm : a.tmod 8 = a % 8 := Int.tmod_eq_emod_of_nonneg (by omega)
      have w1 : IntKind.i64.wrap (a / 8) = a / 8 := wrap_in (by omega) (by omega)
      have w2 : IntKind.i64.wrap (a % 8) = a % 8 := wrap_in (by omega) (by omega)
      by_cases c2 : (v.R.length : Int) ≤ a / 8
      · have hw : ¬ word8 v.R a := fun h => by have := h.2; omega
        simp [evOp_call, sets, T.get_set, loadE_eq, getC_eq, h1, h2, h3, c1, hd, w1, h.row.lenS, c2, hw]
      · have hw : word8 v.R a := ⟨by omega, by omega⟩
        obtain ⟨i, hi⟩ : ∃ i : Nat, (i : Int) = a / 8 := ⟨(a / 8).toNat, by omega⟩
        have hlt : i < v.R.length := by omega
        obtain ⟨m1, o1, ty1, sz1, t1, i1, b1, k1, l1, d1⟩ := h.row.idx (st := st) un164 io160 hlt
        have hp : t1.get o1 = some (.p (lineOf v a).n 0) := d1 0 _ (by omega) (by
          rw [Nat.mul_one, Nat.add_zero]; unfold ptrs
          have := lineOf_get hw
          rw [show (a / 8).toNat = i by omega] at this
          rw [List.getElem?_map, this]; rfl)
        rw [← hi] at hd w1 c2
        simp [evOp_call, sets, T.get_set, loadE_eq, getC_eq, h1, h2, h3, c1, hd, hm, w1, w2, h.row.lenS, c2, hw, i1, k1, hp]
end Go.Proofs.Ytenncnbaoejekaa

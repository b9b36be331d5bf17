/-
  Contracts of package bits.
-/
import Derived.Test.YtgcpgidofikcdaaGreatDoorTyAll
import Derived.Test.YtgcpgidofikcdaaGreatDoorSb
import Derived.Test.YtgcpgidofikcdaaGreatDoorPop
set_option linter.unusedSimpArgs false
namespace Go.Proofs.YtgcpgidofikcdaaGreatDoor
open Go.RowKit Ev
def bit (L : List (BitVec 64)) (n : Nat) : Bool := (L[n / 64]?.getD 0#64).getLsbD (n % 64)
def hasI (L : List (BitVec 64)) (i : Int) : Bool := decide (0 ≤ i) && bit L i.toNat
theorem bit_out {L : List (BitVec 64)} {n : Nat} (h : L.length * 64 ≤ n) : bit L n = false := by
  unfold bit
  rw [List.getElem?_eq_none (by omega)]
  simp
theorem hasI_nat (L : List (BitVec 64)) (n : Nat) : hasI L (n : Int) = bit L n := by simp [hasI]
theorem hasI_neg {L : List (BitVec 64)} {i : Int} (h : i < 0) : hasI L i = false := by
  unfold hasI; rw [decide_eq_false (by omega)]; rfl
theorem quo64 (a : Nat) : ((a : Int)).tdiv 64 = (a : Int) / 64 := Int.tdiv_eq_ediv_of_nonneg (by omega)
theorem rem64 (a : Nat) : ((a : Int)).tmod 64 = (a : Int) % 64 := Int.tmod_eq_emod_of_nonneg (by omega)
theorem and1 (w : BitVec 64) (k : Nat) : decide (w >>> k &&& 1#64 = 1#64) = w.getLsbD k := by
  have h : (w >>> k &&& 1#64 = 1#64) ↔ (w >>> k).getLsbD 0 = true := by
    constructor
    · intro h
      have h0 : (w >>> k &&& 1#64).getLsbD 0 = (1#64).getLsbD 0 := by rw [h]
      rw [BitVec.getLsbD_and] at h0
      have : (1#64 : BitVec 64).getLsbD 0 = true := by decide
      rwa [this, Bool.and_true] at h0
    · intro h
      apply BitVec.eq_of_getLsbD_eq
      intro i hi
      rw [BitVec.getLsbD_and]
      cases i with
      | zero => rw [h]; rfl
      | succ i =>
        have : (1#64 : BitVec 64).getLsbD (i + 1) = false := by simp
        rw [this, Bool.and_false]
  rw [BitVec.getLsbD_ushiftRight, Nat.add_zero] at h
  cases hb : w.getLsbD k with
  | true => rw [hb] at h; simpa using h
  | false => rw [hb] at h; simpa using h
theorem bthere_any (st : St) (x : V) (L : List (BitVec 64)) (hx : RdRow st x 1 L.length (wv L)) (i : Int) (hi : -9223372036854775808 ≤ i ∧ i ≤ 9223372036854775807) (nt : Nat) :
    Gd (callL Tryz.prog ⟨false, [], 0, nt⟩ 197 [.g [x], .int .i64 i] st) fun r => r.1 = .bool (decide (0 ≤ i ∧ i < L.length * 64)) ∧ Ext st.nx st r.2 := by
  have hone := hx.one
  rw [Gd_callL Tryz.func197 rfl]
  have he : Ext st.nx st ⟨st.nx + 1, st.h.set st.nx (.cs 76 1 (sets [x] 0 .lf))⟩ := (Ext.refl _ _).new (Nat.le_refl _) _
  by_cases h1 : 0 ≤ i
  · obtain ⟨n, rfl⟩ := Int.eq_ofNat_of_zero_le h1
    have hw : IntKind.i64.wrap ((n : Int) / 64) = (n : Int) / 64 := wrap_in (by omega) (by omega)
    simp [sets, T.get_set, cellsOf, newC_is, loadE_eq, getC_eq, hx.lenS, quo64, hw]
    exact ⟨by omega, he⟩
  · simp [sets, T.get_set, cellsOf, newC_is, h1]
    exact he
theorem asNat_div (k : IntKind) (n : Nat) {β : Type} (f : Nat → Option β) : asNat (.c (.int k ((n : Int) / 64))) f = f (n / 64) := rfl
theorem bhas_any (st : St) (x : V) (L : List (BitVec 64)) (hx : RdRow st x 1 L.length (wv L)) (i : Int) (hi : -9223372036854775808 ≤ i ∧ i ≤ 9223372036854775807) (nt : Nat) :
    Gd (callL Tryz.prog ⟨false, [], 0, nt⟩ 219 [.g [x], .int .i64 i] st) fun r => r.1 = .bool (hasI L i) ∧ Ext st.nx st r.2 := by
  rw [Gd_callL Tryz.func219 rfl]
  have he : Ext st.nx st ⟨st.nx + 1, st.h.set st.nx (.cs 76 1 (sets [x] 0 .lf))⟩ := (Ext.refl _ _).new (Nat.le_refl _) _
  have hx' := hx.ext he
  simp [evOp_call, sets, T.get_set, cellsOf, newC_is, loadE_eq, getC_eq, getsB_1]
  refine Gd.mono (bthere_any _ x L hx' i hi _) ?_
  rintro ⟨r, s1⟩ ⟨hr, e1⟩
  simp only at hr e1
  subst hr
  have hx1 := hx'.ext e1
  have hg1 : s1.h.get st.nx = some (.cs 76 1 (sets [x] 0 .lf)) := by
    rw [e1.keep st.nx (Nat.lt_succ_self _)]; exact T.get_set_same _ _ _
  have he1 : Ext st.nx st s1 := he.trans (e1.mono (Nat.le_succ _))
  by_cases h1 : 0 ≤ i ∧ i < L.length * 64
  · obtain ⟨n, rfl⟩ := Int.eq_ofNat_of_zero_le h1.1
    have hw : IntKind.i64.wrap ((n : Int) / 64) = (n : Int) / 64 := wrap_in (by omega) (by omega)
    have hlt : n / 64 < L.length := by omega
    obtain ⟨m, o, ty, sz, tr, hid, hm, hg, ho, hc⟩ := hx1.idx (st := s1) un60 io78 hlt
    obtain ⟨w, hwl⟩ : ∃ w, L[n / 64]? = some w := ⟨_, List.getElem?_eq_getElem hlt⟩
    have t0 : tr.get o = some (wd w) := hc 0 _ (by omega) (by simpa using wv_get hwl)
    have hbit : bit L n = w.getLsbD (n % 64) := by simp [bit, hwl]
    have hn0 : (0 : Int) ≤ (n : Int) % 64 := by omega
    have hnt : ((n : Int) % 64).toNat = n % 64 := by omega
    simp [T.get_set, h1, sets, loadE_eq, getC_eq, hg1, quo64, rem64, hw, asNat_div, hid, hg, t0, hn0, hnt, and1, hasI_nat, hbit]
    exact he1
  · have hh : hasI L i = false := by
      by_cases h0 : i < 0
      · exact hasI_neg h0
      · obtain ⟨n, rfl⟩ := Int.eq_ofNat_of_zero_le (show 0 ≤ i by omega)
        rw [hasI_nat]; exact bit_out (by omega)
    have hd : decide (0 ≤ i ∧ i < L.length * 64) = false := by simpa using h1
    simp only [hd]
    simp [T.get_set, hh]
    exact he1
@[simp] theorem bool_eql (st : St) (x y : Operand) (a b : Bool) : binE Tryz.prog st .eql 4 x y (.bool a) (.bool b) = some (.bool (a == b), st) := by cases a <;> cases b <;> kernel_rfl
@[simp] theorem bool_neq (st : St) (x y : Operand) (a b : Bool) : binE Tryz.prog st .neq 4 x y (.bool a) (.bool b) = some (.bool (a != b), st) := by cases a <;> cases b <;> kernel_rfl
def fromB (f : Int) : Int := if f > 0 then f else 0
def endB (L : List (BitVec 64)) (e : Int) : Int := if (L.length : Int) * 64 < e then (L.length : Int) * 64 else e
theorem within_any (st : St) (x : V) (L : List (BitVec 64)) (hx : RdRow st x 1 L.length (wv L)) (hL : L.length ≤ 100000) (f e : Int) (nt : Nat) :
    Gd (callL Tryz.prog ⟨false, [], 0, nt⟩ 252 [.g [x], .int .i64 f, .int .i64 e] st) fun r => r.1 = .t [.int .i64 (fromB f), .int .i64 (endB L e)] ∧ Ext st.nx st r.2 := by
  rw [Gd_callL Tryz.func252 rfl]
  have he : Ext st.nx st ⟨st.nx + 1, st.h.set st.nx (.cs 76 1 (sets [x] 0 .lf))⟩ := (Ext.refl _ _).new (Nat.le_refl _) _
  have hw : IntKind.i64.wrap ((L.length : Int) * 64) = (L.length : Int) * 64 := wrap_in (by omega) (by omega)
  simp [evOp_call, sets, T.get_set, cellsOf, newC_is, loadE_eq, getC_eq, hx.lenS, evOp_min, evOp_max, min_i64, max_i64, hw]
  refine ⟨by kernel_rfl, ?_⟩
  simp [fromB, endB]
  exact he
theorem clone_any (st : St) (x : V) (n : Nat) (l : List V) (hx : RdRow st x 1 n l) (hn : n ≤ 1000000) (nt : Nat) :
    Gd (callL Tryz.prog ⟨false, [], 0, nt⟩ 86 [x] st) fun r => RdRow r.2 r.1 1 n l ∧ (0 < n → OwnRow st.nx r.2 r.1 1 n l) ∧ RowFrom st.nx r.1 ∧ Ext st.nx st r.2 := by
  rw [Gd_callL Tryz.func86 rfl]
  by_cases hnil : isNil x = true
  · obtain ⟨rfl, rfl⟩ := isNil_len hx hnil
    simp [sets, T.get_set, eql_nil un60 hx, hnil]
    exact ⟨hx, ⟨fun _ _ _ _ e => (by cases e), fun _ _ _ _ e => by cases e⟩, Ext.refl _ _⟩
  · simp [sets, T.get_set, eql_nil un60 hx, hnil]
    rw [evOp_build0 (fun k => el60 k) (fun k => ze78 k) rfl]
    simp [T.get_set]
    have he : Ext st.nx st ⟨st.nx + 1, st.h.set st.nx (.cs 78 0 .lf)⟩ := (Ext.refl _ _).new (Nat.le_refl _) _
    have hx' := hx.ext he
    refine Gd_append0 un60 un60 io78 (by decide) (T.get_set_same _ _ _) hx.notS (fun k => hx.len k) (fun k => hx'.firsts k) hx.1 (by omega) (fun h0 => ?_) fun h1 => ?_
    · subst h0
      simp [T.get_set]
      have hl : l = [] := List.length_eq_zero_iff.1 (by have := hx.1; omega)
      subst hl
      exact ⟨⟨rfl, .inr (.inl ⟨st.nx, 0, 0, 78, 0, .lf, rfl, Nat.lt_succ_self _, T.get_set_same _ _ _, Nat.le_refl _, fun j v h => by simp at h⟩)⟩, ⟨fun _ _ _ _ e => (by cases e), fun _ _ _ _ e => (by cases e; exact Nat.le_refl _)⟩, he⟩
    · simp [T.get_set]
      have h2 := he.new (Nat.le_succ _) (.cs 78 l.length (sets l 0 .lf))
      have ho : OwnRow st.nx ⟨st.nx + 1 + 1, (st.h.set st.nx (.cs 78 0 .lf)).set (st.nx + 1) (.cs 78 l.length (sets l 0 .lf))⟩ (.sg (st.nx + 1) 0 n 1) 1 n l := by
        refine ⟨hx.1, .inr ⟨st.nx + 1, 78, sets l 0 .lf, rfl, Nat.le_succ _, Nat.lt_succ_self _, ?_, by decide, fun j v hj => ?_⟩⟩
        · rw [← hx.1]; exact T.get_set_same _ _ _
        · have hjl : j < l.length := lt_of_get hj
          rw [get_sets, if_pos ⟨Nat.zero_le _, by omega⟩]
          simpa using hj
      exact ⟨ho.rd, fun _ => ho, ⟨fun _ _ _ _ e => (by cases e; omega), fun _ _ _ _ e => by cases e⟩, h2⟩
/-- the first one that p holds of -/
def nextF (p : Nat → Bool) : Nat → Nat → Option Nat
  | 0, _ => none
  | n + 1, i => if p i then some i else nextF p n (i + 1)
def nextB (L : List (BitVec 64)) (yes : Bool) (f e : Int) : Option Nat := nextF (fun i => bit L i == yes) (endB L e - fromB f).toNat (fromB f).toNat
def nextV (r : Option Nat) : V := match r with
  | some i => .t [.int .i64 (i : Int), .bool true]
  | none => .t [.int .i64 0, .bool false]
def nextI (st : St) (q : Nat) (x : V) (L : List (BitVec 64)) (yes : Bool) (e : Int) (r : Option Nat) (en : Env) (s : St) : Prop := ∃ i : Nat, en.get 1 = some (.bool yes) ∧ en.get 3 = some (.int .i64 e) ∧ en.get 4 = some (.p q 0) ∧ en.get 10 = some (.int .i64 (i : Int)) ∧
  nextF (fun i => bit L i == yes) (e - i).toNat i = r ∧ e ≤ L.length * 64 ∧ (i : Int) ≤ 9223372036854775807 ∧ s.h.get q = some (.cs 76 1 (sets [x] 0 .lf)) ∧ q < s.nx ∧ Ext st.nx st s
set_option maxHeartbeats 1000000 in
theorem next_any (st : St) (x : V) (L : List (BitVec 64)) (hx : RdRow st x 1 L.length (wv L)) (hL : L.length ≤ 100000) (yes : Bool) (f e : Int) (hf : -9223372036854775808 ≤ f ∧ f ≤ 9223372036854775807) (nt : Nat) :
    Gd (callL Tryz.prog ⟨false, [], 0, nt⟩ 220 [.g [x], .bool yes, .int .i64 f, .int .i64 e] st) fun r => r.1 = nextV (nextB L yes f e) ∧ Ext st.nx st r.2 := by
  rw [Gd_callL Tryz.func220 rfl]
  have he : Ext st.nx st ⟨st.nx + 1, st.h.set st.nx (.cs 76 1 (sets [x] 0 .lf))⟩ := (Ext.refl _ _).new (Nat.le_refl _) _
  have hx' := hx.ext he
  simp [evOp_call, sets, T.get_set, cellsOf, newC_is, loadE_eq, getC_eq, getsB_1]
  refine Gd.mono (within_any _ x L hx' hL f e _) ?_
  rintro ⟨r, s1⟩ ⟨hr, e1⟩
  simp only at hr e1
  subst hr
  have hg1 : s1.h.get st.nx = some (.cs 76 1 (sets [x] 0 .lf)) := by
    rw [e1.keep st.nx (Nat.lt_succ_self _)]; exact T.get_set_same _ _ _
  have b1 := e1.le
  have hf0 : 0 ≤ fromB f := by unfold fromB; split <;> omega
  have hf1 : fromB f ≤ 9223372036854775807 := by unfold fromB; split <;> omega
  have he1 : endB L e ≤ L.length * 64 := by unfold endB; split <;> omega
  simp [T.get_set]
  refine Gd_loop (nextI st st.nx x L yes (endB L e) (nextB L yes f e)) (fun en _ => gapAt 10 (endB L e) en) ?_ ?_
  · exact ⟨(fromB f).toNat, by simp [T.get_set], by simp [T.get_set], by simp [T.get_set], by simp [T.get_set]; omega, by unfold nextB; rw [Int.toNat_of_nonneg hf0], he1, by omega, hg1, by show st.nx < s1.nx; exact b1, he.trans (e1.mono (Nat.le_succ _))⟩
  · rintro en s ⟨i, g1, g3, g4, g10, hn, hle, hi, hg, hq, hs⟩
    by_cases hlt : (i : Int) < endB L e
    · have hxs := hx.ext hs
      have hw : IntKind.i64.wrap ((i : Int) + 1) = (i : Int) + 1 := wrap_in (by omega) (by omega)
      simp [evOp_call, T.get_set, g1, g3, g4, g10, hlt, loadE_eq, getC_eq, hg, getsB_1, sets]
      refine Gd.mono (bhas_any s x L hxs i (by omega) _) ?_
      rintro ⟨r, s2⟩ ⟨hr, e2⟩
      simp only at hr e2
      rw [hasI_nat] at hr
      subst hr
      have hstep : (endB L e - (i : Int)).toNat = (endB L e - ((i + 1 : Nat) : Int)).toNat + 1 := by omega
      have hi1 : (i : Int) + 1 = ((i + 1 : Nat) : Int) := by omega
      cases hb : bit L i == yes with
      | true =>
        simp [evOp_call, T.get_set, g1, g3, g4, g10, hb]
        rw [hstep] at hn
        unfold nextF at hn
        rw [if_pos hb] at hn
        rw [← hn]
        exact ⟨by simp [nextV], hs.trans (e2.mono hs.le)⟩
      | false =>
        simp [evOp_call, T.get_set, g1, g3, g4, g10, hb, hw]
        refine ⟨⟨i + 1, by simp [T.get_set, g1], by simp [T.get_set, g3], by simp [T.get_set, g4], by simp [T.get_set], ?_, hle, by omega, ?_, by have := e2.le; omega, hs.trans (e2.mono hs.le)⟩, gapAt_lt g10 (by simp [T.get_set]; rfl) hlt (by omega)⟩
        · rw [hstep] at hn
          unfold nextF at hn
          rw [if_neg (by simp [hb])] at hn
          exact hn
        · rw [e2.keep _ hq]; exact hg
    · simp [evOp_call, T.get_set, g1, g3, g4, g10, hlt]
      have h0 : (endB L e - (i : Int)).toNat = 0 := by omega
      rw [h0] at hn
      rw [← hn]
      simp [nextF, nextV]
      exact hs
end Go.Proofs.YtgcpgidofikcdaaGreatDoor

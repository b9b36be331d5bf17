/-
  PLAIN: PlT, PlU, PlA, in one text.
-/
import Derived.Test.YtcjddojcfdeflaaTyAll
import Derived.Test.YtcjddojcfdeflaaSb
import Derived.Test.YtcjddojcfdeflaaPop
import Derived.Test.YtcjddojcfdeflaaGmA
import Derived.Test.YtcjddojcfdeflaaSc
set_option linter.unusedSimpArgs false
namespace Go.Proofs.Ytcjddojcfdeflaa
open Go.RowKit Ev
def bit (L : List (BitVec 64)) (n : Nat) : Bool := (L[n / 64]?.getD 0#64).getLsbD (n % 64)
def hasI (L : List (BitVec 64)) (i : Int) : Bool := decide (0 ≤ i) && bit L i.toNat
theorem bit_out {L : List (BitVec 64)} {n : Nat} (h : L.length * 64 ≤ n) : bit L n = false := by
  unfold bit
  rw [List.getElem?_eq_none (by omega)]
  simp
theorem hasI_nat (L : List (BitVec 64)) (n : Nat) : hasI L (n : Int) = bit L n := by simp [hasI]
theorem hasI_neg {L : List (BitVec 64)} {i : Int} (h : i < 0) : hasI L i = false := by
  unfold hasI; rw [decide_eq_false (by omega)]; rfl
theorem quo64 (a : Nat) : ((a : Int)).tdiv 64 = (a : Int) / 64 := Int.tdiv_eq_ediv_of_nonneg (by omega)
theorem rem64 (a : Nat) : ((a : Int)).tmod 64 = (a : Int) % 64 := Int.tmod_eq_emod_of_nonneg (by omega)
theorem and1 (w : BitVec 64) (k : Nat) : decide (w >>> k &&& 1#64 = 1#64) = w.getLsbD k := by
  have h : (w >>> k &&& 1#64 = 1#64) ↔ (w >>> k).getLsbD 0 = true := by
    constructor
    · intro h
      have h0 : (w >>> k &&& 1#64).getLsbD 0 = (1#64).getLsbD 0 := by rw [h]
      rw [BitVec.getLsbD_and] at h0
      have : (1#64 : BitVec 64).getLsbD 0 = true := by decide
      rwa [this, Bool.and_true] at h0
    · intro h
      apply BitVec.eq_of_getLsbD_eq
      intro i hi
      rw [BitVec.getLsbD_and]
      cases i with
      | zero => rw [h]; rfl
      | succ i =>
        have : (1#64 : BitVec 64).getLsbD (i + 1) = false := by simp
        rw [this, Bool.and_false]
  rw [BitVec.getLsbD_ushiftRight, Nat.add_zero] at h
  cases hb : w.getLsbD k with
  | true => rw [hb] at h; simpa using h
  | false => rw [hb] at h; simpa using h
theorem bthere_any (st : St) (x : V) (L : List (BitVec 64)) (hx : RdRow st x 1 L.length (wv L)) (i : Int) (hi : -9223372036854775808 ≤ i ∧ i ≤ 9223372036854775807) (nt : Nat) :
    Gd (callL Try.prog ⟨false, [], 0, nt⟩ 47 [.g [x], .int .i64 i] st) fun r => r.1 = .bool (decide (0 ≤ i ∧ i < L.length * 64)) ∧ Ext st.nx st r.2 := by
  have hone := hx.one
  rw [Gd_callL Try.func47 rfl]
  have he : Ext st.nx st ⟨st.nx + 1, st.h.set st.nx (.cs 49 1 (sets [x] 0 .lf))⟩ := (Ext.refl _ _).new (Nat.le_refl _) _
  by_cases h1 : 0 ≤ i
  · obtain ⟨n, rfl⟩ := Int.eq_ofNat_of_zero_le h1
    have hw : IntKind.i64.wrap ((n : Int) / 64) = (n : Int) / 64 := wrap_in (by omega) (by omega)
    simp [sets, T.get_set, cellsOf, newC_is, loadE_eq, getC_eq, hx.lenS, quo64, hw]
    exact ⟨by omega, he⟩
  · simp [sets, T.get_set, cellsOf, newC_is, h1]
    exact he
theorem asNat_div (k : IntKind) (n : Nat) {β : Type} (f : Nat → Option β) : asNat (.c (.int k ((n : Int) / 64))) f = f (n / 64) := rfl
theorem bhas_any (st : St) (x : V) (L : List (BitVec 64)) (hx : RdRow st x 1 L.length (wv L)) (i : Int) (hi : -9223372036854775808 ≤ i ∧ i ≤ 9223372036854775807) (nt : Nat) :
    Gd (callL Try.prog ⟨false, [], 0, nt⟩ 30 [.g [x], .int .i64 i] st) fun r => r.1 = .bool (hasI L i) ∧ Ext st.nx st r.2 := by
  rw [Gd_callL Try.func30 rfl]
  have he : Ext st.nx st ⟨st.nx + 1, st.h.set st.nx (.cs 49 1 (sets [x] 0 .lf))⟩ := (Ext.refl _ _).new (Nat.le_refl _) _
  have hx' := hx.ext he
  simp [evOp_call, sets, T.get_set, cellsOf, newC_is, loadE_eq, getC_eq, getsB_1]
  refine Gd.mono (bthere_any _ x L hx' i hi _) ?_
  rintro ⟨r, s1⟩ ⟨hr, e1⟩
  simp only at hr e1
  subst hr
  have hx1 := hx'.ext e1
  have hg1 : s1.h.get st.nx = some (.cs 49 1 (sets [x] 0 .lf)) := by
    rw [e1.keep st.nx (Nat.lt_succ_self _)]; exact T.get_set_same _ _ _
  have he1 : Ext st.nx st s1 := he.trans (e1.mono (Nat.le_succ _))
  by_cases h1 : 0 ≤ i ∧ i < L.length * 64
  · obtain ⟨n, rfl⟩ := Int.eq_ofNat_of_zero_le h1.1
    have hw : IntKind.i64.wrap ((n : Int) / 64) = (n : Int) / 64 := wrap_in (by omega) (by omega)
    have hlt : n / 64 < L.length := by omega
    obtain ⟨m, o, ty, sz, tr, hid, hm, hg, ho, hc⟩ := hx1.idx (st := s1) un28 io39 hlt
    obtain ⟨w, hwl⟩ : ∃ w, L[n / 64]? = some w := ⟨_, List.getElem?_eq_getElem hlt⟩
    have t0 : tr.get o = some (wd w) := hc 0 _ (by omega) (by simpa using wv_get hwl)
    have hbit : bit L n = w.getLsbD (n % 64) := by simp [bit, hwl]
    have hn0 : (0 : Int) ≤ (n : Int) % 64 := by omega
    have hnt : ((n : Int) % 64).toNat = n % 64 := by omega
    simp [T.get_set, h1, sets, loadE_eq, getC_eq, hg1, quo64, rem64, hw, asNat_div, hid, hg, t0, hn0, hnt, and1, hasI_nat, hbit]
    exact he1
  · have hh : hasI L i = false := by
      by_cases h0 : i < 0
      · exact hasI_neg h0
      · obtain ⟨n, rfl⟩ := Int.eq_ofNat_of_zero_le (show 0 ≤ i by omega)
        rw [hasI_nat]; exact bit_out (by omega)
    have hd : decide (0 ≤ i ∧ i < L.length * 64) = false := by simpa using h1
    simp only [hd]
    simp [T.get_set, hh]
    exact he1
@[simp] theorem bool_eql (st : St) (x y : Operand) (a b : Bool) : binE Try.prog st .eql 4 x y (.bool a) (.bool b) = some (.bool (a == b), st) := by cases a <;> cases b <;> kernel_rfl
@[simp] theorem bool_neq (st : St) (x y : Operand) (a b : Bool) : binE Try.prog st .neq 4 x y (.bool a) (.bool b) = some (.bool (a != b), st) := by cases a <;> cases b <;> kernel_rfl
def fromB (f : Int) : Int := if f > 0 then f else 0
def endB (L : List (BitVec 64)) (e : Int) : Int := if (L.length : Int) * 64 < e then (L.length : Int) * 64 else e
theorem within_any (st : St) (x : V) (L : List (BitVec 64)) (hx : RdRow st x 1 L.length (wv L)) (hL : L.length ≤ 100000) (f e : Int) (nt : Nat) :
    Gd (callL Try.prog ⟨false, [], 0, nt⟩ 76 [.g [x], .int .i64 f, .int .i64 e] st) fun r => r.1 = .t [.int .i64 (fromB f), .int .i64 (endB L e)] ∧ Ext st.nx st r.2 := by
  rw [Gd_callL Try.func76 rfl]
  have he : Ext st.nx st ⟨st.nx + 1, st.h.set st.nx (.cs 49 1 (sets [x] 0 .lf))⟩ := (Ext.refl _ _).new (Nat.le_refl _) _
  have hw : IntKind.i64.wrap ((L.length : Int) * 64) = (L.length : Int) * 64 := wrap_in (by omega) (by omega)
  simp [evOp_call, sets, T.get_set, cellsOf, newC_is, loadE_eq, getC_eq, hx.lenS, evOp_min, evOp_max, min_i64, max_i64, hw]
  refine ⟨by kernel_rfl, ?_⟩
  simp [fromB, endB]
  exact he
theorem clone_any (st : St) (x : V) (n : Nat) (l : List V) (hx : RdRow st x 1 n l) (hn : n ≤ 1000000) (nt : Nat) :
    Gd (callL Try.prog ⟨false, [], 0, nt⟩ 13 [x] st) fun r => RdRow r.2 r.1 1 n l ∧ (0 < n → OwnRow st.nx r.2 r.1 1 n l) ∧ RowFrom st.nx r.1 ∧ Ext st.nx st r.2 := by
  rw [Gd_callL Try.func13 rfl]
  by_cases hnil : isNil x = true
  · obtain ⟨rfl, rfl⟩ := isNil_len hx hnil
    simp [sets, T.get_set, eql_nil un28 hx, hnil]
    exact ⟨hx, ⟨fun _ _ _ _ e => (by cases e), fun _ _ _ _ e => by cases e⟩, Ext.refl _ _⟩
  · simp [sets, T.get_set, eql_nil un28 hx, hnil]
    rw [evOp_build0 (fun k => el28 k) (fun k => ze39 k) rfl]
    simp [T.get_set]
    have he : Ext st.nx st ⟨st.nx + 1, st.h.set st.nx (.cs 39 0 .lf)⟩ := (Ext.refl _ _).new (Nat.le_refl _) _
    have hx' := hx.ext he
    refine Gd_append0 un28 un28 io39 (by decide) (T.get_set_same _ _ _) hx.notS (fun k => hx.len k) (fun k => hx'.firsts k) hx.1 (by omega) (fun h0 => ?_) fun h1 => ?_
    · subst h0
      simp [T.get_set]
      have hl : l = [] := List.length_eq_zero_iff.1 (by have := hx.1; omega)
      subst hl
      exact ⟨⟨rfl, .inr (.inl ⟨st.nx, 0, 0, 39, 0, .lf, rfl, Nat.lt_succ_self _, T.get_set_same _ _ _, Nat.le_refl _, fun j v h => by simp at h⟩)⟩, ⟨fun _ _ _ _ e => (by cases e), fun _ _ _ _ e => (by cases e; exact Nat.le_refl _)⟩, he⟩
    · simp [T.get_set]
      have h2 := he.new (Nat.le_succ _) (.cs 39 l.length (sets l 0 .lf))
      have ho : OwnRow st.nx ⟨st.nx + 1 + 1, (st.h.set st.nx (.cs 39 0 .lf)).set (st.nx + 1) (.cs 39 l.length (sets l 0 .lf))⟩ (.sg (st.nx + 1) 0 n 1) 1 n l := by
        refine ⟨hx.1, .inr ⟨st.nx + 1, 39, sets l 0 .lf, rfl, Nat.le_succ _, Nat.lt_succ_self _, ?_, by decide, fun j v hj => ?_⟩⟩
        · rw [← hx.1]; exact T.get_set_same _ _ _
        · have hjl : j < l.length := lt_of_get hj
          rw [get_sets, if_pos ⟨Nat.zero_le _, by omega⟩]
          simpa using hj
      exact ⟨ho.rd, fun _ => ho, ⟨fun _ _ _ _ e => (by cases e; omega), fun _ _ _ _ e => by cases e⟩, h2⟩
/-- the first one that p holds of -/
def nextF (p : Nat → Bool) : Nat → Nat → Option Nat
  | 0, _ => none
  | n + 1, i => if p i then some i else nextF p n (i + 1)
def nextB (L : List (BitVec 64)) (yes : Bool) (f e : Int) : Option Nat := nextF (fun i => bit L i == yes) (endB L e - fromB f).toNat (fromB f).toNat
def nextV (r : Option Nat) : V := match r with
  | some i => .t [.int .i64 (i : Int), .bool true]
  | none => .t [.int .i64 0, .bool false]
def nextI (st : St) (q : Nat) (x : V) (L : List (BitVec 64)) (yes : Bool) (e : Int) (r : Option Nat) (en : Env) (s : St) : Prop := ∃ i : Nat, en.get 1 = some (.bool yes) ∧ en.get 3 = some (.int .i64 e) ∧ en.get 4 = some (.p q 0) ∧ en.get 10 = some (.int .i64 (i : Int)) ∧
  nextF (fun i => bit L i == yes) (e - i).toNat i = r ∧ e ≤ L.length * 64 ∧ (i : Int) ≤ 9223372036854775807 ∧ s.h.get q = some (.cs 49 1 (sets [x] 0 .lf)) ∧ q < s.nx ∧ Ext st.nx st s
set_option maxHeartbeats 1000000 in
theorem next_any (st : St) (x : V) (L : List (BitVec 64)) (hx : RdRow st x 1 L.length (wv L)) (hL : L.length ≤ 100000) (yes : Bool) (f e : Int) (hf : -9223372036854775808 ≤ f ∧ f ≤ 9223372036854775807) (nt : Nat) :
    Gd (callL Try.prog ⟨false, [], 0, nt⟩ 77 [.g [x], .bool yes, .int .i64 f, .int .i64 e] st) fun r => r.1 = nextV (nextB L yes f e) ∧ Ext st.nx st r.2 := by
  rw [Gd_callL Try.func77 rfl]
  have he : Ext st.nx st ⟨st.nx + 1, st.h.set st.nx (.cs 49 1 (sets [x] 0 .lf))⟩ := (Ext.refl _ _).new (Nat.le_refl _) _
  have hx' := hx.ext he
  simp [evOp_call, sets, T.get_set, cellsOf, newC_is, loadE_eq, getC_eq, getsB_1]
  refine Gd.mono (within_any _ x L hx' hL f e _) ?_
  rintro ⟨r, s1⟩ ⟨hr, e1⟩
  simp only at hr e1
  subst hr
  have hg1 : s1.h.get st.nx = some (.cs 49 1 (sets [x] 0 .lf)) := by
    rw [e1.keep st.nx (Nat.lt_succ_self _)]; exact T.get_set_same _ _ _
  have b1 := e1.le
  have hf0 : 0 ≤ fromB f := by unfold fromB; split <;> omega
  have hf1 : fromB f ≤ 9223372036854775807 := by unfold fromB; split <;> omega
  have he1 : endB L e ≤ L.length * 64 := by unfold endB; split <;> omega
  simp [T.get_set]
  refine Gd_loop (nextI st st.nx x L yes (endB L e) (nextB L yes f e)) (fun en _ => gapAt 10 (endB L e) en) ?_ ?_
  · exact ⟨(fromB f).toNat, by simp [T.get_set], by simp [T.get_set], by simp [T.get_set], by simp [T.get_set]; omega, by unfold nextB; rw [Int.toNat_of_nonneg hf0], he1, by omega, hg1, by show st.nx < s1.nx; exact b1, he.trans (e1.mono (Nat.le_succ _))⟩
  · rintro en s ⟨i, g1, g3, g4, g10, hn, hle, hi, hg, hq, hs⟩
    by_cases hlt : (i : Int) < endB L e
    · have hxs := hx.ext hs
      have hw : IntKind.i64.wrap ((i : Int) + 1) = (i : Int) + 1 := wrap_in (by omega) (by omega)
      simp [evOp_call, T.get_set, g1, g3, g4, g10, hlt, loadE_eq, getC_eq, hg, getsB_1, sets]
      refine Gd.mono (bhas_any s x L hxs i (by omega) _) ?_
      rintro ⟨r, s2⟩ ⟨hr, e2⟩
      simp only at hr e2
      rw [hasI_nat] at hr
      subst hr
      have hstep : (endB L e - (i : Int)).toNat = (endB L e - ((i + 1 : Nat) : Int)).toNat + 1 := by omega
      have hi1 : (i : Int) + 1 = ((i + 1 : Nat) : Int) := by omega
      cases hb : bit L i == yes with
      | true =>
        simp [evOp_call, T.get_set, g1, g3, g4, g10, hb]
        rw [hstep] at hn
        unfold nextF at hn
        rw [if_pos hb] at hn
        rw [← hn]
        exact ⟨by simp [nextV], hs.trans (e2.mono hs.le)⟩
      | false =>
        simp [evOp_call, T.get_set, g1, g3, g4, g10, hb, hw]
        refine ⟨⟨i + 1, by simp [T.get_set, g1], by simp [T.get_set, g3], by simp [T.get_set, g4], by simp [T.get_set], ?_, hle, by omega, ?_, by have := e2.le; omega, hs.trans (e2.mono hs.le)⟩, gapAt_lt g10 (by simp [T.get_set]; rfl) hlt (by omega)⟩
        · rw [hstep] at hn
          unfold nextF at hn
          rw [if_neg (by simp [hb])] at hn
          exact hn
        · rw [e2.keep _ hq]; exact hg
    · simp [evOp_call, T.get_set, g1, g3, g4, g10, hlt]
      have h0 : (endB L e - (i : Int)).toNat = 0 := by omega
      rw [h0] at hn
      rw [← hn]
      simp [nextF, nextV]
      exact hs
end Go.Proofs.Ytcjddojcfdeflaa
set_option linter.unusedSimpArgs false
namespace Go.Proofs.Ytcjddojcfdeflaa
open Go.RowKit Ev
/-- how many bits of a row are set -/
def cntL (L : List (BitVec 64)) : Nat := L.foldl (fun a w => a + Pop.pc w.toNat 64) 0
theorem cntL_snoc (L : List (BitVec 64)) (w : BitVec 64) : cntL (L ++ [w]) = cntL L + Pop.pc w.toNat 64 := by simp [cntL]
theorem cntL_take {L : List (BitVec 64)} {i : Nat} {w : BitVec 64} (h : L[i]? = some w) : cntL (L.take (i + 1)) = cntL (L.take i) + Pop.pc w.toNat 64 := by
  rw [List.take_add_one, h]; exact cntL_snoc _ _
theorem cntL_le (L : List (BitVec 64)) : ∀ i, i ≤ L.length → cntL (L.take i) ≤ 64 * i
  | 0, _ => by simp [cntL]
  | i + 1, h => by
    obtain ⟨w, hw⟩ : ∃ w, L[i]? = some w := ⟨_, List.getElem?_eq_getElem h⟩
    rw [cntL_take hw]
    have := cntL_le L i (by omega)
    have := Pop.pc_le w.toNat 64
    omega
def cntI (st : St) (x : V) (L : List (BitVec 64)) (en : Env) (s : St) : Prop := ∃ i : Nat, i ≤ L.length ∧ en.get 3 = some (.int .i64 (cntL (L.take i) : Int)) ∧ en.get 7 = some x ∧ en.get 8 = some (.int .i64 (L.length : Int)) ∧ en.get 9 = some (.int .i64 (i : Int)) ∧ Ext st.nx st s
/-- the first of n in a row that are not set -/
def freeF (p : Nat → Bool) (n : Int) : Nat → Nat → Int → Option Int
  | 0, _, _ => none
  | k + 1, i, row => if p i then freeF p n k (i + 1) 0 else if row + 1 = n then some (i - n + 1) else freeF p n k (i + 1) (row + 1)
def freeB (L : List (BitVec 64)) (f e n : Int) : Option Int := if n < 1 then none else freeF (bit L) n (endB L e - fromB f).toNat (fromB f).toNat 0
def freeV (r : Option Int) : V := match r with
  | some i => .t [.int .i64 i, .bool true]
  | none => .t [.int .i64 0, .bool false]
def freeI (st : St) (q : Nat) (x : V) (L : List (BitVec 64)) (e n f : Int) (r : Option Int) (en : Env) (s : St) : Prop := ∃ (i : Nat) (row : Int), en.get 2 = some (.int .i64 e) ∧ en.get 3 = some (.int .i64 n) ∧ en.get 4 = some (.p q 0) ∧ en.get 10 = some (.int .i64 row) ∧ en.get 11 = some (.int .i64 (i : Int)) ∧
  freeF (bit L) n (e - i).toNat i row = r ∧ f ≤ i ∧ 0 ≤ row ∧ row ≤ i - f ∧ e ≤ L.length * 64 ∧ (i : Int) ≤ 9223372036854775807 ∧ s.h.get q = some (.cs 49 1 (sets [x] 0 .lf)) ∧ q < s.nx ∧ Ext st.nx st s
set_option maxHeartbeats 1000000 in
theorem free_any (st : St) (x : V) (L : List (BitVec 64)) (hx : RdRow st x 1 L.length (wv L)) (hL : L.length ≤ 100000) (f e n : Int) (hf : -9223372036854775808 ≤ f ∧ f ≤ 9223372036854775807) (nt : Nat) :
    Gd (callL Try.prog ⟨false, [], 0, nt⟩ 69 [.g [x], .int .i64 f, .int .i64 e, .int .i64 n] st) fun r => r.1 = freeV (freeB L f e n) ∧ Ext st.nx st r.2 := by
  rw [Gd_callL Try.func69 rfl]
  have he : Ext st.nx st ⟨st.nx + 1, st.h.set st.nx (.cs 49 1 (sets [x] 0 .lf))⟩ := (Ext.refl _ _).new (Nat.le_refl _) _
  have hx' := hx.ext he
  by_cases hn1 : n < 1
  · simp [evOp_call, sets, T.get_set, cellsOf, newC_is, hn1, freeB, freeV]
    exact he
  · simp [evOp_call, sets, T.get_set, cellsOf, newC_is, loadE_eq, getC_eq, getsB_1, hn1]
    refine Gd.mono (within_any _ x L hx' hL f e _) ?_
    rintro ⟨r, s1⟩ ⟨hr, e1⟩
    simp only at hr e1
    subst hr
    have hg1 : s1.h.get st.nx = some (.cs 49 1 (sets [x] 0 .lf)) := by
      rw [e1.keep st.nx (Nat.lt_succ_self _)]; exact T.get_set_same _ _ _
    have b1 := e1.le
    have hf0 : 0 ≤ fromB f := by unfold fromB; split <;> omega
    have hf1 : fromB f ≤ 9223372036854775807 := by unfold fromB; split <;> omega
    have he1 : endB L e ≤ L.length * 64 := by unfold endB; split <;> omega
    simp [T.get_set]
    refine Gd_loop (freeI st st.nx x L (endB L e) n (fromB f) (freeB L f e n)) (fun en _ => gapAt 11 (endB L e) en) ?_ ?_
    · exact ⟨(fromB f).toNat, 0, by simp [T.get_set], by simp [T.get_set], by simp [T.get_set], by simp [T.get_set], by simp [T.get_set]; omega, by unfold freeB; rw [if_neg hn1, Int.toNat_of_nonneg hf0], by omega, by omega, by omega, he1, by omega, hg1, by show st.nx < s1.nx; exact b1, he.trans (e1.mono (Nat.le_succ _))⟩
    · rintro en s ⟨i, row, g2, g3, g4, g10, g11, hn, hfi, hrow, hrow2, hle, hi, hg, hq, hs⟩
      by_cases hlt : (i : Int) < endB L e
      · have hxs := hx.ext hs
        have hw : IntKind.i64.wrap ((i : Int) + 1) = (i : Int) + 1 := wrap_in (by omega) (by omega)
        have hw2 : IntKind.i64.wrap (row + 1) = row + 1 := wrap_in (by omega) (by omega)
        simp [evOp_call, T.get_set, g2, g3, g4, g10, g11, hlt, loadE_eq, getC_eq, hg, getsB_1, sets]
        refine Gd.mono (bhas_any s x L hxs i (by omega) _) ?_
        rintro ⟨r, s2⟩ ⟨hr, e2⟩
        simp only at hr e2
        rw [hasI_nat] at hr
        subst hr
        have hstep : (endB L e - (i : Int)).toNat = (endB L e - ((i + 1 : Nat) : Int)).toNat + 1 := by omega
        have hi1 : (i : Int) + 1 = ((i + 1 : Nat) : Int) := by omega
        rw [hstep] at hn
        unfold freeF at hn
        cases hb : bit L i with
        | true =>
          rw [if_pos hb] at hn
          simp [evOp_call, T.get_set, g2, g3, g4, g10, g11, hw]
          exact ⟨⟨i + 1, 0, by simp [T.get_set, g2], by simp [T.get_set, g3], by simp [T.get_set, g4], by simp [T.get_set], by simp [T.get_set], hn, by omega, by omega, by omega, hle, by omega, by rw [e2.keep _ hq]; exact hg, by have := e2.le; omega, hs.trans (e2.mono hs.le)⟩, gapAt_lt g11 (by simp [T.get_set]; rfl) hlt (by omega)⟩
        | false =>
          rw [if_neg (by simp [hb])] at hn
          by_cases hrn : row + 1 = n
          · rw [if_pos hrn] at hn
            have hw3 : IntKind.i64.wrap ((i : Int) - n) = (i : Int) - n := wrap_in (by omega) (by omega)
            have hw4 : IntKind.i64.wrap ((i : Int) - n + 1) = (i : Int) - n + 1 := wrap_in (by omega) (by omega)
            have hw5 : IntKind.i64.wrap n = n := wrap_in (by omega) (by omega)
            simp [evOp_call, T.get_set, g2, g3, g4, g10, g11, hw, hw2, hrn, hw3, hw4, hw5]
            rw [← hn]
            exact ⟨by simp [freeV], hs.trans (e2.mono hs.le)⟩
          · rw [if_neg hrn] at hn
            simp [evOp_call, T.get_set, g2, g3, g4, g10, g11, hw, hw2, hrn]
            exact ⟨⟨i + 1, row + 1, by simp [T.get_set, g2], by simp [T.get_set, g3], by simp [T.get_set, g4], by simp [T.get_set], by simp [T.get_set], hn, by omega, by omega, by omega, hle, by omega, by rw [e2.keep _ hq]; exact hg, by have := e2.le; omega, hs.trans (e2.mono hs.le)⟩, gapAt_lt g11 (by simp [T.get_set]; rfl) hlt (by omega)⟩
      · simp [evOp_call, T.get_set, g2, g3, g4, g10, g11, hlt]
        have h0 : (endB L e - (i : Int)).toNat = 0 := by omega
        rw [h0] at hn
        rw [← hn]
        simp [freeF, freeV]
        exact hs
/-! ### what is set -/
def setOne (yes : Bool) (K : List (BitVec 64)) (i : Int) : List (BitVec 64) := if 0 ≤ i ∧ i < K.length * 64 then K.set (i.toNat / 64) (if yes then K[i.toNat / 64]?.getD 0#64 ||| 1#64 <<< (i.toNat % 64) else K[i.toNat / 64]?.getD 0#64 &&& ~~~(1#64 <<< (i.toNat % 64))) else K
theorem setOne_length (yes : Bool) (K : List (BitVec 64)) (i : Int) : (setOne yes K i).length = K.length := by
  unfold setOne; split <;> simp
def setB (L : List (BitVec 64)) (yes : Bool) (l : List Int) : List (BitVec 64) := l.foldl (setOne yes) L
theorem setB_length (yes : Bool) : ∀ (l : List Int) (L : List (BitVec 64)), (setB L yes l).length = L.length
  | [], _ => rfl
  | i :: l, L => by
    show (setB (setOne yes L i) yes l).length = _
    rw [setB_length yes l, setOne_length]
theorem setB_take {L : List (BitVec 64)} {yes : Bool} {l : List Int} {k : Nat} {i : Int} (h : l[k]? = some i) : setB L yes (l.take (k + 1)) = setOne yes (setB L yes (l.take k)) i := by
  rw [List.take_add_one, h]
  simp [setB]
def iv (l : List Int) : List V := l.map fun i => .int .i64 i
theorem iv_get {l : List Int} {i : Nat} {w : Int} (h : l[i]? = some w) : (iv l)[i]? = some (.int .i64 w) := by simp [iv, h]
def setI (st : St) (q q7 : Nat) (x y v : V) (L : List (BitVec 64)) (yes : Bool) (l : List Int) (en : Env) (s : St) : Prop := ∃ k : Nat, k ≤ l.length ∧ en.get 1 = some (.bool yes) ∧ en.get 3 = some (.p q 0) ∧ en.get 6 = some (.p (q + 1) 0) ∧ en.get 7 = some (.p q7 0) ∧ en.get 14 = some v ∧ en.get 15 = some (.int .i64 (l.length : Int)) ∧ en.get 16 = some (.int .i64 (k : Int)) ∧
  RdRow s y 1 L.length (wv (setB L yes (l.take k))) ∧ (0 < L.length → OwnRow (q + 2) s y 1 L.length (wv (setB L yes (l.take k)))) ∧ RowFrom (q + 2) y ∧ (∀ o ln z, y ≠ .sg q7 o ln z) ∧ (∀ o ln z, y ≠ .sl q7 o ln z) ∧ q + 2 ≤ q7 ∧ q7 < s.nx ∧ s.h.get q = some (.cs 49 1 (sets [x] 0 .lf)) ∧ s.h.get (q + 1) = some (.cs 49 1 (sets [.c (.slice none 0 0)] 0 .lf)) ∧ (∃ t, s.h.get q7 = some (.cs 49 1 t) ∧ t.get 0 = some y) ∧ Ext st.nx st s
set_option maxHeartbeats 2000000 in
theorem set_any (st : St) (x v : V) (L : List (BitVec 64)) (hx : RdRow st x 1 L.length (wv L)) (hL : L.length ≤ 100000) (yes : Bool) (l : List Int) (hv : RdRow st v 1 l.length (iv l)) (hl : l.length ≤ 100000) (hw : ∀ i ∈ l, -9223372036854775808 ≤ i ∧ i ≤ 9223372036854775807) (nt : Nat) :
    Gd (callL Try.prog ⟨false, [], 0, nt⟩ 19 [.g [x], .bool yes, v] st) fun r => ∃ y, r.1 = .g [y] ∧ RdRow r.2 y 1 L.length (wv (setB L yes l)) ∧ RowFrom st.nx y ∧ Ext st.nx st r.2 := by
  rw [Gd_callL Try.func19 rfl]
  have he : Ext st.nx st ⟨st.nx + 1, st.h.set st.nx (.cs 49 1 (sets [x] 0 .lf))⟩ := (Ext.refl _ _).new (Nat.le_refl _) _
  have he2 := he.new (Nat.le_succ _) (.cs 49 1 (sets [.c (.slice none 0 0)] 0 .lf))
  have hx2 := hx.ext he2
  simp [evOp_call, sets, T.get_set, cellsOf, newC_is, loadE_eq, getC_eq, getsB_1]
  refine Gd.mono (clone_any _ x _ _ hx2 (by omega) _) ?_
  rintro ⟨y, s1⟩ ⟨hy, hyo, hyf, e1⟩
  simp only at hy hyo hyf e1
  have b1 : st.nx + 2 ≤ s1.nx := e1.le
  have hone := hy.one
  have hne : ¬ s1.nx = st.nx := by omega
  have hne2 : ¬ s1.nx = st.nx + 1 := by omega
  have hg0 : s1.h.get st.nx = some (.cs 49 1 (sets [x] 0 .lf)) := by
    rw [e1.keep st.nx (by omega)]
    exact (T.get_set_ne (n := st.nx + 1) (m := st.nx) _ _ (by omega)).trans (T.get_set_same _ _ _)
  have hg1 : s1.h.get (st.nx + 1) = some (.cs 49 1 (sets [.c (.slice none 0 0)] 0 .lf)) := by
    rw [e1.keep (st.nx + 1) (by omega)]; exact T.get_set_same _ _ _
  have he1 : Ext st.nx st s1 := he2.trans (e1.mono (by omega))
  have hv1 := hv.ext he1
  simp [evOp_call, sets, T.get_set, cellsOf, newC_is, loadE_eq, getC_eq, getsB_1, hone, storeK_g, putB_eq, roT, hv1.lenS]
  have he3 : Ext s1.nx s1 ⟨s1.nx + 1, s1.h.set s1.nx (.cs 49 1 (T.lf.set 0 y))⟩ := (Ext.refl s1.nx s1).new (Nat.le_refl _) _
  have hy3 := hy.ext he3
  refine Gd_loop (setI st st.nx s1.nx x y v L yes l) (fun en _ => muAt 16 l.length en) ?_ ?_
  · refine ⟨0, Nat.zero_le _, by simp [T.get_set], by simp [T.get_set], by simp [T.get_set], by simp [T.get_set], by simp [T.get_set], by simp [T.get_set], by simp [T.get_set], hy3, fun h => (hyo h).ext he3, hyf, fun o ln z e => ?_, fun o ln z e => ?_, b1, Nat.lt_succ_self _, ?_, ?_, ⟨_, T.get_set_same _ _ _, by simp [T.get_set]⟩, he1.trans (he3.mono (by omega))⟩
    · have := hy.lt_of.1 _ _ _ _ e; omega
    · have := hy.lt_of.2 _ _ _ _ e; omega
    · rw [he3.keep _ (by omega)]; exact hg0
    · rw [he3.keep _ (by omega)]; exact hg1
  · clear he3 hy3 hg0 hg1
    rintro en s ⟨k, hk, g1, g3, g6, g7, g14, g15, g16, hry, hoy, hyf, hap, hapl, hq7, hq7n, hgq, hgq1, ⟨t7, hg7, ht7⟩, hs⟩
    by_cases hlt : k < l.length
    · have hlt' : (k : Int) < l.length := by omega
      have hwk := wrap_nat (n := k) (by omega)
      have hvs := hv.ext hs
      obtain ⟨m, o, ty, sz, tr, hid, hm, hg, ho, hc⟩ := hvs.idx (st := s) un63 io3 hlt
      obtain ⟨i, hil⟩ : ∃ w, l[k]? = some w := ⟨_, List.getElem?_eq_getElem hlt⟩
      have hib := hw i (List.mem_of_getElem? hil)
      have t0 : tr.get o = some (.int .i64 i) := hc 0 _ (by omega) (by simpa using iv_get hil)
      have hlen := setB_length yes (l.take k) L
      simp [evOp_call, T.get_set, g1, g3, g6, g7, g14, g15, g16, hlt', hid, loadE_eq, getC_eq, hg, t0, hgq, getsB_1, sets]
      refine Gd.mono (bthere_any s x L (hx.ext hs) i hib _) ?_
      rintro ⟨r, s2⟩ ⟨hr, e2⟩
      simp only at hr e2
      subst hr
      have b2 := e2.le
      have hs2 := hs.trans (e2.mono hs.le)
      have hgq' : s2.h.get st.nx = some (.cs 49 1 (sets [x] 0 .lf)) := by rw [e2.keep _ (by omega)]; exact hgq
      have hgq1' : s2.h.get (st.nx + 1) = some (.cs 49 1 (sets [.c (.slice none 0 0)] 0 .lf)) := by rw [e2.keep _ (by omega)]; exact hgq1
      have hg7' : s2.h.get s1.nx = some (.cs 49 1 t7) := by rw [e2.keep _ hq7n]; exact hg7
      have hry2 := hry.ext e2
      by_cases hin : 0 ≤ i ∧ i < L.length * 64
      · have hone2 : setOne yes (setB L yes (l.take k)) i = (setB L yes (l.take k)).set (i.toNat / 64) (if yes then (setB L yes (l.take k))[i.toNat / 64]?.getD 0#64 ||| 1#64 <<< (i.toNat % 64) else (setB L yes (l.take k))[i.toNat / 64]?.getD 0#64 &&& ~~~(1#64 <<< (i.toNat % 64))) := by
          unfold setOne; rw [if_pos ⟨hin.1, by rw [hlen]; exact hin.2⟩]
        obtain ⟨n, rfl⟩ := Int.eq_ofNat_of_zero_le hin.1
        have hnl : n / 64 < L.length := by omega
        obtain ⟨m2, ty2, tr2, rfl, hb2, hm2, hg2, hro2, hc2, hput⟩ := OwnRow.put ((hoy (by omega)).ext e2) (i := n / 64) (by omega)
        obtain ⟨w, hwl⟩ : ∃ w, (setB L yes (l.take k))[n / 64]? = some w := ⟨_, List.getElem?_eq_getElem (by rw [hlen]; exact hnl)⟩
        have u0 : tr2.get (n / 64) = some (wd w) := hc2 _ _ (wv_get hwl)
        have hwd : IntKind.i64.wrap ((n : Int) / 64) = (n : Int) / 64 := wrap_in (by omega) (by omega)
        have hn0 : (0 : Int) ≤ (n : Int) % 64 := by omega
        have hnt : ((n : Int) % 64).toNat = n % 64 := by omega
        have hnl1 : n / 64 + 1 ≤ L.length := hnl
        have hm7 : ¬ m2 = s1.nx := fun e => hap 0 _ _ (by rw [e])
        have hd1 : decide (0 ≤ (n : Int) ∧ (n : Int) < L.length * 64) = true := by simpa using hin
        simp only [hd1]
        cases yes with
        | true =>
          simp [evOp_call, T.get_set, g1, g3, g6, g7, g14, g15, g16, loadE_eq, getC_eq, hg7', ht7, quo64, rem64, hwd, asNat_div, hnl, hg2, u0, hn0, hnt, sets]
          refine ⟨by kernel_rfl, ?_⟩
          rw [cxOf_store]
          rotate_left
          · kernel_rfl
          simp [T.get_set, asNat_div, hnl, hg2, u0, hn0, hnt, sets, putB_eq, roT, hro2, g16, hwk, hnl1]
          have hset : setB L true (l.take (k + 1)) = (setB L true (l.take k)).set (n / 64) (w ||| 1#64 <<< (n % 64)) := by
            rw [setB_take hil, hone2]; simp [hwl]
          have hp := hput (wd (w ||| 1#64 <<< (n % 64)))
          have hwv : wv ((setB L true (l.take k)).set (n / 64) (w ||| 1#64 <<< (n % 64))) = (wv (setB L true (l.take k))).set (n / 64) (wd (w ||| 1#64 <<< (n % 64))) := by unfold wv; rw [List.map_set]
          refine ⟨⟨k + 1, hlt, by simp [T.get_set, g1], by simp [T.get_set, g3], by simp [T.get_set, g6], by simp [T.get_set, g7], by simp [T.get_set, g14], by simp [T.get_set, g15], by simp [T.get_set], ?_, fun h => ?_, hyf, hap, hapl, hq7, by show s1.nx < s2.nx; omega, ?_, ?_, ⟨t7, ?_, ht7⟩, hs2.set (by omega) hm2 _⟩, muAt_lt g16 (by simp [T.get_set]) hlt⟩
          · rw [hset, hwv]; exact hp.rd
          · rw [hset, hwv]; exact hp
          · exact (T.get_set_ne _ _ (by omega)).trans hgq'
          · exact (T.get_set_ne _ _ (by omega)).trans hgq1'
          · exact (T.get_set_ne _ _ hm7).trans hg7'
        | false =>
          simp [evOp_call, T.get_set, g1, g3, g6, g7, g14, g15, g16, loadE_eq, getC_eq, hg7', ht7, quo64, rem64, hwd, asNat_div, hnl, hg2, u0, hn0, hnt, sets]
          refine ⟨by kernel_rfl, ?_⟩
          rw [cxOf_store]
          rotate_left
          · kernel_rfl
          simp [T.get_set, asNat_div, hnl, hg2, u0, hn0, hnt, sets, putB_eq, roT, hro2, g16, hwk, hnl1]
          have hset : setB L false (l.take (k + 1)) = (setB L false (l.take k)).set (n / 64) (w &&& ~~~(1#64 <<< (n % 64))) := by
            rw [setB_take hil, hone2]; simp [hwl]
          have hp := hput (wd (w &&& ~~~(1#64 <<< (n % 64))))
          have hwv : wv ((setB L false (l.take k)).set (n / 64) (w &&& ~~~(1#64 <<< (n % 64)))) = (wv (setB L false (l.take k))).set (n / 64) (wd (w &&& ~~~(1#64 <<< (n % 64)))) := by unfold wv; rw [List.map_set]
          refine ⟨⟨k + 1, hlt, by simp [T.get_set, g1], by simp [T.get_set, g3], by simp [T.get_set, g6], by simp [T.get_set, g7], by simp [T.get_set, g14], by simp [T.get_set, g15], by simp [T.get_set], ?_, fun h => ?_, hyf, hap, hapl, hq7, by show s1.nx < s2.nx; omega, ?_, ?_, ⟨t7, ?_, ht7⟩, hs2.set (by omega) hm2 _⟩, muAt_lt g16 (by simp [T.get_set]) hlt⟩
          · rw [hset, hwv]; exact hp.rd
          · rw [hset, hwv]; exact hp
          · exact (T.get_set_ne _ _ (by omega)).trans hgq'
          · exact (T.get_set_ne _ _ (by omega)).trans hgq1'
          · exact (T.get_set_ne _ _ hm7).trans hg7'
      · have hone2 : setOne yes (setB L yes (l.take k)) i = setB L yes (l.take k) := by
          unfold setOne; rw [if_neg (by rw [hlen]; exact hin)]
        have hd1 : decide (0 ≤ i ∧ i < (L.length : Int) * 64) = false := by simpa using hin
        simp only [hd1]
        simp [evOp_call, T.get_set, g1, g3, g6, g7, g14, g15, g16, hwk]
        refine ⟨⟨k + 1, hlt, by simp [T.get_set, g1], by simp [T.get_set, g3], by simp [T.get_set, g6], by simp [T.get_set, g7], by simp [T.get_set, g14], by simp [T.get_set, g15], by simp [T.get_set], ?_, fun h => ?_, hyf, hap, hapl, hq7, by omega, hgq', hgq1', ⟨t7, hg7', ht7⟩, hs2⟩, muAt_lt g16 (by simp [T.get_set]) hlt⟩
        · rw [setB_take hil, hone2]; exact hry2
        · rw [setB_take hil, hone2]; exact (hoy h).ext e2
    · obtain rfl : k = l.length := by omega
      rw [List.take_length] at hry
      simp [evOp_call, T.get_set, g1, g3, g6, g7, g14, g15, g16, loadE_eq, getC_eq, hg7, ht7, getsB_1, storeK_g, putB_eq, roT, hgq1, sets]
      exact ⟨hry.setOther (fun o ln z e => by have := hyf.1 _ _ _ _ e; omega) (fun o ln z e => by have := hyf.2 _ _ _ _ e; omega) _, hyf.mono (by omega), hs.set (by omega) (by omega) _⟩
end Go.Proofs.Ytcjddojcfdeflaa
set_option linter.unusedSimpArgs false
namespace Go.Proofs.Ytcjddojcfdeflaa
open Go.RowKit Ev
theorem rep_zero (n : Nat) : rep [V.int .u64 0] n = wv (List.replicate n 0#64) := by
  induction n with
  | zero => rfl
  | succ n ih => show [V.int .u64 0] ++ rep [V.int .u64 0] n = _; rw [ih]; rfl
theorem builtR {st : St} {el n : Nat} {vs : List V} (hel : el ≠ roT) (hn : vs.length = n) : RdRow ⟨st.nx + 1, st.h.set st.nx (.cs el n (sets vs 0 .lf))⟩ (.sl st.nx 0 n n) 1 n vs := (AppRow.built (b := st.nx) (Nat.le_refl _) hel hn).rd
set_option maxRecDepth 20000 in
set_option maxHeartbeats 4000000 in
theorem bnew_any (st : St) (n : Nat) (hn : n ≤ 65536) (nt : Nat) :
    Gd (callL Try.prog ⟨false, [], 0, nt⟩ 57 [.int .i64 (n : Int)] st) fun r => ∃ y, r.1 = .g [y] ∧ RdRow r.2 y 1 ((n + 63) / 64) (wv (List.replicate ((n + 63) / 64) 0#64)) ∧ RowFrom st.nx y ∧ Ext st.nx st r.2 := by
  rw [Gd_callL Try.func57 rfl]
  have c1 : ¬ (65536 : Int) < (n : Int) := by omega
  have c2 : (if (0 : Int) < (n : Int) then (n : Int) else 0) = (n : Int) := by split <;> omega
  have c3 : (if 0 < n then (n : Int) else 0) = (n : Int) := by split <;> omega
  have w1 : IntKind.i64.wrap ((n : Int) + 64) = (n : Int) + 64 := wrap_in (by omega) (by omega)
  have w2 : IntKind.i64.wrap ((n : Int) + 64 - 1) = (n : Int) + 64 - 1 := wrap_in (by omega) (by omega)
  have w3 : ((n : Int) + 64 - 1).tdiv 64 = (((n + 63) / 64 : Nat) : Int) := by rw [Int.tdiv_eq_ediv_of_nonneg (by omega)]; omega
  have w4 : IntKind.i64.wrap (((n + 63) / 64 : Nat) : Int) = (((n + 63) / 64 : Nat) : Int) := wrap_in (by omega) (by omega)
  have w5 : IntKind.i64.wrap (((n : Int) + 63) / 64) = ((n : Int) + 63) / 64 := wrap_in (by omega) (by omega)
  have he : Ext st.nx st ⟨st.nx + 1, st.h.set st.nx (.cs 49 1 (sets [.c (.slice none 0 0)] 0 .lf))⟩ := (Ext.refl _ _).new (Nat.le_refl _) _
  simp [evOp_call, sets, T.get_set, cellsOf, newC_is, loadE_eq, getC_eq, evOp_min, evOp_max, min_i64, max_i64, c1, c2, c3, w1, w2, w3, w4]
  refine Gd_make (n := (n + 63) / 64) (q := (n + 63) / 64) (i := .i64) (i' := .i64) (zs := [.int .u64 0]) (fun k => el28 k) io39 (fun k => ze39 k) (by simp [T.get_set, w1, w2, w3, w4, w5]) (by simp [T.get_set, w1, w2, w3, w4, w5]) (Nat.le_refl _) (by omega) ?_
  rw [rep_zero]
  have hb := builtR (st := ⟨st.nx + 1, st.h.set st.nx (.cs 49 1 (sets [.c (.slice none 0 0)] 0 .lf))⟩) (el := 39) (vs := wv (List.replicate ((n + 63) / 64) 0#64)) (n := (n + 63) / 64) (by decide) (by simp [wv])
  have q1 : ¬ st.nx + 1 = st.nx := by omega
  simp [evOp_call, sets, T.get_set, cellsOf, newC_is, loadE_eq, getC_eq, storeK_g, putB_eq, roT, q1, getsB_1]
  refine ⟨hb.setOther (k := st.nx) (fun o l z e => by cases e) (fun o l q e => by injection e with e; exact q1 e) _, ⟨fun _ _ _ _ e => (by cases e), fun _ _ _ _ e => (by injection e with e; omega)⟩, (he.new (Nat.le_succ _) _).set (Nat.le_refl _) (by show st.nx < st.nx + 1 + 1; omega) _⟩
set_option maxRecDepth 20000 in
set_option maxHeartbeats 2000000 in
theorem copied_any (st : St) (x : V) (n : Nat) (l : List V) (hx : RdRow st x 1 n l) (hn : n ≤ 1000000) (nt : Nat) :
    Gd (callL Try.prog ⟨false, [], 0, nt⟩ 61 [.g [x]] st) fun r => ∃ y, r.1 = .g [y] ∧ RdRow r.2 y 1 n l ∧ RowFrom st.nx y ∧ Ext st.nx st r.2 := by
  rw [Gd_callL Try.func61 rfl]
  have hone := hx.one
  have he : Ext st.nx st ⟨st.nx + 1, st.h.set st.nx (.cs 49 1 (sets [x] 0 .lf))⟩ := (Ext.refl _ _).new (Nat.le_refl _) _
  have he2 := he.new (Nat.le_succ _) (.cs 49 1 (sets [.c (.slice none 0 0)] 0 .lf))
  have hx2 := hx.ext he2
  simp [evOp_call, sets, T.get_set, cellsOf, newC_is, loadE_eq, getC_eq, getsB_1]
  refine Gd.mono (clone_any _ x _ _ hx2 hn _) ?_
  rintro ⟨y, s1⟩ ⟨hy, hyo, hyf, e1⟩
  simp only at hy hyo hyf e1
  have b1 : st.nx + 2 ≤ s1.nx := e1.le
  have hyone := hy.one
  have hg1 : s1.h.get (st.nx + 1) = some (.cs 49 1 (sets [.c (.slice none 0 0)] 0 .lf)) := by
    rw [e1.keep (st.nx + 1) (by show st.nx + 1 < st.nx + 1 + 1; omega)]; exact T.get_set_same _ _ _
  simp [evOp_call, sets, T.get_set, cellsOf, newC_is, loadE_eq, getC_eq, getsB_1, storeK_g, putB_eq, roT, hg1, hyone]
  refine ⟨?_, hyf.mono (by show st.nx ≤ st.nx + 1 + 1; omega), ?_⟩
  · exact hy.setOther (k := st.nx + 1) (fun o l z e => by have := hyf.1 _ _ _ _ e; have h2 : st.nx + 1 + 1 ≤ st.nx + 1 := this; omega) (fun o l q e => by have := hyf.2 _ _ _ _ e; have h2 : st.nx + 1 + 1 ≤ st.nx + 1 := this; omega) _
  · exact (he2.trans (e1.mono (by show st.nx ≤ st.nx + 1 + 1; omega))).set (by omega) (by omega) _
end Go.Proofs.Ytcjddojcfdeflaa

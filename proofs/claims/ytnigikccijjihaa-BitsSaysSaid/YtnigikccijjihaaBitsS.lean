/-
  BitsSays: the document's own answers, and the walk.
-/
import Derived.Test.YtnigikccijjihaaBitsR
set_option linter.unusedSimpArgs false
namespace Go.Proofs.Ytnigikccijjihaa
open Go.RowKit Ev
def sameWI (st : St) (x y : V) (n : Nat) (a b : List (BitVec 64)) (e : Env) (s : St) : Prop := ∃ j, j ≤ n ∧ e.get 0 = some x ∧ e.get 1 = some y ∧ e.get 5 = some (.int .i64 (j : Int)) ∧ a.take j = b.take j ∧ s = st
theorem takeW_succ {a b : List (BitVec 64)} {j : Nat} {p q : BitVec 64} (h : a.take j = b.take j) (ha : a[j]? = some p) (hb : b[j]? = some q) : a.take (j + 1) = b.take (j + 1) ↔ p = q := by
  rw [List.take_add_one, List.take_add_one, ha, hb, h]
  simp
theorem sameB_any (st : St) (x y : V) (a b : List (BitVec 64)) (hx : RdRow st x 1 a.length (wv a)) (hy : RdRow st y 1 b.length (wv b)) (hn : a.length ≤ 100000) (nt : Nat) :
    Gd (callL Try.prog ⟨false, [], 0, nt⟩ 93 [x, y] st) fun r => r = (.bool (decide (a = b)), st) := by
  rw [Gd_callL Try.func93 rfl]
  by_cases hk : a.length = b.length
  · have hk' : (a.length : Int) = b.length := by omega
    simp [evOp_call, sets, T.get_set, hx.lenS, hy.lenS, hk']
    refine Gd_loop (sameWI st x y a.length a b) (fun e _ => muAt 5 a.length e) ?_ ?_
    · exact ⟨0, Nat.zero_le _, by simp [T.get_set], by simp [T.get_set], by simp [T.get_set], by simp, rfl⟩
    · rintro e s ⟨j, hj, g0, g1, g5, hab, rfl⟩
      by_cases hlt : j < a.length
      · have hlt' : (j : Int) < a.length := by omega
        have hw := wrap_nat (n := j) (by omega)
        obtain ⟨p, hp⟩ : ∃ p, a[j]? = some p := ⟨_, List.getElem?_eq_getElem (by omega)⟩
        obtain ⟨q, hq⟩ : ∃ q, b[j]? = some q := ⟨_, List.getElem?_eq_getElem (by omega)⟩
        obtain ⟨m1, o1, ty1, sz1, t1, i1, b1, k1, l1, c1⟩ := hx.idx (st := s) un23 io24 hlt
        obtain ⟨m2, o2, ty2, sz2, t2, i2, b2, k2, l2, c2⟩ := hy.idx (st := s) un23 io24 (show j < b.length by omega)
        have d1 : t1.get o1 = some (wd p) := c1 0 _ (by omega) (by simpa using wv_get hp)
        have d2 : t2.get o2 = some (wd q) := c2 0 _ (by omega) (by simpa using wv_get hq)
        simp [T.get_set, g0, g1, g5, hx.lenS, hlt', i1, i2, loadE_eq, getC_eq, k1, k2, d1, d2]
        refine ⟨by kernel_rfl, ?_⟩
        by_cases hpq : p = q
        · subst hpq
          simp [T.get_set, g0, g1, g5, hw]
          exact ⟨⟨j + 1, by omega, by simp [T.get_set, g0], by simp [T.get_set, g1], by simp [T.get_set], (takeW_succ hab hp hq).2 rfl, rfl⟩, muAt_lt g5 (by simp [T.get_set]) hlt⟩
        · have hne : ¬ a = b := fun e => by subst e; rw [hp] at hq; injection hq with hq; exact hpq hq
          simp [T.get_set, hpq, hne]
      · obtain rfl : j = a.length := by omega
        have : a = b := by rw [← List.take_length (l := a), ← List.take_length (l := b), ← hk]; exact hab
        simp [T.get_set, g0, g1, g5, hx.lenS, this]
  · have : ¬ a = b := fun e => by subst e; omega
    have hk' : ¬ (a.length : Int) = b.length := by omega
    simp [evOp_call, sets, T.get_set, hx.lenS, hy.lenS, hk, hk', this]
theorem rhas_any (st : St) (x : V) (L : List (BitVec 64)) (hx : RdRow st x 1 L.length (wv L)) (hL : L.length ≤ 100000) (i : Int) (hi : -9223372036854775808 ≤ i ∧ i ≤ 9223372036854775807) (nt : Nat) :
    Gd (callL Try.prog ⟨false, [], 0, nt⟩ 99 [x, .int .i64 i] st) fun r => r = (.bool (hasI L i), st) := by
  rw [Gd_callL Try.func99 rfl]
  have hw64 : IntKind.i64.wrap (64 * (L.length : Int)) = 64 * (L.length : Int) := wrap_in (by omega) (by omega)
  by_cases h0 : 0 ≤ i
  · obtain ⟨n, rfl⟩ := Int.eq_ofNat_of_zero_le h0
    by_cases h1 : (n : Int) < 64 * (L.length : Int)
    · have hw : IntKind.i64.wrap ((n : Int) / 64) = (n : Int) / 64 := wrap_in (by omega) (by omega)
      have hlt : n / 64 < L.length := by omega
      obtain ⟨m, o, ty, sz, tr, hid, hm, hg, ho, hc⟩ := hx.idx (st := st) un23 io24 hlt
      obtain ⟨w, hwl⟩ : ∃ w, L[n / 64]? = some w := ⟨_, List.getElem?_eq_getElem hlt⟩
      have t0 : tr.get o = some (wd w) := hc 0 _ (by omega) (by simpa using wv_get hwl)
      have hbit : bit L n = w.getLsbD (n % 64) := by simp [bit, hwl]
      have hnt : (BitVec.ofInt 64 ((n : Int) % 64)).toNat = n % 64 := by
        rw [BitVec.toNat_ofInt]; omega
      simp [evOp_call, sets, T.get_set, hx.lenS, hw64, h1, loadE_eq, getC_eq, quo64, rem64, hw, asNat_div, hid, hg, t0, hasI_nat, hbit, hnt, and1]
    · have hh : hasI L n = false := by rw [hasI_nat]; exact bit_out (by omega)
      simp [evOp_call, sets, T.get_set, hx.lenS, hw64, h1, hh]
  · have hh : hasI L i = false := hasI_neg (by omega)
    simp [evOp_call, sets, T.get_set, hx.lenS, h0, hh]
def rnextI (st : St) (x : V) (L : List (BitVec 64)) (yes : Bool) (e : Int) (r : Option Nat) (en : Env) (s : St) : Prop := ∃ i : Nat, en.get 0 = some x ∧ en.get 1 = some (.bool yes) ∧ en.get 3 = some (.int .i64 e) ∧ en.get 10 = some (.int .i64 (i : Int)) ∧
  nextF (fun i => bit L i == yes) (endB L e - i).toNat i = r ∧ (i : Int) ≤ 9223372036854775807 ∧ s = st
set_option maxHeartbeats 1000000 in
theorem rnext_any (st : St) (x : V) (L : List (BitVec 64)) (hx : RdRow st x 1 L.length (wv L)) (hL : L.length ≤ 100000) (yes : Bool) (f e : Int) (hf : -9223372036854775808 ≤ f ∧ f ≤ 9223372036854775807) (nt : Nat) :
    Gd (callL Try.prog ⟨false, [], 0, nt⟩ 90 [x, .bool yes, .int .i64 f, .int .i64 e] st) fun r => r = (nextV (nextB L yes f e), st) := by
  rw [Gd_callL Try.func90 rfl]
  have hw64 : IntKind.i64.wrap (64 * (L.length : Int)) = 64 * (L.length : Int) := wrap_in (by omega) (by omega)
  have hf0 : 0 ≤ fromB f := by unfold fromB; split <;> omega
  simp [evOp_call, sets, T.get_set]
  refine condK_join (fun r => ∃ en : Env, r = (.n, en, st) ∧ en.get 0 = some x ∧ en.get 1 = some (.bool yes) ∧ en.get 2 = some (.int .i64 (fromB f)) ∧ en.get 3 = some (.int .i64 e)) ?_ ?_
  · by_cases hneg : f < 0
    · have hfB : fromB f = 0 := by unfold fromB; split <;> omega
      simp [evOp_call, T.get_set, hneg, hfB]
    · have hfB : fromB f = f := by unfold fromB; split <;> omega
      simp [evOp_call, T.get_set, hneg, hfB]
  · rintro _ ⟨en, rfl, h0, h1, h2, h3⟩
    simp [evOp_call, T.get_set, h2]
    refine Gd_loop (rnextI st x L yes e (nextB L yes f e)) (fun en _ => gapAt 10 (endB L e) en) ?_ ?_
    · exact ⟨(fromB f).toNat, by simp [T.get_set, h0], by simp [T.get_set, h1], by simp [T.get_set, h3], by simp [T.get_set]; omega, by unfold nextB; rw [Int.toNat_of_nonneg hf0], by unfold fromB; split <;> omega, rfl⟩
    · clear h0 h1 h2 h3
      rintro en s ⟨i, g0, g1, g3, g10, hn, hi, rfl⟩
      by_cases hlt : (i : Int) < endB L e
      · have ha : (i : Int) < e := by unfold endB at hlt; split at hlt <;> omega
        have hb : (i : Int) < 64 * (L.length : Int) := by unfold endB at hlt; split at hlt <;> omega
        have hw : IntKind.i64.wrap ((i : Int) + 1) = (i : Int) + 1 := wrap_in (by omega) (by omega)
        have hstep : (endB L e - (i : Int)).toNat = (endB L e - ((i + 1 : Nat) : Int)).toNat + 1 := by omega
        rw [hstep] at hn
        unfold nextF at hn
        simp [evOp_call, T.get_set, g0, g1, g3, g10, ha, hb, hx.lenS, hw64]
        refine Gd.mono (rhas_any s x L hx hL i (by omega) _) ?_
        rintro _ rfl
        rw [hasI_nat]
        cases hbit : bit L i == yes with
        | true =>
          rw [if_pos hbit] at hn
          simp [evOp_call, T.get_set, g0, g1, g3, g10, hbit]
          rw [← hn]
          rfl
        | false =>
          rw [if_neg (by simp [hbit])] at hn
          simp [evOp_call, T.get_set, g0, g1, g3, g10, hbit, hw]
          exact ⟨⟨i + 1, by simp [T.get_set, g0], by simp [T.get_set, g1], by simp [T.get_set, g3], by simp [T.get_set], hn, by omega, rfl⟩, gapAt_lt g10 (by simp [T.get_set]; rfl) hlt (by omega)⟩
      · have h00 : (endB L e - (i : Int)).toNat = 0 := by omega
        rw [h00] at hn
        rw [← hn]
        by_cases ha : (i : Int) < e
        · have hb : ¬ (i : Int) < 64 * (L.length : Int) := by unfold endB at hlt; split at hlt <;> omega
          simp [evOp_call, T.get_set, g0, g1, g3, g10, ha, hb, hx.lenS, hw64, nextF, nextV]
        · simp [evOp_call, T.get_set, g0, g1, g3, g10, ha, nextF, nextV]
def rfreeI (st : St) (x : V) (L : List (BitVec 64)) (e n f : Int) (r : Option Int) (en : Env) (s : St) : Prop := ∃ (i : Nat) (row : Int), en.get 0 = some x ∧ en.get 2 = some (.int .i64 e) ∧ en.get 3 = some (.int .i64 n) ∧ en.get 10 = some (.int .i64 row) ∧ en.get 11 = some (.int .i64 (i : Int)) ∧
  (1 ≤ n → freeF (bit L) n (endB L e - i).toNat i row = r) ∧ f ≤ i ∧ 0 ≤ row ∧ row ≤ i - f ∧ (i : Int) ≤ 9223372036854775807 ∧ s = st
set_option maxHeartbeats 1000000 in
theorem rfree_any (st : St) (x : V) (L : List (BitVec 64)) (hx : RdRow st x 1 L.length (wv L)) (hL : L.length ≤ 100000) (f e n : Int) (hf : -9223372036854775808 ≤ f ∧ f ≤ 9223372036854775807) (nt : Nat) :
    Gd (callL Try.prog ⟨false, [], 0, nt⟩ 92 [x, .int .i64 f, .int .i64 e, .int .i64 n] st) fun r => r = (freeV (freeB L f e n), st) := by
  rw [Gd_callL Try.func92 rfl]
  have hw64 : IntKind.i64.wrap (64 * (L.length : Int)) = 64 * (L.length : Int) := wrap_in (by omega) (by omega)
  have hf0 : 0 ≤ fromB f := by unfold fromB; split <;> omega
  simp [evOp_call, sets, T.get_set]
  refine condK_join (fun r => ∃ en : Env, r = (.n, en, st) ∧ en.get 0 = some x ∧ en.get 1 = some (.int .i64 (fromB f)) ∧ en.get 2 = some (.int .i64 e) ∧ en.get 3 = some (.int .i64 n)) ?_ ?_
  · by_cases hneg : f < 0
    · have hfB : fromB f = 0 := by unfold fromB; split <;> omega
      simp [evOp_call, T.get_set, hneg, hfB]
    · have hfB : fromB f = f := by unfold fromB; split <;> omega
      simp [evOp_call, T.get_set, hneg, hfB]
  · rintro _ ⟨en, rfl, h0, h1, h2, h3⟩
    simp [evOp_call, T.get_set, h1]
    refine Gd_loop (rfreeI st x L e n (fromB f) (freeB L f e n)) (fun en _ => gapAt 11 (endB L e) en) ?_ ?_
    · exact ⟨(fromB f).toNat, 0, by simp [T.get_set, h0], by simp [T.get_set, h2], by simp [T.get_set, h3], by simp [T.get_set], by simp [T.get_set]; omega, fun hn => by unfold freeB; rw [if_neg (by omega), Int.toNat_of_nonneg hf0], by omega, by omega, by omega, by unfold fromB; split <;> omega, rfl⟩
    · clear h0 h1 h2 h3
      rintro en s ⟨i, row, g0, g2, g3, g10, g11, hn, hfi, hrow, hrow2, hi, rfl⟩
      by_cases hn1 : 1 ≤ n
      · replace hn := hn hn1
        by_cases hlt : (i : Int) < endB L e
        · have ha : (i : Int) < e := by unfold endB at hlt; split at hlt <;> omega
          have hb : (i : Int) < 64 * (L.length : Int) := by unfold endB at hlt; split at hlt <;> omega
          have hw : IntKind.i64.wrap ((i : Int) + 1) = (i : Int) + 1 := wrap_in (by omega) (by omega)
          have hw2 : IntKind.i64.wrap (row + 1) = row + 1 := wrap_in (by omega) (by omega)
          have hstep : (endB L e - (i : Int)).toNat = (endB L e - ((i + 1 : Nat) : Int)).toNat + 1 := by omega
          rw [hstep] at hn
          unfold freeF at hn
          simp [evOp_call, T.get_set, g0, g2, g3, g10, g11, ha, hb, hn1, hx.lenS, hw64]
          refine Gd.mono (rhas_any s x L hx hL i (by omega) _) ?_
          rintro _ rfl
          rw [hasI_nat]
          cases hbit : bit L i with
          | true =>
            have hn0 : ¬ (0 : Int) = n := by omega
            rw [if_pos hbit] at hn
            simp [evOp_call, T.get_set, g0, g2, g3, g10, g11, hw, hn0]
            exact ⟨⟨i + 1, 0, by simp [T.get_set, g0], by simp [T.get_set, g2], by simp [T.get_set, g3], by simp [T.get_set], by simp [T.get_set], fun _ => hn, by omega, by omega, by omega, by omega, rfl⟩, gapAt_lt g11 (by simp [T.get_set]; rfl) hlt (by omega)⟩
          | false =>
            rw [if_neg (by simp [hbit])] at hn
            by_cases hrn : row + 1 = n
            · rw [if_pos hrn] at hn
              have hw3 : IntKind.i64.wrap ((i : Int) - n) = (i : Int) - n := wrap_in (by omega) (by omega)
              have hw4 : IntKind.i64.wrap ((i : Int) - n + 1) = (i : Int) - n + 1 := wrap_in (by omega) (by omega)
              have hw5 : IntKind.i64.wrap n = n := wrap_in (by omega) (by omega)
              simp [evOp_call, T.get_set, g0, g2, g3, g10, g11, hw, hw2, hrn, hw3, hw4, hw5]
              rw [← hn]
              rfl
            · rw [if_neg hrn] at hn
              simp [evOp_call, T.get_set, g0, g2, g3, g10, g11, hw, hw2, hrn]
              exact ⟨⟨i + 1, row + 1, by simp [T.get_set, g0], by simp [T.get_set, g2], by simp [T.get_set, g3], by simp [T.get_set], by simp [T.get_set], fun _ => hn, by omega, by omega, by omega, by omega, rfl⟩, gapAt_lt g11 (by simp [T.get_set]; rfl) hlt (by omega)⟩
        · have h00 : (endB L e - (i : Int)).toNat = 0 := by omega
          rw [h00] at hn
          rw [← hn]
          by_cases ha : (i : Int) < e
          · have hb : ¬ (i : Int) < 64 * (L.length : Int) := by unfold endB at hlt; split at hlt <;> omega
            simp [evOp_call, T.get_set, g0, g2, g3, g10, g11, ha, hb, hx.lenS, hw64, freeF, freeV]
          · simp [evOp_call, T.get_set, g0, g2, g3, g10, g11, ha, freeF, freeV]
      · have hfr : freeB L f e n = none := by unfold freeB; rw [if_pos (by omega)]
        rw [hfr]
        by_cases ha : (i : Int) < e
        · by_cases hb : (i : Int) < 64 * (L.length : Int)
          · simp [evOp_call, T.get_set, g0, g2, g3, g10, g11, ha, hb, hn1, hx.lenS, hw64, freeV]
          · simp [evOp_call, T.get_set, g0, g2, g3, g10, g11, ha, hb, hx.lenS, hw64, freeV]
        · simp [evOp_call, T.get_set, g0, g2, g3, g10, g11, ha, freeV]
def rcntI (st : St) (x : V) (L : List (BitVec 64)) (en : Env) (s : St) : Prop := ∃ i : Nat, i ≤ 64 * L.length ∧ en.get 0 = some x ∧ en.get 3 = some (.int .i64 (cntN L i : Int)) ∧ en.get 4 = some (.int .i64 (i : Int)) ∧ s = st
theorem rcount_any (st : St) (x : V) (L : List (BitVec 64)) (hx : RdRow st x 1 L.length (wv L)) (hL : L.length ≤ 100000) (nt : Nat) :
    Gd (callL Try.prog ⟨false, [], 0, nt⟩ 97 [x] st) fun r => r = (.int .i64 (cntL L : Int), st) := by
  rw [Gd_callL Try.func97 rfl]
  have hw64 : IntKind.i64.wrap (64 * (L.length : Int)) = 64 * (L.length : Int) := wrap_in (by omega) (by omega)
  simp [evOp_call, sets, T.get_set]
  refine Gd_loop (rcntI st x L) (fun en _ => muAt 4 (64 * L.length) en) ?_ ?_
  · exact ⟨0, Nat.zero_le _, by simp [T.get_set], by simp [T.get_set, cntN], by simp [T.get_set], rfl⟩
  · rintro en s ⟨i, hi, g0, g3, g4, rfl⟩
    by_cases hlt : i < 64 * L.length
    · have hlt' : (i : Int) < 64 * (L.length : Int) := by omega
      have hw := wrap_nat (n := i) (by omega)
      have hcl := cntN_le L i
      have hwc := wrap_nat (n := cntN L i) (by omega)
      simp [evOp_call, T.get_set, g0, g3, g4, hlt', hx.lenS, hw64]
      refine Gd.mono (rhas_any s x L hx hL i (by omega) _) ?_
      rintro _ rfl
      rw [hasI_nat]
      cases hb : bit L i with
      | true =>
        have hc : cntN L (i + 1) = cntN L i + 1 := by show cntN L i + (bit L i).toNat = _; rw [hb]; rfl
        simp [evOp_call, T.get_set, g0, g3, g4, hw, hwc]
        exact ⟨⟨i + 1, hlt, by simp [T.get_set, g0], by simp [T.get_set, hc], by simp [T.get_set], rfl⟩, muAt_lt g4 (by simp [T.get_set]) hlt⟩
      | false =>
        have hc : cntN L (i + 1) = cntN L i := by show cntN L i + (bit L i).toNat = _; rw [hb]; rfl
        simp [evOp_call, T.get_set, g0, g3, g4, hw]
        exact ⟨⟨i + 1, hlt, by simp [T.get_set, g0], by simp [T.get_set, g3, hc], by simp [T.get_set], rfl⟩, muAt_lt g4 (by simp [T.get_set]) hlt⟩
    · obtain rfl : i = 64 * L.length := by omega
      have hc := cntN_take L L.length (Nat.le_refl _)
      rw [List.take_length] at hc
      simp [evOp_call, T.get_set, g0, g3, g4, hx.lenS, hw64, hc]
def rsetI (st : St) (x y v : V) (L : List (BitVec 64)) (yes : Bool) (l : List Int) (en : Env) (s : St) : Prop := ∃ k : Nat, k ≤ l.length ∧ en.get 0 = some x ∧ en.get 1 = some (.bool yes) ∧ en.get 2 = some v ∧ en.get 7 = some y ∧ en.get 8 = some (.int .i64 (k : Int)) ∧
  RdRow s y 1 L.length (wv (setB L yes (l.take k))) ∧ (0 < L.length → OwnRow st.nx s y 1 L.length (wv (setB L yes (l.take k)))) ∧ Ext st.nx st s
set_option maxHeartbeats 2000000 in
theorem rset_any (st : St) (x v : V) (L : List (BitVec 64)) (hx : RdRow st x 1 L.length (wv L)) (hL : L.length ≤ 100000) (yes : Bool) (l : List Int) (hv : RdRow st v 1 l.length (iv l)) (hl : l.length ≤ 100000) (nt : Nat) :
    Gd (callL Try.prog ⟨false, [], 0, nt⟩ 95 [x, .bool yes, v] st) fun r => RdRow r.2 r.1 1 L.length (wv (setB L yes l)) ∧ Ext st.nx st r.2 := by
  rw [Gd_callL Try.func95 rfl]
  have hw64 : IntKind.i64.wrap (64 * (L.length : Int)) = 64 * (L.length : Int) := wrap_in (by omega) (by omega)
  simp [evOp_call, sets, T.get_set]
  rw [evOp_build0 (fun k => el23 k) (fun k => ze24 k) rfl]
  simp [T.get_set]
  have he : Ext st.nx st ⟨st.nx + 1, st.h.set st.nx (.cs 24 0 .lf)⟩ := (Ext.refl _ _).new (Nat.le_refl _) _
  have hx' := hx.ext he
  have rest : ∀ (y : V) (s : St) (en : Env), RdRow s y 1 L.length (wv L) → (0 < L.length → OwnRow st.nx s y 1 L.length (wv L)) → Ext st.nx st s → en.get 0 = some x → en.get 1 = some (.bool yes) → en.get 2 = some v → en.get 7 = some y → en.get 8 = some (.int .i64 ((0 : Nat) : Int)) → rsetI st x y v L yes l en s := fun y s en h1 h2 h3 k0 k1 k2 k7 k8 =>
    ⟨0, Nat.zero_le _, k0, k1, k2, k7, k8, h1, h2, h3⟩
  refine Gd_append0 un23 un23 io24 (by decide) (T.get_set_same _ _ _) hx.notS (fun k => hx.len k) (fun k => hx'.firsts k) hx.1 (by omega) (fun h0 => ?_) fun h1 => ?_
  · simp [T.get_set]
    have hLn : L = [] := List.length_eq_zero_iff.1 h0
    subst hLn
    have hset : ∀ k, setB [] yes (l.take k) = [] := fun k => List.length_eq_zero_iff.1 (by rw [setB_length]; rfl)
    refine Gd_loop (fun en s => rsetI st x (.sl st.nx 0 0 0) v [] yes l en s) (fun en _ => muAt 8 l.length en) ?_ ?_
    · exact rest _ _ _ ⟨rfl, .inr (.inl ⟨st.nx, 0, 0, 24, 0, .lf, rfl, Nat.lt_succ_self _, T.get_set_same _ _ _, Nat.le_refl _, fun j v h => by simp [wv] at h⟩)⟩ (fun h => absurd h (by simp)) he (by simp [T.get_set]) (by simp [T.get_set]) (by simp [T.get_set]) (by simp [T.get_set]) (by simp [T.get_set])
    · rintro en s ⟨k, hk, g0, g1, g2, g7, g8, hry, hoy, hs⟩
      have hvs := hv.ext hs
      have hxs := hx.ext hs
      by_cases hlt : k < l.length
      · have hlt' : (k : Int) < l.length := by omega
        have hwk := wrap_nat (n := k) (by omega)
        obtain ⟨m, o, ty, sz, tr, hid, hm, hg, ho, hc⟩ := hvs.idx (st := s) un99 io3 hlt
        obtain ⟨i, hil⟩ : ∃ w, l[k]? = some w := ⟨_, List.getElem?_eq_getElem hlt⟩
        have t0 : tr.get o = some (.int .i64 i) := hc 0 _ (by omega) (by simpa using iv_get hil)
        have hxl := hxs.lenS
        have hw0 : IntKind.i64.wrap 0 = 0 := by decide
        by_cases hn : i < 0
        · simp [evOp_call, T.get_set, g0, g1, g2, g7, g8, hvs.lenS, hlt', hid, loadE_eq, getC_eq, hg, t0, hxl, hn, hwk]
          refine ⟨⟨k + 1, hlt, by simp [T.get_set, g0], by simp [T.get_set, g1], by simp [T.get_set, g2], by simp [T.get_set, g7], by simp [T.get_set], ?_, fun h => absurd h (by simp), hs⟩, muAt_lt g8 (by simp [T.get_set]) hlt⟩
          rw [hset] at hry ⊢; exact hry
        · have hb : 0 ≤ i := by omega
          simp [evOp_call, T.get_set, g0, g1, g2, g7, g8, hvs.lenS, hlt', hid, loadE_eq, getC_eq, hg, t0, hxl, hn, hw0, hb, hwk]
          refine ⟨⟨k + 1, hlt, by simp [T.get_set, g0], by simp [T.get_set, g1], by simp [T.get_set, g2], by simp [T.get_set, g7], by simp [T.get_set], ?_, fun h => absurd h (by simp), hs⟩, muAt_lt g8 (by simp [T.get_set]) hlt⟩
          rw [hset] at hry ⊢; exact hry
      · obtain rfl : k = l.length := by omega
        rw [List.take_length] at hry
        simp [evOp_call, T.get_set, g0, g1, g2, g7, g8, hvs.lenS]
        exact ⟨hry, hs⟩
  · simp [T.get_set]
    have h2 := he.new (Nat.le_succ _) (.cs 24 L.length (sets (wv L) 0 .lf))
    have ho : OwnRow st.nx ⟨st.nx + 1 + 1, (st.h.set st.nx (.cs 24 0 .lf)).set (st.nx + 1) (.cs 24 L.length (sets (wv L) 0 .lf))⟩ (.sg (st.nx + 1) 0 L.length 1) 1 L.length (wv L) := by
      refine ⟨by simp, .inr ⟨st.nx + 1, 24, sets (wv L) 0 .lf, rfl, Nat.le_succ _, Nat.lt_succ_self _, ?_, by decide, fun j v hj => ?_⟩⟩
      · rw [Nat.mul_one]; exact T.get_set_same _ _ _
      · have hjl : j < (wv L).length := lt_of_get hj
        rw [get_sets, if_pos ⟨Nat.zero_le _, by omega⟩]
        simpa using hj
    refine Gd_loop (fun en s => rsetI st x (.sg (st.nx + 1) 0 L.length 1) v L yes l en s) (fun en _ => muAt 8 l.length en) ?_ ?_
    · exact rest _ _ _ ho.rd (fun _ => ho) h2 (by simp [T.get_set]) (by simp [T.get_set]) (by simp [T.get_set]) (by simp [T.get_set]) (by simp [T.get_set])
    · clear ho h2
      rintro en s ⟨k, hk, g0, g1, g2, g7, g8, hry, hoy, hs⟩
      have hvs := hv.ext hs
      have hxs := hx.ext hs
      by_cases hlt : k < l.length
      · have hlt' : (k : Int) < l.length := by omega
        have hwk := wrap_nat (n := k) (by omega)
        obtain ⟨m, o, ty, sz, tr, hid, hm, hg, ho, hc⟩ := hvs.idx (st := s) un99 io3 hlt
        obtain ⟨i, hil⟩ : ∃ w, l[k]? = some w := ⟨_, List.getElem?_eq_getElem hlt⟩
        have t0 : tr.get o = some (.int .i64 i) := hc 0 _ (by omega) (by simpa using iv_get hil)
        have hlen := setB_length yes (l.take k) L
        by_cases hin : 0 ≤ i ∧ i < L.length * 64
        · have hone2 : setOne yes (setB L yes (l.take k)) i = (setB L yes (l.take k)).set (i.toNat / 64) (if yes then (setB L yes (l.take k))[i.toNat / 64]?.getD 0#64 ||| 1#64 <<< (i.toNat % 64) else (setB L yes (l.take k))[i.toNat / 64]?.getD 0#64 &&& ~~~(1#64 <<< (i.toNat % 64))) := by
            unfold setOne; rw [if_pos ⟨hin.1, by rw [hlen]; exact hin.2⟩]
          obtain ⟨n, rfl⟩ := Int.eq_ofNat_of_zero_le hin.1
          have hnl : n / 64 < L.length := by omega
          have hnl1 : n / 64 + 1 ≤ L.length := hnl
          obtain ⟨m2, ty2, tr2, hsg, hb2, hm2, hg2, hro2, hc2, hput⟩ := OwnRow.put (hoy (by omega)) (i := n / 64) (by omega)
          injection hsg with hsg; subst hsg
          obtain ⟨w, hwl⟩ : ∃ w, (setB L yes (l.take k))[n / 64]? = some w := ⟨_, List.getElem?_eq_getElem (by rw [hlen]; exact hnl)⟩
          have u0 : tr2.get (n / 64) = some (wd w) := hc2 _ _ (wv_get hwl)
          have hwd : IntKind.i64.wrap ((n : Int) / 64) = (n : Int) / 64 := wrap_in (by omega) (by omega)
          have hnt : (BitVec.ofInt 64 ((n : Int) % 64)).toNat = n % 64 := by
            rw [BitVec.toNat_ofInt]; omega
          have hn : ¬ (n : Int) < 0 := by omega
          have hb : ¬ 64 * (L.length : Int) ≤ (n : Int) := by omega
          cases yes with
          | true =>
            simp [evOp_call, T.get_set, g0, g1, g2, g7, g8, hvs.lenS, hlt', hid, loadE_eq, getC_eq, hg, t0, hxs.lenS, hw64, hn, hb, quo64, rem64, hwd, asNat_div, hnl, hg2, u0, hnt, sets, putB_eq, roT, hro2, hnl1, hwk]
            have hset : setB L true (l.take (k + 1)) = (setB L true (l.take k)).set (n / 64) (w ||| 1#64 <<< (n % 64)) := by
              rw [setB_take hil, hone2]; simp [hwl]
            have hp := hput (wd (w ||| 1#64 <<< (n % 64)))
            have hwv : wv ((setB L true (l.take k)).set (n / 64) (w ||| 1#64 <<< (n % 64))) = (wv (setB L true (l.take k))).set (n / 64) (wd (w ||| 1#64 <<< (n % 64))) := by unfold wv; rw [List.map_set]
            refine ⟨⟨k + 1, hlt, by simp [T.get_set, g0], by simp [T.get_set, g1], by simp [T.get_set, g2], by simp [T.get_set, g7], by simp [T.get_set], ?_, fun h => ?_, hs.set (by omega) hm2 _⟩, muAt_lt g8 (by simp [T.get_set]) hlt⟩
            · rw [hset, hwv]; exact hp.rd
            · rw [hset, hwv]; exact hp
          | false =>
            simp [evOp_call, T.get_set, g0, g1, g2, g7, g8, hvs.lenS, hlt', hid, loadE_eq, getC_eq, hg, t0, hxs.lenS, hw64, hn, hb, quo64, rem64, hwd, asNat_div, hnl, hg2, u0, hnt, sets, putB_eq, roT, hro2, hnl1, hwk]
            have hset : setB L false (l.take (k + 1)) = (setB L false (l.take k)).set (n / 64) (w &&& ~~~(1#64 <<< (n % 64))) := by
              rw [setB_take hil, hone2]; simp [hwl]
            have hp := hput (wd (w &&& ~~~(1#64 <<< (n % 64))))
            have hwv : wv ((setB L false (l.take k)).set (n / 64) (w &&& ~~~(1#64 <<< (n % 64)))) = (wv (setB L false (l.take k))).set (n / 64) (wd (w &&& ~~~(1#64 <<< (n % 64)))) := by unfold wv; rw [List.map_set]
            refine ⟨⟨k + 1, hlt, by simp [T.get_set, g0], by simp [T.get_set, g1], by simp [T.get_set, g2], by simp [T.get_set, g7], by simp [T.get_set], ?_, fun h => ?_, hs.set (by omega) hm2 _⟩, muAt_lt g8 (by simp [T.get_set]) hlt⟩
            · rw [hset, hwv]; exact hp.rd
            · rw [hset, hwv]; exact hp
        · have hone2 : setOne yes (setB L yes (l.take k)) i = setB L yes (l.take k) := by
            unfold setOne; rw [if_neg (by rw [hlen]; exact hin)]
          by_cases hn : i < 0
          · simp [evOp_call, T.get_set, g0, g1, g2, g7, g8, hvs.lenS, hlt', hid, loadE_eq, getC_eq, hg, t0, hn, hwk]
            refine ⟨⟨k + 1, hlt, by simp [T.get_set, g0], by simp [T.get_set, g1], by simp [T.get_set, g2], by simp [T.get_set, g7], by simp [T.get_set], ?_, fun h => ?_, hs⟩, muAt_lt g8 (by simp [T.get_set]) hlt⟩
            · rw [setB_take hil, hone2]; exact hry
            · rw [setB_take hil, hone2]; exact hoy h
          · have hb : 64 * (L.length : Int) ≤ i := by omega
            simp [evOp_call, T.get_set, g0, g1, g2, g7, g8, hvs.lenS, hlt', hid, loadE_eq, getC_eq, hg, t0, hxs.lenS, hw64, hn, hb, hwk]
            refine ⟨⟨k + 1, hlt, by simp [T.get_set, g0], by simp [T.get_set, g1], by simp [T.get_set, g2], by simp [T.get_set, g7], by simp [T.get_set], ?_, fun h => ?_, hs⟩, muAt_lt g8 (by simp [T.get_set]) hlt⟩
            · rw [setB_take hil, hone2]; exact hry
            · rw [setB_take hil, hone2]; exact hoy h
      · obtain rfl : k = l.length := by omega
        rw [List.take_length] at hry
        simp [evOp_call, T.get_set, g0, g1, g2, g7, g8, hvs.lenS]
        exact ⟨hry, hs⟩
end Go.Proofs.Ytnigikccijjihaa

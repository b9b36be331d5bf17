/-
  BitsRows' walk.
-/
import Derived.Test.YtnigikccijjihaaBitsN
set_option linter.unusedSimpArgs false
namespace Go.Proofs.Ytnigikccijjihaa
open Go.RowKit Ev
theorem bit_setOne (K : List (BitVec 64)) (i : Int) (n : Nat) : bit (setOne true K i) n = (bit K n || (decide (i = (n : Int)) && decide (n < K.length * 64))) := by
  unfold setOne
  by_cases h : 0 ≤ i ∧ i < K.length * 64
  · rw [if_pos h]
    obtain ⟨m, rfl⟩ := Int.eq_ofNat_of_zero_le h.1
    have hm : m / 64 < K.length := by omega
    simp only [Int.toNat_natCast, if_true]
    unfold bit
    rw [List.getElem?_set]
    by_cases h1 : m / 64 = n / 64
    · rw [if_pos h1, if_pos hm, h1]
      simp only [Option.getD_some, BitVec.getLsbD_or, BitVec.getLsbD_shiftLeft]
      by_cases h2 : m = n
      · subst h2
        have h3 : m < K.length * 64 := by omega
        have h4 : m % 64 < 64 := by omega
        simp [h3, h4]
      · have h5 : ¬ ((m : Int) = (n : Int)) := by omega
        have h6 : m % 64 ≠ n % 64 := by omega
        rw [decide_eq_false h5]
        by_cases h7 : n % 64 < m % 64
        · simp [h7]
        · have h8 : (1#64).getLsbD (n % 64 - m % 64) = false := by
            obtain ⟨d, hd⟩ : ∃ d, n % 64 - m % 64 = d + 1 := ⟨n % 64 - m % 64 - 1, by omega⟩
            rw [hd]; simp
          simp [h8]
    · rw [if_neg h1]
      have h5 : ¬ ((m : Int) = (n : Int)) := by omega
      rw [decide_eq_false h5]; simp
  · rw [if_neg h]
    by_cases h2 : i = (n : Int)
    · have h3 : ¬ n < K.length * 64 := by omega
      simp [h3]
    · simp [h2]
theorem bit_setB (n : Nat) : ∀ (l : List Int) (K : List (BitVec 64)), bit (setB K true l) n = (bit K n || (l.any fun i => decide (i = (n : Int)) && decide (n < K.length * 64)))
  | [], K => by simp [setB]
  | i :: l, K => by
    show bit (setB (setOne true K i) true l) n = _
    rw [bit_setB n l, bit_setOne, setOne_length, List.any_cons]
    simp [Bool.or_assoc]
/-- behind a Free that found: none of them is set, and it is the first -/
theorem freeF_some {p : Nat → Bool} {n : Int} (hn : 1 ≤ n) : ∀ {k i : Nat} {row r : Int}, freeF p n k i row = some r → 0 ≤ row → row < n → row ≤ i → (∀ j : Nat, (i : Int) - row ≤ j → j < i → p j = false) →
    (i : Int) - row ≤ r ∧ r + n ≤ i + k ∧ (∀ j : Nat, r ≤ j → (j : Int) < r + n → p j = false)
  | 0, _, _, _, h, _, _, _, _ => by cases h
  | k + 1, i, row, r, h, h0, h1, h2, hp => by
    unfold freeF at h
    cases hb : p i with
    | true =>
      rw [hb, if_pos rfl] at h
      obtain ⟨a1, a2, a3⟩ := freeF_some hn h (by omega) (by omega) (by omega) (fun j j1 j2 => by omega)
      exact ⟨by omega, by omega, a3⟩
    | false =>
      rw [hb, if_neg (by simp)] at h
      have hp' : ∀ j : Nat, (i : Int) - row ≤ j → j < i + 1 → p j = false := fun j j1 j2 => by
        by_cases hj : j = i
        · rw [hj]; exact hb
        · exact hp j j1 (by omega)
      by_cases hr : row + 1 = n
      · rw [if_pos hr] at h
        injection h with h
        refine ⟨by omega, by omega, fun j j1 j2 => hp' j (by omega) (by omega)⟩
      · rw [if_neg hr] at h
        obtain ⟨a1, a2, a3⟩ := freeF_some hn h (by omega) (by omega) (by omega) (fun j j1 j2 => hp' j (by omega) (by omega))
        exact ⟨by omega, by omega, a3⟩
/-- with fewer to look at, none is found -/
theorem freeF_less {p : Nat → Bool} {n : Int} (hn : 1 ≤ n) : ∀ {k i : Nat} {row r : Int} (k' : Nat), freeF p n k i row = some r → 0 ≤ row → row < n → (i : Int) + k' < r + n → freeF p n k' i row = none
  | 0, _, _, _, _, h, _, _, _ => by cases h
  | k + 1, i, row, r, 0, h, h0, h1, h2 => rfl
  | k + 1, i, row, r, k' + 1, h, h0, h1, h2 => by
    unfold freeF at h ⊢
    cases hb : p i with
    | true =>
      rw [hb, if_pos rfl] at h
      rw [if_pos rfl]
      exact freeF_less hn k' h (by omega) (by omega) (by omega)
    | false =>
      rw [hb, if_neg (by simp)] at h
      rw [if_neg (by simp)]
      by_cases hr : row + 1 = n
      · rw [if_pos hr] at h
        injection h with h
        omega
      · rw [if_neg hr] at h
        rw [if_neg hr]
        exact freeF_less hn k' h (by omega) (by omega) (by omega)
def anyI (l : List Int) (k : Nat) (i : Nat) : Bool := (l.take k).any fun x => decide (x = (i : Int))
/-- the memory of the walk: two boxes -/
structure BrAt (st s : St) (q q2 : Nat) (x y : V) : Prop where
  g1 : s.h.get q = some (.cs 103 1 (T.lf.set 0 x))
  g2 : s.h.get q2 = some (.cs 103 1 (T.lf.set 0 y))
  l1 : q < s.nx
  l2 : q2 < s.nx
  ex : Ext st.nx st s
theorem BrAt.ext {st s s' : St} {q q2 : Nat} {x y : V} (h : BrAt st s q q2 x y) (k : Ext s.nx s s') : BrAt st s' q q2 x y :=
  ⟨(k.keep _ h.l1).trans h.g1, (k.keep _ h.l2).trans h.g2, Nat.lt_of_lt_of_le h.l1 k.le, Nat.lt_of_lt_of_le h.l2 k.le, h.ex.trans (k.mono h.ex.le)⟩
def brO (st : St) (q q2 : Nat) (v w y : V) (L K : List (BitVec 64)) (n : Int) (en : Env) (s : St) : Prop := ∃ i : Nat, i ≤ 64 * L.length ∧ en.get 0 = some v ∧ en.get 1 = some w ∧ en.get 2 = some (.int .i64 n) ∧ en.get 7 = some (.p q 0) ∧ en.get 8 = some (.p q2 0) ∧ en.get 9 = some (.int .i64 (i : Int)) ∧ BrAt st s q q2 v y ∧ RdRow s y 1 K.length (wv K)
def brI (st : St) (q q2 : Nat) (v w y : V) (l : List Int) (K : List (BitVec 64)) (n : Int) (i : Nat) (en : Env) (s : St) : Prop := ∃ k : Nat, k ≤ l.length ∧ en.get 0 = some v ∧ en.get 1 = some w ∧ en.get 2 = some (.int .i64 n) ∧ en.get 7 = some (.p q 0) ∧ en.get 8 = some (.p q2 0) ∧ en.get 9 = some (.int .i64 (i : Int)) ∧
  en.get 10 = some (.bool (anyI l k i)) ∧ en.get 11 = some (.int .i64 (k : Int)) ∧ BrAt st s q q2 v y ∧ RdRow s y 1 K.length (wv K)
def brJ (st : St) (q q2 : Nat) (v y : V) (K : List (BitVec 64)) (f n : Int) (en : Env) (s : St) : Prop := ∃ i : Nat, (i : Int) ≤ n ∧ en.get 0 = some v ∧ en.get 2 = some (.int .i64 n) ∧ en.get 8 = some (.p q2 0) ∧ en.get 12 = some (.int .i64 f) ∧ en.get 14 = some (.int .i64 (i : Int)) ∧ BrAt st s q q2 v y ∧ RdRow s y 1 K.length (wv K)
set_option maxHeartbeats 4000000 in
theorem g_BitsRows (st : St) (v w : V) (L : List (BitVec 64)) (l : List Int) (n : Int) (hx : RdRow st v 1 L.length (wv L)) (hy : RdRow st w 1 l.length (iv l)) (hl : ∀ i ∈ l, -9223372036854775808 ≤ i ∧ i ≤ 9223372036854775807) (hn : -9223372036854775808 ≤ n ∧ n ≤ 9223372036854775807) :
    Gd (lawC Try.prog 88 ⟨false, [], 0, 0⟩ 18 [v, w, .int .i64 n] st) fun r => r.1 = .bool true := by
  rw [Gd_lawC Try.func18 rfl]
  have hone := hx.one
  by_cases h6 : (6 : Int) < L.length
  · simp [evOp_call, sets, T.get_set, hx.lenS, hy.lenS, h6]
  · by_cases h30 : (30 : Int) < l.length
    · simp [evOp_call, sets, T.get_set, hx.lenS, hy.lenS, h6, h30]
    · have hL5 : L.length ≤ 6 := by omega
      have hw64 : IntKind.i64.wrap (64 * (L.length : Int)) = 64 * (L.length : Int) := wrap_in (by omega) (by omega)
      have he : Ext st.nx st ⟨st.nx + 1, st.h.set st.nx (.cs 103 1 (T.lf.set 0 v))⟩ := (Ext.refl _ _).new (Nat.le_refl _) _
      simp [evOp_call, sets, T.get_set, hx.lenS, hy.lenS, h6, h30, hone, cellsOf, newC_is, storeK_g, putB_eq, roT, loadE_eq, getC_eq, getsB_1, oracF_cons]
      refine Gd.mono (set_any _ v w L (hx.ext he) (by omega) true l (hy.ext he) (by omega) hl _) ?_
      rintro ⟨r, s1⟩ ⟨y, hr, hry, e1⟩
      simp only at hr hry e1
      subst hr
      have hK : (setB L true l).length = L.length := setB_length _ _ _
      obtain ⟨K, hKe⟩ : ∃ K, setB L true l = K := ⟨_, rfl⟩
      rw [hKe] at hry hK
      have hbK : ∀ j, bit K j = (bit L j || (l.any fun i => decide (i = (j : Int)) && decide (j < L.length * 64))) := fun j => by rw [← hKe]; exact bit_setB j l L
      rw [← hK] at hry
      have b1 : st.nx + 1 ≤ s1.nx := e1.le
      have hyone := hry.one
      have e2 : Ext s1.nx s1 ⟨s1.nx + 1, s1.h.set s1.nx (.cs 103 1 (T.lf.set 0 y))⟩ := (Ext.refl _ _).new (Nat.le_refl _) _
      have hB0 : BrAt st ⟨s1.nx + 1, s1.h.set s1.nx (.cs 103 1 (T.lf.set 0 y))⟩ st.nx s1.nx v y := by
        refine ⟨?_, T.get_set_same _ _ _, by show st.nx < s1.nx + 1; omega, Nat.lt_succ_self _, (he.trans (e1.mono (by omega))).trans (e2.mono (by omega))⟩
        exact (T.get_set_ne _ _ (by omega)).trans ((e1.keep _ (Nat.lt_succ_self _)).trans (T.get_set_same _ _ _))
      simp [evOp_call, sets, T.get_set, hx.lenS, hy.lenS, hyone, cellsOf, newC_is, storeK_g, putB_eq, roT, loadE_eq, getC_eq, getsB_1, oracF_cons]
      refine Gd_loop (brO st st.nx s1.nx v w y L K n) (fun en _ => muAt 9 (64 * L.length) en) ?_ ?_
      · exact ⟨0, Nat.zero_le _, by simp [T.get_set], by simp [T.get_set], by simp [T.get_set], by simp [T.get_set], by simp [T.get_set], by simp [T.get_set], hB0, hry.ext e2⟩
      · clear hB0 e2
        rintro en s ⟨i, hi, g0, g1, g2, g7, g8, g9, hB, hrs⟩
        have hxs := hx.ext hB.ex
        have hys := hy.ext hB.ex
        by_cases hlt : i < 64 * L.length
        · have hlt' : (i : Int) < 64 * (L.length : Int) := by omega
          have hwi := wrap_nat (n := i) (by omega)
          simp [evOp_call, T.get_set, g0, g1, g2, g7, g8, g9, hxs.lenS, hw64, hlt']
          refine Gd_loop (brI st st.nx s1.nx v w y l K n i) (fun en _ => muAt 11 l.length en) ?_ ?_
          · exact ⟨0, Nat.zero_le _, by simp [T.get_set, g0], by simp [T.get_set, g1], by simp [T.get_set, g2], by simp [T.get_set, g7], by simp [T.get_set, g8], by simp [T.get_set, g9], by simp [T.get_set, anyI], by simp [T.get_set], hB, hrs⟩
          · have g9o := g9
            clear g0 g1 g2 g7 g8 g9 hB hrs hxs hys
            rintro en2 s ⟨k, hk, g0, g1, g2, g7, g8, g9, g10, g11, hB, hrs⟩
            have hxs := hx.ext hB.ex
            have hys := hy.ext hB.ex
            by_cases hkl : k < l.length
            · have hkl' : (k : Int) < l.length := by omega
              have hwk := wrap_nat (n := k) (by omega)
              obtain ⟨m, o, ty, sz, tr, hid, hm, hg, ho, hc⟩ := hys.idx (st := s) un99 io3 hkl
              obtain ⟨x, hxl⟩ : ∃ w, l[k]? = some w := ⟨_, List.getElem?_eq_getElem hkl⟩
              have t0 : tr.get o = some (.int .i64 x) := hc 0 _ (by omega) (by simpa using iv_get hxl)
              have hany : anyI l (k + 1) i = (anyI l k i || decide (x = (i : Int))) := by
                unfold anyI; rw [List.take_add_one, hxl]; simp
              cases hb : anyI l k i with
              | true =>
                rw [hb] at g10 hany
                simp [evOp_call, T.get_set, g0, g1, g2, g7, g8, g9, g10, g11, hys.lenS, hkl', hwk]
                exact ⟨⟨k + 1, hkl, by simp [T.get_set, g0], by simp [T.get_set, g1], by simp [T.get_set, g2], by simp [T.get_set, g7], by simp [T.get_set, g8], by simp [T.get_set, g9], by simp [T.get_set, hany], by simp [T.get_set], hB, hrs⟩, muAt_lt g11 (by simp [T.get_set]) hkl⟩
              | false =>
                rw [hb] at g10 hany
                simp [evOp_call, T.get_set, g0, g1, g2, g7, g8, g9, g10, g11, hys.lenS, hkl', hid, loadE_eq, getC_eq, hg, t0, hwk]
                exact ⟨⟨k + 1, hkl, by simp [T.get_set, g0], by simp [T.get_set, g1], by simp [T.get_set, g2], by simp [T.get_set, g7], by simp [T.get_set, g8], by simp [T.get_set, g9], by simp [T.get_set, hany], by simp [T.get_set], hB, hrs⟩, muAt_lt g11 (by simp [T.get_set]) hkl⟩
            · obtain rfl : k = l.length := by omega
              have hin : bit K i = (anyI l l.length i || bit L i) := by
                rw [hbK i]
                unfold anyI
                rw [List.take_length, Bool.or_comm]
                have hd : decide (i < L.length * 64) = true := by simp; omega
                simp only [hd, Bool.and_true]
              simp [evOp_call, T.get_set, g0, g1, g2, g7, g8, g9, g10, g11, hys.lenS, loadE_eq, getC_eq, hB.g1, hB.g2, getsB_1, oracF_cons]
              refine Gd.mono (bhas_any s y K hrs i (by omega) _) ?_
              rintro ⟨r, s2⟩ ⟨hr, e2⟩
              simp only at hr e2
              rw [hasI_nat, hin] at hr
              subst hr
              have hB2 := hB.ext e2
              have hrs2 := hrs.ext e2
              cases hb : anyI l l.length i with
              | true =>
                rw [hb] at g10
                simp [evOp_call, T.get_set, g0, g1, g2, g7, g8, g9, g10, g11, hwi]
                exact ⟨⟨i + 1, hlt, by simp [T.get_set, g0], by simp [T.get_set, g1], by simp [T.get_set, g2], by simp [T.get_set, g7], by simp [T.get_set, g8], by simp [T.get_set], hB2, hrs2⟩, muAt_lt g9o (by simp [T.get_set]) hlt⟩
              | false =>
                rw [hb] at g10
                simp [evOp_call, T.get_set, g0, g1, g2, g7, g8, g9, g10, g11, loadE_eq, getC_eq, hB2.g1, getsB_1, oracF_cons]
                refine Gd.mono (bhas_any s2 v L (hx.ext hB2.ex) i (by omega) _) ?_
                rintro ⟨r, s3⟩ ⟨hr, e3⟩
                simp only at hr e3
                rw [hasI_nat] at hr
                subst hr
                simp [evOp_call, T.get_set, g0, g1, g2, g7, g8, g9, g10, g11, hwi]
                exact ⟨⟨i + 1, hlt, by simp [T.get_set, g0], by simp [T.get_set, g1], by simp [T.get_set, g2], by simp [T.get_set, g7], by simp [T.get_set, g8], by simp [T.get_set], hB2.ext e3, hrs2.ext e3⟩, muAt_lt g9o (by simp [T.get_set]) hlt⟩
        · obtain rfl : i = 64 * L.length := by omega
          simp [evOp_call, T.get_set, g0, g1, g2, g7, g8, g9, hxs.lenS, hw64, loadE_eq, getC_eq, hB.g1, hB.g2, getsB_1, oracF_cons]
          refine Gd.mono (free_any s y K hrs (by omega) 0 (64 * (L.length : Int)) n (by omega) _) ?_
          rintro ⟨r, s2⟩ ⟨hr, e2⟩
          simp only at hr e2
          have hB2 := hB.ext e2
          have hrs2 := hrs.ext e2
          have heB : ∀ e : Int, e ≤ 64 * (L.length : Int) → endB K e = e := fun e he => by unfold endB; rw [hK]; split <;> omega
          cases hf : freeB K 0 (64 * (L.length : Int)) n with
          | none =>
            rw [hf] at hr
            subst hr
            simp [evOp_call, freeV, T.get_set, g0, g1, g2, g7, g8, g9]
          | some f =>
            rw [hf] at hr
            subst hr
            have hn1 : 1 ≤ n := by
              rcases Int.lt_or_le n 1 with h | h
              · unfold freeB at hf; rw [if_pos h] at hf; cases hf
              · exact h
            have hf0 := hf
            unfold freeB at hf0
            rw [if_neg (by omega), heB _ (Int.le_refl _)] at hf0
            have hf1 : freeF (bit K) n (64 * L.length) 0 0 = some f := by
              have : (64 * (L.length : Int) - fromB 0).toNat = 64 * L.length := by simp [fromB]; omega
              rw [this] at hf0
              simpa [fromB] using hf0
            obtain ⟨a1, a2, a3⟩ := freeF_some hn1 hf1 (by omega) (by omega) (by omega) (fun j _ h => by omega)
            have ha1 : 0 ≤ f := by omega
            have ha2 : f + n ≤ 64 * (L.length : Int) := by omega
            simp [evOp_call, freeV, T.get_set, g0, g1, g2, g7, g8, g9]
            refine Gd_loop (brJ st st.nx s1.nx v y K f n) (fun en _ => gapAt 14 n en) ?_ ?_
            · exact ⟨0, by omega, by simp [T.get_set, g0], by simp [T.get_set, g2], by simp [T.get_set, g8], by simp [T.get_set], by simp [T.get_set], hB2, hrs2⟩
            · clear g0 g1 g2 g7 g8 g9 hB hrs hxs hys hB2 hrs2 e2
              rintro en s ⟨i, hi, g0, g2, g8, g12, g14, hB, hrs⟩
              have hxs := hx.ext hB.ex
              by_cases hlt2 : (i : Int) < n
              · have hwi := wrap_nat (n := i) (by omega)
                have hwf : IntKind.i64.wrap (f + (i : Int)) = f + i := wrap_in (by omega) (by omega)
                simp [evOp_call, T.get_set, g0, g2, g8, g12, g14, hlt2, hwf, loadE_eq, getC_eq, hB.g2, getsB_1, oracF_cons]
                refine Gd.mono (bhas_any s y K hrs (f + i) (by omega) _) ?_
                rintro ⟨r, s3⟩ ⟨hr, e3⟩
                simp only at hr e3
                have hno : hasI K (f + i) = false := by
                  obtain ⟨m, hm⟩ := Int.eq_ofNat_of_zero_le (show 0 ≤ f + (i : Int) by omega)
                  rw [hm, hasI_nat]
                  exact a3 m (by omega) (by omega)
                rw [hno] at hr
                subst hr
                simp [evOp_call, T.get_set, g0, g2, g8, g12, g14, hwi]
                exact ⟨⟨i + 1, by omega, by simp [T.get_set, g0], by simp [T.get_set, g2], by simp [T.get_set, g8], by simp [T.get_set, g12], by simp [T.get_set], hB.ext e3, hrs.ext e3⟩, gapAt_lt g14 (by simp [T.get_set]; rfl) hlt2 (by omega)⟩
              · have hw1 : IntKind.i64.wrap (f + n) = f + n := wrap_in (by omega) (by omega)
                have hw2 : IntKind.i64.wrap (f + n - 1) = f + n - 1 := wrap_in (by omega) (by omega)
                simp [evOp_call, T.get_set, g0, g2, g8, g12, g14, hlt2, hw1, hw2, loadE_eq, getC_eq, hB.g2, getsB_1, oracF_cons]
                refine Gd.mono (free_any s y K hrs (by omega) 0 (f + n - 1) n (by omega) _) ?_
                rintro ⟨r, s3⟩ ⟨hr, e3⟩
                simp only at hr e3
                have hno : freeB K 0 (f + n - 1) n = none := by
                  unfold freeB
                  rw [if_neg (by omega), heB _ (by omega)]
                  have h0 : fromB 0 = 0 := rfl
                  rw [h0]
                  exact freeF_less hn1 _ hf1 (by omega) (by omega) (by omega)
                rw [hno] at hr
                subst hr
                simp [evOp_call, freeV, T.get_set, g0, g2, g8, g12, g14, ha1, ha2, hw1, hw64, hxs.lenS]
/-- whatever came in -/
theorem w_BitsRows (L0 : List Int) (l : List Int) (n : Int) (W : World) (x : Value) (hx : InRow W x 1 L0.length (L0.map fun v => V.int .u64 v)) (hw : ∀ r ∈ L0, (Lit.int .u64 r).wf = true) (y : Value) (hy : InRow W y 1 l.length (l.map fun v => V.int .i64 v)) (hw2 : ∀ r ∈ l, (Lit.int .i64 r).wf = true)
    (hn : -9223372036854775808 ≤ n ∧ n ≤ 9223372036854775807) : Calls Try.prog 18 #[x, y, .int .i64 n] W fun e W' => e = .returned (.bool true) ∧ Below W.heap.size W W' := by
  obtain ⟨K, hK, hm⟩ := wv_of hw
  rw [hm, ← hK] at hx
  obtain ⟨st, ρ, v, hb, _, hv, _, hr⟩ := (Begin.zero W).row hx
  obtain ⟨st2, ρ2, w, hb2, hle, hw', he, hk⟩ := hb.row hy
  exact law_calls (lawC_sound namesOkB mixesB Try.func88 rfl bitsAwake) hb2 (.cons (Rel.mono hle _ _ hv) (.cons hw' (.cons (rel_int _ _) .nil))) (g_BitsRows st2 v w K l n (hr.ext he) hk (fun i hi => i64_bd (hw2 i hi)) hn)
end Go.Proofs.Ytnigikccijjihaa

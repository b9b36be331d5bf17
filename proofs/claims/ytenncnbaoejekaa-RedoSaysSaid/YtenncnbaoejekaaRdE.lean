/-
  What makes one image of another; records read back.
-/
import Derived.Test.YtenncnbaoejekaaRdD
set_option linter.unusedSimpArgs false
namespace Go.Proofs.Ytenncnbaoejekaa
open Go.RowKit Ev
/-- the words that differ, of the first n -/
def sameN (a b : List (BitVec 64)) : Nat → List (Int × BitVec 64)
  | 0 => []
  | n + 1 => if wat a n = wat b n then sameN a b n else sameN a b n ++ [((n : Int), wat b n)]
theorem sameN_le (a b : List (BitVec 64)) : ∀ n, (sameN a b n).length ≤ n
  | 0 => Nat.le_refl _
  | n + 1 => by
    have := sameN_le a b n
    unfold sameN
    split
    · omega
    · simp; omega
theorem lastV_app (K J : List (Int × BitVec 64)) (i : Nat) (v : BitVec 64) : lastV (K ++ J) i v = lastV J i (lastV K i v) := by simp [lastV]
theorem lastV_sameN (a b : List (BitVec 64)) (i : Nat) (v : BitVec 64) : ∀ n, lastV (sameN a b n) i v = if i < n ∧ wat a i ≠ wat b i then wat b i else v
  | 0 => by simp [sameN, lastV]
  | n + 1 => by
    have ih := lastV_sameN a b i v n
    unfold sameN
    by_cases h : wat a n = wat b n
    · rw [if_pos h, ih]
      by_cases hi : i = n
      · subst hi
        rw [if_neg (fun hh => by omega), if_neg (fun hh => hh.2 h)]
      · by_cases hc : i < n ∧ wat a i ≠ wat b i
        · rw [if_pos hc, if_pos ⟨by omega, hc.2⟩]
        · rw [if_neg hc, if_neg (fun hh => hc ⟨by omega, hh.2⟩)]
    · rw [if_neg h, lastV_app, ih]
      by_cases hi : i = n
      · subst hi
        rw [if_pos (show i < i + 1 ∧ wat a i ≠ wat b i from ⟨Nat.lt_succ_self i, h⟩)]
        simp [lastV]
      · have h1 : lastV [((n : Int), wat b n)] i (if i < n ∧ wat a i ≠ wat b i then wat b i else v) = (if i < n ∧ wat a i ≠ wat b i then wat b i else v) := by
          have hni : ¬ ((n : Int) = (i : Int)) := by omega
          simp [lastV, hni]
        rw [h1]
        by_cases hc : i < n ∧ wat a i ≠ wat b i
        · rw [if_pos hc, if_pos ⟨by omega, hc.2⟩]
        · rw [if_neg hc, if_neg (fun hh => hc ⟨by omega, hh.2⟩)]
theorem do_same {a b : List (BitVec 64)} (h : a.length = b.length) : doW a (sameN a b b.length) = b := by
  apply List.ext_getElem?
  intro i
  by_cases hi : i < b.length
  · rw [doW_get _ (wat_get (L := a) (i := i) (by omega)), lastV_sameN, wat_get hi]
    by_cases hc : wat a i = wat b i
    · rw [if_neg (fun hh => hh.2 hc), hc]
    · rw [if_pos ⟨hi, hc⟩]
  · rw [List.getElem?_eq_none (by rw [doW_length]; omega), List.getElem?_eq_none (by omega)]
def sdI (st : St) (x y : V) (a b : List (BitVec 64)) (e : Env) (s : St) : Prop := ∃ (j : Nat) (z : V), j ≤ b.length ∧ e.get 0 = some x ∧ e.get 6 = some z ∧ e.get 14 = some y ∧ e.get 15 = some (.int .i64 (b.length : Int)) ∧ e.get 16 = some (.int .i64 (j : Int)) ∧ OwnRow st.nx s z 2 (sameN a b j).length (iw (sameN a b j)) ∧ Ext st.nx st s
def sdV (a b : List (BitVec 64)) (st : St) (bb : Nat) (r : V × St) : Prop := ∃ v, r.1 = .t [v, .bool (decide (a.length = b.length))] ∧ (a.length = b.length → RdRow r.2 v 2 (sameN a b b.length).length (iw (sameN a b b.length))) ∧ Ext bb st r.2
set_option maxRecDepth 20000 in
set_option maxHeartbeats 4000000 in
theorem sdiff_any (st : St) (x y : V) (a b : List (BitVec 64)) (hx : RdRow st x 1 a.length (wv a)) (hy : RdRow st y 1 b.length (wv b)) (hb : b.length ≤ 400) (nt : Nat) :
    Gd (callL Try.prog ⟨false, [], 0, nt⟩ 97 [x, y] st) (sdV a b st st.nx) := by
  rw [Gd_callL Try.func97 rfl]
  by_cases hk : a.length = b.length
  · have hk' : (a.length : Int) = b.length := by omega
    simp [evOp_call, sets, T.get_set, hx.lenS, hy.lenS, hk']
    refine Gd_loop (sdI st x y a b) (fun e _ => muAt 16 b.length e) ?_ ?_
    · exact ⟨0, _, Nat.zero_le _, by simp [T.get_set], by simp [T.get_set], by simp [T.get_set], by simp [T.get_set], by simp [T.get_set], OwnRow.nil _ _ _, Ext.refl _ _⟩
    · rintro e s ⟨j, z, hj, g0, g6, g14, g15, g16, hz, hs⟩
      have hsn := hs.le
      have hle := sameN_le a b j
      by_cases hlt : j < b.length
      · have hlt' : (j : Int) < b.length := by omega
        have hw := wrap_nat (n := j) (by omega)
        have hxs := hx.ext hs
        have hys := hy.ext hs
        obtain ⟨m1, o1, ty1, sz1, t1, i1, b1, k1, l1, c1⟩ := hxs.idx (st := s) un30 io31 (i := j) (by omega)
        obtain ⟨m2, o2, ty2, sz2, t2, i2, b2, k2, l2, c2⟩ := hys.idx (st := s) un30 io31 (i := j) hlt
        have d1 : t1.get o1 = some (wd (wat a j)) := c1 0 _ (by omega) (by simpa using wv_get (wat_get (L := a) (i := j) (by omega)))
        have d2 : t2.get o2 = some (wd (wat b j)) := c2 0 _ (by omega) (by simpa using wv_get (wat_get (L := b) (i := j) hlt))
        by_cases hpq : wat a j = wat b j
        · have hst : sameN a b (j + 1) = sameN a b j := if_pos hpq
          simp [evOp_call, T.get_set, g0, g6, g14, g15, g16, hlt', i1, i2, loadE_eq, getC_eq, k1, k2, d1, d2, hpq, hw]
          refine ⟨⟨j + 1, z, hlt, by simp [T.get_set, g0], by simp [T.get_set, g6], by simp [T.get_set, g14], by simp [T.get_set, g15], by simp [T.get_set], ?_, hs⟩, muAt_lt g16 (by simp [T.get_set]) hlt⟩
          rw [hst]; exact hz
        · have hst : sameN a b (j + 1) = sameN a b j ++ [((j : Int), wat b j)] := if_neg hpq
          have hn400 : ¬ ((sameN a b j).length : Int) = 400 := by omega
          have hn400' : ¬ (sameN a b j).length = 400 := by omega
          simp [evOp_call, T.get_set, g0, g6, g14, g15, g16, hlt', i1, i2, loadE_eq, getC_eq, k1, k2, d1, d2, hpq, hz.rd.lenS, hn400, hn400']
          refine evOp_build1 (v := .g [.int .i64 (j : Int), wd (wat b j)]) (cs := [.int .i64 (j : Int), wd (wat b j)]) (fun k => el131 k) (fun k => ze155 k) rfl (by omega) (by simp [T.get_set]) (fun k => rfl) rfl ?_
          simp [T.get_set, g6]
          have hext := fun v => (Ext.refl s.nx s).new (Nat.le_refl _) v
          refine Gd_append un131 un131 io155 (lx := 1) (new := [.int .i64 (j : Int), wd (wat b j)]) (hz.ext (hext _)) (by show st.nx ≤ s.nx + 1; omega) (by decide) (fun s' h => by cases h) (fun k => rfl) (fun k => by simp [getC_eq, getsB_2, T.get_set, sets]) rfl (by omega) ?_
          intro s' st' ho' he' _ _
          simp [evOp_call, T.get_set, g0, g14, g15, g16, hw]
          refine ⟨⟨j + 1, s', hlt, by simp [T.get_set, g0], by simp [T.get_set], by simp [T.get_set, g14], by simp [T.get_set, g15], by simp [T.get_set], ?_, (hs.trans ((hext _).mono hsn)).trans he'⟩, muAt_lt g16 (by simp [T.get_set]) hlt⟩
          rw [hst, iw_app, List.length_append]
          exact ho'
      · obtain rfl : j = b.length := by omega
        simp [evOp_call, T.get_set, g0, g6, g14, g15, g16]
        exact ⟨_, by simp [hk], fun _ => hz.rd, hs⟩
  · have hk' : ¬ (a.length : Int) = b.length := by omega
    simp [evOp_call, sets, T.get_set, hx.lenS, hy.lenS, hk, hk']
    exact ⟨_, by simp [hk]; rfl, fun h => absurd h hk, Ext.refl _ _⟩
end Go.Proofs.Ytenncnbaoejekaa

/-
  Contracts of package runs.
-/
import Derived.Test.YtcjddojcfdeflaaPlBG
set_option linter.unusedSimpArgs false
namespace Go.Proofs.Ytcjddojcfdeflaa
open Go.RowKit Ev
abbrev Rn := Int × Int
def cells (L : List Rn) : List V := L.flatMap fun r => [.int .i64 r.1, .int .i64 r.2]
def cnt (r : Rn) : Bool := decide (1 ≤ r.2) && decide (r.2 ≤ 1073741824) && decide (0 ≤ r.1) && decide (r.1 ≤ 1073741824)
theorem cells_cons (r : Rn) (L : List Rn) : cells (r :: L) = .int .i64 r.1 :: .int .i64 r.2 :: cells L := rfl
theorem cells_append (L K : List Rn) : cells (L ++ K) = cells L ++ cells K := by simp [cells]
theorem cells_length (L : List Rn) : (cells L).length = L.length * 2 := by
  induction L with
  | nil => rfl
  | cons r L ih => rw [cells_cons]; simp only [List.length_cons, ih]; omega
theorem cells_get : ∀ (L : List Rn) (i : Nat) (r : Rn), L[i]? = some r → (cells L)[i * 2 + 0]? = some (.int .i64 r.1) ∧ (cells L)[i * 2 + 1]? = some (.int .i64 r.2)
  | [], i, r, h => by simp at h
  | q :: L, 0, r, h => by simp at h; subst h; exact ⟨rfl, rfl⟩
  | q :: L, i + 1, r, h => by
    have := cells_get L i r (by simpa using h)
    rw [cells_cons, show (i + 1) * 2 + 0 = i * 2 + 0 + 1 + 1 by omega, show (i + 1) * 2 + 1 = i * 2 + 1 + 1 + 1 by omega]
    exact this
theorem cnt_take (L : List Rn) (j : Nat) (r : Rn) (h : L[j]? = some r) : (L.take (j + 1)).filter cnt = (L.take j).filter cnt ++ (if cnt r then [r] else []) := by
  rw [List.take_add_one, h]
  by_cases hc : cnt r <;> simp [hc]
def countedI (st : St) (x : V) (L : List Rn) (e : Env) (s : St) : Prop := ∃ j, ∃ y : V, j ≤ L.length ∧ e.get 8 = some (.int .i64 (j : Int)) ∧ e.get 7 = some (.int .i64 (L.length : Int)) ∧ e.get 6 = some x ∧ e.get 3 = some y ∧ OwnRow st.nx s y 2 ((L.take j).filter cnt).length (cells ((L.take j).filter cnt)) ∧ Ext st.nx st s
set_option maxRecDepth 20000 in
set_option maxHeartbeats 4000000 in
theorem counted_any (st : St) (x : V) (L : List Rn) (nt : Nat) (hx : RdRow st x 2 L.length (cells L)) (hL : L.length ≤ 1073741824) :
    Gd (callL Try.prog ⟨false, [], 0, nt⟩ 75 [x] st) fun r => OwnRow st.nx r.2 r.1 2 (L.filter cnt).length (cells (L.filter cnt)) ∧ Ext st.nx st r.2 := by
  rw [Gd_callL Try.func75 rfl]
  simp [sets, T.get_set, hx.lenS]
  refine Gd_loop (countedI st x L) (fun e _ => muAt 8 L.length e) ?_ ?_
  · exact ⟨0, _, Nat.zero_le _, by simp [T.get_set], by simp [T.get_set], by simp [T.get_set], by simp [T.get_set], OwnRow.nil _ _ _, Ext.refl _ _⟩
  · rintro e s ⟨j, y, hj, h8, h7, h6, h3, hy, hs⟩
    have hxs := hx.keep (Nat.le_refl _) hs
    have hsn := hs.le
    by_cases hlt : j < L.length
    · have hlt' : (j : Int) < L.length := by omega
      have hw := wrap_nat (n := j) (by omega)
      obtain ⟨m, o, ty, sz, tr, hi, hm, hg, ho, hc⟩ := hxs.idx (st := s) un31 io87 hlt
      obtain ⟨⟨F, N⟩, hr⟩ : ∃ r, L[j]? = some r := ⟨_, List.getElem?_eq_getElem hlt⟩
      have hcl := cells_get L j _ hr
      have t0 : tr.get o = some (.int .i64 F) := hc 0 _ (by omega) hcl.1
      have t1 : tr.get (o + 1) = some (.int .i64 N) := hc 1 _ (by omega) hcl.2
      have hne : ¬ s.nx = m := by omega
      have hct := cnt_take L j _ hr
      have hext := (Ext.refl s.nx s).new (Nat.le_refl _) (.cs 87 2 ((((T.lf.set 0 (V.int .i64 0)).set 1 (V.int .i64 0)).set 0 (V.int .i64 F)).set 1 (V.int .i64 N)))
      by_cases hcn : cnt (F, N)
      · rw [if_pos hcn] at hct
        simp only [cnt, Bool.and_eq_true, decide_eq_true_eq] at hcn
        obtain ⟨⟨⟨c1, c2⟩, c3⟩, c4⟩ := hcn
        simp [T.get_set, h8, h7, h6, h3, hlt', hi, loadE_eq, getC_eq, hg, getsB_2, t0, t1, newC_is, cellsOf, putB_eq, storeK_g, roT, sets, hne, c1, c2, c3, c4]
        refine evOp_build1 (v := .g [.int .i64 F, .int .i64 N]) (cs := [.int .i64 F, .int .i64 N]) (fun k => el31 k) (fun k => ze87 k) rfl (by omega) (by simp [T.get_set]) (fun k => rfl) rfl ?_
        simp [T.get_set]
        refine Gd_append un31 un31 io87 (n := ((L.take j).filter cnt).length) (lx := 1) (new := [.int .i64 F, .int .i64 N]) (hy.ext (hext.new (Nat.le_succ _) _)) (by show st.nx ≤ s.nx + 1 + 1; omega) (by decide) (fun s' h => by cases h) (fun k => rfl) (fun k => by simp [getC_eq, getsB_2, T.get_set, sets]) rfl ?_ ?_
        · have := List.length_filter_le cnt (L.take j)
          rw [List.length_take] at this
          omega
        · intro s' st' ho' he' hk' _
          simp [T.get_set, h8, hw]
          refine ⟨⟨j + 1, s', hlt, by simp [T.get_set], by simp [T.get_set, h7], by simp [T.get_set, h6], by simp [T.get_set], ?_, ?_⟩, muAt_lt h8 (by simp [T.get_set]) hlt⟩
          · rw [hct, cells_append, List.length_append]
            exact ho'
          · exact hs.trans ((((Ext.refl st.nx s).new hsn _).new (Nat.le_succ_of_le hsn) _).trans he')
      · rw [if_neg hcn, List.append_nil] at hct
        have fin : ∀ st', Ext s.nx s st' → OwnRow st.nx st' y 2 ((L.take (j + 1)).filter cnt).length (cells ((L.take (j + 1)).filter cnt)) ∧ Ext st.nx st st' := fun st' he => by
          rw [hct]
          exact ⟨hy.ext he, hs.trans (he.mono hsn)⟩
        by_cases c1 : 1 ≤ N
        · by_cases c2 : N ≤ 1073741824
          · by_cases c3 : 0 ≤ F
            · have c4 : ¬ F ≤ 1073741824 := fun c4 => hcn (by simp [cnt, c1, c2, c3, c4])
              simp [T.get_set, h8, h7, h6, h3, hlt', hi, loadE_eq, getC_eq, hg, getsB_2, t0, t1, newC_is, cellsOf, putB_eq, storeK_g, roT, sets, hne, c1, c2, c3, c4, hw]
              exact ⟨⟨j + 1, y, hlt, by simp [T.get_set], by simp [T.get_set, h7], by simp [T.get_set, h6], by simp [T.get_set, h3], fin _ hext⟩, muAt_lt h8 (by simp [T.get_set]) hlt⟩
            · simp [T.get_set, h8, h7, h6, h3, hlt', hi, loadE_eq, getC_eq, hg, getsB_2, t0, t1, newC_is, cellsOf, putB_eq, storeK_g, roT, sets, hne, c1, c2, c3, hw]
              exact ⟨⟨j + 1, y, hlt, by simp [T.get_set], by simp [T.get_set, h7], by simp [T.get_set, h6], by simp [T.get_set, h3], fin _ hext⟩, muAt_lt h8 (by simp [T.get_set]) hlt⟩
          · simp [T.get_set, h8, h7, h6, h3, hlt', hi, loadE_eq, getC_eq, hg, getsB_2, t0, t1, newC_is, cellsOf, putB_eq, storeK_g, roT, sets, hne, c1, c2, hw]
            exact ⟨⟨j + 1, y, hlt, by simp [T.get_set], by simp [T.get_set, h7], by simp [T.get_set, h6], by simp [T.get_set, h3], fin _ hext⟩, muAt_lt h8 (by simp [T.get_set]) hlt⟩
        · simp [T.get_set, h8, h7, h6, h3, hlt', hi, loadE_eq, getC_eq, hg, getsB_2, t0, t1, newC_is, cellsOf, putB_eq, storeK_g, roT, sets, hne, c1, hw]
          exact ⟨⟨j + 1, y, hlt, by simp [T.get_set], by simp [T.get_set, h7], by simp [T.get_set, h6], by simp [T.get_set, h3], fin _ hext⟩, muAt_lt h8 (by simp [T.get_set]) hlt⟩
    · obtain rfl : j = L.length := by omega
      rw [List.take_length] at hy
      simp [T.get_set, h8, h7, h3]
      exact ⟨hy, hs⟩
/-- how many blocks they are -/
def lens (L : List Rn) : Int := (L.map fun r => r.2).sum
theorem lens_append (A B : List Rn) : lens (A ++ B) = lens A + lens B := by simp [lens]
theorem lens_take (L : List Rn) (j : Nat) (r : Rn) (h : L[j]? = some r) : lens (L.take (j + 1)) = lens (L.take j) + r.2 := by
  rw [List.take_add_one, h]
  simp [lens, Int.add_comm]
theorem lens_pos : ∀ (L : List Rn), (∀ r ∈ L, cnt r = true) → 0 ≤ lens L
  | [], _ => by simp [lens]
  | r :: L, h => by
    have h1 := lens_pos L (fun q hq => h q (by simp [hq]))
    have h2 := h r (by simp)
    simp only [cnt, Bool.and_eq_true, decide_eq_true_eq] at h2
    have : lens (r :: L) = r.2 + lens L := by simp [lens]
    omega
theorem lens_le (L : List Rn) (h : ∀ r ∈ L, cnt r = true) (j : Nat) : 0 ≤ lens (L.take j) ∧ lens (L.take j) ≤ lens L := by
  have h1 := lens_pos (L.take j) (fun q hq => h q (List.mem_of_mem_take hq))
  have h2 := lens_pos (L.drop j) (fun q hq => h q (List.mem_of_mem_drop hq))
  have h3 : lens L = lens (L.take j) + lens (L.drop j) := by rw [← lens_append, List.take_append_drop]
  omega
def totalI (st : St) (x : V) (K : List Rn) (e : Env) (s : St) : Prop := ∃ j, j ≤ K.length ∧ e.get 9 = some (.int .i64 (j : Int)) ∧ e.get 8 = some (.int .i64 (K.length : Int)) ∧ e.get 7 = some x ∧ e.get 3 = some (.int .i64 (lens (K.take j))) ∧ Ext st.nx st s
set_option maxRecDepth 20000 in
set_option maxHeartbeats 4000000 in
theorem total_any (st : St) (x : V) (L : List Rn) (nt : Nat) (hx : RdRow st x 2 L.length (cells L)) (hL : L.length ≤ 1073741824) (hS : lens (L.filter cnt) ≤ 9223372036854775807) :
    Gd (callL Try.prog ⟨false, [], 0, nt⟩ 64 [x] st) fun r => r.1 = .int .i64 (lens (L.filter cnt)) ∧ Ext st.nx st r.2 := by
  rw [Gd_callL Try.func64 rfl]
  simp [evOp_call, sets, T.get_set]
  refine Gd.mono (counted_any st x L _ hx hL) ?_
  rintro ⟨y, s0⟩ ⟨hy0, hs0⟩
  have hy : RdRow s0 y 2 (L.filter cnt).length (cells (L.filter cnt)) := hy0.rd
  have hK : ∀ r ∈ L.filter cnt, cnt r = true := fun r hr => (List.mem_filter.1 hr).2
  have hKl : (L.filter cnt).length ≤ 1073741824 := Nat.le_trans (List.length_filter_le _ _) hL
  simp only at hs0
  generalize L.filter cnt = K at *
  clear hy0
  simp [T.get_set, hy.lenS]
  refine Gd_loop (fun e s => totalI s0 y K e s) (fun e _ => muAt 9 K.length e) ?_ ?_
  · exact ⟨0, Nat.zero_le _, by simp [T.get_set], by simp [T.get_set], by simp [T.get_set], by simp [T.get_set, lens], Ext.refl _ _⟩
  · rintro e s ⟨j, hj, h9, h8, h7, h3, hs⟩
    have hys := hy.keep (Nat.le_refl _) hs
    have hsn := hs.le
    by_cases hlt : j < K.length
    · have hlt' : (j : Int) < K.length := by omega
      have hw := wrap_nat (n := j) (by omega)
      obtain ⟨m, o, ty, sz, tr, hi, hm, hg, ho, hc⟩ := hys.idx (st := s) un31 io87 hlt
      obtain ⟨⟨F, N⟩, hr⟩ : ∃ r, K[j]? = some r := ⟨_, List.getElem?_eq_getElem hlt⟩
      have hcl := cells_get K j _ hr
      have t0 : tr.get o = some (.int .i64 F) := hc 0 _ (by omega) hcl.1
      have t1 : tr.get (o + 1) = some (.int .i64 N) := hc 1 _ (by omega) hcl.2
      have hne : ¬ s.nx = m := by omega
      have hlt2 := lens_take K j _ hr
      have hb1 := lens_le K hK j
      have hb2 := lens_le K hK (j + 1)
      have hw2 : IntKind.i64.wrap (lens (K.take j) + N) = lens (K.take (j + 1)) := by rw [hlt2]; exact wrap_in (by simp at hlt2; omega) (by simp at hlt2; omega)
      have hext := (Ext.refl s.nx s).new (Nat.le_refl _) (.cs 87 2 ((((T.lf.set 0 (V.int .i64 0)).set 1 (V.int .i64 0)).set 0 (V.int .i64 F)).set 1 (V.int .i64 N)))
      simp [T.get_set, h9, h8, h7, h3, hlt', hi, loadE_eq, getC_eq, hg, getsB_2, t0, t1, newC_is, putB_eq, storeK_g, roT, sets, hne, hw, hw2]
      exact ⟨⟨j + 1, hlt, by simp [T.get_set], by simp [T.get_set, h8], by simp [T.get_set, h7], by simp [T.get_set], hs.trans (hext.mono hsn)⟩, muAt_lt h9 (by simp [T.get_set]) hlt⟩
    · obtain rfl : j = K.length := by omega
      rw [List.take_length] at h3
      simp [T.get_set, h9, h8, h3]
      exact hs0.trans (hs.mono hs0.le)
end Go.Proofs.Ytcjddojcfdeflaa

/-
  Contracts of package node: what fits.
-/
import Derived.Test.YtdoennkmcloalaaTyNode
import Derived.Test.YtdoennkmcloalaaNdQ
set_option linter.unusedSimpArgs false
namespace Go.Proofs.Ytdoennkmcloalaa
open Go.RowKit Ev
def ndV (N : Nd) (y : V) : V := .g [.int .i64 N.t, .int .i64 N.l, .int .i64 N.s, y]
theorem pairs_at : ∀ (L : List (Int × Int)) (i : Nat) (r : Int × Int), L[i]? = some r → (pairs L)[i * 2 + 0]? = some (.int .i64 r.1) ∧ (pairs L)[i * 2 + 1]? = some (.int .i64 r.2)
  | [], i, r, h => by simp at h
  | q :: L, 0, r, h => by simp at h; subst h; exact ⟨rfl, rfl⟩
  | q :: L, i + 1, r, h => by
    have := pairs_at L i r (by simpa using h)
    rw [show pairs (q :: L) = .int .i64 q.1 :: .int .i64 q.2 :: pairs L from rfl, show (i + 1) * 2 + 0 = i * 2 + 0 + 1 + 1 by omega, show (i + 1) * 2 + 1 = i * 2 + 1 + 1 + 1 by omega]
    exact this
theorem pairs_app (L K : List (Int × Int)) : pairs (L ++ K) = pairs L ++ pairs K := by simp [pairs]
theorem betw_any (c : Cx) (st : St) (a b d : Int) : Gd (callL Try.prog c 125 [.int .i64 a, .int .i64 b, .int .i64 d] st) fun r => r = (.bool (decide (b ≤ a ∧ a ≤ d)), st) := by
  rw [Gd_callL Try.func125 rfl]
  by_cases h1 : b ≤ a
  · by_cases h2 : a ≤ d
    · simp [evOp_call, sets, T.get_set, h1, h2]
    · simp [evOp_call, sets, T.get_set, h1, h2]
  · simp [evOp_call, sets, T.get_set, h1]
theorem noth_any (st : St) (fl : List (Nat × Nat)) (hfn : ∀ k, st.nx ≤ k → inF fl k = false) (wb : Nat) (N : Nd) (y : V) (hlen : ∀ s, lenS s y = some (.int .i64 N.R.length, s)) (nt : Nat) :
    Gd (callL Try.prog ⟨false, fl, wb, nt⟩ 124 [ndV N y] st) fun r => r.1 = .bool (decide (noneN N)) ∧ Ext st.nx st r.2 := by
  rw [Gd_callL Try.func124 rfl]
  have f0 := hfn st.nx (Nat.le_refl _)
  have he : ∀ v, Ext st.nx st ⟨st.nx + 1, st.h.set st.nx v⟩ := fun v => (Ext.refl _ _).new (Nat.le_refl _) _
  by_cases h1 : N.l = 0
  · by_cases h2 : N.s = 0
    · by_cases h3 : (N.R.length : Int) = 0
      · have h3' : N.R.length = 0 := by omega
        simp [ndV, f0, evOp_call, sets, T.get_set, cellsOf, newC_is, loadE_eq, getC_eq, hlen, h1, h2, h3]
        exact ⟨⟨h1, h2, h3'⟩, he _⟩
      · have h3' : ¬ N.R.length = 0 := by omega
        simp [ndV, f0, evOp_call, sets, T.get_set, cellsOf, newC_is, loadE_eq, getC_eq, hlen, h1, h2, h3]
        exact ⟨⟨fun h => absurd (by rw [h]; rfl) h3', fun h => absurd h.2.2 h3'⟩, he _⟩
    · simp [ndV, f0, evOp_call, sets, T.get_set, cellsOf, newC_is, loadE_eq, getC_eq, hlen, h1, h2]
      exact ⟨fun h => h2 h.2.1, he _⟩
  · simp [ndV, f0, evOp_call, sets, T.get_set, cellsOf, newC_is, loadE_eq, getC_eq, hlen, h1]
    exact ⟨fun h => h1 h.1, he _⟩
def nfitI (st : St) (y : V) (K : List (Int × Int)) (e : Env) (s : St) : Prop := ∃ k : Nat, k ≤ K.length ∧ e.get 33 = some y ∧ e.get 34 = some (.int .i64 (K.length : Int)) ∧ e.get 35 = some (.int .i64 (k : Int)) ∧ (∀ r ∈ K.take k, okRun r) ∧ Ext st.nx st s
theorem mem_take_succ {α : Type} {K : List α} {k : Nat} {r : α} (h : K[k]? = some r) {P : α → Prop} (h1 : ∀ q ∈ K.take k, P q) (h2 : P r) : ∀ q ∈ K.take (k + 1), P q := by
  intro q hq
  rw [List.take_add_one, h] at hq
  rcases List.mem_append.1 hq with hq | hq
  · exact h1 q hq
  · simp at hq; subst hq; exact h2
set_option maxRecDepth 20000 in
set_option maxHeartbeats 2000000 in
theorem nfits_any (st : St) (N : Nd) (y : V) (hy : RdRow st y 2 N.R.length (pairs N.R)) (nt : Nat) :
    Gd (callL Try.prog ⟨false, [], 0, nt⟩ 132 [ndV N y] st) fun r => r.1 = .bool (decide (fitsN N)) ∧ Ext st.nx st r.2 := by
  have hone := hy.one
  rw [Gd_callL Try.func132 rfl]
  have he : ∀ v, Ext st.nx st ⟨st.nx + 1, st.h.set st.nx v⟩ := fun v => (Ext.refl _ _).new (Nat.le_refl _) _
  have hnd : V.g [.int .i64 N.t, .int .i64 N.l, .int .i64 N.s, y] = ndV N y := rfl
  have hcell : ∀ k : List V → Res, cellsOf (ndV N y) k = k [.int .i64 N.t, .int .i64 N.l, .int .i64 N.s, y] := fun k => rfl
  by_cases ht : N.t = 0
  · have hnd0 : V.g [.int .i64 0, .int .i64 N.l, .int .i64 N.s, y] = ndV N y := by unfold ndV; rw [ht]
    have hF : fitsN N ↔ noneN N := by unfold fitsN; rw [if_pos ht]
    simp [hcell, evOp_call, sets, T.get_set, newC_is, loadE_eq, getC_eq, getsB_succ, getsB_zero, ht]
    rw [hnd0]
    refine Gd.mono (noth_any _ [] (fun _ _ => rfl) 0 N y (fun s => hy.lenS s) _) ?_
    rintro ⟨r, s1⟩ ⟨hr, x1⟩
    simp only at hr x1
    subst hr
    simp [T.get_set, hF]
    exact (he _).trans (x1.mono (Nat.le_succ _))
  · have hF : fitsN N ↔ fitsT N := by unfold fitsN; rw [if_neg ht]
    by_cases c1 : 1 ≤ N.t ∧ N.t ≤ 3
    · simp [hcell, evOp_call, sets, T.get_set, newC_is, loadE_eq, getC_eq, getsB_succ, getsB_zero, ht]
      refine Gd.mono (betw_any _ _ _ _ _) ?_
      rintro _ rfl
      simp [hcell, evOp_call, sets, T.get_set, newC_is, loadE_eq, getC_eq, getsB_succ, getsB_zero, ht, c1]
      refine Gd.mono (betw_any _ _ _ _ _) ?_
      rintro _ rfl
      by_cases c2 : 0 ≤ N.l ∧ N.l ≤ 16777215
      · simp [hcell, evOp_call, sets, T.get_set, newC_is, loadE_eq, getC_eq, getsB_succ, getsB_zero, ht, c1, c2]
        refine Gd.mono (betw_any _ _ _ _ _) ?_
        rintro _ rfl
        by_cases c3 : 0 ≤ N.s ∧ N.s ≤ 1099511627776
        · by_cases c4 : (4 : Int) < N.R.length
          · simp [hcell, evOp_call, sets, T.get_set, newC_is, loadE_eq, getC_eq, getsB_succ, getsB_zero, ht, c1, c2, c3, c4, hy.lenS, hF]
            exact ⟨fun h => by have := h.2.2.2.1; omega, he _⟩
          · simp [hcell, evOp_call, sets, T.get_set, newC_is, loadE_eq, getC_eq, getsB_succ, getsB_zero, ht, c1, c2, c3, c4, hy.lenS]
            refine Gd_loop (nfitI st y N.R) (fun en _ => muAt 35 N.R.length en) ?_ ?_
            · exact ⟨0, Nat.zero_le _, by simp [T.get_set], by simp [T.get_set], by simp [T.get_set], fun r h => by simp at h, he _⟩
            · rintro en s ⟨k, hk, g33, g34, g35, hok, hs⟩
              have hsn := hs.le
              by_cases hlt : k < N.R.length
              · have hlt' : (k : Int) < N.R.length := by omega
                have hwk := wrap_nat (n := k) (by omega)
                have hys := hy.ext hs
                obtain ⟨m, o, ty, sz, tr, hid, hm, hg, ho, hc⟩ := hys.idx (st := s) un39 io47 hlt
                obtain ⟨⟨F, L⟩, hr⟩ : ∃ r, N.R[k]? = some r := ⟨_, List.getElem?_eq_getElem hlt⟩
                have hcl := pairs_at N.R k _ hr
                have t0 : tr.get o = some (.int .i64 F) := hc 0 _ (by omega) hcl.1
                have t1 : tr.get (o + 1) = some (.int .i64 L) := hc 1 _ (by omega) hcl.2
                have hne : ¬ s.nx = m := by omega
                have hext := fun v => (Ext.refl s.nx s).new (Nat.le_refl _) v
                have bad : ¬ okRun (F, L) → ¬ fitsT N := fun h1 h => h1 (h.2.2.2.2 _ (List.mem_of_getElem? hr))
                simp [evOp_call, T.get_set, g33, g34, g35, hlt', hid, loadE_eq, getC_eq, hg, getsB_2, t0, t1, newC_is, cellsOf, putB_eq, storeK_g, roT, sets, hne]
                refine Gd.mono (betw_any _ _ _ _ _) ?_
                rintro _ rfl
                by_cases d1 : 0 ≤ F ∧ F ≤ 2147483648
                · simp [evOp_call, T.get_set, g33, g34, g35, hlt', hid, loadE_eq, getC_eq, hg, getsB_2, t0, t1, newC_is, cellsOf, putB_eq, storeK_g, roT, sets, hne, d1]
                  refine Gd.mono (betw_any _ _ _ _ _) ?_
                  rintro _ rfl
                  by_cases d2 : 1 ≤ L ∧ L ≤ 2147483648
                  · simp [evOp_call, T.get_set, g33, g34, g35, d2, hwk]
                    exact ⟨⟨k + 1, hlt, by simp [T.get_set, g33], by simp [T.get_set, g34], by simp [T.get_set], mem_take_succ hr hok ⟨d1, d2⟩, hs.trans ((hext _).mono hsn)⟩, muAt_lt g35 (by simp [T.get_set]) hlt⟩
                  · simp [evOp_call, T.get_set, g33, g34, g35, d2, hF]
                    exact ⟨bad fun h => d2 h.2, hs.trans ((hext _).mono hsn)⟩
                · simp [evOp_call, T.get_set, g33, g34, g35, d1, hF]
                  exact ⟨bad fun h => d1 h.1, hs.trans ((hext _).mono hsn)⟩
              · obtain rfl : k = N.R.length := by omega
                rw [List.take_length] at hok
                have hT : fitsT N := ⟨c1, c2, c3, by omega, hok⟩
                simp [evOp_call, T.get_set, g33, g34, g35, hF, hT]
                exact hs
        · simp [hcell, evOp_call, sets, T.get_set, newC_is, loadE_eq, getC_eq, getsB_succ, getsB_zero, ht, c1, c2, c3, hF]
          exact ⟨fun h => c3 h.2.2.1, he _⟩
      · simp [hcell, evOp_call, sets, T.get_set, newC_is, loadE_eq, getC_eq, getsB_succ, getsB_zero, ht, c1, c2, hF]
        exact ⟨fun h => c2 h.2.1, he _⟩
    · simp [hcell, evOp_call, sets, T.get_set, newC_is, loadE_eq, getC_eq, getsB_succ, getsB_zero, ht]
      refine Gd.mono (betw_any _ _ _ _ _) ?_
      rintro _ rfl
      simp [hcell, evOp_call, sets, T.get_set, newC_is, loadE_eq, getC_eq, getsB_succ, getsB_zero, ht, c1, hF]
      exact ⟨fun h => c1 h.1, he _⟩
end Go.Proofs.Ytdoennkmcloalaa

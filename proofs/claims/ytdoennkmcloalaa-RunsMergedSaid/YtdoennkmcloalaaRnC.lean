/-
  Contracts: merged; apart.
-/
import Derived.Test.YtdoennkmcloalaaRnB
set_option linter.unusedSimpArgs false
namespace Go.Proofs.Ytdoennkmcloalaa
open Go.RowKit Ev
theorem ownLow {b b' : Nat} {st : St} {x : V} {z n : Nat} {l : List V} (h : OwnRow b st x z n l) (hb : b' ≤ b) : OwnRow b' st x z n l := by
  obtain ⟨h1, h2⟩ := h
  refine ⟨h1, ?_⟩
  rcases h2 with h2 | ⟨m, ty, t, h2, h3, h4, h5⟩
  · exact .inl h2
  · exact .inr ⟨m, ty, t, h2, Nat.le_trans hb h3, h4, h5⟩
def mgI (s1 : St) (x : V) (f : Int) (K : List Int) (e : Env) (s : St) : Prop := ∃ (j : Nat) (y : V), j ≤ K.length ∧ e.get 8 = some x ∧ e.get 9 = some (.int .i64 (K.length : Int)) ∧ e.get 10 = some (.int .i64 (j : Int)) ∧ e.get 3 = some y ∧ Ext s1.nx s1 s ∧ (j = 0 → y = .c (.slice none 0 0)) ∧ (0 < j → OwnRow s1.nx s y 2 1 [.int .i64 f, .int .i64 (K.take j).sum])
set_option maxRecDepth 20000 in
set_option maxHeartbeats 8000000 in
theorem merge_any (st : St) (x : V) (f : Int) (K : List Int) (hx : RdRow st x 2 (chain f K).length (cells (chain f K))) (hf : 0 ≤ f ∧ f ≤ 1000) (hK : OkK K) (h1 : 1 ≤ K.length) (h2 : K.length ≤ 20) (nt : Nat) :
    Gd (callL Try.prog ⟨false, [], 0, nt⟩ 59 [x] st) fun r => OwnRow st.nx r.2 r.1 2 1 [.int .i64 f, .int .i64 K.sum] ∧ Ext st.nx st r.2 := by
  rw [Gd_callL Try.func59 rfl]
  have hcl := chain_length f K
  simp [evOp_call, sets, T.get_set]
  refine Gd.mono (counted_any st x (chain f K) _ hx (by omega)) ?_
  rintro ⟨c, s1⟩ ⟨hc, e1⟩
  simp only at hc e1
  rw [chain_cnt hf hK h2, hcl] at hc
  simp [evOp_call, sets, T.get_set, hc.rd.lenS]
  refine Gd_loop (mgI s1 c f K) (fun e _ => muAt 10 K.length e) ?_ ?_
  · exact ⟨0, _, Nat.zero_le _, by simp [T.get_set], by simp [T.get_set], by simp [T.get_set], by simp [T.get_set], Ext.refl _ _, fun _ => rfl, fun h => absurd h (Nat.lt_irrefl _)⟩
  rintro e s ⟨j, y, hj, g8, g9, g10, g3, hs, hy0, hy1⟩
  by_cases hlt : j < K.length
  case neg =>
    obtain rfl : j = K.length := by omega
    have hy := hy1 (by omega)
    rw [List.take_length] at hy
    simp [evOp_call, T.get_set, g8, g9, g10, g3, sets]
    exact ⟨ownLow hy e1.le, e1.trans (hs.mono e1.le)⟩
  have hlt' : (j : Int) < K.length := by omega
  have hwj := wrap_nat (n := j) (by omega)
  obtain ⟨w, hw⟩ : ∃ w, K[j]? = some w := ⟨_, List.getElem?_eq_getElem hlt⟩
  have hsb := sum_bd hK j (by omega)
  have hwb := hK w (List.mem_of_getElem? hw)
  have hts := take_sum hw
  have hcs := hc.rd.ext hs
  obtain ⟨ma, oa, ta, za, tra, hida, hma, hga, hoa, hca⟩ := hcs.idx (st := s) un39 io47 hlt
  have xa := cells_get (chain f K) j _ (chain_at f K j w hw)
  have a0 : tra.get oa = some (.int .i64 (f + (K.take j).sum)) := hca 0 _ (by omega) xa.1
  have a1 : tra.get (oa + 1) = some (.int .i64 w) := hca 1 _ (by omega) xa.2
  have hx2 := fun b => (Ext.refl s.nx s).new (Nat.le_refl _) b
  have hsl := hs.le
  rcases Nat.eq_zero_or_pos j with h0 | h0
  · subst h0
    have hy := hy0 rfl
    subst hy
    have w1 : IntKind.i64.wrap (-1) = -1 := by decide
    have hnl : ∀ s : St, lenS s (.c (.slice none 0 0)) = some (.int .i64 0, s) := fun s => by have := (OwnRow.nil 0 s 2).rd.lenS s; simpa using this
    have hl0 : 0 < K.length := hlt
    have hl0' : (0 : Int) < (K.length : Int) := by omega
    simp [evOp_call, T.get_set, g8, g9, g10, g3, hl0, hl0', hida, loadE_eq, getC_eq, getsB_succ, getsB_zero, hga, a0, a1, newC_is, cellsOf, storeK_g, putB_eq, roT, sets, w1, hnl]
    refine ⟨by kernel_rfl, ?_⟩
    refine evOp_build1 (v := .g [.int .i64 f, .int .i64 w]) (cs := [.int .i64 f, .int .i64 w]) (fun k => el39 k) (fun k => ze47 k) rfl (by decide) (by simp [T.get_set]) (fun k => rfl) rfl ?_
    simp [evOp_call, T.get_set, g8, g9, g10, g3]
    have hx4 := fun a b => (hx2 a).new (Nat.le_succ _) b
    refine Gd_append un39 un39 io47 (b := s1.nx) (n := 0) (lx := 1) (l := []) (new := [.int .i64 f, .int .i64 w]) (OwnRow.nil _ _ _) (by show s1.nx ≤ s.nx + 1 + 1; omega) (by decide) (fun s' h => by cases h) (fun k => rfl) (fun k => by simp [getC_eq, getsB_2, T.get_set, sets]) rfl (by omega) ?_
    intro y' s5 hy5 e5 hk5 hor
    have w2 : IntKind.i64.wrap 1 = 1 := by decide
    simp [evOp_call, T.get_set, g8, g9, g10, g3, w2]
    refine ⟨⟨1, y', hlt, by simp [T.get_set, g8], by simp [T.get_set, g9], by simp [T.get_set], by simp [T.get_set], ?_, fun h => absurd h (by decide), fun _ => ?_⟩, muAt_lt g10 (by simp [T.get_set]) hlt⟩
    · exact (hs.trans ((hx4 _ _).mono hsl)).trans e5
    · rw [hts]
      simpa using hy5
  have hy := hy1 h0
  obtain ⟨_, hy2⟩ := id hy
  rcases hy2 with ⟨_, h⟩ | ⟨my, ty, t, rfl, hmy, hmn, hgy, hty, hcy⟩
  · omega
  have b0 : t.get 0 = some (.int .i64 f) := hcy 0 _ rfl
  have b1 : t.get 1 = some (.int .i64 (K.take j).sum) := hcy 1 _ rfl
  have w1 : IntKind.i64.wrap (f + (K.take j).sum) = f + (K.take j).sum := wrap_in (by omega) (by omega)
  have w2 : IntKind.i64.wrap ((K.take j).sum + w) = (K.take j).sum + w := wrap_in (by omega) (by omega)
  have hne : ¬ s.nx = my := by omega
  have hne' : ¬ my = s.nx := by omega
  have w0 : IntKind.i64.wrap 0 = 0 := by decide
  have hyl : ∀ s : St, lenS s (.sg my 0 1 2) = some (.int .i64 1, s) := fun s => by have := hy.rd.lenS s; simpa using this
  simp [evOp_call, T.get_set, g8, g9, g10, g3, hlt', hlt, hida, loadE_eq, getC_eq, getsB_succ, getsB_zero, hga, a0, a1, newC_is, cellsOf, storeK_g, putB_eq, roT, sets, w0, w1, hgy, b0, b1, hne, hne', hyl]
  refine ⟨by kernel_rfl, ?_⟩
  refine ⟨by kernel_rfl, ?_⟩
  rw [cxOf_store]
  rotate_left
  · kernel_rfl
  simp [evOp_call, T.get_set, g8, g9, g10, g3, hlt', hlt, hida, loadE_eq, getC_eq, getsB_succ, getsB_zero, hga, a0, a1, newC_is, cellsOf, storeK_g, putB_eq, sets, w0, w1, w2, hgy, b0, b1, hne, hne', hyl, hwj, hty]
  refine ⟨⟨j + 1, .sg my 0 1 2, hlt, by simp [T.get_set, g8], by simp [T.get_set, g9], by simp [T.get_set], by simp [T.get_set, g3], ?_, fun h => absurd h (by omega), fun _ => ?_⟩, muAt_lt g10 (by simp [T.get_set]) hlt⟩
  · exact (hs.trans ((hx2 _).mono hsl)).set hmy (by show my < s.nx + 1; omega) _
  · refine ⟨rfl, .inr ⟨my, ty, _, rfl, hmy, by show my < s.nx + 1; omega, T.get_set_same _ _ _, hty, fun i v hi => ?_⟩⟩
    rw [hts] at hi
    rcases i with _ | _ | i
    · simp at hi; subst hi; simp [T.get_set, b0]
    · simp at hi; subst hi; simp [T.get_set]
    · simp at hi
set_option maxRecDepth 20000 in
set_option maxHeartbeats 8000000 in
theorem apart_any (st : St) (x : V) (f : Int) (K : List Int) (hx : RdRow st x 2 (chain f K).length (cells (chain f K))) (hf : 0 ≤ f ∧ f ≤ 1000) (hK : OkK K) (h1 : 1 ≤ K.length) (h2 : K.length ≤ 20) (nt : Nat) :
    Gd (callL Try.prog ⟨false, [], 0, nt⟩ 60 [x] st) fun r => r.1 = .bool true ∧ Ext st.nx st r.2 := by
  rw [Gd_callL Try.func60 rfl]
  have hcl := chain_length f K
  simp [evOp_call, sets, T.get_set]
  refine Gd.mono (counted_any st x (chain f K) _ hx (by omega)) ?_
  rintro ⟨c, s1⟩ ⟨hc, e1⟩
  simp only at hc e1
  rw [chain_cnt hf hK h2] at hc
  simp [evOp_call, sets, T.get_set]
  refine Gd.mono (sortUp_any s1 c (chain f K) hc.rd (chain_up hK) (by omega) (by omega) _) ?_
  rintro ⟨r, s2⟩ ⟨hr, e2⟩
  simp only at hr e2
  subst hr
  have hc2 := hc.rd.ext e2
  simp [evOp_call, sets, T.get_set]
  refine Gd_loop (fun e s => ∃ i : Nat, 1 ≤ i ∧ i ≤ K.length ∧ e.get 3 = some c ∧ e.get 4 = some (.int .i64 (i : Int)) ∧ s = s2) (fun e _ => muAt 4 K.length e) ?_ ?_
  · exact ⟨1, Nat.le_refl _, h1, by simp [T.get_set], by simp [T.get_set], rfl⟩
  rintro e s ⟨i, hi1, hi, g3, g4, rfl⟩
  by_cases hlt : i < K.length
  case neg =>
    obtain rfl : i = K.length := by omega
    simp [evOp_call, T.get_set, g3, g4, hc2.lenS, hcl, sets]
    exact e1.trans (e2.mono e1.le)
  obtain ⟨k, rfl⟩ : ∃ k, i = k + 1 := ⟨i - 1, by omega⟩
  have hlt' : (k : Int) + 1 < K.length := by omega
  have wk2 : IntKind.i64.wrap (k : Int) = (k : Int) := wrap_in (by omega) (by omega)
  have wk3 : IntKind.i64.wrap ((k : Int) + 1 - 1) = (k : Int) := by rw [show (k : Int) + 1 - 1 = (k : Int) by omega]; exact wk2
  have wk4 : IntKind.i64.wrap ((k : Int) + 1 + 1) = (k : Int) + 1 + 1 := by rw [show (k : Int) + 1 + 1 = ((k + 2 : Nat) : Int) by omega]; exact wrap_in (by omega) (by omega)
  have hask : ∀ f : Nat → Res, asNat (.int .i64 ((k : Int) + 1)) f = f (k + 1) := fun f => by
    rw [show (k : Int) + 1 = ((k + 1 : Nat) : Int) by omega]; exact asNat_cast ..
  obtain ⟨a, ha⟩ : ∃ a, K[k + 1]? = some a := ⟨_, List.getElem?_eq_getElem (by omega)⟩
  obtain ⟨b, hb⟩ : ∃ b, K[k]? = some b := ⟨_, List.getElem?_eq_getElem (by omega)⟩
  obtain ⟨ma, oa, ta, za, tra, hida, hma, hga, a0, a1⟩ := rnIdx hc2 (chain_at f K _ a ha)
  obtain ⟨mb, ob, tb, zb, trb, hidb, hmb, hgb, b0, b1⟩ := rnIdx hc2 (chain_at f K _ b hb)
  have hts := take_sum hb
  simp only [hts] at a0
  have hsb := sum_bd hK k (by omega)
  have hbb := hK b (List.mem_of_getElem? hb)
  have w1 : IntKind.i64.wrap (f + (K.take k).sum + b) = f + (K.take k).sum + b := wrap_in (by omega) (by omega)
  have hnl : ¬ f + ((K.take k).sum + b) < f + (K.take k).sum + b := by omega
  simp [evOp_call, T.get_set, g3, g4, hc2.lenS, hcl, hlt']
  refine ⟨by kernel_rfl, ?_⟩
  simp [evOp_call, T.get_set, g3, g4, wk2, wk3, wk4, hask, hida, hidb, loadE_eq, getC_eq, getsB_succ, getsB_zero, hga, hgb, a0, a1, b0, b1, w1, hnl]
  exact ⟨⟨k + 1 + 1, by omega, by omega, by omega⟩, muAt_lt g4 (by simp [T.get_set]) hlt⟩
end Go.Proofs.Ytdoennkmcloalaa

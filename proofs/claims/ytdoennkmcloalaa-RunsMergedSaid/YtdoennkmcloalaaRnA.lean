/-
  Contracts: what is in order is put in order.
-/
import Derived.Test.YtdoennkmcloalaaRnT
set_option linter.unusedSimpArgs false
namespace Go.Proofs.Ytdoennkmcloalaa
open Go.RowKit Ev
theorem nanI_any (c : Cx) (st : St) (a : Int) : Gd (callL Try.prog c 188 [.int .i64 a] st) fun r => r = (.bool false, st) := by
  rw [Gd_callL Try.func188 rfl]
  simp [evOp_call, sets, T.get_set]
def cmpI (a b : Int) : Int := if a < b then -1 else if b < a then 1 else 0
theorem cmpI_any (c : Cx) (st : St) (a b : Int) : Gd (callL Try.prog c 141 [.int .i64 a, .int .i64 b] st) fun r => r = (.int .i64 (cmpI a b), st) := by
  rw [Gd_callL Try.func141 rfl]
  simp [evOp_call, sets, T.get_set]
  refine Gd.mono (nanI_any _ st a) ?_
  rintro _ rfl
  simp [evOp_call, sets, T.get_set]
  refine Gd.mono (nanI_any _ st b) ?_
  rintro _ rfl
  unfold cmpI
  by_cases h1 : a < b
  · simp [evOp_call, sets, T.get_set, h1]
  · by_cases h2 : b < a
    · simp [evOp_call, sets, T.get_set, h1, h2]
    · simp [evOp_call, sets, T.get_set, h1, h2]
theorem apart1_any (st : St) (fl : List (Nat × Nat)) (hfn : ∀ k, st.nx ≤ k → inF fl k = false) (a b x y : Int) (nt : Nat) :
    Gd (callL Try.prog ⟨false, fl, 0, nt⟩ 140 [.g [.int .i64 a, .int .i64 x], .g [.int .i64 b, .int .i64 y]] st) fun r => r.1 = .int .i64 (cmpI a b) ∧ Ext st.nx st r.2 := by
  rw [Gd_callL Try.func140 rfl]
  have f0 := hfn st.nx (Nat.le_refl _)
  have f1 := hfn (st.nx + 1) (Nat.le_succ _)
  simp [evOp_call, sets, T.get_set, newC_is, cellsOf, loadE_eq, getC_eq, f0, f1]
  refine Gd.mono (cmpI_any _ _ a b) ?_
  rintro _ rfl
  simp [evOp_call, sets, T.get_set]
  exact ((Ext.refl _ _).new (Nat.le_refl _) _).new (Nat.le_succ _) _
/-- in order -/
def Up (L : List Rn) : Prop := ∀ (i j : Nat) a b, i ≤ j → L[i]? = some a → L[j]? = some b → a.1 ≤ b.1
theorem Up.cmp {L : List Rn} (h : Up L) {i j : Nat} {a b : Rn} (hij : i ≤ j) (ha : L[i]? = some a) (hb : L[j]? = some b) : ¬ cmpI b.1 a.1 < 0 := by
  have := h i j a b hij ha hb
  unfold cmpI
  rw [if_neg (by omega)]
  split <;> omega
noncomputable abbrev fA1 : V := .f (.func 140) [] []
def srI (st : St) (y : V) (n : Nat) (e : Env) (s : St) : Prop := ∃ i : Nat, 1 ≤ i ∧ i ≤ n ∧ e.get 0 = some y ∧ e.get 1 = some (.int .i64 0) ∧ e.get 2 = some (.int .i64 (n : Int)) ∧ e.get 3 = some fA1 ∧ e.get 8 = some (.int .i64 (i : Int)) ∧ Ext st.nx st s
def srJ (st : St) (y : V) (n i : Nat) (e : Env) (s : St) : Prop := e.get 0 = some y ∧ e.get 1 = some (.int .i64 0) ∧ e.get 2 = some (.int .i64 (n : Int)) ∧ e.get 3 = some fA1 ∧ e.get 8 = some (.int .i64 (i : Int)) ∧ e.get 9 = some (.int .i64 (i : Int)) ∧ Ext st.nx st s
set_option maxRecDepth 20000 in
set_option maxHeartbeats 8000000 in
theorem insUp_any (st : St) (y : V) (L : List Rn) (hy : RdRow st y 2 L.length (cells L)) (hu : Up L) (h1 : 1 ≤ L.length) (h2 : L.length ≤ 1000) (nt : Nat) :
    Gd (callL Try.prog ⟨false, [], 0, nt⟩ 220 [y, .int .i64 0, .int .i64 (L.length : Int), fA1] st) fun r => r.1 = .t [] ∧ Ext st.nx st r.2 := by
  rw [Gd_callL Try.func220 rfl]
  simp [evOp_call, sets, T.get_set]
  refine Gd_loop (srI st y L.length) (fun e _ => muAt 8 L.length e) ?_ ?_
  · exact ⟨1, Nat.le_refl _, h1, by simp [T.get_set], by simp [T.get_set], by simp [T.get_set], by simp [T.get_set], by simp [T.get_set]; decide, Ext.refl _ _⟩
  rintro e s ⟨i, hi1, hi, g0, g1, g2, g3, g8, hs⟩
  by_cases hlt : i < L.length
  case neg =>
    obtain rfl : i = L.length := by omega
    simp [evOp_call, T.get_set, g0, g1, g2, g3, g8, sets]
    exact hs
  have hlt' : (i : Int) < L.length := by omega
  have hwi := wrap_nat (n := i) (by omega)
  simp [evOp_call, T.get_set, g0, g1, g2, g3, g8, hlt']
  refine Gd_loop (srJ st y L.length i) (fun e _ => 0) ?_ ?_
  · exact ⟨by simp [T.get_set, g0], by simp [T.get_set, g1], by simp [T.get_set, g2], by simp [T.get_set, g3], by simp [T.get_set, g8], by simp [T.get_set], hs⟩
  have g8e := g8
  clear g0 g1 g2 g3 g8 hs
  rintro e2 s2 ⟨g0, g1, g2, g3, g8, g9, hs⟩
  obtain ⟨k, rfl⟩ : ∃ k, i = k + 1 := ⟨i - 1, by omega⟩
  have hkp : (0 : Int) < ((k + 1 : Nat) : Int) := by omega
  have wk2 : IntKind.i64.wrap (k : Int) = (k : Int) := wrap_in (by omega) (by omega)
  have wk3 : IntKind.i64.wrap ((k : Int) + 1 - 1) = (k : Int) := by rw [show (k : Int) + 1 - 1 = (k : Int) by omega]; exact wk2
  have wk4 : IntKind.i64.wrap ((k : Int) + 1 + 1) = (k : Int) + 1 + 1 := by rw [show (k : Int) + 1 + 1 = ((k + 2 : Nat) : Int) by omega]; exact wrap_in (by omega) (by omega)
  have hask : ∀ f : Nat → Res, asNat (.int .i64 ((k : Int) + 1)) f = f (k + 1) := fun f => by
    rw [show (k : Int) + 1 = ((k + 1 : Nat) : Int) by omega]; exact asNat_cast ..
  obtain ⟨⟨a, a'⟩, ha⟩ : ∃ a, L[k + 1]? = some a := ⟨_, List.getElem?_eq_getElem (by omega)⟩
  obtain ⟨⟨b, b'⟩, hb⟩ : ∃ b, L[k]? = some b := ⟨_, List.getElem?_eq_getElem (by omega)⟩
  have hc := hu.cmp (Nat.le_succ k) hb ha
  have hy2 := hy.ext hs
  obtain ⟨ma, oa, ta, za, tra, hida, hma, hga, hoa, hca⟩ := hy2.idx (st := s2) un39 io47 hlt
  obtain ⟨mb, ob, tb, zb, trb, hidb, hmb, hgb, hob, hcb⟩ := hy2.idx (st := s2) un39 io47 (i := k) (by omega)
  have xa := cells_get L _ _ ha
  have xb := cells_get L _ _ hb
  have a0 : tra.get oa = some (.int .i64 a) := hca 0 _ (by omega) xa.1
  have a1 : tra.get (oa + 1) = some (.int .i64 a') := hca 1 _ (by omega) xa.2
  have b0 : trb.get ob = some (.int .i64 b) := hcb 0 _ (by omega) xb.1
  have b1 : trb.get (ob + 1) = some (.int .i64 b') := hcb 1 _ (by omega) xb.2
  simp [evOp_call, T.get_set, g0, g1, g2, g3, g8, g9, hkp]
  refine ⟨by kernel_rfl, ?_⟩
  simp [evOp_call, T.get_set, g0, g1, g2, g3, g8, g9, hkp, wk2, wk3, hask, hida, hidb, loadE_eq, getC_eq, getsB_succ, getsB_zero, hga, hgb, a0, a1, b0, b1, evOp_callV, funK_f xt140]
  rw [cxOf_call (by kernel_rfl) (by kernel_rfl), forb_nil]
  refine Gd.mono (apart1_any s2 [] (fun _ _ => rfl) a b a' b' _) ?_
  rintro ⟨r, s3⟩ ⟨hr, e3⟩
  simp only at hr e3
  subst hr
  simp [evOp_call, T.get_set, g0, g1, g2, g3, g8, g9, hc, hwi, wk4]
  exact ⟨⟨k + 1 + 1, by omega, by omega, by simp [T.get_set, g0], by simp [T.get_set, g1], by simp [T.get_set, g2], by simp [T.get_set, g3], by simp [T.get_set], hs.trans (e3.mono hs.le)⟩, muAt_lt g8e (by simp [T.get_set]) hlt⟩
theorem rnIdx {s : St} {y : V} {L : List Rn} (hy : RdRow s y 2 L.length (cells L)) {k : Nat} {a : Rn} (ha : L[k]? = some a) : ∃ m o ty sz tr, (∀ f : V → Res, idxE Try.prog 39 y k f = f (.p m o)) ∧ m < s.nx ∧ s.h.get m = some (.cs ty sz tr) ∧ tr.get o = some (.int .i64 a.1) ∧ tr.get (o + 1) = some (.int .i64 a.2) := by
  obtain ⟨ma, oa, ta, za, tra, hida, hma, hga, hoa, hca⟩ := hy.idx (st := s) un39 io47 (lt_of_get ha)
  have xa := cells_get L _ _ ha
  exact ⟨ma, oa, ta, za, tra, hida, hma, hga, hca 0 _ (by omega) xa.1, hca 1 _ (by omega) xa.2⟩
set_option maxRecDepth 20000 in
set_option maxHeartbeats 8000000 in
theorem order2_any (st : St) (y : V) (L : List Rn) (hy : RdRow st y 2 L.length (cells L)) (hu : Up L) (i j sw : Nat) (hij : i ≤ j) (hj : j < L.length) (nt : Nat) :
    Gd (callL Try.prog ⟨false, [], 0, nt⟩ 258 [y, .int .i64 (i : Int), .int .i64 (j : Int), .p sw 0, fA1] st) fun r => r.1 = .t [.int .i64 (i : Int), .int .i64 (j : Int)] ∧ Ext st.nx st r.2 := by
  rw [Gd_callL Try.func258 rfl]
  obtain ⟨⟨a, a'⟩, ha⟩ : ∃ a, L[i]? = some a := ⟨_, List.getElem?_eq_getElem (by omega)⟩
  obtain ⟨⟨b, b'⟩, hb⟩ : ∃ b, L[j]? = some b := ⟨_, List.getElem?_eq_getElem (by omega)⟩
  have hc := hu.cmp hij ha hb
  obtain ⟨ma, oa, ta, za, tra, hida, hma, hga, a0, a1⟩ := rnIdx hy ha
  obtain ⟨mb, ob, tb, zb, trb, hidb, hmb, hgb, b0, b1⟩ := rnIdx hy hb
  simp [evOp_call, sets, T.get_set]
  refine ⟨by kernel_rfl, ?_⟩
  simp [evOp_call, sets, T.get_set, hida, hidb, loadE_eq, getC_eq, getsB_succ, getsB_zero, hga, hgb, a0, a1, b0, b1, evOp_callV, funK_f xt140]
  rw [cxOf_call (by kernel_rfl) (by kernel_rfl), forb_nil]
  refine Gd.mono (apart1_any st [] (fun _ _ => rfl) b a b' a' _) ?_
  rintro ⟨r, s3⟩ ⟨hr, e3⟩
  simp only at hr e3
  subst hr
  simp [evOp_call, T.get_set, hc, sets]
  exact e3
set_option maxRecDepth 20000 in
theorem median_any (st : St) (y : V) (L : List Rn) (hy : RdRow st y 2 L.length (cells L)) (hu : Up L) (i j k sw : Nat) (hij : i ≤ j) (hjk : j ≤ k) (hk : k < L.length) (nt : Nat) :
    Gd (callL Try.prog ⟨false, [], 0, nt⟩ 251 [y, .int .i64 (i : Int), .int .i64 (j : Int), .int .i64 (k : Int), .p sw 0, fA1] st) fun r => r.1 = .int .i64 (j : Int) ∧ Ext st.nx st r.2 := by
  rw [Gd_callL Try.func251 rfl]
  simp [evOp_call, sets, T.get_set]
  refine Gd.mono (order2_any st y L hy hu i j sw hij (by omega) _) ?_
  rintro ⟨r, s1⟩ ⟨hr, e1⟩
  simp only at hr e1
  subst hr
  have hy1 := hy.ext e1
  simp [evOp_call, sets, T.get_set, tupK]
  refine Gd.mono (order2_any s1 y L hy1 hu j k sw hjk hk _) ?_
  rintro ⟨r, s2⟩ ⟨hr, e2⟩
  simp only at hr e2
  subst hr
  have hy2 := hy1.ext e2
  simp [evOp_call, sets, T.get_set, tupK]
  refine Gd.mono (order2_any s2 y L hy2 hu i j sw hij (by omega) _) ?_
  rintro ⟨r, s3⟩ ⟨hr, e3⟩
  simp only at hr e3
  subst hr
  simp [evOp_call, sets, T.get_set, tupK]
  exact (e1.trans (e2.mono e1.le)).trans (e3.mono (e1.trans (e2.mono e1.le)).le)
set_option maxRecDepth 20000 in
set_option maxHeartbeats 8000000 in
theorem pivot_any (st : St) (y : V) (L : List Rn) (hy : RdRow st y 2 L.length (cells L)) (hu : Up L) (h1 : 13 ≤ L.length) (h2 : L.length ≤ 20) (nt : Nat) :
    Gd (callL Try.prog ⟨false, [], 0, nt⟩ 223 [y, .int .i64 0, .int .i64 (L.length : Int), fA1] st) fun r => (∃ j : Nat, j ≤ 20 ∧ r.1 = .t [.int .i64 (j : Int), .int .i64 1]) ∧ Ext st.nx st r.2 := by
  rw [Gd_callL Try.func223 rfl]
  have hxs := fun b => (Ext.refl st.nx st).new (Nat.le_refl _) b
  obtain ⟨q, hq⟩ : ∃ q, q = L.length / 4 := ⟨_, rfl⟩
  have hq0 : (L.length : Int).tdiv 4 = (q : Int) := by rw [Int.tdiv_eq_ediv_of_nonneg (by omega)]; omega
  have w0 : IntKind.i64.wrap (L.length : Int) = (L.length : Int) := wrap_in (by omega) (by omega)
  have w1 : IntKind.i64.wrap (q : Int) = (q : Int) := wrap_in (by omega) (by omega)
  have w2 : IntKind.i64.wrap ((q : Int) * 2) = ((2 * q : Nat) : Int) := by rw [show (q : Int) * 2 = ((2 * q : Nat) : Int) by omega]; exact wrap_in (by omega) (by omega)
  have w3 : IntKind.i64.wrap ((q : Int) * 3) = ((3 * q : Nat) : Int) := by rw [show (q : Int) * 3 = ((3 * q : Nat) : Int) by omega]; exact wrap_in (by omega) (by omega)
  have w4 : IntKind.i64.wrap (2 * (q : Int)) = ((2 * q : Nat) : Int) := by rw [show 2 * (q : Int) = ((2 * q : Nat) : Int) by omega]; exact wrap_in (by omega) (by omega)
  have w5 : IntKind.i64.wrap (3 * (q : Int)) = ((3 * q : Nat) : Int) := by rw [show 3 * (q : Int) = ((3 * q : Nat) : Int) by omega]; exact wrap_in (by omega) (by omega)
  have c1 : (8 : Int) ≤ (L.length : Int) := by omega
  have c2 : ¬ (50 : Int) ≤ (L.length : Int) := by omega
  have c1' : 8 ≤ L.length := by omega
  have c2' : ¬ 50 ≤ L.length := by omega
  simp [evOp_call, sets, T.get_set, newC_is, cellsOf, hq0, w0, w1, w2, w3, w4, w5, c1, c2, c1', c2']
  refine Gd.mono (median_any _ y L (hy.ext (hxs _)) hu q (2 * q) (3 * q) st.nx (by omega) (by omega) (by omega) _) ?_
  rintro ⟨r, s1⟩ ⟨hr, e1⟩
  simp only at hr e1
  subst hr
  have hg := (e1.keep st.nx (Nat.lt_succ_self _)).trans (T.get_set_same _ _ _)
  simp [evOp_call, sets, T.get_set, loadE_eq, getC_eq, hg]
  exact ⟨⟨2 * q, by omega, by simp⟩, (hxs _).trans (e1.mono (Nat.le_succ _))⟩
def piI (st : St) (y : V) (n : Nat) (e : Env) (s : St) : Prop := e.get 0 = some y ∧ e.get 1 = some (.int .i64 0) ∧ e.get 2 = some (.int .i64 (n : Int)) ∧ e.get 3 = some fA1 ∧ e.get 9 = some (.int .i64 1) ∧ e.get 10 = some (.int .i64 0) ∧ s = st
def piJ (st : St) (y : V) (n : Nat) (e : Env) (s : St) : Prop := ∃ i : Nat, 1 ≤ i ∧ i ≤ n ∧ e.get 0 = some y ∧ e.get 1 = some (.int .i64 0) ∧ e.get 2 = some (.int .i64 (n : Int)) ∧ e.get 3 = some fA1 ∧ e.get 9 = some (.int .i64 (i : Int)) ∧ Ext st.nx st s
set_option maxRecDepth 20000 in
set_option maxHeartbeats 8000000 in
theorem partUp_any (st : St) (y : V) (L : List Rn) (hy : RdRow st y 2 L.length (cells L)) (hu : Up L) (h1 : 1 ≤ L.length) (h2 : L.length ≤ 1000) (nt : Nat) :
    Gd (callL Try.prog ⟨false, [], 0, nt⟩ 225 [y, .int .i64 0, .int .i64 (L.length : Int), fA1] st) fun r => r.1 = .bool true ∧ Ext st.nx st r.2 := by
  rw [Gd_callL Try.func225 rfl]
  have w1 : IntKind.i64.wrap 1 = 1 := by decide
  simp [evOp_call, sets, T.get_set, w1]
  refine Gd_loop (piI st y L.length) (fun e _ => 0) ?_ ?_
  · exact ⟨by simp [T.get_set], by simp [T.get_set], by simp [T.get_set], by simp [T.get_set], by simp [T.get_set], by simp [T.get_set], rfl⟩
  rintro e s ⟨g0, g1, g2, g3, g9, g10, rfl⟩
  simp [evOp_call, T.get_set, g0, g1, g2, g3, g9, g10]
  refine Gd_loop (piJ s y L.length) (fun e _ => muAt 9 L.length e) ?_ ?_
  · exact ⟨1, Nat.le_refl _, h1, by simp [T.get_set, g0], by simp [T.get_set, g1], by simp [T.get_set, g2], by simp [T.get_set, g3], by simp [T.get_set, g9], Ext.refl _ _⟩
  clear g0 g1 g2 g3 g9 g10
  rintro e2 s2 ⟨i, hi1, hi, g0, g1, g2, g3, g9, hs⟩
  by_cases hlt : i < L.length
  case neg =>
    obtain rfl : i = L.length := by omega
    simp [evOp_call, T.get_set, g0, g1, g2, g3, g9, sets]
    refine ⟨by kernel_rfl, ?_⟩
    exact hs
  have hlt' : (i : Int) < L.length := by omega
  have hwi := wrap_nat (n := i) (by omega)
  have g9e := g9
  obtain ⟨k, rfl⟩ : ∃ k, i = k + 1 := ⟨i - 1, by omega⟩
  have wk2 : IntKind.i64.wrap (k : Int) = (k : Int) := wrap_in (by omega) (by omega)
  have wk3 : IntKind.i64.wrap ((k : Int) + 1 - 1) = (k : Int) := by rw [show (k : Int) + 1 - 1 = (k : Int) by omega]; exact wk2
  have wk4 : IntKind.i64.wrap ((k : Int) + 1 + 1) = (k : Int) + 1 + 1 := by rw [show (k : Int) + 1 + 1 = ((k + 2 : Nat) : Int) by omega]; exact wrap_in (by omega) (by omega)
  have hask : ∀ f : Nat → Res, asNat (.int .i64 ((k : Int) + 1)) f = f (k + 1) := fun f => by
    rw [show (k : Int) + 1 = ((k + 1 : Nat) : Int) by omega]; exact asNat_cast ..
  have hlt2 : (k : Int) + 1 < L.length := by omega
  obtain ⟨⟨a, a'⟩, ha⟩ : ∃ a, L[k + 1]? = some a := ⟨_, List.getElem?_eq_getElem (by omega)⟩
  obtain ⟨⟨b, b'⟩, hb⟩ : ∃ b, L[k]? = some b := ⟨_, List.getElem?_eq_getElem (by omega)⟩
  have hc := hu.cmp (Nat.le_succ k) hb ha
  have hy2 := hy.ext hs
  obtain ⟨ma, oa, ta, za, tra, hida, hma, hga, a0, a1⟩ := rnIdx hy2 ha
  obtain ⟨mb, ob, tb, zb, trb, hidb, hmb, hgb, b0, b1⟩ := rnIdx hy2 hb
  simp [evOp_call, T.get_set, g0, g1, g2, g3, g9, hlt2]
  refine ⟨by kernel_rfl, ?_⟩
  simp [evOp_call, T.get_set, g0, g1, g2, g3, g9, hlt2, wk2, wk3, hask, hida, hidb, loadE_eq, getC_eq, getsB_succ, getsB_zero, hga, hgb, a0, a1, b0, b1, evOp_callV, funK_f xt140]
  rw [cxOf_call (by kernel_rfl) (by kernel_rfl), forb_nil]
  refine Gd.mono (apart1_any s2 [] (fun _ _ => rfl) a b a' b' _) ?_
  rintro ⟨r, s3⟩ ⟨hr, e3⟩
  simp only at hr e3
  subst hr
  simp [evOp_call, T.get_set, g0, g1, g2, g3, g9, hc, wk4]
  exact ⟨⟨k + 1 + 1, by omega, by omega, by simp [T.get_set, g0], by simp [T.get_set, g1], by simp [T.get_set, g2], by simp [T.get_set, g3], by simp [T.get_set], hs.trans (e3.mono hs.le)⟩, muAt_lt g9e (by simp [T.get_set]) hlt⟩
set_option maxRecDepth 100000 in
set_option maxHeartbeats 8000000 in
theorem len_any (st : St) (n : Nat) (h1 : 1 ≤ n) (h2 : n ≤ 20) (nt : Nat) :
    Gd (callL Try.prog ⟨false, [], 0, nt⟩ 187 [wd (BitVec.ofNat 64 n)] st) fun r => (∃ k : Int, 1 ≤ k ∧ r.1 = .int .i64 k) ∧ r.2 = st := by
  rw [Gd_callL Try.func187 rfl]
  simp [evOp_call, sets, T.get_set]
  rw [Gd_callL Try.func229 rfl]
  have hn : (BitVec.ofNat 64 n).toNat = n := by rw [BitVec.toNat_ofNat]; omega
  have c1 : ¬ 4294967296#64 ≤ BitVec.ofNat 64 n := by rw [BitVec.le_def, hn]; simp; omega
  have c2 : ¬ 65536#64 ≤ BitVec.ofNat 64 n := by rw [BitVec.le_def, hn]; simp; omega
  have c3 : ¬ 256#64 ≤ BitVec.ofNat 64 n := by rw [BitVec.le_def, hn]; simp; omega
  have hwu : IntKind.u8.wrap (n : Int) = (n : Int) := by
    rcases (show n = 1 ∨ n = 2 ∨ n = 3 ∨ n = 4 ∨ n = 5 ∨ n = 6 ∨ n = 7 ∨ n = 8 ∨ n = 9 ∨ n = 10 ∨ n = 11 ∨ n = 12 ∨ n = 13 ∨ n = 14 ∨ n = 15 ∨ n = 16 ∨ n = 17 ∨ n = 18 ∨ n = 19 ∨ n = 20 by omega) with rfl | rfl | rfl | rfl | rfl | rfl | rfl | rfl | rfl | rfl | rfl | rfl | rfl | rfl | rfl | rfl | rfl | rfl | rfl | rfl <;> decide
  have hcv : ∀ cx : Cx, convE Try.prog cx st 24 5 (wd (BitVec.ofNat 64 n)) = some (.int .u8 (n : Int), st) := fun cx => by
    have h := conv_int (P := Try.prog) (c := cx) (st := st) (src := 24) (dst := 5) (k' := .u64) (by rw [un24]; rfl) un5 ((BitVec.ofNat 64 n).toNat : Int)
    rw [hn, hwu] at h
    have e : wd (BitVec.ofNat 64 n) = .c (.int .u64 (n : Int)) := by unfold wd; rw [hn]
    rw [e]; exact h
  have hc2 : ∀ (cx : Cx) (K : Int), convE Try.prog cx st 5 3 (.int .u8 K) = some (.int .i64 (IntKind.i64.wrap K), st) := fun cx K => conv_int (by rw [un5]; rfl) un3 K
  have w1 : IntKind.i64.wrap 1 = 1 := by decide
  have w2 : IntKind.i64.wrap 2 = 2 := by decide
  have w3 : IntKind.i64.wrap 3 = 3 := by decide
  have w4 : IntKind.i64.wrap 4 = 4 := by decide
  have w5 : IntKind.i64.wrap 5 = 5 := by decide
  simp [evOp_call, sets, T.get_set, c1, c2, c3, hcv]
  rcases (show n = 1 ∨ n = 2 ∨ n = 3 ∨ n = 4 ∨ n = 5 ∨ n = 6 ∨ n = 7 ∨ n = 8 ∨ n = 9 ∨ n = 10 ∨ n = 11 ∨ n = 12 ∨ n = 13 ∨ n = 14 ∨ n = 15 ∨ n = 16 ∨ n = 17 ∨ n = 18 ∨ n = 19 ∨ n = 20 by omega) with rfl | rfl | rfl | rfl | rfl | rfl | rfl | rfl | rfl | rfl | rfl | rfl | rfl | rfl | rfl | rfl | rfl | rfl | rfl | rfl
  · refine ⟨(.int .u8 1, st), by kernel_rfl, ?_⟩
    simp [evOp_call, sets, T.get_set, hc2, w1]
  · refine ⟨(.int .u8 2, st), by kernel_rfl, ?_⟩
    simp [evOp_call, sets, T.get_set, hc2, w2]
  · refine ⟨(.int .u8 2, st), by kernel_rfl, ?_⟩
    simp [evOp_call, sets, T.get_set, hc2, w2]
  · refine ⟨(.int .u8 3, st), by kernel_rfl, ?_⟩
    simp [evOp_call, sets, T.get_set, hc2, w3]
  · refine ⟨(.int .u8 3, st), by kernel_rfl, ?_⟩
    simp [evOp_call, sets, T.get_set, hc2, w3]
  · refine ⟨(.int .u8 3, st), by kernel_rfl, ?_⟩
    simp [evOp_call, sets, T.get_set, hc2, w3]
  · refine ⟨(.int .u8 3, st), by kernel_rfl, ?_⟩
    simp [evOp_call, sets, T.get_set, hc2, w3]
  · refine ⟨(.int .u8 4, st), by kernel_rfl, ?_⟩
    simp [evOp_call, sets, T.get_set, hc2, w4]
  · refine ⟨(.int .u8 4, st), by kernel_rfl, ?_⟩
    simp [evOp_call, sets, T.get_set, hc2, w4]
  · refine ⟨(.int .u8 4, st), by kernel_rfl, ?_⟩
    simp [evOp_call, sets, T.get_set, hc2, w4]
  · refine ⟨(.int .u8 4, st), by kernel_rfl, ?_⟩
    simp [evOp_call, sets, T.get_set, hc2, w4]
  · refine ⟨(.int .u8 4, st), by kernel_rfl, ?_⟩
    simp [evOp_call, sets, T.get_set, hc2, w4]
  · refine ⟨(.int .u8 4, st), by kernel_rfl, ?_⟩
    simp [evOp_call, sets, T.get_set, hc2, w4]
  · refine ⟨(.int .u8 4, st), by kernel_rfl, ?_⟩
    simp [evOp_call, sets, T.get_set, hc2, w4]
  · refine ⟨(.int .u8 4, st), by kernel_rfl, ?_⟩
    simp [evOp_call, sets, T.get_set, hc2, w4]
  · refine ⟨(.int .u8 5, st), by kernel_rfl, ?_⟩
    simp [evOp_call, sets, T.get_set, hc2, w5]
  · refine ⟨(.int .u8 5, st), by kernel_rfl, ?_⟩
    simp [evOp_call, sets, T.get_set, hc2, w5]
  · refine ⟨(.int .u8 5, st), by kernel_rfl, ?_⟩
    simp [evOp_call, sets, T.get_set, hc2, w5]
  · refine ⟨(.int .u8 5, st), by kernel_rfl, ?_⟩
    simp [evOp_call, sets, T.get_set, hc2, w5]
  · refine ⟨(.int .u8 5, st), by kernel_rfl, ?_⟩
    simp [evOp_call, sets, T.get_set, hc2, w5]
set_option maxRecDepth 20000 in
set_option maxHeartbeats 8000000 in
theorem pdq_any (st : St) (y : V) (L : List Rn) (hy : RdRow st y 2 L.length (cells L)) (hu : Up L) (h1 : 1 ≤ L.length) (h2 : L.length ≤ 20) (w : Int) (hw : 1 ≤ w) (nt : Nat) :
    Gd (callL Try.prog ⟨false, [], 0, nt⟩ 186 [y, .int .i64 0, .int .i64 (L.length : Int), .int .i64 w, fA1] st) fun r => r.1 = .t [] ∧ Ext st.nx st r.2 := by
  rw [Gd_callL Try.func186 rfl]
  have w0 : IntKind.i64.wrap (L.length : Int) = (L.length : Int) := wrap_in (by omega) (by omega)
  simp [evOp_call, sets, T.get_set]
  refine Gd_loop (fun e s => e.get 0 = some y ∧ e.get 1 = some (.int .i64 0) ∧ e.get 2 = some (.int .i64 (L.length : Int)) ∧ e.get 3 = some (.int .i64 w) ∧ e.get 4 = some fA1 ∧ e.get 10 = some (.bool true) ∧ e.get 11 = some (.bool true) ∧ s = st) (fun e _ => 0) ?_ ?_
  · exact ⟨by simp [T.get_set], by simp [T.get_set], by simp [T.get_set], by simp [T.get_set], by simp [T.get_set], by simp [T.get_set], by simp [T.get_set], rfl⟩
  rintro e s ⟨g0, g1, g2, g3, g4, g10, g11, rfl⟩
  by_cases h12 : L.length ≤ 12
  · have h12' : (L.length : Int) ≤ 12 := by omega
    simp [evOp_call, T.get_set, g0, g1, g2, g3, g4, g10, g11, w0, h12, h12']
    refine Gd.mono (insUp_any s y L hy hu h1 (by omega) _) ?_
    rintro ⟨r, s1⟩ ⟨hr, e1⟩
    simp only at hr e1
    subst hr
    simp [evOp_call, T.get_set, sets]
    exact e1
  have h12' : ¬ (L.length : Int) ≤ 12 := by omega
  have hw0 : ¬ w = 0 := by omega
  simp [evOp_call, T.get_set, g0, g1, g2, g3, g4, g10, g11, w0, h12, h12', hw0]
  refine Gd.mono (pivot_any s y L hy hu (by omega) h2 _) ?_
  rintro ⟨r, s1⟩ ⟨⟨j, hj, hr⟩, e1⟩
  simp only at hr e1
  subst hr
  simp [evOp_call, T.get_set, g0, g1, g2, g3, g4, g10, g11, tupK]
  refine Gd.mono (partUp_any s1 y L (hy.ext e1) hu h1 (by omega) _) ?_
  rintro ⟨r, s2⟩ ⟨hr, e2⟩
  simp only at hr e2
  subst hr
  simp [evOp_call, T.get_set, sets]
  exact e1.trans (e2.mono e1.le)
set_option maxRecDepth 20000 in
theorem sortUp_any (st : St) (y : V) (L : List Rn) (hy : RdRow st y 2 L.length (cells L)) (hu : Up L) (h1 : 1 ≤ L.length) (h2 : L.length ≤ 20) (nt : Nat) :
    Gd (callL Try.prog ⟨false, [], 0, nt⟩ 139 [y, fA1] st) fun r => r.1 = .t [] ∧ Ext st.nx st r.2 := by
  rw [Gd_callL Try.func139 rfl]
  simp [evOp_call, sets, T.get_set, hy.lenS]
  refine Gd.mono (len_any st L.length h1 h2 _) ?_
  rintro ⟨r, s1⟩ ⟨⟨k, hk, hr⟩, e1⟩
  simp only at hr e1
  subst hr
  subst e1
  simp [evOp_call, sets, T.get_set]
  refine Gd.mono (pdq_any s1 y L hy hu h1 h2 k hk _) ?_
  rintro ⟨r, s2⟩ ⟨hr, e2⟩
  simp only at hr e2
  subst hr
  simp [evOp_call, sets, T.get_set]
  exact e2
end Go.Proofs.Ytdoennkmcloalaa

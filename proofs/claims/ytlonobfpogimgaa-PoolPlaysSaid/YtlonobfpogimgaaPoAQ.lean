/-
  PLAIN: PoA, PoB, PoC, PoD, PoE, PoF, PoG, PoH, PoI, PoJ, PoK, PoL, PoM, PoN, PoO, PoQ, in one text.
-/
import Derived.Test.YtlonobfpogimgaaSrIN
import Derived.Test.YtlonobfpogimgaaPbAI
import Derived.Test.YtlonobfpogimgaaEqS
set_option linter.unusedSimpArgs false
set_option linter.unusedVariables false
namespace Go.Proofs.Ytlonobfpogimgaa
open Go.RowKit Ev
/-! ### what compares -/
theorem nanI_any (c : Cx) (st : St) (a : Int) : Gd (callL Try.prog c 57 [.int .i64 a] st) fun r => r = (.bool false, st) := by
  rw [Gd_callL Try.func57 rfl]
  simp [evOp_call, sets, T.get_set]
def cmpI (a b : Int) : Int := if a < b then -1 else if b < a then 1 else 0
theorem cmpI_any (c : Cx) (st : St) (a b : Int) : Gd (callL Try.prog c 51 [.int .i64 a, .int .i64 b] st) fun r => r = (.int .i64 (cmpI a b), st) := by
  rw [Gd_callL Try.func51 rfl]
  simp [evOp_call, sets, T.get_set]
  refine Gd.mono (nanI_any _ st a) ?_
  rintro _ rfl
  simp [evOp_call, sets, T.get_set]
  refine Gd.mono (nanI_any _ st b) ?_
  rintro _ rfl
  unfold cmpI
  by_cases h1 : a < b
  · simp [evOp_call, sets, T.get_set, h1]
  · by_cases h2 : b < a
    · simp [evOp_call, sets, T.get_set, h1, h2]
    · simp [evOp_call, sets, T.get_set, h1, h2]
noncomputable abbrev fFrom : V := .f (.func 50) [] []
noncomputable abbrev fLen : V := .f (.func 45) [] []
def ltFrom (x y : El) : Prop := x.1 < y.1
def ltLen (x y : El) : Prop := y.2 < x.2
theorem from_cmp : CmpF fFrom ltFrom := by
  refine ⟨fun s a b nt => ?_, ⟨fun a b h => by unfold ltFrom at *; omega, fun a b d h1 h2 => by unfold ltFrom at *; omega⟩⟩
  rw [funK_f (by simp)]
  unfold elV
  rw [Gd_callL Try.func50 rfl]
  simp [evOp_call, sets, T.get_set, newC_is, cellsOf, loadE_eq, getC_eq]
  refine Gd.mono (cmpI_any _ _ a.1 b.1) ?_
  rintro _ rfl
  simp [evOp_call, sets, T.get_set]
  refine ⟨?_, ((Ext.refl _ _).new (Nat.le_refl _) _).new (Nat.le_succ _) _⟩
  unfold cmpI ltFrom
  split
  · simp_all
  · split <;> omega
theorem len_cmp : CmpF fLen ltLen := by
  refine ⟨fun s a b nt => ?_, ⟨fun a b h => by unfold ltLen at *; omega, fun a b d h1 h2 => by unfold ltLen at *; omega⟩⟩
  rw [funK_f (by simp)]
  unfold elV
  rw [Gd_callL Try.func45 rfl]
  have h1 := a.hb
  have h2 := b.hb
  have w : IntKind.i64.wrap (b.2 - a.2) = b.2 - a.2 := wrapI (by omega) (by omega)
  simp [evOp_call, sets, T.get_set, newC_is, cellsOf, loadE_eq, getC_eq, w]
  refine ⟨?_, ((Ext.refl _ _).new (Nat.le_refl _) _).new (Nat.le_succ _) _⟩
  unfold ltLen
  omega
/-! ### rows of runs -/
theorem perm_of_sub : ∀ (l m : List Nat), l.Nodup → (∀ a ∈ l, a ∈ m) → m.length ≤ l.length → l.Perm m
  | [], m, _, _, h => by
    have : m = [] := List.eq_nil_of_length_eq_zero (by simpa using h)
    subst this; exact List.Perm.refl _
  | a :: t, m, hn, hs, hl => by
    have ha := hs a (List.mem_cons_self ..)
    obtain ⟨n1, n2⟩ := List.nodup_cons.1 hn
    have hp := List.perm_cons_erase ha
    refine List.Perm.trans (List.Perm.cons a (perm_of_sub t (m.erase a) n2 (fun b hb => ?_) ?_)) hp.symm
    · exact (List.mem_erase_of_ne (fun e : b = a => n1 (by rw [← e]; exact hb))).2 (hs b (List.mem_cons_of_mem _ hb))
    · rw [List.length_erase_of_mem ha]
      simp only [List.length_cons] at hl
      omega
def okEl (K : List Rn) : Prop := ∀ r ∈ K, (0 ≤ r.1 ∧ r.1 ≤ 1073741824) ∧ (0 ≤ r.2 ∧ r.2 ≤ 1073741824)
def mkEl (r : Rn) : El := if h : (0 ≤ r.1 ∧ r.1 ≤ 1073741824) ∧ (0 ≤ r.2 ∧ r.2 ≤ 1073741824) then ⟨r.1, r.2, h.1, h.2⟩ else ⟨0, 0, by decide, by decide⟩
theorem mkEl_ok {r : Rn} (h : (0 ≤ r.1 ∧ r.1 ≤ 1073741824) ∧ (0 ≤ r.2 ∧ r.2 ≤ 1073741824)) : (mkEl r).1 = r.1 ∧ (mkEl r).2 = r.2 := by
  unfold mkEl; rw [dif_pos h]; exact ⟨rfl, rfl⟩
def rowD (K : List Rn) (i : Nat) : El := mkEl (K.getD i (0, 0))
def backR (x : El) : Rn := (x.1, x.2)
def listD (D : Nat → El) (n : Nat) : List Rn := (List.range n).map fun i => backR (D i)
theorem listD_length (D : Nat → El) (n : Nat) : (listD D n).length = n := by simp [listD]
theorem listD_row {K : List Rn} (h : okEl K) : listD (rowD K) K.length = K := by
  refine List.ext_getElem (by simp [listD]) fun i h1 h2 => ?_
  have e : K.getD i (0, 0) = K[i] := by rw [List.getD_eq_getElem?_getD, List.getElem?_eq_getElem h2]; rfl
  have := mkEl_ok (h K[i] (List.getElem_mem h2))
  simp only [listD, List.getElem_map, List.getElem_range, rowD, e, backR]
  rw [this.1, this.2]
theorem listD_perm {K : List Rn} (h : okEl K) {D' : Nat → El} (k : PmD (rowD K) 0 K.length D') : (listD D' K.length).Perm K := by
  obtain ⟨σ, k1, k2⟩ := k
  have e1 : listD D' K.length = ((List.range K.length).map σ).map fun i => backR (rowD K i) := by
    simp [listD, List.map_map, Function.comp_def, k2]
  have e2 : ((List.range K.length).map σ).Perm (List.range K.length) := by
    refine perm_of_sub _ _ ?_ (fun a ha => ?_) (by simp)
    · exact List.pairwise_map.2 (List.nodup_range.imp fun hne e => hne (k1.inj _ _ e))
    · obtain ⟨i, hi, rfl⟩ := List.mem_map.1 ha
      exact List.mem_range.2 (k1.ins (Nat.zero_le _) (List.mem_range.1 hi)).2
  rw [e1]
  have e3 := e2.map fun i => backR (rowD K i)
  have e4 : (List.range K.length).map (fun i => backR (rowD K i)) = K := listD_row h
  rw [e4] at e3
  exact e3
theorem listD_sorted {lt : El → El → Prop} {D : Nat → El} {n : Nat} (h : Srt lt D 0 n) {R : Rn → Rn → Prop} (hR : ∀ x y : El, ¬ lt y x → R (backR x) (backR y)) : (listD D n).Pairwise R :=
  List.pairwise_map.2 (List.Pairwise.imp_of_mem (fun {a b} ha hb hab => hR _ _ (h a b (Nat.zero_le _) hab (List.mem_range.1 hb))) List.pairwise_lt_range)
theorem listD_at {D : Nat → El} {n i : Nat} (h : i < n) : (listD D n)[i]? = some (backR (D i)) := by
  simp [listD, List.getElem?_map, List.getElem?_range h]
theorem own_rowB {b : Nat} {st : St} {x : V} {K : List Rn} (h : OwnRow b st x 2 K.length (cells K)) (hK : okEl K) (h0 : 0 < K.length) : ∃ m, x = .sg m 0 K.length 2 ∧ b ≤ m ∧ RowB st m K.length (rowD K) := by
  obtain ⟨_, ⟨_, h1⟩ | ⟨m, ty, t, rfl, h2, h3, h4, h5, h6⟩⟩ := h
  · omega
  refine ⟨m, rfl, h2, h3, ty, t, h4, h5, fun j hj => ?_⟩
  have e : K.getD j (0, 0) = K[j] := by rw [List.getD_eq_getElem?_getD, List.getElem?_eq_getElem hj]; rfl
  have hk := mkEl_ok (hK K[j] (List.getElem_mem hj))
  have hc := cells_get K j _ (List.getElem?_eq_getElem hj)
  unfold ElAt rowD
  rw [e, hk.1, hk.2]
  exact ⟨h6 _ _ hc.1, h6 _ _ hc.2⟩
theorem rowB_own {b : Nat} {s : St} {m n : Nat} {D : Nat → El} (h : RowB s m n D) (hb : b ≤ m) : OwnRow b s (.sg m 0 n 2) 2 n (cells (listD D n)) := by
  obtain ⟨h1, ty, t, h2, h3, h4⟩ := h
  refine ⟨by rw [cells_length, listD_length], .inr ⟨m, ty, t, rfl, hb, h1, h2, h3, fun j v hj => ?_⟩⟩
  have hl : j < n * 2 := by
    have := (List.getElem?_eq_some_iff.1 hj).1
    rw [cells_length, listD_length] at this
    exact this
  have hc := cells_get (listD D n) (j / 2) _ (listD_at (by omega))
  have he := h4 (j / 2) (by omega)
  unfold ElAt at he
  rcases (show j = j / 2 * 2 + 0 ∨ j = j / 2 * 2 + 1 by omega) with e | e
  · rw [e] at hj ⊢
    rw [hc.1] at hj
    injection hj with hj
    subst hj
    exact he.1
  · rw [e] at hj ⊢
    rw [hc.2] at hj
    injection hj with hj
    subst hj
    exact he.2
theorem Keep.toExt {b m : Nat} {st s : St} (h : Keep st m s) (hb : b ≤ m) (hm : m < st.nx) : Ext b st s := ⟨h.le, h.wf, fun n hn => h.get n (by omega) (by omega)⟩
def soR (b : Nat) (st : St) (x : V) (K : List Rn) (R : Rn → Rn → Prop) (r : V × St) : Prop := r.1 = .t [] ∧ ∃ K', K'.Perm K ∧ K'.Pairwise R ∧ OwnRow b r.2 x 2 K.length (cells K') ∧ Ext b st r.2
set_option maxRecDepth 20000 in
theorem sortFrom_any (b : Nat) (st : St) (x : V) (K : List Rn) (hx : OwnRow b st x 2 K.length (cells K)) (hb : b ≤ st.nx) (hK : okEl K) (hn : K.length ≤ 1000000000) (nt : Nat) :
    Gd (callL Try.prog ⟨false, [], 0, nt⟩ 49 [x, fFrom] st) (soR b st x K fun p q => p.1 ≤ q.1) := by
  by_cases h1 : K.length ≤ 1
  · refine Gd.mono (sortF1_any st x fFrom K hx.rd h1 nt) ?_
    rintro _ rfl
    refine ⟨rfl, K, List.Perm.refl _, ?_, hx, Ext.refl _ _⟩
    match K, h1 with
    | [], _ => exact List.Pairwise.nil
    | [r], _ => exact List.pairwise_singleton _ _
  obtain ⟨m, rfl, hbm, hR⟩ := own_rowB hx hK (by omega)
  refine Gd.mono (sort_any from_cmp st m K.length (rowD K) hR hn nt) ?_
  rintro ⟨r, s1⟩ ⟨hr, D2, ho, hs⟩
  simp only at hr ho
  exact ⟨hr, listD D2 K.length, listD_perm hK ho.pm, listD_sorted hs (fun x y h => by unfold ltFrom at h; unfold backR; simp only; omega), rowB_own ho.row hbm, ho.keep.toExt hbm hR.1⟩
set_option maxRecDepth 20000 in
theorem sortLen_any (b : Nat) (st : St) (x : V) (K : List Rn) (hx : OwnRow b st x 2 K.length (cells K)) (hb : b ≤ st.nx) (hK : okEl K) (hn : K.length < 20) (nt : Nat) :
    Gd (callL Try.prog ⟨false, [], 0, nt⟩ 44 [x, fLen] st) (soR b st x K fun p q => q.2 ≤ p.2) := by
  by_cases h1 : K.length ≤ 1
  · refine Gd.mono (sortS1_any st x fLen K hx.rd h1 nt) ?_
    rintro _ rfl
    refine ⟨rfl, K, List.Perm.refl _, ?_, hx, Ext.refl _ _⟩
    match K, h1 with
    | [], _ => exact List.Pairwise.nil
    | [r], _ => exact List.pairwise_singleton _ _
  obtain ⟨m, rfl, hbm, hR⟩ := own_rowB hx hK (by omega)
  refine Gd.mono (sortSN_any len_cmp st m K.length (rowD K) hR hn nt) ?_
  rintro ⟨r, s1⟩ ⟨hr, D2, ho, hs⟩
  simp only at hr ho
  exact ⟨hr, listD D2 K.length, listD_perm hK ho.pm, listD_sorted hs (fun x y h => by unfold ltLen at h; unfold backR; simp only; omega), rowB_own ho.row hbm, ho.keep.toExt hbm hR.1⟩
end Go.Proofs.Ytlonobfpogimgaa
set_option linter.unusedSimpArgs false
set_option linter.unusedVariables false
namespace Go.Proofs.Ytlonobfpogimgaa
open Go.RowKit Ev
def Dis (p q : Rn) : Prop := p.1 + p.2 ≤ q.1 ∨ q.1 + q.2 ≤ p.1
theorem Dis.symm {p q : Rn} (h : Dis p q) : Dis q p := Or.symm h
theorem adj_pair : ∀ (K : List Rn), K.Pairwise (fun p q => p.1 ≤ q.1) → (∀ (j : Nat) a b, K[j]? = some a → K[j + 1]? = some b → a.1 + a.2 ≤ b.1) → K.Pairwise Dis
  | [], _, _ => List.Pairwise.nil
  | [a], _, _ => List.pairwise_singleton _ _
  | a :: b :: t, hs, h => by
    have h0 := h 0 a b rfl rfl
    obtain ⟨_, s2⟩ := List.pairwise_cons.1 hs
    obtain ⟨s3, _⟩ := List.pairwise_cons.1 s2
    refine List.pairwise_cons.2 ⟨fun q hq => ?_, adj_pair (b :: t) s2 fun j x y hx hy => h (j + 1) x y (by simpa using hx) (by simpa using hy)⟩
    rcases List.mem_cons.1 hq with rfl | hq
    · exact .inl h0
    · exact .inl (by have := s3 q hq; omega)
theorem pair_at {K : List Rn} {R : Rn → Rn → Prop} (h : K.Pairwise R) {i j : Nat} {a b : Rn} (hij : i < j) (ha : K[i]? = some a) (hb : K[j]? = some b) : R a b := by
  obtain ⟨h1, rfl⟩ := List.getElem?_eq_some_iff.1 ha
  obtain ⟨h2, rfl⟩ := List.getElem?_eq_some_iff.1 hb
  exact List.pairwise_iff_getElem.1 h i j h1 h2 hij
def apI (c : V) (s0 : St) (K : List Rn) (e : Env) (s : St) : Prop := ∃ i : Nat, 1 ≤ i ∧ (i ≤ K.length ∨ i = 1) ∧ e.get 3 = some c ∧ e.get 4 = some (.int .i64 (i : Int)) ∧ s = s0 ∧ ∀ (j : Nat) a b, j + 1 < i → K[j]? = some a → K[j + 1]? = some b → a.1 + a.2 ≤ b.1
def apR (K : List Rn) (st : St) (r : V × St) : Prop := ∃ b : Bool, r.1 = .bool b ∧ (b = true ↔ (K.filter cnt).Pairwise Dis) ∧ Ext st.nx st r.2
theorem cnt_ok {K : List Rn} : ∀ r ∈ K.filter cnt, (0 ≤ r.1 ∧ r.1 ≤ 1073741824) ∧ (1 ≤ r.2 ∧ r.2 ≤ 1073741824) := fun r hr => by
  have := (List.mem_filter.1 hr).2
  unfold cnt at this
  simp at this
  omega
set_option maxRecDepth 20000 in
set_option maxHeartbeats 4000000 in
theorem apart_any (st : St) (x : V) (K : List Rn) (hx : RdRow st x 2 K.length (cells K)) (hK : K.length ≤ 1000000000) (nt : Nat) : Gd (callL Try.prog ⟨false, [], 0, nt⟩ 38 [x] st) (apR K st) := by
  rw [Gd_callL Try.func38 rfl]
  simp [evOp_call, sets, T.get_set]
  refine Gd.mono (counted_any st x K _ hx (by omega)) ?_
  rintro ⟨c, s1⟩ ⟨hcr, e1⟩
  simp only at hcr e1
  have hok := cnt_ok (K := K)
  have hfl := List.length_filter_le cnt K
  unfold apR
  generalize K.filter cnt = C at hcr hok hfl ⊢
  simp [evOp_call, sets, T.get_set]
  refine Gd.mono (sortFrom_any st.nx s1 c C hcr e1.le (fun r hr => by have := hok r hr; omega) (by omega) _) ?_
  rintro ⟨r, s2⟩ ⟨hr, C', hp, hs, hc2, e2⟩
  simp only at hr hc2 e2
  subst hr
  have hl' := hp.length_eq
  have hok' : ∀ r ∈ C', (0 ≤ r.1 ∧ r.1 ≤ 1073741824) ∧ (1 ≤ r.2 ∧ r.2 ≤ 1073741824) := fun r hr => hok r (hp.mem_iff.1 hr)
  have hpw : C'.Pairwise Dis ↔ C.Pairwise Dis := hp.pairwise_iff (fun h => Dis.symm h)
  rw [← hpw]
  rw [← hl'] at hc2 hfl
  have e12 := e1.trans e2
  clear hcr hok hp hl' hpw e1 e2
  simp [evOp_call, sets, T.get_set]
  refine Gd_loop (apI c s2 C') (fun e _ => muAt 4 C'.length e) ?_ ?_
  · exact ⟨1, Nat.le_refl _, .inr rfl, by simp [T.get_set], by simp [T.get_set], rfl, fun j a b hj => by omega⟩
  rintro e s ⟨i, h1, h2, g3, g4, rfl, ha⟩
  by_cases hi : i < C'.length
  case neg =>
    have hi' : ¬ (i : Int) < (C'.length : Int) := by omega
    simp [evOp_call, T.get_set, g3, g4, hc2.rd.lenS, hi, hi', sets]
    exact ⟨adj_pair C' hs fun j a b p q => ha j a b (by have := (List.getElem?_eq_some_iff.1 q).1; omega) p q, e12⟩
  have hi' : (i : Int) < (C'.length : Int) := by omega
  obtain ⟨k0, rfl⟩ : ∃ k0, i = k0 + 1 := ⟨i - 1, by omega⟩
  obtain ⟨p, hpk⟩ : ∃ p, C'[k0]? = some p := ⟨_, List.getElem?_eq_getElem (by omega)⟩
  obtain ⟨q, hqk⟩ : ∃ q, C'[k0 + 1]? = some q := ⟨_, List.getElem?_eq_getElem hi⟩
  obtain ⟨ma, oa, ta, za, tra, hida, hma, hga, hoa, hca⟩ := hc2.rd.idx (st := s) un38 io52 (i := k0) (by omega)
  obtain ⟨mb, ob, tb, zb, trb, hidb, hmb, hgb, hob, hcb⟩ := hc2.rd.idx (st := s) un38 io52 hi
  have ca := cells_get C' k0 _ hpk
  have cb := cells_get C' (k0 + 1) _ hqk
  have a0 : tra.get oa = some (.int .i64 p.1) := hca 0 _ (by omega) ca.1
  have a1 : tra.get (oa + 1) = some (.int .i64 p.2) := hca 1 _ (by omega) ca.2
  have b0 : trb.get ob = some (.int .i64 q.1) := hcb 0 _ (by omega) cb.1
  have hpo := hok' p (List.mem_of_getElem? hpk)
  have hqo := hok' q (List.mem_of_getElem? hqk)
  have hpq := pair_at hs (Nat.lt_succ_self k0) hpk hqk
  have wm : IntKind.i64.wrap (((k0 + 1 : Nat) : Int) - 1) = (k0 : Int) := by rw [wrapI (by omega) (by omega)]; omega
  have wi : IntKind.i64.wrap (((k0 + 1 : Nat) : Int) + 1) = ((k0 + 1 + 1 : Nat) : Int) := by rw [wrapI (by omega) (by omega)]; omega
  have ws : IntKind.i64.wrap (p.1 + p.2) = p.1 + p.2 := wrapI (by omega) (by omega)
  simp [evOp_call, T.get_set, g3, g4, hc2.rd.lenS, hi, hi', -Int.natCast_add]
  refine ⟨by kernel_rfl, ?_⟩
  by_cases hlt : q.1 < p.1 + p.2
  · simp [evOp_call, T.get_set, g3, g4, wm, wi, ws, hida, hidb, loadE_eq, getC_eq, hga, hgb, a0, a1, b0, hlt, sets, -Int.natCast_add]
    refine ⟨fun h => ?_, e12⟩
    rcases pair_at h (Nat.lt_succ_self k0) hpk hqk with h | h <;> omega
  · simp [evOp_call, T.get_set, g3, g4, wm, wi, ws, hida, hidb, loadE_eq, getC_eq, hga, hgb, a0, a1, b0, hlt, sets, -Int.natCast_add]
    refine ⟨⟨k0 + 1 + 1, by omega, .inl (by omega), by simp [T.get_set, g3], by simp [T.get_set], rfl, fun j a b hj x y => ?_⟩, muAt_lt g4 (by simp [T.get_set]) hi⟩
    by_cases e : j = k0
    · subst e
      rw [hpk] at x; rw [hqk] at y
      injection x with x; injection y with y
      subst x; subst y
      omega
    · exact ha j a b (by omega) x y
end Go.Proofs.Ytlonobfpogimgaa
set_option linter.unusedSimpArgs false
set_option linter.unusedVariables false
namespace Go.Proofs.Ytlonobfpogimgaa
open Go.RowKit Ev
/-- none touches the one behind it -/
def NoT (K : List Rn) : Prop := ∀ (j : Nat) a b, K[j]? = some a → K[j + 1]? = some b → a.1 + a.2 ≠ b.1
def mgNI (st : St) (c : V) (K : List Rn) (e : Env) (s : St) : Prop := ∃ (j : Nat) (y : V), j ≤ K.length ∧ e.get 8 = some c ∧ e.get 9 = some (.int .i64 (K.length : Int)) ∧ e.get 10 = some (.int .i64 (j : Int)) ∧ e.get 3 = some y ∧ Ext st.nx st s ∧ OwnRow st.nx s y 2 j (cells (K.take j))
theorem take_snoc {K : List Rn} {j : Nat} {r : Rn} (h : K[j]? = some r) : K.take (j + 1) = K.take j ++ [r] := by
  rw [List.take_add_one, h]; rfl
set_option maxRecDepth 20000 in
set_option maxHeartbeats 4000000 in
theorem mergeN_any (st : St) (x : V) (K : List Rn) (hx : RdRow st x 2 K.length (cells K)) (hK : K.length ≤ 1000000) (hc : K.filter cnt = K) (hnt : NoT K) (nt : Nat) : Gd (callL Try.prog ⟨false, [], 0, nt⟩ 54 [x] st) (gapR st K) := by
  rw [Gd_callL Try.func54 rfl]
  have w01 : IntKind.i64.wrap (-1) = -1 := by decide
  have hok : ∀ r ∈ K, (0 ≤ r.1 ∧ r.1 ≤ 1073741824) ∧ (1 ≤ r.2 ∧ r.2 ≤ 1073741824) := fun r hr => cnt_ok r (by rw [hc]; exact hr)
  simp [evOp_call, sets, T.get_set]
  refine Gd.mono (counted_any st x K _ hx (by omega)) ?_
  rintro ⟨c, s1⟩ ⟨hcr, e1⟩
  simp only at hcr e1
  rw [hc] at hcr
  simp [evOp_call, sets, T.get_set, hcr.rd.lenS]
  refine Gd_loop (mgNI s1 c K) (fun e _ => muAt 10 K.length e) ?_ ?_
  · exact ⟨0, _, Nat.zero_le _, by simp [T.get_set], by simp [T.get_set], by simp [T.get_set], by simp [T.get_set], Ext.refl _ _, OwnRow.nil _ _ _⟩
  rintro e s ⟨j, y, hj, g8, g9, g10, g3, hs, hy⟩
  have hcs := hcr.rd.ext hs
  by_cases hlt : j < K.length
  case neg =>
    obtain rfl : j = K.length := by omega
    rw [List.take_length] at hy
    simp [evOp_call, T.get_set, g8, g9, g10, g3, sets]
    exact ⟨ownLow hy e1.le, e1.trans (hs.mono e1.le)⟩
  have hlt' : (j : Int) < (K.length : Int) := by omega
  have hwj : IntKind.i64.wrap ((j : Int) + 1) = ((j + 1 : Nat) : Int) := by rw [wrapI (by omega) (by omega)]; omega
  obtain ⟨⟨F, N⟩, hr⟩ : ∃ r, K[j]? = some r := ⟨_, List.getElem?_eq_getElem hlt⟩
  obtain ⟨m1, o1, ty1, sz1, tr1, i1, b1, k1, l1, c1⟩ := hcs.idx (st := s) un38 io52 hlt
  have hcl := cells_get K j _ hr
  have d0 : tr1.get o1 = some (.int .i64 F) := c1 0 _ (by omega) hcl.1
  have d1 : tr1.get (o1 + 1) = some (.int .i64 N) := c1 1 _ (by omega) hcl.2
  have hne : ¬ s.nx = m1 := by omega
  have hb := hs.le
  have hx2 : ∀ v w, Ext s.nx s ⟨s.nx + 1 + 1, (s.h.set s.nx v).set (s.nx + 1) w⟩ := fun v w => ((Ext.refl _ _).new (Nat.le_refl _) v).new (Nat.le_succ _) w
  by_cases h0 : j = 0
  · subst h0
    have hln : ∀ s' : St, lenS s' y = some (.int .i64 0, s') := fun s' => hy.rd.lenS s'
    simp [evOp_call, T.get_set, g8, g9, g10, g3, hlt, hlt', i1, loadE_eq, getC_eq, getsB_succ, getsB_zero, k1, d0, d1, newC_is, storeK_g, putB_eq, roT, sets, w01, hln, hne]
    refine ⟨by kernel_rfl, ?_⟩
    refine evOp_build1 (v := .g [.int .i64 F, .int .i64 N]) (cs := [.int .i64 F, .int .i64 N]) (fun k => el38 k) (fun k => ze52 k) rfl (by omega) (by simp [T.get_set]) (fun k => rfl) rfl ?_
    simp [evOp_call, T.get_set, g8, g9, g10, g3, -Int.natCast_add]
    refine Gd_append un38 un38 io52 (n := 0) (lx := 1) (new := [.int .i64 F, .int .i64 N]) (hy.ext (hx2 _ _)) (by show s1.nx ≤ s.nx + 1 + 1; omega) (by decide) (fun s' h => by cases h) (fun k => rfl) (fun k => by simp [getC_eq, getsB_2, T.get_set, sets]) rfl (by omega) ?_
    intro y' s4 hy' x4 _ _
    have w11 : IntKind.i64.wrap 1 = 1 := by decide
    have hs4 : Ext s1.nx s s4 := ((hx2 _ _).mono hb).trans x4
    simp [evOp_call, T.get_set, g8, g9, g10, g3, hwj, w11, -Int.natCast_add]
    refine ⟨⟨0 + 1, y', by omega, by simp [T.get_set, g8], by simp [T.get_set, g9], by simp [T.get_set, w11], by simp [T.get_set], hs.trans hs4, ?_⟩, muAt_lt g10 (by simp [T.get_set, w11]) hlt⟩
    rw [take_snoc hr, cells_append]
    exact hy'
  obtain ⟨k0, rfl⟩ : ∃ k0, j = k0 + 1 := ⟨j - 1, by omega⟩
  have hln : ∀ s' : St, lenS s' y = some (.int .i64 ((k0 + 1 : Nat) : Int), s') := fun s' => hy.rd.lenS s'
  have wm : IntKind.i64.wrap (((k0 + 1 : Nat) : Int) - 1) = (k0 : Int) := by rw [wrapI (by omega) (by omega)]; omega
  obtain ⟨p, hpk⟩ : ∃ p, K[k0]? = some p := ⟨_, List.getElem?_eq_getElem (by omega)⟩
  have hpo := hok p (List.mem_of_getElem? hpk)
  have hnp := hnt k0 p _ hpk hr
  simp only at hnp
  obtain ⟨m2, o2, ty2, sz2, tr2, i2, b2, k2, l2, c2⟩ := hy.rd.idx (st := s) un38 io52 (i := k0) (by omega)
  have hcl2 := cells_get (K.take (k0 + 1)) k0 p (by rw [List.getElem?_take]; simp [hpk])
  have f0 : tr2.get o2 = some (.int .i64 p.1) := c2 0 _ (by omega) hcl2.1
  have f1 : tr2.get (o2 + 1) = some (.int .i64 p.2) := c2 1 _ (by omega) hcl2.2
  have ws : IntKind.i64.wrap (p.1 + p.2) = p.1 + p.2 := wrapI (by omega) (by omega)
  have hne2 : ¬ s.nx = m2 := by omega
  have hk0 : (0 : Int) ≤ (k0 : Int) := by omega
  simp [evOp_call, T.get_set, g8, g9, g10, g3, hlt, hlt', i1, loadE_eq, getC_eq, getsB_succ, getsB_zero, k1, d0, d1, newC_is, storeK_g, putB_eq, roT, sets, wm, hln, hne, hk0, -Int.natCast_add]
  refine ⟨by kernel_rfl, ?_⟩
  simp [evOp_call, T.get_set, g8, g9, g10, g3, i1, i2, loadE_eq, getC_eq, getsB_succ, getsB_zero, k1, k2, f0, f1, hne2, ws, hnp, sets, -Int.natCast_add]
  refine evOp_build1 (v := .g [.int .i64 F, .int .i64 N]) (cs := [.int .i64 F, .int .i64 N]) (fun k => el38 k) (fun k => ze52 k) rfl (by omega) (by simp [T.get_set]) (fun k => rfl) rfl ?_
  simp [evOp_call, T.get_set, g8, g9, g10, g3, -Int.natCast_add]
  refine Gd_append un38 un38 io52 (n := (k0 + 1)) (lx := 1) (new := [.int .i64 F, .int .i64 N]) (hy.ext (hx2 _ _)) (by show s1.nx ≤ s.nx + 1 + 1; omega) (by decide) (fun s' h => by cases h) (fun k => rfl) (fun k => by simp [getC_eq, getsB_2, T.get_set, sets]) rfl (by omega) ?_
  intro y' s4 hy' x4 _ _
  have w11 : IntKind.i64.wrap 1 = 1 := by decide
  have hs4 : Ext s1.nx s s4 := ((hx2 _ _).mono hb).trans x4
  simp [evOp_call, T.get_set, g8, g9, g10, g3, hwj, w11, -Int.natCast_add]
  refine ⟨⟨(k0 + 1) + 1, y', by omega, by simp [T.get_set, g8], by simp [T.get_set, g9], by simp [T.get_set, w11], by simp [T.get_set], hs.trans hs4, ?_⟩, muAt_lt g10 (by simp [T.get_set, w11]) hlt⟩
  rw [take_snoc hr, cells_append]
  exact hy'
/-- all gaps from a block on -/
def gapsP (L : List (BitVec 64)) (e : Nat) : List Rn → Nat → Prop
  | [], f => nextB L false (f : Int) (e : Int) = none
  | r :: K, f => ∃ a b : Nat, r = ((a : Int), (b : Int) - (a : Int)) ∧ nextB L false (f : Int) (e : Int) = some a ∧ f ≤ a ∧ a < b ∧ b ≤ e ∧ (nextB L true (a : Int) (e : Int) = some b ∨ (nextB L true (a : Int) (e : Int) = none ∧ b = e)) ∧ gapsP L e K b
def gpI (st : St) (q m : Nat) (g : Gm) (z : V) (L : List (BitVec 64)) (e : Nat) (K : List Rn) (en : Env) (s : St) : Prop := ∃ (f : Nat) (y : V) (K1 K2 : List Rn), K = K1 ++ K2 ∧ f ≤ e ∧ gapsP L e K2 f ∧ en.get 0 = some (.p q 0) ∧ en.get 5 = some (.int .i64 (e : Int)) ∧ en.get 4 = some (.int .i64 (f : Int)) ∧ en.get 3 = some y ∧ Ext st.nx st s ∧ OwnRow st.nx s y 2 K1.length (cells K1)
set_option maxRecDepth 20000 in
set_option maxHeartbeats 4000000 in
theorem gapsA_any (st : St) (q m : Nat) (g : Gm) (z : V) (L : List (BitVec 64)) (hg : isGood g) (hp : PoolAt st q g z m L) (hm : m ≤ 100000) (f e : Nat) (hf : dF g = (f : Int)) (he : dF g + dN g = (e : Int)) (hfe : f < e) (he2 : e ≤ 100000) (K : List Rn) (hKl : K.length ≤ 100000) (hK : gapsP L e K f) (nt : Nat) :
    Gd (callL Try.prog ⟨false, [], 0, nt⟩ 39 [.p q 0] st) (gapR st K) := by
  rw [Gd_callL Try.func39 rfl]
  simp [evOp_call, sets, T.get_set]
  refine Gd.mono (pdata_any st q m g z L hg hp _) ?_
  rintro ⟨r, s1⟩ ⟨hr1, x1⟩
  simp only at hr1 x1
  subst hr1
  rw [he, hf]
  simp [tupK, evOp_call, sets, T.get_set]
  refine Gd_loop (gpI st q m g z L e K) (fun en _ => muAt 4 e en) ?_ ?_
  · exact ⟨f, _, [], K, rfl, by omega, hK, by simp [T.get_set], by simp [T.get_set], by simp [T.get_set], by simp [T.get_set], x1, OwnRow.nil _ _ _⟩
  clear hK hfe hf f
  rintro en s ⟨f, y, K1, K2, rfl, hfe, hK, g0, g5, g4, g3, hx, hy⟩
  have hpp := hp.ext hx
  have hpp0 := hpp
  have g4e := g4
  obtain ⟨hq, ⟨t, ht, t0, t1, t2, t3, t4⟩, hr⟩ := hpp
  have hLm : L.length = m := by have := hr.1; simpa using this
  have hrL : RdRow s z 1 L.length (wv L) := by rw [hLm]; exact hr
  simp [evOp_call, T.get_set, g0, g3, g4, g5, loadE_eq, getC_eq, ht, t0, t1, t2, t3, t4, getsB_succ, getsB_zero]
  refine Gd.mono (next_any s z L hrL (by omega) false (f : Int) (e : Int) (by omega) _) ?_
  rintro ⟨r, s2⟩ ⟨hr2, x2⟩
  simp only at hr2 x2
  subst hr2
  have hb := hx.le
  have hb2 := x2.le
  cases K2 with
  | nil =>
    unfold gapsP at hK
    rw [hK]
    simp [nextV, tupK, evOp_call, T.get_set, g0, g3, g4, g5]
    have hy2 := hy.ext x2
    exact ⟨by simpa using hy2, hx.trans (x2.mono hb)⟩
  | cons r K2 =>
    obtain ⟨a, b, rfl, hn1, h1, h2, h3, hn2, hK2⟩ := hK
    rw [hn1]
    have ht2 := (x2.keep _ hq).trans ht
    simp [nextV, tupK, evOp_call, T.get_set, g0, g3, g4, g5, loadE_eq, getC_eq, ht2, t4, getsB_succ, getsB_zero]
    refine Gd.mono (next_any s2 z L (hrL.ext x2) (by omega) true (a : Int) (e : Int) (by omega) _) ?_
    rintro ⟨r, s3⟩ ⟨hr3, x3⟩
    simp only at hr3 x3
    subst hr3
    have hb3 := x3.le
    have w1 : IntKind.i64.wrap ((b : Int) - (a : Int)) = (b : Int) - (a : Int) := wrap_in (by omega) (by omega)
    rcases hn2 with hn2 | ⟨hn2, rfl⟩
    · rw [hn2]
      simp [nextV, tupK, evOp_call, T.get_set, g0, g3, g4, g5, w1]
      refine evOp_build1 (v := .g [.int .i64 (a : Int), .int .i64 ((b : Int) - (a : Int))]) (cs := [.int .i64 (a : Int), .int .i64 ((b : Int) - (a : Int))]) (fun k => el38 k) (fun k => ze52 k) rfl (by omega) (by simp [T.get_set]) (fun k => rfl) rfl ?_
      simp [evOp_call, T.get_set, g0, g3, g4, g5]
      refine Gd_append un38 un38 io52 (n := K1.length) (lx := 1) (new := [.int .i64 (a : Int), .int .i64 ((b : Int) - (a : Int))]) (((hy.ext x2).ext x3).ext ((Ext.refl _ _).new (Nat.le_refl _) _)) (by show st.nx ≤ s3.nx + 1; omega) (by decide) (fun s' h => by cases h) (fun k => rfl) (fun k => by simp [getC_eq, getsB_2, T.get_set, sets]) rfl (by simp at hKl; omega) ?_
      intro y' s4 hy' x4 hkp _
      have hx3 : Ext st.nx st s3 := (hx.trans (x2.mono hb)).trans (x3.mono (by omega))
      have hx4 : Ext st.nx st s4 := (hx3.new hx3.le _).trans x4
      simp [evOp_call, T.get_set, g0, g3, g4, g5]
      refine ⟨⟨b, y', K1 ++ [((a : Int), (b : Int) - (a : Int))], K2, by simp, h3, hK2, by simp [T.get_set, g0], by simp [T.get_set, g5], by simp [T.get_set], by simp [T.get_set], hx4, ?_⟩, by rw [muAt_eq g4e, muAt_eq (k := (b : Int)) (i := .i64) (by simp [T.get_set])]; omega⟩
      rw [cells_append, List.length_append]
      exact hy'
    · rw [hn2]
      simp [nextV, tupK, evOp_call, T.get_set, g0, g3, g4, g5, w1]
      refine evOp_build1 (v := .g [.int .i64 (a : Int), .int .i64 ((b : Int) - (a : Int))]) (cs := [.int .i64 (a : Int), .int .i64 ((b : Int) - (a : Int))]) (fun k => el38 k) (fun k => ze52 k) rfl (by omega) (by simp [T.get_set]) (fun k => rfl) rfl ?_
      simp [evOp_call, T.get_set, g0, g3, g4, g5]
      refine Gd_append un38 un38 io52 (n := K1.length) (lx := 1) (new := [.int .i64 (a : Int), .int .i64 ((b : Int) - (a : Int))]) (((hy.ext x2).ext x3).ext ((Ext.refl _ _).new (Nat.le_refl _) _)) (by show st.nx ≤ s3.nx + 1; omega) (by decide) (fun s' h => by cases h) (fun k => rfl) (fun k => by simp [getC_eq, getsB_2, T.get_set, sets]) rfl (by simp at hKl; omega) ?_
      intro y' s4 hy' x4 hkp _
      have hx3 : Ext st.nx st s3 := (hx.trans (x2.mono hb)).trans (x3.mono (by omega))
      have hx4 : Ext st.nx st s4 := (hx3.new hx3.le _).trans x4
      simp [evOp_call, T.get_set, g0, g3, g4, g5]
      refine ⟨⟨b, y', K1 ++ [((a : Int), (b : Int) - (a : Int))], K2, by simp, h3, hK2, by simp [T.get_set, g0], by simp [T.get_set, g5], by simp [T.get_set], by simp [T.get_set], hx4, ?_⟩, by rw [muAt_eq g4e, muAt_eq (k := (b : Int)) (i := .i64) (by simp [T.get_set])]; omega⟩
      rw [cells_append, List.length_append]
      exact hy'
end Go.Proofs.Ytlonobfpogimgaa
set_option linter.unusedSimpArgs false
set_option linter.unusedVariables false
namespace Go.Proofs.Ytlonobfpogimgaa
open Go.RowKit Ev
def spS (σ : List Rn × List Rn × Int) (r : Rn) : List Rn × List Rn × Int :=
  if r.2 ≤ σ.2.2 then (σ.1 ++ [r], σ.2.1, σ.2.2 - r.2) else if 0 < σ.2.2 then (σ.1 ++ [(r.1, σ.2.2)], σ.2.1 ++ [(r.1 + σ.2.2, r.2 - σ.2.2)], 0) else (σ.1, σ.2.1 ++ [r], σ.2.2)
def splF (K : List Rn) (i : Int) : List Rn × List Rn × Int := K.foldl spS ([], [], i)
def offV (x y : V) : Prop := ∀ m, (∃ o l, x = .sg m o l 2) → ∀ o' l', y ≠ .sg m o' l' 2
theorem Ev.OwnRow.kept {b z n : Nat} {s s' : St} {y : V} {l : List V} (h : OwnRow b s y z n l) (hn : s.nx ≤ s'.nx) (k : ∀ m, (∃ o ln, y = .sg m o ln z) → m < s.nx → s'.h.get m = s.h.get m) : OwnRow b s' y z n l := by
  obtain ⟨h1, h2 | ⟨m, ty, t, rfl, h3, h4, h5, h6⟩⟩ := h
  · exact ⟨h1, .inl h2⟩
  · exact ⟨h1, .inr ⟨m, ty, t, rfl, h3, by omega, (k m ⟨_, _, rfl⟩ h4).trans h5, h6⟩⟩
theorem Ev.OwnRow.lt {b z n m o ln : Nat} {s : St} {y : V} {l : List V} (h : OwnRow b s y z n l) (e : y = .sg m o ln z) : m < s.nx := by
  obtain ⟨h1, ⟨h2, _⟩ | ⟨m', ty, t, h2, h3, h4, h5, h6⟩⟩ := h
  · rw [h2] at e; cases e
  · rw [h2] at e; injection e with e; omega
theorem offV.new {b n : Nat} {s : St} {x x' y : V} {l : List V} (h : offV x y) (hy : OwnRow b s y 2 n l) (hx : x' = x ∨ ∃ ln, x' = .sg s.nx 0 ln 2) : offV x' y := by
  rcases hx with rfl | ⟨ln, rfl⟩
  · exact h
  · rintro m ⟨o, l', e⟩ o' l2 e2
    injection e with e
    have := hy.lt e2
    omega
theorem offV.symm {x y : V} (h : offV x y) : offV y x := fun m ⟨o, l, e⟩ o' l' e' => h m ⟨o', l', e'⟩ o l e
def spGI (s1 : St) (c : V) (K : List Rn) (i0 : Int) (e : Env) (s : St) : Prop := ∃ (j : Nat) (ya yb : V) (A B : List Rn) (i : Int), j ≤ K.length ∧ (K.take j).foldl spS ([], [], i0) = (A, B, i) ∧ 0 ≤ i ∧ i ≤ i0 ∧ A.length ≤ j ∧ B.length ≤ j ∧ e.get 10 = some c ∧ e.get 11 = some (.int .i64 (K.length : Int)) ∧ e.get 12 = some (.int .i64 (j : Int)) ∧ e.get 1 = some (.int .i64 i) ∧ e.get 4 = some ya ∧ e.get 5 = some yb ∧ Ext s1.nx s1 s ∧ OwnRow s1.nx s ya 2 A.length (cells A) ∧ OwnRow s1.nx s yb 2 B.length (cells B) ∧ offV ya yb
def splR (st : St) (K : List Rn) (i : Int) (r : V × St) : Prop := ∃ ya yb, r.1 = .t [ya, yb] ∧ OwnRow st.nx r.2 ya 2 (splF K i).1.length (cells (splF K i).1) ∧ OwnRow st.nx r.2 yb 2 (splF K i).2.1.length (cells (splF K i).2.1) ∧ Ext st.nx st r.2
set_option maxRecDepth 20000 in
set_option maxHeartbeats 8000000 in
theorem splitG_any (st : St) (x : V) (K : List Rn) (hx : RdRow st x 2 K.length (cells K)) (hK : K.length ≤ 1000000) (hc : K.filter cnt = K) (i0 : Int) (hi0 : 0 ≤ i0 ∧ i0 ≤ 9223372036854775807) (nt : Nat) : Gd (callL Try.prog ⟨false, [], 0, nt⟩ 53 [x, .int .i64 i0] st) (splR st K i0) := by
  rw [Gd_callL Try.func53 rfl]
  have hok : ∀ r ∈ K, (0 ≤ r.1 ∧ r.1 ≤ 1073741824) ∧ (1 ≤ r.2 ∧ r.2 ≤ 1073741824) := fun r hr => cnt_ok r (by rw [hc]; exact hr)
  simp [evOp_call, sets, T.get_set]
  refine Gd.mono (counted_any st x K _ hx (by omega)) ?_
  rintro ⟨c, s1⟩ ⟨hcr, e1⟩
  simp only at hcr e1
  rw [hc] at hcr
  simp [evOp_call, sets, T.get_set, hcr.rd.lenS]
  refine Gd_loop (spGI s1 c K i0) (fun e _ => muAt 12 K.length e) ?_ ?_
  · exact ⟨0, _, _, [], [], i0, Nat.zero_le _, rfl, hi0.1, Int.le_refl _, Nat.le_refl _, Nat.le_refl _, by simp [T.get_set], by simp [T.get_set], by simp [T.get_set], by simp [T.get_set], by simp [T.get_set], by simp [T.get_set], Ext.refl _ _, OwnRow.nil _ _ _, OwnRow.nil _ _ _, fun m h => by obtain ⟨o, l, e⟩ := h; cases e⟩
  rintro e s ⟨j, ya, yb, A, B, i, hj, hS, hi1, hi2, hA, hB, g10, g11, g12, g1, g4, g5, hs, hya, hyb, hof⟩
  by_cases hlt : j < K.length
  case neg =>
    obtain rfl : j = K.length := by omega
    rw [List.take_length] at hS
    have hSF : splF K i0 = (A, B, i) := hS
    simp [evOp_call, T.get_set, g10, g11, g12, g1, g4, g5, sets]
    unfold splR
    rw [hSF]
    exact ⟨ya, yb, rfl, ownLow hya e1.le, ownLow hyb e1.le, e1.trans (hs.mono e1.le)⟩
  have hlt' : (j : Int) < (K.length : Int) := by omega
  have hwj : IntKind.i64.wrap ((j : Int) + 1) = ((j + 1 : Nat) : Int) := by rw [wrapI (by omega) (by omega)]; omega
  obtain ⟨⟨F, N⟩, hr⟩ : ∃ r, K[j]? = some r := ⟨_, List.getElem?_eq_getElem hlt⟩
  have hro := hok _ (List.mem_of_getElem? hr)
  simp only at hro
  have hS1 : (K.take (j + 1)).foldl spS ([], [], i0) = spS (A, B, i) (F, N) := by rw [take_snoc hr, List.foldl_append, hS]; rfl
  have hcs := hcr.rd.ext hs
  obtain ⟨m1, o1, ty1, sz1, tr1, i1, b1, k1, l1, c1⟩ := hcs.idx (st := s) un38 io52 hlt
  have hcl := cells_get K j _ hr
  have d0 : tr1.get o1 = some (.int .i64 F) := c1 0 _ (by omega) hcl.1
  have d1 : tr1.get (o1 + 1) = some (.int .i64 N) := c1 1 _ (by omega) hcl.2
  have hne : ¬ s.nx = m1 := by omega
  have hb := hs.le
  have hx1 : ∀ v, Ext s.nx s ⟨s.nx + 1, s.h.set s.nx v⟩ := fun v => (Ext.refl _ _).new (Nat.le_refl _) v
  have hx2 : ∀ v w, Ext s.nx s ⟨s.nx + 1 + 1, (s.h.set s.nx v).set (s.nx + 1) w⟩ := fun v w => ((Ext.refl _ _).new (Nat.le_refl _) v).new (Nat.le_succ _) w
  by_cases p1 : N ≤ i
  · have q1 : (if i < N then i else N) = N := by split <;> omega
    have q2 : (if N < i then N else i) = N := by split <;> omega
    have q3 : (if N > 0 then N else 0) = N := if_pos (by omega)
    have q4 : (0 : Int) < N := by omega
    have wi : IntKind.i64.wrap (i - N) = i - N := wrapI (by omega) (by omega)
    have hS2 : spS (A, B, i) (F, N) = (A ++ [(F, N)], B, i - N) := by unfold spS; rw [if_pos p1]
    rw [hS2] at hS1
    simp [evOp_call, T.get_set, g10, g11, g12, g1, g4, g5, hlt, hlt', i1, loadE_eq, getC_eq, getsB_succ, getsB_zero, k1, d0, d1, newC_is, storeK_g, putB_eq, roT, sets, hne, evOp_min, evOp_max, min_i64, max_i64, q1, q2, q3, q4, -Int.natCast_add]
    refine evOp_build1 (v := .g [.int .i64 F, .int .i64 N]) (cs := [.int .i64 F, .int .i64 N]) (fun k => el38 k) (fun k => ze52 k) rfl (by omega) (by simp [T.get_set]) (fun k => rfl) rfl ?_
    simp [evOp_call, T.get_set, g10, g11, g12, g1, g4, g5, -Int.natCast_add]
    refine Gd_append un38 un38 io52 (n := A.length) (lx := 1) (new := [.int .i64 F, .int .i64 N]) (hya.ext (hx2 _ _)) (by show s1.nx ≤ s.nx + 1 + 1; omega) (by decide) (fun s' h => by cases h) (fun k => rfl) (fun k => by simp [getC_eq, getsB_2, T.get_set, sets]) rfl (by omega) ?_
    intro y' s4 hy' x4 hkp hor
    have hs4 : Ext s1.nx s1 s4 := (hs.trans ((hx2 _ _).mono hb)).trans x4
    have hyb4 : OwnRow s1.nx s4 yb 2 B.length (cells B) := (hyb.ext (hx2 _ _)).kept x4.le (fun m hm hlt => hkp m hlt (fun o ln e => hof.symm m hm o ln e))
    have hof4 : offV y' yb := offV.new (s := ⟨s.nx + 1 + 1, (s.h.set s.nx _).set (s.nx + 1) _⟩) hof (hyb.ext (hx2 _ _)) hor
    have q5 : ¬ s.nx + 1 = s.nx := by omega
    have kq : ∃ t, s4.h.get s.nx = some (.cs 52 2 t) ∧ t.get 1 = some (.int .i64 N) := ⟨_, (hkp s.nx (by show s.nx < s.nx + 1 + 1; omega) (fun o ln e => by have := hya.lt e; omega)).trans ((T.get_set_ne _ _ q5).trans (T.get_set_same _ _ _)), by simp [T.get_set]⟩
    obtain ⟨tq, kq, eq⟩ := kq
    simp [evOp_call, T.get_set, g10, g11, g12, g1, g4, g5, wi, hwj, loadE_eq, getC_eq, kq, eq, -Int.natCast_add]
    refine ⟨⟨j + 1, y', yb, A ++ [(F, N)], B, i - N, by omega, hS1, by omega, by omega, by simp; omega, by omega, by simp [T.get_set, g10], by simp [T.get_set, g11], by simp [T.get_set], by simp [T.get_set], by simp [T.get_set], by simp [T.get_set, g5], hs4, ?_, hyb4, hof4⟩, muAt_lt g12 (by simp [T.get_set]) hlt⟩
    rw [cells_append, List.length_append]
    exact hy'
  by_cases p2 : 0 < i
  · have q1 : (if i < N then i else N) = i := by split <;> omega
    have q2 : (if N < i then N else i) = i := by split <;> omega
    have q3 : (if i > 0 then i else 0) = i := if_pos (by omega)
    have q4 : (0 : Int) < i := by omega
    have q6 : i < N := by omega
    have wi : IntKind.i64.wrap 0 = 0 := by decide
    have wF : IntKind.i64.wrap (F + i) = F + i := wrapI (by omega) (by omega)
    have wN : IntKind.i64.wrap (N - i) = N - i := wrapI (by omega) (by omega)
    have hS2 : spS (A, B, i) (F, N) = (A ++ [(F, i)], B ++ [(F + i, N - i)], 0) := by unfold spS; rw [if_neg p1, if_pos p2]
    rw [hS2] at hS1
    simp [evOp_call, T.get_set, g10, g11, g12, g1, g4, g5, hlt, hlt', i1, loadE_eq, getC_eq, getsB_succ, getsB_zero, k1, d0, d1, newC_is, storeK_g, putB_eq, roT, sets, hne, evOp_min, evOp_max, min_i64, max_i64, q1, q2, q3, q4, -Int.natCast_add]
    refine evOp_build1 (v := .g [.int .i64 F, .int .i64 i]) (cs := [.int .i64 F, .int .i64 i]) (fun k => el38 k) (fun k => ze52 k) rfl (by omega) (by simp [T.get_set]) (fun k => rfl) rfl ?_
    simp [evOp_call, T.get_set, g10, g11, g12, g1, g4, g5, -Int.natCast_add]
    refine Gd_append un38 un38 io52 (n := A.length) (lx := 1) (new := [.int .i64 F, .int .i64 i]) (hya.ext (hx2 _ _)) (by show s1.nx ≤ s.nx + 1 + 1; omega) (by decide) (fun s' h => by cases h) (fun k => rfl) (fun k => by simp [getC_eq, getsB_2, T.get_set, sets]) rfl (by omega) ?_
    intro y' s4 hy' x4 hkp hor
    have hs4 : Ext s1.nx s1 s4 := (hs.trans ((hx2 _ _).mono hb)).trans x4
    have hyb4 : OwnRow s1.nx s4 yb 2 B.length (cells B) := (hyb.ext (hx2 _ _)).kept x4.le (fun m hm hlt => hkp m hlt (fun o ln e => hof.symm m hm o ln e))
    have hof4 : offV y' yb := offV.new (s := ⟨s.nx + 1 + 1, (s.h.set s.nx _).set (s.nx + 1) _⟩) hof (hyb.ext (hx2 _ _)) hor
    have q5 : ¬ s.nx + 1 = s.nx := by omega
    have kq : ∃ t, s4.h.get s.nx = some (.cs 52 2 t) ∧ t.get 0 = some (.int .i64 F) ∧ t.get 1 = some (.int .i64 N) := ⟨_, (hkp s.nx (by show s.nx < s.nx + 1 + 1; omega) (fun o ln e => by have := hya.lt e; omega)).trans ((T.get_set_ne _ _ q5).trans (T.get_set_same _ _ _)), by simp [T.get_set], by simp [T.get_set]⟩
    obtain ⟨tq, kq, eq0, eq⟩ := kq
    simp [evOp_call, T.get_set, g10, g11, g12, g1, g4, g5, wF, wN, q6, loadE_eq, getC_eq, kq, eq, eq0, -Int.natCast_add]
    refine evOp_build1 (v := .g [.int .i64 (F + i), .int .i64 (N - i)]) (cs := [.int .i64 (F + i), .int .i64 (N - i)]) (fun k => el38 k) (fun k => ze52 k) rfl (by omega) (by simp [T.get_set]) (fun k => rfl) rfl ?_
    simp [evOp_call, T.get_set, g10, g11, g12, g1, g4, g5, -Int.natCast_add]
    have hn4 : ∀ v, Ext s4.nx s4 ⟨s4.nx + 1, s4.h.set s4.nx v⟩ := fun v => (Ext.refl _ _).new (Nat.le_refl _) v
    have hb4 : s1.nx ≤ s4.nx := hs4.le
    refine Gd_append un38 un38 io52 (n := B.length) (lx := 1) (new := [.int .i64 (F + i), .int .i64 (N - i)]) (hyb4.ext (hn4 _)) (by show s1.nx ≤ s4.nx + 1; omega) (by decide) (fun s' h => by cases h) (fun k => rfl) (fun k => by simp [getC_eq, getsB_2, T.get_set, sets]) rfl (by omega) ?_
    intro y2 s5 hy2 x5 hkp2 hor2
    have hs5 : Ext s1.nx s1 s5 := (hs4.new hb4 _).trans x5
    have hy5 : OwnRow s1.nx s5 y' 2 (A.length + 1) _ := (hy'.ext (hn4 _)).kept x5.le (fun m hm hlt => hkp2 m hlt (fun o ln e => hof4 m hm o ln e))
    have hof5 : offV y' y2 := offV.symm (offV.new (s := ⟨s4.nx + 1, s4.h.set s4.nx _⟩) (offV.symm hof4) (hy'.ext (hn4 _)) hor2)
    simp [evOp_call, T.get_set, g10, g11, g12, g1, g4, g5, wi, hwj, -Int.natCast_add]
    refine ⟨⟨j + 1, y', y2, A ++ [(F, i)], B ++ [(F + i, N - i)], 0, by omega, hS1, by omega, by omega, by simp; omega, by simp; omega, by simp [T.get_set, g10], by simp [T.get_set, g11], by simp [T.get_set], by simp [T.get_set], by simp [T.get_set], by simp [T.get_set], hs5, ?_, ?_, hof5⟩, muAt_lt g12 (by simp [T.get_set]) hlt⟩
    · rw [cells_append, List.length_append]
      exact hy5
    · rw [cells_append, List.length_append]
      exact hy2
  · obtain rfl : i = 0 := by omega
    have q1 : (if (0 : Int) < N then (0 : Int) else N) = 0 := if_pos (by omega)
    have q2 : (if N < (0 : Int) then N else 0) = 0 := if_neg (by omega)
    have q4 : (0 : Int) < N := by omega
    have q3 : ¬ (0 : Int) < 0 := by omega
    have wi : IntKind.i64.wrap 0 = 0 := by decide
    have wF : IntKind.i64.wrap F = F := wrapI (by omega) (by omega)
    have wN : IntKind.i64.wrap N = N := wrapI (by omega) (by omega)
    have hS2 : spS (A, B, 0) (F, N) = (A, B ++ [(F, N)], 0) := by unfold spS; rw [if_neg p1, if_neg p2]
    rw [hS2] at hS1
    simp [evOp_call, T.get_set, g10, g11, g12, g1, g4, g5, hlt, hlt', i1, loadE_eq, getC_eq, getsB_succ, getsB_zero, k1, d0, d1, newC_is, storeK_g, putB_eq, roT, sets, hne, evOp_min, evOp_max, min_i64, max_i64, q1, q2, q3, q4, wF, wN, -Int.natCast_add]
    refine evOp_build1 (v := .g [.int .i64 F, .int .i64 N]) (cs := [.int .i64 F, .int .i64 N]) (fun k => el38 k) (fun k => ze52 k) rfl (by omega) (by simp [T.get_set]) (fun k => rfl) rfl ?_
    simp [evOp_call, T.get_set, g10, g11, g12, g1, g4, g5, -Int.natCast_add]
    refine Gd_append un38 un38 io52 (n := B.length) (lx := 1) (new := [.int .i64 F, .int .i64 N]) (hyb.ext (hx2 _ _)) (by show s1.nx ≤ s.nx + 1 + 1; omega) (by decide) (fun s' h => by cases h) (fun k => rfl) (fun k => by simp [getC_eq, getsB_2, T.get_set, sets]) rfl (by omega) ?_
    intro y' s4 hy' x4 hkp hor
    have hs4 : Ext s1.nx s1 s4 := (hs.trans ((hx2 _ _).mono hb)).trans x4
    have hya4 : OwnRow s1.nx s4 ya 2 A.length (cells A) := (hya.ext (hx2 _ _)).kept x4.le (fun m hm hlt => hkp m hlt (fun o ln e => hof m hm o ln e))
    have hof4 : offV ya y' := offV.symm (offV.new (s := ⟨s.nx + 1 + 1, (s.h.set s.nx _).set (s.nx + 1) _⟩) (offV.symm hof) (hya.ext (hx2 _ _)) hor)
    simp [evOp_call, T.get_set, g10, g11, g12, g1, g4, g5, wi, hwj, -Int.natCast_add]
    refine ⟨⟨j + 1, ya, y', A, B ++ [(F, N)], 0, by omega, hS1, by omega, by omega, by omega, by simp; omega, by simp [T.get_set, g10], by simp [T.get_set, g11], by simp [T.get_set], by simp [T.get_set], by simp [T.get_set, g4], by simp [T.get_set], hs4, hya4, ?_, hof4⟩, muAt_lt g12 (by simp [T.get_set]) hlt⟩
    rw [cells_append, List.length_append]
    exact hy'
end Go.Proofs.Ytlonobfpogimgaa
set_option linter.unusedSimpArgs false
set_option linter.unusedVariables false
namespace Go.Proofs.Ytlonobfpogimgaa
open Go.RowKit Ev
theorem nextF_some {p : Nat → Bool} : ∀ {n i a : Nat}, nextF p n i = some a → i ≤ a ∧ a < i + n ∧ p a = true ∧ ∀ j, i ≤ j → j < a → p j = false
  | 0, i, a, h => by simp [nextF] at h
  | n + 1, i, a, h => by
    unfold nextF at h
    by_cases hp : p i = true
    · rw [if_pos hp] at h
      injection h with h
      subst h
      exact ⟨Nat.le_refl _, by omega, hp, fun j h1 h2 => by omega⟩
    · rw [if_neg hp] at h
      obtain ⟨h1, h2, h3, h4⟩ := nextF_some h
      refine ⟨by omega, by omega, h3, fun j j1 j2 => ?_⟩
      by_cases e : j = i
      · subst e; simpa using hp
      · exact h4 j (by omega) j2
theorem nextF_none {p : Nat → Bool} : ∀ {n i : Nat}, nextF p n i = none → ∀ j, i ≤ j → j < i + n → p j = false
  | 0, i, h => fun j h1 h2 => by omega
  | n + 1, i, h => fun j h1 h2 => by
    unfold nextF at h
    by_cases hp : p i = true
    · rw [if_pos hp] at h; cases h
    · rw [if_neg hp] at h
      by_cases e : j = i
      · subst e; simpa using hp
      · exact nextF_none h j (by omega) (by omega)
theorem nextB_nat (L : List (BitVec 64)) (yes : Bool) {f e : Nat} (hfe : f ≤ e) (he : e ≤ L.length * 64) : nextB L yes (f : Int) (e : Int) = nextF (fun i => bit L i == yes) (e - f) f := by
  have h1 : fromB (f : Int) = (f : Int) := by unfold fromB; split <;> omega
  have h2 : endB L (e : Int) = (e : Int) := by unfold endB; rw [if_neg (by omega)]
  unfold nextB
  rw [h1, h2]
  congr 1
  · omega
theorem nextB_some {L : List (BitVec 64)} {yes : Bool} {f e a : Nat} (hfe : f ≤ e) (he : e ≤ L.length * 64) (h : nextB L yes (f : Int) (e : Int) = some a) : f ≤ a ∧ a < e ∧ bit L a = yes ∧ ∀ j, f ≤ j → j < a → bit L j = !yes := by
  rw [nextB_nat L yes hfe he] at h
  obtain ⟨h1, h2, h3, h4⟩ := nextF_some h
  refine ⟨h1, by omega, by simpa using h3, fun j j1 j2 => ?_⟩
  have := h4 j j1 j2
  cases hb : bit L j <;> cases yes <;> simp_all
theorem nextB_none {L : List (BitVec 64)} {yes : Bool} {f e : Nat} (hfe : f ≤ e) (he : e ≤ L.length * 64) (h : nextB L yes (f : Int) (e : Int) = none) : ∀ j, f ≤ j → j < e → bit L j = !yes := by
  rw [nextB_nat L yes hfe he] at h
  intro j j1 j2
  have := nextF_none h j j1 (by omega)
  cases hb : bit L j <;> cases yes <;> simp_all
theorem gapsP_ex (L : List (BitVec 64)) (e : Nat) (he : e ≤ L.length * 64) : ∀ (n f : Nat), e - f ≤ n → f ≤ e → ∃ K, gapsP L e K f ∧ K.length ≤ e - f
  | n, f, hn, hfe => by
    cases h1 : nextB L false (f : Int) (e : Int) with
    | none => exact ⟨[], h1, by simp⟩
    | some a =>
      obtain ⟨a1, a2, a3, a4⟩ := nextB_some hfe he h1
      match n, hn with
      | 0, hn => omega
      | n + 1, hn =>
        cases h2 : nextB L true (a : Int) (e : Int) with
        | none =>
          obtain ⟨K, k1, k2⟩ := gapsP_ex L e he n e (by omega) (Nat.le_refl _)
          exact ⟨_ :: K, ⟨a, e, rfl, h1, a1, a2, Nat.le_refl _, .inr ⟨h2, rfl⟩, k1⟩, by simp only [List.length_cons]; omega⟩
        | some b =>
          obtain ⟨b1, b2, b3, b4⟩ := nextB_some (by omega) he h2
          have hab : a < b := by
            rcases Nat.lt_or_ge a b with h | h
            · exact h
            · obtain rfl : a = b := by omega
              rw [a3] at b3; cases b3
          obtain ⟨K, k1, k2⟩ := gapsP_ex L e he n b (by omega) (by omega)
          exact ⟨_ :: K, ⟨a, b, rfl, h1, a1, hab, by omega, .inl h2, k1⟩, by simp only [List.length_cons]; omega⟩
/-- a gap: free, and as long as it can be -/
structure Gap (L : List (BitVec 64)) (f e : Nat) (r : Rn) : Prop where
  lo : (f : Int) ≤ r.1
  one : 1 ≤ r.2
  hi : r.1 + r.2 ≤ (e : Int)
  free : ∀ j : Nat, r.1 ≤ (j : Int) → (j : Int) < r.1 + r.2 → bit L j = false
  stop : r.1 + r.2 = (e : Int) ∨ ∃ j : Nat, (j : Int) = r.1 + r.2 ∧ bit L j = true
theorem gapsP_all {L : List (BitVec 64)} {e : Nat} (he : e ≤ L.length * 64) : ∀ {K : List Rn} {f : Nat}, f ≤ e → gapsP L e K f → (∀ r ∈ K, Gap L f e r) ∧ K.Pairwise (fun p q => p.1 + p.2 < q.1) ∧ ∀ j : Nat, f ≤ j → j < e → bit L j = false → ∃ r ∈ K, r.1 ≤ (j : Int) ∧ (j : Int) < r.1 + r.2
  | [], f, hfe, h => by
    refine ⟨fun r hr => (by cases hr), List.Pairwise.nil, fun j j1 j2 hj => ?_⟩
    have h' := nextB_none hfe he h j j1 j2
    rw [hj] at h'; cases h'
  | r :: K, f, hfe, h => by
    obtain ⟨a, b, rfl, h1, h2, h3, h4, h5, h6⟩ := h
    obtain ⟨a1, a2, a3, a4⟩ := nextB_some hfe he h1
    obtain ⟨k1, k2, k3⟩ := gapsP_all he (by omega) h6
    have fr : ∀ j : Nat, a ≤ j → j < b → bit L j = false := fun j j1 j2 => by
      rcases h5 with h5 | ⟨h5, rfl⟩
      · exact (nextB_some (by omega) he h5).2.2.2 j j1 j2
      · exact nextB_none (by omega) he h5 j j1 (by omega)
    have st : b = e ∨ bit L b = true := by
      rcases h5 with h5 | ⟨h5, rfl⟩
      · exact .inr (nextB_some (by omega) he h5).2.2.1
      · exact .inl rfl
    refine ⟨fun q hq => ?_, List.pairwise_cons.2 ⟨fun q hq => ?_, k2⟩, fun j j1 j2 hj => ?_⟩
    · rcases List.mem_cons.1 hq with rfl | hq
      · refine ⟨by simp only; omega, by simp only; omega, by simp only; omega, fun j j1 j2 => fr j (by simp only at j1; omega) (by simp only at j2; omega), ?_⟩
        rcases st with rfl | st
        · exact .inl (by simp only; omega)
        · exact .inr ⟨b, by simp only; omega, st⟩
      · obtain ⟨g1, g2, g3, g4, g5⟩ := k1 q hq
        exact ⟨by omega, g2, g3, g4, g5⟩
    · obtain ⟨g1, g2, g3, g4, g5⟩ := k1 q hq
      simp only
      rcases st with rfl | st
      · omega
      · by_cases hx : q.1 = (b : Int)
        · have := g4 b (by omega) (by omega)
          rw [st] at this; cases this
        · omega
    · by_cases c1 : j < b
      · by_cases c2 : a ≤ j
        · exact ⟨_, List.mem_cons_self .., by simp only; omega, by simp only; omega⟩
        · have := a4 j j1 (by omega)
          rw [hj] at this; cases this
      · obtain ⟨q, q1, q2, q3⟩ := k3 j (by omega) j2 hj
        exact ⟨q, List.mem_cons_of_mem _ q1, q2, q3⟩
/-! ### what is cut -/
theorem lens_cons (r : Rn) (K : List Rn) : lens (r :: K) = r.2 + lens K := by simp [lens]
theorem lens_nil : lens [] = 0 := rfl
theorem lens_app (A B : List Rn) : lens (A ++ B) = lens A + lens B := by simp [lens]
theorem lens_perm {A B : List Rn} (h : A.Perm B) : lens A = lens B := by
  induction h with
  | nil => rfl
  | cons x _ ih => rw [lens_cons, lens_cons, ih]
  | swap x y l => simp only [lens_cons]; omega
  | trans _ _ ih1 ih2 => rw [ih1, ih2]
theorem spl_zero : ∀ (K : List Rn) (A B : List Rn), (∀ r ∈ K, 1 ≤ r.2) → K.foldl spS (A, B, 0) = (A, B ++ K, 0)
  | [], A, B, _ => by simp
  | r :: K, A, B, h => by
    have h1 := h r (List.mem_cons_self ..)
    have e : spS (A, B, 0) r = (A, B ++ [r], 0) := by unfold spS; rw [if_neg (by simp only; omega), if_neg (by simp)]
    rw [List.foldl_cons, e, spl_zero K A (B ++ [r]) fun q hq => h q (List.mem_cons_of_mem _ hq)]
    simp
theorem spl_shape : ∀ (K A : List Rn) (i : Int), 0 ≤ i → (∀ r ∈ K, 1 ≤ r.2) →
    (∃ P S i', K = P ++ S ∧ K.foldl spS (A, [], i) = (A ++ P, S, i') ∧ lens P + i' = i ∧ 0 ≤ i' ∧ (S ≠ [] → i' = 0)) ∨
    (∃ P F N S i', K = P ++ (F, N) :: S ∧ K.foldl spS (A, [], i) = (A ++ P ++ [(F, i')], (F + i', N - i') :: S, 0) ∧ 0 < i' ∧ i' < N ∧ lens P + i' = i)
  | [], A, i, hi, _ => .inl ⟨[], [], i, rfl, by simp, by simp [lens_nil], hi, fun h => absurd rfl h⟩
  | (F, N) :: K, A, i, hi, h => by
    have hN := h (F, N) (List.mem_cons_self ..)
    have hK : ∀ r ∈ K, 1 ≤ r.2 := fun q hq => h q (List.mem_cons_of_mem _ hq)
    simp only at hN
    by_cases c1 : N ≤ i
    · have e : spS (A, [], i) (F, N) = (A ++ [(F, N)], [], i - N) := by unfold spS; rw [if_pos c1]
      rw [List.foldl_cons, e]
      rcases spl_shape K (A ++ [(F, N)]) (i - N) (by omega) hK with ⟨P, S, i', k1, k2, k3, k4, k5⟩ | ⟨P, F', N', S, i', k1, k2, k3, k4, k5⟩
      · exact .inl ⟨(F, N) :: P, S, i', by rw [k1]; rfl, by rw [k2]; simp, by rw [lens_cons]; simp only; omega, k4, k5⟩
      · exact .inr ⟨(F, N) :: P, F', N', S, i', by rw [k1]; rfl, by rw [k2]; simp, k3, k4, by rw [lens_cons]; simp only; omega⟩
    · by_cases c2 : 0 < i
      · have e : spS (A, [], i) (F, N) = (A ++ [(F, i)], [(F + i, N - i)], 0) := by unfold spS; rw [if_neg c1, if_pos c2]; rfl
        rw [List.foldl_cons, e, spl_zero K _ _ hK]
        exact .inr ⟨[], F, N, K, i, rfl, by simp, c2, by omega, by simp [lens_nil]⟩
      · obtain rfl : i = 0 := by omega
        rw [spl_zero ((F, N) :: K) A [] h]
        exact .inl ⟨[], (F, N) :: K, 0, rfl, by simp, by simp [lens_nil], Int.le_refl _, fun _ => rfl⟩
end Go.Proofs.Ytlonobfpogimgaa
set_option linter.unusedSimpArgs false
set_option linter.unusedVariables false
namespace Go.Proofs.Ytlonobfpogimgaa
open Go.RowKit Ev
def okB (K : List Rn) : Prop := ∀ r ∈ K, 0 ≤ r.1 ∧ 1 ≤ r.2 ∧ r.1 + r.2 ≤ 100000
theorem okB.cnt {K : List Rn} (h : okB K) : K.filter cnt = K := List.filter_eq_self.2 fun r hr => by
  have := h r hr
  unfold Proofs.Ytlonobfpogimgaa.cnt
  simp
  omega
theorem okB.el {K : List Rn} (h : okB K) : okEl K := fun r hr => by have := h r hr; omega
def Sep (p q : Rn) : Prop := p.1 + p.2 ≠ q.1 ∧ q.1 + q.2 ≠ p.1
theorem noT_of {K : List Rn} (h : K.Pairwise fun p q => p.1 + p.2 ≠ q.1) : NoT K := fun j a b ha hb => pair_at h (Nat.lt_succ_self j) ha hb
theorem cut_ok {K : List Rn} (hK : okB K) (hs : K.Pairwise Sep) {i : Int} (hi : 0 ≤ i) : okB (splF K i).1 ∧ okB (splF K i).2.1 ∧ NoT (splF K i).1 ∧ NoT (splF K i).2.1 ∧ (splF K i).1.length ≤ K.length ∧ (splF K i).2.1.length ≤ K.length ∧ lens (splF K i).1 ≤ i := by
  unfold splF
  have one : ∀ r ∈ K, 1 ≤ r.2 := fun r hr => (hK r hr).2.1
  rcases spl_shape K [] i hi one with ⟨P, S, i', rfl, k2, k3, k4, k5⟩ | ⟨P, F, N, S, i', rfl, k2, k3, k4, k5⟩
  · rw [k2]
    obtain ⟨s1, s2, s3⟩ := List.pairwise_append.1 hs
    simp only [List.nil_append]
    exact ⟨fun r hr => hK r (List.mem_append_left _ hr), fun r hr => hK r (List.mem_append_right _ hr), noT_of (s1.imp fun h => h.1), noT_of (s2.imp fun h => h.1), by simp, by simp, by omega⟩
  · rw [k2]
    obtain ⟨s1, s2, s3⟩ := List.pairwise_append.1 hs
    obtain ⟨s4, s5⟩ := List.pairwise_cons.1 s2
    have hFN := hK (F, N) (by simp)
    simp only at hFN
    simp only [List.nil_append]
    refine ⟨fun r hr => ?_, fun r hr => ?_, noT_of (List.pairwise_append.2 ⟨s1.imp fun h => h.1, List.pairwise_singleton _ _, fun p hp q hq => ?_⟩), noT_of (List.pairwise_cons.2 ⟨fun q hq => ?_, s5.imp fun h => h.1⟩), by simp, by simp, ?_⟩
    · rcases List.mem_append.1 hr with hr | hr
      · exact hK r (List.mem_append_left _ hr)
      · obtain rfl := List.mem_singleton.1 hr
        simp only
        omega
    · rcases List.mem_cons.1 hr with rfl | hr
      · simp only
        omega
      · exact hK r (by simp [hr])
    · obtain rfl := List.mem_singleton.1 hq
      exact (s3 p hp (F, N) (List.mem_cons_self ..)).1
    · have := (s4 q hq).1
      simp only at this ⊢
      omega
    · rw [lens_app, lens_cons, lens_nil]
      simp only
      omega
def cutR (st : St) (K : List Rn) (r : V × St) : Prop := ∃ y w, r.1 = .t [y, w] ∧ OwnRow st.nx r.2 y 2 K.length (cells K) ∧ Ext st.nx st r.2
set_option maxRecDepth 20000 in
set_option maxHeartbeats 4000000 in
theorem cutG_any (st : St) (x : V) (K : List Rn) (hx : RdRow st x 2 K.length (cells K)) (hl : K.length ≤ 1000000) (hK : okB K) (hs : K.Pairwise Sep) (i : Int) (hi : 0 ≤ i ∧ i ≤ 9223372036854775807) (nt : Nat) : Gd (callL Try.prog ⟨false, [], 0, nt⟩ 46 [x, .int .i64 i] st) (cutR st (splF K i).1) := by
  rw [Gd_callL Try.func46 rfl]
  obtain ⟨c1, c2, c3, c4, c5, c6, c7⟩ := cut_ok hK hs hi.1
  simp [evOp_call, sets, T.get_set]
  refine Gd.mono (splitG_any st x K hx hl hK.cnt i hi _) ?_
  rintro ⟨r, s1⟩ ⟨ya, yb, hr, hya, hyb, x1⟩
  simp only at hr hya hyb x1
  subst hr
  generalize (splF K i).1 = A at *
  generalize (splF K i).2.1 = B at *
  simp [evOp_call, sets, T.get_set, tupK]
  refine Gd.mono (mergeN_any s1 ya A hya.rd (by omega) c1.cnt c3 _) ?_
  rintro ⟨y2, s2⟩ ⟨hy2, x2⟩
  simp only at hy2 x2
  simp [evOp_call, sets, T.get_set, tupK]
  refine Gd.mono (mergeN_any s2 yb B (hyb.rd.ext x2) (by omega) c2.cnt c4 _) ?_
  rintro ⟨y3, s3⟩ ⟨hy3, x3⟩
  simp only at hy3 x3
  simp [evOp_call, sets, T.get_set, tupK]
  have b1 := x1.le
  have b2 := x2.le
  exact ⟨y2, y3, rfl, (ownLow hy2 b1).ext x3, (x1.trans (x2.mono b1)).trans (x3.mono (by omega))⟩
/-- what stands of a pool -/
structure PG (st : St) (q m : Nat) (g : Gm) (z : V) (L : List (BitVec 64)) (f e : Nat) : Prop where
  hg : isGood g
  hp : PoolAt st q g z m L
  hm : m ≤ 100000
  hf : dF g = (f : Int)
  he : dF g + dN g = (e : Int)
  hfe : f < e
  he2 : e ≤ 100000
  he3 : e ≤ L.length * 64
theorem PG.ext {st s' : St} {q m : Nat} {g : Gm} {z : V} {L : List (BitVec 64)} {f e : Nat} (h : PG st q m g z L f e) (k : Ext st.nx st s') : PG s' q m g z L f e :=
  ⟨h.hg, h.hp.ext k, h.hm, h.hf, h.he, h.hfe, h.he2, h.he3⟩
theorem gaps_ok {L : List (BitVec 64)} {f e : Nat} {K : List Rn} (hfe : f < e) (he2 : e ≤ 100000) (he3 : e ≤ L.length * 64) (hK : gapsP L e K f) : okB K ∧ K.Pairwise Sep := by
  obtain ⟨k1, k2, k3⟩ := gapsP_all he3 (by omega) hK
  refine ⟨fun r hr => ?_, List.Pairwise.imp_of_mem (fun {p q} hp hq h => ?_) k2⟩
  · obtain ⟨g1, g2, g3, g4, g5⟩ := k1 r hr
    omega
  · have p1 := (k1 p hp).one
    have q1 := (k1 q hq).one
    unfold Sep
    omega
theorem Sep.symm {p q : Rn} (h : Sep p q) : Sep q p := ⟨h.2, h.1⟩
def fewR (st : St) (K : List Rn) (n : Int) (r : V × St) : Prop := ∃ K', K'.Perm K ∧ K'.Pairwise (fun p q => q.2 ≤ p.2) ∧ gapR st (splF K' n).1 r
set_option maxRecDepth 20000 in
set_option maxHeartbeats 4000000 in
theorem fewG_any (st : St) (q m : Nat) (g : Gm) (z : V) (L : List (BitVec 64)) (f e : Nat) (P : PG st q m g z L f e) (K : List Rn) (hK : gapsP L e K f) (hl : K.length < 20) (n : Int) (hn : 0 ≤ n ∧ n ≤ 9223372036854775807) (nt : Nat) :
    Gd (callL Try.prog ⟨false, [], 0, nt⟩ 29 [.p q 0, .int .i64 n] st) (fewR st K n) := by
  rw [Gd_callL Try.func29 rfl]
  obtain ⟨kB, kS⟩ := gaps_ok P.hfe P.he2 P.he3 hK
  simp [evOp_call, sets, T.get_set]
  refine Gd.mono (gapsA_any st q m g z L P.hg P.hp P.hm f e P.hf P.he P.hfe P.he2 K (by omega) hK _) ?_
  rintro ⟨y, s1⟩ ⟨hy, x1⟩
  simp only at hy x1
  simp [evOp_call, sets, T.get_set]
  refine Gd.mono (sortLen_any st.nx s1 y K hy x1.le kB.el hl _) ?_
  rintro ⟨r, s2⟩ ⟨hr, K', hp, hso, hy2, x2⟩
  simp only at hr hy2 x2
  subst hr
  have hl' := hp.length_eq
  rw [← hl'] at hy2
  have hB' : okB K' := fun r hr => kB r (hp.mem_iff.1 hr)
  have hS' : K'.Pairwise Sep := (hp.pairwise_iff fun h => Sep.symm h).2 kS
  simp [evOp_call, sets, T.get_set]
  refine Gd.mono (cutG_any s2 y K' hy2.rd (by omega) hB' hS' n hn _) ?_
  rintro ⟨r, s3⟩ ⟨y2, w, hr, hy3, x3⟩
  simp only at hr hy3 x3
  subst hr
  simp [tupK, evOp_call, sets, T.get_set]
  have b2 : st.nx ≤ s2.nx := Nat.le_trans x1.le (x2.le)
  exact ⟨K', hp, hso, ownLow hy3 b2, (x1.trans x2).trans (x3.mono b2)⟩
theorem lensB_le {K : List Rn} (hK : okB K) : 0 ≤ lens K ∧ lens K ≤ K.length * 100000 := by
  induction K with
  | nil => simp [lens_nil]
  | cons r K ih =>
    have h1 := hK r (List.mem_cons_self ..)
    obtain ⟨h2, h3⟩ := ih fun q hq => hK q (List.mem_cons_of_mem _ hq)
    rw [lens_cons]
    simp only [List.length_cons]
    omega
set_option maxRecDepth 20000 in
set_option maxHeartbeats 4000000 in
theorem pfreeA_any (st : St) (q m : Nat) (g : Gm) (z : V) (L : List (BitVec 64)) (f e : Nat) (P : PG st q m g z L f e) (K : List Rn) (hK : gapsP L e K f) (hl : K.length ≤ 100000) (nt : Nat) :
    Gd (callL Try.prog ⟨false, [], 0, nt⟩ 19 [.p q 0] st) fun r => r.1 = .int .i64 (lens K) ∧ Ext st.nx st r.2 := by
  rw [Gd_callL Try.func19 rfl]
  obtain ⟨kB, kS⟩ := gaps_ok P.hfe P.he2 P.he3 hK
  have hle := lensB_le kB
  simp [evOp_call, sets, T.get_set]
  refine Gd.mono (gapsA_any st q m g z L P.hg P.hp P.hm f e P.hf P.he P.hfe P.he2 K hl hK _) ?_
  rintro ⟨y, s1⟩ ⟨hy, x1⟩
  simp only at hy x1
  simp [evOp_call, sets, T.get_set]
  refine Gd.mono (total_any s1 y K _ hy.rd (by omega) (by rw [kB.cnt]; omega)) ?_
  rintro ⟨r, s2⟩ ⟨hr, x2⟩
  simp only at hr x2
  subst hr
  rw [kB.cnt]
  simp [evOp_call, sets, T.get_set]
  exact x1.trans (x2.mono x1.le)
end Go.Proofs.Ytlonobfpogimgaa
set_option linter.unusedSimpArgs false
set_option linter.unusedVariables false
namespace Go.Proofs.Ytlonobfpogimgaa
open Go.RowKit Ev
def gF (g : Gm) (c : Int) : Int := dF g + c * (dN g / g.c)
def oneO (L : List (BitVec 64)) (g : Gm) (f e : Nat) (c n : Int) : Option Int := match freeB L (gF g c) (gF g c + grpN g c) n with
  | some a => some a
  | none => freeB L (f : Int) (e : Int) n
theorem grp_in {g : Gm} (hg : isGood g) {c : Int} (h0 : 0 ≤ c) (h1 : c < g.c) : 0 ≤ gF g c ∧ dF g ≤ gF g c ∧ 0 ≤ grpN g c ∧ gF g c + grpN g c ≤ dF g + dN g ∧ dF g + dN g ≤ 1024 ∧ 0 ≤ dF g := by
  obtain ⟨b1, b2, b3, b4, b5, b6, b7⟩ := grp_bd hg h0 h1
  obtain ⟨s1, s2, s3, s4⟩ := endV_step h0 h1
  have hN : 0 ≤ grpN g c := by omega
  have hE : endV g (c + 1) ≤ dF g + dN g := by
    unfold endV
    by_cases h : c + 1 = g.c
    · rw [if_pos h]; omega
    · rw [if_neg h]
      have := (grp_bd hg (c := c + 1) (by omega) (by omega)).2.2.2.1
      omega
  unfold gF
  omega
set_option maxRecDepth 20000 in
set_option maxHeartbeats 4000000 in
theorem oneG_any (st : St) (q m : Nat) (g : Gm) (z : V) (L : List (BitVec 64)) (f e : Nat) (P : PG st q m g z L f e) (c : Int) (hc0 : 0 ≤ c) (hc1 : c < g.c) (n : Int) (nt : Nat) :
    Gd (callL Try.prog ⟨false, [], 0, nt⟩ 28 [.p q 0, .int .i64 c, .int .i64 n] st) (oneR st (oneO L g f e c n) n) := by
  rw [Gd_callL Try.func28 rfl]
  have P0 := P
  obtain ⟨hg, hp, hm, hf, he, hfe, he2, he3⟩ := P
  have hgv : grpV g c = .t [.int .i64 (gF g c), .int .i64 (grpN g c)] := by
    unfold grpV gF
    rw [if_pos ⟨hc0, hc1⟩]
  obtain ⟨i1, i2, i3, i4, i5, i6⟩ := grp_in hg hc0 hc1
  simp [evOp_call, sets, T.get_set]
  refine Gd.mono (group_any st q m g z L hg hp c _) ?_
  rintro ⟨r, s1⟩ ⟨hr, x1⟩
  simp only at hr x1
  subst hr
  rw [hgv]
  unfold oneO
  generalize gF g c = u at *
  generalize grpN g c = v at *
  have hp1 := hp.ext x1
  have hp10 := hp1
  obtain ⟨hq, ⟨t, ht, t0, t1, t2, t3, t4⟩, hrz⟩ := hp1
  have hLm : L.length = m := by have := hrz.1; simpa using this
  have hrL : RdRow s1 z 1 L.length (wv L) := by rw [hLm]; exact hrz
  have w1 : IntKind.i64.wrap (u + v) = u + v := wrap_in (by omega) (by omega)
  simp [tupK, evOp_call, sets, T.get_set, loadE_eq, getC_eq, ht, t4, getsB_succ, getsB_zero, w1]
  refine Gd.mono (free_any s1 z L hrL (by omega) u (u + v) n (by omega) _) ?_
  rintro ⟨r, s2⟩ ⟨hr, x2⟩
  simp only at hr x2
  subst hr
  have hs2 : Ext st.nx st s2 := x1.trans (x2.mono x1.le)
  cases hfr : freeB L u (u + v) n with
  | some a =>
    simp [freeV, tupK, evOp_call, T.get_set]
    refine evOp_build1 (v := .g [.int .i64 a, .int .i64 n]) (cs := [.int .i64 a, .int .i64 n]) (fun k => el38 k) (fun k => ze52 k) rfl (by omega) (by simp [T.get_set]) (fun k => rfl) rfl ?_
    simp [evOp_call, T.get_set]
    have hb := hs2.le
    refine ⟨⟨⟨rfl, .inr (.inl ⟨s2.nx, 0, 1, _, _, _, rfl, Nat.lt_succ_self _, T.get_set_same _ _ _, by simp, fun j v hj => ?_⟩)⟩, ⟨fun _ _ _ _ e => (by cases e), fun _ _ _ _ e => (by injection e with e; omega)⟩⟩, hs2.new hb _⟩
    have hj2 : ([.int .i64 a, .int .i64 n] : List V)[j]? = some v := hj
    have hlt := lt_of_get hj2
    rw [get_sets, if_pos ⟨Nat.zero_le _, by omega⟩]
    simpa using hj2
  | none =>
    simp [freeV, tupK, evOp_call, T.get_set]
    refine Gd.mono (pdata_any s2 q m g z L hg (hp10.ext x2) _) ?_
    rintro ⟨r, s3⟩ ⟨hr, x3⟩
    simp only at hr x3
    subst hr
    rw [he, hf]
    have ht3 := (x3.keep _ (Nat.lt_of_lt_of_le hq x2.le)).trans ((x2.keep _ hq).trans ht)
    have hs3 : Ext st.nx st s3 := hs2.trans (x3.mono hs2.le)
    simp [tupK, evOp_call, sets, T.get_set, loadE_eq, getC_eq, ht3, t4, getsB_succ, getsB_zero]
    refine Gd.mono (free_any s3 z L ((hrL.ext x2).ext x3) (by omega) (f : Int) (e : Int) n (by omega) _) ?_
    rintro ⟨r, s4⟩ ⟨hr, x4⟩
    simp only at hr x4
    subst hr
    cases hfr2 : freeB L (f : Int) (e : Int) n with
    | none =>
      simp [freeV, tupK, evOp_call, T.get_set]
      exact ⟨rfl, hs3.trans (x4.mono hs3.le)⟩
    | some a =>
      simp [freeV, tupK, evOp_call, T.get_set]
      refine evOp_build1 (v := .g [.int .i64 a, .int .i64 n]) (cs := [.int .i64 a, .int .i64 n]) (fun k => el38 k) (fun k => ze52 k) rfl (by omega) (by simp [T.get_set]) (fun k => rfl) rfl ?_
      simp [evOp_call, T.get_set]
      have hs4 : Ext st.nx st s4 := hs3.trans (x4.mono hs3.le)
      have hb := hs4.le
      refine ⟨⟨⟨rfl, .inr (.inl ⟨s4.nx, 0, 1, _, _, _, rfl, Nat.lt_succ_self _, T.get_set_same _ _ _, by simp, fun j v hj => ?_⟩)⟩, ⟨fun _ _ _ _ e => (by cases e), fun _ _ _ _ e => (by injection e with e; omega)⟩⟩, hs4.new hb _⟩
      have hj2 : ([.int .i64 a, .int .i64 n] : List V)[j]? = some v := hj
      have hlt := lt_of_get hj2
      rw [get_sets, if_pos ⟨Nat.zero_le _, by omega⟩]
      simpa using hj2
end Go.Proofs.Ytlonobfpogimgaa
set_option linter.unusedSimpArgs false
set_option linter.unusedVariables false
namespace Go.Proofs.Ytlonobfpogimgaa
open Go.RowKit Ev
set_option maxRecDepth 20000 in
set_option maxHeartbeats 4000000 in
theorem takeG_arg (st : St) (q m : Nat) (g : Gm) (z : V) (L : List (BitVec 64)) (hp : PoolAt st q g z m L) (c n k : Int) (hbad : c < 0 ∨ g.c ≤ c ∨ n < 0 ∨ k < 1) (nt : Nat) :
    Gd (callL Try.prog ⟨false, [], 0, nt⟩ 9 [.p q 0, .int .i64 c, .int .i64 n, .int .i64 k] st) (tkNo st 1) := by
  rw [Gd_callL Try.func9 rfl]
  obtain ⟨hq, ⟨t, ht, t0, t1, t2, t3, t4⟩, hr⟩ := hp
  have hwf : wantK false (some V.u) = false := rfl
  have hwu : wantK true (some V.u) = false := rfl
  by_cases h1 : c < 0
  · simp [evOp_call, sets, T.get_set, loadE_eq, getC_eq, ht, t2, hwf, hwu, h1]
    exact ⟨rfl, Ext.refl _ _⟩
  by_cases h2 : g.c ≤ c
  · simp [evOp_call, sets, T.get_set, loadE_eq, getC_eq, ht, t2, hwf, hwu, h1, h2]
    exact ⟨rfl, Ext.refl _ _⟩
  by_cases h3 : n < 0
  · simp [evOp_call, sets, T.get_set, loadE_eq, getC_eq, ht, t2, hwf, hwu, h1, h2, h3]
    exact ⟨rfl, Ext.refl _ _⟩
  have h4 : k < 1 := by omega
  simp [evOp_call, sets, T.get_set, loadE_eq, getC_eq, ht, t2, hwf, hwu, h1, h2, h3, h4]
  exact ⟨rfl, Ext.refl _ _⟩
set_option maxRecDepth 20000 in
set_option maxHeartbeats 4000000 in
theorem takeG_some (st : St) (q m : Nat) (g : Gm) (z : V) (L : List (BitVec 64)) (f e : Nat) (P : PG st q m g z L f e) (c : Int) (hc0 : 0 ≤ c) (hc1 : c < g.c) (n k : Int) (hk : 1 ≤ k) (hn : 1 ≤ n ∧ n ≤ 1000) (a : Int) (ha : 0 ≤ a ∧ a ≤ 1000) (ho : oneO L g f e c n = some a) (nt : Nat) :
    Gd (callL Try.prog ⟨false, [], 0, nt⟩ 9 [.p q 0, .int .i64 c, .int .i64 n, .int .i64 k] st) (tkYes st q m g (setB L true (allJ [(a, n)])) [(a, n)]) := by
  rw [Gd_callL Try.func9 rfl]
  have P0 := P
  obtain ⟨hg, hp, hm, hf, he, hfe, he2, he3⟩ := P
  obtain ⟨hq, ⟨t, ht, t0, t1, t2, t3, t4⟩, hr⟩ := hp
  have hwf : wantK false (some V.u) = false := rfl
  have hwu : wantK true (some V.u) = false := rfl
  have h1 : ¬ c < 0 := by omega
  have h2 : ¬ g.c ≤ c := by omega
  have h3 : ¬ n < 0 := by omega
  have h4 : ¬ k < 1 := by omega
  have hln : ∀ s : St, lenS s (V.c (.slice none 0 0)) = some (.int .i64 0, s) := fun s => (OwnRow.nil 0 s 2).rd.lenS s
  simp [evOp_call, sets, T.get_set, loadE_eq, getC_eq, ht, t2, hwf, hwu, h1, h2, h3, h4]
  refine Gd.mono (oneG_any st q m g z L f e P0 c hc0 hc1 n _) ?_
  rintro ⟨r, s1⟩ ⟨hr, x1⟩
  rw [ho] at hr
  obtain ⟨hy, hyf⟩ := hr
  simp only at hy hyf x1
  have hly : ∀ s : St, lenS s r = some (.int .i64 1, s) := fun s => hy.lenS s
  have hcn : cnt (a, n) = true := by unfold cnt; simp; omega
  have hfl : ([(a, n)] : List Rn).filter cnt = [(a, n)] := by simp [List.filter, hcn]
  have hle1 : lens [(a, n)] = n := by simp [lens]
  simp [evOp_call, sets, T.get_set, hly, hwf, hwu]
  refine Gd.mono (total_any s1 r [(a, n)] _ hy (by simp) (by rw [hfl, hle1]; omega)) ?_
  rintro ⟨r2, s2⟩ ⟨hr, x2⟩
  simp only at hr x2
  subst hr
  rw [hfl, hle1]
  have hs2 : Ext st.nx st s2 := x1.trans (x2.mono x1.le)
  have hk1 : ¬ k < 1 := by omega
  simp [evOp_call, sets, T.get_set, hly, hwf, hwu, hk1]
  refine Gd.mono (mark_any s2 q m g z L (P0.hp.ext hs2) hm true r [(a, n)] (hy.ext x2) ⟨by simp, fun r hr => by simp at hr; subst hr; exact ⟨ha.1, ha.2, by show 0 ≤ n; omega, hn.2⟩⟩ _) ?_
  rintro ⟨r3, s3⟩ ⟨z', hp3, hle, hk, hx3, hz3⟩
  have hl2 := hs2.le
  have hyb : ∀ b, rowIn r b → st.nx ≤ b := fun b h => by
    rcases h with ⟨_, _, _, e⟩ | ⟨_, _, _, e⟩
    · exact hyf.2 _ _ _ _ e
    · exact hyf.1 _ _ _ _ e
  simp [evOp_call, sets, T.get_set]
  refine ⟨_, rfl, row_keep (hy.ext x2) fun b hb h1 => ⟨Nat.lt_of_lt_of_le h1 hle, hk b h1 (by have := hyb b hb; omega)⟩, hyb, z', hp3, Nat.le_trans hl2 hle, fun k h1 h2 => (hk k (by omega) h2).trans (hs2.keep k h1), (hs2.mono (by omega)).trans hx3, hz3⟩
set_option maxRecDepth 20000 in
set_option maxHeartbeats 4000000 in
theorem takeG_zero (st : St) (q m : Nat) (g : Gm) (z : V) (L : List (BitVec 64)) (f e : Nat) (P : PG st q m g z L f e) (c : Int) (hc0 : 0 ≤ c) (hc1 : c < g.c) (n k : Int) (hk : 1 ≤ k) (hn : n = 0) (nt : Nat) :
    Gd (callL Try.prog ⟨false, [], 0, nt⟩ 9 [.p q 0, .int .i64 c, .int .i64 n, .int .i64 k] st) (tkYes st q m g L []) := by
  have ho : oneO L g f e c n = none := by
    subst hn
    unfold oneO freeB
    simp
  rw [Gd_callL Try.func9 rfl]
  have P0 := P
  obtain ⟨hg, hp, hm, hf, he, hfe, he2, he3⟩ := P
  obtain ⟨hq, ⟨t, ht, t0, t1, t2, t3, t4⟩, hr⟩ := hp
  have hwf : wantK false (some V.u) = false := rfl
  have hwu : wantK true (some V.u) = false := rfl
  have h1 : ¬ c < 0 := by omega
  have h2 : ¬ g.c ≤ c := by omega
  have h3 : ¬ n < 0 := by omega
  have h4 : ¬ k < 1 := by omega
  have hln : ∀ s : St, lenS s (V.c (.slice none 0 0)) = some (.int .i64 0, s) := fun s => (OwnRow.nil 0 s 2).rd.lenS s
  simp [evOp_call, sets, T.get_set, loadE_eq, getC_eq, ht, t2, hwf, hwu, h1, h2, h3, h4]
  refine Gd.mono (oneG_any st q m g z L f e P0 c hc0 hc1 n _) ?_
  rintro ⟨r, s1⟩ ⟨hr, x1⟩
  rw [ho] at hr
  simp only at hr x1
  subst hr
  subst hn
  simp [evOp_call, sets, T.get_set, hln, hwf, hwu]
  refine Gd.mono (total_any s1 (.c (.slice none 0 0)) [] _ (OwnRow.nil 0 _ 2).rd (by simp) (by decide)) ?_
  rintro ⟨r, s2⟩ ⟨hr, x2⟩
  simp only at hr x2
  subst hr
  have hl0 : lens (([] : List Rn).filter cnt) = 0 := rfl
  rw [hl0]
  have hs2 : Ext st.nx st s2 := x1.trans (x2.mono x1.le)
  have hk0 : ¬ k < 0 := by omega
  simp [evOp_call, sets, T.get_set, hln, hwf, hwu, hk0]
  refine Gd.mono (mark_any s2 q m g z L (P0.hp.ext hs2) hm true (.c (.slice none 0 0)) [] (OwnRow.nil 0 _ 2).rd ⟨by simp, fun r hr => by cases hr⟩ _) ?_
  rintro ⟨r, s3⟩ ⟨z', hp3, hle, hk, hx3, hz3⟩
  have hl2 := hs2.le
  simp [evOp_call, sets, T.get_set]
  exact ⟨_, rfl, (OwnRow.nil 0 _ 2).rd, fun b h => (by rcases h with ⟨_, _, _, e⟩ | ⟨_, _, _, e⟩ <;> cases e), z', hp3, Nat.le_trans hl2 hle, fun k h1 h2 => (hk k (by omega) h2).trans (hs2.keep k h1), (hs2.mono (by omega)).trans hx3, hz3⟩
/-- Take of what no one gap holds -/
def tkFew (st : St) (q m : Nat) (g : Gm) (L : List (BitVec 64)) (K : List Rn) (n k : Int) (r : V × St) : Prop := ∃ K', K'.Perm K ∧ K'.Pairwise (fun p q => q.2 ≤ p.2) ∧ (if lens (splF K' n).1 < n ∨ k < ((splF K' n).1.length : Int) then tkNo st 7 r else tkYes st q m g (setB L true (allJ (splF K' n).1)) (splF K' n).1 r)
set_option maxRecDepth 20000 in
set_option maxHeartbeats 4000000 in
theorem takeG_few (st : St) (q m : Nat) (g : Gm) (z : V) (L : List (BitVec 64)) (f e : Nat) (P : PG st q m g z L f e) (c : Int) (hc0 : 0 ≤ c) (hc1 : c < g.c) (n k : Int) (hk : 1 ≤ k) (hn : 1 ≤ n ∧ n ≤ 9223372036854775807) (ho : oneO L g f e c n = none) (K : List Rn) (hK : gapsP L e K f) (hl : K.length < 20) (he4 : e ≤ 1000) (nt : Nat) :
    Gd (callL Try.prog ⟨false, [], 0, nt⟩ 9 [.p q 0, .int .i64 c, .int .i64 n, .int .i64 k] st) (tkFew st q m g L K n k) := by
  rw [Gd_callL Try.func9 rfl]
  have P0 := P
  obtain ⟨hg, hp, hm, hf, he, hfe, he2, he3⟩ := P
  obtain ⟨hq, ⟨t, ht, t0, t1, t2, t3, t4⟩, hr⟩ := hp
  have hwf : wantK false (some V.u) = false := rfl
  have hwu : wantK true (some V.u) = false := rfl
  have h1 : ¬ c < 0 := by omega
  have h2 : ¬ g.c ≤ c := by omega
  have h3 : ¬ n < 0 := by omega
  have h4 : ¬ k < 1 := by omega
  have hln : ∀ s : St, lenS s (V.c (.slice none 0 0)) = some (.int .i64 0, s) := fun s => (OwnRow.nil 0 s 2).rd.lenS s
  simp [evOp_call, sets, T.get_set, loadE_eq, getC_eq, ht, t2, hwf, hwu, h1, h2, h3, h4]
  refine Gd.mono (oneG_any st q m g z L f e P0 c hc0 hc1 n _) ?_
  rintro ⟨r, s1⟩ ⟨hr, x1⟩
  rw [ho] at hr
  simp only at hr x1
  subst hr
  have h0 : 0 < n := by omega
  simp [evOp_call, sets, T.get_set, hln, hwf, hwu, h0]
  refine Gd.mono (fewG_any s1 q m g z L f e (P0.ext x1) K hK hl n ⟨by omega, hn.2⟩ _) ?_
  rintro ⟨y, s2⟩ ⟨K', hpm, hso, hy, x2⟩
  simp only at hy x2
  obtain ⟨kB, kS⟩ := gaps_ok hfe he2 he3 hK
  have hB' : okB K' := fun r hr => kB r (hpm.mem_iff.1 hr)
  have hS' : K'.Pairwise Sep := (hpm.pairwise_iff fun h => Sep.symm h).2 kS
  obtain ⟨c1, c2, c3, c4, c5, c6, c7⟩ := cut_ok hB' hS' (i := n) (by omega)
  have hlp := hpm.length_eq
  have hin : ∀ r ∈ (splF K' n).1, 0 ≤ r.1 ∧ r.1 ≤ 1000 ∧ 0 ≤ r.2 ∧ r.2 ≤ 1000 := by
    obtain ⟨k1, _, _⟩ := gapsP_all he3 (by omega) hK
    have hb : ∀ r ∈ K', 0 ≤ r.1 ∧ 1 ≤ r.2 ∧ r.1 + r.2 ≤ 1000 := fun r hr => by
      obtain ⟨g1, g2, g3, _, _⟩ := k1 r (hpm.mem_iff.1 hr)
      omega
    unfold splF
    rcases spl_shape K' [] n (by omega) (fun r hr => (hB' r hr).2.1) with ⟨P, S, i', rfl, k2, k3, k4, k5⟩ | ⟨P, F, N, S, i', rfl, k2, k3, k4, k5⟩
    · rw [k2]
      intro r hr
      have := hb r (by simp at hr ⊢; exact .inl hr)
      omega
    · rw [k2]
      intro r hr
      simp at hr
      rcases hr with hr | rfl
      · have := hb r (by simp [hr])
        omega
      · have := hb (F, N) (by simp)
        simp only at this ⊢
        omega
  have hfin : ∀ r, (if lens (splF K' n).1 < n ∨ k < ((splF K' n).1.length : Int) then tkNo st 7 r else tkYes st q m g (setB L true (allJ (splF K' n).1)) (splF K' n).1 r) → tkFew st q m g L K n k r := fun r h => ⟨K', hpm, hso, h⟩
  have hlR : (splF K' n).1.length < 20 := by omega
  generalize (splF K' n).1 = R at *
  have hle := lensB_le c1
  simp [evOp_call, sets, T.get_set]
  refine Gd.mono (total_any s2 y R _ hy.rd (by omega) (by rw [c1.cnt]; omega)) ?_
  rintro ⟨r, s3⟩ ⟨hr, x3⟩
  simp only at hr x3
  subst hr
  rw [c1.cnt]
  have hs2 : Ext st.nx st s2 := x1.trans (x2.mono x1.le)
  have hs3 : Ext st.nx st s3 := hs2.trans (x3.mono hs2.le)
  have hly : ∀ s : St, lenS s y = some (.int .i64 (R.length : Int), s) := fun s => hy.rd.lenS s
  by_cases d1 : lens R < n
  · simp [evOp_call, sets, T.get_set, hwf, hwu, hly, d1]
    refine hfin _ ?_
    rw [if_pos (.inl d1)]
    exact ⟨rfl, hs3⟩
  by_cases d2 : k < (R.length : Int)
  · simp [evOp_call, sets, T.get_set, hwf, hwu, hly, d1, d2]
    refine hfin _ ?_
    rw [if_pos (.inr d2)]
    exact ⟨rfl, hs3⟩
  have hy3 := hy.ext x3
  simp [evOp_call, sets, T.get_set, hwf, hwu, hly, d1, d2]
  refine Gd.mono (mark_any s3 q m g z L (P0.hp.ext hs3) hm true y R hy3.rd ⟨by omega, hin⟩ _) ?_
  rintro ⟨r3, s4⟩ ⟨z', hp4, hle4, hk4, hx4, hz4⟩
  have hl3 := hs3.le
  have hyb : ∀ b, rowIn y b → st.nx ≤ b := fun b h => by
    obtain ⟨_, ⟨e1, _⟩ | ⟨mm, ty, t, e1, e2, _⟩⟩ := hy
    · rcases h with ⟨_, _, _, e⟩ | ⟨_, _, _, e⟩ <;> (rw [e1] at e; cases e)
    · have := x1.le
      rcases h with ⟨_, _, _, e⟩ | ⟨_, _, _, e⟩
      · rw [e1] at e; cases e
      · rw [e1] at e; injection e with e; omega
  simp [evOp_call, sets, T.get_set]
  refine hfin _ ?_
  rw [if_neg (by omega)]
  exact ⟨_, rfl, row_keep hy3.rd fun b hb h1 => ⟨Nat.lt_of_lt_of_le h1 hle4, hk4 b h1 (by have := hyb b hb; omega)⟩, hyb, z', hp4, Nat.le_trans hl3 hle4, fun k h1 h2 => (hk4 k (by omega) h2).trans (hs3.keep k h1), (hs3.mono (by omega)).trans hx4, hz4⟩
end Go.Proofs.Ytlonobfpogimgaa
set_option linter.unusedSimpArgs false
set_option linter.unusedVariables false
namespace Go.Proofs.Ytlonobfpogimgaa
open Go.RowKit Ev
def okG (K : List Rn) : Prop := K.length ≤ 100 ∧ ∀ r ∈ K, r.2 < 1 ∨ (0 ≤ r.1 ∧ r.1 ≤ 1000 ∧ 0 ≤ r.2 ∧ r.2 ≤ 1000)
theorem allG_le : ∀ (K : List Rn), (∀ r ∈ K, r.2 < 1 ∨ (0 ≤ r.1 ∧ r.1 ≤ 1000 ∧ 0 ≤ r.2 ∧ r.2 ≤ 1000)) → (allJ K).length ≤ K.length * 1000 ∧ ∀ i ∈ allJ K, 0 ≤ i ∧ i ≤ 2000
  | [], _ => ⟨by simp [allJ], fun i hi => by simp [allJ] at hi⟩
  | r :: K, h => by
    obtain ⟨h1, h2⟩ := allG_le K fun q hq => h q (List.mem_cons_of_mem _ hq)
    have h3 := h r (List.mem_cons_self ..)
    have e : allJ (r :: K) = runJ r.1 r.2.toNat ++ allJ K := rfl
    rw [e]
    refine ⟨by rw [List.length_append, runJ_len, List.length_cons]; omega, fun i hi => ?_⟩
    rcases List.mem_append.1 hi with hi | hi
    · obtain ⟨j, hj, rfl⟩ := List.mem_map.1 hi
      have := List.mem_range.1 hj
      omega
    · exact h2 i hi
def mkGO (st : St) (q : Nat) (yes : Bool) (x : V) (K : List Rn) (en : Env) (s : St) : Prop := ∃ (j : Nat) (y : V), j ≤ K.length ∧ en.get 0 = some (.p q 0) ∧ en.get 1 = some (.bool yes) ∧ en.get 10 = some x ∧ en.get 11 = some (.int .i64 (K.length : Int)) ∧ en.get 12 = some (.int .i64 (j : Int)) ∧ en.get 6 = some y ∧ OwnRow st.nx s y 1 (allJ (K.take j)).length (iv (allJ (K.take j))) ∧ Ext st.nx st s
def mkG (st : St) (q : Nat) (yes : Bool) (x : V) (K : List Rn) (j c : Nat) (a n0 : Int) (n : Nat) (en : Env) (s : St) : Prop := ∃ (i : Nat) (y : V), i ≤ n ∧ en.get 0 = some (.p q 0) ∧ en.get 1 = some (.bool yes) ∧ en.get 10 = some x ∧ en.get 11 = some (.int .i64 (K.length : Int)) ∧ en.get 12 = some (.int .i64 (j : Int)) ∧ en.get 8 = some (.p c 0) ∧ en.get 17 = some (.int .i64 n0) ∧ en.get 18 = some (.int .i64 (i : Int)) ∧ en.get 6 = some y ∧ (∀ o l w, y ≠ .sg c o l w) ∧ c < s.nx ∧ (∃ t, s.h.get c = some (.cs 52 2 t) ∧ t.get 0 = some (.int .i64 a)) ∧
  OwnRow st.nx s y 1 (allJ (K.take j) ++ runJ a i).length (iv (allJ (K.take j) ++ runJ a i)) ∧ Ext st.nx st s
set_option maxRecDepth 20000 in
set_option maxHeartbeats 4000000 in
theorem markG_any (st : St) (q m : Nat) (g : Gm) (z : V) (L : List (BitVec 64)) (hp : PoolAt st q g z m L) (hm : m ≤ 100000) (yes : Bool) (x : V) (K : List Rn) (hx : RdRow st x 2 K.length (cells K)) (hK : okG K) (nt : Nat) :
    Gd (callL Try.prog ⟨false, [], 0, nt⟩ 31 [.p q 0, .bool yes, x] st) (mkR st q m g (setB L yes (allJ K))) := by
  rw [Gd_callL Try.func31 rfl]
  have hLm : L.length = m := by have := hp.2.2.1; simpa using this
  have hKl := hK.1
  simp [evOp_call, sets, T.get_set, hx.lenS]
  refine Gd_loop (mkGO st q yes x K) (fun en _ => muAt 12 K.length en) ?_ ?_
  · exact ⟨0, _, Nat.zero_le _, by simp [T.get_set], by simp [T.get_set], by simp [T.get_set], by simp [T.get_set], by simp [T.get_set], by simp [T.get_set], OwnRow.nil _ _ _, Ext.refl _ _⟩
  · rintro en s ⟨j, y, hj, g0, g1, g10, g11, g12, g6, hy, hs⟩
    have hxs := hx.ext hs
    have hle := hs.le
    by_cases hlt : j < K.length
    · have hlt' : (j : Int) < K.length := by omega
      obtain ⟨⟨a, n0⟩, hr⟩ : ∃ r, K[j]? = some r := ⟨_, List.getElem?_eq_getElem hlt⟩
      have hrb := hK.2 _ (List.mem_of_getElem? hr)
      simp only at hrb
      obtain ⟨n, hn0⟩ : ∃ n, n = n0.toNat := ⟨_, rfl⟩
      obtain ⟨m1, o1, ty1, sz1, tr1, i1, b1, k1, l1, c1⟩ := hxs.idx (st := s) un38 io52 hlt
      have d0 : tr1.get o1 = some (.int .i64 a) := by simpa using c1 0 _ (by omega) (cells_get K j _ hr).1
      have d1 : tr1.get (o1 + 1) = some (.int .i64 n0) := by simpa using c1 1 _ (by omega) (cells_get K j _ hr).2
      simp [evOp_call, T.get_set, g0, g1, g10, g11, g12, g6, hlt', i1, loadE_eq, getC_eq, getsB_succ, getsB_zero, k1, d0, d1, newC_is, storeK_g, putB_eq, roT, sets]
      refine Gd_loop (mkG st q yes x K j s.nx a n0 n) (fun en _ => muAt 18 n en) ?_ ?_
      · exact ⟨0, y, Nat.zero_le _, by simp [T.get_set, g0], by simp [T.get_set, g1], by simp [T.get_set, g10], by simp [T.get_set, g11], by simp [T.get_set, g12], by simp [T.get_set], by simp [T.get_set], by simp [T.get_set], by simp [T.get_set, g6], own_ne hy, Nat.lt_succ_self _, ⟨_, T.get_set_same _ _ _, by simp [T.get_set]⟩,
          by rw [show runJ a 0 = [] from rfl, List.append_nil]; exact hy.ext ((Ext.refl _ _).new (Nat.le_refl _) _), hs.new hle _⟩
      · rintro en2 s2 ⟨i, y2, hi, f0, f1, f10, f11, f12, f8, f17, f18, f6, hyn, hc, ⟨t2, k2, e2⟩, hy2, hs2⟩
        have hle2 := hs2.le
        have haj : (allJ (K.take j)).length ≤ 100000 := by
          have := (allG_le (K.take j) fun r hr => hK.2 r (List.mem_of_mem_take hr)).1
          have h2 : (K.take j).length ≤ 100 := by rw [List.length_take]; omega
          omega
        by_cases hli : i < n
        · have hli' : (i : Int) < n0 := by omega
          have hw1 : IntKind.i64.wrap (a + (i : Int)) = a + (i : Int) := wrap_in (by omega) (by omega)
          have hwi := wrap_nat (n := i) (by omega)
          simp [evOp_call, T.get_set, f0, f1, f10, f11, f12, f8, f17, f18, f6, hli', loadE_eq, getC_eq, k2, e2, hw1]
          refine evOp_build1 (v := .int .i64 (a + (i : Int))) (cs := [.int .i64 (a + (i : Int))]) (fun k => el76 k) (fun k => ze3 k) rfl (by omega) (by simp [T.get_set]) (fun k => rfl) rfl ?_
          simp [evOp_call, T.get_set, f0, f1, f10, f11, f12, f8, f17, f18, f6]
          refine Gd_append un76 un76 io3 (lx := 1) (new := [.int .i64 (a + (i : Int))]) (hy2.ext ((Ext.refl _ _).new (Nat.le_refl _) _)) (by show st.nx ≤ s2.nx + 1; omega) (by decide) (fun s' h => by cases h) (fun k => rfl) (fun k => by simp [getC_eq, getsB_1, T.get_set, sets]) rfl (by rw [List.length_append, runJ_len]; omega) ?_
          intro y3 s3 hy3 x3 hk3 hyy
          have hyn3 : ∀ o l w, y3 ≠ .sg s.nx o l w := by
            rcases hyy with rfl | ⟨ln, rfl⟩
            · exact hyn
            · intro o l w e; injection e with e; simp only at e; omega
          have e3 : iv (allJ (K.take j) ++ runJ a i) ++ [V.int .i64 (a + (i : Int))] = iv (allJ (K.take j) ++ runJ a (i + 1)) := by rw [runJ_succ, ← List.append_assoc, iv_app (allJ (K.take j) ++ runJ a i)]; rfl
          have hx3 : Ext st.nx st s3 := (hs2.new hle2 _).trans x3
          have hn3 := x3.le
          simp only at hn3
          have kc : s3.h.get s.nx = some (.cs 52 2 t2) := by
            rw [hk3 s.nx (by show s.nx < s2.nx + 1; omega) ?_]
            · exact (T.get_set_ne _ _ (by omega)).trans k2
            · exact fun o ln => hyn o ln 1
          simp [evOp_call, T.get_set, f0, f1, f10, f11, f12, f8, f17, f18, f6, hwi]
          exact ⟨⟨i + 1, y3, by omega, by simp [T.get_set, f0], by simp [T.get_set, f1], by simp [T.get_set, f10], by simp [T.get_set, f11], by simp [T.get_set, f12], by simp [T.get_set, f8], by simp [T.get_set, f17], by simp [T.get_set], by simp [T.get_set], hyn3, by omega, ⟨t2, kc, e2⟩, by rw [← e3, runJ_succ, ← List.append_assoc, List.length_append]; exact hy3, hx3⟩, muAt_lt f18 (by simp [T.get_set]) hli⟩
        · have hli' : ¬ (i : Int) < n0 := by omega
          obtain rfl : i = n := by omega
          have hwj := wrap_nat (n := j) (by omega)
          simp [evOp_call, T.get_set, f0, f1, f10, f11, f12, f8, f17, f18, f6, hwj, hli']
          exact ⟨⟨j + 1, y2, by omega, by simp [T.get_set, f0], by simp [T.get_set, f1], by simp [T.get_set, f10], by simp [T.get_set, f11], by simp [T.get_set], by simp [T.get_set, f6], by rw [allJ_take hr, ← hn0]; exact hy2, hs2⟩, muAt_lt (t := 12) (j := j) (n := K.length) g12 (by simp [T.get_set]) hlt⟩
    · obtain rfl : j = K.length := by omega
      rw [List.take_length] at hy
      have hpp := hp.ext hs
      have hpp0 := hpp
      obtain ⟨hq, ⟨t, ht, t0, t1, t2, t3, t4⟩, hrz⟩ := hpp
      have hrL : RdRow s z 1 L.length (wv L) := by rw [hLm]; exact hrz
      obtain ⟨b1, b2⟩ := allG_le K hK.2
      simp [evOp_call, T.get_set, g0, g1, g10, g11, g12, g6, loadE_eq, getC_eq, getsB_succ, getsB_zero, ht, t4]
      refine Gd.mono (set_any s z y L hrL (by omega) yes (allJ K) hy.rd (by omega) (fun i hi => by have := b2 i hi; omega) _) ?_
      rintro ⟨r, s2⟩ ⟨w, hr, hw, hwf, x2⟩
      simp only at hr hw hwf x2
      subst hr
      have ht2 := (x2.keep _ hq).trans ht
      have hl2 := x2.le
      have hwone := hw.one
      simp [evOp_call, T.get_set, g0, g1, g10, g11, g12, g6, storeK_g, putB_eq, roT, ht2, sets, hwone]
      have hqs := hp.1
      rw [hLm] at hw
      have hnq : ∀ k, k < st.nx → k ≠ q → (s2.h.set q (.cs 70 5 (t.set 4 w))).get k = st.h.get k := fun k hk hkq => (T.get_set_ne _ _ (Ne.symm hkq)).trans ((x2.keep k (by omega)).trans (hs.keep k hk))
      refine ⟨w, ⟨by show q < s2.nx; omega, ⟨t.set 4 w, T.get_set_same _ _ _, by simp [T.get_set, t0], by simp [T.get_set, t1], by simp [T.get_set, t2], by simp [T.get_set, t3], by simp [T.get_set]⟩, ?_⟩, by show st.nx ≤ s2.nx; omega, hnq, ?_, fun b hb => ?_⟩
      · exact hw.setOther (k := q) (fun o l z' e => by have := hwf.1 _ _ _ _ e; omega) (fun o l q' e => by have := hwf.2 _ _ _ _ e; omega) _
      · exact ((hs.mono (by omega)).trans (x2.mono (by omega))).set (m := q) (Nat.le_refl _) (by omega) _
      · rcases hb with ⟨_, _, _, e⟩ | ⟨_, _, _, e⟩
        · have := hwf.2 _ _ _ _ e; omega
        · have := hwf.1 _ _ _ _ e; omega
end Go.Proofs.Ytlonobfpogimgaa
set_option linter.unusedSimpArgs false
set_option linter.unusedVariables false
namespace Go.Proofs.Ytlonobfpogimgaa
open Go.RowKit Ev
def runOk (L : List (BitVec 64)) (f e : Nat) (r : Rn) : Prop := r.2 < 1 ∨ ((f : Int) ≤ r.1 ∧ r.1 < (e : Int) ∧ r.2 ≤ (e : Int) - r.1 ∧ nextB L false r.1 (r.1 + r.2) = none)
def giveP (L : List (BitVec 64)) (f e : Nat) (K : List Rn) : Prop := (∀ r ∈ K, runOk L f e r) ∧ (K.filter cnt).Pairwise Dis
def gvGI (st : St) (q m : Nat) (g : Gm) (z : V) (L : List (BitVec 64)) (f e : Nat) (y : V) (K : List Rn) (en : Env) (s : St) : Prop := ∃ j : Nat, j ≤ K.length ∧ en.get 0 = some (.p q 0) ∧ en.get 1 = some y ∧ en.get 5 = some (.int .i64 (f : Int)) ∧ en.get 6 = some (.int .i64 (e : Int)) ∧ en.get 16 = some y ∧ en.get 17 = some (.int .i64 (K.length : Int)) ∧ en.get 18 = some (.int .i64 (j : Int)) ∧ Ext st.nx st s ∧ ∀ r ∈ K.take j, runOk L f e r
def gvGR (st : St) (q m : Nat) (g : Gm) (L : List (BitVec 64)) (f e : Nat) (K : List Rn) (r : V × St) : Prop := (giveP L f e K ∧ gvR st q m g (setB L false (allJ K)) r) ∨ (¬ giveP L f e K ∧ r.1 = .int .i64 1 ∧ Ext st.nx st r.2)
set_option maxRecDepth 20000 in
set_option maxHeartbeats 8000000 in
theorem giveG_any (st : St) (q m : Nat) (g : Gm) (z : V) (L : List (BitVec 64)) (f e : Nat) (P : PG st q m g z L f e) (he4 : e ≤ 1000) (y : V) (K : List Rn) (hy : RdRow st y 2 K.length (cells K)) (hK : K.length ≤ 100) (nt : Nat) :
    Gd (callL Try.prog ⟨false, [], 0, nt⟩ 18 [.p q 0, y] st) (gvGR st q m g L f e K) := by
  rw [Gd_callL Try.func18 rfl]
  have P0 := P
  obtain ⟨hg, hp, hm, hf, he, hfe, he2, he3⟩ := P
  have hwf : wantK false (some V.u) = false := rfl
  have hwu : wantK true (some V.u) = false := rfl
  simp [evOp_call, sets, T.get_set]
  refine Gd.mono (pdata_any st q m g z L hg hp _) ?_
  rintro ⟨r, s1⟩ ⟨hr1, x1⟩
  simp only at hr1 x1
  subst hr1
  rw [he, hf]
  simp [tupK, evOp_call, sets, T.get_set, hy.lenS]
  refine Gd_loop (gvGI st q m g z L f e y K) (fun en _ => muAt 18 K.length en) ?_ ?_
  · exact ⟨0, Nat.zero_le _, by simp [T.get_set], by simp [T.get_set], by simp [T.get_set], by simp [T.get_set], by simp [T.get_set], by simp [T.get_set], by simp [T.get_set], x1, fun r hr => by simp at hr⟩
  rintro en s ⟨j, hj, g0, g1, g5, g6, g16, g17, g18, hs, hall⟩
  have hys := hy.ext hs
  have hps := hp.ext hs
  have hps0 := hps
  obtain ⟨hq, ⟨t, ht, t0, t1, t2, t3, t4⟩, hrz⟩ := hps
  have hLm : L.length = m := by have := hrz.1; simpa using this
  have hrL : RdRow s z 1 L.length (wv L) := by rw [hLm]; exact hrz
  by_cases hlt : j < K.length
  · have hlt' : (j : Int) < K.length := by omega
    obtain ⟨⟨a, n⟩, hrr⟩ : ∃ r, K[j]? = some r := ⟨_, List.getElem?_eq_getElem hlt⟩
    have hmem := List.mem_of_getElem? hrr
    obtain ⟨m1, o1, ty1, sz1, tr1, i1, b1, k1, l1, c1⟩ := hys.idx (st := s) un38 io52 hlt
    have d0 : tr1.get o1 = some (.int .i64 a) := by simpa using c1 0 _ (by omega) (cells_get K j _ hrr).1
    have d1 : tr1.get (o1 + 1) = some (.int .i64 n) := by simpa using c1 1 _ (by omega) (cells_get K j _ hrr).2
    have hwj := wrap_nat (n := j) (by omega)
    have nq : ¬ s.nx = q := by omega
    have hnew : ∀ v, Ext st.nx st ⟨s.nx + 1, s.h.set s.nx v⟩ := fun v => hs.new hs.le v
    have hbad : ¬ runOk L f e (a, n) → ¬ giveP L f e K := fun h k => h (k.1 _ hmem)
    have hgo : runOk L f e (a, n) → ∀ r ∈ K.take (j + 1), runOk L f e r := fun h r hr => by
      rw [take_snoc hrr] at hr
      rcases List.mem_append.1 hr with hr | hr
      · exact hall r hr
      · obtain rfl := List.mem_singleton.1 hr; exact h
    by_cases e1 : n < 1
    · simp [evOp_call, T.get_set, g0, g1, g5, g6, g16, g17, g18, hlt', i1, loadE_eq, getC_eq, getsB_succ, getsB_zero, k1, d0, d1, newC_is, storeK_g, putB_eq, roT, sets, e1, hwf, hwj]
      exact ⟨⟨j + 1, by omega, by simp [T.get_set, g0], by simp [T.get_set, g1], by simp [T.get_set, g5], by simp [T.get_set, g6], by simp [T.get_set, g16], by simp [T.get_set, g17], by simp [T.get_set], hnew _, hgo (.inl e1)⟩, muAt_lt g18 (by simp [T.get_set]) hlt⟩
    by_cases e2 : a < (f : Int)
    · simp [evOp_call, T.get_set, g0, g1, g5, g6, g16, g17, g18, hlt', i1, loadE_eq, getC_eq, getsB_succ, getsB_zero, k1, d0, d1, newC_is, storeK_g, putB_eq, roT, sets, e1, e2, hwf, hwu]
      exact .inr ⟨hbad (by unfold runOk; simp only; omega), rfl, hnew _⟩
    by_cases e3 : (e : Int) ≤ a
    · simp [evOp_call, T.get_set, g0, g1, g5, g6, g16, g17, g18, hlt', i1, loadE_eq, getC_eq, getsB_succ, getsB_zero, k1, d0, d1, newC_is, storeK_g, putB_eq, roT, sets, e1, e2, e3, hwf, hwu]
      exact .inr ⟨hbad (by unfold runOk; simp only; omega), rfl, hnew _⟩
    have w1 : IntKind.i64.wrap ((e : Int) - a) = (e : Int) - a := wrap_in (by omega) (by omega)
    by_cases e4 : (e : Int) - a < n
    · simp [evOp_call, T.get_set, g0, g1, g5, g6, g16, g17, g18, hlt', i1, loadE_eq, getC_eq, getsB_succ, getsB_zero, k1, d0, d1, newC_is, storeK_g, putB_eq, roT, sets, e1, e2, e3, e4, w1, hwf, hwu]
      exact .inr ⟨hbad (by unfold runOk; simp only; omega), rfl, hnew _⟩
    have w2 : IntKind.i64.wrap (a + n) = a + n := wrap_in (by omega) (by omega)
    simp [evOp_call, T.get_set, g0, g1, g5, g6, g16, g17, g18, hlt', i1, loadE_eq, getC_eq, getsB_succ, getsB_zero, k1, d0, d1, newC_is, storeK_g, putB_eq, roT, sets, e1, e2, e3, e4, w1, hwf, hwu]
    refine ⟨by kernel_rfl, ?_⟩
    simp [evOp_call, T.get_set, g0, g1, g5, g6, g16, g17, g18, loadE_eq, getC_eq, getsB_succ, getsB_zero, nq, ht, t4, w2]
    rw [cxOf_call (by kernel_rfl) (by kernel_rfl), forb_nil]
    refine Gd.mono (next_any _ z L (hrL.ext ((Ext.refl _ _).new (Nat.le_refl _) _)) (by omega) false a (a + n) (by omega) _) ?_
    rintro ⟨r, s2⟩ ⟨hr2, x2⟩
    simp only at hr2 x2
    subst hr2
    have hs2 : Ext st.nx st s2 := (hnew _).trans (x2.mono (by show st.nx ≤ s.nx + 1; have := hs.le; omega))
    cases h4 : nextB L false a (a + n) with
    | none =>
      simp [nextV, tupK, evOp_call, T.get_set, g0, g1, g5, g6, g16, g17, g18, hwj]
      exact ⟨⟨j + 1, by omega, by simp [T.get_set, g0], by simp [T.get_set, g1], by simp [T.get_set, g5], by simp [T.get_set, g6], by simp [T.get_set, g16], by simp [T.get_set, g17], by simp [T.get_set], hs2, hgo (.inr ⟨by simp only; omega, by simp only; omega, by simp only; omega, h4⟩)⟩, muAt_lt g18 (by simp [T.get_set]) hlt⟩
    | some v =>
      simp [nextV, tupK, evOp_call, T.get_set, g0, g1, g5, g6, g16, g17, g18, hwj, sets]
      refine .inr ⟨hbad fun h => ?_, rfl, hs2⟩
      rcases h with h | ⟨_, _, _, h⟩
      · exact e1 h
      · simp only at h
        rw [h4] at h; cases h
  · obtain rfl : j = K.length := by omega
    rw [List.take_length] at hall
    simp [evOp_call, T.get_set, g0, g1, g5, g6, g16, g17, g18]
    refine Gd.mono (apart_any s y K hys (by omega) _) ?_
    rintro ⟨r, s2⟩ ⟨b, hr2, hiff, x2⟩
    simp only at hr2 x2
    subst hr2
    have hs2 : Ext st.nx st s2 := hs.trans (x2.mono hs.le)
    cases b with
    | false =>
      simp [evOp_call, T.get_set, g0, g1, g5, g6, g16, g17, g18, sets]
      exact .inr ⟨fun k => absurd (hiff.2 k.2) (by decide), rfl, hs2⟩
    | true =>
      simp [evOp_call, T.get_set, g0, g1, g5, g6, g16, g17, g18]
      refine Gd.mono (markG_any s2 q m g z L (hps0.ext x2) hm false y K (hys.ext x2) ⟨hK, fun r hr0 => by
        rcases hall r hr0 with h | ⟨h1, h2, h3, h4⟩ <;> omega⟩ _) ?_
      rintro ⟨r, s3⟩ ⟨z', hp3, hle, hk, hx3, hz3⟩
      have hl2 := hs2.le
      simp [evOp_call, sets, T.get_set]
      exact .inl ⟨⟨hall, hiff.1 rfl⟩, rfl, z', hp3, Nat.le_trans hl2 hle, fun k h1 h2 => (hk k (by omega) h2).trans (hs2.keep k h1), (hs2.mono (by have := hp.1; omega)).trans hx3, hz3⟩
end Go.Proofs.Ytlonobfpogimgaa
set_option linter.unusedSimpArgs false
set_option linter.unusedVariables false
namespace Go.Proofs.Ytlonobfpogimgaa
open Go.RowKit Ev
theorem forb_oneR {b i x y : Nat} {l : List (Nat × Nat)} (h : Nat.testBit b i = true) : forb b [(i, x, y)] l = l := by
  show (match Nat.testBit b i with | true => l | false => (x, y) :: l) = l
  rw [h]
theorem cells_take {K : List Rn} {j : Nat} {r : Rn} (h : K[j]? = some r) : cells (K.take (j + 1)) = cells (K.take j) ++ [.int .i64 r.1, .int .i64 r.2] := by
  rw [List.take_add_one, h, cells_append]; rfl
def owI (st : St) (x : V) (K : List Rn) (e : Env) (s : St) : Prop := ∃ (j : Nat) (z : V), j ≤ K.length ∧ e.get 0 = some x ∧ e.get 3 = some z ∧ e.get 4 = some (.int .i64 (j : Int)) ∧ OwnRow st.nx s z 2 j (cells (K.take j)) ∧ Ext st.nx st s
set_option maxRecDepth 20000 in
set_option maxHeartbeats 4000000 in
theorem own12 (st : St) (fl : List (Nat × Nat)) (hfn : ∀ k, st.nx ≤ k → inF fl k = false) (x : V) (K : List Rn) (hx : RdRow st x 2 K.length (cells K)) (hK : K.length ≤ 1000000) (hfx : ∀ m, rowIn x m → inF fl m = false) (nt : Nat) :
    Gd (callL Try.prog ⟨false, fl, 0, nt⟩ 12 [x] st) fun r => OwnRow st.nx r.2 r.1 2 K.length (cells K) ∧ Ext st.nx st r.2 := by
  rw [Gd_callL Try.func12 rfl]
  simp [evOp_call, sets, T.get_set]
  refine Gd_loop (owI st x K) (fun e _ => muAt 4 K.length e) ?_ ?_
  · exact ⟨0, _, Nat.zero_le _, by simp [T.get_set], by simp [T.get_set], by simp [T.get_set], OwnRow.nil _ _ _, Ext.refl _ _⟩
  · rintro e s ⟨j, z, hj, g0, g3, g4, hz, hs⟩
    have hsn := hs.le
    by_cases hlt : j < K.length
    · have hlt' : (j : Int) < K.length := by omega
      have hw := wrap_nat (n := j) (by omega)
      have hxs := hx.ext hs
      obtain ⟨m, o, ty, sz, tr, hid, hm, hg, ho, hc, hr⟩ := hxs.idxB (st := s) un38 io52 hlt
      obtain ⟨⟨F, N⟩, hK2⟩ : ∃ r, K[j]? = some r := ⟨_, List.getElem?_eq_getElem hlt⟩
      have hcl := cells_get K j _ hK2
      have t0 : tr.get o = some (.int .i64 F) := hc 0 _ (by omega) hcl.1
      have t1 : tr.get (o + 1) = some (.int .i64 N) := hc 1 _ (by omega) hcl.2
      have hfm := hfx m hr
      have hfo : ∀ nx, inF ((0, m) :: (m + 1, nx) :: fl) m = false := fun nx => inF_ownF hfm
      have fn0 := hfn s.nx hsn
      simp [evOp_call, T.get_set, g0, g3, g4, hlt', hxs.lenS]
      refine ⟨by kernel_rfl, ?_⟩
      simp [evOp_call, T.get_set, g0, g3, g4, hid, loadE_eq, getC_eq, hg, t0, t1, hfm, hfo]
      refine evOp_build1 (v := .g [.int .i64 F, .int .i64 N]) (cs := [.int .i64 F, .int .i64 N]) (fun k => el46 k) (fun k => ze80 k) rfl (by omega) (by simp [T.get_set]) (fun k => rfl) rfl ?_
      simp [evOp_call, T.get_set]
      rw [cxOf_call (by kernel_rfl) (by kernel_rfl), forb_oneR (by kernel_rfl)]
      have hext := fun v => (Ext.refl s.nx s).new (Nat.le_refl _) v
      have hfr := AppRow.from (.inl hz)
      refine Gd_appendL un46 un46 io80 (n := j) (lx := 1) (new := [.int .i64 F, .int .i64 N]) (hz.ext (hext _)) (fun m o ln e => hfn m (hfr.1 _ _ _ _ e)) (by show st.nx ≤ s.nx + 1; omega) (by decide) (fun s' h => by cases h) (fun k => rfl) (fun k => by simp [fn0, getC_eq, getsB_2, T.get_set, sets]) rfl (by omega) ?_
      intro s' st' ho' he' _ _
      simp [evOp_call, T.get_set, g0, g4, hw]
      refine ⟨⟨j + 1, s', hlt, by simp [T.get_set, g0], by simp [T.get_set], by simp [T.get_set], ?_, (hs.trans ((hext _).mono hsn)).trans he'⟩, muAt_lt g4 (by simp [T.get_set]) hlt⟩
      rw [cells_take hK2]
      exact ho'
    · obtain rfl : j = K.length := by omega
      rw [List.take_length] at hz
      simp [evOp_call, T.get_set, g0, g3, g4, (hx.ext hs).lenS]
      exact ⟨hz, hs⟩
theorem neqR (st : St) (x y : Operand) (a c b d : Int) : binE Try.prog st .neq 80 x y (.g [.int .i64 a, .int .i64 b]) (.g [.int .i64 c, .int .i64 d]) = some (.bool (!decide ((a, b) = (c, d))), st) := by
  have := neq_struct (st := st) (x := x) (y := y) (l := [.int .i64 a, .int .i64 b]) (l' := [.int .i64 c, .int .i64 d]) (xs := [.int .i64 a, .int .i64 b]) (ys := [.int .i64 c, .int .i64 d]) Try.underlying80 (by kernel_rfl) (by kernel_rfl) rfl rfl
    (.cons (.int (d := 9998) (by decide) Try.underlying3 rfl rfl) (.cons (.int (d := 9998) (by decide) Try.underlying3 rfl rfl) .nil))
  have he : ([a == c, b == d].all id) = decide ((a, b) = (c, d)) := by
    have hac : (a == c) = decide (a = c) := by by_cases e : a = c <;> simp [e]
    have hbd : (b == d) = decide (b = d) := by by_cases e : b = d <;> simp [e]
    rw [hac, hbd]; simp
  rw [he] at this
  exact this
def alI (st : St) (x y : V) (n : Nat) (a b : List Rn) (e : Env) (s : St) : Prop := ∃ j, j ≤ n ∧ e.get 0 = some x ∧ e.get 1 = some y ∧ e.get 5 = some (.int .i64 (j : Int)) ∧ a.take j = b.take j ∧ s = st
set_option maxRecDepth 20000 in
set_option maxHeartbeats 4000000 in
theorem alike12 (st : St) (x y : V) (a b : List Rn) (hx : RdRow st x 2 a.length (cells a)) (hy : RdRow st y 2 b.length (cells b)) (hn : a.length ≤ 1000000) (nt : Nat) :
    Gd (callL Try.prog ⟨false, [], 0, nt⟩ 13 [x, y] st) fun r => r = (.bool (decide (a = b)), st) := by
  rw [Gd_callL Try.func13 rfl]
  by_cases hk : a.length = b.length
  · have hk' : (a.length : Int) = b.length := by omega
    simp [evOp_call, sets, T.get_set, hx.lenS, hy.lenS, hk']
    refine Gd_loop (alI st x y a.length a b) (fun e _ => muAt 5 a.length e) ?_ ?_
    · exact ⟨0, Nat.zero_le _, by simp [T.get_set], by simp [T.get_set], by simp [T.get_set], by simp, rfl⟩
    · rintro e s ⟨j, hj, g0, g1, g5, hab, rfl⟩
      by_cases hlt : j < a.length
      · have hlt' : (j : Int) < a.length := by omega
        have hw := wrap_nat (n := j) (by omega)
        obtain ⟨⟨p1, p2⟩, hp⟩ : ∃ p, a[j]? = some p := ⟨_, List.getElem?_eq_getElem (by omega)⟩
        obtain ⟨⟨q1, q2⟩, hq⟩ : ∃ q, b[j]? = some q := ⟨_, List.getElem?_eq_getElem (by omega)⟩
        obtain ⟨m1, o1, ty1, sz1, t1, i1, b1, k1, l1, c1⟩ := hx.idx (st := s) un46 io80 hlt
        obtain ⟨m2, o2, ty2, sz2, t2, i2, b2, k2, l2, c2⟩ := hy.idx (st := s) un46 io80 (show j < b.length by omega)
        have hcp := cells_get a j _ hp
        have hcq := cells_get b j _ hq
        have d1 : t1.get o1 = some (.int .i64 p1) := c1 0 _ (by omega) hcp.1
        have d1' : t1.get (o1 + 1) = some (.int .i64 p2) := c1 1 _ (by omega) hcp.2
        have d2 : t2.get o2 = some (.int .i64 q1) := c2 0 _ (by omega) hcq.1
        have d2' : t2.get (o2 + 1) = some (.int .i64 q2) := c2 1 _ (by omega) hcq.2
        have hts : a.take (j + 1) = b.take (j + 1) ↔ (p1, p2) = (q1, q2) := by
          rw [List.take_add_one, List.take_add_one, hp, hq, hab]
          simp
        simp [evOp_call, T.get_set, g0, g1, g5, hx.lenS, hlt']
        refine ⟨by kernel_rfl, ?_⟩
        simp [evOp_call, T.get_set, g0, g1, g5, i1, i2, loadE_eq, getC_eq, getsB_2, k1, k2, d1, d1', d2, d2']
        rw [neqR]
        by_cases hpq : (p1, p2) = (q1, q2)
        · simp only [hpq]
          simp [evOp_call, T.get_set, g0, g1, g5, hw]
          exact ⟨⟨j + 1, by omega, by simp [T.get_set, g0], by simp [T.get_set, g1], by simp [T.get_set], hts.2 hpq, rfl⟩, muAt_lt g5 (by simp [T.get_set]) hlt⟩
        · have hne : ¬ a = b := fun e => by subst e; rw [hp] at hq; injection hq with hq; exact hpq hq
          simp only [hpq]
          simp [evOp_call, T.get_set, hne]
      · obtain rfl : j = a.length := by omega
        have : a = b := by rw [← List.take_length (l := a), ← List.take_length (l := b), ← hk]; exact hab
        simp [T.get_set, g0, g1, g5, hx.lenS, this]
  · have : ¬ a = b := fun e => by subst e; omega
    have hk' : ¬ (a.length : Int) = b.length := by omega
    simp [evOp_call, sets, T.get_set, hx.lenS, hy.lenS, hk, hk', this]

/-! ### the document's Apart -/
def hit (r o : Int × Int) : Prop := r.1 < o.1 + o.2 ∧ o.1 < r.1 + r.2
instance (r o : Int × Int) : Decidable (hit r o) := by unfold hit; infer_instance
def ra (R : List (Int × Int)) (i : Nat) : Int × Int := R[i]?.getD (0, 0)
theorem ra_get {R : List (Int × Int)} {i : Nat} (h : i < R.length) : R[i]? = some (ra R i) := by unfold ra; rw [List.getElem?_eq_getElem h]; rfl
def smallR (r : Int × Int) : Prop := (1 ≤ r.2 ∧ 0 ≤ r.1) ∧ r.1 ≤ 1024 ∧ r.2 ≤ 1024
def apartR (R : List (Int × Int)) (n : Nat) : Prop := ∀ i, i < n → ∀ k, k < i → ¬ hit (ra R i) (ra R k)
instance (R : List (Int × Int)) (n : Nat) : Decidable (apartR R n) := by unfold apartR; infer_instance
def raI (st : St) (y : V) (R : List (Int × Int)) (e : Env) (s : St) : Prop := ∃ i : Nat, i ≤ R.length ∧ e.get 0 = some y ∧ e.get 3 = some (.int .i64 (i : Int)) ∧ apartR R i ∧ s = st
def raJ (st : St) (y : V) (R : List (Int × Int)) (i : Nat) (e : Env) (s : St) : Prop := ∃ k : Nat, k ≤ i ∧ e.get 0 = some y ∧ e.get 3 = some (.int .i64 (i : Int)) ∧ e.get 4 = some (.int .i64 (k : Int)) ∧ (∀ q, q < k → ¬ hit (ra R i) (ra R q)) ∧ s = st
set_option maxRecDepth 20000 in
set_option maxHeartbeats 4000000 in
theorem rapart_any (st : St) (y : V) (R : List (Int × Int)) (hy : RdRow st y 2 R.length (cells R)) (hK : R.length ≤ 1000000) (hR : ∀ r ∈ R, smallR r) (nt : Nat) :
    Gd (callL Try.prog ⟨false, [], 0, nt⟩ 15 [y] st) fun r => r = (.bool (decide (apartR R R.length)), st) := by
  rw [Gd_callL Try.func15 rfl]
  simp [evOp_call, sets, T.get_set]
  refine Gd_loop (raI st y R) (fun en _ => muAt 3 R.length en) ?_ ?_
  · exact ⟨0, Nat.zero_le _, by simp [T.get_set], by simp [T.get_set], fun i hi => by omega, rfl⟩
  · rintro en s ⟨i, hi, g0, g3, hap, rfl⟩
    by_cases hlt : i < R.length
    · have hlt' : (i : Int) < R.length := by omega
      have hwi := wrap_nat (n := i) (by omega)
      simp [evOp_call, T.get_set, g0, g3, hy.lenS, hlt']
      refine Gd_loop (raJ s y R i) (fun en _ => muAt 4 i en) ?_ ?_
      · exact ⟨0, Nat.zero_le _, by simp [T.get_set, g0], by simp [T.get_set, g3], by simp [T.get_set], fun q hq => by omega, rfl⟩
      · have G3 := g3
        clear g0 g3
        rintro e2 s2 ⟨k, hk, g0, g3, g4, hno, rfl⟩
        by_cases hkl : k < i
        · have hkl' : (k : Int) < i := by omega
          have hwk := wrap_nat (n := k) (by omega)
          obtain ⟨m, o, ty, sz, tr, hid, hm, hg, ho, hc⟩ := hy.idx (st := s2) un46 io80 hlt
          obtain ⟨m2, o2, ty2, sz2, tr2, hid2, hm2, hg2, ho2, hc2⟩ := hy.idx (st := s2) un46 io80 (show k < R.length by omega)
          have hri := ra_get hlt
          have hrk := ra_get (show k < R.length by omega)
          have hcl := cells_get R i _ hri
          have hcl2 := cells_get R k _ hrk
          have t0 : tr.get o = some (.int .i64 (ra R i).1) := hc 0 _ (by omega) hcl.1
          have t1 : tr.get (o + 1) = some (.int .i64 (ra R i).2) := hc 1 _ (by omega) hcl.2
          have u0 : tr2.get o2 = some (.int .i64 (ra R k).1) := hc2 0 _ (by omega) hcl2.1
          have u1 : tr2.get (o2 + 1) = some (.int .i64 (ra R k).2) := hc2 1 _ (by omega) hcl2.2
          have si := hR _ (List.mem_of_getElem? hri)
          have sk := hR _ (List.mem_of_getElem? hrk)
          obtain ⟨⟨a1, a2⟩, a3, a4⟩ := si
          obtain ⟨⟨b1, b2⟩, b3, b4⟩ := sk
          have w1 : IntKind.i64.wrap ((ra R k).1 + (ra R k).2) = (ra R k).1 + (ra R k).2 := wrap_in (by omega) (by omega)
          have w2 : IntKind.i64.wrap ((ra R i).1 + (ra R i).2) = (ra R i).1 + (ra R i).2 := wrap_in (by omega) (by omega)
          simp [evOp_call, T.get_set, g0, g3, g4, hkl']
          refine ⟨by kernel_rfl, ?_⟩
          have go : ¬ hit (ra R i) (ra R k) → raJ s2 y R i ((e2.set 4 (.int .i64 ((k + 1 : Nat) : Int)))) s2 → True := fun _ _ => trivial
          have more : ¬ hit (ra R i) (ra R k) → ∀ q, q < k + 1 → ¬ hit (ra R i) (ra R q) := fun h q hq => by
            rcases (by omega : q < k ∨ q = k) with h2 | rfl
            · exact hno q h2
            · exact h
          by_cases c1 : (ra R i).1 < (ra R k).1 + (ra R k).2
          · by_cases c2 : (ra R k).1 < (ra R i).1 + (ra R i).2
            · have hd : decide (apartR R R.length) = false := decide_eq_false fun h => h i hlt k hkl ⟨c1, c2⟩
              simp [evOp_call, T.get_set, g0, g3, g4, hid, hid2, loadE_eq, getC_eq, hg, hg2, t0, t1, u0, u1, w1, w2, c1, c2, hd]
            · simp [evOp_call, T.get_set, g0, g3, g4, hid, hid2, loadE_eq, getC_eq, hg, hg2, t0, t1, u0, u1, w1, w2, c1, c2, hwk]
              exact ⟨⟨k + 1, hkl, by simp [T.get_set, g0], by simp [T.get_set, g3], by simp [T.get_set], more fun h => c2 h.2, rfl⟩, muAt_lt g4 (by simp [T.get_set]) hkl⟩
          · simp [evOp_call, T.get_set, g0, g3, g4, hid, hid2, loadE_eq, getC_eq, hg, hg2, t0, t1, u0, u1, w1, w2, c1, hwk]
            exact ⟨⟨k + 1, hkl, by simp [T.get_set, g0], by simp [T.get_set, g3], by simp [T.get_set], more fun h => c1 h.1, rfl⟩, muAt_lt g4 (by simp [T.get_set]) hkl⟩
        · obtain rfl : k = i := by omega
          simp [evOp_call, T.get_set, g0, g3, g4, hwi]
          refine ⟨⟨k + 1, hlt, by simp [T.get_set, g0], by simp [T.get_set], fun j hj => ?_, rfl⟩, muAt_lt G3 (by simp [T.get_set]) hlt⟩
          rcases (by omega : j < k ∨ j = k) with h2 | rfl
          · exact hap j h2
          · exact hno
    · obtain rfl : i = R.length := by omega
      have hd : decide (apartR R R.length) = true := decide_eq_true hap
      simp [evOp_call, T.get_set, g0, g3, hy.lenS, hd]
end Go.Proofs.Ytlonobfpogimgaa
set_option linter.unusedSimpArgs false
set_option linter.unusedVariables false
namespace Go.Proofs.Ytlonobfpogimgaa
open Go.RowKit Ev
def rcI (st : St) (x : V) (K : List Rn) (e : Env) (s : St) : Prop := ∃ (j : Nat) (y : V), j ≤ K.length ∧ e.get 0 = some x ∧ e.get 3 = some y ∧ e.get 4 = some (.int .i64 (j : Int)) ∧ OwnRow st.nx s y 2 ((K.take j).filter cnt).length (cells ((K.take j).filter cnt)) ∧ Ext st.nx st s
set_option maxRecDepth 20000 in
set_option maxHeartbeats 4000000 in
theorem rcounts_any (st : St) (x : V) (K : List Rn) (hx : RdRow st x 2 K.length (cells K)) (hK : K.length ≤ 1000000) (nt : Nat) :
    Gd (callL Try.prog ⟨false, [], 0, nt⟩ 33 [x] st) (gapR st (K.filter cnt)) := by
  rw [Gd_callL Try.func33 rfl]
  simp [evOp_call, sets, T.get_set]
  refine Gd_loop (rcI st x K) (fun e _ => muAt 4 K.length e) ?_ ?_
  · exact ⟨0, _, Nat.zero_le _, by simp [T.get_set], by simp [T.get_set], by simp [T.get_set], OwnRow.nil _ _ _, Ext.refl _ _⟩
  rintro e s ⟨j, y, hj, g0, g3, g4, hy, hs⟩
  have hxs := hx.ext hs
  by_cases hlt : j < K.length
  case neg =>
    obtain rfl : j = K.length := by omega
    rw [List.take_length] at hy
    simp [evOp_call, T.get_set, g0, g3, g4, hxs.lenS, sets]
    exact ⟨hy, hs⟩
  have hlt' : (j : Int) < (K.length : Int) := by omega
  have hwj := wrap_nat (n := j) (by omega)
  obtain ⟨⟨F, N⟩, hr⟩ : ∃ r, K[j]? = some r := ⟨_, List.getElem?_eq_getElem hlt⟩
  obtain ⟨m1, o1, ty1, sz1, tr1, i1, b1, k1, l1, q1⟩ := hxs.idx (st := s) un46 io80 hlt
  have hcl := cells_get K j _ hr
  have d0 : tr1.get o1 = some (.int .i64 F) := q1 0 _ (by omega) hcl.1
  have d1 : tr1.get (o1 + 1) = some (.int .i64 N) := q1 1 _ (by omega) hcl.2
  have hct := cnt_take K j _ hr
  have hb := hs.le
  have hfl : ((K.take j).filter cnt).length ≤ 1000000 := by
    have := List.length_filter_le cnt (K.take j)
    rw [List.length_take] at this
    omega
  have skip : cnt (F, N) = false → rcI st x K ((e.set 4 (.int .i64 ((j + 1 : Nat) : Int)))) s := fun h => by
    rw [if_neg (by simp [h]), List.append_nil] at hct
    exact ⟨j + 1, y, hlt, by simp [T.get_set, g0], by simp [T.get_set, g3], by simp [T.get_set], by rw [hct]; exact hy, hs⟩
  by_cases c1 : 1 ≤ N
  case neg =>
    simp [evOp_call, T.get_set, g0, g3, g4, hxs.lenS, hlt, hlt', i1, loadE_eq, getC_eq, getsB_succ, getsB_zero, k1, d0, d1, c1, hwj]
    rw [if_neg (by simp [cnt, c1]), List.append_nil] at hct
    exact ⟨⟨j + 1, y, hlt, by simp [T.get_set, g0], by simp [T.get_set, g3], by simp [T.get_set], by rw [hct]; exact hy, hs⟩, muAt_lt g4 (by simp [T.get_set]) hlt⟩
  by_cases c2 : 0 ≤ F
  case neg =>
    simp [evOp_call, T.get_set, g0, g3, g4, hxs.lenS, hlt, hlt', i1, loadE_eq, getC_eq, getsB_succ, getsB_zero, k1, d0, d1, c1, c2, hwj]
    rw [if_neg (by simp [cnt, c1, c2]), List.append_nil] at hct
    exact ⟨⟨j + 1, y, hlt, by simp [T.get_set, g0], by simp [T.get_set, g3], by simp [T.get_set], by rw [hct]; exact hy, hs⟩, muAt_lt g4 (by simp [T.get_set]) hlt⟩
  by_cases c3 : F ≤ 1073741824
  case neg =>
    simp [evOp_call, T.get_set, g0, g3, g4, hxs.lenS, hlt, hlt', i1, loadE_eq, getC_eq, getsB_succ, getsB_zero, k1, d0, d1, c1, c2, c3, hwj]
    rw [if_neg (by simp [cnt, c1, c2, c3]), List.append_nil] at hct
    exact ⟨⟨j + 1, y, hlt, by simp [T.get_set, g0], by simp [T.get_set, g3], by simp [T.get_set], by rw [hct]; exact hy, hs⟩, muAt_lt g4 (by simp [T.get_set]) hlt⟩
  by_cases c4 : N ≤ 1073741824
  case neg =>
    simp [evOp_call, T.get_set, g0, g3, g4, hxs.lenS, hlt, hlt', i1, loadE_eq, getC_eq, getsB_succ, getsB_zero, k1, d0, d1, c1, c2, c3, c4, hwj]
    rw [if_neg (by simp [cnt, c1, c2, c3, c4]), List.append_nil] at hct
    exact ⟨⟨j + 1, y, hlt, by simp [T.get_set, g0], by simp [T.get_set, g3], by simp [T.get_set], by rw [hct]; exact hy, hs⟩, muAt_lt g4 (by simp [T.get_set]) hlt⟩
  rw [if_pos (by simp [cnt, c1, c2, c3, c4])] at hct
  have hx1 : ∀ v, Ext s.nx s ⟨s.nx + 1, s.h.set s.nx v⟩ := fun v => (Ext.refl _ _).new (Nat.le_refl _) v
  simp [evOp_call, T.get_set, g0, g3, g4, hxs.lenS, hlt, hlt', i1, loadE_eq, getC_eq, getsB_succ, getsB_zero, k1, d0, d1, c1, c2, c3, c4, hwj]
  refine evOp_build1 (v := .g [.int .i64 F, .int .i64 N]) (cs := [.int .i64 F, .int .i64 N]) (fun k => el46 k) (fun k => ze80 k) rfl (by omega) (by simp [T.get_set]) (fun k => rfl) rfl ?_
  simp [evOp_call, T.get_set, g0, g3, g4]
  refine Gd_append un46 un46 io80 (n := ((K.take j).filter cnt).length) (lx := 1) (new := [.int .i64 F, .int .i64 N]) (hy.ext (hx1 _)) (by show st.nx ≤ s.nx + 1; omega) (by decide) (fun s' h => by cases h) (fun k => rfl) (fun k => by simp [getC_eq, getsB_2, T.get_set, sets]) rfl (by omega) ?_
  intro y' s4 hy' x4 _ _
  simp [evOp_call, T.get_set, g0, g3, g4, hwj]
  refine ⟨⟨j + 1, y', hlt, by simp [T.get_set, g0], by simp [T.get_set], by simp [T.get_set], ?_, (hs.new hb _).trans x4⟩, muAt_lt g4 (by simp [T.get_set]) hlt⟩
  rw [hct, cells_append, List.length_append]
  exact hy'
/-! ### Blocks, Total -/
def rtI (st : St) (R : List Rn) (y : V) (e : Env) (s : St) : Prop := ∃ k : Nat, k ≤ R.length ∧ e.get 1 = some (.p st.nx 0) ∧ e.get 3 = some (.int .i64 (lens (R.take k))) ∧ e.get 4 = some (.int .i64 (k : Int)) ∧ Ext st.nx st s ∧ ∃ t, s.h.get st.nx = some (.cs 79 4 t) ∧ t.get 3 = some y
set_option maxRecDepth 20000 in
set_option maxHeartbeats 4000000 in
theorem rblk_any (st : St) (R : List Rn) (y : V) (hy : RdRow st y 2 R.length (cells R)) (hK : R.length ≤ 1000000) (hR : ∀ r ∈ R, 1 ≤ r.2 ∧ r.2 ≤ 1073741824) (nt : Nat) :
    Gd (callL Try.prog ⟨false, [], 0, nt⟩ 32 [.g [.int .i64 0, .int .i64 0, .int .i64 0, y]] st) fun r => r.1 = .int .i64 (lens R) ∧ Ext st.nx st r.2 := by
  rw [Gd_callL Try.func32 rfl]
  have hcell : ∀ k : List V → Res, cellsOf (V.g [.int .i64 0, .int .i64 0, .int .i64 0, y]) k = k [.int .i64 0, .int .i64 0, .int .i64 0, y] := fun k => rfl
  have hbd : ∀ k, k ≤ R.length → 0 ≤ lens (R.take k) ∧ lens (R.take k) ≤ (k : Int) * 1073741824 := fun k => by
    induction k with
    | zero => intro _; simp [lens]
    | succ k ih =>
      intro h
      obtain ⟨i1, i2⟩ := ih (by omega)
      have hm := hR R[k] (List.getElem_mem (by omega))
      rw [take_snoc (List.getElem?_eq_getElem (show k < R.length by omega)), lens_app, lens_cons, lens_nil]
      omega
  simp [hcell, evOp_call, sets, T.get_set, newC_is, loadE_eq, getC_eq]
  refine Gd_loop (rtI st R y) (fun en _ => muAt 4 R.length en) ?_ ?_
  · exact ⟨0, Nat.zero_le _, by simp [T.get_set], by simp [T.get_set, lens], by simp [T.get_set], (Ext.refl _ _).new (Nat.le_refl _) _, _, T.get_set_same _ _ _, by simp [T.get_set]⟩
  rintro en s ⟨k, hk, g1, g3, g4, hs, tb, kb, kb3⟩
  have hys := hy.ext hs
  by_cases hlt : k < R.length
  · have hlt' : (k : Int) < R.length := by omega
    have hwk := wrap_nat (n := k) (by omega)
    obtain ⟨m, o, ty, sz, tr, hid, hm, hg, ho, hc⟩ := hys.idx (st := s) un46 io80 hlt
    obtain ⟨⟨F, N⟩, hr⟩ : ∃ r, R[k]? = some r := ⟨_, List.getElem?_eq_getElem hlt⟩
    have hcl := cells_get R k _ hr
    have t1 : tr.get (o + 1) = some (.int .i64 N) := hc 1 _ (by omega) hcl.2
    have hb1 := hbd k hk
    have hb2 := hbd (k + 1) hlt
    have e1 : lens (R.take (k + 1)) = lens (R.take k) + N := by rw [take_snoc hr, lens_app, lens_cons, lens_nil]; simp
    rw [e1] at hb2
    have ws : IntKind.i64.wrap (lens (R.take k) + N) = lens (R.take k) + N := wrapI (by omega) (by omega)
    simp [evOp_call, T.get_set, g1, g3, g4, kb, kb3, hys.lenS, hlt', hid, loadE_eq, getC_eq, hg, t1, hwk, ws]
    exact ⟨⟨k + 1, hlt, by simp [T.get_set, g1], by simp [T.get_set, e1], by simp [T.get_set], hs, tb, kb, kb3⟩, muAt_lt g4 (by simp [T.get_set]) hlt⟩
  · obtain rfl : k = R.length := by omega
    rw [List.take_length] at g3
    simp [evOp_call, T.get_set, g1, g3, g4, kb, kb3, hys.lenS, loadE_eq, getC_eq]
    exact hs
theorem bld_in (x0 : Operand) (a : V) (h : a.one = true) (st : St) : bldK Try.prog 79 [(3, x0)] [a] [.int .i64 0, .int .i64 0, .int .i64 0, .c (.slice none 0 0)] st = some (.g [.int .i64 0, .int .i64 0, .int .i64 0, a], st) := by
  rw [bldK_ok so79, partsK_one rfl h (by simp)]; rfl
set_option maxRecDepth 20000 in
set_option maxHeartbeats 4000000 in
theorem rtotal_any (st : St) (x : V) (K : List Rn) (hx : RdRow st x 2 K.length (cells K)) (hK : K.length ≤ 1000000) (nt : Nat) :
    Gd (callL Try.prog ⟨false, [], 0, nt⟩ 11 [x] st) fun r => r.1 = .int .i64 (lens (K.filter cnt)) ∧ Ext st.nx st r.2 := by
  rw [Gd_callL Try.func11 rfl]
  simp [evOp_call, sets, T.get_set]
  refine Gd.mono (rcounts_any st x K hx hK _) ?_
  rintro ⟨y, s1⟩ ⟨hy, x1⟩
  simp only at hy x1
  have hfl := List.length_filter_le cnt K
  have hone := hy.rd.one
  simp [evOp_call, sets, T.get_set, bld_in _ y hone]
  refine Gd.mono (rblk_any s1 (K.filter cnt) y hy.rd (by omega) (fun r hr => (cnt_ok r hr).2) _) ?_
  rintro ⟨r, s2⟩ ⟨hr, x2⟩
  simp only at hr x2
  subst hr
  simp [evOp_call, sets, T.get_set]
  exact x1.trans (x2.mono x1.le)
end Go.Proofs.Ytlonobfpogimgaa
set_option linter.unusedSimpArgs false
set_option linter.unusedVariables false
namespace Go.Proofs.Ytlonobfpogimgaa
open Go.RowKit Ev
def rmI (st : St) (c : V) (K : List Rn) (e : Env) (s : St) : Prop := ∃ (j : Nat) (y : V), j ≤ K.length ∧ e.get 0 = some c ∧ e.get 4 = some (.int .i64 (j : Int)) ∧ e.get 3 = some y ∧ Ext st.nx st s ∧ OwnRow st.nx s y 2 j (cells (K.take j))
set_option maxRecDepth 20000 in
set_option maxHeartbeats 4000000 in
theorem rmergeN_any (st : St) (x : V) (K : List Rn) (hx : RdRow st x 2 K.length (cells K)) (hK : K.length ≤ 1000000) (hc : K.filter cnt = K) (hnt : NoT K) (nt : Nat) : Gd (callL Try.prog ⟨false, [], 0, nt⟩ 14 [x] st) (gapR st K) := by
  rw [Gd_callL Try.func14 rfl]
  have hok : ∀ r ∈ K, (0 ≤ r.1 ∧ r.1 ≤ 1073741824) ∧ (1 ≤ r.2 ∧ r.2 ≤ 1073741824) := fun r hr => cnt_ok r (by rw [hc]; exact hr)
  simp [evOp_call, sets, T.get_set]
  refine Gd.mono (rcounts_any st x K hx hK _) ?_
  rintro ⟨c, s1⟩ ⟨hcr, e1⟩
  simp only at hcr e1
  rw [hc] at hcr
  simp [evOp_call, sets, T.get_set]
  refine Gd_loop (rmI s1 c K) (fun e _ => muAt 4 K.length e) ?_ ?_
  · exact ⟨0, _, Nat.zero_le _, by simp [T.get_set], by simp [T.get_set], by simp [T.get_set], Ext.refl _ _, OwnRow.nil _ _ _⟩
  rintro e s ⟨j, y, hj, g0, g4, g3, hs, hy⟩
  have hcs := hcr.rd.ext hs
  by_cases hlt : j < K.length
  case neg =>
    obtain rfl : j = K.length := by omega
    rw [List.take_length] at hy
    simp [evOp_call, T.get_set, g0, g4, g3, hcs.lenS, sets]
    exact ⟨ownLow hy e1.le, e1.trans (hs.mono e1.le)⟩
  have hlt' : (j : Int) < (K.length : Int) := by omega
  have hwj : IntKind.i64.wrap ((j : Int) + 1) = ((j + 1 : Nat) : Int) := by rw [wrapI (by omega) (by omega)]; omega
  obtain ⟨⟨F, N⟩, hr⟩ : ∃ r, K[j]? = some r := ⟨_, List.getElem?_eq_getElem hlt⟩
  obtain ⟨m1, o1, ty1, sz1, tr1, i1, b1, k1, l1, c1⟩ := hcs.idx (st := s) un46 io80 hlt
  have hcl := cells_get K j _ hr
  have d0 : tr1.get o1 = some (.int .i64 F) := c1 0 _ (by omega) hcl.1
  have d1 : tr1.get (o1 + 1) = some (.int .i64 N) := c1 1 _ (by omega) hcl.2
  have hb := hs.le
  have hx2 : ∀ v, Ext s.nx s ⟨s.nx + 1, s.h.set s.nx v⟩ := fun v => (Ext.refl _ _).new (Nat.le_refl _) v
  by_cases h0 : j = 0
  · subst h0
    have hln : ∀ s' : St, lenS s' y = some (.int .i64 0, s') := fun s' => hy.rd.lenS s'
    simp [evOp_call, T.get_set, g0, g4, g3, hlt, hlt', hcs.lenS, i1, loadE_eq, getC_eq, getsB_succ, getsB_zero, k1, d0, d1, sets, hln]
    refine ⟨by kernel_rfl, ?_⟩
    refine evOp_build1 (v := .g [.int .i64 F, .int .i64 N]) (cs := [.int .i64 F, .int .i64 N]) (fun k => el46 k) (fun k => ze80 k) rfl (by omega) (by simp [T.get_set]) (fun k => rfl) rfl ?_
    simp [evOp_call, T.get_set, g0, g4, g3, -Int.natCast_add]
    refine Gd_append un46 un46 io80 (n := 0) (lx := 1) (new := [.int .i64 F, .int .i64 N]) (hy.ext (hx2 _)) (by show s1.nx ≤ s.nx + 1; omega) (by decide) (fun s' h => by cases h) (fun k => rfl) (fun k => by simp [getC_eq, getsB_2, T.get_set, sets]) rfl (by omega) ?_
    intro y' s4 hy' x4 _ _
    have w11 : IntKind.i64.wrap 1 = 1 := by decide
    have hs4 : Ext s1.nx s s4 := ((hx2 _).mono hb).trans x4
    simp [evOp_call, T.get_set, g0, g4, g3, hwj, w11, -Int.natCast_add]
    refine ⟨⟨0 + 1, y', by omega, by simp [T.get_set, g0], by simp [T.get_set, w11], by simp [T.get_set], hs.trans hs4, ?_⟩, muAt_lt g4 (by simp [T.get_set, w11]) hlt⟩
    rw [take_snoc hr, cells_append]
    exact hy'
  obtain ⟨k0, rfl⟩ : ∃ k0, j = k0 + 1 := ⟨j - 1, by omega⟩
  have hln : ∀ s' : St, lenS s' y = some (.int .i64 ((k0 + 1 : Nat) : Int), s') := fun s' => hy.rd.lenS s'
  have wm : IntKind.i64.wrap (((k0 + 1 : Nat) : Int) - 1) = (k0 : Int) := by rw [wrapI (by omega) (by omega)]; omega
  obtain ⟨p, hpk⟩ : ∃ p, K[k0]? = some p := ⟨_, List.getElem?_eq_getElem (by omega)⟩
  have hpo := hok p (List.mem_of_getElem? hpk)
  have hnp := hnt k0 p _ hpk hr
  simp only at hnp
  obtain ⟨m2, o2, ty2, sz2, tr2, i2, b2, k2, l2, c2⟩ := hy.rd.idx (st := s) un46 io80 (i := k0) (by omega)
  have hcl2 := cells_get (K.take (k0 + 1)) k0 p (by rw [List.getElem?_take]; simp [hpk])
  have f0 : tr2.get o2 = some (.int .i64 p.1) := c2 0 _ (by omega) hcl2.1
  have f1 : tr2.get (o2 + 1) = some (.int .i64 p.2) := c2 1 _ (by omega) hcl2.2
  have ws : IntKind.i64.wrap (p.1 + p.2) = p.1 + p.2 := wrapI (by omega) (by omega)
  have hk0 : (0 : Int) < ((k0 + 1 : Nat) : Int) := by omega
  simp [evOp_call, T.get_set, g0, g4, g3, hlt, hlt', hcs.lenS, hln, hk0, sets, -Int.natCast_add]
  refine ⟨by kernel_rfl, ?_⟩
  simp [evOp_call, T.get_set, g0, g4, g3, wm, hk0, i1, i2, loadE_eq, getC_eq, getsB_succ, getsB_zero, k1, d0, d1, k2, f0, f1, ws, hnp, sets, -Int.natCast_add]
  refine evOp_build1 (v := .g [.int .i64 F, .int .i64 N]) (cs := [.int .i64 F, .int .i64 N]) (fun k => el46 k) (fun k => ze80 k) rfl (by omega) (by simp [T.get_set]) (fun k => rfl) rfl ?_
  simp [evOp_call, T.get_set, g0, g4, g3, -Int.natCast_add]
  refine Gd_append un46 un46 io80 (n := (k0 + 1)) (lx := 1) (new := [.int .i64 F, .int .i64 N]) (hy.ext (hx2 _)) (by show s1.nx ≤ s.nx + 1; omega) (by decide) (fun s' h => by cases h) (fun k => rfl) (fun k => by simp [getC_eq, getsB_2, T.get_set, sets]) rfl (by omega) ?_
  intro y' s4 hy' x4 _ _
  have w11 : IntKind.i64.wrap 1 = 1 := by decide
  have hs4 : Ext s1.nx s s4 := ((hx2 _).mono hb).trans x4
  simp [evOp_call, T.get_set, g0, g4, g3, hwj, w11, -Int.natCast_add]
  refine ⟨⟨(k0 + 1) + 1, y', by omega, by simp [T.get_set, g0], by simp [T.get_set, w11], by simp [T.get_set], hs.trans hs4, ?_⟩, muAt_lt g4 (by simp [T.get_set, w11]) hlt⟩
  rw [take_snoc hr, cells_append]
  exact hy'
end Go.Proofs.Ytlonobfpogimgaa
set_option linter.unusedSimpArgs false
set_option linter.unusedVariables false
namespace Go.Proofs.Ytlonobfpogimgaa
open Go.RowKit Ev
theorem freeF_yes {p : Nat → Bool} {N f : Nat} : ∀ {k i w : Nat} {a : Int}, f + w ≤ i → w < N → (∀ j, i - w ≤ j → j < i → p j = false) → (i - w = f ∨ (f < i - w ∧ p (i - w - 1) = true)) → freeF p (N : Int) k i (w : Int) = some a →
    ∃ u : Nat, a = (u : Int) ∧ f ≤ u ∧ u + N ≤ i + k ∧ (∀ j, u ≤ j → j < u + N → p j = false) ∧ (u = f ∨ (f < u ∧ p (u - 1) = true))
  | 0, i, w, a, _, _, _, _, h => by simp [freeF] at h
  | k + 1, i, w, a, h1, h2, h3, h4, h => by
    unfold freeF at h
    by_cases hp : p i = true
    · rw [if_pos hp] at h
      obtain ⟨u, u1, u2, u3, u4, u5⟩ := freeF_yes (w := 0) (f := f) (by omega) (by omega) (fun j j1 j2 => by omega) (.inr ⟨by omega, by simpa using hp⟩) h
      exact ⟨u, u1, u2, by omega, u4, u5⟩
    · rw [if_neg hp] at h
      by_cases hn : (w : Int) + 1 = (N : Int)
      · rw [if_pos hn] at h
        injection h with h
        refine ⟨i - w, by omega, by omega, by omega, fun j j1 j2 => ?_, h4⟩
        by_cases e : j = i
        · subst e; simpa using hp
        · exact h3 j j1 (by omega)
      · rw [if_neg hn] at h
        have hc : (w : Int) + 1 = ((w + 1 : Nat) : Int) := by omega
        rw [hc] at h
        obtain ⟨u, u1, u2, u3, u4, u5⟩ := freeF_yes (w := w + 1) (f := f) (by omega) (by omega) (fun j j1 j2 => by
          by_cases e : j = i
          · subst e; simpa using hp
          · exact h3 j (by omega) (by omega)) (by rw [show i + 1 - (w + 1) = i - w by omega]; exact h4) h
        exact ⟨u, u1, u2, by omega, u4, u5⟩
theorem freeF_no {p : Nat → Bool} {N : Nat} : ∀ {k i w : Nat}, w ≤ i → w < N → freeF p (N : Int) k i (w : Int) = none → ∀ u, i - w ≤ u → u + N ≤ i + k → ∃ j, u ≤ j ∧ j < u + N ∧ p j = true
  | 0, i, w, h1, h2, h => fun u u1 u2 => by omega
  | k + 1, i, w, h1, h2, h => fun u u1 u2 => by
    unfold freeF at h
    by_cases hp : p i = true
    · rw [if_pos hp] at h
      by_cases hu : u ≤ i
      · exact ⟨i, hu, by omega, hp⟩
      · exact freeF_no (w := 0) (by omega) (by omega) h u (by omega) (by omega)
    · rw [if_neg hp] at h
      by_cases hn : (w : Int) + 1 = (N : Int)
      · rw [if_pos hn] at h; cases h
      · rw [if_neg hn] at h
        have hc : (w : Int) + 1 = ((w + 1 : Nat) : Int) := by omega
        rw [hc] at h
        exact freeF_no (w := w + 1) (by omega) (by omega) h u (by omega) (by omega)
theorem freeB_nat (L : List (BitVec 64)) {f e N : Nat} (he : e ≤ L.length * 64) (hN : 1 ≤ N) : freeB L (f : Int) (e : Int) (N : Int) = freeF (bit L) (N : Int) (e - f) f ((0 : Nat) : Int) := by
  have h1 : fromB (f : Int) = (f : Int) := by unfold fromB; split <;> omega
  have h2 : endB L (e : Int) = (e : Int) := by unfold endB; rw [if_neg (by omega)]
  unfold freeB
  rw [if_neg (by omega), h1, h2]
  have e1 : ((e : Int) - (f : Int)).toNat = e - f := by omega
  rw [e1]
  rfl
theorem freeB_some {L : List (BitVec 64)} {f e N : Nat} (hfe : f ≤ e) (he : e ≤ L.length * 64) (hN : 1 ≤ N) {a : Int} (h : freeB L (f : Int) (e : Int) (N : Int) = some a) : ∃ u : Nat, a = (u : Int) ∧ f ≤ u ∧ u + N ≤ e ∧ (∀ j, u ≤ j → j < u + N → bit L j = false) ∧ (u = f ∨ (f < u ∧ bit L (u - 1) = true)) := by
  rw [freeB_nat L he hN] at h
  obtain ⟨u, u1, u2, u3, u4, u5⟩ := freeF_yes (f := f) (by omega) (by omega) (fun j j1 j2 => by omega) (.inl (by omega)) h
  exact ⟨u, u1, u2, by omega, u4, u5⟩
theorem freeB_none {L : List (BitVec 64)} {f e N : Nat} (hfe : f ≤ e) (he : e ≤ L.length * 64) (hN : 1 ≤ N) (h : freeB L (f : Int) (e : Int) (N : Int) = none) : ∀ u, f ≤ u → u + N ≤ e → ∃ j, u ≤ j ∧ j < u + N ∧ bit L j = true := by
  rw [freeB_nat L he hN] at h
  intro u u1 u2
  exact freeF_no (by omega) (by omega) h u (by omega) (by omega)
/-- what one finds -/
theorem one_some {L : List (BitVec 64)} {g : Gm} {f e : Nat} (hg : isGood g) (hf : dF g = (f : Int)) (he : dF g + dN g = (e : Int)) (hfe : f ≤ e) (he3 : e ≤ L.length * 64) {c : Int} (hc0 : 0 ≤ c) (hc1 : c < g.c) {N : Nat} (hN : 1 ≤ N) {a : Int} (h : oneO L g f e c (N : Int) = some a) :
    ∃ u : Nat, a = (u : Int) ∧ f ≤ u ∧ u + N ≤ e ∧ (∀ j, u ≤ j → j < u + N → bit L j = false) ∧ (u = f ∨ (u : Int) = gF g c ∨ (f < u ∧ bit L (u - 1) = true)) := by
  obtain ⟨i1, i2, i3, i4, i5, i6⟩ := grp_in hg hc0 hc1
  unfold oneO at h
  obtain ⟨u0, hu0⟩ := Int.eq_ofNat_of_zero_le i1
  obtain ⟨v0, hv0⟩ := Int.eq_ofNat_of_zero_le i3
  have hsum : gF g c + grpN g c = ((u0 + v0 : Nat) : Int) := by omega
  rw [hsum, hu0] at h
  cases h1 : freeB L (u0 : Int) ((u0 + v0 : Nat) : Int) (N : Int) with
  | some b =>
    rw [h1] at h
    simp only at h
    injection h with h
    subst h
    obtain ⟨u, w1, w2, w3, w4, w5⟩ := freeB_some (by omega) (by omega) hN h1
    refine ⟨u, w1, by omega, by omega, w4, ?_⟩
    rcases w5 with rfl | ⟨w5, w6⟩
    · exact .inr (.inl hu0.symm)
    · exact .inr (.inr ⟨by omega, w6⟩)
  | none =>
    rw [h1] at h
    simp only at h
    obtain ⟨u, w1, w2, w3, w4, w5⟩ := freeB_some hfe he3 hN h
    refine ⟨u, w1, w2, w3, w4, ?_⟩
    rcases w5 with rfl | w5
    · exact .inl rfl
    · exact .inr (.inr w5)
theorem one_none {L : List (BitVec 64)} {g : Gm} {f e : Nat} (hfe : f ≤ e) (he3 : e ≤ L.length * 64) {c : Int} {N : Nat} (hN : 1 ≤ N) (h : oneO L g f e c (N : Int) = none) : ∀ u, f ≤ u → u + N ≤ e → ∃ j, u ≤ j ∧ j < u + N ∧ bit L j = true := by
  unfold oneO at h
  split at h
  · cases h
  · exact freeB_none hfe he3 hN h
/-- no gap holds what one does not find -/
theorem gap_short {L : List (BitVec 64)} {g : Gm} {f e : Nat} (hfe : f ≤ e) (he3 : e ≤ L.length * 64) {c : Int} {N : Nat} (hN : 1 ≤ N) (h : oneO L g f e c (N : Int) = none) {r : Rn} (hr : Gap L f e r) : r.2 < (N : Int) := by
  obtain ⟨g1, g2, g3, g4, g5⟩ := hr
  by_cases hc : r.2 < (N : Int)
  · exact hc
  · exfalso
    obtain ⟨u, hu⟩ := Int.eq_ofNat_of_zero_le (show 0 ≤ r.1 by omega)
    obtain ⟨j, j1, j2, j3⟩ := one_none hfe he3 hN h u (by omega) (by omega)
    have := g4 j (by omega) (by omega)
    rw [j3] at this; cases this
end Go.Proofs.Ytlonobfpogimgaa
set_option linter.unusedSimpArgs false
set_option linter.unusedVariables false
namespace Go.Proofs.Ytlonobfpogimgaa
open Go.RowKit Ev
def rowS (L : List (BitVec 64)) (e : Nat) (σ : List Int × Int) (i : Nat) : List Int × Int := if i < e ∧ bit L i = false then (σ.1, σ.2 + 1) else (if 0 < σ.2 then σ.1 ++ [σ.2] else σ.1, 0)
def rowsG (L : List (BitVec 64)) (e : Nat) : Nat → Nat → List Int × Int → List Int × Int
  | 0, _, σ => σ
  | k + 1, i, σ => rowsG L e k (i + 1) (rowS L e σ i)
theorem rows_taken {L : List (BitVec 64)} {e b : Nat} (hb : b ≤ e) : ∀ (n i : Nat) (R : List Int), b - i = n → i ≤ b → (∀ j, i ≤ j → j < b → bit L j = true) → rowsG L e (e + 1 - i) i (R, 0) = rowsG L e (e + 1 - b) b (R, 0)
  | 0, i, R, hn, hi, h => by
    obtain rfl : i = b := by omega
    rfl
  | n + 1, i, R, hn, hi, h => by
    have e1 : e + 1 - i = (e - i) + 1 := by omega
    have e2 : rowS L e (R, 0) i = (R, 0) := by
      unfold rowS
      rw [if_neg (by rw [h i (Nat.le_refl _) (by omega)]; simp), if_neg (by simp)]
    rw [e1]
    show rowsG L e (e - i) (i + 1) (rowS L e (R, 0) i) = _
    rw [e2, show e - i = e + 1 - (i + 1) by omega]
    exact rows_taken hb n (i + 1) R (by omega) (by omega) fun j j1 j2 => h j (by omega) j2
theorem rows_free {L : List (BitVec 64)} {e b : Nat} (hb : b ≤ e) : ∀ (n i : Nat) (R : List Int) (w : Int), b - i = n → i ≤ b → (∀ j, i ≤ j → j < b → bit L j = false) → rowsG L e (e + 1 - i) i (R, w) = rowsG L e (e + 1 - b) b (R, w + (n : Int))
  | 0, i, R, w, hn, hi, h => by
    obtain rfl : i = b := by omega
    simp
  | n + 1, i, R, w, hn, hi, h => by
    have e1 : e + 1 - i = (e - i) + 1 := by omega
    have e2 : rowS L e (R, w) i = (R, w + 1) := by
      unfold rowS
      rw [if_pos ⟨by omega, h i (Nat.le_refl _) (by omega)⟩]
    rw [e1]
    show rowsG L e (e - i) (i + 1) (rowS L e (R, w) i) = _
    rw [e2, show e - i = e + 1 - (i + 1) by omega, rows_free hb n (i + 1) R (w + 1) (by omega) (by omega) fun j j1 j2 => h j (by omega) j2]
    have e3 : w + 1 + (n : Int) = w + ((n + 1 : Nat) : Int) := by omega
    rw [e3]
theorem rows_gaps {L : List (BitVec 64)} {e : Nat} (he : e ≤ L.length * 64) : ∀ (K : List Rn) (f : Nat) (R : List Int), f ≤ e → gapsP L e K f → rowsG L e (e + 1 - f) f (R, 0) = (R ++ K.map (fun r => r.2), 0)
  | [], f, R, hfe, h => by
    rw [rows_taken (Nat.le_refl e) (e - f) f R rfl hfe fun j j1 j2 => by simpa using nextB_none hfe he h j j1 j2]
    rw [show e + 1 - e = 1 by omega]
    show rowS L e (R, 0) e = _
    unfold rowS
    rw [if_neg (by omega), if_neg (by simp)]
    simp
  | r :: K, f, R, hfe, h => by
    obtain ⟨a, b, rfl, h1, h2, h3, h4, h5, h6⟩ := h
    obtain ⟨a1, a2, a3, a4⟩ := nextB_some hfe he h1
    have fr : ∀ j : Nat, a ≤ j → j < b → bit L j = false := fun j j1 j2 => by
      rcases h5 with h5 | ⟨h5, rfl⟩
      · simpa using (nextB_some (by omega) he h5).2.2.2 j j1 j2
      · simpa using nextB_none (by omega) he h5 j j1 (by omega)
    have sp : ¬ (b < e ∧ bit L b = false) := by
      rcases h5 with h5 | ⟨h5, rfl⟩
      · rw [(nextB_some (by omega) he h5).2.2.1]; simp
      · omega
    rw [rows_taken (b := a) (by omega) (a - f) f R rfl (by omega) fun j j1 j2 => by simpa using a4 j j1 j2]
    rw [rows_free h4 (b - a) a R 0 rfl (by omega) fr]
    have ih := rows_gaps he K b (R ++ [(b : Int) - (a : Int)]) (by omega) h6
    have e1 : e + 1 - b = (e - b) + 1 := by omega
    rw [e1] at ih ⊢
    have e2 : (0 : Int) + ((b - a : Nat) : Int) = (b : Int) - (a : Int) := by omega
    have s1 : rowS L e (R, 0 + ((b - a : Nat) : Int)) b = (R ++ [(b : Int) - (a : Int)], 0) := by
      unfold rowS
      rw [if_neg sp, e2, if_pos (by simp only; omega)]
    have s2 : rowS L e (R ++ [(b : Int) - (a : Int)], 0) b = (R ++ [(b : Int) - (a : Int)], 0) := by
      unfold rowS
      rw [if_neg sp, if_neg (by simp)]
    show rowsG L e (e - b) (b + 1) (rowS L e (R, 0 + ((b - a : Nat) : Int)) b) = _
    have ih' : rowsG L e (e - b) (b + 1) (rowS L e (R ++ [(b : Int) - (a : Int)], 0) b) = (R ++ [(b : Int) - (a : Int)] ++ K.map (fun r => r.2), 0) := ih
    rw [s1, ← s2, ih']
    simp
/-! ### the longest first -/
/-- in how many of the longest rows n are found -/
def grF : List Int → Int → Nat → Int → Option Nat
  | [], _, _, _ => none
  | s :: S, n, k, most => if (k : Int) = most then none else if n - s ≤ 0 then some (k + 1) else grF S (n - s) (k + 1) most
def grV (r : Option Nat) : V := match r with
  | some c => .t [.int .i64 (c : Int), .bool true]
  | none => .t [.int .i64 0, .bool false]
end Go.Proofs.Ytlonobfpogimgaa
set_option linter.unusedSimpArgs false
set_option linter.unusedVariables false
namespace Go.Proofs.Ytlonobfpogimgaa
open Go.RowKit Ev
theorem at_perm : ∀ (l : List Int) (i : Nat) (h : i < l.length), (l[i] :: l.eraseIdx i).Perm l
  | [], i, h => absurd h (by simp)
  | a :: l, 0, h => by simp
  | a :: l, i + 1, h => by
    have h' : i < l.length := by simpa using h
    have ih := at_perm l i h'
    show (l[i] :: a :: l.eraseIdx i).Perm (a :: l)
    exact (List.Perm.swap a l[i] (l.eraseIdx i)).trans (List.Perm.cons a ih)
theorem set_perm {R : List Int} {b : Nat} (h : b < R.length) (v : Int) : (R.set b v).Perm (v :: R.eraseIdx b) := by
  have h2 : b < (R.set b v).length := by simpa using h
  have := (at_perm _ _ h2).symm
  rw [List.getElem_set_self, List.eraseIdx_set_eq] at this
  exact this
theorem best_is {R S : List Int} {s : Int} {z b : Nat} (hp : R.Perm (s :: (S ++ List.replicate z 0))) (hs : ∀ t ∈ S, t ≤ s) (h0 : 0 ≤ s) (hb : b < R.length) (hm : ∀ j (h : j < R.length), R[j] ≤ R[b]) : R[b] = s ∧ (R.set b 0).Perm (S ++ List.replicate (z + 1) 0) := by
  have e1 : R[b] ≤ s := by
    have h1 := hp.mem_iff.1 (List.getElem_mem hb)
    rcases List.mem_cons.1 h1 with h1 | h1
    · omega
    · rcases List.mem_append.1 h1 with h1 | h1
      · exact hs _ h1
      · have := List.eq_of_mem_replicate h1; omega
  have e2 : s ≤ R[b] := by
    obtain ⟨j, hj, e⟩ := List.getElem_of_mem (hp.mem_iff.2 (List.mem_cons_self ..))
    have := hm j hj
    omega
  have e3 : R[b] = s := by omega
  refine ⟨e3, ?_⟩
  have p1 := (at_perm R b hb).trans hp
  rw [e3] at p1
  have p2 := p1.cons_inv
  refine (set_perm hb 0).trans ((List.Perm.cons 0 p2).trans ?_)
  rw [List.replicate_succ]
  exact List.perm_middle.symm
/-- what is kept of runs when n are wanted -/
def spA : List Rn → Int → List Rn
  | [], _ => []
  | r :: K, n => if n ≤ 0 then [] else if r.2 ≤ n then r :: spA K (n - r.2) else [(r.1, n)]
theorem spA_is : ∀ (K A : List Rn) (n : Int), 0 ≤ n → (∀ r ∈ K, 1 ≤ r.2) → (K.foldl spS (A, [], n)).1 = A ++ spA K n
  | [], A, n, _, _ => by simp [spA]
  | r :: K, A, n, hn, h => by
    have h1 := h r (List.mem_cons_self ..)
    have hK : ∀ q ∈ K, 1 ≤ q.2 := fun q hq => h q (List.mem_cons_of_mem _ hq)
    by_cases c0 : n ≤ 0
    · obtain rfl : n = 0 := by omega
      rw [spl_zero (r :: K) A [] h]
      simp [spA]
    · by_cases c1 : r.2 ≤ n
      · have e : spS (A, [], n) r = (A ++ [r], [], n - r.2) := by unfold spS; rw [if_pos c1]
        rw [List.foldl_cons, e, spA_is K (A ++ [r]) (n - r.2) (by omega) hK]
        simp [spA, c0, c1]
      · have e : spS (A, [], n) r = (A ++ [(r.1, n)], [(r.1 + n, r.2 - n)], 0) := by unfold spS; rw [if_neg c1, if_pos (show (0 : Int) < n by omega)]; rfl
        rw [List.foldl_cons, e, spl_zero K _ _ hK]
        simp [spA, c0, c1]
theorem spA_le : ∀ (K : List Rn) (n : Int), 0 ≤ n → (∀ r ∈ K, 1 ≤ r.2) → lens (spA K n) ≤ n
  | [], n, hn, _ => by simp [spA, lens_nil]; exact hn
  | r :: K, n, hn, h => by
    unfold spA
    by_cases c0 : n ≤ 0
    · rw [if_pos c0, lens_nil]; omega
    · rw [if_neg c0]
      by_cases c1 : r.2 ≤ n
      · rw [if_pos c1, lens_cons]
        have := spA_le K (n - r.2) (by omega) fun q hq => h q (List.mem_cons_of_mem _ hq)
        omega
      · rw [if_neg c1, lens_cons, lens_nil]
        simp
theorem gr_spA : ∀ (K : List Rn) (n most : Int) (j : Nat), 0 < n → (j : Int) ≤ most → (∀ r ∈ K, 1 ≤ r.2) →
    grF (K.map fun r => r.2) n j most = if lens (spA K n) < n ∨ most < (j : Int) + ((spA K n).length : Int) then none else some (j + (spA K n).length)
  | [], n, most, j, hn, hj, _ => by
    have : lens (spA [] n) < n := by simp [spA, lens_nil]; exact hn
    rw [if_pos (.inl this)]
    rfl
  | r :: K, n, most, j, hn, hj, h => by
    have h1 := h r (List.mem_cons_self ..)
    have hK : ∀ q ∈ K, 1 ≤ q.2 := fun q hq => h q (List.mem_cons_of_mem _ hq)
    have c0 : ¬ n ≤ 0 := by omega
    show (if (j : Int) = most then none else if n - r.2 ≤ 0 then some (j + 1) else grF (K.map fun r => r.2) (n - r.2) (j + 1) most) = _
    by_cases c1 : r.2 ≤ n
    · have e : spA (r :: K) n = r :: spA K (n - r.2) := by simp [spA, c0, c1]
      rw [e, lens_cons]
      simp only [List.length_cons]
      by_cases c2 : (j : Int) = most
      · rw [if_pos c2, if_pos (.inr (by omega))]
      · rw [if_neg c2]
        by_cases c3 : n - r.2 ≤ 0
        · have e0 : spA K (n - r.2) = [] := by
            cases K with
            | nil => rfl
            | cons q K => simp [spA, c3]
          rw [if_pos c3, e0, lens_nil]
          simp only [List.length_nil]
          rw [if_neg (by omega)]
        · rw [if_neg c3, gr_spA K (n - r.2) most (j + 1) (by omega) (by omega) hK]
          by_cases c4 : lens (spA K (n - r.2)) < n - r.2 ∨ most < ((j + 1 : Nat) : Int) + ((spA K (n - r.2)).length : Int)
          · rw [if_pos c4, if_pos (by omega)]
          · rw [if_neg c4, if_neg (by omega)]
            congr 1
            omega
    · have e : spA (r :: K) n = [(r.1, n)] := by simp [spA, c0, c1]
      rw [e, lens_cons, lens_nil]
      simp only [List.length_cons, List.length_nil]
      by_cases c2 : (j : Int) = most
      · rw [if_pos c2, if_pos (.inr (by omega))]
      · rw [if_neg c2, if_pos (by omega), if_neg (by omega)]
end Go.Proofs.Ytlonobfpogimgaa

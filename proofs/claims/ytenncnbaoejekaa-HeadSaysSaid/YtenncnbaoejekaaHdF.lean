/-
  Heads are found.
-/
import Derived.Test.YtenncnbaoejekaaHdI
set_option linter.unusedSimpArgs false
namespace Go.Proofs.Ytenncnbaoejekaa
open Go.RowKit Ev
def ofH (b : Int) (L : List (BitVec 64)) : Option (Gm × BitVec 64) := match getH L with
  | some (g, p) => if g.b = b then some (g, p) else none
  | none => none
set_option maxRecDepth 20000 in
set_option maxHeartbeats 4000000 in
theorem hof_any (st : St) (b : Int) (x : V) (L : List (BitVec 64)) (hx : RdRow st x 1 L.length (wv L)) (nt : Nat) :
    Gd (callL Try.prog ⟨false, [], 0, nt⟩ 131 [.int .i64 b, x] st) fun r => r.1 = getHV (ofH b L) ∧ Ext st.nx st r.2 := by
  rw [Gd_callL Try.func131 rfl]
  simp [evOp_call, sets, T.get_set, newC_is]
  refine Gd.mono (hget_any _ x L (hx.ext (hbox_ext st _)) _) ?_
  rintro ⟨r, s1⟩ ⟨hr, x1⟩
  simp only at hr x1
  subst hr
  have l1 : st.nx < s1.nx := x1.le
  have k0 : s1.h.get st.nx = _ := (x1.keep _ (Nat.lt_succ_self _)).trans (T.get_set_same _ _ _)
  have n1 : ¬ s1.nx = st.nx := by omega
  have hs1 : Ext st.nx st s1 := (hbox_ext st _).trans (x1.mono (Nat.le_succ _))
  have hfin : ∀ v w, Ext st.nx st ⟨s1.nx + 1, (s1.h.set s1.nx v).set st.nx w⟩ := fun v w => (hs1.new (by omega) v).set (m := st.nx) (Nat.le_refl _) (by show st.nx < s1.nx + 1; omega) w
  cases hg : getH L with
  | none =>
    have ho : ofH b L = none := by unfold ofH; rw [hg]
    simp [getHV, hdV, evOp_call, sets, T.get_set, newC_is, storeK_g, putB_eq, roT, loadE_eq, getC_eq, getsB_succ, getsB_zero, k0, n1, ho]
    exact ⟨rfl, hfin _ _⟩
  | some gp =>
    obtain ⟨g, p⟩ := gp
    by_cases hb : g.b = b
    · have ho : ofH b L = some (g, p) := by unfold ofH; rw [hg]; exact if_pos hb
      simp [getHV, hdV, evOp_call, sets, T.get_set, newC_is, storeK_g, putB_eq, roT, loadE_eq, getC_eq, getsB_succ, getsB_zero, k0, n1, ho, hb]
      exact hfin _ _
    · have ho : ofH b L = none := by unfold ofH; rw [hg]; exact if_neg hb
      simp [getHV, hdV, evOp_call, sets, T.get_set, newC_is, storeK_g, putB_eq, roT, loadE_eq, getC_eq, getsB_succ, getsB_zero, k0, n1, ho, hb]
      exact ⟨rfl, hfin _ _⟩
def hdO (a b : Option (Gm × BitVec 64)) : V := match a with
  | some (g, p) => hdV g p
  | none => (match b with
    | some (g, p) => hdV g p
    | none => hdV ⟨0, 0, 0, 0⟩ 0#64)
def findHV (a b : Option (Gm × BitVec 64)) : V := .t [hdO a b, .bool a.isSome, .bool b.isSome]
def hdG (a : Option (Gm × BitVec 64)) : V := match a with
  | some (g, p) => hdV g p
  | none => hdV ⟨0, 0, 0, 0⟩ 0#64
theorem getHV_eq (a : Option (Gm × BitVec 64)) : ∃ g p, getHV a = .t [hdV g p, .bool a.isSome] ∧ hdG a = hdV g p := by
  cases a with
  | none => exact ⟨_, _, rfl, rfl⟩
  | some q => exact ⟨_, _, rfl, rfl⟩
theorem hdO_t {a : Option (Gm × BitVec 64)} (b : Option (Gm × BitVec 64)) (h : a.isSome = true) : hdO a b = hdG a := by
  cases a with
  | none => cases h
  | some q => rfl
theorem hdO_f {a : Option (Gm × BitVec 64)} (b : Option (Gm × BitVec 64)) (h : a.isSome = false) : hdO a b = hdG b := by
  cases a with
  | none => cases b <;> rfl
  | some q => cases h
set_option maxRecDepth 20000 in
set_option maxHeartbeats 8000000 in
theorem hfind_any (st : St) (b0 : Nat) (y : V) (bl : Nat) (hb : 64 ≤ bl ∧ bl ≤ 1024) (L : List (BitVec 64)) (hy : SlRow b0 st y (8 * bl) L) (nt : Nat) :
    Gd (callL Try.prog ⟨false, [], 0, nt⟩ 63 [y] st) fun r => r.1 = findHV (ofH bl (L.take 8)) (ofH bl (L.drop (8 * bl - 8))) ∧ Ext st.nx st r.2 := by
  rw [Gd_callL Try.func63 rfl]
  have hL := hy.1
  have hrd := hy.rd
  obtain ⟨n, hn⟩ : ∃ n, n = 8 * bl := ⟨_, rfl⟩
  rw [← hn] at hy hrd hL ⊢
  obtain ⟨m0, hm0⟩ : ∃ m0, m0 = n - 8 := ⟨_, rfl⟩
  rw [← hm0]
  have w0 : (n : Int).tdiv 8 = (bl : Int) := by rw [Int.tdiv_eq_ediv_of_nonneg (by omega)]; omega
  have w1 : IntKind.i64.wrap (bl : Int) = (bl : Int) := wrap_in (by omega) (by omega)
  have w2 : IntKind.i64.wrap ((bl : Int) * 8) = (n : Int) := by rw [show (bl : Int) * 8 = (n : Int) by omega]; exact wrap_in (by omega) (by omega)
  have w3 : IntKind.i64.wrap ((n : Int) - 8) = (m0 : Int) := by rw [show (n : Int) - 8 = (m0 : Int) by omega]; exact wrap_in (by omega) (by omega)
  have c1 : ¬ bl < 64 := by omega
  have c2 : ¬ 1024 < bl := by omega
  have c1' : ¬ (bl : Int) < 64 := by omega
  have c2' : ¬ (1024 : Int) < bl := by omega
  simp [evOp_call, sets, T.get_set, newC_is, hrd.lenS, w0, w1, w2, c1, c2, c1', c2']
  refine Gd_headS (i := .i64) (k := 8) un30 io31 (hy.ext (hbox_ext st _)) (by simp) (by omega) fun v hv => ?_
  simp [evOp_call, T.get_set]
  refine Gd.mono (hof_any _ bl v (L.take 8) (by rw [List.length_take, hL, show min 8 n = 8 by omega]; exact hv) _) ?_
  rintro ⟨r, s1⟩ ⟨hr, x1⟩
  simp only at hr x1
  obtain ⟨ga, pa, ha, hga⟩ := getHV_eq (ofH bl (L.take 8))
  rw [ha] at hr
  subst hr
  have l1 : st.nx < s1.nx := x1.le
  have k0 : s1.h.get st.nx = _ := (x1.keep _ (Nat.lt_succ_self _)).trans (T.get_set_same _ _ _)
  have hs1 : Ext st.nx st s1 := (hbox_ext st _).trans (x1.mono (Nat.le_succ _))
  simp [hdV, evOp_call, sets, T.get_set, newC_is, storeK_g, putB_eq, roT, k0, hrd.lenS, w3]
  have e2 : ∀ v, Ext st.nx st ⟨s1.nx, s1.h.set st.nx v⟩ := fun v => hs1.set (m := st.nx) (Nat.le_refl _) l1 v
  refine Gd_tailS (i := .i64) (k := m0) un30 io31 (hy.ext (e2 _)) (by simp [T.get_set]) (by omega) fun v hv => ?_
  simp [evOp_call, T.get_set]
  refine Gd.mono (hof_any _ bl v (L.drop m0) (by rw [List.length_drop, hL]; exact hv) _) ?_
  rintro ⟨r, s2⟩ ⟨hr, x2⟩
  simp only at hr x2
  obtain ⟨gb, pb, hb', hgb⟩ := getHV_eq (ofH bl (L.drop m0))
  rw [hb'] at hr
  subst hr
  have l2 : s1.nx ≤ s2.nx := x2.le
  have k1 : s2.h.get st.nx = _ := (x2.keep _ l1).trans (T.get_set_same _ _ _)
  have hs2 : Ext st.nx st s2 := (e2 _).trans (x2.mono (by show st.nx ≤ s1.nx; omega))
  have n2 : ¬ s2.nx = st.nx := by omega
  have hfin : ∀ v w, Ext st.nx st ⟨s2.nx + 1, (s2.h.set s2.nx v).set st.nx w⟩ := fun v w => (hs2.new (by omega) v).set (m := st.nx) (Nat.le_refl _) (by show st.nx < s2.nx + 1; omega) w
  cases hs : (ofH bl (L.take 8)).isSome with
  | true =>
    have ho := hdO_t (ofH bl (L.drop m0)) hs
    simp [hdV, evOp_call, sets, T.get_set, newC_is, storeK_g, putB_eq, roT, loadE_eq, getC_eq, getsB_succ, getsB_zero, k1, n2]
    unfold findHV
    rw [ho, hga, hs]
    exact ⟨rfl, hfin _ _⟩
  | false =>
    have ho := hdO_f (ofH bl (L.drop m0)) hs
    simp [hdV, evOp_call, sets, T.get_set, newC_is, storeK_g, putB_eq, roT, loadE_eq, getC_eq, getsB_succ, getsB_zero, k1, n2]
    unfold findHV
    rw [ho, hgb, hs]
    exact ⟨rfl, hfin _ _⟩
end Go.Proofs.Ytenncnbaoejekaa

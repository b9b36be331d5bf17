/-
  Contract of package pool's Group; the law PoolGroups, walked.
-/
import Derived.Test.YtdoennkmcloalaaPlC
set_option linter.unusedSimpArgs false
namespace Go.Proofs.Ytdoennkmcloalaa
open Go.RowKit Ev
/-- a client's group -/
def grpN (g : Gm) (c : Int) : Int := if c = g.c - 1 then dN g - c * (dN g / g.c) else dN g / g.c
def grpV (g : Gm) (c : Int) : V := if 0 ≤ c ∧ c < g.c then .t [.int .i64 (dF g + c * (dN g / g.c)), .int .i64 (grpN g c)] else .t [.int .i64 0, .int .i64 0]
theorem quo_pos {st : St} {P : Program} {t : TypeId} {x y : Operand} (a b : Int) (h : 0 < b) (ha : 0 ≤ a) (hb : a ≤ 9223372036854775807) : binE P st .quo t x y (.int .i64 a) (.int .i64 b) = some (.int .i64 (a / b), st) := by
  have e : binE P st .quo t x y (.int .i64 a) (.int .i64 b) = if b = 0 then none else some (.int .i64 (IntKind.i64.wrap (a.tdiv b)), st) := bin_quo
  have h1 : a.tdiv b = a / b := Int.tdiv_eq_ediv_of_nonneg ha
  have h2 : a / b ≤ a := Int.ediv_le_self _ ha
  have h3 : 0 ≤ a / b := Int.ediv_nonneg ha (by omega)
  rw [e, if_neg (by omega), h1, wrap_in (by omega) (by omega)]
theorem grp_bd {g : Gm} (hg : isGood g) {c : Int} (h0 : 0 ≤ c) (h1 : c < g.c) : 0 ≤ dN g / g.c ∧ dN g / g.c ≤ dN g ∧ 0 ≤ c * (dN g / g.c) ∧ c * (dN g / g.c) ≤ dN g ∧ dF g + dN g ≤ 1024 ∧ 0 ≤ dF g ∧ 0 ≤ dN g := by
  obtain ⟨h2, h3⟩ := hg
  have hck := ck_le h2
  obtain ⟨k1, k2, k3, k4, k5, k6, k7, k8⟩ := h2
  have hF : 0 ≤ dF g := by unfold dF nF bN; omega
  have hN : dF g + dN g = g.b - 1 := by unfold dN; omega
  have a1 : 0 ≤ dN g / g.c := Int.ediv_nonneg (by omega) (by omega)
  have a2 : dN g / g.c ≤ dN g := Int.ediv_le_self _ (by omega)
  have a3 : g.c * (dN g / g.c) ≤ dN g := Int.mul_ediv_self_le (by omega)
  have a4 : c * (dN g / g.c) ≤ g.c * (dN g / g.c) := Int.mul_le_mul_of_nonneg_right (by omega) a1
  exact ⟨a1, a2, Int.mul_nonneg h0 a1, by omega, by omega, hF, by omega⟩
set_option maxRecDepth 20000 in
set_option maxHeartbeats 4000000 in
theorem group_any (st : St) (q m : Nat) (g : Gm) (z : V) (L : List (BitVec 64)) (hg : isGood g) (hp : PoolAt st q g z m L) (c : Int) (nt : Nat) :
    Gd (callL Try.prog ⟨false, [], 0, nt⟩ 82 [.p q 0, .int .i64 c] st) fun r => r.1 = grpV g c ∧ Ext st.nx st r.2 := by
  rw [Gd_callL Try.func82 rfl]
  obtain ⟨hq, ⟨t, ht, t0, t1, t2, t3, t4⟩, hr⟩ := hp
  by_cases c1 : c < 0
  · have hv : grpV g c = .t [.int .i64 0, .int .i64 0] := by unfold grpV; rw [if_neg (by omega)]
    simp [evOp_call, sets, T.get_set, loadE_eq, getC_eq, c1, hv]
    exact Ext.refl _ _
  by_cases c2 : g.c ≤ c
  · have hv : grpV g c = .t [.int .i64 0, .int .i64 0] := by unfold grpV; rw [if_neg (by omega)]
    simp [evOp_call, sets, T.get_set, loadE_eq, getC_eq, c1, c2, hv, ht, t0, t1, t2, t3, t4]
    exact Ext.refl _ _
  have hv : grpV g c = .t [.int .i64 (dF g + c * (dN g / g.c)), .int .i64 (grpN g c)] := by unfold grpV; rw [if_pos (by omega)]
  obtain ⟨b1, b2, b3, b4, b5, b6, b7⟩ := grp_bd hg (c := c) (by omega) (by omega)
  simp [evOp_call, sets, T.get_set, loadE_eq, getC_eq, c1, c2, hv, ht, t0, t1, t2, t3, t4, getsB_succ, getsB_zero]
  refine Gd.mono (gdata_any st [] (fun _ _ => rfl) 0 (Nat.zero_le _) g _) ?_
  rintro ⟨r, s1⟩ ⟨hr1, x1⟩
  simp only at hr1 x1
  subst hr1
  have ht1 := (x1.keep _ hq).trans ht
  have hs4 := hg.1
  have w1 : IntKind.i64.wrap (c * (dN g / g.c)) = c * (dN g / g.c) := wrap_in (by omega) (by omega)
  have w2 : IntKind.i64.wrap (dF g + c * (dN g / g.c)) = dF g + c * (dN g / g.c) := wrap_in (by omega) (by omega)
  have w3 : IntKind.i64.wrap (g.c - 1) = g.c - 1 := wrap_in (by have := hs4.2.2.2.2.1; omega) (by have := hs4.2.2.2.2.2.1; omega)
  have w4 : IntKind.i64.wrap (dN g - c * (dN g / g.c)) = dN g - c * (dN g / g.c) := wrap_in (by omega) (by omega)
  simp [at2, hg, tupK, evOp_call, sets, T.get_set, loadE_eq, getC_eq, ht1, t0, t1, t2, t3, t4, w1, w2, w3, w4, quo_pos (dN g) g.c (by have := hs4.2.2.2.2.1; omega) b7 (by omega)]
  by_cases c3 : c = g.c - 1
  · have hn : grpN g c = dN g - c * (dN g / g.c) := by unfold grpN; rw [if_pos c3]
    rw [hn]
    simp [c3, evOp_call, sets, T.get_set]
    rw [← c3]
    simp [w1, w4, evOp_call, sets, T.get_set]
    exact x1
  · have hn : grpN g c = dN g / g.c := by unfold grpN; rw [if_neg c3]
    rw [hn]
    simp [c3, evOp_call, sets, T.get_set]
    exact x1
end Go.Proofs.Ytdoennkmcloalaa

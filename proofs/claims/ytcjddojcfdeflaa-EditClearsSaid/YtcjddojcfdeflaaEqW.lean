/-
  Contract: slices.Equal of rows of words (out of XHd, for seats without it).
-/
import Derived.Test.YtcjddojcfdeflaaNdPA
import Derived.Test.YtcjddojcfdeflaaMid
import Derived.Test.YtcjddojcfdeflaaRdAG
set_option linter.unusedSimpArgs false
namespace Go.Proofs.Ytcjddojcfdeflaa
open Go.RowKit Ev
def eqIW (st : St) (x y : V) (n : Nat) (a b : List (BitVec 64)) (e : Env) (s : St) : Prop := ∃ j, j ≤ n ∧ e.get 0 = some x ∧ e.get 1 = some y ∧ e.get 12 = some (.int .i64 (n : Int)) ∧ e.get 13 = some (.int .i64 (j : Int)) ∧ a.take j = b.take j ∧ s = st
private theorem take_wd {a b : List (BitVec 64)} {j : Nat} {p q : BitVec 64} (h : a.take j = b.take j) (ha : a[j]? = some p) (hb : b[j]? = some q) : a.take (j + 1) = b.take (j + 1) ↔ p = q := by
  rw [List.take_add_one, List.take_add_one, ha, hb, h]
  simp
/-- slices.Equal of rows of words -/
theorem eq_anyW (st : St) (x y : V) (a b : List (BitVec 64)) (hx : RdRow st x 1 a.length (wv a)) (hy : RdRow st y 1 b.length (wv b)) (hn : a.length ≤ 1000000) (nt : Nat) :
    Gd (callL Try.prog ⟨false, [], 0, nt⟩ 54 [x, y] st) fun r => r = (.bool (decide (a = b)), st) := by
  rw [Gd_callL Try.func54 rfl]
  by_cases hk : a.length = b.length
  · have hk' : (a.length : Int) = b.length := by omega
    simp [evOp_call, sets, T.get_set, hx.lenS, hy.lenS, hk']
    refine Gd_loop (eqIW st x y a.length a b) (fun e _ => muAt 13 a.length e) ?_ ?_
    · exact ⟨0, Nat.zero_le _, by simp [T.get_set], by simp [T.get_set], by simp [T.get_set, hk], by simp [T.get_set], by simp, rfl⟩
    · rintro e s ⟨j, hj, g0, g1, g12, g13, hab, rfl⟩
      by_cases hlt : j < a.length
      · have hlt' : (j : Int) < a.length := by omega
        have hw := wrap_nat (n := j) (by omega)
        obtain ⟨p, hp⟩ : ∃ p, a[j]? = some p := ⟨_, List.getElem?_eq_getElem (by omega)⟩
        obtain ⟨q, hq⟩ : ∃ q, b[j]? = some q := ⟨_, List.getElem?_eq_getElem (by omega)⟩
        obtain ⟨m1, o1, ty1, sz1, t1, i1, b1, k1, l1, c1⟩ := hx.idx (st := s) un28 io39 hlt
        obtain ⟨m2, o2, ty2, sz2, t2, i2, b2, k2, l2, c2⟩ := hy.idx (st := s) un28 io39 (show j < b.length by omega)
        have d1 : t1.get o1 = some (wd p) := c1 0 _ (by omega) (by simpa using wv_get hp)
        have d2 : t2.get o2 = some (wd q) := c2 0 _ (by omega) (by simpa using wv_get hq)
        simp [T.get_set, g0, g1, g12, g13, hlt', i1, i2, loadE_eq, getC_eq, k1, k2, d1, d2]
        refine ⟨by kernel_rfl, ?_⟩
        by_cases hpq : p = q
        · subst hpq
          simp [T.get_set, g0, g1, g12, g13, hw]
          exact ⟨⟨j + 1, by omega, by simp [T.get_set, g0], by simp [T.get_set, g1], by simp [T.get_set, g12], by simp [T.get_set], (take_wd hab hp hq).2 rfl, rfl⟩, muAt_lt g13 (by simp [T.get_set]) hlt⟩
        · have hne : ¬ a = b := fun e => by subst e; rw [hp] at hq; injection hq with hq; exact hpq hq
          simp [T.get_set, hpq, hne]
      · obtain rfl : j = a.length := by omega
        have : a = b := by rw [← List.take_length (l := a), ← List.take_length (l := b), ← hk]; exact hab
        simp [T.get_set, g0, g1, g12, g13, this]
  · have : ¬ a = b := fun e => by subst e; omega
    have hk' : ¬ (a.length : Int) = b.length := by omega
    simp [evOp_call, sets, T.get_set, hx.lenS, hy.lenS, hk, hk', this]
end Go.Proofs.Ytcjddojcfdeflaa

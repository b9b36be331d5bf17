/-
  The walk of NodeGood.
-/
import Derived.Test.YtdoennkmcloalaaNdH
set_option linter.unusedSimpArgs false
namespace Go.Proofs.Ytdoennkmcloalaa
open Go.RowKit Ev
theorem row_below {st : St} {y : V} {z n m : Nat} {l : List V} (hy : RdRow st y z n l) (hm : rowIn y m) : m < st.nx := by
  rcases hm with ⟨o, l, q, e⟩ | ⟨o, l, q, e⟩
  · exact hy.lt_of.2 _ _ _ _ e
  · exact hy.lt_of.1 _ _ _ _ e
theorem sl_cap {b n : Nat} {st : St} {z : V} {L : List (BitVec 64)} (h : SlRow b st z n L) : CapOk z := by
  obtain ⟨_, m, _, _, rfl, _⟩ := h
  intro m o l q e
  injection e with _ _ e1 e2
  omega
theorem good_sum {g : Gm} {N : Nd} (h : goodN g N) : sumN N.R = needN N := by
  obtain ⟨_, h⟩ := h
  by_cases ht : N.t = 0
  · rw [if_pos ht] at h
    obtain ⟨h1, h2, h3⟩ := h
    have : N.R = [] := List.length_eq_zero_iff.1 h3
    unfold needN
    rw [this, h2, ht]; rfl
  · rw [if_neg ht] at h; exact h.2.2.2.2
theorem rel_gVN (ρ : Rho) (g : Gm) : Rel ρ (gV g) (.agg #[.int .i64 g.b, .int .i64 g.n, .int .i64 g.c, .int .i64 g.k]) := by
  unfold gV
  simp only [Rel]
  exact ⟨_, rfl, .cons (rel_int _ _) (.cons (rel_int _ _) (.cons (rel_int _ _) (.cons (rel_int _ _) .nil))), by simp⟩
end Go.Proofs.Ytdoennkmcloalaa

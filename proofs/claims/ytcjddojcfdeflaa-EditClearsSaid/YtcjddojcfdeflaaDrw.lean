/-
  PLAIN: what calls made, in a region whose order is left open.
-/
import Derived.Test.YtcjddojcfdeflaaSb
set_option linter.unusedSimpArgs false
namespace Go.Proofs.Ytcjddojcfdeflaa
open Go.RowKit Ev
/-- what calls made is none of the old -/
theorem inF_forbs {b m : Nat} {l : List (Nat × Nat)} (hl : inF l m = false) : ∀ {rs : List (Nat × Nat × Nat)}, (∀ e ∈ rs, m < e.2.1) → inF (forb b rs l) m = false
  | [], _ => hl
  | (i, x, y) :: rs, h => by
    have ih := inF_forbs (b := b) hl (rs := rs) fun e he => h e (by simp [he])
    have hx : m < x := h (i, x, y) (by simp)
    show inF (match Nat.testBit b i with | true => forb b rs l | false => (x, y) :: forb b rs l) m = false
    cases Nat.testBit b i
    · show inF ((x, y) :: forb b rs l) m = false
      rw [inF_cons, if_neg (by omega)]; exact ih
    · exact ih
theorem rsOf_lt {m i x y : Nat} {rs : List (Nat × Nat × Nat)} (h : ∀ e ∈ rs, m < e.2.1) (hx : m < x) : ∀ e ∈ rsOf rs i x y, m < e.2.1 := by
  unfold rsOf
  cases Nat.beq x y
  · intro e he
    rcases List.mem_cons.1 he with rfl | he
    · exact hx
    · exact h e he
  · exact h
theorem inF_lds {b m nx : Nat} {rs : List (Nat × Nat × Nat)} (h : ∀ e ∈ rs, m < e.2.1) : inF ((0, m) :: (m + 1, nx) :: forb b rs []) m = false := by
  rw [inF_cons, if_neg (by omega), inF_cons, if_neg (by omega)]
  exact inF_forbs rfl h
theorem forb_step {b j u v : Nat} {rs : List (Nat × Nat × Nat)} {l : List (Nat × Nat)} (h : Nat.testBit b j = true) (ih : forb b rs l = l) : forb b (rsOf rs j u v) l = l := by
  unfold rsOf
  cases Nat.beq u v
  · show (match Nat.testBit b j with | true => forb b rs l | false => (u, v) :: forb b rs l) = l
    rw [h]; exact ih
  · exact ih
theorem forb_cons {b j u v : Nat} {rs : List (Nat × Nat × Nat)} {l : List (Nat × Nat)} (h : Nat.testBit b j = true) (ih : forb b rs l = l) : forb b ((j, u, v) :: rs) l = l := by
  show (match Nat.testBit b j with | true => forb b rs l | false => (u, v) :: forb b rs l) = l
  rw [h]; exact ih
end Go.Proofs.Ytcjddojcfdeflaa

/-
  PLAIN: whatever comes in: numbers, words, bools, texts, structs and rows of them, in one another.
-/
import Derived.Test.YtgcpgidofikcdaaGreatDoorLnN
set_option linter.unusedSimpArgs false
namespace Go.Proofs.YtgcpgidofikcdaaGreatDoor
open Go.RowKit Ev Go.ChangeShapes Go.WideShapes Go.Deep
/-- what comes in: how it stands in the world, how it stands in the evaluator's memory -/
structure Codec (α : Type) where
  z : Nat
  rel : World → (Nat → Value) → α → Prop
  at' : St → (Nat → V) → α → Prop
  enter : ∀ {w st ρ y a}, Begin w st ρ → rel w y a → ∃ (st' : St) (ρ' : Rho) (x : Nat → V), Begin w st' ρ' ∧ ρ.le ρ' ∧ (∀ j, j < z → (x j).one = true ∧ Rel ρ' (x j) (y j)) ∧ Ext st.nx st st' ∧ at' st' x a
  ext : ∀ {st st' x a}, at' st x a → Ext st.nx st st' → at' st' x a
  loc : ∀ {w y y' a}, (∀ j, j < z → y j = y' j) → rel w y a → rel w y' a
  locA : ∀ {st x x' a}, (∀ j, j < z → x j = x' j) → at' st x a → at' st x' a
/-- side by side -/
def pairC {α β : Type} (c : Codec α) (d : Codec β) : Codec (α × β) where
  z := c.z + d.z
  rel := fun w y a => c.rel w y a.1 ∧ d.rel w (fun j => y (c.z + j)) a.2
  at' := fun st x a => c.at' st x a.1 ∧ d.at' st (fun j => x (c.z + j)) a.2
  enter := fun {w st ρ y a} hb hr => by
    obtain ⟨s1, r1, x1, b1, l1, q1, e1, a1⟩ := c.enter hb hr.1
    obtain ⟨s2, r2, x2, b2, l2, q2, e2, a2⟩ := d.enter b1 hr.2
    refine ⟨s2, r2, fun j => if j < c.z then x1 j else x2 (j - c.z), b2, fun n r h => l2 n r (l1 n r h), fun j hj => ?_, e1.trans (e2.mono e1.le), c.locA (fun j hj => by show x1 j = if j < c.z then x1 j else _; rw [if_pos hj]) (c.ext a1 e2), d.locA (fun j hj => by simp only; rw [if_neg (by omega), Nat.add_sub_cancel_left]) a2⟩
    by_cases hc : j < c.z
    · simp only [if_pos hc]
      exact ⟨(q1 j hc).1, Rel.mono l2 _ _ (q1 j hc).2⟩
    · simp only [if_neg hc]
      have := q2 (j - c.z) (by omega)
      rw [show c.z + (j - c.z) = j by omega] at this
      exact this
  ext := fun h k => ⟨c.ext h.1 k, d.ext h.2 k⟩
  loc := fun e h => ⟨c.loc (fun j hj => e j (by omega)) h.1, d.loc (fun j hj => e _ (by omega)) h.2⟩
  locA := fun e h => ⟨c.locA (fun j hj => e j (by omega)) h.1, d.locA (fun j hj => e _ (by omega)) h.2⟩
/-! ### what a type's values are -/
def Fits {α : Type} (P : Program) (c : Codec α) (t : TypeId) : Prop := ∀ {H : Type} {enc : TypeId × Value → H} {w : World} {spare : Nat → Bool} {held : Bool} {fuel : Nat} {cs : List Value} {x : DataW H × List MemPlace}, DataW.trod enc P w 0 spare held fuel t cs = some x → cs.length = c.z ∧ ∃ a, c.rel w (fun j => cs[j]?.getD default) a
section
variable {P : Program}
/-- fields, from a place on -/
def FitsF {α : Type} (P : Program) (c : Codec α) (fs : List Field) (off : Nat) : Prop := ∀ {H : Type} {enc : TypeId × Value → H} {w : World} {spare : Nat → Bool} {held : Bool} {fuel : Nat} {cs : List Value}, (∀ f ∈ fs, ∃ x, DataW.trod enc P w 0 spare held fuel f.type ((cs.drop f.offset).take (P.cellsOf f.type)) = some x) → ∃ a, c.rel w (fun j => cs[off + j]?.getD default) a
theorem FitsF.one {α : Type} {c : Codec α} {f : Field} {off : Nat} (ho : f.offset = off) (hz : P.cellsOf f.type = c.z) (h : Fits P c f.type) : FitsF P c [f] off := fun {H enc w spare held fuel cs} hx => by
  obtain ⟨x, hx⟩ := hx f (List.mem_cons_self ..)
  obtain ⟨_, a, ha⟩ := h hx
  refine ⟨a, c.loc (fun j hj => ?_) ha⟩
  rw [List.getElem?_take, if_pos (by omega), List.getElem?_drop, ho]
theorem FitsF.cons {α β : Type} {c : Codec α} {d : Codec β} {f : Field} {fs : List Field} {off : Nat} (ho : f.offset = off) (hz : P.cellsOf f.type = c.z) (h : Fits P c f.type) (k : FitsF P d fs (off + c.z)) : FitsF P (pairC c d) (f :: fs) off := fun {H enc w spare held fuel cs} hx => by
  obtain ⟨a, ha⟩ := FitsF.one ho hz h (fun g hg => hx g (by simp at hg; subst hg; exact List.mem_cons_self ..))
  obtain ⟨b, hb⟩ := k fun g hg => hx g (List.mem_cons_of_mem _ hg)
  exact ⟨(a, b), ha, d.loc (fun j _ => by rw [Nat.add_assoc]) hb⟩
end
/-! ### the evaluator's side -/
section
variable {P : Program} {st : St}
end
@[simp] theorem wantK_u (w : Bool) : wantK w (some V.u) = false := rfl
end Go.Proofs.YtgcpgidofikcdaaGreatDoor

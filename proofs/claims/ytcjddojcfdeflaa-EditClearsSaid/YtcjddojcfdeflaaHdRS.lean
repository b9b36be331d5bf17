/-
  PLAIN: GmR, HdR, HdS, in one text.
-/
import Derived.Test.YtcjddojcfdeflaaGmA
import Derived.Test.YtcjddojcfdeflaaHdWF
set_option linter.unusedSimpArgs false
namespace Go.Proofs.Ytcjddojcfdeflaa
open Go.RowKit Ev
def nodeV (g : Gm) (n : Int) : V := .int .i64 (if isGood g ∧ 1 ≤ n ∧ n ≤ g.n then nF g + n - 1 else 0)
end Go.Proofs.Ytcjddojcfdeflaa
set_option linter.unusedSimpArgs false
namespace Go.Proofs.Ytcjddojcfdeflaa
open Go.RowKit Ev
end Go.Proofs.Ytcjddojcfdeflaa
set_option linter.unusedSimpArgs false
namespace Go.Proofs.Ytcjddojcfdeflaa
open Go.RowKit Ev
def rsameHI (st : St) (x y : V) (n : Nat) (a b : List (BitVec 64)) (e : Env) (s : St) : Prop := ∃ j, j ≤ n ∧ e.get 0 = some x ∧ e.get 1 = some y ∧ e.get 5 = some (.int .i64 (j : Int)) ∧ a.take j = b.take j ∧ s = st
theorem rsameH_take {a b : List (BitVec 64)} {j : Nat} {p q : BitVec 64} (h : a.take j = b.take j) (ha : a[j]? = some p) (hb : b[j]? = some q) : a.take (j + 1) = b.take (j + 1) ↔ p = q := by
  rw [List.take_add_one, List.take_add_one, ha, hb, h]
  simp
def lsameHI (st : St) (x y : V) (n : Nat) (a b : List (BitVec 64)) (e : Env) (s : St) : Prop := ∃ j, j ≤ n ∧ e.get 0 = some x ∧ e.get 1 = some y ∧ e.get 5 = some (.int .i64 (j : Int)) ∧ a.take j = b.take j ∧ s = st
theorem lsameH_take {a b : List (BitVec 64)} {j : Nat} {p q : BitVec 64} (h : a.take j = b.take j) (ha : a[j]? = some p) (hb : b[j]? = some q) : a.take (j + 1) = b.take (j + 1) ↔ p = q := by
  rw [List.take_add_one, List.take_add_one, ha, hb, h]
  simp
theorem cxOf_storeX {c : Cx} {e : Env} {d : Option Nat} {t ty : TypeId} {x y : Operand} {p : String} {af : Array Edge} {g : Option (Nat × Bool)} {ops : List Oper} {i : Nat} {s0 : St} {rs : List (Nat × Nat × Nat)} (l : List (Nat × Nat)) (h : mayW ops i = false) (hl : looseW ops e i = some l) : cxOf c ops ⟨d, .store t x y, ty, p, af, g⟩ i rs s0 e = ⟨c.all, alive s0.h l ++ forb (befOf ops i) rs c.l, c.wb, c.nt⟩ := by
  have h0 : cxOf c ops ⟨d, .store t x y, ty, p, af, g⟩ i rs s0 e = (match mayW ops i with
      | true => ⟨c.all, forb (befOf ops i) rs c.l, c.wb, c.nt⟩
      | false => (match (match looseW ops e i with
          | none => none
          | some l => some (alive s0.h l)) with
        | some l => ⟨c.all, l ++ forb (befOf ops i) rs c.l, c.wb, c.nt⟩
        | none => ⟨c.all, forb (befOf ops i) rs c.l, s0.nx, c.nt⟩)) := rfl
  rw [h0, h, hl]
def rgetV (r : Option (Gm × BitVec 64)) : V := match r with
  | some (g, p) => .t [gV g, wd p, .bool true]
  | none => .t [gV ⟨0, 0, 0, 0⟩, wd 0#64, .bool false]
theorem small_wat {L : List (BitVec 64)} (h : L.length = 8) (he : putH (readG L) (wat L 6) = L) : ∀ i, 1 ≤ i → i ≤ 4 → ¬ (2000#64 < wat L i) := by
  have hg : isGood (readG L) := by
    by_cases hb : isGood (readG L)
    · exact hb
    · rw [putH_bad _ hb] at he
      rw [← he] at h; simp at h
  obtain ⟨⟨h1, h2, h3, h4, h5, h6, h7, h8⟩, _⟩ := hg
  have hp : putH (readG L) (wat L 6) = preH (readG L) ++ [wat L 6, slOf (preH (readG L))] := by unfold putH; rw [if_pos ⟨⟨h1, h2, h3, h4, h5, h6, h7, h8⟩, by assumption⟩]
  have hw : ∀ i, wat L i = wat (preH (readG L) ++ [wat L 6, slOf (preH (readG L))]) i := fun i => by rw [← hp, he]
  have key : ∀ z : Int, 0 ≤ z → z ≤ 1024 → ¬ (2000#64 < BitVec.ofInt 64 z) := fun z h1 h2 => by
    rw [BitVec.lt_def, BitVec.toNat_ofInt]; simp; omega
  intro i hi1 hi4
  rw [hw i]
  rcases (by omega : i = 1 ∨ i = 2 ∨ i = 3 ∨ i = 4) with rfl | rfl | rfl | rfl
  · exact key (readG L).b (by omega) (by omega)
  · exact key (readG L).n (by omega) (by omega)
  · exact key (readG L).c (by omega) (by omega)
  · exact key (readG L).k (by omega) (by omega)
theorem rgetV_eq (L : List (BitVec 64)) (b : Int) : ∃ g p o, rgetV (getH L) = .t [gV g, wd p, .bool o] ∧ ((o = true ∧ g.b = b ∧ ofH b L = some (g, p)) ∨ (o = true ∧ ¬ g.b = b ∧ ofH b L = none) ∨ (o = false ∧ True ∧ ofH b L = none)) := by
  unfold ofH
  cases h : getH L with
  | none => exact ⟨⟨0, 0, 0, 0⟩, 0#64, false, rfl, .inr (.inr ⟨rfl, trivial, rfl⟩)⟩
  | some q =>
    obtain ⟨g, p⟩ := q
    by_cases hb : g.b = b
    · exact ⟨g, p, true, rfl, .inl ⟨rfl, hb, if_pos hb⟩⟩
    · exact ⟨g, p, true, rfl, .inr (.inl ⟨rfl, hb, if_neg hb⟩)⟩
def fdO (a b : Option (Gm × BitVec 64)) : V := match a with
  | some (g, p) => .t [gV g, wd p, .bool true, .bool b.isSome]
  | none => (match b with
    | some (g, p) => .t [gV g, wd p, .bool false, .bool true]
    | none => .t [gV ⟨0, 0, 0, 0⟩, wd 0#64, .bool false, .bool false])
end Go.Proofs.Ytcjddojcfdeflaa

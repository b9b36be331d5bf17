/-
  PLAIN: rows of structs of three whole numbers that came in.
-/
import Derived.Test.YtenncnbaoejekaaOpen
namespace Go.Proofs.Ytenncnbaoejekaa.Ev
open Go.RowKit Go.ChangeShapes Go.WideShapes Go.Deep
/-- rows of two whole numbers and a word -/
def triples (L : List (Int × Int × Int)) : List V := L.flatMap fun r => [.int .i64 r.1, .int .i64 r.2.1, .int .u64 r.2.2]
theorem triples_length (L : List (Int × Int × Int)) : (triples L).length = L.length * 3 := by
  induction L with
  | nil => rfl
  | cons r L ih =>
    have : (triples (r :: L)).length = (triples L).length + 3 := by simp [triples]
    rw [this, ih, List.length_cons]; omega
def tri (r : Int × Int × Int) (j : Nat) : V := if j = 0 then .int .i64 r.1 else if j = 1 then .int .i64 r.2.1 else .int .u64 r.2.2
theorem triples_get : ∀ (L : List (Int × Int × Int)) (j : Nat) (v : V), (triples L)[j]? = some v → ∃ r, L[j / 3]? = some r ∧ v = tri r (j % 3)
  | [], j, v, h => by simp [triples] at h
  | r :: L, 0, v, h => by
    have h' : some (V.int .i64 r.1) = some v := h
    injection h' with h'; subst h'
    exact ⟨r, rfl, rfl⟩
  | r :: L, 1, v, h => by
    have h' : some (V.int .i64 r.2.1) = some v := h
    injection h' with h'; subst h'
    exact ⟨r, rfl, rfl⟩
  | r :: L, 2, v, h => by
    have h' : some (V.int .u64 r.2.2) = some v := h
    injection h' with h'; subst h'
    exact ⟨r, rfl, rfl⟩
  | r :: L, j + 3, v, h => by
    obtain ⟨q, h1, h2⟩ := triples_get L j v h
    refine ⟨q, ?_, ?_⟩
    · rw [show (j + 3) / 3 = j / 3 + 1 by omega]; simpa using h1
    · rw [show (j + 3) % 3 = j % 3 by omega]; exact h2
theorem triples_at : ∀ (L : List (Int × Int × Int)) (i : Nat) (r : Int × Int × Int), L[i]? = some r → (triples L)[i * 3 + 0]? = some (.int .i64 r.1) ∧ (triples L)[i * 3 + 1]? = some (.int .i64 r.2.1) ∧ (triples L)[i * 3 + 2]? = some (.int .u64 r.2.2)
  | [], i, r, h => by simp at h
  | q :: L, 0, r, h => by simp at h; subst h; exact ⟨rfl, rfl, rfl⟩
  | q :: L, i + 1, r, h => by
    have := triples_at L i r (by simpa using h)
    rw [show triples (q :: L) = .int .i64 q.1 :: .int .i64 q.2.1 :: .int .u64 q.2.2 :: triples L from rfl, show (i + 1) * 3 + 0 = i * 3 + 0 + 1 + 1 + 1 by omega, show (i + 1) * 3 + 1 = i * 3 + 1 + 1 + 1 + 1 by omega, show (i + 1) * 3 + 2 = i * 3 + 2 + 1 + 1 + 1 by omega]
    exact this
def triV (r : Int × Int × Int) (j : Nat) : Value := if j = 0 then .int .i64 r.1 else if j = 1 then .int .i64 r.2.1 else .int .u64 r.2.2
theorem tri_one (r : Int × Int × Int) (j : Nat) : (tri r j).one = true ∧ ∀ ρ, Rel ρ (tri r j) (triV r j) := by
  unfold tri triV
  by_cases h0 : j = 0
  · simp only [if_pos h0]; exact ⟨rfl, fun ρ => by simp [Rel, Value.oneCell']⟩
  · by_cases h1 : j = 1
    · simp only [if_neg h0, if_pos h1]; exact ⟨rfl, fun ρ => by simp [Rel, Value.oneCell']⟩
    · simp only [if_neg h0, if_neg h1]; exact ⟨rfl, fun ρ => by simp [Rel, Value.oneCell']⟩
theorem in_triples {H : Type} {enc : TypeId × Value → H} {P : Program} {w : World} {spare : Nat → Bool} {held : Bool} {t e : TypeId} {f0 f1 f2 : Field} {fuel : Nat} {a : Option Addr} {len c : Nat} {x : DataW H × List MemPlace} (ht : P.underlying t = some (.slice e)) (he : P.underlying e = some (.struct #[f0, f1, f2]))
    (ce : P.cellsOf e = 3) (o0 : f0.offset = 0) (o1 : f1.offset = 1) (o2 : f2.offset = 2) (c0 : P.cellsOf f0.type = 1) (c1 : P.cellsOf f1.type = 1) (c2 : P.cellsOf f2.type = 1) (i0 : P.underlying f0.type = some (.int .i64)) (i1 : P.underlying f1.type = some (.int .i64)) (i2 : P.underlying f2.type = some (.int .u64))
    (h : DataW.trod enc P w 0 spare held fuel t [.slice a len c] = some x) : ∃ L : List (Int × Int × Int), L.length = len ∧ InRow w (.slice a len c) 3 L.length (triples L) ∧ ∀ r ∈ L, (Lit.int .i64 r.1).wf = true ∧ (Lit.int .i64 r.2.1).wf = true ∧ (Lit.int .u64 r.2.2).wf = true := by
  rcases open_slice ht h with ⟨hcs, _⟩ | ⟨a', len', cap, m, n, D, Pl, hcs, _, hl, _, hm, _, hx⟩
  · injection hcs with hcs; injection hcs with e1 e2 e3; subst e1 e2 e3
    exact ⟨[], rfl, ⟨rfl, .inl ⟨rfl, rfl⟩⟩, fun r hr => by simp at hr⟩
  · injection hcs with hcs; injection hcs with e1 e2 e3; subst e1 e2 e3
    have hlm : len ≤ m := by rw [hm]; split <;> omega
    have each : ∀ i, i < len → ∃ q : Int × Int × Int, (∀ j, j < 3 → w.cell? (a'.add (i * 3 + j)) = some (triV q j)) ∧ (Lit.int .i64 q.1).wf = true ∧ (Lit.int .i64 q.2.1).wf = true ∧ (Lit.int .u64 q.2.2).wf = true := fun i hi => by
      obtain ⟨cs', h1, h2⟩ := hx i (by omega)
      rw [ce] at h1
      obtain ⟨_, hlen, hcell⟩ := World.cells?_some h1
      obtain ⟨xs, k, hk, hxy, _, hxl, hf⟩ := DataW.trod_struct he h2
      match xs, hxl, cs', hlen with
      | [y0, y1, y2], _, [v0, v1, v2], _ =>
        have g0 := hf 0 f0 rfl
        have g1 := hf 1 f1 rfl
        have g2 := hf 2 f2 rfl
        simp [o0, o1, o2, c0, c1, c2] at g0 g1 g2
        have d0 := hcell 0 (by omega)
        have d1 := hcell 1 (by omega)
        have d2 := hcell 2 (by omega)
        rw [add_add] at d0 d1 d2
        obtain ⟨n0, k1, _, w0⟩ := DataW.trod_int i0 g0
        obtain ⟨n1, k3, _, w1⟩ := DataW.trod_int i1 g1
        obtain ⟨n2, k5, _, w2⟩ := DataW.trod_int i2 g2
        injection k1 with k1
        injection k3 with k3
        injection k5 with k5
        subst k1 k3 k5
        refine ⟨(n0, n1, n2), fun j hj => ?_, w0, w1, w2⟩
        rcases (by omega : j = 0 ∨ j = 1 ∨ j = 2) with rfl | rfl | rfl
        · simpa [triV] using d0
        · simpa [triV] using d1
        · simpa [triV] using d2
    obtain ⟨q, hq⟩ := choose_lt each
    have hL : ((List.range len).map q).length = len := by simp
    have hget : ∀ j r, ((List.range len).map q)[j]? = some r → j < len ∧ r = q j := fun j r hj => by
      rw [List.getElem?_map] at hj
      cases hr : (List.range len)[j]? with
      | none => rw [hr] at hj; cases hj
      | some k =>
        rw [hr] at hj
        obtain ⟨h1, h2⟩ := List.getElem?_eq_some_iff.1 hr
        simp at h1 h2 hj
        subst h2
        exact ⟨h1, hj.symm⟩
    refine ⟨(List.range len).map q, hL, ?_, fun r hr => ?_⟩
    · rw [hL]
      refine inRow_cells (fun j => triV (q (j / 3)) (j % 3)) (by rw [triples_length, hL]) (by omega) (fun j hj => ?_) fun j v hj => ?_
      · have h1 := (hq (j / 3) (by omega)).1 (j % 3) (by omega)
        rw [show j / 3 * 3 + j % 3 = j by omega] at h1
        exact h1
      · obtain ⟨r, h1, h2⟩ := triples_get _ j v hj
        obtain ⟨h3, rfl⟩ := hget _ _ h1
        subst h2
        exact tri_one _ _
    · obtain ⟨j, hj, rfl⟩ := List.getElem_of_mem hr
      obtain ⟨h1, h2⟩ := hget j _ (List.getElem?_eq_getElem hj)
      rw [h2]
      exact (hq _ h1).2
end Go.Proofs.Ytenncnbaoejekaa.Ev

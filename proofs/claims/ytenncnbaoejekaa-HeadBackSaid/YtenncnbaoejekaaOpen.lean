/-
  PLAIN: rows that came in, out of what the row's step says of an argument.
-/
import Derived.Test.YtenncnbaoejekaaIn
import Derived.Deep.SlicePairs
import Derived.Deep.Slices
namespace Go.Proofs.Ytenncnbaoejekaa.Ev
open Go.RowKit Go.ChangeShapes Go.WideShapes Go.Deep

theorem inRow_cells {w : World} {a : Addr} {c n z : Nat} {l : List V} (Y : Nat → Value) (hl : l.length = n * z) (hz : 1 ≤ z) (h : ∀ j, j < n * z → w.cell? (a.add j) = some (Y j)) (hr : ∀ j v, l[j]? = some v → v.one = true ∧ ∀ ρ, Rel ρ v (Y j)) : InRow w (.slice (some a) n c) z n l := by
  refine ⟨hl, .inr ?_⟩
  by_cases hn : n = 0
  · subst hn; exact .inl ⟨rfl, a, c, rfl⟩
  · have h1 : 1 * 1 ≤ n * z := Nat.mul_le_mul (by omega) hz
    have h0 := h 0 (by omega)
    obtain ⟨b, off, spot⟩ := a
    have hspot : spot = none := by simpa [Addr.add] using World.cell?_spot h0
    subst hspot
    have hcell : ∀ j, (⟨b, off, none⟩ : Addr).add j = ⟨b, off + j, none⟩ := fun j => by
      by_cases hj : j = 0
      · subst hj; simp [Addr.add]
      · simp [Addr.add, hj]
    have hh : ∃ cells ty fr, w.heap[b]? = some (.cells cells ty fr) := by
      rw [hcell] at h0
      unfold World.cell? at h0
      simp only at h0
      split at h0
      · rename_i cells ty fr hb; exact ⟨cells, ty, fr, hb⟩
      · cases h0
    obtain ⟨cells, ty, fr, hb⟩ := hh
    have hget : ∀ j, j < n * z → cells[off + j]? = some (Y j) := fun j hj => by
      have := h j hj
      rw [hcell] at this
      unfold World.cell? at this
      simpa [hb] using this
    refine .inr ⟨b, off, c, cells, ty, fr, rfl, hb, ?_, fun j v hj => ?_⟩
    · have h2 := hget (n * z - 1) (by omega)
      rcases Nat.lt_or_ge (off + (n * z - 1)) cells.size with h3 | h3
      · omega
      · rw [Array.getElem?_eq_none h3] at h2; cases h2
    · have hlt : j < l.length := by
        rcases Nat.lt_or_ge j l.length with h3 | h3
        · exact h3
        · rw [List.getElem?_eq_none h3] at hj; cases hj
      obtain ⟨k1, k2⟩ := hr j v hj
      exact ⟨k1, _, hget j (by omega), k2⟩
/-- rows of two whole numbers -/
def pairs (L : List (Int × Int)) : List V := L.flatMap fun r => [.int .i64 r.1, .int .i64 r.2]
theorem pairs_get : ∀ (L : List (Int × Int)) (j : Nat) (v : V), (pairs L)[j]? = some v → ∃ r, L[j / 2]? = some r ∧ v = if j % 2 = 0 then .int .i64 r.1 else .int .i64 r.2
  | [], j, v, h => by simp [pairs] at h
  | r :: L, 0, v, h => by
    have h' : some (V.int .i64 r.1) = some v := h
    injection h' with h'; subst h'
    exact ⟨r, rfl, rfl⟩
  | r :: L, 1, v, h => by
    have h' : some (V.int .i64 r.2) = some v := h
    injection h' with h'; subst h'
    exact ⟨r, rfl, rfl⟩
  | r :: L, j + 2, v, h => by
    obtain ⟨q, h1, h2⟩ := pairs_get L j v h
    refine ⟨q, ?_, ?_⟩
    · rw [show (j + 2) / 2 = j / 2 + 1 by omega]; simpa using h1
    · rw [show (j + 2) % 2 = j % 2 by omega]; exact h2
theorem pairs_length (L : List (Int × Int)) : (pairs L).length = L.length * 2 := by
  induction L with
  | nil => rfl
  | cons r L ih =>
    have : (pairs (r :: L)).length = (pairs L).length + 2 := by simp [pairs]
    rw [this, ih, List.length_cons]; omega
theorem rel_i64 (ρ : Rho) (n : Int) : Rel ρ (.int .i64 n) (.int .i64 n) := by simp [Rel, Value.oneCell']
theorem in_pairs {H : Type} {enc : TypeId × Value → H} {P : Program} {w : World} {spare : Nat → Bool} {held : Bool} {t e : TypeId} {f0 f1 : Field} {fuel : Nat} {a : Option Addr} {len c : Nat} {x : DataW H × List MemPlace} (ht : P.underlying t = some (.slice e)) (he : P.underlying e = some (.struct #[f0, f1]))
    (ce : P.cellsOf e = 2) (o0 : f0.offset = 0) (o1 : f1.offset = 1) (c0 : P.cellsOf f0.type = 1) (c1 : P.cellsOf f1.type = 1) (i0 : P.underlying f0.type = some (.int .i64)) (i1 : P.underlying f1.type = some (.int .i64))
    (h : DataW.trod enc P w 0 spare held fuel t [.slice a len c] = some x) : ∃ L : List (Int × Int), L.length = len ∧ InRow w (.slice a len c) 2 L.length (pairs L) ∧ ∀ r ∈ L, (Lit.int .i64 r.1).wf = true ∧ (Lit.int .i64 r.2).wf = true := by
  rcases open_slice_pairs ht he ce o0 o1 c0 c1 h with ⟨hcs, _⟩ | ⟨a', len', cap, m, n, V0, V1, D0, D1, P0, P1, hcs, _, hl, _, hm, _, hx⟩
  · injection hcs with hcs; injection hcs with e1 e2 e3; subst e1 e2 e3
    exact ⟨[], rfl, ⟨rfl, .inl ⟨rfl, rfl⟩⟩, fun r hr => by simp at hr⟩
  · injection hcs with hcs; injection hcs with e1 e2 e3; subst e1 e2 e3
    have hlm : len ≤ m := by rw [hm]; split <;> omega
    have each : ∀ i, i < len → ∃ q : Int × Int, V0 i = .int .i64 q.1 ∧ V1 i = .int .i64 q.2 ∧ (Lit.int .i64 q.1).wf = true ∧ (Lit.int .i64 q.2).wf = true := fun i hi => by
      obtain ⟨_, _, h3, h4⟩ := hx i (by omega)
      obtain ⟨n0, k1, _, k2⟩ := DataW.trod_int i0 h3
      obtain ⟨n1, k3, _, k4⟩ := DataW.trod_int i1 h4
      injection k1 with k1
      injection k3 with k3
      exact ⟨(n0, n1), k1, k3, k2, k4⟩
    obtain ⟨q, hq⟩ := choose_lt each
    have hL : ((List.range len).map q).length = len := by simp
    have hget : ∀ j r, ((List.range len).map q)[j]? = some r → j < len ∧ r = q j := fun j r hj => by
      rw [List.getElem?_map] at hj
      cases hr : (List.range len)[j]? with
      | none => rw [hr] at hj; cases hj
      | some k =>
        rw [hr] at hj
        obtain ⟨h1, h2⟩ := List.getElem?_eq_some_iff.1 hr
        simp at h1 h2 hj
        subst h2
        exact ⟨h1, hj.symm⟩
    refine ⟨(List.range len).map q, hL, ?_, fun r hr => ?_⟩
    · rw [hL]
      refine inRow_cells (fun j => if j % 2 = 0 then V0 (j / 2) else V1 (j / 2)) (by rw [pairs_length, hL]) (by omega) (fun j hj => ?_) fun j v hj => ?_
      · obtain ⟨h1, h2, _⟩ := hx (j / 2) (by omega)
        by_cases hp : j % 2 = 0
        · rw [if_pos hp]
          rw [show j / 2 * 2 = j by omega] at h1
          exact h1
        · rw [if_neg hp]
          rw [show j / 2 * 2 + 1 = j by omega] at h2
          exact h2
      · obtain ⟨r, h1, h2⟩ := pairs_get _ j v hj
        obtain ⟨h3, rfl⟩ := hget _ _ h1
        obtain ⟨k1, k2, _⟩ := hq _ h3
        by_cases hp : j % 2 = 0
        · rw [if_pos hp] at h2
          subst h2
          exact ⟨rfl, fun ρ => by simp only [if_pos hp]; rw [k1]; exact rel_i64 _ _⟩
        · rw [if_neg hp] at h2
          subst h2
          exact ⟨rfl, fun ρ => by simp only [if_neg hp]; rw [k2]; exact rel_i64 _ _⟩
    · obtain ⟨j, hj, rfl⟩ := List.getElem_of_mem hr
      obtain ⟨h1, h2⟩ := hget j _ (List.getElem?_eq_getElem hj)
      rw [h2]
      exact ⟨(hq _ h1).2.2.1, (hq _ h1).2.2.2⟩
end Go.Proofs.Ytenncnbaoejekaa.Ev

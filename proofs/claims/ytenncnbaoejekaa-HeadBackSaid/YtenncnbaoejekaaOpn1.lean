/-
  PLAIN: rows of whole numbers that came in.
-/
import Derived.Test.YtenncnbaoejekaaOpen
namespace Go.Proofs.Ytenncnbaoejekaa.Ev
open Go.RowKit Go.ChangeShapes Go.WideShapes Go.Deep
theorem in_ints {H : Type} {enc : TypeId × Value → H} {P : Program} {w : World} {spare : Nat → Bool} {held : Bool} {t e : TypeId} {kd : IntKind} {fuel : Nat} {a : Option Addr} {len c : Nat} {x : DataW H × List MemPlace} (ht : P.underlying t = some (.slice e)) (he : P.underlying e = some (.int kd))
    (ce : P.cellsOf e = 1)
    (h : DataW.trod enc P w 0 spare held fuel t [.slice a len c] = some x) : ∃ L : List Int, L.length = len ∧ InRow w (.slice a len c) 1 L.length (L.map fun v => .int kd v) ∧ ∀ r ∈ L, (Lit.int kd r).wf = true := by
  rcases open_slice ht h with ⟨hcs, _⟩ | ⟨a', len', cap, m, n, D, Pl, hcs, _, hl, _, hm, _, hx⟩
  · injection hcs with hcs; injection hcs with e1 e2 e3; subst e1 e2 e3
    exact ⟨[], rfl, ⟨rfl, .inl ⟨rfl, rfl⟩⟩, fun r hr => by simp at hr⟩
  · injection hcs with hcs; injection hcs with e1 e2 e3; subst e1 e2 e3
    have hlm : len ≤ m := by rw [hm]; split <;> omega
    have each : ∀ i, i < len → ∃ q : Int, w.cell? (a'.add i) = some (.int kd q) ∧ (Lit.int kd q).wf = true := fun i hi => by
      obtain ⟨cs', h1, h2⟩ := hx i (by omega)
      rw [ce] at h1
      obtain ⟨_, hlen, hcell⟩ := World.cells?_some h1
      match cs', hlen with
      | [v0], _ =>
        have d0 := hcell 0 (by omega)
        rw [add_add] at d0
        obtain ⟨n0, k1, _, w0⟩ := DataW.trod_int he h2
        injection k1 with k1
        subst k1
        exact ⟨n0, by simpa using d0, w0⟩
    obtain ⟨q, hq⟩ := choose_lt each
    have hL : ((List.range len).map q).length = len := by simp
    have hget : ∀ j r, ((List.range len).map q)[j]? = some r → j < len ∧ r = q j := fun j r hj => by
      rw [List.getElem?_map] at hj
      cases hr : (List.range len)[j]? with
      | none => rw [hr] at hj; cases hj
      | some k =>
        rw [hr] at hj
        obtain ⟨h1, h2⟩ := List.getElem?_eq_some_iff.1 hr
        simp at h1 h2 hj
        subst h2
        exact ⟨h1, hj.symm⟩
    refine ⟨(List.range len).map q, hL, ?_, fun r hr => ?_⟩
    · rw [hL]
      refine inRow_cells (fun j => .int kd (q j)) (by rw [List.length_map, hL, Nat.mul_one]) (by omega) (fun j hj => ?_) fun j v hj => ?_
      · exact (hq j (by omega)).1
      · rw [List.getElem?_map] at hj
        cases hr : ((List.range len).map q)[j]? with
        | none => rw [hr] at hj; cases hj
        | some r =>
          rw [hr] at hj
          injection hj with hj; subst hj
          obtain ⟨_, rfl⟩ := hget _ _ hr
          exact ⟨rfl, fun ρ => by simp [Rel, Value.oneCell']⟩
    · obtain ⟨j, hj, rfl⟩ := List.getElem_of_mem hr
      obtain ⟨h1, h2⟩ := hget j _ (List.getElem?_eq_getElem hj)
      rw [h2]
      exact (hq _ h1).2
theorem i64_bd {r : Int} (h : (Lit.int .i64 r).wf = true) : -9223372036854775808 ≤ r ∧ r ≤ 9223372036854775807 := by
  have h' : IntKind.i64.min ≤ r ∧ r ≤ IntKind.i64.max := by simpa [Lit.wf] using h
  have e1 : IntKind.i64.min = -9223372036854775808 := by decide
  have e2 : IntKind.i64.max = 9223372036854775807 := by decide
  rwa [e1, e2] at h'
/-- a word is a number below 2^64 -/
theorem u64_nat {r : Int} (h : (Lit.int .u64 r).wf = true) : ∃ n : Nat, r = n ∧ n < 18446744073709551616 := by
  have h' : IntKind.u64.min ≤ r ∧ r ≤ IntKind.u64.max := by simpa [Lit.wf] using h
  have e1 : IntKind.u64.min = 0 := by decide
  have e2 : IntKind.u64.max = 18446744073709551615 := by decide
  rw [e1, e2] at h'
  exact ⟨r.toNat, by omega, by omega⟩
end Go.Proofs.Ytenncnbaoejekaa.Ev

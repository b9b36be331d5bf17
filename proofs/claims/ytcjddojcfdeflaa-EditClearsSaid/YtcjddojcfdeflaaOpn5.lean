/-
  PLAIN: rows of a whole number and a word, that came in; a struct of a word and a row.
-/
import Derived.Test.YtcjddojcfdeflaaOpn4
import Derived.Lib.SmallJoins
namespace Go.Proofs.Ytcjddojcfdeflaa.Ev
open Go.RowKit Go.ChangeShapes Go.WideShapes Go.Deep
/-- rows of a whole number and a word, as they came in -/
def prs (L : List (Int × Int)) : List V := L.flatMap fun r => [.int .i64 r.1, .int .u64 r.2]
theorem prs_get : ∀ (L : List (Int × Int)) (j : Nat) (v : V), (prs L)[j]? = some v → ∃ r, L[j / 2]? = some r ∧ v = if j % 2 = 0 then .int .i64 r.1 else .int .u64 r.2
  | [], j, v, h => by simp [prs] at h
  | r :: L, 0, v, h => by
    have h' : some (V.int .i64 r.1) = some v := h
    injection h' with h'; subst h'
    exact ⟨r, rfl, rfl⟩
  | r :: L, 1, v, h => by
    have h' : some (V.int .u64 r.2) = some v := h
    injection h' with h'; subst h'
    exact ⟨r, rfl, rfl⟩
  | r :: L, j + 2, v, h => by
    obtain ⟨q, h1, h2⟩ := prs_get L j v h
    refine ⟨q, ?_, ?_⟩
    · rw [show (j + 2) / 2 = j / 2 + 1 by omega]; simpa using h1
    · rw [show (j + 2) % 2 = j % 2 by omega]; exact h2
theorem prs_length (L : List (Int × Int)) : (prs L).length = L.length * 2 := by
  induction L with
  | nil => rfl
  | cons r L ih =>
    have : (prs (r :: L)).length = (prs L).length + 2 := by simp [prs]
    rw [this, ih, List.length_cons]; omega
theorem rel_u64 (ρ : Rho) (n : Int) : Rel ρ (.int .u64 n) (.int .u64 n) := by simp [Rel, Value.oneCell']
theorem in_prs {H : Type} {enc : TypeId × Value → H} {P : Program} {w : World} {spare : Nat → Bool} {held : Bool} {t e : TypeId} {f0 f1 : Field} {fuel : Nat} {a : Option Addr} {len c : Nat} {x : DataW H × List MemPlace} (ht : P.underlying t = some (.slice e)) (he : P.underlying e = some (.struct #[f0, f1]))
    (ce : P.cellsOf e = 2) (o0 : f0.offset = 0) (o1 : f1.offset = 1) (c0 : P.cellsOf f0.type = 1) (c1 : P.cellsOf f1.type = 1) (i0 : P.underlying f0.type = some (.int .i64)) (i1 : P.underlying f1.type = some (.int .u64))
    (h : DataW.trod enc P w 0 spare held fuel t [.slice a len c] = some x) : ∃ L : List (Int × Int), L.length = len ∧ InRow w (.slice a len c) 2 L.length (prs L) ∧ ∀ r ∈ L, (Lit.int .i64 r.1).wf = true ∧ (Lit.int .u64 r.2).wf = true := by
  rcases open_slice_pairs ht he ce o0 o1 c0 c1 h with ⟨hcs, _⟩ | ⟨a', len', cap, m, n, V0, V1, D0, D1, P0, P1, hcs, _, hl, _, hm, _, hx⟩
  · injection hcs with hcs; injection hcs with e1 e2 e3; subst e1 e2 e3
    exact ⟨[], rfl, ⟨rfl, .inl ⟨rfl, rfl⟩⟩, fun r hr => by simp at hr⟩
  · injection hcs with hcs; injection hcs with e1 e2 e3; subst e1 e2 e3
    have hlm : len ≤ m := by rw [hm]; split <;> omega
    have each : ∀ i, i < len → ∃ q : Int × Int, V0 i = .int .i64 q.1 ∧ V1 i = .int .u64 q.2 ∧ (Lit.int .i64 q.1).wf = true ∧ (Lit.int .u64 q.2).wf = true := fun i hi => by
      obtain ⟨_, _, h3, h4⟩ := hx i (by omega)
      obtain ⟨n0, k1, _, k2⟩ := DataW.trod_int i0 h3
      obtain ⟨n1, k3, _, k4⟩ := DataW.trod_int i1 h4
      injection k1 with k1
      injection k3 with k3
      exact ⟨(n0, n1), k1, k3, k2, k4⟩
    obtain ⟨q, hq⟩ := choose_lt each
    have hL : ((List.range len).map q).length = len := by simp
    have hget : ∀ j r, ((List.range len).map q)[j]? = some r → j < len ∧ r = q j := fun j r hj => by
      rw [List.getElem?_map] at hj
      cases hr : (List.range len)[j]? with
      | none => rw [hr] at hj; cases hj
      | some k =>
        rw [hr] at hj
        obtain ⟨h1, h2⟩ := List.getElem?_eq_some_iff.1 hr
        simp at h1 h2 hj
        subst h2
        exact ⟨h1, hj.symm⟩
    refine ⟨(List.range len).map q, hL, ?_, fun r hr => ?_⟩
    · rw [hL]
      refine inRow_cells (fun j => if j % 2 = 0 then V0 (j / 2) else V1 (j / 2)) (by rw [prs_length, hL]) (by omega) (fun j hj => ?_) fun j v hj => ?_
      · obtain ⟨h1, h2, _⟩ := hx (j / 2) (by omega)
        by_cases hp : j % 2 = 0
        · rw [if_pos hp]
          rw [show j / 2 * 2 = j by omega] at h1
          exact h1
        · rw [if_neg hp]
          rw [show j / 2 * 2 + 1 = j by omega] at h2
          exact h2
      · obtain ⟨r, h1, h2⟩ := prs_get _ j v hj
        obtain ⟨h3, rfl⟩ := hget _ _ h1
        obtain ⟨k1, k2, _⟩ := hq _ h3
        by_cases hp : j % 2 = 0
        · rw [if_pos hp] at h2
          subst h2
          exact ⟨rfl, fun ρ => by simp only [if_pos hp]; rw [k1]; exact rel_i64 _ _⟩
        · rw [if_neg hp] at h2
          subst h2
          exact ⟨rfl, fun ρ => by simp only [if_neg hp]; rw [k2]; exact rel_u64 _ _⟩
    · obtain ⟨j, hj, rfl⟩ := List.getElem_of_mem hr
      obtain ⟨h1, h2⟩ := hget j _ (List.getElem?_eq_getElem hj)
      rw [h2]
      exact ⟨(hq _ h1).2.2.1, (hq _ h1).2.2.2⟩
/-- rows of a whole number and a word -/
def iw (L : List (Int × BitVec 64)) : List V := L.flatMap fun r => [.int .i64 r.1, wd r.2]
theorem iw_length (L : List (Int × BitVec 64)) : (iw L).length = L.length * 2 := by
  induction L with
  | nil => rfl
  | cons r L ih =>
    have : (iw (r :: L)).length = (iw L).length + 2 := by simp [iw]
    rw [this, ih, List.length_cons]; omega
theorem iw_app (L K : List (Int × BitVec 64)) : iw (L ++ K) = iw L ++ iw K := by simp [iw]
theorem iw_at : ∀ (L : List (Int × BitVec 64)) (i : Nat) (r : Int × BitVec 64), L[i]? = some r → (iw L)[i * 2 + 0]? = some (.int .i64 r.1) ∧ (iw L)[i * 2 + 1]? = some (wd r.2)
  | [], i, r, h => by simp at h
  | q :: L, 0, r, h => by simp at h; subst h; exact ⟨rfl, rfl⟩
  | q :: L, i + 1, r, h => by
    have := iw_at L i r (by simpa using h)
    rw [show iw (q :: L) = .int .i64 q.1 :: wd q.2 :: iw L from rfl, show (i + 1) * 2 + 0 = i * 2 + 0 + 1 + 1 by omega, show (i + 1) * 2 + 1 = i * 2 + 1 + 1 + 1 by omega]
    exact this
theorem iw_of : ∀ {L : List (Int × Int)}, (∀ r ∈ L, (Lit.int .i64 r.1).wf = true ∧ (Lit.int .u64 r.2).wf = true) → ∃ K : List (Int × BitVec 64), K.length = L.length ∧ prs L = iw K ∧ ∀ r ∈ K, -9223372036854775808 ≤ r.1 ∧ r.1 ≤ 9223372036854775807
  | [], _ => ⟨[], rfl, rfl, fun r h => by simp at h⟩
  | r :: L, h => by
    obtain ⟨K, h1, h2, h3⟩ := iw_of (L := L) fun q hq => h q (by simp [hq])
    obtain ⟨w1, w2⟩ := h r (by simp)
    obtain ⟨n, hn, hlt⟩ := u64_nat w2
    refine ⟨(r.1, BitVec.ofInt 64 r.2) :: K, by simp [h1], ?_, fun q hq => ?_⟩
    · show V.int .i64 r.1 :: V.int .u64 r.2 :: prs L = V.int .i64 r.1 :: wd (BitVec.ofInt 64 r.2) :: iw K
      rw [h2, wd_lit (by omega) (by omega)]
    · rcases List.mem_cons.1 hq with rfl | hq
      · exact i64_bd w1
      · exact h3 q hq
theorem open_rec {H : Type} {enc : TypeId × Value → H} {P : Program} {w : World} {b0 : Nat} {r : Reach} {spare : Nat → Bool} {held : Bool} {t ts e : TypeId} {f0 f1 g0 g1 : Field} {v : Value} {d : DataW H} {p : List MemPlace}
    (hs : P.underlying t = some (.struct #[f0, f1])) (hone : oneCellFields P #[f0, f1] = true) (hC : P.cellsOf t = 2) (i0 : P.underlying f0.type = some (.int .u64)) (i1 : f1.type = ts) (ht : P.underlying ts = some (.slice e)) (he : P.underlying e = some (.struct #[g0, g1]))
    (ce : P.cellsOf e = 2) (o0 : g0.offset = 0) (o1 : g1.offset = 1) (c0 : P.cellsOf g0.type = 1) (c1 : P.cellsOf g1.type = 1) (j0 : P.underlying g0.type = some (.int .i64)) (j1 : P.underlying g1.type = some (.int .u64))
    (hv : Value.okWide P w r b0 t v) (h : DataW.Trod enc P w 0 spare held t v d p) : ∃ (n : Int) (x : Value) (L : List (Int × Int)), v = .agg #[.int .u64 n, x] ∧ (Lit.int .u64 n).wf = true ∧ InRow w x 2 L.length (prs L) ∧ ∀ r ∈ L, (Lit.int .i64 r.1).wf = true ∧ (Lit.int .u64 r.2).wf = true := by
  obtain ⟨v0, v1, y0, y1, n, rfl, _, _, h0, h1⟩ := Go.Joins.open_agg2 hs hone hC hv h
  obtain ⟨n0, k1, _, k2⟩ := DataW.trod_int i0 h0
  injection k1 with k1; subst k1
  rw [i1] at h1
  obtain ⟨a, l, c, k3⟩ := Go.Joins.slice_form ht h1
  injection k3 with k3; subst k3
  obtain ⟨L, hL, hr, hw⟩ := in_prs ht he ce o0 o1 c0 c1 j0 j1 h1
  exact ⟨n0, _, L, rfl, k2, hr, hw⟩
theorem open_head {H : Type} {enc : TypeId × Value → H} {P : Program} {w : World} {b0 : Nat} {r : Reach} {spare : Nat → Bool} {held : Bool} {t : TypeId} {f0 f1 g0 g1 g2 g3 : Field} {v : Value} {d : DataW H} {p : List MemPlace}
    (hs : P.underlying t = some (.struct #[f0, f1])) (hC : P.cellsOf t = 5) (o0 : f0.offset = 0) (o1 : f1.offset = 4) (k0 : P.cellsOf f0.type = 4) (k1 : P.cellsOf f1.type = 1) (he : P.underlying f0.type = some (.struct #[g0, g1, g2, g3])) (hone : oneCellFields P #[g0, g1, g2, g3] = true)
    (i1 : P.underlying f1.type = some (.int .u64)) (j0 : P.underlying g0.type = some (.int .i64)) (j1 : P.underlying g1.type = some (.int .i64)) (j2 : P.underlying g2.type = some (.int .i64)) (j3 : P.underlying g3.type = some (.int .i64))
    (hv : Value.okWide P w r b0 t v) (h : DataW.Trod enc P w 0 spare held t v d p) : ∃ a b c e n : Int, v = .agg #[.int .i64 a, .int .i64 b, .int .i64 c, .int .i64 e, .int .u64 n] ∧ (Lit.int .i64 a).wf = true ∧ (Lit.int .i64 b).wf = true ∧ (Lit.int .i64 c).wf = true ∧ (Lit.int .i64 e).wf = true ∧ (Lit.int .u64 n).wf = true := by
  obtain ⟨cs, rfl, hsz⟩ := okWide_struct hs hv
  obtain ⟨l⟩ := cs
  rw [hC] at hsz
  match l, hsz with
  | [c0, c1, c2, c3, c4], _ =>
    obtain ⟨fuel, hf⟩ := h
    obtain ⟨y0, y1, n, _, _, h0, h1⟩ := trod_struct2 hs hf
    simp [Value.cells, o0, o1, k0, k1] at h0 h1
    obtain ⟨z0, z1, z2, z3, m, _, _, q0, q1, q2, q3⟩ := Go.Joins.trod_struct4 he h0
    obtain ⟨a0, b0⟩ := hone_of hone 0 g0 rfl
    obtain ⟨a1, b1⟩ := hone_of hone 1 g1 rfl
    obtain ⟨a2, b2⟩ := hone_of hone 2 g2 rfl
    obtain ⟨a3, b3⟩ := hone_of hone 3 g3 rfl
    simp [a0, b0] at q0
    simp [a1, b1] at q1
    simp [a2, b2] at q2
    simp [a3, b3] at q3
    obtain ⟨n0, e0, _, w0⟩ := DataW.trod_int j0 q0
    obtain ⟨n1, e1, _, w1⟩ := DataW.trod_int j1 q1
    obtain ⟨n2, e2, _, w2⟩ := DataW.trod_int j2 q2
    obtain ⟨n3, e3, _, w3⟩ := DataW.trod_int j3 q3
    obtain ⟨n4, e4, _, w4⟩ := DataW.trod_int i1 h1
    injection e0 with e0; injection e1 with e1; injection e2 with e2; injection e3 with e3; injection e4 with e4
    subst e0 e1 e2 e3 e4
    exact ⟨n0, n1, n2, n3, n4, rfl, w0, w1, w2, w3, w4⟩
end Go.Proofs.Ytcjddojcfdeflaa.Ev

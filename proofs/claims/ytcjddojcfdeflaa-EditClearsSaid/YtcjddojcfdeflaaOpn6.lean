/-
  PLAIN: a struct of three whole numbers and a row of pairs, that came in.
-/
import Derived.Test.YtcjddojcfdeflaaOpn5
import Derived.Test.YtcjddojcfdeflaaRdAG
set_option linter.unusedSimpArgs false
namespace Go.Proofs.Ytcjddojcfdeflaa
open Go.RowKit Ev Go.Deep
def InCap (x : Value) : Prop := ∀ a n c, x = .slice a n c → n ≤ c
theorem in_intsC {H : Type} {enc : TypeId × Value → H} {P : Program} {w : World} {spare : Nat → Bool} {held : Bool} {t e : TypeId} {kd : IntKind} {fuel : Nat} {a : Option Addr} {len c : Nat} {x : DataW H × List MemPlace} (ht : P.underlying t = some (.slice e)) (he : P.underlying e = some (.int kd))
    (ce : P.cellsOf e = 1)
    (h : DataW.trod enc P w 0 spare held fuel t [.slice a len c] = some x) : ∃ L : List Int, L.length = len ∧ (InRow w (.slice a len c) 1 L.length (L.map fun v => .int kd v) ∧ InCap (.slice a len c)) ∧ ∀ r ∈ L, (Lit.int kd r).wf = true := by
  obtain ⟨L, h1, h2, h3⟩ := Ev.in_ints ht he ce h
  refine ⟨L, h1, ⟨h2, fun a' n' c' e => ?_⟩, h3⟩
  injection e with e1 e2 e3
  subst e1 e2 e3
  rcases open_slice ht h with ⟨hcs, _⟩ | ⟨a', len', cap, m, n, D, Pl, hcs, _, hl, _⟩
  · injection hcs with hcs; injection hcs with _ e2 e3; omega
  · injection hcs with hcs; injection hcs with _ e2 e3; omega
theorem rel_cap {ρ : Rho} {v : V} {x : Value} (h : Rel ρ v x) (hc : InCap x) : CapOk v := by
  intro m o l q e
  subst e
  simp only [Rel] at h
  obtain ⟨r, _, rfl⟩ := h
  exact hc _ _ _ rfl
end Go.Proofs.Ytcjddojcfdeflaa
namespace Go.Proofs.Ytcjddojcfdeflaa.Ev
open Go.RowKit Go.ChangeShapes Go.WideShapes Go.Deep
theorem open_node {H : Type} {enc : TypeId × Value → H} {P : Program} {w : World} {b0 : Nat} {r : Reach} {spare : Nat → Bool} {held : Bool} {t ts e : TypeId} {f0 f1 f2 f3 g0 g1 : Field} {v : Value} {d : DataW H} {p : List MemPlace}
    (hs : P.underlying t = some (.struct #[f0, f1, f2, f3])) (hone : oneCellFields P #[f0, f1, f2, f3] = true) (hC : P.cellsOf t = 4) (i0 : P.underlying f0.type = some (.int .i64)) (i1 : P.underlying f1.type = some (.int .i64)) (i2 : P.underlying f2.type = some (.int .i64)) (i3 : f3.type = ts) (ht : P.underlying ts = some (.slice e)) (he : P.underlying e = some (.struct #[g0, g1]))
    (ce : P.cellsOf e = 2) (o0 : g0.offset = 0) (o1 : g1.offset = 1) (c0 : P.cellsOf g0.type = 1) (c1 : P.cellsOf g1.type = 1) (j0 : P.underlying g0.type = some (.int .i64)) (j1 : P.underlying g1.type = some (.int .i64))
    (hv : Value.okWide P w r b0 t v) (h : DataW.Trod enc P w 0 spare held t v d p) : ∃ (a b c : Int) (x : Value) (L : List (Int × Int)), v = .agg #[.int .i64 a, .int .i64 b, .int .i64 c, x] ∧ (Lit.int .i64 a).wf = true ∧ (Lit.int .i64 b).wf = true ∧ (Lit.int .i64 c).wf = true ∧ (InRow w x 2 L.length (pairs L) ∧ InCap x) ∧ ∀ r ∈ L, (Lit.int .i64 r.1).wf = true ∧ (Lit.int .i64 r.2).wf = true := by
  obtain ⟨v0, v1, v2, v3, y0, y1, y2, y3, n, rfl, _, _, h0, h1, h2, h3⟩ := Go.Joins.open_agg4 hs hone hC hv h
  obtain ⟨n0, k0, _, w0⟩ := DataW.trod_int i0 h0
  injection k0 with k0; subst k0
  obtain ⟨n1, k1, _, w1⟩ := DataW.trod_int i1 h1
  injection k1 with k1; subst k1
  obtain ⟨n2, k2, _, w2⟩ := DataW.trod_int i2 h2
  injection k2 with k2; subst k2
  rw [i3] at h3
  obtain ⟨a, l, c, k3⟩ := Go.Joins.slice_form ht h3
  injection k3 with k3; subst k3
  obtain ⟨L, hL, hr, hw⟩ := in_pairs ht he ce o0 o1 c0 c1 j0 j1 h3
  refine ⟨n0, n1, n2, _, L, rfl, w0, w1, w2, ⟨hr, fun a' n' c' e => ?_⟩, hw⟩
  injection e with e1 e2 e3
  subst e1 e2 e3
  rcases open_slice ht h3 with ⟨hcs, _⟩ | ⟨a', len', cap, m, n, D, Pl, hcs, _, hl, _⟩
  · injection hcs with hcs; injection hcs with _ e2 e3; omega
  · injection hcs with hcs; injection hcs with _ e2 e3; omega
end Go.Proofs.Ytcjddojcfdeflaa.Ev

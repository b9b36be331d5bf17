/-
  LineOrder, LineSure: over whatever came in.
-/
import Derived.Test.YtnigikccijjihaaLineS
import Derived.Test.YtnigikccijjihaaOpn1
namespace Go.Proofs.Ytnigikccijjihaa
open Go.RowKit Ev
theorem namesOkL : Ev.namesOk Try.prog = true := by kernel_rfl
theorem mixesL : Try.prog.follows .mixedOrders = true := by kernel_rfl
theorem w_LineOrder (L : List (Int × Int × Int)) (keep : Int) (W : World) (x : Value) (hx : InRow W x 3 L.length (triples L)) (_ : ∀ r ∈ L, (Lit.int .i64 r.1).wf = true ∧ (Lit.int .i64 r.2.1).wf = true ∧ (Lit.int .u64 r.2.2).wf = true) (_ : -9223372036854775808 ≤ keep ∧ keep ≤ 9223372036854775807) :
    Calls Try.prog 5 #[x, .int .i64 keep] W fun e W' => e = .returned (.bool true) ∧ Below W.heap.size W W' := by
  obtain ⟨st, ρ, v, hb, _, hv, _, hr⟩ := (Begin.zero W).row hx
  exact law_calls (callL_both namesOkL mixesL).1 hb (.cons hv (.cons (rel_int _ _) .nil)) (g_LineOrder st v L keep hr 0)
theorem w_LineSure (L K : List (Int × Int × Int)) (W : World) (x : Value) (hx : InRow W x 3 L.length (triples L)) (_ : ∀ r ∈ L, (Lit.int .i64 r.1).wf = true ∧ (Lit.int .i64 r.2.1).wf = true ∧ (Lit.int .u64 r.2.2).wf = true)
    (y : Value) (hy : InRow W y 3 K.length (triples K)) (_ : ∀ r ∈ K, (Lit.int .i64 r.1).wf = true ∧ (Lit.int .i64 r.2.1).wf = true ∧ (Lit.int .u64 r.2.2).wf = true) :
    Calls Try.prog 6 #[x, y] W fun e W' => e = .returned (.bool true) ∧ Below W.heap.size W W' := by
  obtain ⟨st, ρ, v, hb, _, hv, _, hr⟩ := (Begin.zero W).row hx
  obtain ⟨st2, ρ2, w, hb2, hle, hw, he, hk⟩ := hb.row hy
  exact law_calls (callL_both namesOkL mixesL).1 hb2 (.cons (Rel.mono hle _ _ hv) (.cons hw .nil)) (g_LineSure st2 v w L K (hr.ext he) hk 0)
end Go.Proofs.Ytnigikccijjihaa

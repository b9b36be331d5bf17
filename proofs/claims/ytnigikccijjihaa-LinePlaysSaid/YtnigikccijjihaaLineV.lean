/-
  LinePlays: over whatever came in.
-/
import Derived.Test.YtnigikccijjihaaLineP
namespace Go.Proofs.Ytnigikccijjihaa
open Go.RowKit Ev
theorem namesOkL : Ev.namesOk Try.prog = true := by kernel_rfl
theorem mixesL : Try.prog.follows .mixedOrders = true := by kernel_rfl
theorem w_LinePlays (L0 : List Int) (K0 : List (Int × Int × Int)) (W : World) (x : Value) (hx : InRow W x 1 L0.length (L0.map fun v => V.int .u64 v)) (hw : ∀ r ∈ L0, (Lit.int .u64 r).wf = true)
    (y : Value) (hy : InRow W y 3 K0.length (triples K0)) (hk : ∀ r ∈ K0, (Lit.int .i64 r.1).wf = true ∧ (Lit.int .i64 r.2.1).wf = true ∧ (Lit.int .u64 r.2.2).wf = true) :
    Calls Try.prog 4 #[x, y] W fun e W' => e = .returned (.bool true) ∧ Below W.heap.size W W' := by
  obtain ⟨L, hL, hm⟩ := wv_of hw
  obtain ⟨K, hK, hm2, _⟩ := trip_of hk
  rw [hm, ← hL] at hx
  rw [hm2, ← hK] at hy
  obtain ⟨st, ρ, v, hb, _, hv, _, hr⟩ := (Begin.zero W).row hx
  obtain ⟨st2, ρ2, w, hb2, hle, hw, he, hk⟩ := hb.row hy
  exact law_calls (callL_both namesOkL mixesL).1 hb2 (.cons (Rel.mono hle _ _ hv) (.cons hw .nil)) (g_LinePlays st2 v w L K (hr.ext he) hk 0)
end Go.Proofs.Ytnigikccijjihaa

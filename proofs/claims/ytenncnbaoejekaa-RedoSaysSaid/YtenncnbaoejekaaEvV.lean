/-
  PLAIN: a law without arguments that the evaluator runs to true: every run of it returns true, and leaves what stood before as it was.
-/
import Derived.Test.YtenncnbaoejekaaEvU
namespace Go.Proofs.Ytenncnbaoejekaa.Ev
open Go.RowKit

noncomputable def namesOk (P : Program) : Bool := P.funcs.toList.all fun fn => !(fn.name == "runtime.NumGoroutine")
theorem named_of {P : Program} (h : namesOk P = true) : Named P := fun f fn hf e => by
  have h1 := List.all_eq_true.1 h fn (by
    have : P.funcs.toList[f]? = some fn := by simpa using hf
    exact List.mem_of_getElem? this)
  rw [e] at h1
  simp at h1
theorem wf_zero : Wf ⟨0, .lf⟩ := fun n _ => by simp
theorem yes_ok {P : Program} (hn : namesOk P = true) (hm : P.follows .mixedOrders = true) {fuel f : Nat} (h : yes P fuel f = true) (w : World) :
    Calls P f #[] w fun e w' => e = .returned (.bool true) ∧ Below w.heap.size w w' := by
  have hN := named_of hn
  have hcs := callOf_sound ((ev_ok (draw_sound hN hm) hN fuel).1)
  unfold yes run at h
  split at h
  · rename_i b st' hr
    obtain ⟨_, k⟩ := hcs _ _ _ _ _ _ hr wf_zero
    have hh := k w.heap.size (fun _ => none) (fun _ => none) w [] .nil (fun n b _ hb => by simp at hb) ⟨Nat.le_refl _, fun n b e => (by cases e), fun n m b b' r r' e => (by cases e)⟩ (fun n _ _ => rfl)
      (fun e w' => e = .returned (.bool true) ∧ Below w.heap.size w w') (fun ρ' v' w' _ _ hv _ hb => by
        simp only [Rel] at hv
        exact ⟨by rw [hv.1], hb⟩)
    exact hh
  · cases h
end Go.Proofs.Ytenncnbaoejekaa.Ev

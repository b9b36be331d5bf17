/-
  The law LockPlays: what comes in.
-/
import Derived.Test.YtdoennkmcloalaaLqB
set_option linter.unusedVariables false
namespace Go.Proofs.Ytdoennkmcloalaa
open Go.RowKit Ev
theorem lkG_both : CallSound Try.prog lkG ∧ HasBody Try.prog lkG :=
  addF_both namesOkK mixesK _ (insF_sound (callL_both namesOkK mixesK) insC_I ⟨_, _, Try.func177, rfl⟩ (callL_both namesOkK mixesK))
set_option maxRecDepth 20000 in
theorem fits_lacts : Fits Try.prog (rowC laC) 161 := fits_row Try.underlying161 (by kernel_rfl) (by decide)
  (fits_struct Try.underlying167 (by kernel_rfl) (FitsF.cons rfl (by kernel_rfl) (fits_i Try.underlying3) (FitsF.cons rfl (by kernel_rfl) (fits_i Try.underlying3) (FitsF.one rfl (by kernel_rfl)
    (fits_row Try.underlying164 (by kernel_rfl) (by decide) (fits_struct Try.underlying170 (by kernel_rfl) (FitsF.cons rfl (by kernel_rfl) (fits_i Try.underlying3) (FitsF.one rfl (by kernel_rfl) (fits_b Try.underlying4)))))))))
theorem w_LockPlays (l : List LAct) (W : World) (x : Value) (hx : (rowC laC).rel W (fun j => [x][j]?.getD default) l) :
    Calls Try.prog 17 #[x] W fun e W' => e = .returned (.bool true) ∧ Below W.heap.size W W' := by
  obtain ⟨s1, r1, v1, b1, l1, q1, e1, a1⟩ := (rowC laC).enter (Begin.zero W) hx
  exact law_calls (lawX_sound namesOkK mixesK lkG_both Try.func108 rfl lockAwake) b1 (.cons (q1 0 (by decide)).2 .nil) (g_LockPlays s1 v1 l a1)
end Go.Proofs.Ytdoennkmcloalaa

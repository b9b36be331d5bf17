/-
  The law ImageOpens: what comes in.
-/
import Derived.Test.YtgcpgidofikcdaaGreatDoorImE
set_option linter.unusedVariables false
namespace Go.Proofs.YtgcpgidofikcdaaGreatDoor
open Go.RowKit Ev
theorem rel_gVi (ρ : Rho) (g : Gm) : Rel ρ (gV g) (.agg #[.int .i64 g.b, .int .i64 g.n, .int .i64 g.c, .int .i64 g.k]) := by
  unfold gV
  simp only [Rel]
  exact ⟨_, rfl, .cons (rel_int _ _) (.cons (rel_int _ _) (.cons (rel_int _ _) (.cons (rel_int _ _) .nil))), by simp⟩
theorem w_ImageOpens (b n c k a p : Int) (W : World) (_ : -9223372036854775808 ≤ b ∧ b ≤ 9223372036854775807) (_ : -9223372036854775808 ≤ n ∧ n ≤ 9223372036854775807) (_ : -9223372036854775808 ≤ c ∧ c ≤ 9223372036854775807) (_ : -9223372036854775808 ≤ k ∧ k ≤ 9223372036854775807) (ha : -9223372036854775808 ≤ a ∧ a ≤ 9223372036854775807) (hp : (Lit.int .u64 p).wf = true) :
    Calls Tryz.prog 7 #[.agg #[.int .i64 b, .int .i64 n, .int .i64 c, .int .i64 k], .int .i64 a, .int .u64 p] W fun e W' => e = .returned (.bool true) ∧ Below W.heap.size W W' := by
  obtain ⟨r, rfl, hr⟩ := u64_nat hp
  exact law_calls imLaw (Begin.zero W) (.cons (rel_gVi _ ⟨b, n, c, k⟩) (.cons (rel_int _ _) (.cons (by rw [← wd_lit (n := (r : Int)) (by omega) (by omega)]; exact rel_int _ _) .nil))) (g_ImageOpens ⟨0, .lf⟩ ⟨b, n, c, k⟩ a (BitVec.ofInt 64 r) ha)
end Go.Proofs.YtgcpgidofikcdaaGreatDoor

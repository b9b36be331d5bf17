/-
  PLAIN: the closed law TreeKnown runs to true (run by the evaluator, which is sound).
-/
import Derived.Test.YtgcpgidofikcdaaGreatDoorTrX
namespace Go.Proofs.YtgcpgidofikcdaaGreatDoor
open Go.RowKit Ev
theorem ranTreeKnown : yesJ Tryz.prog trX 100000 3 [] = true := by kernel_rfl
theorem w_TreeKnown (W : World) : Calls Tryz.prog 3 #[] W fun e W' => e = .returned (.bool true) ∧ Below W.heap.size W W' := yesJ_ok namesOkT mixesT trX_ok .nil ranTreeKnown W
end Go.Proofs.YtgcpgidofikcdaaGreatDoor

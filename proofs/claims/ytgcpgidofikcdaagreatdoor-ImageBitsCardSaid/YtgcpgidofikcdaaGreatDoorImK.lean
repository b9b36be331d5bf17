/-
  PLAIN: what the laws of images ask first, run by the evaluator.
-/
import Derived.Test.YtgcpgidofikcdaaGreatDoorTrX
namespace Go.Proofs.YtgcpgidofikcdaaGreatDoor
open Go.RowKit Ev
theorem ranImAwake : yesJ Tryz.prog trX 100000 27 [] = true := by kernel_rfl
theorem imAwake (W : World) : Calls Tryz.prog 27 #[] W fun e W' => e = .returned (.bool true) ∧ Below W.heap.size W W' := yesJ_ok namesOkT mixesT trX_ok .nil ranImAwake W
end Go.Proofs.YtgcpgidofikcdaaGreatDoor

/-
  PLAIN: the Go function lintel/lintellaw21.DeedKnown, called in one state of a run: run in pieces by the evaluator, which is sound.
-/
import Derived.Test.YtaoaofgbakhddaaGreatDoorChecked
import Derived.Test.YtaoaofgbakhddaaGreatDoorPrDeedKnown0D2
namespace Go.Proofs.YtaoaofgbakhddaaGreatDoor.rDeedKnown0
open Go.RowKit Ev
theorem c144 : stepS G ⟨false, [], 0, n144⟩ 3 L144 [] e92 t74 = some (e93, t75) := by kernel_rfl
theorem c145 : endX Tryz.prog Tryz.f3 S145 L145 e93 t75 = some v1 := by kernel_rfl
end Go.Proofs.YtaoaofgbakhddaaGreatDoor.rDeedKnown0

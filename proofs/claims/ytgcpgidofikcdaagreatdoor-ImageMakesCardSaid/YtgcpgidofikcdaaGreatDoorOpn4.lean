/-
  PLAIN: rows of two whole numbers and a word.
-/
import Derived.Test.YtgcpgidofikcdaaGreatDoorSb
namespace Go.Proofs.YtgcpgidofikcdaaGreatDoor
open Go.RowKit Ev
end Go.Proofs.YtgcpgidofikcdaaGreatDoor

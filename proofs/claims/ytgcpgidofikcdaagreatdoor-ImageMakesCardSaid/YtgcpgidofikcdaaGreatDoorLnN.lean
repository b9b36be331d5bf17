/-
  PLAIN: what a row names.
-/
import Derived.Test.YtgcpgidofikcdaaGreatDoorMid
set_option linter.unusedSimpArgs false
namespace Go.Proofs.YtgcpgidofikcdaaGreatDoor
open Go.RowKit Ev
end Go.Proofs.YtgcpgidofikcdaaGreatDoor

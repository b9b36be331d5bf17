/-
  PLAIN: sums of words: what another word does.
-/
import Derived.Test.YtgcpgidofikcdaaGreatDoorRd
set_option linter.unusedSimpArgs false
namespace Go.Proofs.YtgcpgidofikcdaaGreatDoor
open Go.RowKit Ev
end Go.Proofs.YtgcpgidofikcdaaGreatDoor

/-
  PLAIN: a struct of three whole numbers and a row of pairs, that came in.
-/
import Derived.Test.YtgcpgidofikcdaaGreatDoorOpn5
import Derived.Test.YtgcpgidofikcdaaGreatDoorRdAG
set_option linter.unusedSimpArgs false
namespace Go.Proofs.YtgcpgidofikcdaaGreatDoor
open Go.RowKit Ev Go.Deep
end Go.Proofs.YtgcpgidofikcdaaGreatDoor
namespace Go.Proofs.YtgcpgidofikcdaaGreatDoor.Ev
open Go.RowKit Go.ChangeShapes Go.WideShapes Go.Deep
end Go.Proofs.YtgcpgidofikcdaaGreatDoor.Ev

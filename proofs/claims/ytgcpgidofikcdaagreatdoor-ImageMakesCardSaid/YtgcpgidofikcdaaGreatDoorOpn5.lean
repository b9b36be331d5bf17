/-
  PLAIN: rows of a whole number and a word, that came in; a struct of a word and a row.
-/
import Derived.Test.YtgcpgidofikcdaaGreatDoorOpn4
import Derived.Lib.SmallJoins
namespace Go.Proofs.YtgcpgidofikcdaaGreatDoor.Ev
open Go.RowKit Go.ChangeShapes Go.WideShapes Go.Deep
end Go.Proofs.YtgcpgidofikcdaaGreatDoor.Ev

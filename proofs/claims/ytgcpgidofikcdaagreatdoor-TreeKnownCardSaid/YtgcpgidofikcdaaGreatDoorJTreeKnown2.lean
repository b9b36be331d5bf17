/-
  PLAIN: what the row of TreeKnown says of the program, part by part.
-/
import Derived.Test.YtgcpgidofikcdaaGreatDoorChecked
import Derived.Test.YtgcpgidofikcdaaGreatDoorRows
import Derived.JoinedOf
set_option linter.unusedVariables false
namespace Go.Proofs.YtgcpgidofikcdaaGreatDoor.treeKnownJ
open Go
theorem tb2 : (Rows.treeKnownRow.unfollowed == Tryz.pinned.checked.prog.unfollowed 3) = true := by kernel_rfl
end Go.Proofs.YtgcpgidofikcdaaGreatDoor.treeKnownJ

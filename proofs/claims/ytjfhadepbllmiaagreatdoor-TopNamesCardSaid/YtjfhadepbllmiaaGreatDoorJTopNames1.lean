/-
  PLAIN: what the row of TopNames says of the program, part by part.
-/
import Derived.Test.YtjfhadepbllmiaaGreatDoorChecked
import Derived.Test.YtjfhadepbllmiaaGreatDoorRows
import Derived.JoinedOf
set_option linter.unusedVariables false
namespace Go.Proofs.YtjfhadepbllmiaaGreatDoor.topNamesJ
open Go
theorem tb1 : (Rows.topNamesRow.inPlace == Tryz.pinned.checked.prog.inPlace 3) = true := by kernel_rfl
end Go.Proofs.YtjfhadepbllmiaaGreatDoor.topNamesJ

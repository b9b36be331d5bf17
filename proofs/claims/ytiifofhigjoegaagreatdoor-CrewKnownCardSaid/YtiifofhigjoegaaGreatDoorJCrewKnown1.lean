/-
  PLAIN: what the row of CrewKnown says of the program, part by part.
-/
import Derived.Test.YtiifofhigjoegaaGreatDoorChecked
import Derived.Test.YtiifofhigjoegaaGreatDoorRows
import Derived.JoinedOf
set_option linter.unusedVariables false
namespace Go.Proofs.YtiifofhigjoegaaGreatDoor.crewKnownJ
open Go
theorem tb1 : (Rows.crewKnownRow.inPlace == Tryz.pinned.checked.prog.inPlace 3) = true := by kernel_rfl
end Go.Proofs.YtiifofhigjoegaaGreatDoor.crewKnownJ

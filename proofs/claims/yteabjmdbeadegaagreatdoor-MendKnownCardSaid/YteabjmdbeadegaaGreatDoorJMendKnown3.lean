/-
  PLAIN: what the row of MendKnown says of the program, part by part.
-/
import Derived.Test.YteabjmdbeadegaaGreatDoorChecked
import Derived.Test.YteabjmdbeadegaaGreatDoorRows
import Derived.JoinedOf
set_option linter.unusedVariables false
namespace Go.Proofs.YteabjmdbeadegaaGreatDoor.mendKnownJ
open Go
theorem tb3 : (Rows.mendKnownRow.recurses == Tryz.pinned.checked.prog.recurses 3) = true := by kernel_rfl
end Go.Proofs.YteabjmdbeadegaaGreatDoor.mendKnownJ

/-
  PLAIN: what the row of CheckKnown says of the program, part by part.
-/
import Derived.Test.YtooakkagndhdmaaGreatDoorChecked
import Derived.Test.YtooakkagndhdmaaGreatDoorRows
import Derived.JoinedOf
set_option linter.unusedVariables false
namespace Go.Proofs.YtooakkagndhdmaaGreatDoor.checkKnownJ
open Go
theorem tb4 : (Rows.checkKnownRow.named == Tryz.pinned.checked.prog.varsNamed 3) = true := by kernel_rfl
end Go.Proofs.YtooakkagndhdmaaGreatDoor.checkKnownJ

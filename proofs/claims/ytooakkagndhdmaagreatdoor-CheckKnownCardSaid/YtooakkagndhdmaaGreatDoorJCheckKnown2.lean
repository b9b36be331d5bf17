/-
  PLAIN: what the row of CheckKnown says of the program, part by part.
-/
import Derived.Test.YtooakkagndhdmaaGreatDoorChecked
import Derived.Test.YtooakkagndhdmaaGreatDoorRows
import Derived.JoinedOf
set_option linter.unusedVariables false
namespace Go.Proofs.YtooakkagndhdmaaGreatDoor.checkKnownJ
open Go
theorem tb2 : (Rows.checkKnownRow.unfollowed == Tryz.pinned.checked.prog.unfollowed 3) = true := by kernel_rfl
end Go.Proofs.YtooakkagndhdmaaGreatDoor.checkKnownJ

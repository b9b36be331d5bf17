/-
  PLAIN: JDiskKnown1, JDiskKnown2, in one text.
-/
import Derived.Test.YtedplaejjgomdaaGreatDoorChecked
import Derived.Test.YtedplaejjgomdaaGreatDoorRows
import Derived.JoinedOf
set_option linter.unusedVariables false
namespace Go.Proofs.YtedplaejjgomdaaGreatDoor.diskKnownJ
open Go
theorem tb1 : (Rows.diskKnownRow.inPlace == Tryz.pinned.checked.prog.inPlace 3) = true := by kernel_rfl
end Go.Proofs.YtedplaejjgomdaaGreatDoor.diskKnownJ
set_option linter.unusedVariables false
namespace Go.Proofs.YtedplaejjgomdaaGreatDoor.diskKnownJ
open Go
theorem tb2 : (Rows.diskKnownRow.unfollowed == Tryz.pinned.checked.prog.unfollowed 3) = true := by kernel_rfl
end Go.Proofs.YtedplaejjgomdaaGreatDoor.diskKnownJ

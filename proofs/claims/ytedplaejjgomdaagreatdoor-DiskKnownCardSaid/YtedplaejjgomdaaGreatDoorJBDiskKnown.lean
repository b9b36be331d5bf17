/-
  PLAIN: JDiskKnown3, JDiskKnown4, in one text.
-/
import Derived.Test.YtedplaejjgomdaaGreatDoorChecked
import Derived.Test.YtedplaejjgomdaaGreatDoorRows
import Derived.JoinedOf
set_option linter.unusedVariables false
namespace Go.Proofs.YtedplaejjgomdaaGreatDoor.diskKnownJ
open Go
theorem tb3 : (Rows.diskKnownRow.recurses == Tryz.pinned.checked.prog.recurses 3) = true := by kernel_rfl
end Go.Proofs.YtedplaejjgomdaaGreatDoor.diskKnownJ
set_option linter.unusedVariables false
namespace Go.Proofs.YtedplaejjgomdaaGreatDoor.diskKnownJ
open Go
theorem tb4 : (Rows.diskKnownRow.named == Tryz.pinned.checked.prog.varsNamed 3) = true := by kernel_rfl
end Go.Proofs.YtedplaejjgomdaaGreatDoor.diskKnownJ

/-
  PLAIN: what the card of DiskKnown says of the program.
-/
import Derived.Test.YtedplaejjgomdaaGreatDoorChecked
import Derived.Test.YtedplaejjgomdaaGreatDoorRows
import Derived.Test.YtedplaejjgomdaaGreatDoorCards
import Derived.SevenTiedAt
namespace Go.Proofs.YtedplaejjgomdaaGreatDoor.diskKnownK
open Go
theorem card_hw : Rows.diskKnownRow.wfByText (OpenSpec.ofChange Rows.diskKnownSpec) = true := by kernel_rfl
theorem card_hm : Tryz.pinned.checked.prog.mainIs = some (true, ("54e605909b67ac3da2d14b55e6d693498d9927785f698abe24d7d40598ed25f2" : String).toList) := by kernel_rfl
theorem card_lk : false = Tryz.pinned.checked.prog.looks [] := by kernel_rfl
end Go.Proofs.YtedplaejjgomdaaGreatDoor.diskKnownK

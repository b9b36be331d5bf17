/-
  PLAIN: what the card of DiskKnown says of the program.
-/
import Derived.Test.YtedplaejjgomdaaGreatDoorChecked
import Derived.Test.YtedplaejjgomdaaGreatDoorRows
import Derived.Test.YtedplaejjgomdaaGreatDoorCards
import Derived.SevenTiedAt
namespace Go.Proofs.YtedplaejjgomdaaGreatDoor.diskKnownK
open Go
theorem card_hg : false = Rows.diskKnownRow.goesBy Tryz.pinned.checked.prog := by kernel_rfl
end Go.Proofs.YtedplaejjgomdaaGreatDoor.diskKnownK

/-
  PLAIN: what the card of DiskKnown says of the program.
-/
import Derived.Test.YtedlgcplighcjaaGreatDoorChecked
import Derived.Test.YtedlgcplighcjaaGreatDoorRows
import Derived.Test.YtedlgcplighcjaaGreatDoorCards
import Derived.SevenTiedAt
namespace Go.Proofs.YtedlgcplighcjaaGreatDoor.diskKnownK
open Go
theorem card_hg : false = Rows.diskKnownRow.goesBy Tryz.pinned.checked.prog := by kernel_rfl
end Go.Proofs.YtedlgcplighcjaaGreatDoor.diskKnownK

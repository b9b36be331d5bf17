/-
  PLAIN: what the card of TopNames says of the program.
-/
import Derived.Test.YtjfhadepbllmiaaGreatDoorChecked
import Derived.Test.YtjfhadepbllmiaaGreatDoorRows
import Derived.Test.YtjfhadepbllmiaaGreatDoorCards
import Derived.SevenTiedAt
namespace Go.Proofs.YtjfhadepbllmiaaGreatDoor.topNamesK
open Go
theorem card_hg : false = Rows.topNamesRow.goesBy Tryz.pinned.checked.prog := by kernel_rfl
end Go.Proofs.YtjfhadepbllmiaaGreatDoor.topNamesK

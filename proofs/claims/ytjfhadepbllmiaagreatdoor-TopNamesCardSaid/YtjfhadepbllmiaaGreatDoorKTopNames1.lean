/-
  PLAIN: what the card of TopNames says of the program.
-/
import Derived.Test.YtjfhadepbllmiaaGreatDoorChecked
import Derived.Test.YtjfhadepbllmiaaGreatDoorRows
import Derived.Test.YtjfhadepbllmiaaGreatDoorCards
import Derived.SevenTiedAt
namespace Go.Proofs.YtjfhadepbllmiaaGreatDoor.topNamesK
open Go
theorem card_hw : Rows.topNamesRow.wfByText (OpenSpec.ofChange Rows.topNamesSpec) = true := by kernel_rfl
theorem card_hm : Tryz.pinned.checked.prog.mainIs = some (true, ("032e95636e67cbaeb18f5bba4f2fa943cf8cc5477863d77d4ca56c4e925a2000" : String).toList) := by kernel_rfl
theorem card_lk : false = Tryz.pinned.checked.prog.looks [] := by kernel_rfl
end Go.Proofs.YtjfhadepbllmiaaGreatDoor.topNamesK

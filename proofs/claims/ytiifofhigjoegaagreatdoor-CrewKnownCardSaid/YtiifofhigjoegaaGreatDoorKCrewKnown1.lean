/-
  PLAIN: what the card of CrewKnown says of the program.
-/
import Derived.Test.YtiifofhigjoegaaGreatDoorChecked
import Derived.Test.YtiifofhigjoegaaGreatDoorRows
import Derived.Test.YtiifofhigjoegaaGreatDoorCards
import Derived.SevenTiedAt
namespace Go.Proofs.YtiifofhigjoegaaGreatDoor.crewKnownK
open Go
theorem card_hw : Rows.crewKnownRow.wfByText (OpenSpec.ofChange Rows.crewKnownSpec) = true := by kernel_rfl
theorem card_hm : Tryz.pinned.checked.prog.mainIs = some (true, ("e0348a5c9971b475a8f5f01915cfcec656258b2ea6829a90e083471c28372bba" : String).toList) := by kernel_rfl
theorem card_lk : false = Tryz.pinned.checked.prog.looks [] := by kernel_rfl
end Go.Proofs.YtiifofhigjoegaaGreatDoor.crewKnownK

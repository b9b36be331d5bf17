/-
  PLAIN: what the card of CrewKnown says of the program.
-/
import Derived.Test.YtiifofhigjoegaaGreatDoorChecked
import Derived.Test.YtiifofhigjoegaaGreatDoorRows
import Derived.Test.YtiifofhigjoegaaGreatDoorCards
import Derived.SevenTiedAt
namespace Go.Proofs.YtiifofhigjoegaaGreatDoor.crewKnownK
open Go
theorem card_hg : false = Rows.crewKnownRow.goesBy Tryz.pinned.checked.prog := by kernel_rfl
end Go.Proofs.YtiifofhigjoegaaGreatDoor.crewKnownK

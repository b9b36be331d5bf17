/-
  PLAIN: what the card of CheckKnown says of the program.
-/
import Derived.Test.YtooakkagndhdmaaGreatDoorChecked
import Derived.Test.YtooakkagndhdmaaGreatDoorRows
import Derived.Test.YtooakkagndhdmaaGreatDoorCards
import Derived.SevenTiedAt
namespace Go.Proofs.YtooakkagndhdmaaGreatDoor.checkKnownK
open Go
theorem card_hg : false = Rows.checkKnownRow.goesBy Tryz.pinned.checked.prog := by kernel_rfl
end Go.Proofs.YtooakkagndhdmaaGreatDoor.checkKnownK

/-
  PLAIN: what the card of MendKnown says of the program.
-/
import Derived.Test.YteabjmdbeadegaaGreatDoorChecked
import Derived.Test.YteabjmdbeadegaaGreatDoorRows
import Derived.Test.YteabjmdbeadegaaGreatDoorCards
import Derived.SevenTiedAt
namespace Go.Proofs.YteabjmdbeadegaaGreatDoor.mendKnownK
open Go
theorem card_hg : false = Rows.mendKnownRow.goesBy Tryz.pinned.checked.prog := by kernel_rfl
end Go.Proofs.YteabjmdbeadegaaGreatDoor.mendKnownK

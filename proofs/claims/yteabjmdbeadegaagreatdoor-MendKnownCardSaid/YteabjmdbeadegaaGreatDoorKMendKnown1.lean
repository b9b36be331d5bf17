/-
  PLAIN: what the card of MendKnown says of the program.
-/
import Derived.Test.YteabjmdbeadegaaGreatDoorChecked
import Derived.Test.YteabjmdbeadegaaGreatDoorRows
import Derived.Test.YteabjmdbeadegaaGreatDoorCards
import Derived.SevenTiedAt
namespace Go.Proofs.YteabjmdbeadegaaGreatDoor.mendKnownK
open Go
theorem card_hw : Rows.mendKnownRow.wfByText (OpenSpec.ofChange Rows.mendKnownSpec) = true := by kernel_rfl
theorem card_hm : Tryz.pinned.checked.prog.mainIs = some (true, ("14f22a9af18a898bd99ea81d99c5881ca7aa46823ac35fa13cb83eaaf6331d56" : String).toList) := by kernel_rfl
theorem card_lk : false = Tryz.pinned.checked.prog.looks [] := by kernel_rfl
end Go.Proofs.YteabjmdbeadegaaGreatDoor.mendKnownK

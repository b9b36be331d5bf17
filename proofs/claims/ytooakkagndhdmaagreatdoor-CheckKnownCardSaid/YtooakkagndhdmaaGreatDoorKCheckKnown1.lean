/-
  PLAIN: what the card of CheckKnown says of the program.
-/
import Derived.Test.YtooakkagndhdmaaGreatDoorChecked
import Derived.Test.YtooakkagndhdmaaGreatDoorRows
import Derived.Test.YtooakkagndhdmaaGreatDoorCards
import Derived.SevenTiedAt
namespace Go.Proofs.YtooakkagndhdmaaGreatDoor.checkKnownK
open Go
theorem card_hw : Rows.checkKnownRow.wfByText (OpenSpec.ofChange Rows.checkKnownSpec) = true := by kernel_rfl
theorem card_hm : Tryz.pinned.checked.prog.mainIs = some (true, ("e624f0ccb89e2305b6b1d466e50c7be789a7fddb9fd6a67eb1040776a43a8520" : String).toList) := by kernel_rfl
theorem card_lk : false = Tryz.pinned.checked.prog.looks [] := by kernel_rfl
end Go.Proofs.YtooakkagndhdmaaGreatDoor.checkKnownK

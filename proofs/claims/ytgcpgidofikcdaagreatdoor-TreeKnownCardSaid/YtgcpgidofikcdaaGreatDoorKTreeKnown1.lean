/-
  PLAIN: what the card of TreeKnown says of the program.
-/
import Derived.Test.YtgcpgidofikcdaaGreatDoorChecked
import Derived.Test.YtgcpgidofikcdaaGreatDoorRows
import Derived.Test.YtgcpgidofikcdaaGreatDoorCards
import Derived.SevenTiedAt
namespace Go.Proofs.YtgcpgidofikcdaaGreatDoor.treeKnownK
open Go
theorem card_hw : Rows.treeKnownRow.wfByText (OpenSpec.ofChange Rows.treeKnownSpec) = true := by kernel_rfl
theorem card_hm : Tryz.pinned.checked.prog.mainIs = some (true, ("77c3c3315b7fede74da666ae8bc2a3bbb24a967afcd29ca99faa336dc389cdf0" : String).toList) := by kernel_rfl
theorem card_lk : false = Tryz.pinned.checked.prog.looks [] := by kernel_rfl
end Go.Proofs.YtgcpgidofikcdaaGreatDoor.treeKnownK

/-
  PLAIN: what the card of TreeKnown says of the program.
-/
import Derived.Test.YtgcpgidofikcdaaGreatDoorChecked
import Derived.Test.YtgcpgidofikcdaaGreatDoorRows
import Derived.Test.YtgcpgidofikcdaaGreatDoorCards
import Derived.SevenTiedAt
namespace Go.Proofs.YtgcpgidofikcdaaGreatDoor.treeKnownK
open Go
theorem card_hg : false = Rows.treeKnownRow.goesBy Tryz.pinned.checked.prog := by kernel_rfl
end Go.Proofs.YtgcpgidofikcdaaGreatDoor.treeKnownK

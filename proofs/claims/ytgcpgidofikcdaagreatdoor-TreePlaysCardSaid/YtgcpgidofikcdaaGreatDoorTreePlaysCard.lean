/-
  TreePlays: for every input the Go function returns true, and what came in reads behind the call as before. Condition: the listed package-level variables are tied to the program's text (the given tie).
-/
import Derived.Test.YtgcpgidofikcdaaGreatDoorTreePlays
import Derived.Test.YtgcpgidofikcdaaGreatDoorCards
import Derived.Test.YtgcpgidofikcdaaGreatDoorTie
import Derived.SevenTiedAt
namespace Go.Proofs.YtgcpgidofikcdaaGreatDoor
open Go
theorem treePlays_card:Rows.TreePlaysCardSaid :=
 Claim7.holds_tied_plain_at .later [] [.data,.pinned] true (true,"77c3c3315b7fede74da666ae8bc2a3bbb24a967afcd29ca99faa336dc389cdf0") false
  treePlays_holds (fun _ h => by cases h) (by kernel_rfl) (fun _ h => by cases h) treePlays_row_tie rfl ⟨rfl,rfl⟩ (by kernel_rfl) rfl
  (fun f fn hf hfn => by
   obtain rfl:f = 4:=Option.some.inj ((show Tryz.prog.funcNamed "lintel/lintellaw17.TreePlays" = some 4 by kernel_rfl).symm.trans hf) |>.symm
   obtain rfl:fn = Tryz.f4:=(Option.some.inj (Tryz.func4.symm.trans hfn)).symm
   exact ⟨by kernel_rfl,fun j t ht => by
    rw [Tryz.params4] at ht
    have hm:=Array.mem_of_getElem? ht
    simp at hm
    rcases hm with rfl | rfl <;> (show Tryz.pinned.checked.prog.wantsStandIn _ = false; kernel_rfl)⟩)
  (by kernel_rfl)
#print axioms treePlays_card
end Go.Proofs.YtgcpgidofikcdaaGreatDoor

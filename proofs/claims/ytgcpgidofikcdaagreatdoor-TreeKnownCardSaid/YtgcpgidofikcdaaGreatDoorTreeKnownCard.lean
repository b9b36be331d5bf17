/-
  TreeKnown: for every input the Go function returns true, and what came in reads behind the call as before. Condition: the listed package-level variables are tied to the program's text (the given tie).
-/
import Derived.Test.YtgcpgidofikcdaaGreatDoorTreeKnown
import Derived.Test.YtgcpgidofikcdaaGreatDoorCards
import Derived.Test.YtgcpgidofikcdaaGreatDoorKTreeKnown1
import Derived.Test.YtgcpgidofikcdaaGreatDoorKTreeKnown2
import Derived.Test.YtgcpgidofikcdaaGreatDoorTie
import Derived.SevenTiedAt
namespace Go.Proofs.YtgcpgidofikcdaaGreatDoor
open Go
/-- THE STATEMENT. -/
theorem treeKnown_card : Rows.TreeKnownCardSaid :=
  Claim7.holds_tied_plain_at .later [] [.data, .data, .data, .data, .pinned] true (true, "77c3c3315b7fede74da666ae8bc2a3bbb24a967afcd29ca99faa336dc389cdf0") false
    treeKnown_holds (fun _ h => by cases h) treeKnownK.card_hw (fun _ h => by cases h) treeKnown_row_tie rfl ⟨rfl, rfl⟩ treeKnownK.card_hm rfl
    (fun f fn hf hfn => by
      obtain rfl : f = 3 := Option.some.inj ((show Tryz.prog.funcNamed "lintel/lintellaw17.TreeKnown" = some 3 by kernel_rfl).symm.trans hf) |>.symm
      obtain rfl : fn = Tryz.f3 := (Option.some.inj (Tryz.func3.symm.trans hfn)).symm
      exact ⟨treeKnownK.card_lk, fun j t ht => by
        rw [Tryz.params3] at ht
        simp at ht⟩)
    treeKnownK.card_hg
#print axioms treeKnown_card
end Go.Proofs.YtgcpgidofikcdaaGreatDoor

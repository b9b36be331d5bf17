/-
  DiskKnown: for every input the Go function returns true, and what came in reads behind the call as before. Condition: the listed package-level variables are tied to the program's text (the given tie).
-/
import Derived.Test.YtedplaejjgomdaaGreatDoorDiskKnown
import Derived.Test.YtedplaejjgomdaaGreatDoorCards
import Derived.Test.YtedplaejjgomdaaGreatDoorKDiskKnown1
import Derived.Test.YtedplaejjgomdaaGreatDoorKDiskKnown2
import Derived.Test.YtedplaejjgomdaaGreatDoorTie
import Derived.SevenTiedAt
namespace Go.Proofs.YtedplaejjgomdaaGreatDoor
open Go
/-- THE STATEMENT. -/
theorem diskKnown_card : Rows.DiskKnownCardSaid :=
  Claim7.holds_tied_plain_at .later [] [.data, .data, .data, .data, .pinned] true (true, "54e605909b67ac3da2d14b55e6d693498d9927785f698abe24d7d40598ed25f2") false
    diskKnown_holds (fun _ h => by cases h) diskKnownK.card_hw (fun _ h => by cases h) diskKnown_row_tie rfl ⟨rfl, rfl⟩ diskKnownK.card_hm rfl
    (fun f fn hf hfn => by
      obtain rfl : f = 3 := Option.some.inj ((show Tryz.prog.funcNamed "lintel/lintellaw22.DiskKnown" = some 3 by kernel_rfl).symm.trans hf) |>.symm
      obtain rfl : fn = Tryz.f3 := (Option.some.inj (Tryz.func3.symm.trans hfn)).symm
      exact ⟨diskKnownK.card_lk, fun j t ht => by
        rw [Tryz.params3] at ht
        simp at ht⟩)
    diskKnownK.card_hg
#print axioms diskKnown_card
end Go.Proofs.YtedplaejjgomdaaGreatDoor

/-
  DeedKnown: for every input the Go function returns true, and what came in reads behind the call as before. Condition: the listed package-level variables are tied to the program's text (the given tie).
-/
import Derived.Test.YtaoaofgbakhddaaGreatDoorDeedKnown
import Derived.Test.YtaoaofgbakhddaaGreatDoorCards
import Derived.Test.YtaoaofgbakhddaaGreatDoorTie
import Derived.SevenTiedAt
namespace Go.Proofs.YtaoaofgbakhddaaGreatDoor
open Go
/-- THE STATEMENT. -/
theorem deedKnown_card : Rows.DeedKnownCardSaid :=
  Claim7.holds_tied_plain_at .later [] [.data, .data, .data, .data, .pinned] true (true, "7c71440253619ab6fbc21f5f3e809a630bf34edc4ca83857b30e4c2eff98e325") false
    deedKnown_holds (fun _ h => by cases h) (by kernel_rfl) (fun _ h => by cases h) deedKnown_row_tie rfl ⟨rfl, rfl⟩ (by kernel_rfl) rfl
    (fun f fn hf hfn => by
      obtain rfl : f = 3 := Option.some.inj ((show Tryz.prog.funcNamed "lintel/lintellaw21.DeedKnown" = some 3 by kernel_rfl).symm.trans hf) |>.symm
      obtain rfl : fn = Tryz.f3 := (Option.some.inj (Tryz.func3.symm.trans hfn)).symm
      exact ⟨by kernel_rfl, fun j t ht => by
        rw [Tryz.params3] at ht
        simp at ht⟩)
    (by kernel_rfl)
#print axioms deedKnown_card
end Go.Proofs.YtaoaofgbakhddaaGreatDoor

/-
  CureKnown: for every input the Go function returns true, and what came in reads behind the call as before. Condition: the listed package-level variables are tied to the program's text (the given tie).
-/
import Derived.Test.YtninnodoofafpaaGreatDoorCureKnown
import Derived.Test.YtninnodoofafpaaGreatDoorCards
import Derived.Test.YtninnodoofafpaaGreatDoorTie
import Derived.SevenTiedAt
namespace Go.Proofs.YtninnodoofafpaaGreatDoor
open Go
/-- THE STATEMENT. -/
theorem cureKnown_card : Rows.CureKnownCardSaid :=
  Claim7.holds_tied_plain_at .later [] [.data, .data, .data] true (true, "4736a500df1cfada49825f3335cf4689ac71ef801e078987e392517333c2ec18") false
    cureKnown_holds (fun _ h => by cases h) (by kernel_rfl) (fun _ h => by cases h) cureKnown_row_tie rfl ⟨rfl, rfl⟩ (by kernel_rfl) rfl
    (fun f fn hf hfn => by
      obtain rfl : f = 3 := Option.some.inj ((show Tryz.prog.funcNamed "lintel/lintellaw25.CureKnown" = some 3 by kernel_rfl).symm.trans hf) |>.symm
      obtain rfl : fn = Tryz.f3 := (Option.some.inj (Tryz.func3.symm.trans hfn)).symm
      exact ⟨by kernel_rfl, fun j t ht => by
        rw [Tryz.params3] at ht
        simp at ht⟩)
    (by kernel_rfl)
#print axioms cureKnown_card
end Go.Proofs.YtninnodoofafpaaGreatDoor

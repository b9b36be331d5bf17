/-
  CrewKnown: for every input the Go function returns true, and what came in reads behind the call as before. Condition: the listed package-level variables are tied to the program's text (the given tie).
-/
import Derived.Test.YtiifofhigjoegaaGreatDoorCrewKnown
import Derived.Test.YtiifofhigjoegaaGreatDoorCards
import Derived.Test.YtiifofhigjoegaaGreatDoorKCrewKnown1
import Derived.Test.YtiifofhigjoegaaGreatDoorKCrewKnown2
import Derived.Test.YtiifofhigjoegaaGreatDoorTie
import Derived.SevenTiedAt
namespace Go.Proofs.YtiifofhigjoegaaGreatDoor
open Go
/-- THE STATEMENT. -/
theorem crewKnown_card : Rows.CrewKnownCardSaid :=
  Claim7.holds_tied_plain_at .later [] [.data, .data, .data, .data, .pinned] true (true, "e0348a5c9971b475a8f5f01915cfcec656258b2ea6829a90e083471c28372bba") false
    crewKnown_holds (fun _ h => by cases h) crewKnownK.card_hw (fun _ h => by cases h) crewKnown_row_tie rfl ⟨rfl, rfl⟩ crewKnownK.card_hm rfl
    (fun f fn hf hfn => by
      obtain rfl : f = 3 := Option.some.inj ((show Tryz.prog.funcNamed "lintel/lintellaw24.CrewKnown" = some 3 by kernel_rfl).symm.trans hf) |>.symm
      obtain rfl : fn = Tryz.f3 := (Option.some.inj (Tryz.func3.symm.trans hfn)).symm
      exact ⟨crewKnownK.card_lk, fun j t ht => by
        rw [Tryz.params3] at ht
        simp at ht⟩)
    crewKnownK.card_hg
#print axioms crewKnown_card
end Go.Proofs.YtiifofhigjoegaaGreatDoor

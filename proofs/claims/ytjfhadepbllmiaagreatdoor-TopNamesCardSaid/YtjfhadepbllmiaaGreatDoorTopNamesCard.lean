/-
  TopNames: for every input the Go function returns true, and what came in reads behind the call as before. Condition: the listed package-level variables are tied to the program's text (the given tie).
-/
import Derived.Test.YtjfhadepbllmiaaGreatDoorTopNames
import Derived.Test.YtjfhadepbllmiaaGreatDoorCards
import Derived.Test.YtjfhadepbllmiaaGreatDoorKTopNames1
import Derived.Test.YtjfhadepbllmiaaGreatDoorKTopNames2
import Derived.Test.YtjfhadepbllmiaaGreatDoorTie
import Derived.SevenTiedAt
namespace Go.Proofs.YtjfhadepbllmiaaGreatDoor
open Go
/-- THE STATEMENT. -/
theorem topNames_card : Rows.TopNamesCardSaid :=
  Claim7.holds_tied_plain_at .later [] [.data, .data, .data, .data, .pinned] true (true, "032e95636e67cbaeb18f5bba4f2fa943cf8cc5477863d77d4ca56c4e925a2000") false
    topNames_holds (fun _ h => by cases h) topNamesK.card_hw (fun _ h => by cases h) topNames_row_tie rfl ⟨rfl, rfl⟩ topNamesK.card_hm rfl
    (fun f fn hf hfn => by
      obtain rfl : f = 3 := Option.some.inj ((show Tryz.prog.funcNamed "lintel/linteltop.TopNames" = some 3 by kernel_rfl).symm.trans hf) |>.symm
      obtain rfl : fn = Tryz.f3 := (Option.some.inj (Tryz.func3.symm.trans hfn)).symm
      exact ⟨topNamesK.card_lk, fun j t ht => by
        rw [Tryz.params3] at ht
        simp at ht⟩)
    topNamesK.card_hg
#print axioms topNames_card
end Go.Proofs.YtjfhadepbllmiaaGreatDoor

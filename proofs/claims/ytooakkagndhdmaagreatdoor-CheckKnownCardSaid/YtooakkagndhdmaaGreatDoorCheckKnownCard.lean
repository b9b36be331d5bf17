/-
  CheckKnown: for every input the Go function returns true, and what came in reads behind the call as before. Condition: the listed package-level variables are tied to the program's text (the given tie).
-/
import Derived.Test.YtooakkagndhdmaaGreatDoorCheckKnown
import Derived.Test.YtooakkagndhdmaaGreatDoorCards
import Derived.Test.YtooakkagndhdmaaGreatDoorKCheckKnown1
import Derived.Test.YtooakkagndhdmaaGreatDoorKCheckKnown2
import Derived.Test.YtooakkagndhdmaaGreatDoorTie
import Derived.SevenTiedAt
namespace Go.Proofs.YtooakkagndhdmaaGreatDoor
open Go
/-- THE STATEMENT. -/
theorem checkKnown_card : Rows.CheckKnownCardSaid :=
  Claim7.holds_tied_plain_at .later [] [.data, .data, .data] true (true, "e624f0ccb89e2305b6b1d466e50c7be789a7fddb9fd6a67eb1040776a43a8520") false
    checkKnown_holds (fun _ h => by cases h) checkKnownK.card_hw (fun _ h => by cases h) checkKnown_row_tie rfl ⟨rfl, rfl⟩ checkKnownK.card_hm rfl
    (fun f fn hf hfn => by
      obtain rfl : f = 3 := Option.some.inj ((show Tryz.prog.funcNamed "lintel/lintellaw19.CheckKnown" = some 3 by kernel_rfl).symm.trans hf) |>.symm
      obtain rfl : fn = Tryz.f3 := (Option.some.inj (Tryz.func3.symm.trans hfn)).symm
      exact ⟨checkKnownK.card_lk, fun j t ht => by
        rw [Tryz.params3] at ht
        simp at ht⟩)
    checkKnownK.card_hg
#print axioms checkKnown_card
end Go.Proofs.YtooakkagndhdmaaGreatDoor

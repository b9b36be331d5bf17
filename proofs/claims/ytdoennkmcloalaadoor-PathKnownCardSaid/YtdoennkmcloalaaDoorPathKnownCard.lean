/-
  PathKnown: for every input the Go function returns true, and what came in reads behind the call as before. Condition: the listed package-level variables are tied to the program's text (the given tie).
-/
import Derived.Test.YtdoennkmcloalaaDoorPathKnown
import Derived.Test.YtdoennkmcloalaaDoorCards
import Derived.Test.YtdoennkmcloalaaDoorTie
import Derived.SevenTiedAt
namespace Go.Proofs.YtdoennkmcloalaaDoor
open Go
/-- THE STATEMENT. -/
theorem pathKnown_card : Rows.PathKnownCardSaid :=
  Claim7.holds_tied_plain_at .later [] [.data, .pinned] true (true, "c994a5b2d6dee48214a54f1f41227ee06ec822e5ea2a267c893efdc994e73516") false
    pathKnown_holds (fun _ h => by cases h) (by kernel_rfl) (fun _ h => by cases h) pathKnown_row_tie rfl ⟨rfl, rfl⟩ (by kernel_rfl) rfl
    (fun f fn hf hfn => by
      obtain rfl : f = 3 := Option.some.inj ((show Tryd.prog.funcNamed "lintel/lintellaw16.PathKnown" = some 3 by kernel_rfl).symm.trans hf) |>.symm
      obtain rfl : fn = Tryd.f3 := (Option.some.inj (Tryd.func3.symm.trans hfn)).symm
      exact ⟨by kernel_rfl, fun j t ht => by
        rw [Tryd.params3] at ht
        simp at ht⟩)
    (by kernel_rfl)
#print axioms pathKnown_card
end Go.Proofs.YtdoennkmcloalaaDoor

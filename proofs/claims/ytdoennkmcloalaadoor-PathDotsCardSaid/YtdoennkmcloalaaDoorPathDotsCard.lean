/-
  PathDots: for every input the Go function returns true, and what came in reads behind the call as before. Condition: the listed package-level variables are tied to the program's text (the given tie).
-/
import Derived.Test.YtdoennkmcloalaaDoorPathDots
import Derived.Test.YtdoennkmcloalaaDoorCards
import Derived.Test.YtdoennkmcloalaaDoorTie
import Derived.SevenTiedAt
namespace Go.Proofs.YtdoennkmcloalaaDoor
open Go
/-- THE STATEMENT. -/
theorem pathDots_card : Rows.PathDotsCardSaid :=
  Claim7.holds_tied_plain_at .later [] [.data, .pinned] true (true, "c994a5b2d6dee48214a54f1f41227ee06ec822e5ea2a267c893efdc994e73516") false
    pathDots_holds (fun _ h => by cases h) (by kernel_rfl) (fun _ h => by cases h) pathDots_row_tie rfl ⟨rfl, rfl⟩ (by kernel_rfl) rfl
    (fun f fn hf hfn => by
      obtain rfl : f = 7 := Option.some.inj ((show Tryd.prog.funcNamed "lintel/lintellaw16.PathDots" = some 7 by kernel_rfl).symm.trans hf) |>.symm
      obtain rfl : fn = Tryd.f7 := (Option.some.inj (Tryd.func7.symm.trans hfn)).symm
      exact ⟨by kernel_rfl, fun j t ht => by
        rw [Tryd.params7] at ht
        have hm := Array.mem_of_getElem? ht
        simp at hm
        rcases hm with rfl | rfl | rfl <;> (show Tryd.pinned.checked.prog.wantsStandIn _ = false; kernel_rfl)⟩)
    (by kernel_rfl)
#print axioms pathDots_card
end Go.Proofs.YtdoennkmcloalaaDoor

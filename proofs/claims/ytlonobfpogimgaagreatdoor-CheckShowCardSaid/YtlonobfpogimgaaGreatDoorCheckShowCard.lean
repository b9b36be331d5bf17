/-
  CheckShow: for every input the Go function returns true, and what came in reads behind the call as before. Condition: the listed package-level variables are tied to the program's text (the given tie).
-/
import Derived.Test.YtlonobfpogimgaaGreatDoorCheckShow
import Derived.Test.YtlonobfpogimgaaGreatDoorCards
import Derived.Test.YtlonobfpogimgaaGreatDoorTie
import Derived.SevenTiedAt
namespace Go.Proofs.YtlonobfpogimgaaGreatDoor
open Go
/-- THE STATEMENT. -/
theorem checkShow_card : Rows.CheckShowCardSaid :=
  Claim7.holds_tied_plain_at .later [] [.data, .data, .data] true (true, "2f1b6a5a630f190678410fe0e1726d303a48e8f6cb543f901e36877925af2621") false
    checkShow_holds (fun _ h => by cases h) (by kernel_rfl) (fun _ h => by cases h) checkShow_row_tie rfl ⟨rfl, rfl⟩ (by kernel_rfl) rfl
    (fun f fn hf hfn => by
      obtain rfl : f = 3 := Option.some.inj ((show Tryz.prog.funcNamed "lintel/lintellaw19.CheckShow" = some 3 by kernel_rfl).symm.trans hf) |>.symm
      obtain rfl : fn = Tryz.f3 := (Option.some.inj (Tryz.func3.symm.trans hfn)).symm
      exact ⟨by kernel_rfl, fun j t ht => by
        rw [Tryz.params3] at ht
        have hm := Array.mem_of_getElem? ht
        simp at hm
        rcases hm with rfl | rfl <;> (show Tryz.pinned.checked.prog.wantsStandIn _ = false; kernel_rfl)⟩)
    (by kernel_rfl)
#print axioms checkShow_card
end Go.Proofs.YtlonobfpogimgaaGreatDoor

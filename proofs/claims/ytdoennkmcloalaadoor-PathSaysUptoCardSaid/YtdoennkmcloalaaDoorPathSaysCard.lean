/-
  PathSays, where what it reads is of no great bulk: its card.
-/
import Derived.Test.YtdoennkmcloalaaDoorPathSays
import Derived.Test.YtdoennkmcloalaaDoorCards
import Derived.Test.YtdoennkmcloalaaDoorTie
import Derived.SevenTiedAt
namespace Go.Proofs.YtdoennkmcloalaaDoor
open Go
/-- THE STATEMENT. -/
theorem pathSaysUpto_card : Rows.PathSaysUptoCardSaid :=
  Claim7.holds_tied_plain_at .later [] _ _ _ _
    pathSaysUpto_holds (fun _ h => by cases h) (by kernel_rfl) (fun _ h => by cases h) pathSaysUpto_row_tie rfl ⟨rfl, rfl⟩ (by kernel_rfl) rfl
    (fun f fn hf hfn => by
      obtain rfl : f = 4 := Option.some.inj ((show Tryd.prog.funcNamed "lintel/lintellaw16.PathSays" = some 4 by kernel_rfl).symm.trans hf) |>.symm
      obtain rfl : fn = Tryd.f4 := (Option.some.inj (Tryd.func4.symm.trans hfn)).symm
      exact ⟨by kernel_rfl, fun j t ht => by
        rw [Tryd.params4] at ht
        have hm := Array.mem_of_getElem? ht
        simp at hm
        rcases hm with rfl | rfl <;> (show Tryd.pinned.checked.prog.wantsStandIn _ = false; kernel_rfl)⟩)
    (by kernel_rfl)
#print axioms pathSaysUpto_card
end Go.Proofs.YtdoennkmcloalaaDoor

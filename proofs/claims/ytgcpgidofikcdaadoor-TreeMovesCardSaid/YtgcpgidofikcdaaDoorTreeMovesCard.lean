/-
  TreeMoves: for every input the Go function returns true, and what came in reads behind the call as before. Condition: the listed package-level variables are tied to the program's text (the given tie).
-/
import Derived.Test.YtgcpgidofikcdaaDoorTreeMoves
import Derived.Test.YtgcpgidofikcdaaDoorCards
import Derived.Test.YtgcpgidofikcdaaDoorTie
import Derived.SevenTiedAt
namespace Go.Proofs.YtgcpgidofikcdaaDoor
open Go
/-- THE STATEMENT. -/
theorem treeMoves_card : Rows.TreeMovesCardSaid :=
  Claim7.holds_tied_plain_at .later [] [.data, .pinned] true (true, "3b54e761710dcd60494db97fbed1d7f76d637fdde0a7e13f7ce5764e5d0c57b9") false
    treeMoves_holds (fun _ h => by cases h) (by kernel_rfl) (fun _ h => by cases h) treeMoves_row_tie rfl ⟨rfl, rfl⟩ (by kernel_rfl) rfl
    (fun f fn hf hfn => by
      obtain rfl : f = 6 := Option.some.inj ((show Tryd.prog.funcNamed "lintel/lintellaw17.TreeMoves" = some 6 by kernel_rfl).symm.trans hf) |>.symm
      obtain rfl : fn = Tryd.f6 := (Option.some.inj (Tryd.func6.symm.trans hfn)).symm
      exact ⟨by kernel_rfl, fun j t ht => by
        rw [Tryd.params6] at ht
        have hm := Array.mem_of_getElem? ht
        simp at hm
        rcases hm with rfl | rfl | rfl <;> (show Tryd.pinned.checked.prog.wantsStandIn _ = false; kernel_rfl)⟩)
    (by kernel_rfl)
#print axioms treeMoves_card
end Go.Proofs.YtgcpgidofikcdaaDoor

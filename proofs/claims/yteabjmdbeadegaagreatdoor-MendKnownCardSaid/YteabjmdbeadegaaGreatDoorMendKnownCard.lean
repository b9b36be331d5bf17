/-
  MendKnown: for every input the Go function returns true, and what came in reads behind the call as before. Condition: the listed package-level variables are tied to the program's text (the given tie).
-/
import Derived.Test.YteabjmdbeadegaaGreatDoorMendKnown
import Derived.Test.YteabjmdbeadegaaGreatDoorCards
import Derived.Test.YteabjmdbeadegaaGreatDoorKMendKnown1
import Derived.Test.YteabjmdbeadegaaGreatDoorKMendKnown2
import Derived.Test.YteabjmdbeadegaaGreatDoorTie
import Derived.SevenTiedAt
namespace Go.Proofs.YteabjmdbeadegaaGreatDoor
open Go
/-- THE STATEMENT. -/
theorem mendKnown_card : Rows.MendKnownCardSaid :=
  Claim7.holds_tied_plain_at .later [] [.data, .data, .data] true (true, "14f22a9af18a898bd99ea81d99c5881ca7aa46823ac35fa13cb83eaaf6331d56") false
    mendKnown_holds (fun _ h => by cases h) mendKnownK.card_hw (fun _ h => by cases h) mendKnown_row_tie rfl ⟨rfl, rfl⟩ mendKnownK.card_hm rfl
    (fun f fn hf hfn => by
      obtain rfl : f = 3 := Option.some.inj ((show Tryz.prog.funcNamed "lintel/lintellaw26.MendKnown" = some 3 by kernel_rfl).symm.trans hf) |>.symm
      obtain rfl : fn = Tryz.f3 := (Option.some.inj (Tryz.func3.symm.trans hfn)).symm
      exact ⟨mendKnownK.card_lk, fun j t ht => by
        rw [Tryz.params3] at ht
        simp at ht⟩)
    mendKnownK.card_hg
#print axioms mendKnown_card
end Go.Proofs.YteabjmdbeadegaaGreatDoor

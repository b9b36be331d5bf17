/-
  ImageKnown: for every input the Go function returns true, and what came in reads behind the call as before. Condition: the listed package-level variables are tied to the program's text (the given tie).
-/
import Derived.Test.YthdhpnefejfeeaaGreatDoorImageKnown
import Derived.Test.YthdhpnefejfeeaaGreatDoorCards
import Derived.Test.YthdhpnefejfeeaaGreatDoorTie
import Derived.SevenTiedAt
namespace Go.Proofs.YthdhpnefejfeeaaGreatDoor
open Go
/-- THE STATEMENT. -/
theorem imageKnown_card : Rows.ImageKnownCardSaid :=
  Claim7.holds_tied_plain_at .later [] [.data, .data, .data] true (true, "1ca9ae1679c467c33622ce6763837341806f82d4bd5708e533f1a04d20040e02") false
    imageKnown_holds (fun _ h => by cases h) (by kernel_rfl) (fun _ h => by cases h) imageKnown_row_tie rfl ⟨rfl, rfl⟩ (by kernel_rfl) rfl
    (fun f fn hf hfn => by
      obtain rfl : f = 3 := Option.some.inj ((show Tryz.prog.funcNamed "lintel/lintellaw18.ImageKnown" = some 3 by kernel_rfl).symm.trans hf) |>.symm
      obtain rfl : fn = Tryz.f3 := (Option.some.inj (Tryz.func3.symm.trans hfn)).symm
      exact ⟨by kernel_rfl, fun j t ht => by
        rw [Tryz.params3] at ht
        simp at ht⟩)
    (by kernel_rfl)
#print axioms imageKnown_card
end Go.Proofs.YthdhpnefejfeeaaGreatDoor

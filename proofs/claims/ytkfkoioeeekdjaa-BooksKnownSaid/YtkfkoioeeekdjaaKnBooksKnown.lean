/-
  PLAIN: the closed law BooksKnown runs to true (run by the evaluator, which is sound).
-/
import Derived.Test.YtkfkoioeeekdjaaChecked
import Derived.Test.YtkfkoioeeekdjaaEvV
namespace Go.Proofs.Ytkfkoioeeekdjaa.knBooksKnown
open Go.RowKit
theorem namesOk : Ev.namesOk Try.prog = true := by kernel_rfl
theorem mixes : Try.prog.follows .mixedOrders = true := by kernel_rfl
theorem ran : Ev.yes Try.prog 100000 11 = true := by kernel_rfl
end Go.Proofs.Ytkfkoioeeekdjaa.knBooksKnown
namespace Go.Proofs.Ytkfkoioeeekdjaa
open Go.RowKit
theorem w_BooksKnown (W : World) : Calls Try.prog 11 #[] W fun e W' => e = .returned (.bool true) ∧ Below W.heap.size W W' := Ev.yes_ok knBooksKnown.namesOk knBooksKnown.mixes knBooksKnown.ran W
end Go.Proofs.Ytkfkoioeeekdjaa

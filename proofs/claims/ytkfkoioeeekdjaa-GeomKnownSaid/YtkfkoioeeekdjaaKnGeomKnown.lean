/-
  PLAIN: the closed law GeomKnown runs to true (run by the evaluator, which is sound).
-/
import Derived.Test.YtkfkoioeeekdjaaChecked
import Derived.Test.YtkfkoioeeekdjaaEvV
namespace Go.Proofs.Ytkfkoioeeekdjaa.knGeomKnown
open Go.RowKit
theorem namesOk : Ev.namesOk Try.prog = true := by kernel_rfl
theorem mixes : Try.prog.follows .mixedOrders = true := by kernel_rfl
theorem ran : Ev.yes Try.prog 100000 6 = true := by kernel_rfl
end Go.Proofs.Ytkfkoioeeekdjaa.knGeomKnown
namespace Go.Proofs.Ytkfkoioeeekdjaa
open Go.RowKit
theorem w_GeomKnown (W : World) : Calls Try.prog 6 #[] W fun e W' => e = .returned (.bool true) ∧ Below W.heap.size W W' := Ev.yes_ok knGeomKnown.namesOk knGeomKnown.mixes knGeomKnown.ran W
end Go.Proofs.Ytkfkoioeeekdjaa

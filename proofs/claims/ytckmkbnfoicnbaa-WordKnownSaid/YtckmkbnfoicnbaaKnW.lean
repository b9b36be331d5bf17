/-
  PLAIN: the examples of chapter 1 all hold: the law runs to true (run by the evaluator, which is sound).
-/
import Derived.Test.YtckmkbnfoicnbaaChecked
import Derived.Test.YtckmkbnfoicnbaaEvV
namespace Go.Proofs.Ytckmkbnfoicnbaa
open Go.RowKit
theorem namesOk : Ev.namesOk Try.prog = true := by kernel_rfl
theorem mixes : Try.prog.follows .mixedOrders = true := by kernel_rfl
theorem y_WordKnown : Ev.yes Try.prog 10000 3 = true := by kernel_rfl
theorem w_WordKnown (W : World) : Calls Try.prog 3 #[] W fun e W' => e = .returned (.bool true) ∧ Below W.heap.size W W' := Ev.yes_ok namesOk mixes y_WordKnown W
end Go.Proofs.Ytckmkbnfoicnbaa

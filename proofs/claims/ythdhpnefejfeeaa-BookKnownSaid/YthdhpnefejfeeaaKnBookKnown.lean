/-
  PLAIN: the closed law BookKnown runs to true (run by the evaluator, which is sound).
-/
import Derived.Test.YthdhpnefejfeeaaChecked
import Derived.Test.YthdhpnefejfeeaaEq
namespace Go.Proofs.Ythdhpnefejfeeaa.knBookKnown
open Go.RowKit
theorem namesOk : Ev.namesOk Try.prog = true := by kernel_rfl
theorem mixes : Try.prog.follows .mixedOrders = true := by kernel_rfl
theorem ran : Ev.yesQ Try.prog 100000 3 = true := by kernel_rfl
end Go.Proofs.Ythdhpnefejfeeaa.knBookKnown
namespace Go.Proofs.Ythdhpnefejfeeaa
open Go.RowKit
theorem w_BookKnown (W : World) : Calls Try.prog 3 #[] W fun e W' => e = .returned (.bool true) ∧ Below W.heap.size W W' := Ev.yesQ_ok knBookKnown.namesOk knBookKnown.mixes knBookKnown.ran W
end Go.Proofs.Ythdhpnefejfeeaa

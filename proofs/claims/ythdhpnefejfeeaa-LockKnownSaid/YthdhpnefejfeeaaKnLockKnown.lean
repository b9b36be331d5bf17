/-
  PLAIN: the closed law LockKnown runs to true (run by the evaluator, which is sound).
-/
import Derived.Test.YthdhpnefejfeeaaChecked
import Derived.Test.YthdhpnefejfeeaaEq
namespace Go.Proofs.Ythdhpnefejfeeaa.knLockKnown
open Go.RowKit
theorem namesOk : Ev.namesOk Try.prog = true := by kernel_rfl
theorem mixes : Try.prog.follows .mixedOrders = true := by kernel_rfl
theorem ran : Ev.yesQ Try.prog 100000 4 = true := by kernel_rfl
end Go.Proofs.Ythdhpnefejfeeaa.knLockKnown
namespace Go.Proofs.Ythdhpnefejfeeaa
open Go.RowKit
theorem w_LockKnown (W : World) : Calls Try.prog 4 #[] W fun e W' => e = .returned (.bool true) ∧ Below W.heap.size W W' := Ev.yesQ_ok knLockKnown.namesOk knLockKnown.mixes knLockKnown.ran W
end Go.Proofs.Ythdhpnefejfeeaa

/-
  PLAIN: the closed law ImageKnown runs to true (run by the evaluator, which is sound).
-/
import Derived.Test.YthdhpnefejfeeaaGreatDoorChecked
import Derived.Test.YthdhpnefejfeeaaGreatDoorEq
namespace Go.Proofs.YthdhpnefejfeeaaGreatDoor.knImageKnown
open Go.RowKit
theorem namesOk : Ev.namesOk Tryz.prog = true := by kernel_rfl
theorem mixes : Tryz.prog.follows .mixedOrders = true := by kernel_rfl
theorem ran : Ev.yesQ Tryz.prog 100000 3 = true := by kernel_rfl
end Go.Proofs.YthdhpnefejfeeaaGreatDoor.knImageKnown
namespace Go.Proofs.YthdhpnefejfeeaaGreatDoor
open Go.RowKit
theorem w_ImageKnown (W : World) : Calls Tryz.prog 3 #[] W fun e W' => e = .returned (.bool true) ∧ Below W.heap.size W W' := Ev.yesQ_ok knImageKnown.namesOk knImageKnown.mixes knImageKnown.ran W
end Go.Proofs.YthdhpnefejfeeaaGreatDoor

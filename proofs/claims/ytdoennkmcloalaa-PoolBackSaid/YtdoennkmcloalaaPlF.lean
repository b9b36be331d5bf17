/-
  The law of chapter 12's test of itself runs to true.
-/
import Derived.Test.YtdoennkmcloalaaPlE
set_option linter.unusedSimpArgs false
namespace Go.Proofs.Ytdoennkmcloalaa
open Go.RowKit Ev
theorem namesOkL : Ev.namesOk Try.prog = true := by kernel_rfl
theorem mixesL : Try.prog.follows .mixedOrders = true := by kernel_rfl
theorem plRan : Ev.yesQ Try.prog 100000 64 = true := by kernel_rfl
theorem plAwake (w : World) : Calls Try.prog 64 #[] w fun e w' => e = .returned (.bool true) ∧ Below w.heap.size w w' := Ev.yesQ_ok namesOkL mixesL plRan w
end Go.Proofs.Ytdoennkmcloalaa

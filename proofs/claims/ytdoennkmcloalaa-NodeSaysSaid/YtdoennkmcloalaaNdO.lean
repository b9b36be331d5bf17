/-
  The walk of NodeOne.
-/
import Derived.Test.YtdoennkmcloalaaNdC
import Derived.Test.YtdoennkmcloalaaOpn6
import Derived.Test.YtdoennkmcloalaaEc
set_option linter.unusedSimpArgs false
namespace Go.Proofs.Ytdoennkmcloalaa
open Go.RowKit Ev
theorem namesOkN : Ev.namesOk Try.prog = true := by kernel_rfl
theorem mixesN : Try.prog.follows .mixedOrders = true := by kernel_rfl
theorem ranNode : Ev.yesQ Try.prog 100000 35 = true := by kernel_rfl
theorem nodeAwake (W : World) : Calls Try.prog 35 #[] W fun e W' => e = .returned (.bool true) ∧ Below W.heap.size W W' := Ev.yesQ_ok namesOkN mixesN ranNode W
theorem rel_ndV (ρ : Rho) (a b c : Int) (w : V) (x : Value) (R : List (Int × Int)) (h : Rel ρ w x) (hone : w.one = true) : Rel ρ (ndV ⟨a, b, c, R⟩ w) (.agg #[.int .i64 a, .int .i64 b, .int .i64 c, x]) := by
  unfold ndV
  simp only [Rel]
  exact ⟨_, rfl, .cons (rel_int _ _) (.cons (rel_int _ _) (.cons (rel_int _ _) (.cons h .nil))), by simp [hone]⟩
end Go.Proofs.Ytdoennkmcloalaa

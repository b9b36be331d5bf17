/-
  PLAIN: TyIns, InzN, InzS, in one text.
-/
import Derived.Test.YtcjddojcfdeflaaChecked
import Derived.Test.YtcjddojcfdeflaaSb
import Derived.Test.YtcjddojcfdeflaaInsK
namespace Go.Proofs.Ytcjddojcfdeflaa
open Go.RowKit Ev
-- slices.Insert[[]string,string]
@[simp] theorem ag3 : agg? Try.prog 3 = some false := by kernel_rfl
@[simp] theorem sz3 {β : Type} (k : Nat → Option β) : szOf Try.prog 3 k = k 1 := by kernel_rfl
@[simp] theorem ze3 {β : Type} (k : List V → Option β) : zero Try.prog 3 k = k [.int .i64 0] := by kernel_rfl
theorem io3 : infoOk Try.prog 3 1 = true := by kernel_rfl
@[simp] theorem ag4 : agg? Try.prog 4 = some false := by kernel_rfl
@[simp] theorem sz4 {β : Type} (k : Nat → Option β) : szOf Try.prog 4 k = k 1 := by kernel_rfl
@[simp] theorem ze4 {β : Type} (k : List V → Option β) : zero Try.prog 4 k = k [.bool false] := by kernel_rfl
theorem io4 : infoOk Try.prog 4 1 = true := by kernel_rfl
@[simp] theorem ag9 : agg? Try.prog 9 = some false := by kernel_rfl
@[simp] theorem sz9 {β : Type} (k : Nat → Option β) : szOf Try.prog 9 k = k 1 := by kernel_rfl
@[simp] theorem ze9 {β : Type} (k : List V → Option β) : zero Try.prog 9 k = k [.s []] := by kernel_rfl
theorem io9 : infoOk Try.prog 9 1 = true := by kernel_rfl
@[simp] theorem un3 : Try.prog.underlying 3 = some (.int .i64) := by kernel_rfl
@[simp] theorem un9 : Try.prog.underlying 9 = some .string := by kernel_rfl
end Go.Proofs.Ytcjddojcfdeflaa
set_option linter.unusedSimpArgs false
set_option linter.unusedVariables false
namespace Go.Proofs.Ytcjddojcfdeflaa
open Go.RowKit Ev
theorem wrap_n {a : Nat} (h : a ≤ 2000000) : IntKind.i64.wrap (a : Int) = (a : Int) := wrap_in (by omega) (by omega)
end Go.Proofs.Ytcjddojcfdeflaa
set_option linter.unusedSimpArgs false
set_option linter.unusedVariables false
namespace Go.Proofs.Ytcjddojcfdeflaa
open Go.RowKit Ev
theorem wrap_nS {a : Nat} (h : a ≤ 2000000) : IntKind.i64.wrap (a : Int) = (a : Int) := wrap_in (by omega) (by omega)
end Go.Proofs.Ytcjddojcfdeflaa

/-
  PLAIN: what TreeDirs' runs stand on.
-/
import Derived.Test.YtgcpgidofikcdaaDoorChecked
import Derived.Test.YtgcpgidofikcdaaDoorKx
namespace Go.Proofs.YtgcpgidofikcdaaDoor
open Go.RowKit Ev
theorem namesOkD : Ev.namesOk Tryd.prog = true := by kernel_rfl
theorem mixesD : Tryd.prog.follows .mixedOrders = true := by kernel_rfl
theorem runD {n a : Nat} (h : yesJ Tryd.prog (fun F => F) 100000 8 [.c (.int .i64 (.ofNat n)), .c (.int .i64 (.ofNat a))] = true) (w : World) : Calls Tryd.prog 8 ⟨[.int .i64 (.ofNat n), .int .i64 (.ofNat a)]⟩ w fun e w' => e = .returned (.bool true) ∧ Below w.heap.size w w' :=
  yesJ_ok namesOkD mixesD XOk.id (.cons (by simp [Rel, Value.oneCell']) (.cons (by simp [Rel, Value.oneCell']) .nil)) h w
end Go.Proofs.YtgcpgidofikcdaaDoor

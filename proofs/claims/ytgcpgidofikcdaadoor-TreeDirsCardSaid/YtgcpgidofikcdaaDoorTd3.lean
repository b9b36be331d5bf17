/-
  PLAIN: TreeDirs at some pairs of numbers, run by the evaluator, which is sound.
-/
import Derived.Test.YtgcpgidofikcdaaDoorTdA
namespace Go.Proofs.YtgcpgidofikcdaaDoor
open Go.RowKit Ev
theorem td1_1 : yesJ Tryd.prog (fun F => F) 100000 8 [.c (.int .i64 (.ofNat 1)), .c (.int .i64 (.ofNat 1))] = true := by kernel_rfl
theorem td5_2 : yesJ Tryd.prog (fun F => F) 100000 8 [.c (.int .i64 (.ofNat 5)), .c (.int .i64 (.ofNat 2))] = true := by kernel_rfl
theorem td5_5 : yesJ Tryd.prog (fun F => F) 100000 8 [.c (.int .i64 (.ofNat 5)), .c (.int .i64 (.ofNat 5))] = true := by kernel_rfl
theorem td7_2 : yesJ Tryd.prog (fun F => F) 100000 8 [.c (.int .i64 (.ofNat 7)), .c (.int .i64 (.ofNat 2))] = true := by kernel_rfl
theorem td7_6 : yesJ Tryd.prog (fun F => F) 100000 8 [.c (.int .i64 (.ofNat 7)), .c (.int .i64 (.ofNat 6))] = true := by kernel_rfl
theorem td8_4 : yesJ Tryd.prog (fun F => F) 100000 8 [.c (.int .i64 (.ofNat 8)), .c (.int .i64 (.ofNat 4))] = true := by kernel_rfl
end Go.Proofs.YtgcpgidofikcdaaDoor

/-
  PLAIN: TreeDirs at some pairs of numbers, run by the evaluator, which is sound.
-/
import Derived.Test.YtgcpgidofikcdaaDoorTdA
namespace Go.Proofs.YtgcpgidofikcdaaDoor
open Go.RowKit Ev
theorem td3_1 : yesJ Tryd.prog (fun F => F) 100000 8 [.c (.int .i64 (.ofNat 3)), .c (.int .i64 (.ofNat 1))] = true := by kernel_rfl
theorem td4_1 : yesJ Tryd.prog (fun F => F) 100000 8 [.c (.int .i64 (.ofNat 4)), .c (.int .i64 (.ofNat 1))] = true := by kernel_rfl
theorem td5_3 : yesJ Tryd.prog (fun F => F) 100000 8 [.c (.int .i64 (.ofNat 5)), .c (.int .i64 (.ofNat 3))] = true := by kernel_rfl
theorem td7_3 : yesJ Tryd.prog (fun F => F) 100000 8 [.c (.int .i64 (.ofNat 7)), .c (.int .i64 (.ofNat 3))] = true := by kernel_rfl
theorem td7_7 : yesJ Tryd.prog (fun F => F) 100000 8 [.c (.int .i64 (.ofNat 7)), .c (.int .i64 (.ofNat 7))] = true := by kernel_rfl
theorem td8_5 : yesJ Tryd.prog (fun F => F) 100000 8 [.c (.int .i64 (.ofNat 8)), .c (.int .i64 (.ofNat 5))] = true := by kernel_rfl
end Go.Proofs.YtgcpgidofikcdaaDoor

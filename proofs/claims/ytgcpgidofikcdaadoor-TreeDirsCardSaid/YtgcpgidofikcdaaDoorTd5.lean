/-
  PLAIN: TreeDirs at some pairs of numbers, run by the evaluator, which is sound.
-/
import Derived.Test.YtgcpgidofikcdaaDoorTdA
namespace Go.Proofs.YtgcpgidofikcdaaDoor
open Go.RowKit Ev
theorem td3_2 : yesJ Tryd.prog (fun F => F) 100000 8 [.c (.int .i64 (.ofNat 3)), .c (.int .i64 (.ofNat 2))] = true := by kernel_rfl
theorem td4_2 : yesJ Tryd.prog (fun F => F) 100000 8 [.c (.int .i64 (.ofNat 4)), .c (.int .i64 (.ofNat 2))] = true := by kernel_rfl
theorem td6_1 : yesJ Tryd.prog (fun F => F) 100000 8 [.c (.int .i64 (.ofNat 6)), .c (.int .i64 (.ofNat 1))] = true := by kernel_rfl
theorem td6_4 : yesJ Tryd.prog (fun F => F) 100000 8 [.c (.int .i64 (.ofNat 6)), .c (.int .i64 (.ofNat 4))] = true := by kernel_rfl
theorem td7_4 : yesJ Tryd.prog (fun F => F) 100000 8 [.c (.int .i64 (.ofNat 7)), .c (.int .i64 (.ofNat 4))] = true := by kernel_rfl
theorem td8_6 : yesJ Tryd.prog (fun F => F) 100000 8 [.c (.int .i64 (.ofNat 8)), .c (.int .i64 (.ofNat 6))] = true := by kernel_rfl
end Go.Proofs.YtgcpgidofikcdaaDoor

/-
  PLAIN: TreeDirs at some pairs of numbers, run by the evaluator, which is sound.
-/
import Derived.Test.YtgcpgidofikcdaaDoorTdA
namespace Go.Proofs.YtgcpgidofikcdaaDoor
open Go.RowKit Ev
theorem td3_3 : yesJ Tryd.prog (fun F => F) 100000 8 [.c (.int .i64 (.ofNat 3)), .c (.int .i64 (.ofNat 3))] = true := by kernel_rfl
theorem td4_3 : yesJ Tryd.prog (fun F => F) 100000 8 [.c (.int .i64 (.ofNat 4)), .c (.int .i64 (.ofNat 3))] = true := by kernel_rfl
theorem td6_2 : yesJ Tryd.prog (fun F => F) 100000 8 [.c (.int .i64 (.ofNat 6)), .c (.int .i64 (.ofNat 2))] = true := by kernel_rfl
theorem td6_5 : yesJ Tryd.prog (fun F => F) 100000 8 [.c (.int .i64 (.ofNat 6)), .c (.int .i64 (.ofNat 5))] = true := by kernel_rfl
theorem td8_1 : yesJ Tryd.prog (fun F => F) 100000 8 [.c (.int .i64 (.ofNat 8)), .c (.int .i64 (.ofNat 1))] = true := by kernel_rfl
theorem td8_7 : yesJ Tryd.prog (fun F => F) 100000 8 [.c (.int .i64 (.ofNat 8)), .c (.int .i64 (.ofNat 7))] = true := by kernel_rfl
end Go.Proofs.YtgcpgidofikcdaaDoor

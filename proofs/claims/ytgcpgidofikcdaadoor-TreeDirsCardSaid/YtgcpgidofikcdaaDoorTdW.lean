/-
  The walk of TreeDirs: thirty-six pairs of numbers run by the evaluator; at all others the function returns at once.
-/
import Derived.Test.YtgcpgidofikcdaaDoorTyTd
import Derived.Test.YtgcpgidofikcdaaDoorDrw
import Derived.Test.YtgcpgidofikcdaaDoorTd0
import Derived.Test.YtgcpgidofikcdaaDoorTd1
import Derived.Test.YtgcpgidofikcdaaDoorTd2
import Derived.Test.YtgcpgidofikcdaaDoorTd3
import Derived.Test.YtgcpgidofikcdaaDoorTd4
import Derived.Test.YtgcpgidofikcdaaDoorTd5
set_option linter.unusedSimpArgs false
set_option linter.unusedVariables false
namespace Go.Proofs.YtgcpgidofikcdaaDoor
open Go.RowKit Ev
theorem tdAwakeRan : yesJ Tryd.prog (fun F => F) 100000 9 [] = true := by kernel_rfl
theorem tdAwake (w : World) : Calls Tryd.prog 9 #[] w fun e w' => e = .returned (.bool true) ∧ Below w.heap.size w w' := yesJ_ok namesOkD mixesD XOk.id .nil tdAwakeRan w
set_option maxRecDepth 20000 in
set_option maxHeartbeats 4000000 in
theorem g_out (st : St) (N A : Int) (h : N < 1 ∨ 8 < N ∨ A < 1 ∨ N < A) : Gd (lawC Tryd.prog 9 ⟨false, [], 0, 0⟩ 8 [.int .i64 N, .int .i64 A] st) fun r => r.1 = .bool true := by
  rw [Gd_lawC Tryd.func8 rfl]
  have hwu : wantK false (some V.u) = false := rfl
  have hwt : wantK true (some V.u) = false := rfl
  by_cases h1 : N < 1
  · simp [evOp_call, sets, T.get_set, hwu, hwt, h1]
  by_cases h2 : 8 < N
  · simp [evOp_call, sets, T.get_set, hwu, hwt, h1, h2]
  by_cases h3 : A < 1
  · simp [evOp_call, sets, T.get_set, hwu, hwt, h1, h2, h3]
  have h4 : N < A := by omega
  simp [evOp_call, sets, T.get_set, hwu, hwt, h1, h2, h3, h4]
theorem w_TreeDirs (N A : Int) (w : World) (_ : -9223372036854775808 ≤ N ∧ N ≤ 9223372036854775807) (_ : -9223372036854775808 ≤ A ∧ A ≤ 9223372036854775807) :
    Calls Tryd.prog 8 #[.int .i64 N, .int .i64 A] w fun e w' => e = .returned (.bool true) ∧ Below w.heap.size w w' := by
  by_cases h : N < 1 ∨ 8 < N ∨ A < 1 ∨ N < A
  · exact law_calls (lawC_sound namesOkD mixesD Tryd.func9 rfl tdAwake) (Begin.zero w) (.cons (rel_int _ _) (.cons (rel_int _ _) .nil)) (g_out _ N A h)
  have hN : N = 1 ∨ N = 2 ∨ N = 3 ∨ N = 4 ∨ N = 5 ∨ N = 6 ∨ N = 7 ∨ N = 8 := by omega
  rcases hN with rfl | rfl | rfl | rfl | rfl | rfl | rfl | rfl
  · obtain rfl : A = 1 := by omega
    exact runD td1_1 w
  · have hA : A = 1 ∨ A = 2 := by omega
    rcases hA with rfl | rfl
    · exact runD td2_1 w
    · exact runD td2_2 w
  · have hA : A = 1 ∨ A = 2 ∨ A = 3 := by omega
    rcases hA with rfl | rfl | rfl
    · exact runD td3_1 w
    · exact runD td3_2 w
    · exact runD td3_3 w
  · have hA : A = 1 ∨ A = 2 ∨ A = 3 ∨ A = 4 := by omega
    rcases hA with rfl | rfl | rfl | rfl
    · exact runD td4_1 w
    · exact runD td4_2 w
    · exact runD td4_3 w
    · exact runD td4_4 w
  · have hA : A = 1 ∨ A = 2 ∨ A = 3 ∨ A = 4 ∨ A = 5 := by omega
    rcases hA with rfl | rfl | rfl | rfl | rfl
    · exact runD td5_1 w
    · exact runD td5_2 w
    · exact runD td5_3 w
    · exact runD td5_4 w
    · exact runD td5_5 w
  · have hA : A = 1 ∨ A = 2 ∨ A = 3 ∨ A = 4 ∨ A = 5 ∨ A = 6 := by omega
    rcases hA with rfl | rfl | rfl | rfl | rfl | rfl
    · exact runD td6_1 w
    · exact runD td6_2 w
    · exact runD td6_3 w
    · exact runD td6_4 w
    · exact runD td6_5 w
    · exact runD td6_6 w
  · have hA : A = 1 ∨ A = 2 ∨ A = 3 ∨ A = 4 ∨ A = 5 ∨ A = 6 ∨ A = 7 := by omega
    rcases hA with rfl | rfl | rfl | rfl | rfl | rfl | rfl
    · exact runD td7_1 w
    · exact runD td7_2 w
    · exact runD td7_3 w
    · exact runD td7_4 w
    · exact runD td7_5 w
    · exact runD td7_6 w
    · exact runD td7_7 w
  · have hA : A = 1 ∨ A = 2 ∨ A = 3 ∨ A = 4 ∨ A = 5 ∨ A = 6 ∨ A = 7 ∨ A = 8 := by omega
    rcases hA with rfl | rfl | rfl | rfl | rfl | rfl | rfl | rfl
    · exact runD td8_1 w
    · exact runD td8_2 w
    · exact runD td8_3 w
    · exact runD td8_4 w
    · exact runD td8_5 w
    · exact runD td8_6 w
    · exact runD td8_7 w
    · exact runD td8_8 w
end Go.Proofs.YtgcpgidofikcdaaDoor

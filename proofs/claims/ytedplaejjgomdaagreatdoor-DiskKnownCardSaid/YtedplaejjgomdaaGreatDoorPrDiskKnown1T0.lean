/-
  PLAIN: the Go function lintel/deed.Of, called in one state of a run: run in pieces by the evaluator, which is sound.
-/
import Derived.Test.YtedplaejjgomdaaGreatDoorChecked
import Derived.Test.YtedplaejjgomdaaGreatDoorPaDiskKnown
namespace Go.Proofs.YtedplaejjgomdaaGreatDoor.rDiskKnown1
open Go.RowKit Ev
open rDiskKnown0 (namesOk mixes zl l1 z0)
theorem c0 : stepS G ⟨false, [], 0, n0⟩ 13 L0 [2058, 2572, 2614, 2617, 2642, 2643, 3535, 3536, 3563, 3564, 3584, 3585] e0 s0 = some (e1, t1) := by kernel_rfl
theorem c2 : opsA Tryz.prog F0 n2 1 [2058, 2572, 2614, 2617, 2642, 2643, 3535, 3536, 3563, 3564, 3584, 3585] S2 e1 t1 = some (e2, t2) := by kernel_rfl
theorem z2 : L2 = [] := by kernel_rfl
theorem c3 : entA Tryz.prog n3 e2 S3 = some a3 := by kernel_rfl
theorem z3 : L3 = [] := by kernel_rfl
theorem c4 : stepS G ⟨false, [], 0, n4⟩ 1 L4 [2058, 2572, 2614, 2617, 2642, 2643, 3535, 3536, 3563, 3564, 3584, 3585] e3 t2 = some (e4, t3) := by kernel_rfl
theorem c6 : opsA Tryz.prog F0 n6 1 [2058, 2572, 2614, 2617, 2642, 2643, 3535, 3536, 3563, 3564, 3584, 3585] S6 e4 t3 = some (e5, t4) := by kernel_rfl
theorem z6 : L6 = [] := by kernel_rfl
theorem c7 : entA Tryz.prog n7 e5 S7 = some a7 := by kernel_rfl
theorem z7 : L7 = [] := by kernel_rfl
theorem c8 : stepS G ⟨false, [], 0, n8⟩ 12 L8 [2058, 2572, 2614, 2617, 2642, 2643, 3535, 3536, 3563, 3564, 3584, 3585, 3635, 3637, 3843, 4821] e6 t4 = some (e7, t5) := by kernel_rfl
theorem c9 : stepS G ⟨false, [], 0, n9⟩ 3 L9 [2058, 2572, 2614, 2617, 2642, 2643, 3535, 3536, 3563, 3564, 3584, 3585] e7 t5 = some (e8, t6) := by kernel_rfl
theorem c10 : retA Tryz.prog S10 L10 e8 t6 = some e9 := by kernel_rfl
theorem c11 : opsA Tryz.prog F0 n11 1 [2058, 2572, 2614, 2617, 2642, 2643, 3535, 3536, 3563, 3564, 3584, 3585] S11 e9 t6 = some (e10, t7) := by kernel_rfl
theorem z11 : L11 = [] := by kernel_rfl
theorem c13 : stepS G ⟨false, [], 0, n13⟩ 1 L13 [2058, 2572, 2614, 2617, 2642, 2643, 3535, 3536, 3563, 3564, 3584, 3585] e10 t7 = some (e11, t8) := by kernel_rfl
theorem c14 : retA Tryz.prog S14 L14 e11 t8 = some e12 := by kernel_rfl
theorem c15 : opsA Tryz.prog F0 n15 1 [2058, 2572, 2614, 2617, 2642, 2643, 3535, 3536, 3563, 3564, 3584, 3585] S15 e12 t8 = some (e13, t9) := by kernel_rfl
theorem z15 : L15 = [] := by kernel_rfl
theorem c17 : stepS G ⟨false, [], 0, n17⟩ 2 L17 [2058, 2572, 2614, 2617, 2642, 2643, 3585, 6233, 6251, 6255, 6274] e13 t9 = some (e14, t10) := by kernel_rfl
theorem c19 : opsA Tryz.prog F0 n19 1 [2058, 2572, 2614, 2617, 2642, 2643, 3585, 6233, 6251, 6255] S19 e14 t10 = some (e15, t11) := by kernel_rfl
theorem z19 : L19 = [] := by kernel_rfl
theorem c20 : entA Tryz.prog n20 e15 S20 = some a20 := by kernel_rfl
theorem z20 : L20 = [] := by kernel_rfl
theorem c21 : stepS G ⟨false, [], 0, n21⟩ 2 L21 [2058, 2572, 2614, 2617, 2642, 2643, 3585, 6233, 6251, 6255, 6276] e16 t11 = some (e17, t12) := by kernel_rfl
theorem c23 : stepR G ⟨false, [], 0, n23⟩ 2 (loopB S23) [2058, 2572, 2614, 2617, 2642, 2643, 3585, 6233, 6251, 6255, 6276] e17 t12 = some (e18, t13) := by kernel_rfl
theorem x23 : S23 = .lp (loopB S23) :: S23.tail := by kernel_rfl
theorem y23 : L23 = [loopB S23] := by kernel_rfl
end Go.Proofs.YtedplaejjgomdaaGreatDoor.rDiskKnown1

/-
  PLAIN: the Go function lintel/deed.Of, called in one state of a run: run in pieces by the evaluator, which is sound.
-/
import Derived.Test.YtedplaejjgomdaaGreatDoorChecked
import Derived.Test.YtedplaejjgomdaaGreatDoorPbDiskKnown
namespace Go.Proofs.YtedplaejjgomdaaGreatDoor.rDiskKnown3
open Go.RowKit Ev
open rDiskKnown0 (namesOk mixes zl l1 z0)
theorem c2 : opsA Tryz.prog F0 n2 1 [21629, 22143, 22185, 22188, 22213, 22214, 23106, 23107, 23134, 23135, 23155, 23156] S2 e1 t1 = some (e2, t2) := by kernel_rfl
theorem z2 : L2 = [] := by kernel_rfl
theorem c3 : entA Tryz.prog n3 e2 S3 = some a3 := by kernel_rfl
theorem z3 : L3 = [] := by kernel_rfl
theorem c4 : stepS G ⟨false, [], 0, n4⟩ 1 L4 [21629, 22143, 22185, 22188, 22213, 22214, 23106, 23107, 23134, 23135, 23155, 23156] e3 t2 = some (e4, t3) := by kernel_rfl
theorem c6 : opsA Tryz.prog F0 n6 1 [21629, 22143, 22185, 22188, 22213, 22214, 23106, 23107, 23134, 23135, 23155, 23156] S6 e4 t3 = some (e5, t4) := by kernel_rfl
theorem z6 : L6 = [] := by kernel_rfl
theorem c7 : entA Tryz.prog n7 e5 S7 = some a7 := by kernel_rfl
theorem z7 : L7 = [] := by kernel_rfl
theorem c8 : stepS G ⟨false, [], 0, n8⟩ 12 L8 [21629, 22143, 22185, 22188, 22213, 22214, 23106, 23107, 23134, 23135, 23155, 23156, 23206, 23208, 23414, 24392] e6 t4 = some (e7, t5) := by kernel_rfl
theorem c9 : stepS G ⟨false, [], 0, n9⟩ 3 L9 [21629, 22143, 22185, 22188, 22213, 22214, 23106, 23107, 23134, 23135, 23155, 23156] e7 t5 = some (e8, t6) := by kernel_rfl
theorem c10 : retA Tryz.prog S10 L10 e8 t6 = some e9 := by kernel_rfl
theorem c11 : opsA Tryz.prog F0 n11 1 [21629, 22143, 22185, 22188, 22213, 22214, 23106, 23107, 23134, 23135, 23155, 23156] S11 e9 t6 = some (e10, t7) := by kernel_rfl
theorem z11 : L11 = [] := by kernel_rfl
theorem c13 : stepS G ⟨false, [], 0, n13⟩ 1 L13 [21629, 22143, 22185, 22188, 22213, 22214, 23106, 23107, 23134, 23135, 23155, 23156] e10 t7 = some (e11, t8) := by kernel_rfl
theorem c14 : retA Tryz.prog S14 L14 e11 t8 = some e12 := by kernel_rfl
theorem c15 : opsA Tryz.prog F0 n15 1 [21629, 22143, 22185, 22188, 22213, 22214, 23106, 23107, 23134, 23135, 23155, 23156] S15 e12 t8 = some (e13, t9) := by kernel_rfl
theorem z15 : L15 = [] := by kernel_rfl
theorem c17 : stepS G ⟨false, [], 0, n17⟩ 2 L17 [21629, 22143, 22185, 22188, 22213, 22214, 23156, 25804, 25822, 25826, 25845] e13 t9 = some (e14, t10) := by kernel_rfl
theorem c19 : opsA Tryz.prog F0 n19 1 [21629, 22143, 22185, 22188, 22213, 22214, 23156, 25804, 25822, 25826] S19 e14 t10 = some (e15, t11) := by kernel_rfl
theorem z19 : L19 = [] := by kernel_rfl
theorem c20 : entA Tryz.prog n20 e15 S20 = some a20 := by kernel_rfl
theorem z20 : L20 = [] := by kernel_rfl
theorem c21 : stepS G ⟨false, [], 0, n21⟩ 2 L21 [21629, 22143, 22185, 22188, 22213, 22214, 23156, 25804, 25822, 25826, 25847] e16 t11 = some (e17, t12) := by kernel_rfl
theorem c23 : stepR G ⟨false, [], 0, n23⟩ 2 (loopB S23) [21629, 22143, 22185, 22188, 22213, 22214, 23156, 25804, 25822, 25826, 25847] e17 t12 = some (e18, t13) := by kernel_rfl
theorem x23 : S23 = .lp (loopB S23) :: S23.tail := by kernel_rfl
theorem y23 : L23 = [loopB S23] := by kernel_rfl
theorem c24 : stepR G ⟨false, [], 0, n24⟩ 3 (loopB S24) [21629, 22143, 22185, 22188, 22213, 22214, 23156, 25804, 25822, 25826, 25847] e18 t13 = some (e19, t14) := by kernel_rfl
theorem x24 : S24 = .lp (loopB S24) :: S24.tail := by kernel_rfl
theorem y24 : L24 = [loopB S24] := by kernel_rfl
theorem c26 : stepS G ⟨false, [], 0, n26⟩ 1 L26 [21629, 22143, 22185, 22188, 22213, 22214, 23156, 25804, 25822, 25826, 25847] e19 t14 = some (e20, t15) := by kernel_rfl
theorem c28 : stepS G ⟨false, [], 0, n28⟩ 1 L28 [21629, 22143, 22185, 22188, 22213, 22214, 23156] e20 t15 = some (e21, t16) := by kernel_rfl
theorem c29 : retA Tryz.prog S29 L29 e21 t16 = some e22 := by kernel_rfl
theorem c30 : opsA Tryz.prog F0 n30 1 [21629, 22143, 22185, 22188, 22213, 22214, 23156] S30 e22 t16 = some (e23, t17) := by kernel_rfl
theorem z30 : L30 = [] := by kernel_rfl
theorem c32 : stepS G ⟨false, [], 0, n32⟩ 4 L32 [21629, 22143, 30618, 31210] e23 t17 = some (e24, t18) := by kernel_rfl
theorem c33 : endX Tryz.prog Tryz.f30 S33 L33 e24 t18 = some v1 := by kernel_rfl
end Go.Proofs.YtedplaejjgomdaaGreatDoor.rDiskKnown3

/-
  PLAIN: the Go function lintel/lintellaw19.awake, called in one state of a run: run in pieces by the evaluator, which is sound.
-/
import Derived.Test.YtlonobfpogimgaaGreatDoorChecked
import Derived.Test.YtlonobfpogimgaaGreatDoorPrCkAw0D0
namespace Go.Proofs.YtlonobfpogimgaaGreatDoor.rCkAw0
open Go.RowKit Ev
open cCkAw
theorem c0 : stepS G ⟨false, [], 0, n0⟩ 3 L0 [11, 299] e0 s0 = some (e1, t1) := by kernel_rfl
theorem c2 : opsA Tryz.prog F0 n2 10 [11, 299] S2 e1 t1 = some (e2, t2) := by kernel_rfl
theorem z2 : L2 = [] := by kernel_rfl
theorem c3 : opsA Tryz.prog F0 n3 9 [] S3 e2 t2 = some (e3, t3) := by kernel_rfl
theorem z3 : L3 = [] := by kernel_rfl
theorem c5 : endX Tryz.prog Tryz.f4 S5 L5 e3 t3 = some v1 := by kernel_rfl
end Go.Proofs.YtlonobfpogimgaaGreatDoor.rCkAw0

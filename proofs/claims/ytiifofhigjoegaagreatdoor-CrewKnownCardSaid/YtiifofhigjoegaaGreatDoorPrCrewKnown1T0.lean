/-
  PLAIN: the Go function lintel/deed.Of, called in one state of a run: run in pieces by the evaluator, which is sound.
-/
import Derived.Test.YtiifofhigjoegaaGreatDoorChecked
import Derived.Test.YtiifofhigjoegaaGreatDoorPrCrewKnown1D0
namespace Go.Proofs.YtiifofhigjoegaaGreatDoor.rCrewKnown1
open Go.RowKit Ev
open cCrewKnown
open rCrewKnown0 (namesOk mixes)
theorem c0 : stepS G ⟨false, [], 0, n0⟩ 13 L0 [4668, 7070, 7112, 7115, 7140, 7141, 8033, 8034, 8061, 8062, 8082, 8083] e0 s0 = some (e1, t1) := by kernel_rfl
theorem c2 : opsA Tryz.prog F0 n2 1 [4668, 7070, 7112, 7115, 7140, 7141, 8033, 8034, 8061, 8062, 8082, 8083] S2 e1 t1 = some (e2, t2) := by kernel_rfl
theorem z2 : L2 = [] := by kernel_rfl
theorem c3 : entA Tryz.prog n3 e2 S3 = some a3 := by kernel_rfl
theorem z3 : L3 = [] := by kernel_rfl
theorem c4 : stepS G ⟨false, [], 0, n4⟩ 1 L4 [4668, 7070, 7112, 7115, 7140, 7141, 8033, 8034, 8061, 8062, 8082, 8083] e3 t2 = some (e4, t3) := by kernel_rfl
theorem c6 : opsA Tryz.prog F0 n6 1 [4668, 7070, 7112, 7115, 7140, 7141, 8033, 8034, 8061, 8062, 8082, 8083] S6 e4 t3 = some (e5, t4) := by kernel_rfl
theorem z6 : L6 = [] := by kernel_rfl
theorem c7 : entA Tryz.prog n7 e5 S7 = some a7 := by kernel_rfl
theorem z7 : L7 = [] := by kernel_rfl
theorem c8 : stepS G ⟨false, [], 0, n8⟩ 12 L8 [4668, 7070, 7112, 7115, 7140, 7141, 8033, 8034, 8061, 8062, 8082, 8083, 8133, 8135, 8341, 9319] e6 t4 = some (e7, t5) := by kernel_rfl
end Go.Proofs.YtiifofhigjoegaaGreatDoor.rCrewKnown1

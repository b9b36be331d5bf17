/-
  PLAIN: the Go function lintel/deed.Of, called in one state of a run: run in pieces by the evaluator, which is sound.
-/
import Derived.Test.YtiifofhigjoegaaGreatDoorChecked
import Derived.Test.YtiifofhigjoegaaGreatDoorPrCrewKnown1D0
namespace Go.Proofs.YtiifofhigjoegaaGreatDoor.rCrewKnown1
open Go.RowKit Ev
open cCrewKnown
open rCrewKnown0 (namesOk mixes)
theorem c9 : stepS G ⟨false, [], 0, n9⟩ 3 L9 [4668, 7070, 7112, 7115, 7140, 7141, 8033, 8034, 8061, 8062, 8082, 8083] e7 t5 = some (e8, t6) := by kernel_rfl
theorem c10 : retA Tryz.prog S10 L10 e8 t6 = some e9 := by kernel_rfl
theorem c11 : opsA Tryz.prog F0 n11 1 [4668, 7070, 7112, 7115, 7140, 7141, 8033, 8034, 8061, 8062, 8082, 8083] S11 e9 t6 = some (e10, t7) := by kernel_rfl
theorem z11 : L11 = [] := by kernel_rfl
theorem c13 : stepS G ⟨false, [], 0, n13⟩ 1 L13 [4668, 7070, 7112, 7115, 7140, 7141, 8033, 8034, 8061, 8062, 8082, 8083] e10 t7 = some (e11, t8) := by kernel_rfl
theorem c14 : retA Tryz.prog S14 L14 e11 t8 = some e12 := by kernel_rfl
theorem c15 : opsA Tryz.prog F0 n15 1 [4668, 7070, 7112, 7115, 7140, 7141, 8033, 8034, 8061, 8062, 8082, 8083] S15 e12 t8 = some (e13, t9) := by kernel_rfl
theorem z15 : L15 = [] := by kernel_rfl
theorem c17 : stepS G ⟨false, [], 0, n17⟩ 2 L17 [4668, 7070, 7112, 7115, 7140, 7141, 8083, 10731, 10749, 10753, 10772] e13 t9 = some (e14, t10) := by kernel_rfl
theorem c19 : opsA Tryz.prog F0 n19 1 [4668, 7070, 7112, 7115, 7140, 7141, 8083, 10731, 10749, 10753] S19 e14 t10 = some (e15, t11) := by kernel_rfl
theorem z19 : L19 = [] := by kernel_rfl
theorem c20 : entA Tryz.prog n20 e15 S20 = some a20 := by kernel_rfl
theorem z20 : L20 = [] := by kernel_rfl
theorem c21 : stepS G ⟨false, [], 0, n21⟩ 2 L21 [4668, 7070, 7112, 7115, 7140, 7141, 8083, 10731, 10749, 10753, 10774] e16 t11 = some (e17, t12) := by kernel_rfl
theorem c23 : stepR G ⟨false, [], 0, n23⟩ 2 (loopB S23) [4668, 7070, 7112, 7115, 7140, 7141, 8083, 10731, 10749, 10753, 10774] e17 t12 = some (e18, t13) := by kernel_rfl
theorem x23 : S23 = .lp (loopB S23) :: S23.tail := by kernel_rfl
theorem y23 : L23 = [loopB S23] := by kernel_rfl
theorem c24 : stepR G ⟨false, [], 0, n24⟩ 3 (loopB S24) [4668, 7070, 7112, 7115, 7140, 7141, 8083, 10731, 10749, 10753, 10774] e18 t13 = some (e19, t14) := by kernel_rfl
theorem x24 : S24 = .lp (loopB S24) :: S24.tail := by kernel_rfl
theorem y24 : L24 = [loopB S24] := by kernel_rfl
theorem c26 : stepS G ⟨false, [], 0, n26⟩ 1 L26 [4668, 7070, 7112, 7115, 7140, 7141, 8083, 10731, 10749, 10753, 10774] e19 t14 = some (e20, t15) := by kernel_rfl
theorem c28 : stepS G ⟨false, [], 0, n28⟩ 1 L28 [4668, 7070, 7112, 7115, 7140, 7141, 8083] e20 t15 = some (e21, t16) := by kernel_rfl
theorem c29 : retA Tryz.prog S29 L29 e21 t16 = some e22 := by kernel_rfl
theorem c30 : opsA Tryz.prog F0 n30 1 [4668, 7070, 7112, 7115, 7140, 7141, 8083] S30 e22 t16 = some (e23, t17) := by kernel_rfl
theorem z30 : L30 = [] := by kernel_rfl
theorem c32 : stepS G ⟨false, [], 0, n32⟩ 2 L32 [4668, 7070, 7112, 7115, 7140, 7141, 8083] e23 t17 = some (e24, t18) := by kernel_rfl
theorem c34 : opsA Tryz.prog F0 n34 1 [4668, 7070, 7112, 7115, 7140, 7141, 8083] S34 e24 t18 = some (e25, t19) := by kernel_rfl
theorem z34 : L34 = [] := by kernel_rfl
theorem c35 : entA Tryz.prog n35 e25 S35 = some a35 := by kernel_rfl
theorem z35 : L35 = [] := by kernel_rfl
theorem c36 : stepS G ⟨false, [], 0, n36⟩ 3 L36 [4668, 7070, 7112, 7115, 7140, 7141, 8083, 14666, 14667] e26 t19 = some (e27, t20) := by kernel_rfl
theorem c38 : stepR G ⟨false, [], 0, n38⟩ 535 (loopB S38) [4668, 7070, 7112, 7115, 7140, 7141, 8083, 14666, 14667, 15449, 15478, 15479, 16065, 16070, 16071] e27 t20 = some (e28, t21) := by kernel_rfl
theorem x38 : S38 = .lp (loopB S38) :: S38.tail := by kernel_rfl
theorem y38 : L38 = [loopB S38] := by kernel_rfl
theorem c39 : stepR G ⟨false, [], 0, n39⟩ 762 (loopB S39) [4668, 7070, 7112, 7115, 7140, 7141, 8083, 14666, 14667, 15449, 15478, 15479, 16065, 16070, 16071] e28 t21 = some (e29, t22) := by kernel_rfl
theorem x39 : S39 = .lp (loopB S39) :: S39.tail := by kernel_rfl
theorem y39 : L39 = [loopB S39] := by kernel_rfl
end Go.Proofs.YtiifofhigjoegaaGreatDoor.rCrewKnown1

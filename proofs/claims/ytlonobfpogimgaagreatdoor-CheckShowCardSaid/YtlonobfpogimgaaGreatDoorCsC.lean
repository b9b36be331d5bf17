/-
  Contracts of a number's text: small, formatBase10.
-/
import Derived.Test.YtlonobfpogimgaaGreatDoorCsB
set_option linter.unusedSimpArgs false
set_option linter.unusedVariables false
namespace Go.Proofs.YtlonobfpogimgaaGreatDoor
open Go.RowKit Ev
/-! ### plain: digits -/
def dgt (u j : Nat) : Nat := 48 + u / 10 ^ j % 10
def dg (nd u : Nat) : Tx := (List.range nd).map fun i => dgt u (nd - 1 - i)
def smL : List Nat := [48, 48, 48, 49, 48, 50, 48, 51, 48, 52, 48, 53, 48, 54, 48, 55, 48, 56, 48, 57, 49, 48, 49, 49, 49, 50, 49, 51, 49, 52, 49, 53, 49, 54, 49, 55, 49, 56, 49, 57, 50, 48, 50, 49, 50, 50, 50, 51, 50, 52, 50, 53, 50, 54, 50, 55, 50, 56, 50, 57, 51, 48, 51, 49, 51, 50, 51, 51, 51, 52, 51, 53, 51, 54, 51, 55, 51, 56, 51, 57, 52, 48, 52, 49, 52, 50, 52, 51, 52, 52, 52, 53, 52, 54, 52, 55, 52, 56, 52, 57, 53, 48, 53, 49, 53, 50, 53, 51, 53, 52, 53, 53, 53, 54, 53, 55, 53, 56, 53, 57, 54, 48, 54, 49, 54, 50, 54, 51, 54, 52, 54, 53, 54, 54, 54, 55, 54, 56, 54, 57, 55, 48, 55, 49, 55, 50, 55, 51, 55, 52, 55, 53, 55, 54, 55, 55, 55, 56, 55, 57, 56, 48, 56, 49, 56, 50, 56, 51, 56, 52, 56, 53, 56, 54, 56, 55, 56, 56, 56, 57, 57, 48, 57, 49, 57, 50, 57, 51, 57, 52, 57, 53, 57, 54, 57, 55, 57, 56, 57, 57]
def diL : List Nat := [48, 49, 50, 51, 52, 53, 54, 55, 56, 57, 97, 98, 99, 100, 101, 102, 103, 104, 105, 106, 107, 108, 109, 110, 111, 112, 113, 114, 115, 116, 117, 118, 119, 120, 121, 122]
theorem sm_all : ((List.range 100).all fun v => smL[v * 2]? == some (48 + v / 10) && smL[v * 2 + 1]? == some (48 + v % 10)) = true := by kernel_rfl
theorem sm_at {v : Nat} (hv : v < 100) : smL[v * 2]? = some (48 + v / 10) ∧ smL[v * 2 + 1]? = some (48 + v % 10) := by
  have := List.all_eq_true.1 sm_all v (List.mem_range.2 hv)
  simpa using this
theorem idxS {st : St} {k b : Nat} (hk : smL[k]? = some b) : indexK Tryz.prog st 9 (.s [48, 48, 48, 49, 48, 50, 48, 51, 48, 52, 48, 53, 48, 54, 48, 55, 48, 56, 48, 57, 49, 48, 49, 49, 49, 50, 49, 51, 49, 52, 49, 53, 49, 54, 49, 55, 49, 56, 49, 57, 50, 48, 50, 49, 50, 50, 50, 51, 50, 52, 50, 53, 50, 54, 50, 55, 50, 56, 50, 57, 51, 48, 51, 49, 51, 50, 51, 51, 51, 52, 51, 53, 51, 54, 51, 55, 51, 56, 51, 57, 52, 48, 52, 49, 52, 50, 52, 51, 52, 52, 52, 53, 52, 54, 52, 55, 52, 56, 52, 57, 53, 48, 53, 49, 53, 50, 53, 51, 53, 52, 53, 53, 53, 54, 53, 55, 53, 56, 53, 57, 54, 48, 54, 49, 54, 50, 54, 51, 54, 52, 54, 53, 54, 54, 54, 55, 54, 56, 54, 57, 55, 48, 55, 49, 55, 50, 55, 51, 55, 52, 55, 53, 55, 54, 55, 55, 55, 56, 55, 57, 56, 48, 56, 49, 56, 50, 56, 51, 56, 52, 56, 53, 56, 54, 56, 55, 56, 56, 56, 57, 57, 48, 57, 49, 57, 50, 57, 51, 57, 52, 57, 53, 57, 54, 57, 55, 57, 56, 57, 57]) k = some (.int .u8 (b : Int), st) := indexK_str un9 smL k b hk
def smN (v : Nat) : Tx := if v < 10 then [48 + v] else [48 + v / 10, 48 + v % 10]
theorem small_all : ((List.range 100).all fun v => if v < 10 then (diL.take (v + 1)).drop v == smN v else (smL.take (v * 2 + 2)).drop (v * 2) == smN v) = true := by kernel_rfl
theorem small_at {v : Nat} (hv : v < 100) : (v < 10 → (diL.take (v + 1)).drop v = smN v) ∧ (¬ v < 10 → (smL.take (v * 2 + 2)).drop (v * 2) = smN v) := by
  have := List.all_eq_true.1 small_all v (List.mem_range.2 hv)
  constructor <;> intro h <;> simpa [h] using this
set_option maxRecDepth 20000 in
theorem small_any (st : St) (v : Nat) (hv : v < 100) (nt : Nat) :
    Gd (callL Tryz.prog ⟨false, [], 0, nt⟩ 96 [.int .i64 (v : Int)] st) fun r => r.1 = .s (smN v) ∧ r.2 = st := by
  rw [Gd_callL Tryz.func96 rfl]
  obtain ⟨s1, s2⟩ := small_at hv
  by_cases h : v < 10
  · have hi : (v : Int) < 10 := by omega
    have hw : IntKind.i64.wrap ((v : Int) + 1) = ((v + 1 : Nat) : Int) := by rw [wrap_i (by omega) (by omega)]; omega
    simp [evOp_call, sets, T.get_set, hi, hw, -Int.natCast_add]
    refine Gd_strMid un9 (l := diL) (k := v) (m := v + 1) (by simp [T.get_set]; try rfl) (by simp [T.get_set]; try rfl) (by omega) (by simp [diL]; omega) ?_
    rw [s1 h]
    simp [T.get_set]
  · have hi : ¬ (v : Int) < 10 := by omega
    have hw : IntKind.i64.wrap ((v : Int) * 2) = ((v * 2 : Nat) : Int) := by rw [wrap_i (by omega) (by omega)]; omega
    have hw2 : IntKind.i64.wrap (((v * 2 : Nat) : Int) + 2) = ((v * 2 + 2 : Nat) : Int) := by rw [wrap_i (by omega) (by omega)]; omega
    simp [evOp_call, sets, T.get_set, hi, hw, hw2, -Int.natCast_add, -Int.natCast_mul]
    refine Gd_strMid un9 (l := smL) (k := v * 2) (m := v * 2 + 2) (by simp [T.get_set]; try rfl) (by simp [T.get_set]; try rfl) (by omega) (by simp [smL]; omega) ?_
    rw [s2 h]
    simp [T.get_set]
end Go.Proofs.YtlonobfpogimgaaGreatDoor

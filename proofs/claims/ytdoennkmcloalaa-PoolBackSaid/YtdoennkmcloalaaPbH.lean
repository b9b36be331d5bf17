/-
  The pool of eighty blocks: what its bits say.
-/
import Derived.Test.YtdoennkmcloalaaPbG
set_option linter.unusedSimpArgs false
set_option linter.unusedVariables false
namespace Go.Proofs.Ytdoennkmcloalaa
open Go.RowKit Ev
def g80 : Gm := ⟨80, 10, 1, 20⟩
def E80 : List (BitVec 64) := emptyI g80 80
def N80 (n : Nat) : List (BitVec 64) := setB E80 true (allJ [(42, (n : Int))])
def K80 (n : Nat) : List Rn := if n < 37 then [(((42 + n : Nat) : Int), (79 : Int) - ((42 + n : Nat) : Int))] else []
def chk80 (n : Nat) : Bool := decide (freeB E80 42 79 (n : Int) = some 42) && decide (nextB (N80 n) false 42 (42 + (n : Int)) = none) && decide (setB (N80 n) false (allJ [(42, (n : Int))]) = E80)
def gap80 (n : Nat) : Bool := if n < 37 then decide (nextB (N80 n) false 42 79 = some (42 + n)) && decide (nextB (N80 n) true ((42 + n : Nat) : Int) 79 = none) && decide (nextB (N80 n) false 79 79 = none) else decide (nextB (N80 n) false 42 79 = none)
set_option maxRecDepth 100000 in
theorem chk_all : (List.range 38).all (fun n => n == 0 || chk80 n) = true := by kernel_rfl
set_option maxRecDepth 100000 in
theorem gap_all : (List.range 38).all gap80 = true := by kernel_rfl
theorem good80 : isGood g80 := of_decide_eq_true (by kernel_rfl)
set_option maxRecDepth 100000 in
theorem cnt80 : cntL E80 = 43 := by kernel_rfl
theorem N80_zero : N80 0 = E80 := by
  have : allJ [(42, ((0 : Nat) : Int))] = [] := rfl
  unfold N80
  rw [this]
  unfold setB
  exact List.foldl_nil
theorem freeF_none (p : Nat → Bool) (n : Int) : ∀ (k i : Nat) (row : Int), 0 ≤ row → row + k < n → freeF p n k i row = none
  | 0, _, _, _, _ => rfl
  | k + 1, i, row, h, h2 => by
    unfold freeF
    split
    · exact freeF_none p n k _ 0 (Int.le_refl _) (by omega)
    · rw [if_neg (by omega)]
      exact freeF_none p n k _ _ (by omega) (by omega)
theorem free80_some {n : Nat} (h1 : 1 ≤ n) (h2 : n ≤ 37) : freeB E80 42 79 (n : Int) = some 42 ∧ nextB (N80 n) false 42 (42 + (n : Int)) = none ∧ setB (N80 n) false (allJ [(42, (n : Int))]) = E80 := by
  have := List.all_eq_true.1 chk_all n (List.mem_range.2 (by omega))
  have h0 : (n == 0) = false := by simp; omega
  rw [h0, Bool.false_or] at this
  unfold chk80 at this
  simp only [Bool.and_eq_true, decide_eq_true_eq] at this
  exact ⟨this.1.1, this.1.2, this.2⟩
theorem gaps80 {n : Nat} (h2 : n ≤ 37) : gapsC (N80 n) 42 79 (K80 n) := by
  have := List.all_eq_true.1 gap_all n (List.mem_range.2 (by omega))
  unfold gap80 at this
  unfold K80
  by_cases h : n < 37
  · rw [if_pos h] at this ⊢
    simp only [Bool.and_eq_true, decide_eq_true_eq] at this
    exact .inr ⟨42 + n, rfl, by omega, by omega, this.1.1, this.1.2, this.2⟩
  · rw [if_neg h] at this ⊢
    exact .inl ⟨rfl, of_decide_eq_true this⟩
theorem lens80 {n : Nat} (h2 : n ≤ 37) : lens (K80 n) = 37 - (n : Int) := by
  unfold K80
  split
  · simp [lens]; omega
  · simp [lens]; omega
theorem endB80 : endB E80 79 = 79 := by kernel_rfl
theorem free80_none {n : Int} (h : 37 < n) : freeB E80 42 79 n = none := by
  unfold freeB
  rw [if_neg (by omega), endB80]
  exact freeF_none _ _ _ _ _ (Int.le_refl _) (by have : fromB 42 = 42 := rfl; rw [this]; show (0 : Int) + ((37 : Nat) : Int) < n; omega)
set_option maxRecDepth 20000 in
set_option maxHeartbeats 4000000 in
theorem plain80_any (st : St) (nt : Nat) : Gd (callL Try.prog ⟨false, [], 0, nt⟩ 83 [.int .i64 80] st) fun r => r.1 = gV g80 ∧ Ext st.nx st r.2 := by
  rw [Gd_callL Try.func83 rfl]
  have e0 := fun v => (Ext.refl st.nx st).new (Nat.le_refl _) v
  simp [evOp_call, sets, T.get_set, newC_is, storeK_g, putB_eq, roT, loadE_eq, getC_eq, getsB_succ, getsB_zero]
  exact ⟨rfl, e0 _⟩
end Go.Proofs.Ytdoennkmcloalaa

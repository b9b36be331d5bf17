/-
  PLAIN: words as numbers: and, or, xor, shifts, by rewriting.
-/
import Derived.Test.YtenncnbaoejekaaRw
namespace Go.Proofs.Ytenncnbaoejekaa.Ev
open Go.RowKit
section
variable {P : Program} {st : St} {t : TypeId} {x y : Operand} {k k' : IntKind} {a b : Nat}
@[simp] theorem bin_and : binE P st .and t x y (.c (.int k (a : Int))) (.c (.int k (b : Int))) = some (.int k (k.wrap ((a &&& b : Nat) : Int)), st) := by
  have h : binI .and k (a : Int) (b : Int) = some (.int k (k.wrap ((a &&& b : Nat) : Int))) := by
    show some (Value.int k (wr k _)) = _
    rw [wr_eq]; rfl
  cases k <;> simp [binE, eqKd, h, ofV, fA, ret]
@[simp] theorem bin_or : binE P st .or t x y (.c (.int k (a : Int))) (.c (.int k (b : Int))) = some (.int k (k.wrap ((a ||| b : Nat) : Int)), st) := by
  have h : binI .or k (a : Int) (b : Int) = some (.int k (k.wrap ((a ||| b : Nat) : Int))) := by
    show some (Value.int k (wr k _)) = _
    rw [wr_eq]; rfl
  cases k <;> simp [binE, eqKd, h, ofV, fA, ret]
@[simp] theorem bin_xor : binE P st .xor t x y (.c (.int k (a : Int))) (.c (.int k (b : Int))) = some (.int k (k.wrap ((a ^^^ b : Nat) : Int)), st) := by
  have h : binI .xor k (a : Int) (b : Int) = some (.int k (k.wrap ((a ^^^ b : Nat) : Int))) := by
    show some (Value.int k (wr k _)) = _
    rw [wr_eq]; rfl
  cases k <;> simp [binE, eqKd, h, ofV, fA, ret]
@[simp] theorem bin_andNot : binE P st .andNot t x y (.c (.int k (a : Int))) (.c (.int k (b : Int))) = some (.int k (k.wrap ((a ^^^ (a &&& b) : Nat) : Int)), st) := by
  have h : binI .andNot k (a : Int) (b : Int) = some (.int k (k.wrap ((a ^^^ (a &&& b) : Nat) : Int))) := by
    show some (Value.int k (wr k _)) = _
    rw [wr_eq]; rfl
  cases k <;> simp [binE, eqKd, h, ofV, fA, ret]
@[simp] theorem bin_shl : binE P st .shl t x y (.c (.int k (a : Int))) (.c (.int k' (b : Int))) = some (.int k (k.wrap ((a <<< min b (kbits k) : Nat) : Int)), st) := by
  have h : shI .shl k (a : Int) (b : Int) = some (.int k (k.wrap ((a <<< min b (kbits k) : Nat) : Int))) := by
    show some (Value.int k (wr k _)) = _
    rw [wr_eq]; rfl
  cases k <;> simp [binE, h, ofV, fA, ret]
@[simp] theorem bin_shr : binE P st .shr t x y (.c (.int k (a : Int))) (.c (.int k' (b : Int))) = some (.int k ((a >>> min b (kbits k) : Nat) : Int), st) := by
  have h : shI .shr k (a : Int) (b : Int) = some (.int k ((a >>> min b (kbits k) : Nat) : Int)) := rfl
  cases k <;> simp [binE, h, ofV, fA, ret]
@[simp] theorem kbits_u64 : kbits .u64 = 64 := rfl
theorem wrap_u {n : Nat} (h : n < 18446744073709551616) : IntKind.u64.wrap (n : Int) = (n : Int) := by
  simp only [IntKind.wrap, IntKind.signed, IntKind.bits]
  simp; omega
theorem land_lt {a b : Nat} (h : a < 18446744073709551616) : a &&& b < 18446744073709551616 := Nat.lt_of_le_of_lt Nat.and_le_left h
theorem lor_lt {a b : Nat} (h : a < 18446744073709551616) (k : b < 18446744073709551616) : a ||| b < 18446744073709551616 := Nat.or_lt_two_pow (n := 64) h k
theorem lxor_lt {a b : Nat} (h : a < 18446744073709551616) (k : b < 18446744073709551616) : a ^^^ b < 18446744073709551616 := Nat.xor_lt_two_pow (n := 64) h k
theorem one_shl {r : Nat} (h : r < 64) : 1 <<< r < 18446744073709551616 := by
  rw [Nat.one_shiftLeft]
  exact Nat.pow_lt_pow_right (a := 2) (by decide) (n := 64) h
end
end Go.Proofs.Ytenncnbaoejekaa.Ev

/-
  The document's own words of bytes and bytes of words (texts WdC to WdE, in a namespace of their own).
-/
import Derived.Test.YtgcpgidofikcdaaGreatDoorTyWd
import Derived.Test.YtgcpgidofikcdaaGreatDoorSc
import Derived.Test.YtgcpgidofikcdaaGreatDoorMid
set_option linter.unusedSimpArgs false
set_option linter.unusedVariables false
namespace Go.Proofs.YtgcpgidofikcdaaGreatDoor.W
open Go.RowKit Ev
def bv (B : List Int) : List V := B.map fun b => .int .u8 b
@[simp] theorem bv_length (B : List Int) : (bv B).length = B.length := by simp [bv]
theorem bv_get {B : List Int} {i : Nat} {b : Int} (h : B[i]? = some b) : (bv B)[i]? = some (.int .u8 b) := by unfold bv; rw [List.getElem?_map, h]; rfl
def byteW (B : List Int) (i : Nat) : BitVec 64 := BitVec.ofInt 64 (B[i]?.getD 0)
/-- the word that bytes make -/
def accW (B : List Int) (o : Nat) : Nat → BitVec 64
  | 0 => 0#64
  | i + 1 => accW B o i ||| byteW B (o + i) <<< (8 * i)
def inB (B : List Int) (k : Int) : Prop := 0 ≤ k ∧ k < (B.length : Int) / 8
instance (B : List Int) (k : Int) : Decidable (inB B k) := by unfold inB; infer_instance
def byteN (w : BitVec 64) (i : Nat) : Int := IntKind.u8.wrap ((w >>> (8 * i)).toNat : Int)
/-- a row with room for all that comes -/
def CapRow (b : Nat) (st : St) (x : V) (q : Nat) (B : List Int) : Prop := ∃ m ty t, x = .sl m 0 B.length q ∧ B.length ≤ q ∧ b ≤ m ∧ m < st.nx ∧ st.h.get m = some (.cs ty q t) ∧ ty ≠ roT ∧ ∀ j v, (bv B)[j]? = some v → t.get j = some v
theorem CapRow.ext {b : Nat} {st st' : St} {x : V} {q : Nat} {B : List Int} (h : CapRow b st x q B) (k : Ext st.nx st st') : CapRow b st' x q B := by
  obtain ⟨m, ty, t, e, h1, h2, h3, h4, h5⟩ := h
  exact ⟨m, ty, t, e, h1, h2, Nat.lt_of_lt_of_le h3 k.le, (k.keep m h3).trans h4, h5⟩
theorem CapRow.rd {b : Nat} {st : St} {x : V} {q : Nat} {B : List Int} (h : CapRow b st x q B) : RdRow st x 1 B.length (bv B) := by
  obtain ⟨m, ty, t, rfl, h1, h2, h3, h4, h5, h6⟩ := h
  exact ⟨by simp, .inr (.inl ⟨m, 0, q, ty, q, t, rfl, h3, h4, by omega, fun j v hj => by rw [Nat.zero_add]; exact h6 j v hj⟩)⟩
theorem conv_byte (c : Cx) (st : St) (w : BitVec 64) (k : Nat) : convE Tryz.prog c st 78 5 (wd (w >>> (8 * k))) = some (.int .u8 (byteN w k), st) := conv_int (by rw [un78]; rfl) un5 _
end Go.Proofs.YtgcpgidofikcdaaGreatDoor.W

/-
  PLAIN: RdAB, RdC, RdG, in one text.
-/
import Derived.Test.YtgcpgidofikcdaaGreatDoorTyRedo
import Derived.Test.YtgcpgidofikcdaaGreatDoorRb
import Derived.Test.YtgcpgidofikcdaaGreatDoorSb
import Derived.Test.YtgcpgidofikcdaaGreatDoorEc
import Derived.Test.YtgcpgidofikcdaaGreatDoorHdP
import Derived.Test.YtgcpgidofikcdaaGreatDoorSc
import Derived.Test.YtgcpgidofikcdaaGreatDoorMid
set_option linter.unusedSimpArgs false
namespace Go.Proofs.YtgcpgidofikcdaaGreatDoor
open Go.RowKit Ev
end Go.Proofs.YtgcpgidofikcdaaGreatDoor
set_option linter.unusedSimpArgs false
namespace Go.Proofs.YtgcpgidofikcdaaGreatDoor
open Go.RowKit Ev
def headR (n : BitVec 64) (K : List (Int × BitVec 64)) (k : Nat) : List (BitVec 64) := n :: BitVec.ofInt 64 K.length :: bodyR (K.take k)
def putI (st : St) (n : BitVec 64) (y : V) (K : List (Int × BitVec 64)) (e : Env) (s : St) : Prop := ∃ (k : Nat) (z : V), k ≤ K.length ∧ e.get 3 = some z ∧ e.get 17 = some y ∧ e.get 18 = some (.int .i64 (K.length : Int)) ∧ e.get 19 = some (.int .i64 (k : Int)) ∧
  AppRow st.nx s z 1 (2 + 2 * k) (wv (headR n K k)) ∧ Ext st.nx st s
end Go.Proofs.YtgcpgidofikcdaaGreatDoor
set_option linter.unusedSimpArgs false
namespace Go.Proofs.YtgcpgidofikcdaaGreatDoor
open Go.RowKit Ev
theorem yesClash {e : Env} {l : List (Nat × Nat)} {x : Operand} (h : clashes e l x = true) : lr false (fun x _ r => match clashes e l x with | true => true | false => r) [x] = true := by
  show (match clashes e l x with | true => true | false => lr false (fun x _ r => match clashes e l x with | true => true | false => r) []) = true
  rw [h]
def fitsL (L : List (BitVec 64)) : Prop := 0 < L.length ∧ wat L (L.length - 1) = slOf (L.take (L.length - 1))
instance (L : List (BitVec 64)) : Decidable (fitsL L) := by unfold fitsL; infer_instance
end Go.Proofs.YtgcpgidofikcdaaGreatDoor
set_option linter.unusedSimpArgs false
namespace Go.Proofs.YtgcpgidofikcdaaGreatDoor
open Go.RowKit Ev
def pairR (L : List (BitVec 64)) (i : Nat) : Int × BitVec 64 := ((wat L (2 + 2 * i)).toInt, wat L (3 + 2 * i))
def pairsR (L : List (BitVec 64)) (c : Nat) : List (Int × BitVec 64) := (List.range c).map (pairR L)
def cntR (L : List (BitVec 64)) : Nat := (wat L 1).toNat
def getOk (L : List (BitVec 64)) : Prop := 2 ≤ L.length ∧ cntR L ≤ 400 ∧ 2 + 2 * cntR L < L.length ∧ fitsL (L.take (3 + 2 * cntR L)) ∧ fitsR (wat L 0) (pairsR L (cntR L))
instance (L : List (BitVec 64)) : Decidable (getOk L) := by unfold getOk; infer_instance
theorem forb_oneR {b i x y : Nat} {l : List (Nat × Nat)} (h : Nat.testBit b i = true) : forb b [(i, x, y)] l = l := by
  show (match Nat.testBit b i with | true => l | false => (x, y) :: l) = l
  rw [h]
theorem bx_ext (st : St) (v : B) : Ext st.nx st ⟨st.nx + 1, st.h.set st.nx v⟩ := (Ext.refl _ _).new (Nat.le_refl _) _
end Go.Proofs.YtgcpgidofikcdaaGreatDoor

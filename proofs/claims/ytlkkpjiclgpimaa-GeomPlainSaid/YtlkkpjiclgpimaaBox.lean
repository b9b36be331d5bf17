/-
  PLAIN: cells of a block that is known whole.
-/
import Derived.Test.YtlkkpjiclgpimaaBv
import Derived.ProofKit
namespace Go.Proofs.Ytlkkpjiclgpimaa
open Go.RowKit
theorem blk_new (w : World) (o : Obj) : (w.alloc o).heap[w.heap.size]? = some o := heap_alloc_new w o
theorem blk_at (w : World) (o : Obj) (k : Nat) (h : k = w.heap.size) : (w.alloc o).heap[k]? = some o := by rw [h]; exact heap_alloc_new w o
theorem blk_old (w : World) (o : Obj) (k : Nat) (h : k < w.heap.size) : (w.alloc o).heap[k]? = w.heap[k]? := Below.heap_alloc w o k h
theorem blk_cell {w : World} {k : Nat} {cs : Array Value} {e : TypeId} {fr : Nat × Nat} (h : w.heap[k]? = some (.cells cs e fr)) (i : Nat) : w.cell? ⟨k, i, none⟩ = cs[i]? := by
  simp [World.cell?, h]
theorem blk_frozen {w : World} {k : Nat} {cs : Array Value} {e : TypeId} (h : w.heap[k]? = some (.cells cs e (0, 0))) (i : Nat) : w.frozen? ⟨k, i, none⟩ = false := by
  simp [World.frozen?, h]
theorem cells2 {w : World} {k : Nat} {a b : Value} {e : TypeId} (h : w.heap[k]? = some (.cells #[a, b] e (0, 0))) : w.cell? ⟨k, 0, none⟩ = some a ∧ w.cell? ⟨k, 1, none⟩ = some b :=
  ⟨blk_cell h 0, blk_cell h 1⟩
theorem cells4 {w : World} {k : Nat} {a b c d : Value} {e : TypeId} (h : w.heap[k]? = some (.cells #[a, b, c, d] e (0, 0))) :
    w.cell? ⟨k, 0, none⟩ = some a ∧ w.cell? ⟨k, 1, none⟩ = some b ∧ w.cell? ⟨k, 2, none⟩ = some c ∧ w.cell? ⟨k, 3, none⟩ = some d :=
  ⟨blk_cell h 0, blk_cell h 1, blk_cell h 2, blk_cell h 3⟩
theorem cells10 {w : World} {k : Nat} {a b c d f g i j l m : Value} {e : TypeId} (h : w.heap[k]? = some (.cells #[a, b, c, d, f, g, i, j, l, m] e (0, 0))) :
    (w.cell? ⟨k, 0, none⟩ = some a ∧ w.cell? ⟨k, 1, none⟩ = some b ∧ w.cell? ⟨k, 2, none⟩ = some c ∧ w.cell? ⟨k, 3, none⟩ = some d ∧ w.cell? ⟨k, 4, none⟩ = some f) ∧
    w.cell? ⟨k, 5, none⟩ = some g ∧ w.cell? ⟨k, 6, none⟩ = some i ∧ w.cell? ⟨k, 7, none⟩ = some j ∧ w.cell? ⟨k, 8, none⟩ = some l ∧ w.cell? ⟨k, 9, none⟩ = some m :=
  ⟨⟨blk_cell h 0, blk_cell h 1, blk_cell h 2, blk_cell h 3, blk_cell h 4⟩, blk_cell h 5, blk_cell h 6, blk_cell h 7, blk_cell h 8, blk_cell h 9⟩
theorem set10 {w : World} {k : Nat} {a0 a1 a2 a3 a4 a5 a6 a7 a8 a9 : Value} {e : TypeId} (h : w.heap[k]? = some (.cells #[a0, a1, a2, a3, a4, a5, a6, a7, a8, a9] e (0, 0))) (b0 b1 b2 b3 b4 b5 b6 b7 b8 b9 : Value) :
    ((((((((((w.setCell ⟨k, 0, none⟩ b0).setCell ⟨k, 1, none⟩ b1).setCell ⟨k, 2, none⟩ b2).setCell ⟨k, 3, none⟩ b3).setCell ⟨k, 4, none⟩ b4).setCell ⟨k, 5, none⟩ b5).setCell ⟨k, 6, none⟩ b6).setCell ⟨k, 7, none⟩ b7).setCell ⟨k, 8, none⟩ b8).setCell ⟨k, 9, none⟩ b9).heap[k]? = some (.cells #[b0, b1, b2, b3, b4, b5, b6, b7, b8, b9] e (0, 0)) := by
  have h0 := heap_setCell_same _ _ 0 _ _ b0 h
  have h1 := heap_setCell_same _ _ 1 _ _ b1 h0
  have h2 := heap_setCell_same _ _ 2 _ _ b2 h1
  have h3 := heap_setCell_same _ _ 3 _ _ b3 h2
  have h4 := heap_setCell_same _ _ 4 _ _ b4 h3
  have h5 := heap_setCell_same _ _ 5 _ _ b5 h4
  have h6 := heap_setCell_same _ _ 6 _ _ b6 h5
  have h7 := heap_setCell_same _ _ 7 _ _ b7 h6
  have h8 := heap_setCell_same _ _ 8 _ _ b8 h7
  have h9 := heap_setCell_same _ _ 9 _ _ b9 h8
  simpa using h9
end Go.Proofs.Ytlkkpjiclgpimaa

/-
  PLAIN: what writes do; sums; a record's words.
-/
import Derived.Test.YtgcpgidofikcdaaGreatDoorOpn5
set_option linter.unusedSimpArgs false
namespace Go.Proofs.YtgcpgidofikcdaaGreatDoor
open Go.RowKit Ev
/-! ### sums -/
def slStep (s v : BitVec 64) : BitVec 64 := s.rotateLeft 9 ^^^ v
def slOn (s : BitVec 64) (l : List (BitVec 64)) : BitVec 64 := l.foldl slStep s
def slBegin : BitVec 64 := 7811896474847682849#64
def slOf (l : List (BitVec 64)) : BitVec 64 := slOn slBegin l
theorem slOn_take {s : BitVec 64} {l : List (BitVec 64)} {k : Nat} {v : BitVec 64} (h : l[k]? = some v) : slOn s (l.take (k + 1)) = slStep (slOn s (l.take k)) v := by
  unfold slOn
  rw [List.take_add_one, h, List.foldl_append]
  rfl
/-! ### records -/
def okAt (r : Int × BitVec 64) : Prop := 0 ≤ r.1 ∧ r.1 ≤ 1048576
instance (r : Int × BitVec 64) : Decidable (okAt r) := by unfold okAt; infer_instance
def fitsR (n : BitVec 64) (K : List (Int × BitVec 64)) : Prop := n ≠ 0#64 ∧ K.length ≤ 400 ∧ ∀ r ∈ K, okAt r
instance (n : BitVec 64) (K : List (Int × BitVec 64)) : Decidable (fitsR n K) := by unfold fitsR; infer_instance
def bodyR (K : List (Int × BitVec 64)) : List (BitVec 64) := K.flatMap fun r => [BitVec.ofInt 64 r.1, r.2]
end Go.Proofs.YtgcpgidofikcdaaGreatDoor

/-
  PLAIN: blocks of the memory of which it is known from the start what they hold: the powers of ten.
-/
import Derived.Below
namespace Go.Proofs.YtlonobfpogimgaaGreatDoor.Ev
open Go.RowKit
def tens : List Nat := [1, 10, 100, 1000, 10000, 100000, 1000000, 10000000, 100000000, 1000000000, 10000000000, 100000000000, 1000000000000, 10000000000000, 100000000000000, 1000000000000000, 10000000000000000, 100000000000000000, 1000000000000000000, 10000000000000000000]
def pins : List (Nat × Array Value) := [(0, ⟨tens.map fun (n : Nat) => Value.int .u64 (n : Int)⟩)]
end Go.Proofs.YtlonobfpogimgaaGreatDoor.Ev

/-
  PLAIN: blocks of the memory of which it is known from the start what they hold (none).
-/
import Derived.Below
namespace Go.Proofs.Ytcjddojcfdeflaa.Ev
def pins : List (Nat × Array Value) := []
end Go.Proofs.Ytcjddojcfdeflaa.Ev

/-
  Contracts: Parts, how many.
-/
import Derived.Test.YtgcpgidofikcdaaGreatDoorTmNC
set_option linter.unusedSimpArgs false
set_option linter.unusedVariables false
namespace Go.Proofs.YtgcpgidofikcdaaGreatDoor
open Go.RowKit Ev
def cntK (E:Tr) (k:Nat):Nat:=((List.range k).filter fun i => decide ((E i).k ≠ 0)).length
theorem cntK_le (E:Tr) (k:Nat):cntK E k ≤ k:=by
 unfold cntK
 exact Nat.le_trans (List.length_filter_le _ _) (by simp)
theorem cntK_succ (E:Tr) (k:Nat):cntK E (k + 1) = cntK E k + if (E k).k = 0 then 0 else 1:=by
 unfold cntK
 rw [List.range_succ,List.filter_append,List.length_append]
 by_cases h:(E k).k = 0
 ·simp [h]
 ·simp [h]
end Go.Proofs.YtgcpgidofikcdaaGreatDoor

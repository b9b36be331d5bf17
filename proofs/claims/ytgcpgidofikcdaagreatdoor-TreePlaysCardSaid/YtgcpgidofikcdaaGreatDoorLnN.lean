/-
  PLAIN: what a row names.
-/
import Derived.Test.YtgcpgidofikcdaaGreatDoorMid
set_option linter.unusedSimpArgs false
namespace Go.Proofs.YtgcpgidofikcdaaGreatDoor
open Go.RowKit Ev
def Nm (v:V) (k:Nat):Prop:=(∃ o l z,v = .sg k o l z) ∨ (∃ o l q,v = .sl k o l q)
theorem Ev.RdRow.nm_lt {st:St} {v:V} {z n:Nat} {l:List V} (h:RdRow st v z n l) {k:Nat} (hk:Nm v k):k < st.nx:=by
 rcases hk with ⟨o,l,z,e⟩ | ⟨o,l,q,e⟩
 ·exact h.lt_of.1 _ _ _ _ e
 ·exact h.lt_of.2 _ _ _ _ e
end Go.Proofs.YtgcpgidofikcdaaGreatDoor

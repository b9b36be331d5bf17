/-
  The law PathDots, walked.
-/
import Derived.Test.YtgcpgidofikcdaaGreatDoorPaX
import Derived.Test.YtgcpgidofikcdaaGreatDoorDrw
set_option linter.unusedSimpArgs false
namespace Go.Proofs.YtgcpgidofikcdaaGreatDoor
open Go.RowKit Ev
def Two (b:Nat) (st:St) (x y:V) (A B:List Tx):Prop:=OwnRow b st x 1 A.length (sv A) ∧ OwnRow b st y 1 B.length (sv B) ∧ ∀ m o l o' l',x = .sg m o l 1 → y ≠ .sg m o' l' 1
theorem Ev.OwnRow.keepIf {b:Nat} {st st':St} {x:V} {z n:Nat} {l:List V} (h:OwnRow b st x z n l) (hn:st.nx ≤ st'.nx) (k:∀ m,m < st.nx → (∃ o ln,x = .sg m o ln z) → st'.h.get m = st.h.get m):OwnRow b st' x z n l:=by
 obtain ⟨h1,h2⟩:=h
 refine ⟨h1,?_⟩
 rcases h2 with h2 | ⟨m,ty,t,e,h3,h4,h5,h6⟩
 ·exact .inl h2
 ·exact .inr ⟨m,ty,t,e,h3,Nat.lt_of_lt_of_le h4 hn,(k m h4 ⟨_,_,e⟩).trans h5,h6⟩
theorem Two.ext {b:Nat} {st st':St} {x y:V} {A B:List Tx} (h:Two b st x y A B) (k:Ext st.nx st st'):Two b st' x y A B:=⟨h.1.ext k,h.2.1.ext k,h.2.2⟩
end Go.Proofs.YtgcpgidofikcdaaGreatDoor

/-
  PLAIN: rows built of words; appends to them.
-/
import Derived.Test.YtgcpgidofikcdaaGreatDoorSb
set_option linter.unusedSimpArgs false
namespace Go.Proofs.YtgcpgidofikcdaaGreatDoor
open Go.RowKit Ev
def AppRow (b:Nat) (st:St) (x:V) (z n:Nat) (l:List V):Prop:=OwnRow b st x z n l ∨ (l.length = n * z ∧ ∃ m ty t,x = .sl m 0 n n ∧ b ≤ m ∧ m < st.nx ∧ st.h.get m = some (.cs ty (n * z) t) ∧ ty ≠ roT ∧ ∀ j v,l[j]? = some v → t.get j = some v)
theorem AppRow.rd {b:Nat} {st:St} {x:V} {z n:Nat} {l:List V} (h:AppRow b st x z n l):RdRow st x z n l:=by
 rcases h with h | ⟨h1,m,ty,t,rfl,_,h3,h4,_,h5⟩
 ·exact h.rd
 ·exact ⟨h1,.inr (.inl ⟨m,0,n,ty,_,t,rfl,h3,h4,by omega,fun j v hj => by rw [Nat.zero_add]; exact h5 j v hj⟩)⟩
theorem AppRow.ext {b:Nat} {st st':St} {x:V} {z n:Nat} {l:List V} (h:AppRow b st x z n l) (k:Ext st.nx st st'):AppRow b st' x z n l:=by
 rcases h with h | ⟨h1,m,ty,t,rfl,h2,h3,h4,h5⟩
 ·exact .inl (h.ext k)
 ·exact .inr ⟨h1,m,ty,t,rfl,h2,Nat.lt_of_lt_of_le h3 k.le,(k.keep _ h3).trans h4,h5⟩
theorem AppRow.from {b:Nat} {st:St} {x:V} {z n:Nat} {l:List V} (h:AppRow b st x z n l):RowFrom b x:=by
 rcases h with ⟨_,h | ⟨m,ty,t,rfl,h2,_⟩⟩ | ⟨_,m,ty,t,rfl,h2,_⟩
 ·obtain ⟨rfl,_⟩:=h
  exact ⟨fun _ _ _ _ e => (by cases e),fun _ _ _ _ e => by cases e⟩
 ·exact ⟨fun _ _ _ _ e => (by cases e; exact h2),fun _ _ _ _ e => by cases e⟩
 ·exact ⟨fun _ _ _ _ e => (by cases e),fun _ _ _ _ e => (by cases e; exact h2)⟩
theorem AppRow.built {b n:Nat} {st:St} {el:TypeId} {vs:List V} (hb:b ≤ st.nx) (hel:el ≠ roT) (hn:vs.length = n):AppRow b ⟨st.nx + 1,st.h.set st.nx (.cs el n (sets vs 0 .lf))⟩ (.sl st.nx 0 n n) 1 n vs:=by
 refine .inr ⟨by omega,st.nx,el,sets vs 0 .lf,rfl,hb,Nat.lt_succ_self _,by rw [Nat.mul_one]; exact T.get_set_same _ _ _,hel,fun j v hj => ?_⟩
 have:=lt_of_get hj
 rw [get_sets,if_pos ⟨Nat.zero_le _,by omega⟩]
 simpa using hj
theorem Gd_appendA {P:Program} {st:St} {b t t' el el' z n lx nt:Nat} {s x:V} {l new:List V} {Q:V × St → Prop} (hu:P.underlying t = some (.slice el)) (hk:P.underlying t' = some (.slice el')) (hi:infoOk P el z = true)
  (h:AppRow b st s z n l) (hb:b ≤ st.nx) (hel:el ≠ roT) (hx:∀ s',x ≠ .s s') (hl:∀ k:Nat → Res,lenA x k = k lx) (hf:∀ k:List V → Res,firsts ⟨false,[],0,nt⟩ st z lx x k = k new) (hn:new.length = lx * z) (hmax:n + lx ≤ 1073741824) (hpos:0 < lx)
  (hQ:∀ s' st',OwnRow b st' s' z (n + lx) (l ++ new) → Ext b st st' → Q (s',st')):Gd (builtinE P ⟨false,[],0,nt⟩ .append [t,t'] [s,x] st) Q:=by
 rcases h with h | ⟨h1,m,ty,tr,rfl,h2,h3,h4,h5,h6⟩
 ·exact Gd_append hu hk hi h hb hel hx hl hf hn hmax fun s' st' a b _ _ => hQ s' st' a b
 ·have hr:RdRow st (.sl m 0 n n) z n l:=⟨h1,.inr (.inl ⟨m,0,n,ty,_,tr,rfl,h3,h4,by omega,fun j v hj => by rw [Nat.zero_add]; exact h6 j v hj⟩)⟩
  have e1:builtinE P ⟨false,[],0,nt⟩ .append [t,t'] [.sl m 0 n n,x] st = appE ⟨false,[],0,nt⟩ st el z n lx (.sl m 0 n n) new:=by
   unfold builtinE
   simp only [elemOf_ok hu hi,lenA_sl,hk]
   cases x with
   | s s' => exact absurd rfl (hx s')
   | _ => simp only [hl,hf,infoOk_small hi hmax]
  rw [e1]
  unfold appE
  rw [fn_eq]
  have hble:Nat.ble (n + lx) n = false:=by
   cases h:Nat.ble (n + lx) n with
   | false => rfl
   | true => rw [Nat.ble_eq] at h; omega
  simp only [hble]
  unfold growE
  rw [hr.firsts,newC_is]
  have hlen:(l ++ new).length = (n + lx) * z:=by rw [List.length_append,h1,hn,Nat.add_mul]
  refine ⟨_,rfl,hQ _ _ ⟨hlen,.inr ⟨st.nx,el,sets (l ++ new) 0 .lf,rfl,hb,Nat.lt_succ_self _,?_,hel,fun j v hj => ?_⟩⟩ ((Ext.refl b st).new hb _)⟩
  ·rw [← hlen]; exact T.get_set_same _ _ _
  ·have:=lt_of_get hj
   rw [get_sets,if_pos ⟨Nat.zero_le _,by omega⟩]
   simpa using hj
end Go.Proofs.YtgcpgidofikcdaaGreatDoor

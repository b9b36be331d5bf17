/-
  Contracts of the document's own answer: cut, bad, Split, Last.
-/
import Derived.Test.YtgcpgidofikcdaaGreatDoorPaI
import Derived.Test.YtgcpgidofikcdaaGreatDoorRb
set_option maxRecDepth 20000
set_option maxHeartbeats 4000000
set_option linter.unusedSimpArgs false
namespace Go.Proofs.YtgcpgidofikcdaaGreatDoor
open Go.RowKit Ev
def addC (x:Nat) (L:List Tx):List Tx:=if x = 47 then L ++ [[]] else L.dropLast ++ [L.getLast?.getD [] ++ [x]]
theorem addC_cons (x:Nat) (p q:Tx) (L:List Tx):addC x (p :: q :: L) = p :: addC x (q :: L):=by
 unfold addC
 split
 ·rfl
 ·simp
theorem spl_snoc:∀ (l:Tx) (x:Nat),spl (l ++ [x]) = addC x (spl l)
 | [],x => by
  by_cases h:x = 47
  ·subst h; decide
  ·simp [spl,addC,h]
 | y :: l,x => by
  have ih:=spl_snoc l x
  by_cases hy:y = 47
  ·subst hy
   rw [List.cons_append,spl_slash,spl_slash,ih]
   cases hs:spl l with
   | nil => exact absurd hs (spl_ne l)
   | cons p ps => rw [addC_cons]
  ·rw [List.cons_append]
   cases hs:spl l with
   | nil => exact absurd hs (spl_ne l)
   | cons p ps =>
    rw [hs] at ih
    have e1:spl (y :: l) = (y :: p) :: ps:=by unfold spl; rw [if_neg hy,hs]
    rw [e1]
    cases ps with
    | nil =>
     by_cases hx:x = 47
     ·have:spl (l ++ [x]) = [p,[]]:=by rw [ih]; simp [addC,hx]
      unfold spl; rw [if_neg hy,this]; simp [addC,hx]
     ·have:spl (l ++ [x]) = [p ++ [x]]:=by rw [ih]; simp [addC,hx]
      unfold spl; rw [if_neg hy,this]; simp [addC,hx]
    | cons q qs =>
     rw [addC_cons] at ih ⊢
     unfold spl; rw [if_neg hy,ih]
theorem spl_take {s:Tx} {i b:Nat} (h:s[i]? = some b):spl (s.take (i + 1)) = addC b (spl (s.take i)):=by
 rw [List.take_add_one,h]
 exact spl_snoc _ _
theorem app_last {b:Nat} {st:St} {x:V} {K:List Tx} {q:Tx} (h:AppRow b st x 1 (K.length + 1) (sv (K ++ [q]))) :
  ∃ m ty t,((∀ {P:Program} {ty el:TypeId},P.underlying ty = some (.slice el) → infoOk P el 1 = true → ∀ k:V → Res,idxE P ty x K.length k = k (.p m K.length))) ∧ m < st.nx ∧ b ≤ m ∧ st.h.get m = some (.cs ty (K.length + 1) t) ∧ ty ≠ roT ∧ t.get K.length = some (.s q) ∧
   ∀ r,AppRow b ⟨st.nx,st.h.set m (.cs ty (K.length + 1) (sets [.s r] K.length t))⟩ x 1 (K.length + 1) (sv (K ++ [r])):=by
 have hlast:(sv (K ++ [q]))[K.length]? = some (.s q):=sv_get (by simp)
 have hcell:∀ (t:T V) (r:Tx),(∀ j v,(sv (K ++ [q]))[j]? = some v → t.get j = some v) → ∀ j v,(sv (K ++ [r]))[j]? = some v → (sets [.s r] K.length t).get j = some v:=fun t r ht j v hj => by
  obtain ⟨p,hp,rfl⟩:=sv_of hj
  rw [get_sets]
  rcases Nat.lt_or_ge j K.length with h1 | h1
  ·rw [if_neg (by omega)]
   rw [List.getElem?_append_left h1] at hp
   exact ht j _ (sv_get (by rw [List.getElem?_append_left h1]; exact hp))
  ·have hl:=lt_of_get hp
   simp at hl
   obtain rfl:j = K.length:=by omega
   rw [if_pos (by simp)]
   simp at hp
   subst hp
   simp
 rcases h with ⟨h1,⟨_,h2⟩ | ⟨m,ty,t,rfl,h2,h3,h4,h5,h6⟩⟩ | ⟨h1,m,ty,t,rfl,h2,h3,h4,h5,h6⟩
 ·omega
 ·rw [Nat.mul_one] at h4
  refine ⟨m,ty,t,fun {P ty el} hu hi k => ?_,h3,h2,h4,h5,h6 _ _ hlast,fun r => .inl ⟨by simp [sv],.inr ⟨m,ty,_,rfl,h2,h3,by rw [Nat.mul_one]; exact T.get_set_same _ _ _,h5,hcell t r h6⟩⟩⟩
  rw [idxE_sg hu (fun k => infoOk_sz hi k),if_pos (by omega)]
  simp
 ·rw [Nat.mul_one] at h4
  refine ⟨m,ty,t,fun {P ty el} hu hi k => ?_,h3,h2,h4,h5,h6 _ _ hlast,fun r => .inr ⟨by simp [sv],m,ty,_,rfl,h2,h3,by rw [Nat.mul_one]; exact T.get_set_same _ _ _,h5,hcell t r h6⟩⟩
  rw [idxE_sl hu (fun k => infoOk_sz hi k),if_pos (by omega)]
  simp
def cuI (st:St) (s:Tx) (e:Env) (s2:St):Prop:=∃ (i:Nat) (x:V),i ≤ s.length ∧ e.get 0 = some (.s s) ∧ e.get 3 = some x ∧ e.get 4 = some (.int .i64 (i:Int)) ∧ AppRow st.nx s2 x 1 (spl (s.take i)).length (sv (spl (s.take i))) ∧ Ext st.nx st s2
theorem cut_any (st:St) (s:Tx) (hl:s.length ≤ 1000) (nt:Nat) :
  Gd (callL Tryz.prog ⟨false,[],0,nt⟩ 192 [.s s] st) fun r => AppRow st.nx r.2 r.1 1 (spl s).length (sv (spl s)) ∧ Ext st.nx st r.2:=by
 rw [Gd_callL Tryz.func192 rfl]
 simp [evOp_call,sets,T.get_set]
 refine evOp_build1 (v:=.s []) (cs:=[.s []]) (fun k => el28 k) (fun k => ze9 k) rfl (by omega) rfl (fun k => rfl) rfl ?_
 simp [evOp_call,sets,T.get_set]
 refine Gd_loop (cuI st s) (fun en _ => muAt 4 s.length en) ?_ ?_
 ·exact ⟨0,_,Nat.zero_le _,by simp [T.get_set],by simp [T.get_set],by simp [T.get_set],AppRow.built (vs:=[.s []]) (n:=1) (Nat.le_refl _) (by decide) rfl,(Ext.refl _ _).new (Nat.le_refl _) _⟩
 ·rintro en sx ⟨i,x,hi,g0,g3,g4,hrow,hx⟩
  by_cases hlt:i < s.length
  ·have hlt':(i:Int) < (s.length:Int):=by omega
   have w1:IntKind.i64.wrap ((i:Int) + 1) = ((i + 1:Nat):Int):=by rw [show ((i:Int) + 1) = ((i + 1:Nat):Int) by omega]; exact wrap_in (by omega) (by omega)
   obtain ⟨b,hb⟩:∃ b,s[i]? = some b:=⟨_,List.getElem?_eq_getElem hlt⟩
   have hsp:=spl_take hb
   have hcnt:(spl (s.take i)).length ≤ s.length + 1:=by
    rw [spl_count]
    have:=List.count_le_length (a:=47) (l:=s.take i)
    rw [List.length_take] at this
    omega
   by_cases h47:b = 47
   ·have h47':(b:Int) = 47:=by omega
    have e1:spl (s.take (i + 1)) = spl (s.take i) ++ [[]]:=by rw [hsp]; unfold addC; rw [if_pos h47]
    simp [evOp_call,T.get_set,g0,g3,g4,len_str un9,hlt',indexK_str un9 s i b hb,h47']
    refine evOp_build1 (v:=.s []) (cs:=[.s []]) (fun k => el28 k) (fun k => ze9 k) rfl (by omega) rfl (fun k => rfl) rfl ?_
    simp [evOp_call,T.get_set,g0,g3,g4]
    refine Gd_appendA un28 un28 io9 (lx:=1) (new:=[.s []]) (hrow.ext ((Ext.refl _ _).new (Nat.le_refl _) _)) (by show st.nx ≤ sx.nx + 1; have:=hx.le; omega) (by decide) (fun s' h => by cases h) (fun k => rfl) (fun k => by simp [getC_eq,getsB_1,T.get_set,sets]) rfl (by omega) (by omega) ?_
    intro z sy hz2 hx2
    simp [evOp_call,T.get_set,g0,g3,g4,w1]
    refine ⟨⟨i + 1,z,hlt,by simp [T.get_set,g0],by simp [T.get_set],by simp [T.get_set],?_,(hx.new (by have:=hx.le; omega) _).trans hx2⟩,muAt_lt g4 (by simp [T.get_set]) hlt⟩
    rw [e1]
    left
    simpa [sv] using hz2
   ·have h47':¬ (b:Int) = 47:=by omega
    obtain ⟨K,q,hK⟩:∃ K q,spl (s.take i) = K ++ [q]:=by
     rcases List.eq_nil_or_concat (spl (s.take i)) with h | ⟨K,q,h⟩
     ·exact absurd h (spl_ne _)
     ·exact ⟨K,q,by rw [h,List.concat_eq_append]⟩
    have e1:spl (s.take (i + 1)) = K ++ [q ++ [b]]:=by rw [hsp]; unfold addC; rw [if_neg h47,hK]; simp
    rw [hK] at hrow
    have hKl:(K ++ [q]).length = K.length + 1:=by simp
    rw [hKl] at hrow
    have hKc:K.length ≤ s.length:=by rw [hK,hKl] at hcnt; omega
    have hql:q.length ≤ s.length:=by
     have h1:=spl_size (s.take i)
     rw [hK,List.length_take] at h1
     simp at h1
     omega
    obtain ⟨m,ty,t,hid,hm,hbm,hg,hro,ht,hupd⟩:=app_last hrow
    have hlen:=hrow.rd.lenS
    have w2:IntKind.i64.wrap (((K.length + 1:Nat):Int) - 1) = (K.length:Int):=by rw [show ((K.length + 1:Nat):Int) - 1 = (K.length:Int) by omega]; exact wrap_in (by omega) (by omega)
    simp [evOp_call,T.get_set,g0,g3,g4,len_str un9,hlt',indexK_str un9 s i b hb,h47',hlen]
    refine ⟨by kernel_rfl,?_⟩
    have hid2:=fun k => hid un28 io9 k
    have w3:IntKind.i64.wrap ((K.length:Int) + 1 - 1) = (K.length:Int):=by rw [show (K.length:Int) + 1 - 1 = (K.length:Int) by omega]; exact wrap_in (by omega) (by omega)
    have w4:IntKind.i64.wrap (K.length:Int) = (K.length:Int):=wrap_in (by omega) (by omega)
    simp [evOp_call,T.get_set,g0,g3,g4,hlen,w1,w4,hid2,loadE_eq,getC_eq,hg,ht]
    refine Gd_strMid (k:=i) (m:=i + 1) (i:=.i64) (j:=.i64) un9 (by simp [T.get_set]) (by simp [T.get_set,w1]) (by omega) (by omega) ?_
    have hmid:(s.take (i + 1)).drop i = [b]:=by
     rw [List.take_add_one,hb,List.drop_append_of_le_length (by simp; omega),List.drop_of_length_le (by simp; omega)]
     rfl
    have w5:q.length + [b].length ≤ 1073741824:=by simp; omega
    simp [evOp_call,T.get_set,g0,g3,g4,hlen,w1,w4,hid2,loadE_eq,getC_eq,hg,ht,hmid,bin_sadd _ _ w5]
    rw [cxOf_store (by kernel_rfl)]
    have hc:K.length + ([V.s (q ++ [b])]:List V).length ≤ K.length + 1 ∧ ty ≠ roT ∧ 0 ≤ m:=⟨by simp,hro,Nat.zero_le _⟩
    simp [putB_eq,hg,hro]
    simp [evOp_call,T.get_set,g0,g3,g4,w1]
    refine ⟨⟨i + 1,x,hlt,by simp [T.get_set,g0],by simp [T.get_set,g3],by simp [T.get_set],?_,hx.set hbm hm _⟩,muAt_lt g4 (by simp [T.get_set]) hlt⟩
    rw [e1]
    have:=hupd (q ++ [b])
    simpa [sv] using this
  ·obtain rfl:i = s.length:=by omega
   rw [List.take_length] at hrow
   simp [evOp_call,T.get_set,g0,g3,g4,len_str un9]
   exact ⟨hrow,hx⟩
def baI (st:St) (s:Tx) (e:Env) (s2:St):Prop:=∃ i:Nat,i ≤ s.length ∧ e.get 0 = some (.s s) ∧ e.get 3 = some (.int .i64 (i:Int)) ∧ 0 ∉ s.take i ∧ s2 = st
theorem bad_any (st:St) (s:Tx) (hl:s.length ≤ 1000) (nt:Nat) :
  Gd (callL Tryz.prog ⟨false,[],0,nt⟩ 193 [.s s] st) fun r => r = (.bool (decide (badT s)),st):=by
 rw [Gd_callL Tryz.func193 rfl]
 simp [evOp_call,sets,T.get_set]
 refine Gd_loop (baI st s) (fun en _ => muAt 3 s.length en) ?_ ?_
 ·exact ⟨0,Nat.zero_le _,by simp [T.get_set],by simp [T.get_set],by simp,rfl⟩
 ·rintro en sx ⟨i,hi,g0,g3,hno,rfl⟩
  by_cases hlt:i < s.length
  ·have hlt':(i:Int) < (s.length:Int):=by omega
   have w1:IntKind.i64.wrap ((i:Int) + 1) = ((i + 1:Nat):Int):=by rw [show ((i:Int) + 1) = ((i + 1:Nat):Int) by omega]; exact wrap_in (by omega) (by omega)
   obtain ⟨b,hb⟩:∃ b,s[i]? = some b:=⟨_,List.getElem?_eq_getElem hlt⟩
   by_cases h0:b = 0
   ·subst h0
    have:badT s:=.inr (List.mem_of_getElem? hb)
    simp [evOp_call,T.get_set,g0,g3,len_str un9,hlt',indexK_str un9 s i 0 hb,this]
   ·have h0':¬ (b:Int) = 0:=by omega
    simp [evOp_call,T.get_set,g0,g3,len_str un9,hlt',indexK_str un9 s i b hb,h0',h0,w1]
    refine ⟨⟨i + 1,hlt,by simp [T.get_set,g0],by simp [T.get_set],?_,rfl⟩,muAt_lt g3 (by simp [T.get_set]) hlt⟩
    rw [List.take_add_one,hb]
    intro h
    rcases List.mem_append.1 h with h | h
    ·exact hno h
    ·simp at h; exact h0 h.symm
  ·obtain rfl:i = s.length:=by omega
   rw [List.take_length] at hno
   have:badT s ↔ 40 < s.length:=⟨fun h => h.resolve_right hno,.inl⟩
   simp [evOp_call,T.get_set,g0,g3,len_str un9,this]
   omega
end Go.Proofs.YtgcpgidofikcdaaGreatDoor

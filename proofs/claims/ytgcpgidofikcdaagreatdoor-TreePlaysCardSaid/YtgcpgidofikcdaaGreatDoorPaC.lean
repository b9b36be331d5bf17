/-
  Contracts of package path: Split, Name.
-/
import Derived.Test.YtgcpgidofikcdaaGreatDoorPaB
set_option maxRecDepth 20000
set_option maxHeartbeats 2000000
set_option linter.unusedSimpArgs false
namespace Go.Proofs.YtgcpgidofikcdaaGreatDoor
open Go.RowKit Ev
theorem keep_dec (p:Tx):keepT p = (!decide (p = []) && !decide (p = [46])):=rfl
theorem par_take {L:List Tx} {i:Nat} {p:Tx} (h:L[i]? = some p):(L.take (i + 1)).filter keepT = (L.take i).filter keepT ++ (if keepT p then [p] else []):=by
 rw [List.take_add_one,h,List.filter_append]
 congr 1
 simp [List.filter_cons]
theorem sv_app (L K:List Tx):sv (L ++ K) = sv L ++ sv K:=by simp [sv]
theorem own_mono {b c:Nat} {st:St} {x:V} {z n:Nat} {l:List V} (h:OwnRow b st x z n l) (k:c ≤ b):OwnRow c st x z n l:=by
 obtain ⟨h1,h2⟩:=h
 refine ⟨h1,?_⟩
 rcases h2 with h2 | ⟨m,ty,t,e,h3,h4⟩
 ·exact .inl h2
 ·exact .inr ⟨m,ty,t,e,by omega,h4⟩
def psI (s1:St) (y:V) (L:List Tx) (e:Env) (s:St):Prop:=∃ (i:Nat) (x:V),i ≤ L.length ∧ e.get 13 = some y ∧ e.get 14 = some (.int .i64 (L.length:Int)) ∧ e.get 15 = some (.int .i64 (i:Int)) ∧ e.get 4 = some x ∧
 OwnRow s1.nx s x 1 ((L.take i).filter keepT).length (sv ((L.take i).filter keepT)) ∧ (∀ p ∈ L.take i,¬ badT p) ∧ Ext s1.nx s1 s
def pErr (s:Tx):List Tx:=if errS s = 0 then parS s else []
theorem psplit_any (st:St) (s:Tx) (hs:okS s) (nt:Nat) :
  Gd (callL Tryz.prog ⟨false,[],0,nt⟩ 178 [.s s] st) fun r => ∃ x,r.1 = .t [x,.int .i64 (errS s)] ∧ OwnRow st.nx r.2 x 1 (pErr s).length (sv (pErr s)) ∧ Ext st.nx st r.2:=by
 rw [Gd_callL Tryz.func178 rfl]
 have hnil:∀ s2:St,OwnRow st.nx s2 (.c (.slice none 0 0)) 1 0 (sv []):=fun s2 => ⟨rfl,.inl ⟨rfl,rfl⟩⟩
 by_cases h0:s = []
 ·subst h0
  simp [evOp_call,sets,T.get_set]
  exact ⟨_,⟨rfl,by simp [errS]⟩,by simpa [pErr,errS] using hnil st,Ext.refl _ _⟩
 ·by_cases h4:(400:Int) < (s.length:Int)
  ·have he:errS s = 8:=by unfold errS; rw [if_neg h0,if_pos (by omega)]
   simp [evOp_call,sets,T.get_set,len_str un9,h0,h4]
   exact ⟨_,⟨rfl,he.symm⟩,by simpa [pErr,he] using hnil st,Ext.refl _ _⟩
  ·simp [evOp_call,sets,T.get_set,len_str un9,h0,h4]
   refine Gd.mono (split_any st s hs (by omega) _) ?_
   rintro ⟨y,s1⟩ ⟨hy,⟨m0,hy0⟩,x1⟩
   simp only at hy hy0 x1
   simp [evOp_call,sets,T.get_set,hy.lenS]
   have hN:=spl_size s
   have hNc:=spl_count s
   have hcl:s.count 47 ≤ s.length:=List.count_le_length
   refine Gd_loop (psI s1 y (spl s)) (fun en _ => muAt 15 (spl s).length en) ?_ ?_
   ·exact ⟨0,_,Nat.zero_le _,by simp [T.get_set],by simp [T.get_set],by simp [T.get_set],by simp [T.get_set],⟨rfl,.inl ⟨rfl,rfl⟩⟩,fun p hp => by simp at hp,Ext.refl _ _⟩
   ·rintro en sx ⟨i,x,hi,g13,g14,g15,g4,hrow,hbad,hx⟩
    by_cases hlt:i < (spl s).length
    ·have hlt':(i:Int) < ((spl s).length:Int):=by omega
     have w1:IntKind.i64.wrap ((i:Int) + 1) = ((i + 1:Nat):Int):=by rw [show ((i:Int) + 1) = ((i + 1:Nat):Int) by omega]; exact wrap_in (by omega) (by omega)
     obtain ⟨p,hp⟩:∃ p,(spl s)[i]? = some p:=⟨_,List.getElem?_eq_getElem hlt⟩
     have hpm:=List.mem_of_getElem? hp
     have hpo:okS p:=fun b hb => hs b (spl_elem s p hpm b hb)
     obtain ⟨m,o,ty,sz,tr,hid,hm,hg,ho,hc⟩:=(hy.ext hx).idx (st:=sx) un28 io9 hlt
     have t0:tr.get o = some (.s p):=hc 0 _ (by omega) (by simpa using sv_get hp)
     have xx:Ext st.nx st sx:=x1.trans (hx.mono x1.le)
     simp [evOp_call,T.get_set,g13,g14,g15,g4,hlt',hid,loadE_eq,getC_eq,hg,t0,len_str un9]
     by_cases hl:(40:Int) < (p.length:Int)
     ·have he:errS s = 8:=by
       unfold errS
       rw [if_neg h0,if_neg (by omega),if_pos ⟨p,hpm,.inl (by omega)⟩]
      simp [evOp_call,T.get_set,g13,g14,g15,g4,hl]
      exact ⟨_,⟨rfl,he.symm⟩,by simpa [pErr,he] using hnil sx,xx⟩
     ·simp [evOp_call,T.get_set,g13,g14,g15,g4,hl]
      refine Gd.mono (has_any _ sx p hpo 0 (by omega)) ?_
      rintro _ rfl
      by_cases hz:0 ∈ p
      ·have he:errS s = 8:=by
        unfold errS
        rw [if_neg h0,if_neg (by omega),if_pos ⟨p,hpm,.inr hz⟩]
       simp [evOp_call,T.get_set,g13,g14,g15,g4,hz]
       exact ⟨_,⟨rfl,he.symm⟩,by simpa [pErr,he] using hnil sx,xx⟩
      ·have hgood:∀ q ∈ (spl s).take (i + 1),¬ badT q:=fun q hq => by
        rw [List.take_add_one,hp] at hq
        rcases List.mem_append.1 hq with hq | hq
        ·exact hbad q hq
        ·simp at hq; subst hq; unfold badT; rintro (h | h)
         ·omega
         ·exact hz h
       have hpt:=par_take hp
       by_cases k1:p = []
       ·have hk:keepT p = false:=by rw [keep_dec]; simp [k1]
        simp [evOp_call,T.get_set,g13,g14,g15,g4,hz,k1,w1]
        rw [hk] at hpt
        simp at hpt
        exact ⟨⟨i + 1,x,hlt,by simp [T.get_set,g13],by simp [T.get_set,g14],by simp [T.get_set],by simp [T.get_set,g4],by rw [hpt]; exact hrow,hgood,hx⟩,muAt_lt g15 (by simp [T.get_set]) hlt⟩
       ·by_cases k2:p = [46]
        ·have hk:keepT p = false:=by rw [keep_dec]; simp [k2]
         simp [evOp_call,T.get_set,g13,g14,g15,g4,hz,k1,k2,w1]
         rw [hk] at hpt
         simp at hpt
         exact ⟨⟨i + 1,x,hlt,by simp [T.get_set,g13],by simp [T.get_set,g14],by simp [T.get_set],by simp [T.get_set,g4],by rw [hpt]; exact hrow,hgood,hx⟩,muAt_lt g15 (by simp [T.get_set]) hlt⟩
        ·have hk:keepT p = true:=by rw [keep_dec]; simp [k1,k2]
         simp [evOp_call,T.get_set,g13,g14,g15,g4,hz,k1,k2,w1]
         rw [hk] at hpt
         simp at hpt
         refine evOp_build1 (v:=.s p) (cs:=[.s p]) (fun k => el28 k) (fun k => ze9 k) rfl (by omega) (by simp [T.get_set]) (fun k => rfl) rfl ?_
         simp [evOp_call,T.get_set,g13,g14,g15,g4]
         have hlen2:((spl s).take i |>.filter keepT).length ≤ (spl s).length:=Nat.le_trans (List.length_filter_le _ _) (by rw [List.length_take]; omega)
         refine Gd_append un28 un28 io9 (lx:=1) (new:=[.s p]) (hrow.ext ((Ext.refl _ _).new (Nat.le_refl _) _)) (by show s1.nx ≤ sx.nx + 1; have:=hx.le; omega) (by decide) (fun s' h => by cases h) (fun k => rfl) (fun k => by simp [getC_eq,getsB_1,T.get_set,sets]) rfl (by omega) ?_
         intro z sy hz2 hx2 _ _
         simp [evOp_call,T.get_set,g15,w1]
         have hx3:Ext s1.nx s1 sy:=(hx.new (by have:=hx.le; omega) _).trans hx2
         refine ⟨⟨i + 1,z,hlt,by simp [T.get_set,g13],by simp [T.get_set,g14],by simp [T.get_set],by simp [T.get_set],?_,hgood,hx3⟩,muAt_lt g15 (by simp [T.get_set]) hlt⟩
         rw [hpt,sv_app,show sv [p] = [V.s p] from rfl]
         simpa using hz2
    ·obtain rfl:i = (spl s).length:=by omega
     rw [List.take_length] at hrow hbad
     have he:errS s = 0:=errS_of h0 (by omega) hbad
     simp [evOp_call,T.get_set,g13,g14,g15,g4]
     refine ⟨x,⟨rfl,he.symm⟩,?_,x1.trans (hx.mono x1.le)⟩
     unfold pErr
     rw [if_pos he]
     exact own_mono hrow x1.le
end Go.Proofs.YtgcpgidofikcdaaGreatDoor

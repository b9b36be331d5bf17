/-
  Contracts of the document's own answer: Last, Clean.
-/
import Derived.Test.YtgcpgidofikcdaaGreatDoorPaK
set_option maxRecDepth 20000
set_option maxHeartbeats 4000000
set_option linter.unusedSimpArgs false
namespace Go.Proofs.YtgcpgidofikcdaaGreatDoor
open Go.RowKit Ev
theorem own_cap {b:Nat} {st:St} {x:V} {z n:Nat} {l:List V} (h:OwnRow b st x z n l):CapOk x:=by
 obtain ⟨_,h2⟩:=h
 rcases h2 with ⟨rfl,_⟩ | ⟨m,ty,t,rfl,_⟩
 ·exact fun _ _ _ _ e => by cases e
 ·exact fun _ _ _ _ e => by cases e
theorem rlast_any (st:St) (s:Tx) (nt:Nat) :
  Gd (callL Tryz.prog ⟨false,[],0,nt⟩ 134 [.s s] st) fun r => ∃ x,r.1 = .t [x,.s (lastN s),.int .i64 (lastE s)] ∧ RdRow r.2 x 1 (lastD s).length (sv (lastD s)) ∧ Ext st.nx st r.2:=by
 rw [Gd_callL Tryz.func134 rfl]
 have hnil:∀ s2:St,RdRow s2 (.c (.slice none 0 0)) 1 0 (sv []):=fun s2 => ⟨rfl,.inl ⟨.inl rfl,rfl⟩⟩
 simp [evOp_call,sets,T.get_set]
 refine Gd.mono (rsplit_any st s _) ?_
 rintro ⟨r,s1⟩ ⟨y,hr,hy0,x1⟩
 simp only at hr hy0 x1
 subst hr
 by_cases he:errS s = 0
 case neg =>
  have e1:lastE s = errS s:=by unfold lastE; rw [if_pos he]
  have e2:lastD s = []:=by unfold lastD; rw [if_neg (by rw [e1]; exact he)]
  have e3:lastN s = []:=by unfold lastN; rw [if_neg (by rw [e1]; exact he)]
  simp [evOp_call,sets,T.get_set,tupK,he]
  exact ⟨_,⟨rfl,e3,e1.symm⟩,by rw [e2]; exact hnil s1,x1⟩
 have hp:pErr s = parS s:=by unfold pErr; rw [if_pos he]
 rw [hp] at hy0
 have hy:=hy0.rd
 have hcap:=own_cap hy0
 have hpl:=par_len s
 have hsl:=(errS_zero he).2.1
 have bad:lastBad s → lastE s = 1 ∧ lastD s = [] ∧ lastN s = []:=fun h => by
  have e1:lastE s = 1:=by unfold lastE; rw [if_neg (by simpa using he),if_pos h]
  exact ⟨e1,by unfold lastD; rw [if_neg (by rw [e1]; decide)],by unfold lastN; rw [if_neg (by rw [e1]; decide)]⟩
 by_cases h0:parS s = []
 ·obtain ⟨e1,e2,e3⟩:=bad (.inl h0)
  simp [evOp_call,sets,T.get_set,tupK,he,hy.lenS,h0]
  exact ⟨_,⟨rfl,e3,e1.symm⟩,by rw [e2]; exact hnil s1,x1⟩
 ·have hlp:0 < (parS s).length:=List.length_pos_iff.2 h0
  obtain ⟨k,hk⟩:∃ k,k + 1 = (parS s).length:=⟨_,Nat.sub_add_cancel hlp⟩
  have w1:IntKind.i64.wrap (((parS s).length:Int) - 1) = (k:Int):=by rw [show ((parS s).length:Int) - 1 = (k:Int) by omega]; exact wrap_in (by omega) (by omega)
  have hn0:¬ ((parS s).length:Int) = 0:=by omega
  obtain ⟨p,hp⟩:∃ p,(parS s)[k]? = some p:=⟨_,List.getElem?_eq_getElem (by omega)⟩
  have hgl:(parS s).getLast? = some p:=by rw [List.getLast?_eq_getElem?,show (parS s).length - 1 = k by omega,hp]
  obtain ⟨m,o,ty,sz,tr,hid,hm,hg,ho,hc⟩:=hy.idx (st:=s1) un28 io9 (i:=k) (by omega)
  have t0:tr.get o = some (.s p):=hc 0 _ (by omega) (by simpa using sv_get hp)
  by_cases h1:p = [46,46]
  ·obtain ⟨e1,e2,e3⟩:=bad (.inr (.inl (by rw [hgl,h1])))
   simp [evOp_call,sets,T.get_set,tupK,he,hy.lenS,w1,h0,hn0,hid,loadE_eq,getC_eq,hg,t0,h1]
   exact ⟨_,⟨rfl,e3,e1.symm⟩,by rw [e2]; exact hnil s1,x1⟩
  ·by_cases h2:s = [46]
   ·exact absurd (by rw [h2]; decide) h0
   ·have good:¬ suf s → lastE s = 0 ∧ lastD s = (parS s).take k ∧ lastN s = p:=fun h3 => by
     have hnb:¬ lastBad s:=by
      rintro (h | h | h | h)
      ·exact h0 h
      ·rw [hgl] at h; injection h with h; exact h1 h
      ·exact h2 h
      ·exact h3 h
     have e1:lastE s = 0:=by unfold lastE; rw [if_neg (by simpa using he),if_neg hnb]
     exact ⟨e1,by unfold lastD; rw [if_pos e1,List.dropLast_eq_take,show (parS s).length - 1 = k by omega],by unfold lastN; rw [if_pos e1,hgl]; rfl⟩
    have fin:¬ suf s → ∃ x',(∀ (e:Env) (o:Operand) (i:IntKind),opv e o = some (.int i (k:Int)) → ∀ kk:V → Res,sliceE Tryz.prog e 28 y none (some o) kk = kk x') ∧ RdRow s1 x' 1 (lastD s).length (sv (lastD s)):=fun h3 => by
     obtain ⟨x',k1,k2⟩:=row_hi k un28 io9 hy hcap hlp (by omega)
     rw [sv_take] at k2
     rw [(good h3).2.1]
     have:((parS s).take k).length = k:=by rw [List.length_take]; omega
     rw [this]
     exact ⟨x',k1,k2⟩
    by_cases hl2:(2:Int) ≤ (s.length:Int)
    ·obtain ⟨j,hj⟩:∃ j,j = s.length - 2:=⟨_,rfl⟩
     have w2:IntKind.i64.wrap ((s.length:Int) - 2) = (j:Int):=by rw [show (s.length:Int) - 2 = (j:Int) by omega]; exact wrap_in (by omega) (by omega)
     simp [evOp_call,sets,T.get_set,tupK,he,hy.lenS,w1,h0,hn0,hid,loadE_eq,getC_eq,hg,t0,h1,h2,len_str un9,hl2,w2]
     refine Gd_strLo (k:=j) (i:=.i64) un9 (by simp [T.get_set,w2]) (by omega) ?_
     by_cases h3:s.drop j = [47,46]
     ·obtain ⟨e1,e2,e3⟩:=bad (.inr (.inr (.inr ⟨by omega,by rw [← hj]; exact h3⟩)))
      simp [evOp_call,sets,T.get_set,h3]
      exact ⟨_,⟨rfl,e3,e1.symm⟩,by rw [e2]; exact hnil s1,x1⟩
     ·have hns:¬ suf s:=fun h => h3 (by rw [hj]; exact h.2)
      obtain ⟨e1,e2,e3⟩:=good hns
      obtain ⟨x',k1,k2⟩:=fin hns
      simp [evOp_call,sets,T.get_set,h3]
      refine ⟨by kernel_rfl,?_⟩
      unfold sliceK
      rw [k1 _ _ .i64 (by simp [T.get_set,w1])]
      simp [evOp_call,sets,T.get_set,w1,hid,loadE_eq,getC_eq,hg,t0]
      exact ⟨x',⟨rfl,e3.symm,e1.symm⟩,k2,x1⟩
    ·have hns:¬ suf s:=fun h => hl2 (by have:=h.1; omega)
     obtain ⟨e1,e2,e3⟩:=good hns
     obtain ⟨x',k1,k2⟩:=fin hns
     simp [evOp_call,sets,T.get_set,tupK,he,hy.lenS,w1,h0,hn0,hid,loadE_eq,getC_eq,hg,t0,h1,h2,len_str un9,hl2]
     refine ⟨by kernel_rfl,?_⟩
     unfold sliceK
     rw [k1 _ _ .i64 (by simp [T.get_set,w1])]
     simp [evOp_call,sets,T.get_set,w1,hid,loadE_eq,getC_eq,hg,t0]
     exact ⟨x',⟨rfl,e3.symm,e1.symm⟩,k2,x1⟩
end Go.Proofs.YtgcpgidofikcdaaGreatDoor

/-
  Contracts: path.Last.
-/
import Derived.Test.YtgcpgidofikcdaaGreatDoorPaC
set_option maxRecDepth 20000
set_option maxHeartbeats 4000000
set_option linter.unusedSimpArgs false
namespace Go.Proofs.YtgcpgidofikcdaaGreatDoor
open Go.RowKit Ev
theorem par_len (s:Tx):(parS s).length ≤ s.length + 1:=by
 unfold parS
 have:=List.length_filter_le keepT (spl s)
 have h2:=spl_count s
 have h3:s.count 47 ≤ s.length:=List.count_le_length
 omega
def yv (l:Tx):List V:=l.map fun (b:Nat) => V.int .u8 (b:Int)
@[simp] theorem yv_length (a:Tx):(yv a).length = a.length:=by simp [yv]
@[simp] theorem evOp_slice3 {P:Program} {F:CallF} {c:Cx} {e:Env} {st:St} (d:Option Nat) (ty:TypeId) (p:String) (af:Array Edge) (g:Option (Nat × Bool)) (t:TypeId) (x mx:Operand) (lo hi:Option Operand):evOp P F c e st ⟨d,.slice t x lo hi (some mx),ty,p,af,g⟩ = opd e x fun v => slice3E P e t v lo hi mx fun a => some (a,st):=rfl
theorem slice3_sg {P:Program} {e:Env} {t el:TypeId} (hu:P.underlying t = some (.slice el)) (hi:infoOk P el 1 = true) {x y:Operand} {k:Nat} {i j:IntKind} (hv:opv e x = some (.int i (k:Int))) (hw:opv e y = some (.int j (k:Int))) (m n:Nat) (hk:k ≤ n) (kk:V → Res) :
  slice3E P e t (.sg m 0 n 1) none (some x) y kk = kk (.sl m 0 k k):=by
 unfold slice3E
 rw [hu]
 simp only [infoOk_sz hi]
 rw [bnd_at hw,bnd_at hv]
 have h2:∀ f:Nat → Res,bnd e 0 none f = f 0:=fun f => rfl
 rw [h2]
 have b1:Nat.ble 0 k = true:=by rw [Nat.ble_eq]; omega
 have b2:Nat.ble k k = true:=by rw [Nat.ble_eq]; exact Nat.le_refl _
 have b3:Nat.ble k n = true:=by rw [Nat.ble_eq]; exact hk
 have b4:Nat.beq 1 1 = true:=rfl
 simp only [b1,b2,b3,b4,fn_eq]
 cases Nat.beq k 0 <;> simp
def suf (s:Tx):Prop:=2 ≤ s.length ∧ s.drop (s.length - 2) = [47,46]
instance (s:Tx):Decidable (suf s):=by unfold suf; infer_instance
theorem suffix_any (c:Cx) (st:St) (s:Tx) (hl:s.length ≤ 1000000):Gd (callL Tryz.prog c 181 [.s s,.s [47,46]] st) fun r => r = (.bool (decide (suf s)),st):=by
 rw [Gd_callL Tryz.func181 rfl]
 simp [evOp_call,sets,T.get_set]
 rw [Gd_callL Tryz.func232 rfl]
 by_cases h:2 ≤ s.length
 ·have h':(2:Int) ≤ (s.length:Int):=by omega
  obtain ⟨k,hk⟩:∃ k,k = s.length - 2:=⟨_,rfl⟩
  have w1:IntKind.i64.wrap ((s.length:Int) - 2) = (k:Int):=by rw [show (s.length:Int) - 2 = (k:Int) by omega]; exact wrap_in (by omega) (by omega)
  have hd:decide (suf s) = decide (s.drop k = [47,46]):=by unfold suf; simp [h,hk]
  rw [hd]
  simp [evOp_call,sets,T.get_set,len_str un9,h,h',w1]
  refine Gd_strLo (k:=k) (i:=.i64) un9 (by simp [T.get_set,w1]) (by omega) ?_
  simp [evOp_call,sets,T.get_set]
 ·have h':¬ (2:Int) ≤ (s.length:Int):=by omega
  have hd:decide (suf s) = false:=by unfold suf; simp [h]
  rw [hd]
  simp [evOp_call,sets,T.get_set,len_str un9,h,h']
def lastBad (s:Tx):Prop:=parS s = [] ∨ (parS s).getLast? = some [46,46] ∨ s = [46] ∨ suf s
instance (s:Tx):Decidable (lastBad s):=by unfold lastBad; infer_instance
def lastE (s:Tx):Int:=if errS s ≠ 0 then errS s else if lastBad s then 1 else 0
def lastD (s:Tx):List Tx:=if lastE s = 0 then (parS s).dropLast else []
def lastN (s:Tx):Tx:=if lastE s = 0 then (parS s).getLast?.getD [] else []
theorem last_any (st:St) (s:Tx) (hs:okS s) (nt:Nat) :
  Gd (callL Tryz.prog ⟨false,[],0,nt⟩ 112 [.s s] st) fun r => ∃ x,r.1 = .t [x,.s (lastN s),.int .i64 (lastE s)] ∧ RdRow r.2 x 1 (lastD s).length (sv (lastD s)) ∧ RowFrom st.nx x ∧ CapOk x ∧ Ext st.nx st r.2:=by
 rw [Gd_callL Tryz.func112 rfl]
 have hnil:∀ s2:St,RdRow s2 (.c (.slice none 0 0)) 1 0 (sv []) ∧ RowFrom st.nx (.c (.slice none 0 0)) ∧ CapOk (.c (.slice none 0 0)):=fun s2 => ⟨⟨rfl,.inl ⟨.inl rfl,rfl⟩⟩,⟨(fun _ _ _ _ e => nomatch e),(fun _ _ _ _ e => nomatch e)⟩,(fun _ _ _ _ e => nomatch e)⟩
 simp [evOp_call,sets,T.get_set]
 refine Gd.mono (psplit_any st s hs _) ?_
 rintro ⟨r,s1⟩ ⟨y,hr,hy,x1⟩
 simp only at hr hy x1
 subst hr
 by_cases he:errS s = 0
 case neg =>
  have e1:lastE s = errS s:=by unfold lastE; rw [if_pos he]
  have e2:lastD s = []:=by unfold lastD; rw [if_neg (by rw [e1]; exact he)]
  have e3:lastN s = []:=by unfold lastN; rw [if_neg (by rw [e1]; exact he)]
  simp [evOp_call,sets,T.get_set,tupK,he]
  obtain ⟨h1,h2,h3⟩:=hnil s1
  exact ⟨_,⟨rfl,e3,e1.symm⟩,by rw [e2]; exact h1,h2,h3,x1⟩
 have hp:pErr s = parS s:=by unfold pErr; rw [if_pos he]
 rw [hp] at hy
 have hyr:=hy.rd
 have hpl:=par_len s
 have hsl:=(errS_zero he).2.1
 have bad:lastBad s → lastE s = 1 ∧ lastD s = [] ∧ lastN s = []:=fun h => by
  have e1:lastE s = 1:=by unfold lastE; rw [if_neg (by simpa using he),if_pos h]
  exact ⟨e1,by unfold lastD; rw [e1]; rfl,by unfold lastN; rw [e1]; rfl⟩
 by_cases h0:parS s = []
 ·obtain ⟨e1,e2,e3⟩:=bad (.inl h0)
  have w1:IntKind.i64.wrap (-1) = -1:=rfl
  rw [h0] at hyr
  simp [evOp_call,sets,T.get_set,tupK,he,hyr.lenS,w1]
  obtain ⟨h1,h2,h3⟩:=hnil s1
  exact ⟨_,⟨rfl,e3,e1.symm⟩,by rw [e2]; exact h1,h2,h3,x1⟩
 ·have hlp:=List.length_pos_iff.2 h0
  obtain ⟨k,hk⟩:∃ k,k + 1 = (parS s).length:=⟨_,Nat.sub_add_cancel hlp⟩
  have w1:IntKind.i64.wrap (((parS s).length:Int) - 1) = (k:Int):=by rw [show ((parS s).length:Int) - 1 = (k:Int) by omega]; exact wrap_in (by omega) (by omega)
  have hk0:¬ (k:Int) < 0:=by omega
  obtain ⟨p,hp⟩:∃ p,(parS s)[k]? = some p:=⟨_,List.getElem?_eq_getElem (by omega)⟩
  have hgl:(parS s).getLast? = some p:=by rw [List.getLast?_eq_getElem?,show (parS s).length - 1 = k by omega]; exact hp
  rcases hy.2 with ⟨_,hn⟩ | ⟨m,ty,tr,rfl,hm1,hm2,hm3,hm4,hm5⟩
  ·omega
  have hkl:k < (parS s).length:=by omega
  have t0:tr.get k = some (.s p):=hm5 k _ (sv_get hp)
  by_cases h1:p = [46,46]
  ·obtain ⟨e1,e2,e3⟩:=bad (.inr (.inl (by rw [hgl,h1])))
   simp [evOp_call,sets,T.get_set,tupK,he,hyr.lenS,w1,hk0,hkl,loadE_eq,getC_eq,hm3,t0,h1]
   obtain ⟨h1,h2,h3⟩:=hnil s1
   exact ⟨_,⟨rfl,e3,e1.symm⟩,by rw [e2]; exact h1,h2,h3,x1⟩
  ·by_cases h2:s = [46]
   ·exact absurd (by rw [h2]; decide) h0
   ·simp [evOp_call,sets,T.get_set,tupK,he,hyr.lenS,w1,hk0,hkl,loadE_eq,getC_eq,hm3,t0,h1,h2]
    refine Gd.mono (suffix_any _ s1 s (by omega)) ?_
    rintro _ rfl
    by_cases h3:suf s
    ·obtain ⟨e1,e2,e3⟩:=bad (.inr (.inr (.inr h3)))
     simp [evOp_call,sets,T.get_set,h3]
     obtain ⟨h1,h2,h3⟩:=hnil s1
     exact ⟨_,⟨rfl,e3,e1.symm⟩,by rw [e2]; exact h1,h2,h3,x1⟩
    ·have hnb:¬ lastBad s:=by
      rintro (h | h | h | h)
      ·exact h0 h
      ·rw [hgl] at h; injection h with h; exact h1 h
      ·exact h2 h
      ·exact h3 h
     have e1:lastE s = 0:=by unfold lastE; rw [if_neg (by simpa using he),if_neg hnb]
     have e2:lastD s = (parS s).dropLast:=by unfold lastD; rw [if_pos e1]
     have e3:lastN s = p:=by unfold lastN; rw [if_pos e1,hgl]; rfl
     simp [evOp_call,sets,T.get_set,h3]
     refine ⟨by kernel_rfl,?_⟩
     rw [slice3_sg un28 io9 (k:=k) (i:=.i64) (j:=.i64) (by simp [T.get_set,w1]) (by simp [T.get_set,w1]) m _ (by omega)]
     simp [evOp_call,sets,T.get_set,w1,hkl,loadE_eq,getC_eq,hm3,t0]
     have hlen:(parS s).dropLast.length = k:=by rw [List.length_dropLast]; omega
     have hF:RowFrom st.nx (.sl m 0 k k):=⟨fun _ _ _ _ e => (by cases e),fun _ _ _ _ e => (by injection e with e; omega)⟩
     have hC:CapOk (.sl m 0 k k):=fun _ _ _ _ e => (by injection e with _ _ e3 e4; omega)
     refine ⟨.sl m 0 k k,?_,?_,hF,hC,x1⟩
     ·exact ⟨rfl,e3.symm,e1.symm⟩
     rw [e2,hlen]
     refine ⟨by simp [hlen],.inr (.inl ⟨m,0,k,ty,_,tr,rfl,hm2,hm3,by omega,fun j v hj => ?_⟩)⟩
     obtain ⟨q,hq,rfl⟩:=sv_of hj
     rw [List.getElem?_dropLast] at hq
     split at hq
     ·rw [Nat.zero_add]; exact hm5 j _ (sv_get hq)
     ·cases hq
end Go.Proofs.YtgcpgidofikcdaaGreatDoor

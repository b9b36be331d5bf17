/-
  PLAIN: TrK, TrL, TrM, in one text.
-/
import Derived.Test.YtgcpgidofikcdaaGreatDoorTrEI
set_option maxRecDepth 20000
set_option maxHeartbeats 8000000
set_option linter.unusedSimpArgs false
set_option linter.unusedVariables false
namespace Go.Proofs.YtgcpgidofikcdaaGreatDoor
open Go.RowKit Ev
theorem rlong_any (st:St) (s:Tx) (k:Nat) (hs:s.length ≤ 100000) (hk:k ≤ 100000) (nt:Nat) {wb:Nat} {l:List (Nat × Nat)} (hl:∀ b,st.nx ≤ b → inF l b = false) (hwb:wb ≤ st.nx) :
  Gd (callL Tryz.prog ⟨false,l,wb,nt⟩ 138 [.s s,.int .i64 (k:Int)] st) fun r => r.1 = .s (longT s k) ∧ Ext st.nx st r.2:=by
 rw [Gd_callL Tryz.func138 rfl]
 by_cases h:(k:Int) ≤ (s.length:Int)
 ·have e:longT s k = s:=by unfold longT; rw [show k - s.length = 0 by omega]; simp
  simp [evOp_call,sets,T.get_set,len_str un9,h,e]
  exact Ext.refl _ _
 ·have hsub:IntKind.i64.wrap ((k:Int) - (s.length:Int)) = ((k - s.length:Nat):Int):=by rw [wrap_in (by omega) (by omega)]; omega
  simp [evOp_call,sets,T.get_set,len_str un9,h,hsub]
  refine Gd_make (i:=.i64) (i':=.i64) (n:=k - s.length) (q:=k - s.length) (fun k => el27 k) io5 (fun k => ze5 k) (by simp [T.get_set]) (by simp [T.get_set]) (Nat.le_refl _) (by omega) ?_
  have hrd:RdRow ⟨st.nx + 1,st.h.set st.nx (.cs 5 (rep [.int .u8 0] (k - s.length)).length (sets (rep [.int .u8 0] (k - s.length)) 0 .lf))⟩ (.sl st.nx 0 (k - s.length) (k - s.length)) 1 (List.replicate (k - s.length) 0).length (yv (List.replicate (k - s.length) 0)):=by
   rw [List.length_replicate]
   refine ⟨by simp [yv],.inr (.inl ⟨st.nx,0,_,_,_,_,rfl,Nat.lt_succ_self _,T.get_set_same _ _ _,by simp [rep_one],fun j v hj => ?_⟩)⟩
   have hjl:=lt_of_get hj
   simp [yv] at hjl
   rw [get_sets,rep_one,if_pos ⟨Nat.zero_le _,by simp; omega⟩]
   simpa [yv] using hj
  have hadd:s.length + (List.replicate (k - s.length) 0).length ≤ 1073741824:=by simp; omega
  simp [evOp_call,T.get_set]
  rw [conv_bytes hrd (fun b hb => by have:=(List.mem_replicate.1 hb).2; omega) (fun b hb => by
   rcases hb with ⟨_,_,_,e⟩ | ⟨_,_,_,e⟩
   ·injection e with e; subst e; unfold Cx.ok; simp [hl st.nx (Nat.le_refl _)]
   ·cases e)]
  simp [evOp_call,T.get_set,bin_sadd _ _ hadd]
  exact ⟨rfl,(Ext.refl st.nx st).new (Nat.le_refl _) _⟩
section
variable {st:St} {q m n B:Nat} {Z:Nat → V} {E:Tr}
def rnmI (s1:St) (z:V) (L:List (Tx × Nat)) (e:Env) (s:St):Prop:=∃ (i:Nat) (y:V),i ≤ L.length ∧ e.get 5 = some z ∧ e.get 6 = some y ∧ e.get 7 = some (.int .i64 (i:Int)) ∧ OwnRow s1.nx s y 1 i (sv ((L.map (·.1)).take i)) ∧ Ext s1.nx s1 s
theorem rnames_any (R:RefG st q m n Z E) (O:TOk n B E) (hB:B ≤ 1000) {a:Nat} (ha:a ≤ n) (nt:Nat) :
  Gd (callL Tryz.prog ⟨false,[],0,nt⟩ 72 [.p q 0,.int .i64 (a:Int)] st) fun r => RdRow r.2 r.1 1 (listT E a).length (sv (listT E a)) ∧ (∀ b,BlkOf r.1 b → st.nx ≤ b) ∧ Ext st.nx st r.2:=by
 rw [Gd_callL Tryz.func72 rfl]
 obtain ⟨tq,hq,q0,q1⟩:=R.cell
 obtain ⟨tt,hm,row⟩:=R.row
 obtain ⟨a0,a1,a2,a3,a4,a5⟩:=row a ha
 have hal:a < n + 1:=by omega
 have hll:=O.len a
 by_cases h1:a = 1
 ·subst h1
  have hll1:1 < n + 1:=hal
  simp only [Nat.one_mul] at a3
  simp [evOp_call,sets,T.get_set,loadE_eq,getC_eq,hq,q1,hm,a3,hal]
  have e:listT E 1 = (insT (cntT lostT (E 1).l) (lostT,2) (E 1).l).map (·.1):=(list_ins E).symm
  rw [e]
  refine Gd.mono (rinsert_any st (Z 1) (E 1).l a4 (R.cap 1 ha) (O.ris 1) (by omega) lostT 2 _) ?_
  rintro ⟨z,s1⟩ ⟨hz0,x1⟩
  simp only at hz0 x1
  have hil:=insT_length (x:=(lostT,2)) (cntT_le lostT (E 1).l)
  rw [← hil] at hz0
  have hz:=hz0.rd
  generalize insT (cntT lostT (E 1).l) (lostT,2) (E 1).l = L at hz hil ⊢
  simp [evOp_call,T.get_set]
  have hzl:=hz.lenS
  refine Gd_loop (rnmI s1 z L) (fun e _ => muAt 7 L.length e) ?_ ?_
  ·exact ⟨0,_,Nat.zero_le _,by simp [T.get_set],by simp [T.get_set],by simp [T.get_set],OwnRow.nil _ _ _,Ext.refl _ _⟩
  rintro en sx ⟨i,y,hi,g5,g6,g7,hy,hx⟩
  have hle:=hx.le
  by_cases hlt:i < L.length
  case neg =>
   obtain rfl:i = L.length:=by omega
   simp [evOp_call,T.get_set,g5,g6,g7,hzl,sets]
   rw [List.take_of_length_le (by simp)] at hy
   refine ⟨by simpa using hy.rd,fun b hb => ?_,x1.trans (hx.mono x1.le)⟩
   have:=(own_blk hy b hb).1
   have:=x1.le
   omega
  have hlt':(i:Int) < (L.length:Int):=by omega
  have hwi:=wrap_nat (n:=i) (by omega)
  obtain ⟨m1,o1,ty1,sz1,tr1,i1,b1,kk1,l1,c1⟩:=(hz.ext hx).idx (st:=sx) un116 io127 hlt
  have hg:=List.getElem?_eq_getElem hlt
  obtain ⟨p1,p2⟩:=cellsN_get _ _ _ hg
  have d0:tr1.get o1 = some (.s L[i].1):=by have:=c1 0 _ (by omega) p1; simpa using this
  simp [evOp_call,T.get_set,g5,g6,g7,hzl,hlt',i1,loadE_eq,getC_eq,kk1,d0]
  refine evOp_build1 (v:=.s L[i].1) (cs:=[.s L[i].1]) (fun k => el28 k) (fun k => ze9 k) rfl (by omega) (by simp [T.get_set]) (fun k => rfl) rfl ?_
  simp [evOp_call,T.get_set,g5,g6,g7]
  refine Gd_append un28 un28 io9 (lx:=1) (new:=[.s L[i].1]) (hy.ext ((Ext.refl _ _).new (Nat.le_refl _) _)) (by show s1.nx ≤ sx.nx + 1; omega) (by decide) (fun s' h => by cases h) (fun k => rfl) (fun k => by simp [getC_eq,getsB_1,T.get_set,sets]) rfl (by omega) ?_
  intro y2 sy hy2 hx2 _ _
  simp [evOp_call,T.get_set,g7,hwi]
  have hx3:Ext s1.nx s1 sy:=(hx.new (by omega) _).trans hx2
  refine ⟨⟨i + 1,y2,hlt,by simp [T.get_set,g5],by simp [T.get_set],by simp [T.get_set],?_,hx3⟩,muAt_lt g7 (by simp [T.get_set]) hlt⟩
  have et:(L.map (·.1)).take (i + 1) = (L.map (·.1)).take i ++ [L[i].1]:=by rw [List.take_add_one]; simp [hg]
  rw [et,sv_app]
  exact hy2
 ·have h1':¬ (a:Int) = 1:=by omega
  simp [evOp_call,sets,T.get_set,loadE_eq,getC_eq,hq,q1,hm,a3,hal,h1,h1']
  have e:listT E a = (E a).l.map (·.1):=if_neg h1
  rw [e]
  have hz:=a4
  have x1:=Ext.refl st.nx st
  generalize hL:(E a).l = L at hz hll ⊢
  have hil:L.length ≤ 1001:=by omega
  have hzl:=hz.lenS
  refine Gd_loop (rnmI st (Z a) L) (fun e _ => muAt 7 L.length e) ?_ ?_
  ·exact ⟨0,_,Nat.zero_le _,by simp [T.get_set],by simp [T.get_set],by simp [T.get_set],OwnRow.nil _ _ _,Ext.refl _ _⟩
  rintro en sx ⟨i,y,hi,g5,g6,g7,hy,hx⟩
  have hle:=hx.le
  by_cases hlt:i < L.length
  case neg =>
   obtain rfl:i = L.length:=by omega
   simp [evOp_call,T.get_set,g5,g6,g7,hzl,sets]
   rw [List.take_of_length_le (by simp)] at hy
   refine ⟨by simpa using hy.rd,fun b hb => ?_,x1.trans (hx.mono x1.le)⟩
   have:=(own_blk hy b hb).1
   have:=x1.le
   omega
  have hlt':(i:Int) < (L.length:Int):=by omega
  have hwi:=wrap_nat (n:=i) (by omega)
  obtain ⟨m1,o1,ty1,sz1,tr1,i1,b1,kk1,l1,c1⟩:=(hz.ext hx).idx (st:=sx) un116 io127 hlt
  have hg:=List.getElem?_eq_getElem hlt
  obtain ⟨p1,p2⟩:=cellsN_get _ _ _ hg
  have d0:tr1.get o1 = some (.s L[i].1):=by have:=c1 0 _ (by omega) p1; simpa using this
  simp [evOp_call,T.get_set,g5,g6,g7,hzl,hlt',i1,loadE_eq,getC_eq,kk1,d0]
  refine evOp_build1 (v:=.s L[i].1) (cs:=[.s L[i].1]) (fun k => el28 k) (fun k => ze9 k) rfl (by omega) (by simp [T.get_set]) (fun k => rfl) rfl ?_
  simp [evOp_call,T.get_set,g5,g6,g7]
  refine Gd_append un28 un28 io9 (lx:=1) (new:=[.s L[i].1]) (hy.ext ((Ext.refl _ _).new (Nat.le_refl _) _)) (by show st.nx ≤ sx.nx + 1; omega) (by decide) (fun s' h => by cases h) (fun k => rfl) (fun k => by simp [getC_eq,getsB_1,T.get_set,sets]) rfl (by omega) ?_
  intro y2 sy hy2 hx2 _ _
  simp [evOp_call,T.get_set,g7,hwi]
  have hx3:Ext st.nx st sy:=(hx.new (by omega) _).trans hx2
  refine ⟨⟨i + 1,y2,hlt,by simp [T.get_set,g5],by simp [T.get_set],by simp [T.get_set],?_,hx3⟩,muAt_lt g7 (by simp [T.get_set]) hlt⟩
  have et:(L.map (·.1)).take (i + 1) = (L.map (·.1)).take i ++ [L[i].1]:=by rw [List.take_add_one]; simp [hg]
  rw [et,sv_app]
  exact hy2
end
end Go.Proofs.YtgcpgidofikcdaaGreatDoor
set_option linter.unusedSimpArgs false
set_option linter.unusedVariables false
namespace Go.Proofs.YtgcpgidofikcdaaGreatDoor
open Go.RowKit Ev
theorem cxOf_storeL {c:Cx} {e:Env} {d:Option Nat} {t ty:TypeId} {x y:Operand} {p:String} {af:Array Edge} {g:Option (Nat × Bool)} {ops:List Oper} {i:Nat} {s0:St} {rs:List (Nat × Nat × Nat)} (l:List (Nat × Nat)) (h:mayW ops i = false) (hl:looseW ops e i = some l) (ha:∀ p ∈ l,isRo s0.h p.1 = false):cxOf c ops ⟨d,.store t x y,ty,p,af,g⟩ i rs s0 e = ⟨c.all,l ++ forb (befOf ops i) rs c.l,c.wb,c.nt⟩:=by
 have h0:cxOf c ops ⟨d,.store t x y,ty,p,af,g⟩ i rs s0 e = (match mayW ops i with
   | true => ⟨c.all,forb (befOf ops i) rs c.l,c.wb,c.nt⟩
   | false => (match (match looseW ops e i with
     | none => none
     | some l => some (alive s0.h l)) with
    | some l => ⟨c.all,l ++ forb (befOf ops i) rs c.l,c.wb,c.nt⟩
    | none => ⟨c.all,forb (befOf ops i) rs c.l,s0.nx,c.nt⟩)):=rfl
 rw [h0,h,hl]
 simp only [alive_own ha]
section
variable {st:St} {q m n B:Nat} {Z:Nat → V} {E:Tr}
theorem rstat_any (R:RefG st q m n Z E) (O:TOk n B E) (C:Ct n E) (hB:B ≤ 1000) {a:Nat} (ha:1 ≤ a ∧ a ≤ n) (nt:Nat) :
  Gd (tmF ⟨false,[],0,nt⟩ 70 [.p q 0,.int .i64 (a:Int)] st) (rrR st q m n Z (if (E a).k = 2 then ⟨0,a,2,1,(E a).l.length,[],[]⟩ else ⟨0,a,(E a).k,(E a).nm,(E a).d.length,[],[]⟩,E)):=by
 rw [Gd_tmF rfl rfl Tryz.func70 rfl]
 have x0:=fun w => (Ext.refl st.nx st).new (Nat.le_refl _) w
 simp [evOp_call,sets,T.get_set,newC_is]
 have hS:∃ s0:St,s0 = ⟨st.nx + 1,st.h.set st.nx (.cs 48 7 (((((((T.lf.set 0 (V.int .i64 0)).set 1 (V.int .i64 0)).set 2 (V.int .i64 0)).set 3 (V.int .i64 0)).set 4 (V.int .i64 0)).set 5 (.s [])).set 6 (.c (.slice none 0 0))))⟩:=⟨_,rfl⟩
 obtain ⟨s0,hs0⟩:=hS
 rw [← hs0]
 have hx0:Ext st.nx st s0:=by rw [hs0]; exact x0 _
 have n0:s0.nx = st.nx + 1:=by rw [hs0]
 have k0:s0.h.get st.nx = some (.cs 48 7 (((((((T.lf.set 0 (V.int .i64 0)).set 1 (V.int .i64 0)).set 2 (V.int .i64 0)).set 3 (V.int .i64 0)).set 4 (V.int .i64 0)).set 5 (.s [])).set 6 (.c (.slice none 0 0)))):=by rw [hs0]; exact T.get_set_same _ _ _
 clear hs0
 have R0:=R.ext hx0
 obtain ⟨tq,hq,q0,q1⟩:=R0.cell
 obtain ⟨tt,hm,row⟩:=R0.row
 obtain ⟨a0,a1,a2,a3,a4,a5⟩:=row a ha.2
 have hal:a < n + 1:=by omega
 have hzl:=a4.lenS
 have hl3:=R0.lt
 simp only [← n0]
 refine ⟨by kernel_rfl,?_⟩
 simp [evOp_call,sets,T.get_set,loadE_eq,getC_eq,hq,q1,hal,hm,a1]
 rw [cxOf_callW (by kernel_rfl) (by kernel_rfl) (by kernel_rfl),forb_nil]
 rw [tmF_ne rfl]
 refine Gd.mono (rlinks_gen R0 O.n2.2 (O.lst 0 (by rw [O.zero]; decide)) O.len (by omega) a _) ?_
 rintro _ rfl
 simp [evOp_call,sets,T.get_set,loadE_eq,getC_eq,hq,q1,hal,hm,a1,a2,len_str un9,newC_is]
 rw [cxOf_store (by kernel_rfl),forb_cons (by kernel_rfl) rfl]
 have hne:¬ s0.nx = st.nx:=by omega
 have hne':¬ st.nx = s0.nx:=by omega
 have hnq:¬ s0.nx = q:=by omega
 have hnm:¬ s0.nx = m:=by omega
 by_cases ck:(E a).k = 2
 ·have ck':((E a).k:Int) = 2:=by omega
  rw [if_pos ck]
  simp [evOp_call,sets,T.get_set,loadE_eq,getC_eq,storeK_g,putB_eq,roT,cellsOf,ck,ck']
  refine ⟨by kernel_rfl,?_⟩
  simp [evOp_call,sets,T.get_set,loadE_eq,getC_eq,hnq,hnm,hq,q1,hal,hm,a3,hzl]
  have hff:∀ b,b ≠ q → b ≠ m → inF [(q,q + 1),(m,m + 1)] b = false:=fun b h h' => by rw [inF_cons,if_neg (by omega),inF_cons,if_neg (by omega)]; rfl
  rw [cxOf_storeL [(q,q + 1),(m,m + 1)] (by kernel_rfl) (by kernel_rfl) (fun p hp => by
   simp at hp
   rcases hp with rfl | rfl
   ·have:(s0.h.set s0.nx (.cs 48 7 .lf)).get q = s0.h.get q:=T.get_set_ne _ _ hnq
    unfold isRo
    rw [T.get_set_ne _ _ hnq,hq]
    rfl
   ·unfold isRo
    rw [T.get_set_ne _ _ hnm,hm]
    rfl),forb_nil]
  simp [evOp_call,sets,T.get_set,putB_eq,roT,Cx.ok,hff s0.nx hnq hnm]
  rw [cxOf_store (by kernel_rfl),forb_nil]
  simp [evOp_call,sets,T.get_set,putB_eq,roT,loadE_eq,getC_eq,getsB_succ,getsB_zero,hne,hne',k0,storeK_g,cellsOf]
  exact rrR_plain ⟨Z,R.ext (((hx0.new (by omega) _)).set (by omega) (by show st.nx < s0.nx + 1; omega) _),StR.ext (((hx0.new (by omega) _)).set (by omega) (by show st.nx < s0.nx + 1; omega) _)⟩ 0 a 2 1 (E a).l.length []
 ·have ck':¬ ((E a).k:Int) = 2:=by omega
  rw [if_neg ck]
  have ha3:3 ≤ a:=by
   have h1:a ≠ 1:=fun e => ck (by rw [e]; exact O.root.1)
   have h2:a ≠ 2:=fun e => ck (by rw [e]; exact O.lost.1)
   omega
  rw [C.nm a ha3]
  simp [evOp_call,sets,T.get_set,loadE_eq,getC_eq,storeK_g,putB_eq,roT,cellsOf,ck,ck',getsB_succ,getsB_zero,hne,hne',k0]
  exact rrR_plain ⟨Z,R.ext (((hx0.new (by omega) _)).set (by omega) (by show st.nx < s0.nx + 1; omega) _),StR.ext (((hx0.new (by omega) _)).set (by omega) (by show st.nx < s0.nx + 1; omega) _)⟩ 0 a (E a).k (cntE n E a:Int) (E a).d.length []
end
end Go.Proofs.YtgcpgidofikcdaaGreatDoor
set_option linter.unusedSimpArgs false
set_option linter.unusedVariables false
namespace Go.Proofs.YtgcpgidofikcdaaGreatDoor
open Go.RowKit Ev
theorem cutT_past {at_ most:Int} {d:Tx} (h:(d.length:Int) < at_):cutT at_ most d = []:=by
 unfold cutT
 rw [List.drop_of_length_le (by omega)]
 simp
theorem cutT_in {k c:Nat} {d:Tx} (h:k ≤ d.length):cutT (k:Int) (c:Int) d = (d.drop k).take c:=by
 unfold cutT
 have e:(min (k:Int) (d.length:Int)).toNat = k:=by omega
 rw [e]
 by_cases h2:c ≤ (d.drop k).length
 ·rw [show (min (c:Int) ((d.drop k).length:Int)).toNat = c by omega]
 ·rw [show (min (c:Int) ((d.drop k).length:Int)).toNat = (d.drop k).length by omega,List.take_of_length_le (Nat.le_refl _),List.take_of_length_le (by omega)]
section
variable {st:St} {q m n B:Nat} {Z:Nat → V} {E:Tr}
theorem updZ_self (Z:Nat → V) (i:Nat):updZ Z i (Z i) = Z:=by
 funext j
 unfold updZ
 split
 ·rename_i e; rw [e]
 ·rfl
theorem chR_setD {s:St} (R:RefG s q m n Z E) {a:Nat} (ha:a ≤ n) (d:Tx) {tt:T V} (hm:s.h.get m = some (.cs 118 ((n + 1) * 4) tt)):chR s q m n Z (setD E a d) ⟨s.nx,s.h.set m (.cs 118 ((n + 1) * 4) (tt.set (a * 4 + 2) (.s d)))⟩:=by
 have h:=R.setD ha d hm
 rw [updZ_self] at h
 exact ⟨Z,h,Nat.le_refl _,fun w => set_wf R.lt.2.1 _ w,fun b _ hb => T.get_set_ne _ _ (Ne.symm hb),fun i hi b hb => .inl ⟨i,hi,hb⟩⟩
theorem rread_any (R:RefG st q m n Z E) (O:TOk n B E) (C:Ct n E) (hB:B ≤ 1000) (o:OpT) (hk:o.kind = 9) (nt:Nat) :
  Gd (tmF ⟨false,[],0,nt⟩ 71 [.p q 0,opR o] st) (rrR st q m n Z (readE E o.a o.at_ o.n)):=by
 rw [Gd_tmF rfl rfl Tryz.func71 rfl]
 have x0:=fun w w' => ((Ext.refl st.nx st).new (Nat.le_refl _) w).new (Nat.le_succ _) w'
 obtain ⟨W,hW⟩:∃ W,W = readE E o.a o.at_ o.n:=⟨_,rfl⟩
 rw [← hW]
 unfold readE at hW
 simp [evOp_call,sets,T.get_set,newC_is,opR,cellsOf]
 obtain ⟨s0,hs0⟩:∃ s0:St,s0 = ⟨st.nx + 1 + 1,(st.h.set st.nx (.cs 51 6 ((((((T.lf.set 0 (.int .i64 o.kind)).set 1 (.s o.a)).set 2 (.s o.b)).set 3 (.int .i64 o.at_)).set 4 (.int .i64 o.n)).set 5 (.s o.data)))).set (st.nx + 1) (.cs 48 7 (((((((T.lf.set 0 (.int .i64 0)).set 1 (.int .i64 0)).set 2 (.int .i64 0)).set 3 (.int .i64 0)).set 4 (.int .i64 0)).set 5 (.s [])).set 6 (.c (.slice none 0 0))))⟩:=⟨_,rfl⟩
 rw [← hs0]
 have hx0:Ext st.nx st s0:=by rw [hs0]; exact x0 _ _
 have n0:s0.nx = st.nx + 1 + 1:=by rw [hs0]
 have kb0:s0.h.get st.nx = some (.cs 51 6 ((((((T.lf.set 0 (.int .i64 o.kind)).set 1 (.s o.a)).set 2 (.s o.b)).set 3 (.int .i64 o.at_)).set 4 (.int .i64 o.n)).set 5 (.s o.data))):=by rw [hs0]; simp [T.get_set]
 have kr0:s0.h.get (st.nx + 1) = some (.cs 48 7 (((((((T.lf.set 0 (.int .i64 0)).set 1 (.int .i64 0)).set 2 (.int .i64 0)).set 3 (.int .i64 0)).set 4 (.int .i64 0)).set 5 (.s [])).set 6 (.c (.slice none 0 0)))):=by rw [hs0]; exact T.get_set_same _ _ _
 clear hs0
 by_cases cn:o.at_ < 0 ∨ o.n < 0
 ·rw [if_pos cn] at hW
  have hw:=hW
  by_cases ca:o.at_ < 0
  ·simp [evOp_call,sets,T.get_set,loadE_eq,getC_eq,kb0,hk,ca]
   rw [tmF_ne rfl]
   refine Gd.mono (rfail_any s0 _ _) ?_
   rintro ⟨r,sf⟩ ⟨hr,xf⟩
   simp only at hr xf
   subst hr
   have nf:=xf.le
   have hxf:=hx0.trans (xf.mono hx0.le)
   have kf:=(xf.keep (st.nx + 1) (by omega)).trans kr0
   simp [evOp_call,sets,T.get_set,kf,storeK_g,putB_eq,roT,cellsOf,loadE_eq,getC_eq,getsB_succ,getsB_zero]
   rw [hw]
   exact rrR_ref R (hxf.set (by omega) (by omega) _) _
  ·have cn':o.n < 0:=cn.resolve_left ca
   simp [evOp_call,sets,T.get_set,loadE_eq,getC_eq,kb0,hk,ca,cn']
   rw [tmF_ne rfl]
   refine Gd.mono (rfail_any s0 _ _) ?_
   rintro ⟨r,sf⟩ ⟨hr,xf⟩
   simp only at hr xf
   subst hr
   have nf:=xf.le
   have hxf:=hx0.trans (xf.mono hx0.le)
   have kf:=(xf.keep (st.nx + 1) (by omega)).trans kr0
   simp [evOp_call,sets,T.get_set,kf,storeK_g,putB_eq,roT,cellsOf,loadE_eq,getC_eq,getsB_succ,getsB_zero]
   rw [hw]
   exact rrR_ref R (hxf.set (by omega) (by omega) _) _
 rw [if_neg cn] at hW
 obtain ⟨ca,cn⟩:=not_or.1 cn
 obtain ⟨p,hp⟩:=Int.eq_ofNat_of_zero_le (show 0 ≤ o.at_ by omega)
 obtain ⟨c,hc⟩:=Int.eq_ofNat_of_zero_le (show 0 ≤ o.n by omega)
 rw [hp,hc] at hW
 have hp0:¬ (p:Int) < 0:=by omega
 have hc0:¬ (c:Int) < 0:=by omega
 simp [evOp_call,sets,T.get_set,loadE_eq,getC_eq,kb0,hk,ca,cn,hp,hc,hp0,hc0]
 rw [tmF_ne rfl]
 refine Gd.mono (rway_any (R.ext hx0) O C hB o.a true _) ?_
 rintro ⟨r,s1⟩ ⟨hr,x1⟩
 simp only at hr x1
 subst hr
 have hx1:=hx0.trans (x1.mono hx0.le)
 have n1:=x1.le
 have kb:=(x1.keep st.nx (by omega)).trans kb0
 have k1:=(x1.keep (st.nx + 1) (by omega)).trans kr0
 have R1:=R.ext hx1
 have hwn:=O.way o.a true
 have hfl:fileE E o.a = if (wayE E o.a true).2 ≠ 0 then (0,(wayE E o.a true).2) else if (E (wayE E o.a true).1).k = 2 then (0,5) else ((wayE E o.a true).1,0):=rfl
 obtain ⟨w,hwd⟩:∃ w,w = wayE E o.a true:=⟨_,rfl⟩
 rw [← hwd] at hwn hfl ⊢
 by_cases ce:w.2 = 0
 rotate_left
 ·have hf2:(fileE E o.a).2 = w.2:=by rw [hfl,if_pos ce]
  rw [hf2,if_pos ce] at hW
  have hw:=hW
  simp [evOp_call,sets,T.get_set,tupK,ce]
  rw [tmF_ne rfl]
  refine Gd.mono (rfail_any s1 _ _) ?_
  rintro ⟨r,sf⟩ ⟨hr,xf⟩
  simp only at hr xf
  subst hr
  have nf:=xf.le
  have hxf:=hx1.trans (xf.mono hx1.le)
  have kf:=(xf.keep (st.nx + 1) (by omega)).trans k1
  simp [evOp_call,sets,T.get_set,kf,storeK_g,putB_eq,roT,cellsOf,loadE_eq,getC_eq,getsB_succ,getsB_zero]
  rw [hw]
  exact rrR_ref R (hxf.set (by omega) (by omega) _) _
 rw [if_neg (by simpa using ce)] at hfl
 obtain ⟨tq,hq,q0,q1⟩:=R1.cell
 obtain ⟨tt,hm,row⟩:=R1.row
 obtain ⟨a0,a1,a2,a3,a4,a5⟩:=row w.1 hwn.1
 have hwl:w.1 < n + 1:=by omega
 by_cases ck:(E w.1).k = 2
 ·rw [if_pos ck] at hfl
  rw [hfl,if_pos (by decide)] at hW
  have hw:=hW
  simp [evOp_call,sets,T.get_set,tupK,ce,loadE_eq,getC_eq,hq,q1,hwl,hm,a1,ck]
  rw [tmF_ne rfl]
  refine Gd.mono (rfail_any s1 _ _) ?_
  rintro ⟨r,sf⟩ ⟨hr,xf⟩
  simp only at hr xf
  subst hr
  have nf:=xf.le
  have hxf:=hx1.trans (xf.mono hx1.le)
  have kf:=(xf.keep (st.nx + 1) (by omega)).trans k1
  simp [evOp_call,sets,T.get_set,kf,storeK_g,putB_eq,roT,cellsOf,loadE_eq,getC_eq,getsB_succ,getsB_zero]
  rw [hw]
  exact rrR_ref R (hxf.set (by omega) (by omega) _) _
 rw [if_neg ck] at hfl
 rw [hfl] at hW
 simp only [ne_eq,not_true_eq_false,if_false] at hW
 have ck':¬ ((E w.1).k:Int) = 2:=by omega
 have hdl:=(O.dat w.1).2
 have hlt3:=R1.lt
 have hne:¬ st.nx = m:=by have:=R.lt.2.1; omega
 have hbd:w.1 * 4 + 2 + 1 ≤ (n + 1) * 4:=by omega
 have hbd':w.1 * 4 + 3 ≤ (n + 1) * 4:=by omega
 by_cases c1:((E w.1).d.length:Int) < (p:Int)
 ·rw [cutT_past c1] at hW
  have hw:=hW
  simp [evOp_call,sets,T.get_set,tupK,ce,loadE_eq,getC_eq,hq,q1,hwl,hm,a1,a2,ck,ck',kb,hk,hp,len_str un9,c1,k1,storeK_g,putB_eq,roT,cellsOf,getsB_succ,getsB_zero]
  rw [hw]
  exact rrR_plain ⟨Z,R.ext (hx1.set (by omega) (by omega) _),StR.ext (hx1.set (by omega) (by omega) _)⟩ 0 w.1 0 0 0 []
 have c1':p ≤ (E w.1).d.length:=by omega
 rw [cutT_in c1'] at hW
 simp [evOp_call,sets,T.get_set,tupK,ce,loadE_eq,getC_eq,hq,q1,hwl,hm,a1,a2,ck,ck',kb,hk,hp,len_str un9,c1]
 refine Gd_strLo (i:=.i64) un9 (by simp [T.get_set]) c1' ?_
 by_cases c2:(c:Int) < (((E w.1).d.drop p).length:Int)
 ·have hw:=hW
  simp only [List.length_drop] at c2
  simp [evOp_call,sets,T.get_set,loadE_eq,getC_eq,kb,hc,len_str un9,c2]
  refine Gd_strHi (i:=.i64) (k:=c) un9 (by simp [T.get_set]) (by rw [List.length_drop]; omega) ?_
  simp [evOp_call,sets,T.get_set,loadE_eq,getC_eq,k1,storeK_g,putB_eq,roT,cellsOf,getsB_succ,getsB_zero]
  rw [hw]
  exact rrR_plain ⟨Z,R.ext (hx1.set (by omega) (by omega) _),StR.ext (hx1.set (by omega) (by omega) _)⟩ 0 w.1 0 0 0 (((E w.1).d.drop p).take c)
 ·rw [List.take_of_length_le (l:=(E w.1).d.drop p) (i:=c) (by omega)] at hW
  have hw:=hW
  simp only [List.length_drop] at c2
  simp [evOp_call,sets,T.get_set,loadE_eq,getC_eq,kb,hc,len_str un9,c2,k1,storeK_g,putB_eq,roT,cellsOf,getsB_succ,getsB_zero]
  rw [hw]
  exact rrR_plain ⟨Z,R.ext (hx1.set (by omega) (by omega) _),StR.ext (hx1.set (by omega) (by omega) _)⟩ 0 w.1 0 0 0 ((E w.1).d.drop p)
theorem rwrite_any (R:RefG st q m n Z E) (O:TOk n B E) (C:Ct n E) (hB:B ≤ 1000) (o:OpT) (hk:o.kind = 10) (hat:o.at_ ≤ 9223372036854775807) (hol:o.data.length ≤ 100000) (nt:Nat) :
  Gd (tmF ⟨false,[],0,nt⟩ 71 [.p q 0,opR o] st) (rrR st q m n Z (writeE E o.a o.at_ o.data)):=by
 rw [Gd_tmF rfl rfl Tryz.func71 rfl]
 have x0:=fun w w' => ((Ext.refl st.nx st).new (Nat.le_refl _) w).new (Nat.le_succ _) w'
 obtain ⟨W,hW⟩:∃ W,W = writeE E o.a o.at_ o.data:=⟨_,rfl⟩
 rw [← hW]
 unfold writeE at hW
 simp [evOp_call,sets,T.get_set,newC_is,opR,cellsOf]
 obtain ⟨s0,hs0⟩:∃ s0:St,s0 = ⟨st.nx + 1 + 1,(st.h.set st.nx (.cs 51 6 ((((((T.lf.set 0 (.int .i64 o.kind)).set 1 (.s o.a)).set 2 (.s o.b)).set 3 (.int .i64 o.at_)).set 4 (.int .i64 o.n)).set 5 (.s o.data)))).set (st.nx + 1) (.cs 48 7 (((((((T.lf.set 0 (.int .i64 0)).set 1 (.int .i64 0)).set 2 (.int .i64 0)).set 3 (.int .i64 0)).set 4 (.int .i64 0)).set 5 (.s [])).set 6 (.c (.slice none 0 0))))⟩:=⟨_,rfl⟩
 rw [← hs0]
 have hx0:Ext st.nx st s0:=by rw [hs0]; exact x0 _ _
 have n0:s0.nx = st.nx + 1 + 1:=by rw [hs0]
 have kb0:s0.h.get st.nx = some (.cs 51 6 ((((((T.lf.set 0 (.int .i64 o.kind)).set 1 (.s o.a)).set 2 (.s o.b)).set 3 (.int .i64 o.at_)).set 4 (.int .i64 o.n)).set 5 (.s o.data))):=by rw [hs0]; simp [T.get_set]
 have kr0:s0.h.get (st.nx + 1) = some (.cs 48 7 (((((((T.lf.set 0 (.int .i64 0)).set 1 (.int .i64 0)).set 2 (.int .i64 0)).set 3 (.int .i64 0)).set 4 (.int .i64 0)).set 5 (.s [])).set 6 (.c (.slice none 0 0)))):=by rw [hs0]; exact T.get_set_same _ _ _
 clear hs0
 by_cases ca:o.at_ < 0
 ·rw [if_pos ca] at hW
  have hw:=hW
  simp [evOp_call,sets,T.get_set,loadE_eq,getC_eq,kb0,hk,ca]
  rw [tmF_ne rfl]
  refine Gd.mono (rfail_any s0 _ _) ?_
  rintro ⟨r,sf⟩ ⟨hr,xf⟩
  simp only at hr xf
  subst hr
  have nf:=xf.le
  have hxf:=hx0.trans (xf.mono hx0.le)
  have kf:=(xf.keep (st.nx + 1) (by omega)).trans kr0
  simp [evOp_call,sets,T.get_set,kf,storeK_g,putB_eq,roT,cellsOf,loadE_eq,getC_eq,getsB_succ,getsB_zero]
  rw [hw]
  exact rrR_ref R (hxf.set (by omega) (by omega) _) _
 rw [if_neg ca] at hW
 obtain ⟨p,hp⟩:=Int.eq_ofNat_of_zero_le (show 0 ≤ o.at_ by omega)
 rw [hp] at hW hat
 have hp0:¬ (p:Int) < 0:=by omega
 simp [evOp_call,sets,T.get_set,loadE_eq,getC_eq,kb0,hk,ca,hp,hp0]
 rw [tmF_ne rfl]
 refine Gd.mono (rway_any (R.ext hx0) O C hB o.a true _) ?_
 rintro ⟨r,s1⟩ ⟨hr,x1⟩
 simp only at hr x1
 subst hr
 have hx1:=hx0.trans (x1.mono hx0.le)
 have n1:=x1.le
 have kb:=(x1.keep st.nx (by omega)).trans kb0
 have k1:=(x1.keep (st.nx + 1) (by omega)).trans kr0
 have R1:=R.ext hx1
 have hwn:=O.way o.a true
 have hfl:fileE E o.a = if (wayE E o.a true).2 ≠ 0 then (0,(wayE E o.a true).2) else if (E (wayE E o.a true).1).k = 2 then (0,5) else ((wayE E o.a true).1,0):=rfl
 obtain ⟨w,hwd⟩:∃ w,w = wayE E o.a true:=⟨_,rfl⟩
 rw [← hwd] at hwn hfl ⊢
 by_cases ce:w.2 = 0
 rotate_left
 ·have hf2:(fileE E o.a).2 = w.2:=by rw [hfl,if_pos ce]
  rw [hf2,if_pos ce] at hW
  have hw:=hW
  simp [evOp_call,sets,T.get_set,tupK,ce]
  rw [tmF_ne rfl]
  refine Gd.mono (rfail_any s1 _ _) ?_
  rintro ⟨r,sf⟩ ⟨hr,xf⟩
  simp only at hr xf
  subst hr
  have nf:=xf.le
  have hxf:=hx1.trans (xf.mono hx1.le)
  have kf:=(xf.keep (st.nx + 1) (by omega)).trans k1
  simp [evOp_call,sets,T.get_set,kf,storeK_g,putB_eq,roT,cellsOf,loadE_eq,getC_eq,getsB_succ,getsB_zero]
  rw [hw]
  exact rrR_ref R (hxf.set (by omega) (by omega) _) _
 rw [if_neg (by simpa using ce)] at hfl
 obtain ⟨tq,hq,q0,q1⟩:=R1.cell
 obtain ⟨tt,hm,row⟩:=R1.row
 obtain ⟨a0,a1,a2,a3,a4,a5⟩:=row w.1 hwn.1
 have hwl:w.1 < n + 1:=by omega
 by_cases ck:(E w.1).k = 2
 ·rw [if_pos ck] at hfl
  rw [hfl,if_pos (by decide)] at hW
  have hw:=hW
  simp [evOp_call,sets,T.get_set,tupK,ce,loadE_eq,getC_eq,hq,q1,hwl,hm,a1,ck]
  rw [tmF_ne rfl]
  refine Gd.mono (rfail_any s1 _ _) ?_
  rintro ⟨r,sf⟩ ⟨hr,xf⟩
  simp only at hr xf
  subst hr
  have nf:=xf.le
  have hxf:=hx1.trans (xf.mono hx1.le)
  have kf:=(xf.keep (st.nx + 1) (by omega)).trans k1
  simp [evOp_call,sets,T.get_set,kf,storeK_g,putB_eq,roT,cellsOf,loadE_eq,getC_eq,getsB_succ,getsB_zero]
  rw [hw]
  exact rrR_ref R (hxf.set (by omega) (by omega) _) _
 rw [if_neg ck] at hfl
 rw [hfl] at hW
 simp only [ne_eq,not_true_eq_false,if_false] at hW
 have ck':¬ ((E w.1).k:Int) = 2:=by omega
 have hdl:=(O.dat w.1).2
 have hlt3:=R1.lt
 have hne:¬ st.nx = m:=by have:=R.lt.2.1; omega
 have hbd:w.1 * 4 + 2 + 1 ≤ (n + 1) * 4:=by omega
 have hbd':w.1 * 4 + 3 ≤ (n + 1) * 4:=by omega
 by_cases c0:o.data.length = 0
 ·rw [if_pos c0] at hW
  have hw:=hW
  have c0':¬ (0:Int) < (o.data.length:Int):=by omega
  have c0'':(o.data.length:Int) = 0:=by omega
  have cd:o.data = []:=List.length_eq_zero_iff.1 c0
  simp [evOp_call,sets,T.get_set,tupK,ce,loadE_eq,getC_eq,hq,q1,hwl,hm,a1,a2,ck,ck',kb,hk,hp,len_str un9,cd,k1,storeK_g,putB_eq,roT,cellsOf,getsB_succ,getsB_zero]
  rw [hw]
  exact rrR_plain ⟨Z,R.ext (hx1.set (by omega) (by omega) _),StR.ext (hx1.set (by omega) (by omega) _)⟩ 0 w.1 0 0 (E w.1).d.length []
 rw [if_neg c0] at hW
 have c0':(0:Int) < (o.data.length:Int):=by omega
 have c0'':0 < o.data.length:=by omega
 have c0e:¬ o.data = []:=fun e => c0 (by rw [e]; rfl)
 by_cases c1:4096 < (p:Int)
 ·rw [if_pos (by omega)] at hW
  have hw:=hW
  have c1':4096 < p:=by omega
  simp [evOp_call,sets,T.get_set,tupK,ce,loadE_eq,getC_eq,hq,q1,hwl,hm,a1,a2,ck,ck',kb,hk,hp,len_str un9,c0',c0'',c0e,c1,c1']
  rw [tmF_ne rfl]
  refine Gd.mono (rfail_any s1 _ _) ?_
  rintro ⟨r,sf⟩ ⟨hr,xf⟩
  simp only at hr xf
  subst hr
  have nf:=xf.le
  have hxf:=hx1.trans (xf.mono hx1.le)
  have kf:=(xf.keep (st.nx + 1) (by omega)).trans k1
  simp [evOp_call,sets,T.get_set,kf,storeK_g,putB_eq,roT,cellsOf,loadE_eq,getC_eq,getsB_succ,getsB_zero]
  rw [hw]
  exact rrR_ref R (hxf.set (by omega) (by omega) _) _
 have hsub:IntKind.i64.wrap (4096 - (p:Int)) = 4096 - (p:Int):=wrap_in (by omega) (by omega)
 have c1n:¬ 4096 < p:=by omega
 by_cases c2:4096 - (o.data.length:Int) < (p:Int)
 ·rw [if_pos c2] at hW
  have hw:=hW
  have c2':4096 - (p:Int) < (o.data.length:Int):=by omega
  simp [evOp_call,sets,T.get_set,tupK,ce,loadE_eq,getC_eq,hq,q1,hwl,hm,a1,a2,ck,ck',kb,hk,hp,len_str un9,c0',c0'',c0e,c1,c1n,hsub,c2']
  rw [tmF_ne rfl]
  refine Gd.mono (rfail_any s1 _ _) ?_
  rintro ⟨r,sf⟩ ⟨hr,xf⟩
  simp only at hr xf
  subst hr
  have nf:=xf.le
  have hxf:=hx1.trans (xf.mono hx1.le)
  have kf:=(xf.keep (st.nx + 1) (by omega)).trans k1
  simp [evOp_call,sets,T.get_set,kf,storeK_g,putB_eq,roT,cellsOf,loadE_eq,getC_eq,getsB_succ,getsB_zero]
  rw [hw]
  exact rrR_ref R (hxf.set (by omega) (by omega) _) _
 rw [if_neg c2] at hW
 have hw:=hW
 have c2':¬ 4096 - (p:Int) < (o.data.length:Int):=by omega
 have c3':¬ (o.data.length:Int) = 0:=by omega
 simp [evOp_call,sets,T.get_set,tupK,ce,loadE_eq,getC_eq,hq,q1,hwl,hm,a1,a2,ck,ck',kb,hk,hp,len_str un9,c0',c0'',c0e,c1,c1n,hsub,c2',c3',c0]
 rw [tmF_ne rfl]
 refine Gd.mono (rlong_any s1 (E w.1).d p (by omega) (by omega) _ (wb:=0) (l:=[]) (fun _ _ => rfl) (Nat.zero_le _)) ?_
 rintro ⟨r,s2⟩ ⟨hr,x2⟩
 simp only at hr x2
 subst hr
 have R2:=R1.ext x2
 have hm2:=(x2.keep m hlt3.2.1).trans hm
 have hq2:=(x2.keep q hlt3.1).trans hq
 have n2:=x2.le
 have hx2:=hx1.trans (x2.mono hx1.le)
 have k2:=(x2.keep (st.nx + 1) (by omega)).trans k1
 have kb2:=(x2.keep st.nx (by omega)).trans kb
 have hll:(longT (E w.1).d p).length = max (E w.1).d.length p:=by unfold longT; simp; omega
 have hpl:p ≤ (longT (E w.1).d p).length:=by omega
 have hadd:IntKind.i64.wrap ((p:Int) + (o.data.length:Int)) = ((p + o.data.length:Nat):Int):=by rw [wrap_in (by omega) (by omega)]; omega
 have hput:=long_put (E w.1).d o.data p
 have htl:((longT (E w.1).d p).take p).length = p:=by rw [List.length_take]; omega
 have hb1:((longT (E w.1).d p).take p).length + o.data.length ≤ 1073741824:=by omega
 have hne2:¬ st.nx + 1 = m:=by have:=R.lt.2.1; omega
 have hne3:¬ m = st.nx + 1:=by omega
 obtain ⟨D,hD⟩:∃ D,D = putT (padT (E w.1).d (max (E w.1).d.length (p + o.data.length))) p o.data:=⟨_,rfl⟩
 have hDl:D.length = max (E w.1).d.length (p + o.data.length):=by rw [hD,putT_length (by rw [padT_length]; omega),padT_length]
 rw [← hD] at hput
 have hpt:(p:Int).toNat = p:=by omega
 rw [hpt,← hD,← hDl] at hw
 have hmk:∀ s2':St,True:=fun _ => trivial
 by_cases c4:p + o.data.length < (longT (E w.1).d p).length
 ·have c4':(p:Int) + (o.data.length:Int) < ((longT (E w.1).d p).length:Int):=by omega
  have hb2:((longT (E w.1).d p).take p ++ o.data).length + ((longT (E w.1).d p).drop (p + o.data.length)).length ≤ 1073741824:=by simp; omega
  simp [evOp_call,sets,T.get_set,loadE_eq,getC_eq,kb2,len_str un9,hadd,c4',c4,hp]
  refine Gd_strLo (i:=.i64) (k:=p + o.data.length) un9 (by simp [T.get_set]) (by omega) ?_
  simp [evOp_call,sets,T.get_set,loadE_eq,getC_eq,kb2,hp]
  refine ⟨by kernel_rfl,?_⟩
  refine Gd_strHi (i:=.i64) (k:=p) un9 (by simp [T.get_set]) hpl ?_
  simp [evOp_call,sets,T.get_set,loadE_eq,getC_eq,kb2,hp,bin_sadd _ _ hb1,bin_sadd _ _ hb2,hput]
  simp [evOp_call,sets,T.get_set,loadE_eq,getC_eq,hq2,q1,hwl,storeK_g,putB_eq,roT,hm2,hbd,hbd',cellsOf,hne,hne2,hne3,k2,len_str un9,getsB_succ,getsB_zero]
  rw [hw]
  exact rrR_plain ((rchg_fin R hx2 (rb:=st.nx + 1) ⟨by omega,by omega⟩ (chR_setD R2 hwn.1 D hm2)).2.2 _) 0 w.1 0 0 D.length []
 ·have c4':¬ (p:Int) + (o.data.length:Int) < ((longT (E w.1).d p).length:Int):=by omega
  rw [List.drop_of_length_le (by omega),List.append_nil] at hput
  simp [evOp_call,sets,T.get_set,loadE_eq,getC_eq,kb2,len_str un9,hadd,c4',c4,hp]
  have hb2:((longT (E w.1).d p).take p ++ o.data).length + ([]:Tx).length ≤ 1073741824:=by simp; omega
  have hput:(longT (E w.1).d p).take p ++ o.data ++ [] = D:=by rw [List.append_nil]; exact hput
  refine ⟨by kernel_rfl,?_⟩
  refine Gd_strHi (i:=.i64) (k:=p) un9 (by simp [T.get_set]) hpl ?_
  simp [evOp_call,sets,T.get_set,loadE_eq,getC_eq,kb2,hp,bin_sadd _ _ hb1,bin_sadd _ _ hb2,hput]
  simp [evOp_call,sets,T.get_set,loadE_eq,getC_eq,hq2,q1,hwl,storeK_g,putB_eq,roT,hm2,hbd,hbd',cellsOf,hne,hne2,hne3,k2,len_str un9,getsB_succ,getsB_zero]
  rw [hw]
  exact rrR_plain ((rchg_fin R hx2 (rb:=st.nx + 1) ⟨by omega,by omega⟩ (chR_setD R2 hwn.1 D hm2)).2.2 _) 0 w.1 0 0 D.length []
theorem rtrunc_any (R:RefG st q m n Z E) (O:TOk n B E) (C:Ct n E) (hB:B ≤ 1000) (o:OpT) (hk:o.kind = 11) (nt:Nat) :
  Gd (tmF ⟨false,[],0,nt⟩ 71 [.p q 0,opR o] st) (rrR st q m n Z (truncE E o.a o.n)):=by
 rw [Gd_tmF rfl rfl Tryz.func71 rfl]
 have x0:=fun w w' => ((Ext.refl st.nx st).new (Nat.le_refl _) w).new (Nat.le_succ _) w'
 obtain ⟨W,hW⟩:∃ W,W = truncE E o.a o.n:=⟨_,rfl⟩
 rw [← hW]
 unfold truncE at hW
 simp [evOp_call,sets,T.get_set,newC_is,opR,cellsOf]
 obtain ⟨s0,hs0⟩:∃ s0:St,s0 = ⟨st.nx + 1 + 1,(st.h.set st.nx (.cs 51 6 ((((((T.lf.set 0 (.int .i64 o.kind)).set 1 (.s o.a)).set 2 (.s o.b)).set 3 (.int .i64 o.at_)).set 4 (.int .i64 o.n)).set 5 (.s o.data)))).set (st.nx + 1) (.cs 48 7 (((((((T.lf.set 0 (.int .i64 0)).set 1 (.int .i64 0)).set 2 (.int .i64 0)).set 3 (.int .i64 0)).set 4 (.int .i64 0)).set 5 (.s [])).set 6 (.c (.slice none 0 0))))⟩:=⟨_,rfl⟩
 rw [← hs0]
 have hx0:Ext st.nx st s0:=by rw [hs0]; exact x0 _ _
 have n0:s0.nx = st.nx + 1 + 1:=by rw [hs0]
 have kb0:s0.h.get st.nx = some (.cs 51 6 ((((((T.lf.set 0 (.int .i64 o.kind)).set 1 (.s o.a)).set 2 (.s o.b)).set 3 (.int .i64 o.at_)).set 4 (.int .i64 o.n)).set 5 (.s o.data))):=by rw [hs0]; simp [T.get_set]
 have kr0:s0.h.get (st.nx + 1) = some (.cs 48 7 (((((((T.lf.set 0 (.int .i64 0)).set 1 (.int .i64 0)).set 2 (.int .i64 0)).set 3 (.int .i64 0)).set 4 (.int .i64 0)).set 5 (.s [])).set 6 (.c (.slice none 0 0)))):=by rw [hs0]; exact T.get_set_same _ _ _
 clear hs0
 by_cases ca:o.n < 0
 ·rw [if_pos ca] at hW
  have hw:=hW
  simp [evOp_call,sets,T.get_set,loadE_eq,getC_eq,kb0,hk,ca]
  rw [tmF_ne rfl]
  refine Gd.mono (rfail_any s0 _ _) ?_
  rintro ⟨r,sf⟩ ⟨hr,xf⟩
  simp only at hr xf
  subst hr
  have nf:=xf.le
  have hxf:=hx0.trans (xf.mono hx0.le)
  have kf:=(xf.keep (st.nx + 1) (by omega)).trans kr0
  simp [evOp_call,sets,T.get_set,kf,storeK_g,putB_eq,roT,cellsOf,loadE_eq,getC_eq,getsB_succ,getsB_zero]
  rw [hw]
  exact rrR_ref R (hxf.set (by omega) (by omega) _) _
 rw [if_neg ca] at hW
 obtain ⟨p,hp⟩:=Int.eq_ofNat_of_zero_le (show 0 ≤ o.n by omega)
 rw [hp] at hW
 have hp0:¬ (p:Int) < 0:=by omega
 simp [evOp_call,sets,T.get_set,loadE_eq,getC_eq,kb0,hk,ca,hp,hp0]
 rw [tmF_ne rfl]
 refine Gd.mono (rway_any (R.ext hx0) O C hB o.a true _) ?_
 rintro ⟨r,s1⟩ ⟨hr,x1⟩
 simp only at hr x1
 subst hr
 have hx1:=hx0.trans (x1.mono hx0.le)
 have n1:=x1.le
 have kb:=(x1.keep st.nx (by omega)).trans kb0
 have k1:=(x1.keep (st.nx + 1) (by omega)).trans kr0
 have R1:=R.ext hx1
 have hwn:=O.way o.a true
 have hfl:fileE E o.a = if (wayE E o.a true).2 ≠ 0 then (0,(wayE E o.a true).2) else if (E (wayE E o.a true).1).k = 2 then (0,5) else ((wayE E o.a true).1,0):=rfl
 obtain ⟨w,hwd⟩:∃ w,w = wayE E o.a true:=⟨_,rfl⟩
 rw [← hwd] at hwn hfl ⊢
 by_cases ce:w.2 = 0
 rotate_left
 ·have hf2:(fileE E o.a).2 = w.2:=by rw [hfl,if_pos ce]
  rw [hf2,if_pos ce] at hW
  have hw:=hW
  simp [evOp_call,sets,T.get_set,tupK,ce]
  rw [tmF_ne rfl]
  refine Gd.mono (rfail_any s1 _ _) ?_
  rintro ⟨r,sf⟩ ⟨hr,xf⟩
  simp only at hr xf
  subst hr
  have nf:=xf.le
  have hxf:=hx1.trans (xf.mono hx1.le)
  have kf:=(xf.keep (st.nx + 1) (by omega)).trans k1
  simp [evOp_call,sets,T.get_set,kf,storeK_g,putB_eq,roT,cellsOf,loadE_eq,getC_eq,getsB_succ,getsB_zero]
  rw [hw]
  exact rrR_ref R (hxf.set (by omega) (by omega) _) _
 rw [if_neg (by simpa using ce)] at hfl
 obtain ⟨tq,hq,q0,q1⟩:=R1.cell
 obtain ⟨tt,hm,row⟩:=R1.row
 obtain ⟨a0,a1,a2,a3,a4,a5⟩:=row w.1 hwn.1
 have hwl:w.1 < n + 1:=by omega
 by_cases ck:(E w.1).k = 2
 ·rw [if_pos ck] at hfl
  rw [hfl,if_pos (by decide)] at hW
  have hw:=hW
  simp [evOp_call,sets,T.get_set,tupK,ce,loadE_eq,getC_eq,hq,q1,hwl,hm,a1,ck]
  rw [tmF_ne rfl]
  refine Gd.mono (rfail_any s1 _ _) ?_
  rintro ⟨r,sf⟩ ⟨hr,xf⟩
  simp only at hr xf
  subst hr
  have nf:=xf.le
  have hxf:=hx1.trans (xf.mono hx1.le)
  have kf:=(xf.keep (st.nx + 1) (by omega)).trans k1
  simp [evOp_call,sets,T.get_set,kf,storeK_g,putB_eq,roT,cellsOf,loadE_eq,getC_eq,getsB_succ,getsB_zero]
  rw [hw]
  exact rrR_ref R (hxf.set (by omega) (by omega) _) _
 rw [if_neg ck] at hfl
 rw [hfl] at hW
 simp only [ne_eq,not_true_eq_false,if_false] at hW
 have ck':¬ ((E w.1).k:Int) = 2:=by omega
 have hdl:=(O.dat w.1).2
 have hlt3:=R1.lt
 have hne:¬ st.nx = m:=by have:=R.lt.2.1; omega
 have hbd:w.1 * 4 + 2 + 1 ≤ (n + 1) * 4:=by omega
 have hbd':w.1 * 4 + 3 ≤ (n + 1) * 4:=by omega
 by_cases c1:4096 < (p:Int)
 ·rw [if_pos c1] at hW
  have hw:=hW
  have c1':4096 < p:=by omega
  simp [evOp_call,sets,T.get_set,tupK,ce,loadE_eq,getC_eq,hq,q1,hwl,hm,a1,a2,ck,ck',kb,hk,hp,len_str un9,c1,c1']
  rw [tmF_ne rfl]
  refine Gd.mono (rfail_any s1 _ _) ?_
  rintro ⟨r,sf⟩ ⟨hr,xf⟩
  simp only at hr xf
  subst hr
  have nf:=xf.le
  have hxf:=hx1.trans (xf.mono hx1.le)
  have kf:=(xf.keep (st.nx + 1) (by omega)).trans k1
  simp [evOp_call,sets,T.get_set,kf,storeK_g,putB_eq,roT,cellsOf,loadE_eq,getC_eq,getsB_succ,getsB_zero]
  rw [hw]
  exact rrR_ref R (hxf.set (by omega) (by omega) _) _
 rw [if_neg c1] at hW
 have hw:=hW
 have c1n:¬ 4096 < p:=by omega
 simp [evOp_call,sets,T.get_set,tupK,ce,loadE_eq,getC_eq,hq,q1,hwl,hm,a1,a2,ck,ck',kb,hk,hp,len_str un9,c1,c1n]
 refine ⟨by kernel_rfl,?_⟩
 have hff:∀ b,b ≠ st.nx → inF [(st.nx,st.nx + 1)] b = false:=fun b h => by rw [inF_cons,if_neg (by omega)]; rfl
 rw [cxOf_callL [(st.nx,st.nx + 1)] (by kernel_rfl) (by kernel_rfl) (by kernel_rfl) (fun y hy => by
  simp at hy
  rcases hy with rfl | rfl <;> (rw [clashes_tmp']; simp [T.get_set,blkOf])) (fun p hp => by simp at hp; subst hp; rw [isRo_cs kb]; decide),forb_nil]
 simp only [List.append_nil]
 show Gd (liftF tmK ⟨false,[(st.nx,st.nx + 1)],0,_⟩ _ _ s1) _
 refine Gd_lift (R:=fun v s' => v = .s (longT (E w.1).d p)) (by
  rw [tmK_ne rfl]
  refine Gd.mono (rlong_any (er _ s1) (E w.1).d p (by omega) (by omega) _ (wb:=0) (l:=[]) (fun _ _ => rfl) (Nat.zero_le _)) ?_
  rintro ⟨v,s'⟩ ⟨c1,c2⟩
  exact ⟨c1,c2⟩) ?_
 rintro r s2' s2 hr _ x2
 subst hr
 have R2:=R1.ext x2
 have hm2:=(x2.keep m hlt3.2.1).trans hm
 have hq2:=(x2.keep q hlt3.1).trans hq
 have n2:=x2.le
 have hx2:=hx1.trans (x2.mono hx1.le)
 have k2:=(x2.keep (st.nx + 1) (by omega)).trans k1
 have kb2:=(x2.keep st.nx (by omega)).trans kb
 have hll:(longT (E w.1).d p).length = max (E w.1).d.length p:=by unfold longT; simp; omega
 have hpl:p ≤ (longT (E w.1).d p).length:=by omega
 have hpt:(p:Int).toNat = p:=by omega
 have hne2:¬ st.nx + 1 = m:=by have:=R.lt.2.1; omega
 have hne3:¬ m = st.nx + 1:=by omega
 obtain ⟨D,hD⟩:∃ D,D = (longT (E w.1).d p).take p:=⟨_,rfl⟩
 have hDl:D.length = p:=by rw [hD,List.length_take]; omega
 rw [hpt,← long_pad,← hD] at hw
 simp [evOp_call,sets,T.get_set,loadE_eq,getC_eq,kb2,hp]
 refine ⟨inF_ld (by omega),fun _ => ?_⟩
 refine Gd_strHi (i:=.i64) (k:=p) un9 (by simp [T.get_set]) hpl ?_
 rw [← hD]
 simp [evOp_call,sets,T.get_set,loadE_eq,getC_eq,hq2,q1,hwl,storeK_g,putB_eq,roT,hm2,hbd,hbd',cellsOf,hne,hne2,hne3,k2,len_str un9,getsB_succ,getsB_zero]
 rw [hDl,hw]
 exact rrR_plain ((rchg_fin R hx2 (rb:=st.nx + 1) ⟨by omega,by omega⟩ (chR_setD R2 hwn.1 D hm2)).2.2 _) 0 w.1 0 0 p []
end
end Go.Proofs.YtgcpgidofikcdaaGreatDoor

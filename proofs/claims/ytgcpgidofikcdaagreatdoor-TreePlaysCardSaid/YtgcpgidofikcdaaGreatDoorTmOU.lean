/-
  PLAIN: TmDel, TmO, TmP, TmQ, TmR, TmS, TmT, TmU, in one text.
-/
import Derived.Test.YtgcpgidofikcdaaGreatDoorTyTree
import Derived.Test.YtgcpgidofikcdaaGreatDoorInsK
import Derived.Test.YtgcpgidofikcdaaGreatDoorTmKN
import Derived.Test.YtgcpgidofikcdaaGreatDoorDrw
set_option maxRecDepth 20000
set_option maxHeartbeats 16000000
set_option linter.unusedSimpArgs false
set_option linter.unusedVariables false
namespace Go.Proofs.YtgcpgidofikcdaaGreatDoor
open Go.RowKit Ev
theorem delC_N:∀ (wb nt:Nat) (st:St) (m n i ty s0:Nat) (tr:T V) (old:List V),wb ≤ m → i < n → n ≤ 1048576 → n * 2 ≤ s0 → st.h.get m = some (.cs ty s0 tr) → ty ≠ roT → old.length = n * 2 → (∀ j a,old[j]? = some a → tr.get j = some a) →
  Gd (callL Tryz.prog ⟨false,[],wb,nt⟩ 180 [.sg m 0 n 2,.int .i64 (i:Int),.int .i64 ((i:Int) + 1)] st) fun r => r.1 = .sg m 0 (n - 1) 2 ∧ ∃ tr',r.2 = ⟨st.nx,st.h.set m (.cs ty s0 tr')⟩ ∧ ∀ j a,(delL (i * 2) 2 old)[j]? = some a → tr'.get j = some a:=by
 suffices hall:∀ z,z = 2 → ∀ (wb nt:Nat) (st:St) (m n i ty s0:Nat) (tr:T V) (old:List V),wb ≤ m → i < n → n ≤ 1048576 → n * z ≤ s0 → st.h.get m = some (.cs ty s0 tr) → ty ≠ roT → old.length = n * z → (∀ j a,old[j]? = some a → tr.get j = some a) →
   Gd (callL Tryz.prog ⟨false,[],wb,nt⟩ 180 [.sg m 0 n z,.int .i64 (i:Int),.int .i64 ((i:Int) + 1)] st) fun r => r.1 = .sg m 0 (n - 1) z ∧ ∃ tr',r.2 = ⟨st.nx,st.h.set m (.cs ty s0 tr')⟩ ∧ ∀ j a,(delL (i * z) z old)[j]? = some a → tr'.get j = some a from hall 2 rfl
 intro z hz
 have hio:infoOk Tryz.prog 109 z = true:=by rw [hz]; exact io109
 have hz1:1 ≤ z:=by omega
 have hzl:∃ zs:List V,zs.length = z ∧ ∀ kk:List V → Res,zero Tryz.prog 109 kk = kk zs:=⟨_,by rw [hz]; rfl,fun kk => ze109 kk⟩
 clear hz
 obtain ⟨zs,hzs,hze⟩:=hzl
 intro wb nt st m n i ty s0 tr old hwb hi hmax hs0 g2 hro o1 o2
 have hu:=un90
 have e2:i * z ≤ n * z:=Nat.mul_le_mul_right z (by omega)
 have e4:(n - (i + 1)) * z = n * z - (i + 1) * z:=Nat.sub_mul ..
 have e5:(n - 1) * z = n * z - 1 * z:=Nat.sub_mul ..
 have e8:(i + 1) * z ≤ n * z:=Nat.mul_le_mul_right z hi
 have e9:(i + 1) * z = i * z + z:=Nat.succ_mul ..
 generalize hRR:(fun r:V × St => r.1 = .sg m 0 (n - 1) z ∧ ∃ tr',r.2 = ⟨st.nx,st.h.set m (.cs ty s0 tr')⟩ ∧ ∀ j a,(delL (i * z) z old)[j]? = some a → tr'.get j = some a) = RR
 rw [Gd_callL Tryz.func180 rfl]
 have hnl:∀ s:St,lenS s (.sg m 0 n z) = some (.int .i64 (n:Int),s):=fun _ => rfl
 have hii:¬ (i:Int) = (i:Int) + 1:=by omega
 simp [evOp_call,sets,T.get_set,hnl]
 obtain ⟨v1,hv1⟩:=sg_three (P:=Tryz.prog) (m:=m) (n:=n) (h:=i + 1) (j:=i) (e:=(((((((((T.lf.set 0 (V.sg m 0 n z)).set 1 (V.int IntKind.i64 ↑i)).set 2 (V.int IntKind.i64 (↑i + 1))).set 6 (V.c (Value.slice none 0 0))).set 8 (V.sg m 0 n z)).set 9 (V.int IntKind.i64 ↑i)).set 10 (V.int IntKind.i64 (↑i + 1))).set 11 (V.sg m 0 n z)).set 12 (V.int IntKind.i64 ↑n))) (x:=.tmp 9) (y:=.tmp 10) (w:=.tmp 12) (i1:=.i64) (i2:=.i64) (i3:=.i64) hu hio (by simp [T.get_set]) (by simp [T.get_set]) (by simp [T.get_set]) (by omega) (by omega)
 rw [hv1]
 simp [evOp_call,sets,T.get_set,hnl,hii]
 refine ⟨by kernel_rfl,?_⟩
 rw [sg_hi (k:=i) (i:=.i64) hu hio (by simp [T.get_set]) (by omega)]
 simp [evOp_call,sets,T.get_set,hnl,hii]
 rw [sg_loA (k:=i + 1) (i:=.i64) hu hio (by simp [T.get_set]) (by omega)]
 have hx:∃ x:V,(if i + 1 = n ∧ i + 1 ≠ 0 then V.e else .sg m (0 + (i + 1) * z) (n - (i + 1)) z) = x ∧ (∀ s',x ≠ .s s') ∧ (∀ k:Nat → Res,lenA x k = k (n - (i + 1))) ∧ ∀ k:List V → Res,firsts ⟨false,[],wb,33⟩ st z (n - (i + 1)) x k = k (old.drop (i * z + z)):=by
  by_cases h:i + 1 = n
  ·refine ⟨.e,by rw [if_pos ⟨h,by omega⟩],fun _ h => (by cases h),fun k => by rw [show n - (i + 1) = 0 by omega]; rfl,fun k => ?_⟩
   rw [show n - (i + 1) = 0 by omega,show old.drop (i * z + z) = [] from List.drop_eq_nil_of_le (by rw [← e9,h]; omega)]
   rfl
  ·refine ⟨_,by rw [if_neg (fun h' => h h'.1)],fun _ h => (by cases h),fun k => rfl,fun k => ?_⟩
   have b1:Nat.ble (n - (i + 1)) (n - (i + 1)) = true:=Nat.ble_eq ▸ Nat.le_refl _
   show (match Nat.ble (n - (i + 1)) (n - (i + 1)) with | true => getC _ st m fun t => getsB t ((n - (i + 1)) * z) (0 + (i + 1) * z) k | false => none) = _
   rw [b1]
   simp only [getC_eq,ok_top,inF_nil,Bool.not_false,g2,cond_true,Option.bind_some,csK_cs]
   have hl:(old.drop (i * z + z)).length = (n - (i + 1)) * z:=by rw [List.length_drop]; omega
   rw [← hl]
   refine getsB_list (fun j a h => ?_) k
   rw [List.getElem?_drop] at h
   rw [Nat.zero_add,e9]; exact o2 _ a h
 obtain ⟨x,hx1,hx2,hx3,hx4⟩:=hx
 rw [hx1]
 simp [evOp_call,sets,T.get_set,hnl,hii]
 rw [cxOf_call (by kernel_rfl) (by kernel_rfl),forb_nil,app_in hu hu hio hx2 hx3 hx4 (by rw [List.length_drop]; omega) (by omega) rfl hwb g2 hro (by rw [show i + (n - (i + 1)) = n - 1 by omega]; omega)]
 have e10:i + (n - (i + 1)) = n - 1:=by omega
 have hnl2:∀ s:St,lenS s (.sg m 0 (n - 1) z) = some (.int .i64 ((n - 1:Nat):Int),s):=fun _ => rfl
 rw [e10]
 simp [evOp_call,sets,T.get_set,hnl,hii,hnl2]
 rw [sg_past (n:=n - 1) (h:=n) (i:=.i64) (j:=.i64) hu hio rfl (T.get_set_same _ _ _) (by simp [T.get_set]) (by simp [T.get_set]) (by omega) hs0]
 simp [evOp_call,sets,T.get_set,hnl,hii,hnl2]
 rw [clr_sg hu hio hze rfl hwb (T.get_set_same _ _ _) hro (by rw [rep_length,hzs,show n - (n - 1) = 1 by omega]; omega)]
 simp [evOp_call,sets,T.get_set,hnl,hii,hnl2]
 rw [← hRR]
 exact ⟨rfl,_,rfl,fun j a h => del_get (by omega) o2 (by omega) h⟩
end Go.Proofs.YtgcpgidofikcdaaGreatDoor
set_option linter.unusedSimpArgs false
set_option linter.unusedVariables false
namespace Go.Proofs.YtgcpgidofikcdaaGreatDoor
open Go.RowKit Ev
theorem cellsN_cons (x:Tx × Nat) (l:List (Tx × Nat)):cellsN (x :: l) = .s x.1 :: .int .i64 (x.2:Int) :: cellsN l:=rfl
theorem cellsN_app (a b:List (Tx × Nat)):cellsN (a ++ b) = cellsN a ++ cellsN b:=by unfold cellsN; rw [List.flatMap_append]
theorem cellsN_take:∀ (l:List (Tx × Nat)) (c:Nat),cellsN (l.take c) = (cellsN l).take (c * 2)
 | l,0 => by simp [cellsN]
 | [],c + 1 => by simp [cellsN]
 | x :: l,c + 1 => by
  rw [List.take_succ_cons,cellsN_cons,cellsN_cons,cellsN_take l c,show (c + 1) * 2 = c * 2 + 1 + 1 by omega,List.take_succ_cons,List.take_succ_cons]
theorem cellsN_drop:∀ (l:List (Tx × Nat)) (c:Nat),cellsN (l.drop c) = (cellsN l).drop (c * 2)
 | l,0 => by simp [cellsN]
 | [],c + 1 => by simp [cellsN]
 | x :: l,c + 1 => by
  rw [List.drop_succ_cons,cellsN_cons,cellsN_drop l c,show (c + 1) * 2 = c * 2 + 1 + 1 by omega,List.drop_succ_cons,List.drop_succ_cons]
theorem cellsN_ins (c:Nat) (x:Tx × Nat) (l:List (Tx × Nat)):cellsN (insT c x l) = insL (c * 2) (cellsN l) (cellsN [x]):=by
 unfold insT insL
 rw [cellsN_app,cellsN_take,cellsN_cons,cellsN_drop]
 rfl
theorem insN_nil (st:St) (x v:V) (p:Tx) (i:Nat) (hx:x = .c (.slice none 0 0) ∨ ∃ m,x = .sl m 0 0 0 ∧ m < st.nx ∧ st.h.get m = some (.cs 109 0 .lf)) (hv:RdRow st v 2 1 (cellsN [(p,i)])) (nt:Nat):Gd (callL Tryz.prog ⟨false,[],0,nt⟩ 177 [x,.int .i64 0,v] st) fun r => OwnRow st.nx r.2 r.1 2 1 (cellsN [(p,i)]) ∧ Ext st.nx st r.2:=by
 rw [Gd_callL Tryz.func177 rfl]
 rcases hx with rfl | ⟨m,rfl,hm,hg⟩
 ·have hln:∀ s:St,lenS s (V.c (.slice none 0 0)) = some (.int .i64 0,s):=fun s => (OwnRow.nil 0 s 1).rd.lenS s
  have hsl:∀ (c:Cx) (e:Env),e.get 11 = some (.int .i64 0) → sliceK Tryz.prog c e st 90 (V.c (.slice none 0 0)) (some (.tmp 11)) none = some (V.c (.slice none 0 0),st):=fun c e h => by
   unfold sliceK sliceE
   rw [un90]
   have hb:∀ f:Nat → Res,bnd e 0 (some (.tmp 11)) f = f 0:=fun f => bnd_at (i:=.i64) (k:=0) (by simp [h]) f
   have hb2:∀ f:Nat → Res,bnd e 0 none f = f 0:=fun _ => rfl
   simp only [infoOk_sz io109,hb,hb2]
  simp [evOp_call,sets,T.get_set]
  rw [hsl _ _ (by simp [T.get_set])]
  simp [evOp_call,sets,T.get_set,hv.lenS,hln]
  refine Gd_append_nil (b:=st.nx) un90 un90 io109 (Nat.le_refl _) (by decide) hv.notS hv.len (fun k => hv.firsts k) hv.1 (by omega) ?_
  intro y s1 hy x1 _
  simp [evOp_call,sets,T.get_set]
  exact ⟨hy,x1⟩
 ·have hln:∀ s:St,lenS s (V.sl m 0 0 0) = some (.int .i64 0,s):=fun s => rfl
  have hsl:∀ (c:Cx) (e:Env),e.get 11 = some (.int .i64 0) → ∃ v,sliceK Tryz.prog c e st 90 (V.sl m 0 0 0) (some (.tmp 11)) none = some (v,st):=fun c e h => sl_any (k:=0) (i:=.i64) un90 io109 (by simp [h]) (Nat.le_refl _) (Nat.le_refl _)
  simp [evOp_call,sets,T.get_set]
  obtain ⟨v',hv'⟩:=hsl ⟨false,[],0,95⟩ ((((((Ev.T.lf.set 0 (V.sl m 0 0 0)).set 1 (V.int IntKind.i64 0)).set 2 v).set 6 (V.c (Value.slice none 0 0))).set 10 (V.sl m 0 0 0)).set 11 (V.int IntKind.i64 0)) (by simp [T.get_set])
  rw [hv']
  simp [evOp_call,sets,T.get_set,hv.lenS,hln]
  refine Gd_append0 un90 un90 io109 (by decide) hg hv.notS hv.len (fun k => hv.firsts k) hv.1 (by omega) (fun h => by omega) (fun _ => ?_)
  simp [evOp_call,sets,T.get_set]
  have x1:=(Ext.refl st.nx st).new (Nat.le_refl _) (.cs 109 (cellsN [(p,i)]).length (sets (cellsN [(p,i)]) 0 .lf))
  refine ⟨⟨rfl,.inr ⟨st.nx,109,sets (cellsN [(p,i)]) 0 .lf,rfl,Nat.le_refl _,Nat.lt_succ_self _,T.get_set_same _ _ _,by decide,fun j v hj => ?_⟩⟩,x1⟩
  rw [get_sets,if_pos ⟨Nat.zero_le _,by have:=lt_of_get hj; omega⟩]
  simpa using hj
theorem ins_bothN {x0:Nat × Nat} {l:List (Nat × Nat)} {nt b at_:Nat} {s5:St} {LB:Nat → Prop} {xw:V} {L:List (Tx × Nat)} {p:Tx} {i:Nat} {Q:V × St → Prop} (hat:at_ ≤ L.length) (hL:L.length ≤ 1000) (hb:b < s5.nx) (hbf:inF (x0 :: l) b = false) (gb:∃ tb,s5.h.get b = some (.cs 109 2 tb) ∧ tb.get 0 = some (.s p) ∧ tb.get 1 = some (.int .i64 (i:Int)))
  (hx:NRow s5 LB xw L) (hxf:∀ m,BlkOf xw m → inF (x0 :: l) m = false ∧ m ≠ b)
  (k:∀ mY s6,s5.nx ≤ mY → mY < s6.nx → (∃ ty sz t,s6.h.get mY = some (.cs ty sz t) ∧ ty ≠ roT ∧ (L.length + 1) * 2 ≤ sz ∧ ∀ j v,(cellsN (insT at_ (p,i) L))[j]? = some v → t.get j = some v) → s5.nx ≤ s6.nx → (∀ n,n < s5.nx → ¬ BlkOf xw n → s6.h.get n = s5.h.get n) → (Wf s5 → Wf s6) → Q (.sg mY 0 (L.length + 1) 2,s6)) :
  Gd (tmF ⟨false,x0 :: l,0,nt⟩ 177 [xw,.int .i64 (at_:Int),.sl b 0 1 1] s5) Q:=by
 obtain ⟨tb,gb1,gb2,gb3⟩:=gb
 have ger:∀ n,n < s5.nx → inF (x0 :: l) n = false → (er (x0 :: l) s5).h.get n = s5.h.get n:=fun n h1 h2 => by rw [er_get,if_pos ⟨h1,h2⟩]
 have nb:∀ j v,(cellsN [(p,i)])[j]? = some v → tb.get (0 + j) = some v:=fun j v hj => by
  rw [Nat.zero_add]
  match j,hj with
  | 0,hj => simp [cellsN] at hj; subst hj; exact gb2
  | 1,hj => simp [cellsN] at hj; subst hj; exact gb3
  | j + 2,hj => simp [cellsN] at hj
 show Gd (liftF tmK ⟨false,x0 :: l,0,nt⟩ _ _ s5) Q
 obtain ⟨F,hF1,hF2⟩:=tmK_insN false 0 nt [xw,.int .i64 (at_:Int),.sl b 0 1 1] (er (x0 :: l) s5)
 have hnil:(xw = .c (.slice none 0 0) ∨ ∃ m,xw = .sl m 0 0 0 ∧ m < s5.nx ∧ s5.h.get m = some (.cs 109 0 .lf)) → L = [] → Gd (liftF tmK ⟨false,x0 :: l,0,nt⟩ 177 [xw,.int .i64 (at_:Int),.sl b 0 1 1] s5) Q:=fun hw hLn => by
  subst hLn
  obtain rfl:at_ = 0:=by simpa using hat
  have hr:RdRow (er (x0 :: l) s5) (.sl b 0 1 1) 2 1 (cellsN [(p,i)]):=⟨rfl,.inr (.inl ⟨b,0,1,_,_,tb,rfl,hb,(ger b hb hbf).trans gb1,Nat.le_refl _,nb⟩)⟩
  have hw':xw = .c (.slice none 0 0) ∨ ∃ m,xw = .sl m 0 0 0 ∧ m < (er (x0 :: l) s5).nx ∧ (er (x0 :: l) s5).h.get m = some (.cs 109 0 .lf):=by
   rcases hw with hw | ⟨m,hw,h1,h2⟩
   ·exact .inl hw
   ·exact .inr ⟨m,hw,h1,(ger m h1 (hxf m (.inl ⟨_,_,_,hw⟩)).1).trans h2⟩
  have e0:tmK ⟨false,[],0,nt⟩ 177 [xw,.int .i64 0,.sl b 0 1 1] (er (x0 :: l) s5) = callL Tryz.prog ⟨false,[],0,nt⟩ 177 [xw,.int .i64 0,.sl b 0 1 1] (er (x0 :: l) s5):=by
   refine hF1.trans (Eq.trans ?_ hF2)
   rcases hw with rfl | ⟨m,rfl,_⟩ <;> (unfold insF; rw [Nat.beq_refl])
  refine Gd_lift (R:=fun v s' => OwnRow s5.nx s' v 2 1 (cellsN [(p,i)])) (by
   rw [show (((0:Nat):Int)) = 0 from rfl,e0]
   exact insN_nil _ xw (.sl b 0 1 1) p i hw' hr _) ?_
  rintro Y _ s6 hY k6 x6
  have hY6:=OwnRow.sub k6 hY
  obtain ⟨_,⟨_,hz⟩ | ⟨mY,tyY,trY,rfl,hY1,hY2,hY3,hY4,hY5⟩⟩:=hY6
  ·omega
  exact k mY s6 hY1 hY2 ⟨tyY,2,trY,hY3,hY4,Nat.le_refl _,fun j v hj => hY5 j v hj⟩ x6.le (fun n hn _ => x6.keep n hn) x6.wf
 rcases id hx with ⟨hL0,hw | ⟨m,hw,h1,_,h2⟩⟩ | ⟨m,ty,sz,t,rfl,hm,_,gm,hro,hsz,ht⟩
 ·exact hnil (.inl hw) hL0
 ·exact hnil (.inr ⟨m,hw,h1,h2⟩) hL0
 ·obtain ⟨hmf,hmb⟩:=hxf m (.inr ⟨_,_,_,rfl⟩)
  have hl2:(cellsN [(p,i)]).length = 1 * 2:=rfl
  refine Gd_lift2 (R:=fun v s' => v = .sg s5.nx 0 (L.length + 1) 2 ∧ s' = ⟨s5.nx + 2,((er (x0 :: l) s5).h.set m .gone).set s5.nx (.cs unT (insL (at_ * 2) (cellsN L) (cellsN [(p,i)])).length (sets (insL (at_ * 2) (cellsN L) (cellsN [(p,i)])) 0 .lf))⟩) (by
   rw [hF1]
   refine Gd_insF (old:=cellsN L) (new:=cellsN [(p,i)]) (by omega) rfl rfl (Nat.zero_le _) hat hmb (by omega) (by omega) hsz ((ger m hm hmf).trans gm) hro ((ger b hb hbf).trans gb1) (by decide) (by decide) (by omega) (cellsN_length L) ht hl2 nb ?_
   refine ⟨⟨rfl,rfl⟩,by show s5.nx < s5.nx + 2; omega,fun n hn hf => ?_⟩
   show (((er (x0 :: l) s5).h.set m .gone).set s5.nx _).get n = none
   rw [T.get_set_ne _ _ (by omega),T.get_set_ne _ _ (fun e => by subst e; rw [hmf] at hf; cases hf),er_get,if_neg (fun h => by rw [hf] at h; cases h.2)]) ?_
  rintro v st1 s6 ⟨rfl,rfl⟩ hnx hget
  have g6:∀ n,s6.h.get n = if n = s5.nx then some (.cs unT (insL (at_ * 2) (cellsN L) (cellsN [(p,i)])).length (sets (insL (at_ * 2) (cellsN L) (cellsN [(p,i)])) 0 .lf)) else if n = m then some .gone else if n < s5.nx then s5.h.get n else none:=fun n => by
   rw [hget n,T.get_set,T.get_set]
   by_cases e1:n = s5.nx
   ·subst e1
    rw [if_neg (fun h => by omega),if_pos rfl,if_pos rfl]
   ·rw [if_neg e1]
    by_cases e2:n = m
    ·subst e2
     rw [if_neg (fun h => by rw [hmf] at h; cases h.2),if_neg (fun e => e1 e.symm),if_pos rfl,if_pos rfl]
    ·rw [if_neg e2]
     by_cases e3:n < s5.nx
     ·rw [if_pos e3]
      by_cases e4:inF (x0 :: l) n = true
      ·rw [if_pos ⟨e3,e4⟩]
      ·rw [if_neg (fun h => e4 h.2),if_neg (fun e => e1 e.symm),if_neg (fun e => e2 e.symm),ger n e3 (by simpa using e4)]
     ·rw [if_neg e3,if_neg (fun h => e3 h.1),if_neg (fun e => e1 e.symm),if_neg (fun e => e2 e.symm),er_get,if_neg (fun h => e3 h.1)]
  have hlen:(insL (at_ * 2) (cellsN L) (cellsN [(p,i)])).length = (L.length + 1) * 2:=by rw [insL_length (by rw [cellsN_length]; omega),cellsN_length,hl2]; omega
  refine k s5.nx s6 (Nat.le_refl _) (by rw [hnx]; show s5.nx < s5.nx + 2; omega) ⟨unT,_,_,by rw [g6,if_pos rfl],by decide,by rw [hlen]; exact Nat.le_refl _,fun j v hj => ?_⟩ (by rw [hnx]; show s5.nx ≤ s5.nx + 2; omega) (fun n hn hne => ?_) (fun hw n hn => ?_)
  ·rw [cellsN_ins] at hj
   rw [get_sets,if_pos ⟨Nat.zero_le _,by have:=(List.getElem?_eq_some_iff.1 hj).1; omega⟩,Nat.sub_zero]
   exact hj
  ·rw [g6,if_neg (by omega),if_neg (fun e => hne (.inr ⟨_,_,_,by rw [e]⟩)),if_pos hn]
  ·rw [hnx] at hn
   have hn':s5.nx + 2 ≤ n:=hn
   rw [g6,if_neg (by omega),if_neg (by omega),if_neg (by omega)]
end Go.Proofs.YtgcpgidofikcdaaGreatDoor
set_option linter.unusedSimpArgs false
set_option linter.unusedVariables false
namespace Go.Proofs.YtgcpgidofikcdaaGreatDoor
open Go.RowKit Ev
section
variable {st:St} {q m n B:Nat} {x:V} {Y Z:Nat → V} {E:Tr} {LB DB:Nat → Prop}
def chgR (st:St) (q m n:Nat) (x:V) (E':Tr) (LB DB:Nat → Prop) (s:St):Prop:=∃ Y' Z' LB' DB',TrG s q m n x Y' Z' E' LB' DB' ∧ FrT st s m LB DB LB' DB'
theorem rd_blkF {s:St} {x:V} {z n:Nat} {l:List V} (h:RdRow s x z n l) {f:List (Nat × Nat)} (hf:∀ m,BlkOf x m → inF f m = false):(blkOf x).elim false (inF f) = false:=by
 obtain ⟨h1,h2⟩:=h
 rcases h2 with ⟨rfl | rfl,_⟩ | ⟨m,o,q,ty,sz,t,rfl,_⟩ | ⟨m,o,ty,sz,t,rfl,_⟩
 ·rfl
 ·rfl
 ·exact hf m (.inl ⟨_,_,_,rfl⟩)
 ·exact hf m (.inr ⟨_,_,_,rfl⟩)
theorem ifY (Y:Nat → V) (i:Nat):(fun j => if j = i then Y i else Y j) = Y:=funext fun j => by
 by_cases e:j = i
 ·subst e; rw [if_pos rfl]
 ·rw [if_neg e]
theorem TrG.setI {s:St} (h:TrG s q m n x Y Z E LB DB) {i:Nat} (hi:i ≤ n) {ty sz:Nat} {t:T V} (hm:s.h.get m = some (.cs ty sz t)) (c:Nat) (hc:c < 3) (v:Int) (e:Ent) (hd:e.d = (E i).d) (hl:e.l = (E i).l)
  (h0:some (V.int .i64 (e.k:Int)) = if c = 0 then some (.int .i64 v) else some (.int .i64 ((E i).k:Int))) (h1:some (V.int .i64 (e.up:Int)) = if c = 1 then some (.int .i64 v) else some (.int .i64 ((E i).up:Int))) (h2:some (V.int .i64 e.nm) = if c = 2 then some (.int .i64 v) else some (.int .i64 (E i).nm)) :
  TrG ⟨s.nx,s.h.set m (.cs ty sz (t.set (i * 5 + c) (.int .i64 v)))⟩ q m n x Y Z (updE E i e) LB DB:=by
 have hlt:=h.lt
 obtain ⟨ty0,sz0,t0,g4,g5,g6,g7⟩:=h.row
 have hm0:=hm
 rw [hm] at g4
 injection g4 with g4
 injection g4 with e1 e2 e3
 subst e1 e2 e3
 obtain ⟨k0,k1,k2,k3,k4,k5,k6⟩:=g7 i hi
 have oth:∀ b,b ≠ m → (s.h.set m (.cs ty sz (t.set (i * 5 + c) (.int .i64 v)))).get b = s.h.get b:=fun b hb => T.get_set_ne _ _ (Ne.symm hb)
 have U:=h.upd (s':=⟨s.nx,s.h.set m (.cs ty sz (t.set (i * 5 + c) (.int .i64 v)))⟩) hi (Y i) (Z i) e (Nat.le_refl _) hm0 (T.get_set_same _ _ _) (fun j hj => T.get_set_ne _ _ (by omega)) ?_ ?_ ?_ ?_ ?_ (LB':=LB) (DB':=DB) ?_ ?_ (oth q (Ne.symm hlt.2.2)) (fun b hb => ⟨oth b (h.db b hb).2.2.1,hb⟩) (fun b hb _ => ⟨oth b (h.lb b hb).2.2,hb⟩) (fun b hb => .inl hb) (fun b hb => h.lb b hb) (fun b hb => h.db b hb)
 ·rw [ifY,ifY] at U
  exact U
 ·rw [h0]
  split
  ·rename_i c0; subst c0; exact T.get_set_same _ _ _
  ·rw [T.get_set_ne _ _ (by omega)]; exact k0
 ·rw [h1]
  split
  ·rename_i c0; subst c0; exact T.get_set_same _ _ _
  ·rw [T.get_set_ne _ _ (by omega)]; exact k1
 ·rw [h2]
  split
  ·rename_i c0; subst c0; exact T.get_set_same _ _ _
  ·rw [T.get_set_ne _ _ (by omega)]; exact k2
 ·rw [T.get_set_ne _ _ (by omega)]; exact k3
 ·rw [T.get_set_ne _ _ (by omega)]; exact k4
 ·rw [hd]; exact k5.keep (Nat.le_refl _) fun b _ hb => ⟨oth b (h.db b hb).2.2.1,hb⟩
 ·rw [hl]; exact k6.keep (Nat.le_refl _) fun b _ hb => ⟨oth b (h.lb b hb).2.2,hb⟩
theorem FrT.setM {s s':St} {L D L' D':Nat → Prop} (h:FrT s s' m L D L' D') (hm:m < s'.nx) (w:Ev.B):FrT s ⟨s'.nx,s'.h.set m w⟩ m L D L' D' :=
 ⟨h.le,fun hw b hb => by
  have hb':s'.nx ≤ b:=hb
  exact (T.get_set_ne _ _ (by omega)).trans (h.wf hw b hb'),fun b hb h1 h2 => (T.get_set_ne _ _ (Ne.symm h1)).trans (h.keep b hb h1 h2),h.lb,h.db⟩
theorem enter_any (TG:TrG st q m n x Y Z E LB DB) (hB:B ≤ 1000) (a i:Nat) (ha:a ≤ n) (L:LOk n B E a) (hi:i ≤ n) (p:Tx) (hp:okS p) (nt:Nat) :
  Gd (tmF ⟨false,[],0,nt⟩ 108 [.p q 0,.int .i64 (a:Int),.s p,.int .i64 (i:Int)] st) fun r => r.1 = .t [] ∧ chgR st q m n x (enterE E a p i) LB DB r.2:=by
 rw [Gd_tmF rfl rfl Tryz.func108 rfl]
 simp [evOp_call,sets,T.get_set]
 rw [tmF_ne rfl]
 refine Gd.mono (place_any TG (by omega) a ha L p hp _) ?_
 rintro ⟨r,s1⟩ ⟨hr,x1⟩
 simp only at hr x1
 subst hr
 have TG1:=TG.ext x1
 obtain ⟨tq,hq,q0⟩:=TG1.cell
 obtain ⟨ty,sz,t,hm,hro,hsz,row⟩:=TG1.row
 obtain ⟨e1,e2,e3,e4,e5,e6,e7⟩:=row a ha
 have hia:=fun k => TG1.idx ha k
 have hii:=fun k => TG1.idx hi k
 have hlt:=TG1.lt
 simp [evOp_call,sets,T.get_set,tupK,loadE_eq,getC_eq,hq,q0,hia,hm,e5]
 refine ⟨by kernel_rfl,?_⟩
 refine evOp_build1 (v:=.g [.s p,.int .i64 (i:Int)]) (cs:=[.s p,.int .i64 (i:Int)]) (fun k => el90 k) (fun k => ze109 k) rfl (by decide) (by simp [T.get_set]) (fun k => rfl) rfl ?_
 have x2:Ext s1.nx s1 ⟨s1.nx + 1,s1.h.set s1.nx (.cs 109 2 (sets [.s p,.int .i64 (i:Int)] 0 .lf))⟩:=(Ext.refl _ _).new (Nat.le_refl _) _
 have gb2:∃ tb,(s1.h.set s1.nx (.cs 109 2 (sets [.s p,.int .i64 (i:Int)] 0 .lf))).get s1.nx = some (.cs 109 2 tb) ∧ tb.get 0 = some (.s p) ∧ tb.get 1 = some (.int .i64 (i:Int)):=⟨_,T.get_set_same _ _ _,by simp [sets,T.get_set],by simp [sets,T.get_set]⟩
 simp [evOp_call,T.get_set]
 generalize hS2:(⟨s1.nx + 1,s1.h.set s1.nx (.cs 109 2 (sets [.s p,.int .i64 (i:Int)] 0 .lf))⟩:St) = s2 at x2 ⊢
 have gb2':∃ tb,s2.h.get s1.nx = some (.cs 109 2 tb) ∧ tb.get 0 = some (.s p) ∧ tb.get 1 = some (.int .i64 (i:Int)):=by rw [← hS2]; exact gb2
 have n2:s2.nx = s1.nx + 1:=by rw [← hS2]
 have TG2:=TG1.ext x2
 have hq2:=(x2.keep q hlt.1).trans hq
 have e72:NRow s2 LB (Z a) (E a).l:=e7.keep x2.le fun b hb hl => ⟨x2.keep b (e7.blk b hb).2,hl⟩
 have hff:∀ b,b ≠ q → inF [(q,q + 1)] b = false:=fun b h => by rw [inF_cons,if_neg (by omega)]; rfl
 have hzf:∀ b,BlkOf (Z a) b → inF [(q,q + 1)] b = false:=fun b hb => hff b (TG2.lb b (e72.blk b hb).1).2.1
 simp only [← n2]
 rw [cxOf_callL [(q,q + 1)] (by kernel_rfl) (by kernel_rfl) (looseW_at 19 (.p q 0) (by simp [T.get_set]) (by kernel_rfl)) (fun y hy => by
  simp at hy
  rcases hy with rfl | rfl | rfl <;> (rw [clashes_tmp']; simp [T.get_set,blkOf])
  ·exact rd_blkF e72.rd hzf
  ·exact hff _ (by omega)) (fun p hp => by simp at hp; subst hp; rw [isRo_cs hq2]; decide),forb_cons (by kernel_rfl) rfl]
 simp only [List.append_nil]
 refine ins_bothN (LB:=LB) (cntT_le _ _) (by have:=L.len; omega) (by omega) (hff _ (by omega)) gb2' e72 (fun b hb => ⟨hzf b hb,by have:=(e7.blk b hb).2; omega⟩) ?_
 rintro mY s3 y1 y2 ⟨tyY,szY,tY,y3,y4,y5,y6⟩ n3 k3 w3
 have k3':∀ b,b < s2.nx → ¬ LB b → s3.h.get b = s2.h.get b:=fun b hb hl => k3 b hb fun h => hl (e72.blk b h).1
 have hqL:¬ LB q:=fun h => (TG2.lb q h).2.1 rfl
 have hmL:¬ LB m:=fun h => (TG2.lb m h).2.2 rfl
 have hq3:=(k3' q (by omega) hqL).trans hq2
 have hm2:=(x2.keep m hlt.2.1).trans hm
 have hm3:=(k3' m (by omega) hmL).trans hm2
 have hzone:V.one (.sg mY 0 ((E a).l.length + 1) 2) = true:=rfl
 simp [evOp_call,T.get_set,loadE_eq,getC_eq,hia]
 rw [cxOf_store (by kernel_rfl),forb_step (by kernel_rfl) (forb_cons (by kernel_rfl) rfl)]
 obtain ⟨f1,f2,f3,f4,f5,f6,f7⟩:=row i hi
 have hb1:a * 5 + 4 + 1 ≤ sz:=by omega
 have hb2:i * 5 + 2 + 1 ≤ sz:=by omega
 have hb3:i * 5 + 1 + 1 ≤ sz:=by omega
 have hb1':a * 5 + 5 ≤ sz:=by omega
 have hb2':i * 5 + 3 ≤ sz:=by omega
 have hb3':i * 5 + 2 ≤ sz:=by omega
 have hne1:¬ a * 5 + 4 = i * 5 + 2:=by omega
 have hmq:¬ m = q:=hlt.2.2
 simp [evOp_call,T.get_set,sets,putB_eq,loadE_eq,getC_eq,hm3,hq3,q0,hro,hb1,hb2,hb3,hb1',hb2',hb3',hne1,hmq,hia,hii,f3]
 have hmYl:¬ LB mY:=fun h => by have:=(TG2.lb _ h).1; omega
 obtain ⟨s4,hs4⟩:∃ s:St,s = ⟨s3.nx,s3.h.set m (.cs ty sz (t.set (a * 5 + 4) (.sg mY 0 ((E a).l.length + 1) 2)))⟩:=⟨_,rfl⟩
 have o4:∀ b,b ≠ m → s4.h.get b = s3.h.get b:=fun b hb => by rw [hs4]; exact T.get_set_ne _ _ (Ne.symm hb)
 have n4:s4.nx = s3.nx:=by rw [hs4]
 have m4:s4.h.get m = some (.cs ty sz (t.set (a * 5 + 4) (.sg mY 0 ((E a).l.length + 1) 2))):=by rw [hs4]; exact T.get_set_same _ _ _
 have hlt2:=TG2.lt
 obtain ⟨LB',hLB'⟩:∃ LB':Nat → Prop,LB' = fun b => LB b ∧ ¬ BlkOf (Z a) b ∨ b = mY:=⟨_,rfl⟩
 have TG4:TrG s4 q m n x (fun j => if j = a then Y a else Y j) (fun j => if j = a then .sg mY 0 ((E a).l.length + 1) 2 else Z j) (enter1 E a p i) LB' DB:=by
  refine TG2.upd ha (Y a) (.sg mY 0 ((E a).l.length + 1) 2) { E a with l:=insT (cntT p (E a).l) (p,i) (E a).l } (by rw [n4]; exact n3) hm2 m4 (fun j hj => T.get_set_ne _ _ (by omega)) ?_ ?_ ?_ ?_ (T.get_set_same _ _ _) ?_ ?_ ((o4 q (Ne.symm hmq)).trans (k3' q hlt2.1 hqL)) (fun b hb => ?_) (fun b hb hz => ?_) (fun b hb => .inr fun h => ?_) (fun b hb => ?_) (fun b hb => ?_)
  ·rw [T.get_set_ne _ _ (by omega)]; exact e1
  ·rw [T.get_set_ne _ _ (by omega)]; exact e2
  ·rw [T.get_set_ne _ _ (by omega)]; exact e3
  ·rw [T.get_set_ne _ _ (by omega)]; exact e4
  ·refine e6.keep (by rw [n4]; have:=x2.le; omega) fun b _ hb => ⟨?_,hb⟩
   have hdb:=TG1.db b hb
   exact (o4 b hdb.2.2.1).trans ((k3' b (by omega) hdb.2.2.2).trans (x2.keep b hdb.1))
  ·refine .inr ⟨mY,tyY,szY,tY,by show V.sg mY 0 ((E a).l.length + 1) 2 = .sg mY 0 (insT (cntT p (E a).l) (p,i) (E a).l).length 2; rw [insT_length (cntT_le _ _)],by rw [n4]; exact y2,by rw [hLB']; exact .inr rfl,(o4 mY (by omega)).trans y3,y4,by show (insT (cntT p (E a).l) (p,i) (E a).l).length * 2 ≤ szY; rw [insT_length (cntT_le _ _)]; exact y5,y6⟩
  ·have hdb:=TG2.db b hb
   exact ⟨(o4 b hdb.2.2.1).trans (k3' b hdb.1 hdb.2.2.2),hb⟩
  ·have hlb:=TG2.lb b hb
   exact ⟨(o4 b hlb.2.2).trans (k3 b hlb.1 hz),by rw [hLB']; exact .inl ⟨hb,hz⟩⟩
  ·rcases hb with ⟨_,_,_,e⟩ | ⟨_,_,_,e⟩
   ·cases e
   ·injection e with e; subst e; exact hmYl h
  ·rw [hLB'] at hb
   rcases hb with ⟨hb,_⟩ | rfl
   ·have:=TG2.lb b hb; rw [n4]; omega
   ·rw [n4]; omega
  ·have hdb:=TG2.db b hb
   refine ⟨by rw [n4]; omega,hdb.2.1,hdb.2.2.1,fun h => ?_⟩
   rw [hLB'] at h
   rcases h with ⟨h,_⟩ | rfl
   ·exact hdb.2.2.2 h
   ·omega
 have F4:FrT st s4 m LB DB LB' DB:=by
  refine ⟨by have:=x1.le; omega,fun w b hb => ?_,fun b hb h1 h2 => ?_,fun b hb => ?_,fun b hb => .inl hb⟩
  ·rw [n4] at hb
   exact (o4 b (by omega)).trans (w3 (x2.wf (x1.wf w)) b hb)
  ·have:=x1.le
   exact (o4 b h1).trans ((k3' b (by omega) h2).trans ((x2.keep b (by omega)).trans (x1.keep b hb)))
  ·rw [hLB'] at hb
   rcases hb with ⟨hb,_⟩ | rfl
   ·exact .inl hb
   ·have:=x1.le; exact .inr (by omega)
 have TG5:=TG4.setI hi m4 2 (by omega) (IntKind.i64.wrap ((E i).nm + 1)) { enter1 E a p i i with nm:=IntKind.i64.wrap ((enter1 E a p i i).nm + 1) } rfl rfl rfl rfl (by
  show some (V.int .i64 (IntKind.i64.wrap ((enter1 E a p i i).nm + 1))) = _
  have:(enter1 E a p i i).nm = (E i).nm:=by unfold enter1 updE; split <;> simp_all
  rw [this]; rfl)
 have TG6:=TG5.setI hi (T.get_set_same _ _ _) 1 (by omega) (a:Int) { enter2 (enter1 E a p i) i i with up:=a } rfl rfl rfl rfl rfl
 have F6:=F4.setM (by rw [n4]; have:=x1.le; have:=x2.le; omega) (.cs ty sz (((t.set (a * 5 + 4) (.sg mY 0 ((E a).l.length + 1) 2)).set (i * 5 + 2) (.int .i64 (IntKind.i64.wrap ((E i).nm + 1)))).set (i * 5 + 1) (.int .i64 (a:Int))))
 rw [hs4] at TG6 F6
 simp only [T.set_set] at TG6 F6
 exact ⟨_,_,LB',DB,TG6,F6⟩
end
end Go.Proofs.YtgcpgidofikcdaaGreatDoor
set_option linter.unusedSimpArgs false
set_option linter.unusedVariables false
namespace Go.Proofs.YtgcpgidofikcdaaGreatDoor
open Go.RowKit Ev
theorem cellsN_del (c:Nat) (l:List (Tx × Nat)):cellsN (l.eraseIdx c) = delL (c * 2) 2 (cellsN l):=by
 rw [List.eraseIdx_eq_take_drop_succ,cellsN_app,cellsN_take,cellsN_drop,show (c + 1) * 2 = c * 2 + 2 by omega]
 rfl
section
variable {st:St} {q m n B:Nat} {x:V} {Y Z:Nat → V} {E:Tr} {LB DB:Nat → Prop}
theorem TrG.setNo {s:St} (h:TrG s q m n x Y Z E LB DB) {i:Nat} (hi:i ≤ n) {ty sz:Nat} {t:T V} (hm:s.h.get m = some (.cs ty sz t)) :
  TrG ⟨s.nx,s.h.set m (.cs ty sz (sets [.int .i64 0,.int .i64 0,.int .i64 0,.c (.slice none 0 0),.c (.slice none 0 0)] (i * 5) t))⟩ q m n x (fun j => if j = i then .c (.slice none 0 0) else Y j) (fun j => if j = i then .c (.slice none 0 0) else Z j) (updE E i noE) LB DB:=by
 have hlt:=h.lt
 have oth:∀ w b,b ≠ m → (s.h.set m w).get b = s.h.get b:=fun w b hb => T.get_set_ne _ _ (Ne.symm hb)
 have gz:∀ j v,([V.int .i64 0,.int .i64 0,.int .i64 0,.c (.slice none 0 0),.c (.slice none 0 0)]:List V)[j]? = some v → (sets [V.int .i64 0,.int .i64 0,.int .i64 0,.c (.slice none 0 0),.c (.slice none 0 0)] (i * 5) t).get (i * 5 + j) = some v:=fun j v hj => by
  have:=lt_of_get hj
  rw [get_sets,if_pos ⟨by omega,by omega⟩,show i * 5 + j - i * 5 = j by omega]
  exact hj
 refine h.upd hi _ _ noE (Nat.le_refl _) hm (T.get_set_same _ _ _) (fun j hj => ?_) (gz 0 _ rfl) (gz 1 _ rfl) (gz 2 _ rfl) (gz 3 _ rfl) (gz 4 _ rfl) ?_ (.inl ⟨rfl,.inl rfl⟩) (oth _ q (Ne.symm hlt.2.2)) (fun b hb => ⟨oth _ b (h.db b hb).2.2.1,hb⟩) (fun b hb _ => ⟨oth _ b (h.lb b hb).2.2,hb⟩) (fun b hb => ?_) (fun b hb => h.lb b hb) (fun b hb => h.db b hb)
 ·rw [get_sets,if_neg (fun h => by have h2:=h.2; simp at h2; omega)]
 ·exact ⟨⟨rfl,.inl ⟨.inl rfl,rfl⟩⟩,fun b hb => (by rcases hb with ⟨_,_,_,e⟩ | ⟨_,_,_,e⟩ <;> cases e),fun _ _ _ _ e => (by cases e)⟩
 ·rcases hb with ⟨_,_,_,e⟩ | ⟨_,_,_,e⟩ <;> cases e
theorem leave_any (TG:TrG st q m n x Y Z E LB DB) (hB:B ≤ 1000) (a:Nat) (ha:a ≤ n) (L:LOk n B E a) (p:Tx) (hp:okS p) (nt:Nat) :
  Gd (tmF ⟨false,[],0,nt⟩ 111 [.p q 0,.int .i64 (a:Int),.s p] st) fun r => r.1 = .t [] ∧ chgR st q m n x (leaveE E a p) LB DB r.2:=by
 rw [Gd_tmF rfl rfl Tryz.func111 rfl]
 simp [evOp_call,sets,T.get_set]
 rw [tmF_ne rfl]
 refine Gd.mono (place_any TG (by omega) a ha L p hp _) ?_
 rintro ⟨r,s1⟩ ⟨hr,x1⟩
 simp only at hr x1
 subst hr
 cases he:entT p (E a).l with
 | none =>
  simp [evOp_call,sets,T.get_set,tupK]
  have e:leaveE E a p = E:=by unfold leaveE; rw [he]
  rw [e]
  exact ⟨Y,Z,LB,DB,TG.ext x1,FrT.ext x1⟩
 | some i =>
  have TG1:=TG.ext x1
  obtain ⟨tq,hq,q0⟩:=TG1.cell
  obtain ⟨ty,sz,t,hm,hro,hsz,row⟩:=TG1.row
  obtain ⟨e1,e2,e3,e4,e5,e6,e7⟩:=row a ha
  have hia:=fun k => TG1.idx ha k
  have hlt:=TG1.lt
  have hg:=entT_some he
  have hc:=(List.getElem?_eq_some_iff.1 hg).1
  have hi:i ≤ n:=(L.ent _ (List.mem_of_getElem? hg)).2
  obtain ⟨f1,f2,f3,f4,f5,f6,f7⟩:=row i hi
  have hii:=fun k => TG1.idx hi k
  have hB2:=L.len
  rcases e7 with ⟨e70,_⟩ | ⟨mz,tyz,szz,tz,e71,e72,e73,e74,e75,e76,e77⟩
  ·rw [e70] at hc; cases hc
  have hnr:NRow s1 LB (Z a) (E a).l:=.inr ⟨mz,tyz,szz,tz,e71,e72,e73,e74,e75,e76,e77⟩
  obtain ⟨m1,o1,ty1,sz1,tr1,i1,b1,k1,l1,c1⟩:=hnr.rd.idx (st:=s1) un90 io109 hc
  have d1:tr1.get (o1 + 1) = some (.int .i64 (i:Int)):=c1 1 _ (by omega) (cellsN_get _ _ _ hg).2
  have hwc:IntKind.i64.wrap ((cntT p (E a).l:Int) + 1) = (cntT p (E a).l:Int) + 1:=wrap_in (by omega) (by omega)
  rw [e71] at e5
  have d2:tz.get (cntT p (E a).l * 2 + 1) = some (.int .i64 (i:Int)):=e77 _ _ (cellsN_get _ _ _ hg).2
  simp [evOp_call,sets,T.get_set,tupK,loadE_eq,getC_eq,hq,q0,hia,hm,e5,hc,e74,d2,hwc]
  refine ⟨by kernel_rfl,?_⟩
  have hff:∀ b,b ≠ q → inF [(q,q + 1)] b = false:=fun b h => by rw [inF_cons,if_neg (by omega)]; rfl
  have hzq:=TG1.lb mz e73
  have hqq:inF [(q,q + 1)] q = true:=by rw [inF_cons,if_pos (by omega)]
  rw [cxOf_callL [(q,q + 1)] (by kernel_rfl) (by kernel_rfl) (looseW_at 32 (.p q 0) (by simp [T.get_set]) (by kernel_rfl)) (fun y hy => by
   simp at hy
   rcases hy with rfl | rfl | rfl <;> (rw [clashes_tmp']; simp [T.get_set,blkOf])
   ·exact hff _ hzq.2.1) (fun p hp => by simp at hp; subst hp; rw [isRo_cs hq]; decide),forb_nil]
  simp only [List.append_nil]
  show Gd (liftF tmK ⟨false,[(q,q + 1)],0,_⟩ _ _ s1) _
  have hgz:(er [(q,q + 1)] s1).h.get mz = some (.cs tyz szz tz):=by rw [er_get,if_pos ⟨e72,hff _ hzq.2.1⟩]; exact e74
  refine Gd_lift3 (R:=fun v s' => v = .sg mz 0 ((E a).l.length - 1) 2 ∧ ∃ tr',s' = ⟨s1.nx,(er [(q,q + 1)] s1).h.set mz (.cs tyz szz tr')⟩ ∧ ∀ j v,(cellsN ((E a).l.eraseIdx (cntT p (E a).l)))[j]? = some v → tr'.get j = some v) (by
   rw [tmK_ne rfl]
   refine Gd.mono (delC_N 0 _ (er [(q,q + 1)] s1) mz (E a).l.length (cntT p (E a).l) tyz szz tz (cellsN (E a).l) (Nat.zero_le _) hc (by omega) e76 hgz e75 (cellsN_length _) e77) ?_
   rintro ⟨v,s'⟩ ⟨hv,tr',hs',htr⟩
   simp only at hv hs'
   subst hv hs'
   refine ⟨⟨rfl,tr',rfl,fun j v hj => htr j v (by rw [← cellsN_del]; exact hj)⟩,rfl,fun b hb => ?_,fun b hb hf => ?_⟩
   ·have hb':s1.nx ≤ b:=hb
    rw [T.get_set_ne _ _ (by omega)]
    exact er_wf _ _ b hb'
   ·rw [T.get_set_ne _ _ (fun e => by subst e; rw [hff _ hzq.2.1] at hf; cases hf),er_get,if_neg (fun h => by rw [hf] at h; cases h.2)]) ?_
  rintro v st1 s2 ⟨rfl,tr',rfl,htr⟩ n2 hget w2
  have g2:∀ b,b < s1.nx → b ≠ mz → s2.h.get b = s1.h.get b:=fun b hb hne => by
   rw [hget b hb]
   split
   ·rfl
   ·rename_i c
    rw [T.get_set_ne _ _ (Ne.symm hne),er_get,if_pos ⟨hb,by simpa using c⟩]
  have gz2:s2.h.get mz = some (.cs tyz szz tr'):=by
   rw [hget mz e72,if_neg (by rw [hff _ hzq.2.1]; decide),T.get_set_same]
  have hq2:=(g2 q hlt.1 (Ne.symm hzq.2.1)).trans hq
  have hm2:=(g2 m hlt.2.1 (Ne.symm hzq.2.2)).trans hm
  simp [evOp_call,T.get_set,loadE_eq,getC_eq,hia]
  rw [cxOf_store (by kernel_rfl),forb_step (by kernel_rfl) rfl]
  have hb1:a * 5 + 4 + 1 ≤ sz:=by omega
  have hb1':a * 5 + 5 ≤ sz:=by omega
  have hb2:i * 5 + 2 + 1 ≤ sz:=by omega
  have hb2':i * 5 + 3 ≤ sz:=by omega
  have hne1:¬ a * 5 + 4 = i * 5 + 2:=by omega
  have hmq:¬ m = q:=hlt.2.2
  simp [evOp_call,T.get_set,sets,putB_eq,loadE_eq,getC_eq,hm2,hq2,q0,hro,hb1,hb1',hb2,hb2',hne1,hmq,hia,hii,f3]
  obtain ⟨s4,hs4⟩:∃ s:St,s = ⟨s2.nx,s2.h.set m (.cs ty sz (t.set (a * 5 + 4) (.sg mz 0 ((E a).l.length - 1) 2)))⟩:=⟨_,rfl⟩
  have o4:∀ b,b ≠ m → s4.h.get b = s2.h.get b:=fun b hb => by rw [hs4]; exact T.get_set_ne _ _ (Ne.symm hb)
  have n4:s4.nx = s1.nx:=by rw [hs4]; exact n2
  have m4:s4.h.get m = some (.cs ty sz (t.set (a * 5 + 4) (.sg mz 0 ((E a).l.length - 1) 2))):=by rw [hs4]; exact T.get_set_same _ _ _
  have hle:((E a).l.eraseIdx (cntT p (E a).l)).length = (E a).l.length - 1:=List.length_eraseIdx_of_lt hc
  have TG4:TrG s4 q m n x (fun j => if j = a then Y a else Y j) (fun j => if j = a then .sg mz 0 ((E a).l.length - 1) 2 else Z j) (leave1 E a p) LB DB:=by
   refine TG1.upd ha (Y a) (.sg mz 0 ((E a).l.length - 1) 2) { E a with l:=(E a).l.eraseIdx (cntT p (E a).l) } (by rw [n4]; exact Nat.le_refl _) hm m4 (fun j hj => T.get_set_ne _ _ (by omega)) ?_ ?_ ?_ ?_ (T.get_set_same _ _ _) ?_ ?_ ((o4 q (Ne.symm hmq)).trans (g2 q hlt.1 (Ne.symm hzq.2.1))) (fun b hb => ?_) (fun b hb hz => ?_) (fun b hb => .inl ?_) (fun b hb => ?_) (fun b hb => ?_)
   ·rw [T.get_set_ne _ _ (by omega)]; exact e1
   ·rw [T.get_set_ne _ _ (by omega)]; exact e2
   ·rw [T.get_set_ne _ _ (by omega)]; exact e3
   ·rw [T.get_set_ne _ _ (by omega)]; exact e4
   ·refine e6.keep (by rw [n4]; exact Nat.le_refl _) fun b _ hb => ⟨?_,hb⟩
    have hdb:=TG1.db b hb
    exact (o4 b hdb.2.2.1).trans (g2 b hdb.1 (fun e => hdb.2.2.2 (e ▸ e73)))
   ·refine .inr ⟨mz,tyz,szz,tr',by show V.sg mz 0 ((E a).l.length - 1) 2 = .sg mz 0 ((E a).l.eraseIdx (cntT p (E a).l)).length 2; rw [hle],by rw [n4]; exact e72,e73,(o4 mz hzq.2.2).trans gz2,e75,by show ((E a).l.eraseIdx (cntT p (E a).l)).length * 2 ≤ szz; rw [hle]; omega,htr⟩
   ·have hdb:=TG1.db b hb
    exact ⟨(o4 b hdb.2.2.1).trans (g2 b hdb.1 (fun e => hdb.2.2.2 (e ▸ e73))),hb⟩
   ·have hlb:=TG1.lb b hb
    exact ⟨(o4 b hlb.2.2).trans (g2 b hlb.1 (fun e => hz (by rw [e,e71]; exact .inr ⟨_,_,_,rfl⟩))),hb⟩
   ·rcases hb with ⟨_,_,_,e⟩ | ⟨_,_,_,e⟩
    ·cases e
    ·injection e with e; subst e; rw [e71]; exact .inr ⟨_,_,_,rfl⟩
   ·have:=TG1.lb b hb; rw [n4]; exact this
   ·have:=TG1.db b hb; rw [n4]; exact this
  have F4:FrT st s4 m LB DB LB DB:=by
   refine ⟨by rw [n4]; exact x1.le,fun w b hb => ?_,fun b hb h1 h2 => ?_,fun b hb => .inl hb,fun b hb => .inl hb⟩
   ·rw [n4] at hb
    exact (o4 b (by omega)).trans (w2 (x1.wf w) b (by rw [n2]; exact hb))
   ·have:=x1.le
    exact (o4 b h1).trans ((g2 b (by omega) (fun e => h2 (e ▸ e73))).trans (x1.keep b hb))
  have hnm:(leave1 E a p i).nm = (E i).nm:=by unfold leave1 updE; split <;> simp_all
  have TG5:=TG4.setI hi m4 2 (by omega) (IntKind.i64.wrap ((E i).nm - 1)) { leave1 E a p i with nm:=IntKind.i64.wrap ((leave1 E a p i).nm - 1) } rfl rfl rfl rfl (by
   show some (V.int .i64 (IntKind.i64.wrap ((leave1 E a p i).nm - 1))) = _
   rw [hnm]; rfl)
  have hmn:m < s4.nx:=by rw [n4]; exact hlt.2.1
  have F5:=F4.setM hmn (.cs ty sz ((t.set (a * 5 + 4) (.sg mz 0 ((E a).l.length - 1) 2)).set (i * 5 + 2) (.int .i64 (IntKind.i64.wrap ((E i).nm - 1)))))
  have hlv:(leave2 (leave1 E a p) i i).nm = IntKind.i64.wrap ((E i).nm - 1):=by unfold leave2; rw [updE_same,← hnm]
  by_cases cz:IntKind.i64.wrap ((E i).nm - 1) = 0
  ·have hb5:i * 5 + 5 ≤ sz:=by omega
   have TG6:=TG5.setNo hi (T.get_set_same _ _ _)
   have F6:=F5.setM hmn (.cs ty sz (sets [.int .i64 0,.int .i64 0,.int .i64 0,.c (.slice none 0 0),.c (.slice none 0 0)] (i * 5) ((t.set (a * 5 + 4) (.sg mz 0 ((E a).l.length - 1) 2)).set (i * 5 + 2) (.int .i64 (IntKind.i64.wrap ((E i).nm - 1))))))
   have hl:leaveE E a p = updE (leave2 (leave1 E a p) i) i noE:=by
    unfold leaveE leave3
    rw [he]
    simp only
    rw [hlv,if_pos cz]
   rw [hl]
   rw [hs4] at TG6 F6
   simp only [T.set_set] at TG6 F6
   rw [cz] at TG6 F6 ⊢
   simp [evOp_call,T.get_set,sets,putB_eq,loadE_eq,getC_eq,hq2,q0,hro,hb5,hmq,hii,cellsOf,storeK_g]
   have R:chgR st q m n x (updE (leave2 (leave1 E a p) i) i noE) LB DB _:=⟨_,_,LB,DB,TG6,F6⟩
   exact R
  ·have hl:leaveE E a p = leave2 (leave1 E a p) i:=by
    unfold leaveE leave3
    rw [he]
    simp only
    rw [hlv,if_neg cz]
   rw [hl]
   rw [hs4] at TG5 F5
   simp only [T.set_set] at TG5 F5
   simp [evOp_call,T.get_set,sets,cz]
   exact ⟨_,_,LB,DB,TG5,F5⟩
end
end Go.Proofs.YtgcpgidofikcdaaGreatDoor
set_option linter.unusedSimpArgs false
set_option linter.unusedVariables false
namespace Go.Proofs.YtgcpgidofikcdaaGreatDoor
open Go.RowKit Ev
def clR (st:St) (z el n:Nat) (l:List V) (r:V × St):Prop:=RdRow r.2 r.1 z n l ∧ (∀ b,BlkOf r.1 b → st.nx ≤ b ∧ b < r.2.nx) ∧ (0 < n → OwnRow st.nx r.2 r.1 z n l) ∧ (n = 0 → r.1 = .c (.slice none 0 0) ∨ ∃ m,r.1 = .sl m 0 0 0 ∧ st.nx ≤ m ∧ m < r.2.nx ∧ r.2.h.get m = some (.cs el 0 .lf)) ∧ CapOk r.1 ∧ Ext st.nx st r.2
theorem cloneB_any (st:St) (x:V) (n:Nat) (l:List V) (hx:RdRow st x 1 n l) (hn:n ≤ 1000000) (nt:Nat) :
  Gd (callL Tryz.prog ⟨false,[],0,nt⟩ 57 [x] st) (clR st 1 5 n l):=by
 rw [Gd_callL Tryz.func57 rfl]
 by_cases hnil:isNil x = true
 ·obtain ⟨rfl,rfl⟩:=isNil_len hx hnil
  simp [sets,T.get_set,eql_nil un27 hx,hnil]
  exact ⟨hx,fun b hb => (by rcases hb with ⟨_,_,_,e⟩ | ⟨_,_,_,e⟩ <;> cases e),fun h => absurd h (Nat.lt_irrefl 0),fun _ => .inl rfl,fun _ _ _ _ e => (by cases e),Ext.refl _ _⟩
 ·simp [sets,T.get_set,eql_nil un27 hx,hnil]
  rw [evOp_build0 (fun k => el27 k) (fun k => ze5 k) rfl]
  simp [T.get_set]
  have he:Ext st.nx st ⟨st.nx + 1,st.h.set st.nx (.cs 5 0 .lf)⟩:=(Ext.refl _ _).new (Nat.le_refl _) _
  have hx':=hx.ext he
  refine Gd_append0 un27 un27 io5 (by decide) (T.get_set_same _ _ _) hx.notS (fun k => hx.len k) (fun k => hx'.firsts k) hx.1 (by omega) (fun h0 => ?_) fun h1 => ?_
  ·subst h0
   simp [T.get_set]
   have hl:l = []:=List.length_eq_zero_iff.1 (by have:=hx.1; omega)
   subst hl
   exact ⟨⟨rfl,.inr (.inl ⟨st.nx,0,0,5,0,.lf,rfl,Nat.lt_succ_self _,T.get_set_same _ _ _,Nat.le_refl _,fun j v h => by simp at h⟩)⟩,fun b hb => (by
    rcases hb with ⟨_,_,_,e⟩ | ⟨_,_,_,e⟩
    ·injection e with e; subst e; exact ⟨Nat.le_refl _,Nat.lt_succ_self _⟩
    ·cases e),fun h => absurd h (Nat.lt_irrefl 0),fun _ => .inr ⟨st.nx,rfl,Nat.le_refl _,Nat.lt_succ_self _,T.get_set_same _ _ _⟩,fun _ _ _ _ e => (by cases e; exact Nat.le_refl _),he⟩
  ·simp [T.get_set]
   have h2:=he.new (Nat.le_succ _) (.cs 5 l.length (sets l 0 .lf))
   have ho:OwnRow st.nx ⟨st.nx + 1 + 1,(st.h.set st.nx (.cs 5 0 .lf)).set (st.nx + 1) (.cs 5 l.length (sets l 0 .lf))⟩ (.sg (st.nx + 1) 0 n 1) 1 n l:=by
    refine ⟨hx.1,.inr ⟨st.nx + 1,5,sets l 0 .lf,rfl,Nat.le_succ _,Nat.lt_succ_self _,?_,by decide,fun j v hj => ?_⟩⟩
    ·rw [← hx.1]; exact T.get_set_same _ _ _
    ·have hjl:j < l.length:=lt_of_get hj
     rw [get_sets,if_pos ⟨Nat.zero_le _,by omega⟩]
     simpa using hj
   have h0:¬ n = 0:=by omega
   exact ⟨ho.rd,fun b hb => (by
    rcases hb with ⟨_,_,_,e⟩ | ⟨_,_,_,e⟩
    ·cases e
    ·injection e with e; subst e; exact ⟨Nat.le_succ _,Nat.lt_succ_self _⟩),fun _ => ho,fun h => absurd h h0,fun _ _ _ _ e => (by cases e),h2⟩
theorem cloneN_any (st:St) (x:V) (n:Nat) (l:List V) (hx:RdRow st x 2 n l) (hn:n ≤ 1000000) (nt:Nat) :
  Gd (callL Tryz.prog ⟨false,[],0,nt⟩ 58 [x] st) (clR st 2 109 n l):=by
 rw [Gd_callL Tryz.func58 rfl]
 by_cases hnil:isNil x = true
 ·obtain ⟨rfl,rfl⟩:=isNil_len hx hnil
  simp [sets,T.get_set,eql_nil un90 hx,hnil]
  exact ⟨hx,fun b hb => (by rcases hb with ⟨_,_,_,e⟩ | ⟨_,_,_,e⟩ <;> cases e),fun h => absurd h (Nat.lt_irrefl 0),fun _ => .inl rfl,fun _ _ _ _ e => (by cases e),Ext.refl _ _⟩
 ·simp [sets,T.get_set,eql_nil un90 hx,hnil]
  rw [evOp_build0 (fun k => el90 k) (fun k => ze109 k) rfl]
  simp [T.get_set]
  have he:Ext st.nx st ⟨st.nx + 1,st.h.set st.nx (.cs 109 0 .lf)⟩:=(Ext.refl _ _).new (Nat.le_refl _) _
  have hx':=hx.ext he
  refine Gd_append0 un90 un90 io109 (by decide) (T.get_set_same _ _ _) hx.notS (fun k => hx.len k) (fun k => hx'.firsts k) hx.1 (by omega) (fun h0 => ?_) fun h1 => ?_
  ·subst h0
   simp [T.get_set]
   have hl:l = []:=List.length_eq_zero_iff.1 (by have:=hx.1; omega)
   subst hl
   exact ⟨⟨rfl,.inr (.inl ⟨st.nx,0,0,109,0,.lf,rfl,Nat.lt_succ_self _,T.get_set_same _ _ _,Nat.le_refl _,fun j v h => by simp at h⟩)⟩,fun b hb => (by
    rcases hb with ⟨_,_,_,e⟩ | ⟨_,_,_,e⟩
    ·injection e with e; subst e; exact ⟨Nat.le_refl _,Nat.lt_succ_self _⟩
    ·cases e),fun h => absurd h (Nat.lt_irrefl 0),fun _ => .inr ⟨st.nx,rfl,Nat.le_refl _,Nat.lt_succ_self _,T.get_set_same _ _ _⟩,fun _ _ _ _ e => (by cases e; exact Nat.le_refl _),he⟩
  ·simp [T.get_set]
   have h2:=he.new (Nat.le_succ _) (.cs 109 l.length (sets l 0 .lf))
   have ho:OwnRow st.nx ⟨st.nx + 1 + 1,(st.h.set st.nx (.cs 109 0 .lf)).set (st.nx + 1) (.cs 109 l.length (sets l 0 .lf))⟩ (.sg (st.nx + 1) 0 n 2) 2 n l:=by
    refine ⟨hx.1,.inr ⟨st.nx + 1,109,sets l 0 .lf,rfl,Nat.le_succ _,Nat.lt_succ_self _,?_,by decide,fun j v hj => ?_⟩⟩
    ·rw [← hx.1]; exact T.get_set_same _ _ _
    ·have hjl:j < l.length:=lt_of_get hj
     rw [get_sets,if_pos ⟨Nat.zero_le _,by omega⟩]
     simpa using hj
   have h0:¬ n = 0:=by omega
   exact ⟨ho.rd,fun b hb => (by
    rcases hb with ⟨_,_,_,e⟩ | ⟨_,_,_,e⟩
    ·cases e
    ·injection e with e; subst e; exact ⟨Nat.le_succ _,Nat.lt_succ_self _⟩),fun _ => ho,fun h => absurd h h0,fun _ _ _ _ e => (by cases e),h2⟩
theorem cloneE_any (st:St) (x:V) (n:Nat) (l:List V) (hx:RdRow st x 5 n l) (hn:n ≤ 1000000) (nt:Nat) :
  Gd (callL Tryz.prog ⟨false,[],0,nt⟩ 63 [x] st) (clR st 5 92 n l):=by
 rw [Gd_callL Tryz.func63 rfl]
 by_cases hnil:isNil x = true
 ·obtain ⟨rfl,rfl⟩:=isNil_len hx hnil
  simp [sets,T.get_set,eql_nil un93 hx,hnil]
  exact ⟨hx,fun b hb => (by rcases hb with ⟨_,_,_,e⟩ | ⟨_,_,_,e⟩ <;> cases e),fun h => absurd h (Nat.lt_irrefl 0),fun _ => .inl rfl,fun _ _ _ _ e => (by cases e),Ext.refl _ _⟩
 ·simp [sets,T.get_set,eql_nil un93 hx,hnil]
  rw [evOp_build0 (fun k => el93 k) (fun k => ze92 k) rfl]
  simp [T.get_set]
  have he:Ext st.nx st ⟨st.nx + 1,st.h.set st.nx (.cs 92 0 .lf)⟩:=(Ext.refl _ _).new (Nat.le_refl _) _
  have hx':=hx.ext he
  refine Gd_append0 un93 un93 io92 (by decide) (T.get_set_same _ _ _) hx.notS (fun k => hx.len k) (fun k => hx'.firsts k) hx.1 (by omega) (fun h0 => ?_) fun h1 => ?_
  ·subst h0
   simp [T.get_set]
   have hl:l = []:=List.length_eq_zero_iff.1 (by have:=hx.1; omega)
   subst hl
   exact ⟨⟨rfl,.inr (.inl ⟨st.nx,0,0,92,0,.lf,rfl,Nat.lt_succ_self _,T.get_set_same _ _ _,Nat.le_refl _,fun j v h => by simp at h⟩)⟩,fun b hb => (by
    rcases hb with ⟨_,_,_,e⟩ | ⟨_,_,_,e⟩
    ·injection e with e; subst e; exact ⟨Nat.le_refl _,Nat.lt_succ_self _⟩
    ·cases e),fun h => absurd h (Nat.lt_irrefl 0),fun _ => .inr ⟨st.nx,rfl,Nat.le_refl _,Nat.lt_succ_self _,T.get_set_same _ _ _⟩,fun _ _ _ _ e => (by cases e; exact Nat.le_refl _),he⟩
  ·simp [T.get_set]
   have h2:=he.new (Nat.le_succ _) (.cs 92 l.length (sets l 0 .lf))
   have ho:OwnRow st.nx ⟨st.nx + 1 + 1,(st.h.set st.nx (.cs 92 0 .lf)).set (st.nx + 1) (.cs 92 l.length (sets l 0 .lf))⟩ (.sg (st.nx + 1) 0 n 5) 5 n l:=by
    refine ⟨hx.1,.inr ⟨st.nx + 1,92,sets l 0 .lf,rfl,Nat.le_succ _,Nat.lt_succ_self _,?_,by decide,fun j v hj => ?_⟩⟩
    ·rw [← hx.1]; exact T.get_set_same _ _ _
    ·have hjl:j < l.length:=lt_of_get hj
     rw [get_sets,if_pos ⟨Nat.zero_le _,by omega⟩]
     simpa using hj
   have h0:¬ n = 0:=by omega
   exact ⟨ho.rd,fun b hb => (by
    rcases hb with ⟨_,_,_,e⟩ | ⟨_,_,_,e⟩
    ·cases e
    ·injection e with e; subst e; exact ⟨Nat.le_succ _,Nat.lt_succ_self _⟩),fun _ => ho,fun h => absurd h h0,fun _ _ _ _ e => (by cases e),h2⟩
end Go.Proofs.YtgcpgidofikcdaaGreatDoor
set_option linter.unusedSimpArgs false
set_option linter.unusedVariables false
namespace Go.Proofs.YtgcpgidofikcdaaGreatDoor
open Go.RowKit Ev
def doR (st:St) (q m n:Nat) (x:V) (RE:Rs × Tr) (LB DB:Nat → Prop) (r:V × St):Prop:=∃ y z Y' Z' LB' DB',r.1 = resV RE.1.err RE.1.node RE.1.ty RE.1.links RE.1.size y z ∧ RdRow r.2 y 1 RE.1.data.length (yv RE.1.data) ∧ RdRow r.2 z 1 RE.1.names.length (sv RE.1.names) ∧ TrG r.2 q m n x Y' Z' RE.2 LB' DB' ∧ FrT st r.2 m LB DB LB' DB' ∧ ∀ b,BlkOf y b ∨ BlkOf z b → st.nx ≤ b ∧ ¬ LB' b
section
variable {st:St} {q m n B:Nat} {x:V} {Y Z:Nat → V} {E:Tr} {LB DB:Nat → Prop}
theorem nil_rd (s:St) (l:List V) (h:l = []):RdRow s (.c (.slice none 0 0)) 1 0 l:=by subst h; exact ⟨rfl,.inl ⟨.inl rfl,rfl⟩⟩
theorem nil_blk (b:Nat):¬ BlkOf (.c (.slice none 0 0)) b:=fun h => by rcases h with ⟨_,_,_,e⟩ | ⟨_,_,_,e⟩ <;> cases e
theorem doR_ref (TG:TrG st q m n x Y Z E LB DB) {s:St} (h:Ext st.nx st s) (e:Int):doR st q m n x (refR e,E) LB DB (resV e 0 0 0 0 (.c (.slice none 0 0)) (.c (.slice none 0 0)),s) :=
 ⟨_,_,Y,Z,LB,DB,rfl,nil_rd _ _ rfl,nil_rd _ _ rfl,TG.ext h,FrT.ext h,fun b h => by rcases h with h | h <;> exact absurd h (nil_blk b)⟩
theorem doR_node {E':Tr} {s:St} (h:chgR st q m n x E' LB DB s) (i:Nat):doR st q m n x (nodeR i,E') LB DB (resV 0 i 0 0 0 (.c (.slice none 0 0)) (.c (.slice none 0 0)),s):=by
 obtain ⟨Y',Z',LB',DB',h1,h2⟩:=h
 exact ⟨_,_,Y',Z',LB',DB',rfl,nil_rd _ _ rfl,nil_rd _ _ rfl,h1,h2,fun b h => by rcases h with h | h <;> exact absurd h (nil_blk b)⟩
theorem chg_fin (TG:TrG st q m n x Y Z E LB DB) {s1 s:St} {rb:Nat} {E':Tr} (x1:Ext st.nx st s1) (hrb:st.nx ≤ rb ∧ rb < s1.nx) (h:chgR s1 q m n x E' LB DB s):s.h.get rb = s1.h.get rb ∧ chgR st q m n x E' LB DB s ∧ ∀ w,chgR st q m n x E' LB DB ⟨s.nx,s.h.set rb w⟩:=by
 obtain ⟨Y',Z',LB',DB',h1,h2⟩:=h
 have nl:¬ LB rb:=fun e => by have:=(TG.lb _ e).1; omega
 have nd:¬ DB rb:=fun e => by have:=(TG.db _ e).1; omega
 have nm:rb ≠ m:=by have:=TG.lt.2.1; omega
 have nq:rb ≠ q:=by have:=TG.lt.1; omega
 have f:=(FrT.ext (m:=m) (LB:=LB) (DB:=DB) x1).trans h2
 refine ⟨h2.keep rb hrb.2 nm nl,⟨Y',Z',LB',DB',h1,f⟩,fun w => ⟨Y',Z',LB',DB',h1.keep (Nat.le_refl _) fun b hb => T.get_set_ne _ _ ?_,⟨f.le,fun hw b hb => ?_,fun b hb h3 h4 => (T.get_set_ne _ _ (by omega)).trans (f.keep b hb h3 h4),f.lb,f.db⟩⟩⟩
 ·intro e
  subst e
  rcases hb with hb | hb | hb | hb
  ·exact nq hb
  ·exact nm hb
  ·rcases h2.lb _ hb with h5 | h5
   ·exact nl h5
   ·omega
  ·rcases h2.db _ hb with h5 | h5
   ·exact nd h5
   ·omega
 ·have hb':s.nx ≤ b:=hb
  have:=h2.le
  exact (T.get_set_ne _ _ (by omega)).trans (f.wf hw b hb')
theorem unlink_any (TG:TrG st q m n x Y Z E LB DB) (O:TOk n B E) (hB:B ≤ 1000) (s:Tx) (hs:okS s) (nt:Nat) :
  Gd (tmF ⟨false,[],0,nt⟩ 43 [.p q 0,.s s] st) (doR st q m n x (unlinkE E s) LB DB):=by
 rw [Gd_tmF rfl rfl Tryz.func43 rfl]
 have x0:=fun w => (Ext.refl st.nx st).new (Nat.le_refl _) w
 simp [evOp_call,sets,T.get_set,newC_is]
 rw [tmF_ne rfl]
 refine Gd.mono (there_any (TG.ext (x0 _)) O (by omega) s hs _) ?_
 rintro ⟨r,s1⟩ ⟨hr,x1⟩
 simp only at hr x1
 subst hr
 have hx1:=(x0 _).trans (x1.mono (Nat.le_succ _))
 have n1:st.nx + 1 ≤ s1.nx:=x1.le
 have k1:=x1.keep st.nx (Nat.lt_succ_self _)
 simp only [T.get_set_same] at k1
 by_cases ce:(thereE E s).2.2.2 = 0
 rotate_left
 ·have hw:unlinkE E s = (refR (thereE E s).2.2.2,E):=if_pos ce
  simp [evOp_call,sets,T.get_set,tupK,ce]
  rw [tmF_ne rfl]
  refine Gd.mono (refuse_any s1 _ _) ?_
  rintro ⟨r,s2⟩ ⟨hr,x2⟩
  simp only at hr x2
  subst hr
  have n2:=x2.le
  have hx2:=hx1.trans (x2.mono hx1.le)
  have k2:=(x2.keep st.nx (by omega)).trans k1
  simp [evOp_call,sets,T.get_set,k2,storeK_g,putB_eq,roT,cellsOf,loadE_eq,getC_eq,getsB_succ,getsB_zero]
  rw [hw]
  exact doR_ref TG (hx2.set (Nat.le_refl _) (by omega) _) _
 have TG1:=TG.ext hx1
 obtain ⟨t1,t2,t3,t4⟩:=O.there ce
 have hin:(thereE E s).2.1 ≤ n:=by rw [t2]; exact (O.find _ _).1
 obtain ⟨tq,hq,q0⟩:=TG1.cell
 obtain ⟨ty,sz,t,hm,hro,hsz,row⟩:=TG1.row
 obtain ⟨e1,e2,e3,e4,e5,e6,e7⟩:=row _ hin
 have hii:=fun k => TG1.idx hin k
 by_cases ck:(E (thereE E s).2.1).k = 2
 ·have hw:unlinkE E s = (refR 5,E):=by unfold unlinkE; rw [if_neg (by simpa using ce),if_pos ck]
  simp [evOp_call,sets,T.get_set,tupK,ce,loadE_eq,getC_eq,hq,q0,hii,hm,e1,ck]
  rw [tmF_ne rfl]
  refine Gd.mono (refuse_any s1 _ _) ?_
  rintro ⟨r,s2⟩ ⟨hr,x2⟩
  simp only at hr x2
  subst hr
  have n2:=x2.le
  have hx2:=hx1.trans (x2.mono hx1.le)
  have k2:=(x2.keep st.nx (by omega)).trans k1
  simp [evOp_call,sets,T.get_set,k2,storeK_g,putB_eq,roT,cellsOf,loadE_eq,getC_eq,getsB_succ,getsB_zero]
  rw [hw]
  exact doR_ref TG (hx2.set (Nat.le_refl _) (by omega) _) _
 have ck':¬ ((E (thereE E s).2.1).k:Int) = 2:=by omega
 have hw:unlinkE E s = (nodeR (thereE E s).2.1,leaveE E (thereE E s).1 (thereE E s).2.2.1):=by unfold unlinkE; rw [if_neg (by simpa using ce),if_neg ck]
 simp [evOp_call,sets,T.get_set,tupK,ce,loadE_eq,getC_eq,hq,q0,hii,hm,e1,ck']
 refine Gd.mono (leave_any TG1 hB _ (O.kle (i:=(thereE E s).1) (by omega)).2 (O.lok _) (thereE E s).2.2.1 (by rw [t4.2.1]; exact ok_lastN hs) _) ?_
 rintro ⟨r,s2⟩ ⟨hr,c2⟩
 simp only at hr c2
 subst hr
 obtain ⟨k2,c3,c4⟩:=chg_fin TG hx1 ⟨Nat.le_refl _,by omega⟩ c2
 rw [k1] at k2
 simp [evOp_call,sets,T.get_set,k2,storeK_g,putB_eq,roT,cellsOf,loadE_eq,getC_eq,getsB_succ,getsB_zero]
 rw [hw]
 exact doR_node (c4 _) _
end
end Go.Proofs.YtgcpgidofikcdaaGreatDoor
set_option linter.unusedSimpArgs false
set_option linter.unusedVariables false
namespace Go.Proofs.YtgcpgidofikcdaaGreatDoor
open Go.RowKit Ev
section
variable {st:St} {q m n B:Nat} {x:V} {Y Z:Nat → V} {E:Tr} {LB DB:Nat → Prop}
theorem rmdir_any (TG:TrG st q m n x Y Z E LB DB) (O:TOk n B E) (hB:B ≤ 1000) (s:Tx) (hs:okS s) (nt:Nat) :
  Gd (tmF ⟨false,[],0,nt⟩ 44 [.p q 0,.s s] st) (doR st q m n x (rmdirE E s) LB DB):=by
 rw [Gd_tmF rfl rfl Tryz.func44 rfl]
 have x0:=fun w => (Ext.refl st.nx st).new (Nat.le_refl _) w
 simp [evOp_call,sets,T.get_set,newC_is]
 rw [tmF_ne rfl]
 refine Gd.mono (there_any (TG.ext (x0 _)) O (by omega) s hs _) ?_
 rintro ⟨r,s1⟩ ⟨hr,x1⟩
 simp only at hr x1
 subst hr
 have hx1:=(x0 _).trans (x1.mono (Nat.le_succ _))
 have n1:st.nx + 1 ≤ s1.nx:=x1.le
 have k1:=x1.keep st.nx (Nat.lt_succ_self _)
 simp only [T.get_set_same] at k1
 by_cases ce:(thereE E s).2.2.2 = 0
 rotate_left
 ·have hw:rmdirE E s = (refR (thereE E s).2.2.2,E):=if_pos ce
  simp [evOp_call,sets,T.get_set,tupK,ce]
  rw [tmF_ne rfl]
  refine Gd.mono (refuse_any s1 _ _) ?_
  rintro ⟨r,s2⟩ ⟨hr,x2⟩
  simp only at hr x2
  subst hr
  have n2:=x2.le
  have hx2:=hx1.trans (x2.mono hx1.le)
  have k2:=(x2.keep st.nx (by omega)).trans k1
  simp [evOp_call,sets,T.get_set,k2,storeK_g,putB_eq,roT,cellsOf,loadE_eq,getC_eq,getsB_succ,getsB_zero]
  rw [hw]
  exact doR_ref TG (hx2.set (Nat.le_refl _) (by omega) _) _
 have TG1:=TG.ext hx1
 obtain ⟨t1,t2,t3,t4⟩:=O.there ce
 have hin:(thereE E s).2.1 ≤ n:=by rw [t2]; exact (O.find _ _).1
 obtain ⟨tq,hq,q0⟩:=TG1.cell
 obtain ⟨ty,sz,t,hm,hro,hsz,row⟩:=TG1.row
 obtain ⟨e1,e2,e3,e4,e5,e6,e7⟩:=row _ hin
 have hii:=fun k => TG1.idx hin k
 by_cases ck:(E (thereE E s).2.1).k = 2
 rotate_left
 ·have ck':¬ ((E (thereE E s).2.1).k:Int) = 2:=by omega
  have hw:rmdirE E s = (refR 4,E):=by unfold rmdirE; rw [if_neg (by simpa using ce),if_pos ck]
  simp [evOp_call,sets,T.get_set,tupK,ce,loadE_eq,getC_eq,hq,q0,hii,hm,e1,ck']
  rw [tmF_ne rfl]
  refine Gd.mono (refuse_any s1 _ _) ?_
  rintro ⟨r,s2⟩ ⟨hr,x2⟩
  simp only at hr x2
  subst hr
  have n2:=x2.le
  have hx2:=hx1.trans (x2.mono hx1.le)
  have k2:=(x2.keep st.nx (by omega)).trans k1
  simp [evOp_call,sets,T.get_set,k2,storeK_g,putB_eq,roT,cellsOf,loadE_eq,getC_eq,getsB_succ,getsB_zero]
  rw [hw]
  exact doR_ref TG (hx2.set (Nat.le_refl _) (by omega) _) _
 by_cases c2:(thereE E s).2.1 = 2
 ·have hw:rmdirE E s = (refR 12,E):=by unfold rmdirE; rw [if_neg (by simpa using ce),if_neg (by simpa using ck),if_pos c2]
  rw [c2] at hii e1 ck
  have h22:∀ f:Nat → Res,asNat (V.int .i64 2) f = f 2:=fun _ => rfl
  have e1':t.get 10 = some (.int .i64 ((E 2).k:Int)):=e1
  simp [evOp_call,sets,T.get_set,tupK,ce,loadE_eq,getC_eq,hq,q0,hii,hm,e1',ck,c2,h22]
  rw [tmF_ne rfl]
  refine Gd.mono (refuse_any s1 _ _) ?_
  rintro ⟨r,s2⟩ ⟨hr,x2⟩
  simp only at hr x2
  subst hr
  have n2:=x2.le
  have hx2:=hx1.trans (x2.mono hx1.le)
  have k2:=(x2.keep st.nx (by omega)).trans k1
  simp [evOp_call,sets,T.get_set,k2,storeK_g,putB_eq,roT,cellsOf,loadE_eq,getC_eq,getsB_succ,getsB_zero]
  rw [hw]
  exact doR_ref TG (hx2.set (Nat.le_refl _) (by omega) _) _
 have c2':¬ ((thereE E s).2.1:Int) = 2:=by omega
 have hln:=e7.rd.lenS
 by_cases cl:(E (thereE E s).2.1).l = []
 rotate_left
 ·have hl0:0 < (E (thereE E s).2.1).l.length:=List.length_pos_iff.2 cl
  have hw:rmdirE E s = (refR 6,E):=by unfold rmdirE; rw [if_neg (by simpa using ce),if_neg (by simpa using ck),if_neg c2,if_pos cl]
  simp [evOp_call,sets,T.get_set,tupK,ce,loadE_eq,getC_eq,hq,q0,hii,hm,e1,ck,c2,c2',e5,hln,hl0]
  rw [tmF_ne rfl]
  refine Gd.mono (refuse_any s1 _ _) ?_
  rintro ⟨r,s2⟩ ⟨hr,x2⟩
  simp only at hr x2
  subst hr
  have n2:=x2.le
  have hx2:=hx1.trans (x2.mono hx1.le)
  have k2:=(x2.keep st.nx (by omega)).trans k1
  simp [evOp_call,sets,T.get_set,k2,storeK_g,putB_eq,roT,cellsOf,loadE_eq,getC_eq,getsB_succ,getsB_zero]
  rw [hw]
  exact doR_ref TG (hx2.set (Nat.le_refl _) (by omega) _) _
 have hl0:(E (thereE E s).2.1).l.length = 0:=by rw [cl]; rfl
 have hw:rmdirE E s = (nodeR (thereE E s).2.1,leaveE E (thereE E s).1 (thereE E s).2.2.1):=by unfold rmdirE; rw [if_neg (by simpa using ce),if_neg (by simpa using ck),if_neg c2,if_neg (by simpa using cl)]
 simp [evOp_call,sets,T.get_set,tupK,ce,loadE_eq,getC_eq,hq,q0,hii,hm,e1,ck,c2,c2',e5,hln,hl0]
 refine Gd.mono (leave_any TG1 hB _ (O.kle (i:=(thereE E s).1) (by omega)).2 (O.lok _) (thereE E s).2.2.1 (by rw [t4.2.1]; exact ok_lastN hs) _) ?_
 rintro ⟨r,s2⟩ ⟨hr,c2x⟩
 simp only at hr c2x
 subst hr
 obtain ⟨k2,c3,c4⟩:=chg_fin TG hx1 ⟨Nat.le_refl _,by omega⟩ c2x
 rw [k1] at k2
 simp [evOp_call,sets,T.get_set,k2,storeK_g,putB_eq,roT,cellsOf,loadE_eq,getC_eq,getsB_succ,getsB_zero]
 rw [hw]
 exact doR_node (c4 _) _
theorem link_any (TG:TrG st q m n x Y Z E LB DB) (O:TOk n B E) (hB:B ≤ 1000) (a b:Tx) (ha:okS a) (hb:okS b) (nt:Nat) :
  Gd (tmF ⟨false,[],0,nt⟩ 42 [.p q 0,.s a,.s b] st) (doR st q m n x (linkE E a b) LB DB):=by
 rw [Gd_tmF rfl rfl Tryz.func42 rfl]
 have x0:=fun w => (Ext.refl st.nx st).new (Nat.le_refl _) w
 simp [evOp_call,sets,T.get_set,newC_is]
 rw [tmF_ne rfl]
 refine Gd.mono (way_any (TG.ext (x0 _)) O (by omega) a ha false _) ?_
 rintro ⟨r,s1⟩ ⟨hr,x1⟩
 simp only at hr x1
 subst hr
 have hx1:=(x0 _).trans (x1.mono (Nat.le_succ _))
 have n1:st.nx + 1 ≤ s1.nx:=x1.le
 have k1:=x1.keep st.nx (Nat.lt_succ_self _)
 simp only [T.get_set_same] at k1
 by_cases ce:(wayE E a false).2 = 0
 rotate_left
 ·have hw:linkE E a b = (refR (wayE E a false).2,E):=if_pos ce
  simp [evOp_call,sets,T.get_set,tupK,ce]
  rw [tmF_ne rfl]
  refine Gd.mono (refuse_any s1 _ _) ?_
  rintro ⟨r,s2⟩ ⟨hr,x2⟩
  simp only at hr x2
  subst hr
  have n2:=x2.le
  have hx2:=hx1.trans (x2.mono hx1.le)
  have k2:=(x2.keep st.nx (by omega)).trans k1
  simp [evOp_call,sets,T.get_set,k2,storeK_g,putB_eq,roT,cellsOf,loadE_eq,getC_eq,getsB_succ,getsB_zero]
  rw [hw]
  exact doR_ref TG (hx2.set (Nat.le_refl _) (by omega) _) _
 have TG1:=TG.ext hx1
 obtain ⟨hin,hi1⟩:=O.way a false
 have hi1:=hi1 ce
 obtain ⟨tq,hq,q0⟩:=TG1.cell
 obtain ⟨ty,sz,t,hm,hro,hsz,row⟩:=TG1.row
 obtain ⟨e1,e2,e3,e4,e5,e6,e7⟩:=row _ hin
 have hii:=fun k => TG1.idx hin k
 by_cases ck:(E (wayE E a false).1).k = 2
 ·have hw:linkE E a b = (refR 5,E):=by unfold linkE; rw [if_neg (by simpa using ce),if_pos ck]
  simp [evOp_call,sets,T.get_set,tupK,ce,loadE_eq,getC_eq,hq,q0,hii,hm,e1,ck]
  rw [tmF_ne rfl]
  refine Gd.mono (refuse_any s1 _ _) ?_
  rintro ⟨r,s2⟩ ⟨hr,x2⟩
  simp only at hr x2
  subst hr
  have n2:=x2.le
  have hx2:=hx1.trans (x2.mono hx1.le)
  have k2:=(x2.keep st.nx (by omega)).trans k1
  simp [evOp_call,sets,T.get_set,k2,storeK_g,putB_eq,roT,cellsOf,loadE_eq,getC_eq,getsB_succ,getsB_zero]
  rw [hw]
  exact doR_ref TG (hx2.set (Nat.le_refl _) (by omega) _) _
 have ck':¬ ((E (wayE E a false).1).k:Int) = 2:=by omega
 simp [evOp_call,sets,T.get_set,tupK,ce,loadE_eq,getC_eq,hq,q0,hii,hm,e1,ck']
 rw [tmF_ne rfl]
 refine Gd.mono (room_any TG1 O (by omega) b hb _) ?_
 rintro ⟨r,s2⟩ ⟨hr,x2⟩
 simp only at hr x2
 subst hr
 have hx2:=hx1.trans (x2.mono hx1.le)
 have n2:=x2.le
 have k2:=(x2.keep st.nx (by omega)).trans k1
 have TG2:=TG1.ext x2
 by_cases cr:(roomE E b).2.2 = 0
 rotate_left
 ·have hw:linkE E a b = (refR (roomE E b).2.2,E):=by unfold linkE; rw [if_neg (by simpa using ce),if_neg ck,if_pos cr]
  simp [evOp_call,sets,T.get_set,tupK,cr]
  rw [tmF_ne rfl]
  refine Gd.mono (refuse_any s2 _ _) ?_
  rintro ⟨r,s3⟩ ⟨hr,x3⟩
  simp only at hr x3
  subst hr
  have n3:=x3.le
  have hx3:=hx2.trans (x3.mono hx2.le)
  have k3:=(x3.keep st.nx (by omega)).trans k2
  simp [evOp_call,sets,T.get_set,k3,storeK_g,putB_eq,roT,cellsOf,loadE_eq,getC_eq,getsB_succ,getsB_zero]
  rw [hw]
  exact doR_ref TG (hx3.set (Nat.le_refl _) (by omega) _) _
 obtain ⟨r1,r2,r3,r4⟩:=O.room hb cr
 obtain ⟨tq2,hq2,q02⟩:=TG2.cell
 obtain ⟨ty2,sz2,t2,hm2,hro2,hsz2,row2⟩:=TG2.row
 obtain ⟨f1,f2,f3,f4,f5,f6,f7⟩:=row2 _ hin
 by_cases cm:200 ≤ (E (wayE E a false).1).nm
 ·have hw:linkE E a b = (refR 10,E):=by unfold linkE; rw [if_neg (by simpa using ce),if_neg ck,if_neg (by simpa using cr),if_pos cm]
  simp [evOp_call,sets,T.get_set,tupK,cr,loadE_eq,getC_eq,hq2,q02,hii,hm2,f3,cm]
  rw [tmF_ne rfl]
  refine Gd.mono (refuse_any s2 _ _) ?_
  rintro ⟨r,s3⟩ ⟨hr,x3⟩
  simp only at hr x3
  subst hr
  have n3:=x3.le
  have hx3:=hx2.trans (x3.mono hx2.le)
  have k3:=(x3.keep st.nx (by omega)).trans k2
  simp [evOp_call,sets,T.get_set,k3,storeK_g,putB_eq,roT,cellsOf,loadE_eq,getC_eq,getsB_succ,getsB_zero]
  rw [hw]
  exact doR_ref TG (hx3.set (Nat.le_refl _) (by omega) _) _
 have hw:linkE E a b = (nodeR (wayE E a false).1,enterE E (roomE E b).1 (roomE E b).2.1 (wayE E a false).1):=by unfold linkE; rw [if_neg (by simpa using ce),if_neg ck,if_neg (by simpa using cr),if_neg cm]
 simp [evOp_call,sets,T.get_set,tupK,cr,loadE_eq,getC_eq,hq2,q02,hii,hm2,f3,cm]
 refine Gd.mono (enter_any TG2 hB _ _ (O.kle (i:=(roomE E b).1) (by omega)).2 (O.lok _) hin _ r4 _) ?_
 rintro ⟨r,s3⟩ ⟨hr,c2x⟩
 simp only at hr c2x
 subst hr
 obtain ⟨k3,c3,c4⟩:=chg_fin TG hx2 ⟨Nat.le_refl _,by omega⟩ c2x
 rw [k2] at k3
 simp [evOp_call,sets,T.get_set,k3,storeK_g,putB_eq,roT,cellsOf,loadE_eq,getC_eq,getsB_succ,getsB_zero]
 rw [hw]
 exact doR_node (c4 _) _
end
end Go.Proofs.YtgcpgidofikcdaaGreatDoor
set_option linter.unusedSimpArgs false
set_option linter.unusedVariables false
namespace Go.Proofs.YtgcpgidofikcdaaGreatDoor
open Go.RowKit Ev
section
variable {st:St} {q m n B:Nat} {x:V} {Y Z:Nat → V} {E:Tr} {LB DB:Nat → Prop}
theorem TrG.setNew {s0 s:St} (h0:TrG s0 q m n x Y Z E LB DB) (xe:Ext s0.nx s0 s) {i:Nat} (hi:i ≤ n) {ty sz:Nat} {t:T V} (hm:s.h.get m = some (.cs ty sz t)) (k:Nat) (y:V) (d:Tx) (hy:RdRow s y 1 d.length (yv d)) (hyb:∀ b,BlkOf y b → s0.nx ≤ b ∧ b < s.nx) (hyc:CapOk y) :
  chgR s0 q m n x (updE E i ⟨k,0,0,d,[]⟩) LB DB ⟨s.nx,s.h.set m (.cs ty sz (sets [.int .i64 (k:Int),.int .i64 0,.int .i64 0,y,.c (.slice none 0 0)] (i * 5) t))⟩:=by
 have h:=h0.ext xe
 have hlt:=h.lt
 have hlt0:=h0.lt
 have oth:∀ w b,b ≠ m → (s.h.set m w).get b = s.h.get b:=fun w b hb => T.get_set_ne _ _ (Ne.symm hb)
 have gz:∀ j v,([.int .i64 (k:Int),.int .i64 0,.int .i64 0,y,.c (.slice none 0 0)]:List V)[j]? = some v → (sets [.int .i64 (k:Int),.int .i64 0,.int .i64 0,y,.c (.slice none 0 0)] (i * 5) t).get (i * 5 + j) = some v:=fun j v hj => by
  have:=lt_of_get hj
  rw [get_sets,if_pos ⟨by omega,by omega⟩,show i * 5 + j - i * 5 = j by omega]
  exact hj
 obtain ⟨DB',hDB⟩:∃ DB':Nat → Prop,DB' = fun b => DB b ∨ BlkOf y b:=⟨_,rfl⟩
 refine ⟨_,_,LB,DB',h.upd hi y (.c (.slice none 0 0)) ⟨k,0,0,d,[]⟩ (Nat.le_refl _) hm (T.get_set_same _ _ _) (fun j hj => ?_) (gz 0 _ rfl) (gz 1 _ rfl) (gz 2 _ rfl) (gz 3 _ rfl) (gz 4 _ rfl) ?_ (.inl ⟨rfl,.inl rfl⟩) (oth _ q (Ne.symm hlt.2.2)) (fun b hb => ⟨oth _ b (h.db b hb).2.2.1,by rw [hDB]; exact .inl hb⟩) (fun b hb _ => ⟨oth _ b (h.lb b hb).2.2,hb⟩) (fun b hb => ?_) (fun b hb => h.lb b hb) (fun b hb => ?_),?_⟩
 ·rw [get_sets,if_neg (fun h => by have h2:=h.2; simp at h2; omega)]
 ·have hB0:BRow s (fun b => BlkOf y b) y d:=⟨hy,fun b hb => hb,hyc⟩
  refine hB0.keep (Nat.le_refl _) fun b hb _ => ⟨oth _ b ?_,by rw [hDB]; exact .inr hb⟩
  have:=(hyb b hb).1
  omega
 ·rcases hb with ⟨_,_,_,e⟩ | ⟨_,_,_,e⟩ <;> cases e
 ·rw [hDB] at hb
  rcases hb with hb | hb
  ·exact h.db b hb
  ·obtain ⟨b1,b2⟩:=hyb b hb
   exact ⟨b2,by omega,by omega,fun e => by have:=(h0.lb b e).1; omega⟩
 ·have F:FrT s0 s m LB DB LB DB':=⟨xe.le,xe.wf,fun b hb _ _ => xe.keep b hb,fun b hb => .inl hb,fun b hb => by
   rw [hDB] at hb
   rcases hb with hb | hb
   ·exact .inl hb
   ·exact .inr (hyb b hb).1⟩
  exact F.setM hlt.2.1 _
theorem rd_other {s:St} {y:V} {z k rb:Nat} {l:List V} (h:RdRow s y z k l) (hb:∀ b,BlkOf y b → b ≠ rb) (w:Ev.B):RdRow ⟨s.nx,s.h.set rb w⟩ y z k l :=
 RdRow.setOther h (fun o l z e => hb rb (.inr ⟨_,_,_,e⟩) rfl) (fun o l z e => hb rb (.inl ⟨_,_,_,e⟩) rfl) w
theorem doR_put (TG:TrG st q m n x Y Z E LB DB) {s1 s:St} {rb:Nat} {RE:Rs × Tr} {v:V} (x1:Ext st.nx st s1) (hrb:st.nx ≤ rb ∧ rb < s1.nx) (h:doR s1 q m n x RE LB DB (v,s)):s.h.get rb = s1.h.get rb ∧ ∀ w,doR st q m n x RE LB DB (v,⟨s.nx,s.h.set rb w⟩):=by
 obtain ⟨y,z,Y',Z',LB',DB',hv,hy,hz,h1,h2,hb⟩:=h
 obtain ⟨k,_,c⟩:=chg_fin TG x1 hrb (E':=RE.2) ⟨Y',Z',LB',DB',h1,h2⟩
 have nl:¬ LB rb:=fun e => by have:=(TG.lb _ e).1; omega
 have nd:¬ DB rb:=fun e => by have:=(TG.db _ e).1; omega
 have nm:rb ≠ m:=by have:=TG.lt.2.1; omega
 have nq:rb ≠ q:=by have:=TG.lt.1; omega
 refine ⟨k,fun w => ⟨y,z,Y',Z',LB',DB',hv,rd_other hy (fun b hb' => by have:=(hb b (.inl hb')).1; omega) w,rd_other hz (fun b hb' => by have:=(hb b (.inr hb')).1; omega) w,h1.keep (Nat.le_refl _) fun b hb' => T.get_set_ne _ _ ?_,?_,fun b hb' => ?_⟩⟩
 ·intro e
  subst e
  rcases hb' with hb' | hb' | hb' | hb'
  ·exact nq hb'
  ·exact nm hb'
  ·rcases h2.lb _ hb' with h5 | h5
   ·exact nl h5
   ·omega
  ·rcases h2.db _ hb' with h5 | h5
   ·exact nd h5
   ·omega
 ·have f:=(FrT.ext (m:=m) (LB:=LB) (DB:=DB) x1).trans h2
  refine ⟨f.le,fun hw b hb => ?_,fun b hb h3 h4 => (T.get_set_ne _ _ (by omega)).trans (f.keep b hb h3 h4),f.lb,f.db⟩
  have hb':s.nx ≤ b:=hb
  have:s1.nx ≤ s.nx:=h2.le
  exact (T.get_set_ne _ _ (by omega)).trans (f.wf hw b hb')
 ·obtain ⟨b1,b2⟩:=hb b hb'
  have:=x1.le
  exact ⟨by omega,b2⟩
theorem make_any (TG:TrG st q m n x Y Z E LB DB) (O:TOk n B E) (hB:B ≤ 1000) (s:Tx) (hs:okS s) (k:Nat) (y:V) (d:Tx) (hy:RdRow st y 1 d.length (yv d)) (hyq:∀ b,BlkOf y b → b ≠ q) (hyo:V.one y = true) (hd:d.length ≤ 1000000) (nt:Nat) :
  Gd (tmF ⟨false,[],0,nt⟩ 41 [.p q 0,.s s,.int .i64 (k:Int),y] st) (doR st q m n x (makeE n E s k d) LB DB):=by
 rw [Gd_tmF rfl rfl Tryz.func41 rfl]
 have x0:=fun w => (Ext.refl st.nx st).new (Nat.le_refl _) w
 have hn2:=O.n2
 simp [evOp_call,sets,T.get_set,newC_is]
 rw [tmF_ne rfl]
 refine Gd.mono (room_any (TG.ext (x0 _)) O (by omega) s hs _) ?_
 rintro ⟨r,s1⟩ ⟨hr,x1⟩
 simp only at hr x1
 subst hr
 have hx1:=(x0 _).trans (x1.mono (Nat.le_succ _))
 have n1:st.nx + 1 ≤ s1.nx:=x1.le
 have k1:=x1.keep st.nx (Nat.lt_succ_self _)
 simp only [T.get_set_same] at k1
 by_cases ce:(roomE E s).2.2 = 0
 rotate_left
 ·have hw:makeE n E s k d = (refR (roomE E s).2.2,E):=if_pos ce
  simp [evOp_call,sets,T.get_set,tupK,ce]
  rw [tmF_ne rfl]
  refine Gd.mono (refuse_any s1 _ _) ?_
  rintro ⟨r,s2⟩ ⟨hr,x2⟩
  simp only at hr x2
  subst hr
  have n2:=x2.le
  have hx2:=hx1.trans (x2.mono hx1.le)
  have k2:=(x2.keep st.nx (by omega)).trans k1
  simp [evOp_call,sets,T.get_set,k2,storeK_g,putB_eq,roT,cellsOf,loadE_eq,getC_eq,getsB_succ,getsB_zero]
  rw [hw]
  exact doR_ref TG (hx2.set (Nat.le_refl _) (by omega) _) _
 have TG1:=TG.ext hx1
 obtain ⟨r1,r2,r3,r4⟩:=O.room hs ce
 simp [evOp_call,sets,T.get_set,tupK,ce]
 rw [tmF_ne rfl]
 refine Gd.mono (spare_any TG1 hn2.2 _) ?_
 rintro _ rfl
 by_cases cs:spareE n E = 0
 ·have hw:makeE n E s k d = (refR 7,E):=by unfold makeE; rw [if_neg (by simpa using ce),if_pos cs]
  simp [evOp_call,sets,T.get_set,tupK,cs]
  rw [tmF_ne rfl]
  refine Gd.mono (refuse_any s1 _ _) ?_
  rintro ⟨r,s2⟩ ⟨hr,x2⟩
  simp only at hr x2
  subst hr
  have n2:=x2.le
  have hx2:=hx1.trans (x2.mono hx1.le)
  have k2:=(x2.keep st.nx (by omega)).trans k1
  simp [evOp_call,sets,T.get_set,k2,storeK_g,putB_eq,roT,cellsOf,loadE_eq,getC_eq,getsB_succ,getsB_zero]
  rw [hw]
  exact doR_ref TG (hx2.set (Nat.le_refl _) (by omega) _) _
 have hw:makeE n E s k d = (nodeR (spareE n E),enterE (updE E (spareE n E) ⟨k,0,0,d,[]⟩) (roomE E s).1 (roomE E s).2.1 (spareE n E)):=by unfold makeE; rw [if_neg (by simpa using ce),if_neg cs]
 obtain ⟨p1,p2,p3⟩:=O.spare cs
 obtain ⟨i,hi⟩:∃ i,i = spareE n E:=⟨_,rfl⟩
 rw [← hi] at hw p1 p2 p3 cs ⊢
 have cs':¬ (i:Int) = 0:=by omega
 obtain ⟨tq,hq,q0⟩:=TG1.cell
 obtain ⟨ty,sz,t,hm,hro,hsz,row⟩:=TG1.row
 have hii:=fun k => TG1.idx p2 k
 have hlt:=TG1.lt
 have hy1:=hy.ext hx1
 simp [evOp_call,sets,T.get_set,tupK,cs,cs',loadE_eq,getC_eq,hq,q0,hii,hm]
 refine ⟨by kernel_rfl,?_⟩
 have hff:∀ b,b ≠ q → inF [(q,q + 1)] b = false:=fun b h => by rw [inF_cons,if_neg (by omega)]; rfl
 have hyf:∀ b,BlkOf y b → inF [(q,q + 1)] b = false:=fun b hb => hff b (hyq b hb)
 rw [cxOf_callL [(q,q + 1)] (by kernel_rfl) (by kernel_rfl) (looseW_at 31 (.p q 0) (by simp [T.get_set]) (by kernel_rfl)) (fun y' hy' => by
  simp at hy'
  subst hy'
  rw [clashes_tmp']; simp [T.get_set]
  exact rd_blkF hy1 hyf) (fun p hp => by simp at hp; subst hp; rw [isRo_cs hq]; decide),forb_nil]
 simp only [List.append_nil]
 show Gd (liftF tmK ⟨false,[(q,q + 1)],0,_⟩ _ _ s1) _
 refine Gd_lift (R:=fun v s' => RdRow s' v 1 d.length (yv d) ∧ (∀ b,BlkOf v b → s1.nx ≤ b ∧ b < s'.nx) ∧ CapOk v) (by
  rw [tmK_ne rfl]
  refine Gd.mono (cloneB_any (er [(q,q + 1)] s1) y d.length (yv d) (hy1.er hyf) hd _) ?_
  rintro ⟨v,s'⟩ ⟨c1,c2,c3,c4,c5,c6⟩
  exact ⟨⟨c1,c2,c5⟩,c6⟩) ?_
 rintro y2 s1' s2 ⟨hy2,hyb2,hyc2⟩ k2 x2
 have hy2:=RdRow.sub k2 hy2
 have hyb2:∀ b,BlkOf y2 b → s1.nx ≤ b ∧ b < s2.nx:=fun b hb => by have:=hyb2 b hb; have e:=k2.nx; omega
 have hyo2:V.one y2 = true:=hy2.one
 have n2:=x2.le
 have hx2:=hx1.trans (x2.mono hx1.le)
 have kr2:=(x2.keep st.nx (by omega)).trans k1
 have hm2:=(x2.keep m hlt.2.1).trans hm
 have hq2:=(x2.keep q hlt.1).trans hq
 have hb5:i * 5 + 5 ≤ sz:=by omega
 simp [evOp_call,T.get_set,loadE_eq,getC_eq,hii,hyo2]
 rw [cxOf_store (by kernel_rfl),forb_step (by kernel_rfl) rfl]
 simp [evOp_call,T.get_set,sets,storeK_g,putB_eq,cellsOf,hm2,hro,hb5]
 obtain ⟨s3,hs3⟩:∃ s3:St,s3 = ⟨s2.nx,s2.h.set m (.cs ty sz (sets [.int .i64 (k:Int),.int .i64 0,.int .i64 0,y2,.c (.slice none 0 0)] (i * 5) t))⟩:=⟨_,rfl⟩
 have C3:chgR s1 q m n x (updE E i ⟨k,0,0,d,[]⟩) LB DB s3:=by
  rw [hs3]
  exact TG1.setNew x2 p2 hm2 k y2 d hy2 hyb2 hyc2
 have n3:s3.nx = s2.nx:=by rw [hs3]
 have hai:(roomE E s).1 ≠ i:=fun e => by rw [e] at r1; omega
 have L3:LOk n B (updE E i ⟨k,0,0,d,[]⟩) (roomE E s).1:=by
  have:=O.lok (roomE E s).1
  refine ⟨?_,?_,?_⟩ <;> rw [updE_ne _ _ hai]
  ·exact this.ris
  ·exact this.ent
  ·exact this.len
 obtain ⟨Y3,Z3,LB3,DB3,TG3,F3⟩:=C3
 simp only [sets] at hs3
 rw [← hs3]
 refine Gd.mono (enter_any TG3 hB _ i (O.kle (i:=(roomE E s).1) (by omega)).2 L3 p2 _ r4 _) ?_
 rintro ⟨r,s4⟩ ⟨hr,c4⟩
 simp only at hr c4
 subst hr
 have C4:chgR s1 q m n x (enterE (updE E i ⟨k,0,0,d,[]⟩) (roomE E s).1 (roomE E s).2.1 i) LB DB s4:=by
  obtain ⟨Y4,Z4,LB4,DB4,h1,h2⟩:=c4
  exact ⟨Y4,Z4,LB4,DB4,h1,F3.trans h2⟩
 obtain ⟨k4,c5,c6⟩:=chg_fin TG hx1 ⟨Nat.le_refl _,by omega⟩ C4
 rw [k1] at k4
 simp [evOp_call,sets,T.get_set,k4,storeK_g,putB_eq,roT,cellsOf,loadE_eq,getC_eq,getsB_succ,getsB_zero]
 rw [hw]
 exact doR_node (c6 _) _
theorem symlink_any (TG:TrG st q m n x Y Z E LB DB) (O:TOk n B E) (hB:B ≤ 1000) (s:Tx) (hs:okS s) (y:V) (d:Tx) (hy:RdRow st y 1 d.length (yv d)) (hyq:∀ b,BlkOf y b → b ≠ q) (hd:d.length ≤ 1000000) (nt:Nat) :
  Gd (tmF ⟨false,[],0,nt⟩ 46 [.p q 0,.s s,y] st) (doR st q m n x (symlinkE n E s d) LB DB):=by
 rw [Gd_tmF rfl rfl Tryz.func46 rfl]
 have x0:=fun w => (Ext.refl st.nx st).new (Nat.le_refl _) w
 have hwu:wantK true (some V.u) = false:=rfl
 have hwf:wantK false (some V.u) = false:=rfl
 have hyo:V.one y = true:=hy.one
 have bad:(d.length = 0 ∨ 400 < d.length) → ∀ nt,Gd (tmF ⟨false,[],0,nt⟩ 53 [.int .i64 1] ⟨st.nx + 1,st.h.set st.nx (.cs 30 7 (((((((T.lf.set 0 (V.int .i64 0)).set 1 (V.int .i64 0)).set 2 (V.int .i64 0)).set 3 (V.int .i64 0)).set 4 (V.int .i64 0)).set 5 (.c (.slice none 0 0))).set 6 (.c (.slice none 0 0))))⟩) fun r => r.1 = resV 1 0 0 0 0 (.c (.slice none 0 0)) (.c (.slice none 0 0)) ∧ Ext st.nx st r.2 ∧ st.nx < r.2.nx ∧ r.2.h.get st.nx = some (.cs 30 7 (((((((T.lf.set 0 (V.int .i64 0)).set 1 (V.int .i64 0)).set 2 (V.int .i64 0)).set 3 (V.int .i64 0)).set 4 (V.int .i64 0)).set 5 (.c (.slice none 0 0))).set 6 (.c (.slice none 0 0)))):=fun _ nt => by
  rw [tmF_ne rfl]
  refine Gd.mono (refuse_any _ _ _) ?_
  rintro ⟨r,s2⟩ ⟨hr,x2⟩
  have h1:st.nx + 1 ≤ s2.nx:=x2.le
  exact ⟨hr,(x0 _).trans (x2.mono (Nat.le_succ _)),h1,(x2.keep st.nx (Nat.lt_succ_self _)).trans (T.get_set_same _ _ _)⟩
 by_cases c0:d.length = 0
 ·have hw:symlinkE n E s d = (refR 1,E):=if_pos (.inl c0)
  simp [evOp_call,sets,T.get_set,newC_is,hy.lenS,c0,hwu,hwf]
  refine Gd.mono (bad (.inl c0) _) ?_
  rintro ⟨r,s2⟩ ⟨hr,x2,n2,k2⟩
  simp only at hr x2 n2 k2
  subst hr
  simp [evOp_call,sets,T.get_set,k2,storeK_g,putB_eq,roT,cellsOf,loadE_eq,getC_eq,getsB_succ,getsB_zero]
  rw [hw]
  exact doR_ref TG (x2.set (Nat.le_refl _) n2 _) _
 have c0':¬ (d.length:Int) = 0:=by omega
 by_cases c1:400 < d.length
 ·have hw:symlinkE n E s d = (refR 1,E):=if_pos (.inr c1)
  have c1':(400:Int) < d.length:=by omega
  simp [evOp_call,sets,T.get_set,newC_is,hy.lenS,c0,c0',c1',hwu,hwf]
  refine Gd.mono (bad (.inr c1) _) ?_
  rintro ⟨r,s2⟩ ⟨hr,x2,n2,k2⟩
  simp only at hr x2 n2 k2
  subst hr
  simp [evOp_call,sets,T.get_set,k2,storeK_g,putB_eq,roT,cellsOf,loadE_eq,getC_eq,getsB_succ,getsB_zero]
  rw [hw]
  exact doR_ref TG (x2.set (Nat.le_refl _) n2 _) _
 have c1':¬ (400:Int) < d.length:=by omega
 have hw:symlinkE n E s d = makeE n E s 3 d:=if_neg (by omega)
 simp [evOp_call,sets,T.get_set,newC_is,hy.lenS,c0,c0',c1,c1',hwu,hwf]
 refine Gd.mono (make_any (TG.ext (x0 _)) O hB s hs 3 y d (hy.ext (x0 _)) hyq hyo hd _) ?_
 rintro ⟨r,s2⟩ hD
 obtain ⟨k2,c3⟩:=doR_put TG (x0 _) ⟨Nat.le_refl _,Nat.lt_succ_self _⟩ hD
 obtain ⟨y2,z2,Y2,Z2,LB2,DB2,hr,hy2,hz2,TG2,F2,hb2⟩:=hD
 simp only at hr hy2 hz2
 subst hr
 have hyo2:=hy2.one
 have hzo2:=hz2.one
 simp only [T.get_set_same] at k2
 simp [evOp_call,sets,T.get_set,k2,storeK_g,putB_eq,roT,cellsOf,loadE_eq,getC_eq,getsB_succ,getsB_zero,hyo2,hzo2]
 rw [hw]
 exact c3 _
end
end Go.Proofs.YtgcpgidofikcdaaGreatDoor

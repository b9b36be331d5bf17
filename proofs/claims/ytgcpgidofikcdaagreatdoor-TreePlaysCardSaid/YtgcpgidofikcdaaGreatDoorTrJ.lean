/-
  The document's own file system: rename.
-/
import Derived.Test.YtgcpgidofikcdaaGreatDoorTrEI
set_option maxRecDepth 20000
set_option maxHeartbeats 16000000
set_option linter.unusedSimpArgs false
set_option linter.unusedVariables false
namespace Go.Proofs.YtgcpgidofikcdaaGreatDoor
open Go.RowKit Ev
theorem ren_last {n B:Nat} {E1:Tr} (k1:TOk n B E1) (k7:Ct n E1) (hB:B ≤ 1000) {to fr i:Nat} {q old:Tx} (k2:(E1 to).k = 2) (k3:entT q (E1 to).l = none) (k6:entT old (E1 fr).l = some i) :
  LkW n (B + 1) (enterE E1 to q i) ∧ Ct n (enterE E1 to q i) ∧ entT old (enterE E1 to q i fr).l = some i ∧ 3 ≤ i ∧ i ≤ n ∧ (∀ j,cntE n (enterE E1 to q i) j ≤ 70000) ∧ to ≤ n ∧ fr ≤ n:=by
 have hto1:=k1.kle (i:=to) (by omega)
 have hmi:=(ris_ent (k1.ris fr)).1 k6
 obtain ⟨hn1,hn3,hfr1⟩:=k7.named k1 hmi
 have hin:=(k1.ent fr _ hmi).2.2
 have hik:(E1 i).k ≠ 0:=fun hk => by
  have:=k7.nm i hn3
  rw [k7.fre i hk] at this
  omega
 have C2:=k7.enter (k1.cnt hB) (a:=to) (i:=i) (p:=q) hto1.2 hik
 have f2:=enter_f E1 to q i
 have L2:=k1.lkw.enter (a:=to) (i:=i) (p:=q) (by omega) k3
 refine ⟨L2,C2,?_,hn3,hin,fun j => ?_,hto1.2,hfr1⟩
 ·rw [ris_ent (L2.ris fr),(f2 fr).1.l]
  split
  ·rename_i e; rw [e] at hmi; exact mem_insT.2 (.inr hmi)
  ·exact hmi
 ·rw [cnt_enter E1 hto1.2]
  have:=k1.cnt hB j
  split <;> omega
section
variable {st:St} {q m n B:Nat} {Z:Nat → V} {E:Tr}
theorem rrename_any (R:RefG st q m n Z E) (O:TOk n B E) (C:Ct n E) (hB:B ≤ 1000) (o:OpT) (nt:Nat) :
  Gd (tmF ⟨false,[],0,nt⟩ 67 [.p q 0,opR o] st) (rrR st q m n Z (renameE E o.a o.b)):=by
 rw [Gd_tmF rfl rfl Tryz.func67 rfl]
 have x0:=fun w w' => ((Ext.refl st.nx st).new (Nat.le_refl _) w).new (Nat.le_succ _) w'
 obtain ⟨W,hW⟩:∃ W,W = renameE E o.a o.b:=⟨_,rfl⟩
 rw [← hW]
 unfold renameE at hW
 simp [evOp_call,sets,T.get_set,newC_is,opR,cellsOf,loadE_eq,getC_eq]
 rw [tmF_ne rfl]
 refine Gd.mono (rlast_any _ o.a _) ?_
 rintro ⟨r,s1⟩ ⟨y1,hr,_,x1⟩
 simp only at hr x1
 subst hr
 have hx1:=(x0 _ _).trans (x1.mono (by show st.nx ≤ st.nx + 1 + 1; omega))
 have n1:st.nx + 1 + 1 ≤ s1.nx:=x1.le
 have kb1:=x1.keep st.nx (by show st.nx < st.nx + 1 + 1; omega)
 have k1:=x1.keep (st.nx + 1) (by show st.nx + 1 < st.nx + 1 + 1; omega)
 simp [T.get_set] at kb1 k1
 simp [evOp_call,sets,T.get_set,tupK,loadE_eq,getC_eq,kb1]
 rw [tmF_ne rfl]
 refine Gd.mono (rlast_any s1 o.b _) ?_
 rintro ⟨r,s2⟩ ⟨y2,hr,_,x2⟩
 simp only at hr x2
 subst hr
 have n2:=x2.le
 have hx2:=hx1.trans (x2.mono hx1.le)
 have kb2:=(x2.keep st.nx (by omega)).trans kb1
 have k2:=(x2.keep (st.nx + 1) (by omega)).trans k1
 by_cases c1:lastE o.a = 0
 rotate_left
 ·rw [if_pos c1] at hW
  have hw:=hW
  simp [evOp_call,sets,T.get_set,tupK,c1]
  rw [tmF_ne rfl]
  refine Gd.mono (rfail_any s2 _ _) ?_
  rintro ⟨r,sf⟩ ⟨hr,xf⟩
  simp only at hr xf
  subst hr
  have nf:=xf.le
  have hxf:=hx2.trans (xf.mono hx2.le)
  have kf:=(xf.keep (st.nx + 1) (by omega)).trans k2
  simp [evOp_call,sets,T.get_set,kf,storeK_g,putB_eq,roT,cellsOf,loadE_eq,getC_eq,getsB_succ,getsB_zero]
  rw [hw]
  exact rrR_ref R (hxf.set (by omega) (by omega) _) _
 rw [if_neg (by simpa using c1)] at hW
 by_cases c2:lastE o.b = 0
 rotate_left
 ·rw [if_pos c2] at hW
  have hw:=hW
  simp [evOp_call,sets,T.get_set,tupK,c1,c2]
  rw [tmF_ne rfl]
  refine Gd.mono (rfail_any s2 _ _) ?_
  rintro ⟨r,sf⟩ ⟨hr,xf⟩
  simp only at hr xf
  subst hr
  have nf:=xf.le
  have hxf:=hx2.trans (xf.mono hx2.le)
  have kf:=(xf.keep (st.nx + 1) (by omega)).trans k2
  simp [evOp_call,sets,T.get_set,kf,storeK_g,putB_eq,roT,cellsOf,loadE_eq,getC_eq,getsB_succ,getsB_zero]
  rw [hw]
  exact rrR_ref R (hxf.set (by omega) (by omega) _) _
 rw [if_neg (by simpa using c2)] at hW
 have R2:=R.ext hx2
 simp [evOp_call,sets,T.get_set,tupK,c1,c2,loadE_eq,getC_eq,kb2]
 rw [tmF_ne rfl]
 refine Gd.mono (rdir_any R2 O C hB o.a _) ?_
 rintro ⟨r,s3⟩ ⟨x,hr,hx,x3⟩
 simp only at hr x3
 subst hr
 have n3:=x3.le
 have hx3:=hx2.trans (x3.mono hx2.le)
 have kb3:=(x3.keep st.nx (by omega)).trans kb2
 have k3:=(x3.keep (st.nx + 1) (by omega)).trans k2
 have hd:=lastDE_dir O (s:=o.a)
 have hth:thereE E o.a = if (lastDE E o.a).2.2 ≠ 0 then (0,0,[],(lastDE E o.a).2.2) else if findE E (lastDE E o.a).1 (lastDE E o.a).2.1 = 0 then (0,0,[],2) else ((lastDE E o.a).1,findE E (lastDE E o.a).1 (lastDE E o.a).2.1,(lastDE E o.a).2.1,0):=rfl
 obtain ⟨⟨d,nm,er⟩,hdd⟩:∃ w,w = lastDE E o.a:=⟨_,rfl⟩
 rw [← hdd] at hd hx hth ⊢
 simp only at hd hx hth ⊢
 by_cases ce:er = 0
 rotate_left
 ·have ht:(thereE E o.a).2.2.2 = er:=by rw [hth,if_pos ce]
  rw [ht,if_pos ce] at hW
  have hw:=hW
  simp [evOp_call,sets,T.get_set,tupK,ce]
  rw [tmF_ne rfl]
  refine Gd.mono (rfail_any s3 _ _) ?_
  rintro ⟨r,sf⟩ ⟨hr,xf⟩
  simp only at hr xf
  subst hr
  have nf:=xf.le
  have hxf:=hx3.trans (xf.mono hx3.le)
  have kf:=(xf.keep (st.nx + 1) (by omega)).trans k3
  simp [evOp_call,sets,T.get_set,kf,storeK_g,putB_eq,roT,cellsOf,loadE_eq,getC_eq,getsB_succ,getsB_zero]
  rw [hw]
  exact rrR_ref R (hxf.set (by omega) (by omega) _) _
 have hx:=hx ce
 subst hx
 have hdk:=hd ce
 have hdn:=(O.kle (i:=d) (by omega)).2
 have R3:=R.ext hx3
 simp [evOp_call,sets,T.get_set,tupK,ce]
 rw [tmF_ne rfl]
 refine Gd.mono (rchild_any R3 O hB hdn x _) ?_
 rintro _ rfl
 have hfn:=O.find d x
 obtain ⟨i,hi⟩:∃ i,i = findE E d x:=⟨_,rfl⟩
 rw [← hi] at hth hfn ⊢
 rw [if_neg (by simpa using ce)] at hth
 by_cases ci:i = 0
 ·have ht:(thereE E o.a).2.2.2 = 2:=by rw [hth,if_pos ci]
  rw [ht,if_pos (by decide)] at hW
  have hw:=hW
  simp [evOp_call,sets,T.get_set,ci]
  rw [tmF_ne rfl]
  refine Gd.mono (rfail_any s3 _ _) ?_
  rintro ⟨r,sf⟩ ⟨hr,xf⟩
  simp only at hr xf
  subst hr
  have nf:=xf.le
  have hxf:=hx3.trans (xf.mono hx3.le)
  have kf:=(xf.keep (st.nx + 1) (by omega)).trans k3
  simp [evOp_call,sets,T.get_set,kf,storeK_g,putB_eq,roT,cellsOf,loadE_eq,getC_eq,getsB_succ,getsB_zero]
  rw [hw]
  exact rrR_ref R (hxf.set (by omega) (by omega) _) _
 rw [if_neg ci] at hth
 rw [hth] at hW
 simp only [ne_eq,not_true_eq_false,if_false] at hW
 by_cases c2i:i = 2
 ·rw [if_pos c2i] at hW
  have hw:=hW
  simp [evOp_call,sets,T.get_set,ci,c2i]
  rw [tmF_ne rfl]
  refine Gd.mono (rfail_any s3 _ _) ?_
  rintro ⟨r,sf⟩ ⟨hr,xf⟩
  simp only at hr xf
  subst hr
  have nf:=xf.le
  have hxf:=hx3.trans (xf.mono hx3.le)
  have kf:=(xf.keep (st.nx + 1) (by omega)).trans k3
  simp [evOp_call,sets,T.get_set,kf,storeK_g,putB_eq,roT,cellsOf,loadE_eq,getC_eq,getsB_succ,getsB_zero]
  rw [hw]
  exact rrR_ref R (hxf.set (by omega) (by omega) _) _
 rw [if_neg c2i] at hW
 have c2i':¬ (i:Int) = 2:=by omega
 simp [evOp_call,sets,T.get_set,ci,c2i,c2i',loadE_eq,getC_eq,kb3]
 rw [tmF_ne rfl]
 refine Gd.mono (rdir_any R3 O C hB o.b _) ?_
 rintro ⟨r,s4⟩ ⟨y,hr,hy,x4⟩
 simp only at hr x4
 subst hr
 have n4:=x4.le
 have hx4:=hx3.trans (x4.mono hx3.le)
 have k4:=(x4.keep (st.nx + 1) (by omega)).trans k3
 have hlb:lastDE E o.b = ((dirE E (lastD o.b)).1,lastN o.b,(dirE E (lastD o.b)).2):=by unfold lastDE; rw [if_neg (by simpa using c2)]
 have hdb:=O.dirE (lastD o.b)
 rw [hlb] at hy ⊢
 simp only at hy ⊢
 obtain ⟨⟨to,eb⟩,hto⟩:∃ w,w = dirE E (lastD o.b):=⟨_,rfl⟩
 rw [← hto] at hW hy hdb ⊢
 obtain ⟨lst,hlst⟩:∃ l,l = lastN o.b:=⟨_,rfl⟩
 rw [← hlst] at hW hy
 simp only at hW hy hdb ⊢
 by_cases c3:eb = 0
 rotate_left
 ·rw [if_pos c3] at hW
  have hw:=hW
  simp [evOp_call,sets,T.get_set,tupK,c3]
  rw [tmF_ne rfl]
  refine Gd.mono (rfail_any s4 _ _) ?_
  rintro ⟨r,sf⟩ ⟨hr,xf⟩
  simp only at hr xf
  subst hr
  have nf:=xf.le
  have hxf:=hx4.trans (xf.mono hx4.le)
  have kf:=(xf.keep (st.nx + 1) (by omega)).trans k4
  simp [evOp_call,sets,T.get_set,kf,storeK_g,putB_eq,roT,cellsOf,loadE_eq,getC_eq,getsB_succ,getsB_zero]
  rw [hw]
  exact rrR_ref R (hxf.set (by omega) (by omega) _) _
 rw [if_neg (by simpa using c3)] at hW
 have hy:=hy c3
 subst hy
 have htk:=hdb c3
 have htn:=(O.kle (i:=to) (by omega)).2
 by_cases c4:to = 2
 ·rw [if_pos c4] at hW
  have hw:=hW
  simp [evOp_call,sets,T.get_set,tupK,c3,c4]
  rw [tmF_ne rfl]
  refine Gd.mono (rfail_any s4 _ _) ?_
  rintro ⟨r,sf⟩ ⟨hr,xf⟩
  simp only at hr xf
  subst hr
  have nf:=xf.le
  have hxf:=hx4.trans (xf.mono hx4.le)
  have kf:=(xf.keep (st.nx + 1) (by omega)).trans k4
  simp [evOp_call,sets,T.get_set,kf,storeK_g,putB_eq,roT,cellsOf,loadE_eq,getC_eq,getsB_succ,getsB_zero]
  rw [hw]
  exact rrR_ref R (hxf.set (by omega) (by omega) _) _
 rw [if_neg c4] at hW
 have c4':¬ (to:Int) = 2:=by omega
 have hik:=C.found O (a:=d) (p:=x) (by rw [← hi]; exact ci)
 rw [← hi] at hik
 have hi1:=O.kle hik
 have he:=O.entF (a:=d) (p:=x) (by rw [← hi]; exact ci) (by rw [← hi]; exact c2i)
 rw [← hi] at he
 have R4:=R.ext hx4
 obtain ⟨tq,hq,q0,q1⟩:=R4.cell
 obtain ⟨tt,hm,row⟩:=R4.row
 obtain ⟨a0,a1,a2,a3,a4,a5⟩:=row i hi1.2
 have hil:i < n + 1:=by omega
 by_cases ck:(E i).k = 2
 rotate_left
 ·have ck':¬ ((E i).k:Int) = 2:=by omega
  have hnw:¬ Wn E i to:=fun h => ck (O.wnD htk h)
  rw [if_neg hnw] at hW
  simp [evOp_call,sets,T.get_set,tupK,c3,c4,c4',loadE_eq,getC_eq,hq,q1,hil,hm,a1,ck,ck']
  rw [tmF_ne rfl]
  refine Gd.mono (rchild_any R4 O hB htn y _) ?_
  rintro _ rfl
  obtain ⟨u,hu⟩:∃ u,u = findE E to y:=⟨_,rfl⟩
  have hun:=O.find to y
  rw [← hu] at hW hun ⊢
  by_cases c6:u = i
  ·rw [if_pos c6] at hW
   have hw:=hW
   subst c6
   have k4':=k4
   simp [evOp_call,sets,T.get_set,tupK,k4,storeK_g,putB_eq,roT,cellsOf,loadE_eq,getC_eq,getsB_succ,getsB_zero]
   rw [hw]
   exact rrR_node ⟨Z,R.ext (hx4.set (by omega) (by omega) _),StR.ext (hx4.set (by omega) (by omega) _)⟩ _
  rw [if_neg c6] at hW
  have c6':¬ (u:Int) = (i:Int):=by omega
  by_cases cu:u = 0
  ·have e7:yieldE E u i = 0:=by unfold yieldE; rw [if_pos cu]
   rw [if_neg (by simpa using e7)] at hW
   have hw:=hW
   have cu':(u:Int) = 0:=by omega
   have hne:¬ (0:Int) = (i:Int):=by omega
   simp [evOp_call,sets,T.get_set,cu,cu',hne,c6']
   obtain ⟨m1,m2,m3,m4,m5,m6,m7,m8⟩:=mid_gone O C hB htk hdk he (by rw [← hu]; exact c6) (by rw [← hu]; exact e7)
   have hnone:=O.noEnt (a:=to) (p:=y) (by rw [← hu]; exact cu)
   have eE1:leaveE E to y = E:=by unfold leaveE; rw [hnone]
   rw [eE1] at hw m1 m2 m3 m5 m6 m7 m8
   refine Gd.mono (radd_any R4 htn (O.ris _) (by have:=O.len to; omega) y i _) ?_
   rintro ⟨r,s6⟩ ⟨hr,c7⟩
   simp only at hr c7
   subst hr
   obtain ⟨Z6,R6,S6⟩:=c7.same (enter_same _ _ _ _)
   obtain ⟨L2,C2,he2,i3,hin,hcn,_,_⟩:=ren_last m1 m7 hB m2 m3 m6
   simp [evOp_call,sets,T.get_set]
   rw [tmF_ne rfl]
   refine Gd.mono (rdrop_any R6 L2 (by omega) hdn hin he2 _) ?_
   rintro ⟨r,s7⟩ ⟨hr,c8⟩
   simp only at hr c8
   subst hr
   obtain ⟨Z7,R7,S7⟩:=c8.same (drop_same C2 hcn he2 i3 hdn)
   obtain ⟨k8,c9,c10⟩:=rchg_fin R hx4 (rb:=st.nx + 1) ⟨by omega,by omega⟩ ⟨Z7,R7,S6.trans S7⟩
   rw [k4] at k8
   simp [evOp_call,sets,T.get_set,k8,storeK_g,putB_eq,roT,cellsOf,loadE_eq,getC_eq,getsB_succ,getsB_zero]
   rw [hw]
   exact rrR_node (c10 _) _
  have cu':¬ (u:Int) = 0:=by omega
  by_cases cu2:u = 2
  ·have e7:yieldE E u i = 12:=by unfold yieldE; rw [if_neg cu,if_pos cu2]
   rw [e7,if_pos (by decide)] at hW
   have hw:=hW
   have cu2':(u:Int) = 2:=by omega
   have hne:¬ (2:Int) = (i:Int):=by omega
   simp [evOp_call,sets,T.get_set,cu,cu',cu2,cu2',hne,c6,c6']
   rw [tmF_ne rfl]
   refine Gd.mono (rfail_any s4 _ _) ?_
   rintro ⟨r,sf⟩ ⟨hr,xf⟩
   simp only at hr xf
   subst hr
   have nf:=xf.le
   have hxf:=hx4.trans (xf.mono hx4.le)
   have kf:=(xf.keep (st.nx + 1) (by omega)).trans k4
   simp [evOp_call,sets,T.get_set,kf,storeK_g,putB_eq,roT,cellsOf,loadE_eq,getC_eq,getsB_succ,getsB_zero]
   rw [hw]
   exact rrR_ref R (hxf.set (by omega) (by omega) _) _
  have cu2':¬ (u:Int) = 2:=by omega
  obtain ⟨b0,b1,b2,b3,b4,b5⟩:=row u hun.1
  have hul:u < n + 1:=by omega
  have hbl:=b4.lenS
  by_cases cuk:(E u).k = 2
  ·have e7:yieldE E u i = 5:=by unfold yieldE; rw [if_neg cu,if_neg cu2,if_pos ⟨cuk,ck⟩]
   rw [e7,if_pos (by decide)] at hW
   have hw:=hW
   have cuk':((E u).k:Int) = 2:=by omega
   simp [evOp_call,sets,T.get_set,cu,cu',cu2,cu2',c6,c6',loadE_eq,getC_eq,hq,q1,hm,b1,hul,cuk,cuk']
   rw [tmF_ne rfl]
   refine Gd.mono (rfail_any s4 _ _) ?_
   rintro ⟨r,sf⟩ ⟨hr,xf⟩
   simp only at hr xf
   subst hr
   have nf:=xf.le
   have hxf:=hx4.trans (xf.mono hx4.le)
   have kf:=(xf.keep (st.nx + 1) (by omega)).trans k4
   simp [evOp_call,sets,T.get_set,kf,storeK_g,putB_eq,roT,cellsOf,loadE_eq,getC_eq,getsB_succ,getsB_zero]
   rw [hw]
   exact rrR_ref R (hxf.set (by omega) (by omega) _) _
  have e5:¬ ((E u).k = 2 ∧ (E i).k ≠ 2):=fun h => cuk h.1
  have e4:¬ ((E u).k ≠ 2 ∧ (E i).k = 2):=fun h => ck h.2
  have cuk':¬ ((E u).k:Int) = 2:=by omega
  by_cases cl:(E u).l = []
  rotate_left
  ·have e7:yieldE E u i = 6:=by unfold yieldE; rw [if_neg cu,if_neg cu2,if_neg e5,if_neg e4,if_pos cl]
   rw [e7,if_pos (by decide)] at hW
   have hw:=hW
   have cl':0 < (E u).l.length:=List.length_pos_iff.2 cl
   simp [evOp_call,sets,T.get_set,cu,cu',cu2,cu2',c6,c6',loadE_eq,getC_eq,hq,q1,hm,b1,b3,hbl,hul,cuk,cuk',cl']
   rw [tmF_ne rfl]
   refine Gd.mono (rfail_any s4 _ _) ?_
   rintro ⟨r,sf⟩ ⟨hr,xf⟩
   simp only at hr xf
   subst hr
   have nf:=xf.le
   have hxf:=hx4.trans (xf.mono hx4.le)
   have kf:=(xf.keep (st.nx + 1) (by omega)).trans k4
   simp [evOp_call,sets,T.get_set,kf,storeK_g,putB_eq,roT,cellsOf,loadE_eq,getC_eq,getsB_succ,getsB_zero]
   rw [hw]
   exact rrR_ref R (hxf.set (by omega) (by omega) _) _
  have e7:yieldE E u i = 0:=by unfold yieldE; rw [if_neg cu,if_neg cu2,if_neg e5,if_neg e4,if_neg (by simpa using cl)]
  rw [if_neg (by simpa using e7)] at hW
  have hw:=hW
  have cl':¬ 0 < (E u).l.length:=by rw [cl]; decide
  simp [evOp_call,sets,T.get_set,cu,cu',cu2,cu2',c6,c6',loadE_eq,getC_eq,hq,q1,hm,b1,b3,hbl,hul,cuk,cuk',cl,cl']
  have heu:=O.entF (a:=to) (p:=y) (by rw [← hu]; exact cu) (by rw [← hu]; exact cu2)
  rw [← hu] at heu
  have hiu:=O.ent to _ (List.mem_of_getElem? (entT_some heu))
  obtain ⟨m1,m2,m3,m4,m5,m6,m7,m8⟩:=mid_gone O C hB htk hdk he (by rw [← hu]; exact c6) (by rw [← hu]; exact e7)
  rw [tmF_ne rfl]
  refine Gd.mono (rdrop_any R4 O.lkw (by omega) htn hun.1 heu _) ?_
  rintro ⟨r,s5⟩ ⟨hr,c5⟩
  simp only at hr c5
  subst hr
  obtain ⟨Z5,R5,S5⟩:=c5.same (drop_same C (fun j => Nat.le_trans (O.cnt hB j) (by decide)) heu hiu.2.1 htn)
  simp [evOp_call,sets,T.get_set]
  refine Gd.mono (radd_any R5 htn (m1.ris _) (by have:=m1.len to; omega) y i _) ?_
  rintro ⟨r,s6⟩ ⟨hr,c7⟩
  simp only at hr c7
  subst hr
  obtain ⟨Z6,R6,S6⟩:=c7.same (enter_same _ _ _ _)
  obtain ⟨L2,C2,he2,i3,hin,hcn,_,_⟩:=ren_last m1 m7 hB m2 m3 m6
  simp [evOp_call,sets,T.get_set]
  rw [tmF_ne rfl]
  refine Gd.mono (rdrop_any R6 L2 (by omega) hdn hin he2 _) ?_
  rintro ⟨r,s7⟩ ⟨hr,c8⟩
  simp only at hr c8
  subst hr
  obtain ⟨Z7,R7,S7⟩:=c8.same (drop_same C2 hcn he2 i3 hdn)
  obtain ⟨k8,c9,c10⟩:=rchg_fin R hx4 (rb:=st.nx + 1) ⟨by omega,by omega⟩ ⟨Z7,R7,S5.trans (S6.trans S7)⟩
  rw [k4] at k8
  simp [evOp_call,sets,T.get_set,k8,storeK_g,putB_eq,roT,cellsOf,loadE_eq,getC_eq,getsB_succ,getsB_zero]
  rw [hw]
  exact rrR_node (c10 _) _
 have ck':((E i).k:Int) = 2:=by omega
 simp [evOp_call,sets,T.get_set,tupK,c3,c4,c4',loadE_eq,getC_eq,hq,q1,hil,hm,a1,ck,ck']
 rw [tmF_ne rfl]
 refine Gd.mono (rwithin_any R4 O C hB htk _) ?_
 rintro _ ⟨b,rfl,hbw⟩
 by_cases cw:Wn E i to
 ·rw [if_pos cw] at hW
  have hw:=hW
  have hbt:b = true:=hbw.2 cw
  subst hbt
  simp [evOp_call,sets,T.get_set]
  rw [tmF_ne rfl]
  refine Gd.mono (rfail_any s4 _ _) ?_
  rintro ⟨r,sf⟩ ⟨hr,xf⟩
  simp only at hr xf
  subst hr
  have nf:=xf.le
  have hxf:=hx4.trans (xf.mono hx4.le)
  have kf:=(xf.keep (st.nx + 1) (by omega)).trans k4
  simp [evOp_call,sets,T.get_set,kf,storeK_g,putB_eq,roT,cellsOf,loadE_eq,getC_eq,getsB_succ,getsB_zero]
  rw [hw]
  exact rrR_ref R (hxf.set (by omega) (by omega) _) _
 rw [if_neg cw] at hW
 have hbf:b = false:=by
  cases b with
  | false => rfl
  | true => exact absurd (hbw.1 rfl) cw
 subst hbf
 simp [evOp_call,sets,T.get_set]
 rw [tmF_ne rfl]
 refine Gd.mono (rchild_any R4 O hB htn y _) ?_
 rintro _ rfl
 obtain ⟨u,hu⟩:∃ u,u = findE E to y:=⟨_,rfl⟩
 have hun:=O.find to y
 rw [← hu] at hW hun ⊢
 by_cases c6:u = i
 ·rw [if_pos c6] at hW
  have hw:=hW
  subst c6
  have k4':=k4
  simp [evOp_call,sets,T.get_set,tupK,k4,storeK_g,putB_eq,roT,cellsOf,loadE_eq,getC_eq,getsB_succ,getsB_zero]
  rw [hw]
  exact rrR_node ⟨Z,R.ext (hx4.set (by omega) (by omega) _),StR.ext (hx4.set (by omega) (by omega) _)⟩ _
 rw [if_neg c6] at hW
 have c6':¬ (u:Int) = (i:Int):=by omega
 by_cases cu:u = 0
 ·have e7:yieldE E u i = 0:=by unfold yieldE; rw [if_pos cu]
  rw [if_neg (by simpa using e7)] at hW
  have hw:=hW
  have cu':(u:Int) = 0:=by omega
  have hne:¬ (0:Int) = (i:Int):=by omega
  simp [evOp_call,sets,T.get_set,cu,cu',hne,c6']
  obtain ⟨m1,m2,m3,m4,m5,m6,m7,m8⟩:=mid_gone O C hB htk hdk he (by rw [← hu]; exact c6) (by rw [← hu]; exact e7)
  have hnone:=O.noEnt (a:=to) (p:=y) (by rw [← hu]; exact cu)
  have eE1:leaveE E to y = E:=by unfold leaveE; rw [hnone]
  rw [eE1] at hw m1 m2 m3 m5 m6 m7 m8
  refine Gd.mono (radd_any R4 htn (O.ris _) (by have:=O.len to; omega) y i _) ?_
  rintro ⟨r,s6⟩ ⟨hr,c7⟩
  simp only at hr c7
  subst hr
  obtain ⟨Z6,R6,S6⟩:=c7.same (enter_same _ _ _ _)
  obtain ⟨L2,C2,he2,i3,hin,hcn,_,_⟩:=ren_last m1 m7 hB m2 m3 m6
  simp [evOp_call,sets,T.get_set]
  rw [tmF_ne rfl]
  refine Gd.mono (rdrop_any R6 L2 (by omega) hdn hin he2 _) ?_
  rintro ⟨r,s7⟩ ⟨hr,c8⟩
  simp only at hr c8
  subst hr
  obtain ⟨Z7,R7,S7⟩:=c8.same (drop_same C2 hcn he2 i3 hdn)
  obtain ⟨k8,c9,c10⟩:=rchg_fin R hx4 (rb:=st.nx + 1) ⟨by omega,by omega⟩ ⟨Z7,R7,S6.trans S7⟩
  rw [k4] at k8
  simp [evOp_call,sets,T.get_set,k8,storeK_g,putB_eq,roT,cellsOf,loadE_eq,getC_eq,getsB_succ,getsB_zero]
  rw [hw]
  exact rrR_node (c10 _) _
 have cu':¬ (u:Int) = 0:=by omega
 by_cases cu2:u = 2
 ·have e7:yieldE E u i = 12:=by unfold yieldE; rw [if_neg cu,if_pos cu2]
  rw [e7,if_pos (by decide)] at hW
  have hw:=hW
  have cu2':(u:Int) = 2:=by omega
  have hne:¬ (2:Int) = (i:Int):=by omega
  simp [evOp_call,sets,T.get_set,cu,cu',cu2,cu2',hne,c6,c6']
  rw [tmF_ne rfl]
  refine Gd.mono (rfail_any s4 _ _) ?_
  rintro ⟨r,sf⟩ ⟨hr,xf⟩
  simp only at hr xf
  subst hr
  have nf:=xf.le
  have hxf:=hx4.trans (xf.mono hx4.le)
  have kf:=(xf.keep (st.nx + 1) (by omega)).trans k4
  simp [evOp_call,sets,T.get_set,kf,storeK_g,putB_eq,roT,cellsOf,loadE_eq,getC_eq,getsB_succ,getsB_zero]
  rw [hw]
  exact rrR_ref R (hxf.set (by omega) (by omega) _) _
 have cu2':¬ (u:Int) = 2:=by omega
 obtain ⟨b0,b1,b2,b3,b4,b5⟩:=row u hun.1
 have hul:u < n + 1:=by omega
 have hbl:=b4.lenS
 by_cases cuk:(E u).k = 2
 rotate_left
 ·have e7:yieldE E u i = 4:=by unfold yieldE; rw [if_neg cu,if_neg cu2,if_neg (fun h => cuk h.1),if_pos ⟨cuk,ck⟩]
  rw [e7,if_pos (by decide)] at hW
  have hw:=hW
  have cuk':¬ ((E u).k:Int) = 2:=by omega
  simp [evOp_call,sets,T.get_set,cu,cu',cu2,cu2',c6,c6',loadE_eq,getC_eq,hq,q1,hm,b1,hul,cuk,cuk']
  rw [tmF_ne rfl]
  refine Gd.mono (rfail_any s4 _ _) ?_
  rintro ⟨r,sf⟩ ⟨hr,xf⟩
  simp only at hr xf
  subst hr
  have nf:=xf.le
  have hxf:=hx4.trans (xf.mono hx4.le)
  have kf:=(xf.keep (st.nx + 1) (by omega)).trans k4
  simp [evOp_call,sets,T.get_set,kf,storeK_g,putB_eq,roT,cellsOf,loadE_eq,getC_eq,getsB_succ,getsB_zero]
  rw [hw]
  exact rrR_ref R (hxf.set (by omega) (by omega) _) _
 have e5:¬ ((E u).k = 2 ∧ (E i).k ≠ 2):=fun h => h.2 ck
 have e4:¬ ((E u).k ≠ 2 ∧ (E i).k = 2):=fun h => h.1 cuk
 have cuk':((E u).k:Int) = 2:=by omega
 by_cases cl:(E u).l = []
 rotate_left
 ·have e7:yieldE E u i = 6:=by unfold yieldE; rw [if_neg cu,if_neg cu2,if_neg e5,if_neg e4,if_pos cl]
  rw [e7,if_pos (by decide)] at hW
  have hw:=hW
  have cl':0 < (E u).l.length:=List.length_pos_iff.2 cl
  simp [evOp_call,sets,T.get_set,cu,cu',cu2,cu2',c6,c6',loadE_eq,getC_eq,hq,q1,hm,b1,b3,hbl,hul,cuk,cuk',cl']
  rw [tmF_ne rfl]
  refine Gd.mono (rfail_any s4 _ _) ?_
  rintro ⟨r,sf⟩ ⟨hr,xf⟩
  simp only at hr xf
  subst hr
  have nf:=xf.le
  have hxf:=hx4.trans (xf.mono hx4.le)
  have kf:=(xf.keep (st.nx + 1) (by omega)).trans k4
  simp [evOp_call,sets,T.get_set,kf,storeK_g,putB_eq,roT,cellsOf,loadE_eq,getC_eq,getsB_succ,getsB_zero]
  rw [hw]
  exact rrR_ref R (hxf.set (by omega) (by omega) _) _
 have e7:yieldE E u i = 0:=by unfold yieldE; rw [if_neg cu,if_neg cu2,if_neg e5,if_neg e4,if_neg (by simpa using cl)]
 rw [if_neg (by simpa using e7)] at hW
 have hw:=hW
 have cl':¬ 0 < (E u).l.length:=by rw [cl]; decide
 simp [evOp_call,sets,T.get_set,cu,cu',cu2,cu2',c6,c6',loadE_eq,getC_eq,hq,q1,hm,b1,b3,hbl,hul,cuk,cuk',cl,cl']
 have heu:=O.entF (a:=to) (p:=y) (by rw [← hu]; exact cu) (by rw [← hu]; exact cu2)
 rw [← hu] at heu
 have hiu:=O.ent to _ (List.mem_of_getElem? (entT_some heu))
 obtain ⟨m1,m2,m3,m4,m5,m6,m7,m8⟩:=mid_gone O C hB htk hdk he (by rw [← hu]; exact c6) (by rw [← hu]; exact e7)
 rw [tmF_ne rfl]
 refine Gd.mono (rdrop_any R4 O.lkw (by omega) htn hun.1 heu _) ?_
 rintro ⟨r,s5⟩ ⟨hr,c5⟩
 simp only at hr c5
 subst hr
 obtain ⟨Z5,R5,S5⟩:=c5.same (drop_same C (fun j => Nat.le_trans (O.cnt hB j) (by decide)) heu hiu.2.1 htn)
 simp [evOp_call,sets,T.get_set]
 refine Gd.mono (radd_any R5 htn (m1.ris _) (by have:=m1.len to; omega) y i _) ?_
 rintro ⟨r,s6⟩ ⟨hr,c7⟩
 simp only at hr c7
 subst hr
 obtain ⟨Z6,R6,S6⟩:=c7.same (enter_same _ _ _ _)
 obtain ⟨L2,C2,he2,i3,hin,hcn,_,_⟩:=ren_last m1 m7 hB m2 m3 m6
 simp [evOp_call,sets,T.get_set]
 rw [tmF_ne rfl]
 refine Gd.mono (rdrop_any R6 L2 (by omega) hdn hin he2 _) ?_
 rintro ⟨r,s7⟩ ⟨hr,c8⟩
 simp only at hr c8
 subst hr
 obtain ⟨Z7,R7,S7⟩:=c8.same (drop_same C2 hcn he2 i3 hdn)
 obtain ⟨k8,c9,c10⟩:=rchg_fin R hx4 (rb:=st.nx + 1) ⟨by omega,by omega⟩ ⟨Z7,R7,S5.trans (S6.trans S7)⟩
 rw [k4] at k8
 simp [evOp_call,sets,T.get_set,k8,storeK_g,putB_eq,roT,cellsOf,loadE_eq,getC_eq,getsB_succ,getsB_zero]
 rw [hw]
 exact rrR_node (c10 _) _
end
end Go.Proofs.YtgcpgidofikcdaaGreatDoor

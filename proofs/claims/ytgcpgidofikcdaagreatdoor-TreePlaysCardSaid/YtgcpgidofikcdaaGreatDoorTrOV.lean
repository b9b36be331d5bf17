/-
  PLAIN: TrO, TrU, TrV, in one text.
-/
import Derived.Test.YtgcpgidofikcdaaGreatDoorTrJ
import Derived.Test.YtgcpgidofikcdaaGreatDoorTrKM
import Derived.Test.YtgcpgidofikcdaaGreatDoorTrQT
import Derived.Test.YtgcpgidofikcdaaGreatDoorTmLa
set_option maxRecDepth 20000
set_option maxHeartbeats 32000000
set_option linter.unusedSimpArgs false
set_option linter.unusedVariables false
namespace Go.Proofs.YtgcpgidofikcdaaGreatDoor
open Go.RowKit Ev
section
variable {st:St} {q m n B:Nat} {Z:Nat → V} {E:Tr}
theorem rr_fin (R:RefG st q m n Z E) {s0 s:St} {rb:Nat} {w:Rs × Tr} {v:V} (x:Ext st.nx st s0) (hrb:st.nx ≤ rb ∧ rb < s0.nx) (h:rrR s0 q m n Z w (v,s)):∃ z,v = rresV w.1 z ∧ s.h.get rb = s0.h.get rb ∧ ∀ u,rrR st q m n Z w (rresV w.1 z,⟨s.nx,s.h.set rb u⟩):=by
 obtain ⟨z,Z',h1,h2,h3,h4,h5⟩:=h
 obtain ⟨c1,c2,c3⟩:=rchg_fin R x hrb ⟨Z',h3,h4⟩
 refine ⟨z,h1,c1,fun u => ?_⟩
 obtain ⟨Z2,e1,e2⟩:=c3 u
 exact ⟨z,Z2,rfl,rd_keep h2 (Nat.le_refl _) fun b hb => T.get_set_ne _ _ (by have:=h5 b hb; omega),e1,e2,fun b hb => Nat.le_trans x.le (h5 b hb)⟩
theorem rdo_any (R:RefG st q m n Z E) (O:TOk n B E) (C:Ct n E) (hB:B ≤ 1000) (o:OpT) (ha:okS o.a) (hb:okS o.b) (hat:o.at_ ≤ 9223372036854775807) (hol:o.data.length ≤ 100000) (nt:Nat) :
  Gd (tmF ⟨false,[],0,nt⟩ 22 [.p q 0,opR o] st) (rrR st q m n Z (doE n E o)):=by
 rw [Gd_tmF rfl rfl Tryz.func22 rfl]
 have x0:=fun w w' => ((Ext.refl st.nx st).new (Nat.le_refl _) w).new (Nat.le_succ _) w'
 simp [evOp_call,sets,T.get_set,newC_is,opR,cellsOf]
 obtain ⟨s0,hs0⟩:∃ s0:St,s0 = ⟨st.nx + 1 + 1,(st.h.set st.nx (.cs 51 6 ((((((T.lf.set 0 (.int .i64 o.kind)).set 1 (.s o.a)).set 2 (.s o.b)).set 3 (.int .i64 o.at_)).set 4 (.int .i64 o.n)).set 5 (.s o.data)))).set (st.nx + 1) (.cs 48 7 (((((((T.lf.set 0 (.int .i64 0)).set 1 (.int .i64 0)).set 2 (.int .i64 0)).set 3 (.int .i64 0)).set 4 (.int .i64 0)).set 5 (.s [])).set 6 (.c (.slice none 0 0))))⟩:=⟨_,rfl⟩
 rw [← hs0]
 have hx0:Ext st.nx st s0:=by rw [hs0]; exact x0 _ _
 have n0:s0.nx = st.nx + 1 + 1:=by rw [hs0]
 have kb0:s0.h.get st.nx = some (.cs 51 6 ((((((T.lf.set 0 (.int .i64 o.kind)).set 1 (.s o.a)).set 2 (.s o.b)).set 3 (.int .i64 o.at_)).set 4 (.int .i64 o.n)).set 5 (.s o.data))):=by rw [hs0]; simp [T.get_set]
 have kr0:s0.h.get (st.nx + 1) = some (.cs 48 7 (((((((T.lf.set 0 (.int .i64 0)).set 1 (.int .i64 0)).set 2 (.int .i64 0)).set 3 (.int .i64 0)).set 4 (.int .i64 0)).set 5 (.s [])).set 6 (.c (.slice none 0 0)))):=by rw [hs0]; exact T.get_set_same _ _ _
 clear hs0 x0
 have R0:=R.ext hx0
 have rm1:IntKind.i64.wrap (Int.tmod 1 2 + 1) = 2:=by decide
 have rm2:IntKind.i64.wrap (Int.tmod 2 2 + 1) = 1:=by decide
 by_cases h1:o.kind = 1
 ·have hd:doE n E o = makeE n E o.a 2 []:=by unfold doE; rw [if_pos h1]
  simp [evOp_call,sets,T.get_set,loadE_eq,getC_eq,kb0,h1,rm1,getsB_succ,getsB_zero]
  refine Gd.mono (rmakes_any R0 O C hB o.a ha 2 (by decide) [] _) ?_
  rintro ⟨r,s2⟩ h
  obtain ⟨z,hr,k2,fin⟩:=rr_fin R hx0 (rb:=st.nx + 1) ⟨by omega,by omega⟩ h
  subst hr
  rw [kr0] at k2
  rw [hd]
  generalize makeE n E o.a 2 [] = w at fin ⊢
  simp [evOp_call,sets,T.get_set,rresV,k2,storeK_g,putB_eq,roT,cellsOf,loadE_eq,getC_eq,getsB_succ,getsB_zero]
  exact fin _
 by_cases h2:o.kind = 2
 ·have hd:doE n E o = makeE n E o.a 1 []:=by unfold doE; rw [if_neg (by omega)]; rw [if_pos h2]
  simp [evOp_call,sets,T.get_set,loadE_eq,getC_eq,kb0,h2,rm2,getsB_succ,getsB_zero]
  refine Gd.mono (rmakes_any R0 O C hB o.a ha 1 (by decide) [] _) ?_
  rintro ⟨r,s2⟩ h
  obtain ⟨z,hr,k2,fin⟩:=rr_fin R hx0 (rb:=st.nx + 1) ⟨by omega,by omega⟩ h
  subst hr
  rw [kr0] at k2
  rw [hd]
  generalize makeE n E o.a 1 [] = w at fin ⊢
  simp [evOp_call,sets,T.get_set,rresV,k2,storeK_g,putB_eq,roT,cellsOf,loadE_eq,getC_eq,getsB_succ,getsB_zero]
  exact fin _
 by_cases h3:o.kind = 3
 ·have hd:doE n E o = linkE E o.a o.b:=by unfold doE; rw [if_neg (by omega)]; rw [if_neg (by omega)]; rw [if_pos h3]
  simp [evOp_call,sets,T.get_set,loadE_eq,getC_eq,kb0,h3,getsB_succ,getsB_zero]
  have eo:(.g [.int .i64 3,.s o.a,.s o.b,.int .i64 o.at_,.int .i64 o.n,.s o.data]:V) = opR o:=by rw [opR,h3]
  rw [eo]
  refine Gd.mono (rlink_any R0 O C hB o hb _) ?_
  rintro ⟨r,s2⟩ h
  obtain ⟨z,hr,k2,fin⟩:=rr_fin R hx0 (rb:=st.nx + 1) ⟨by omega,by omega⟩ h
  subst hr
  rw [kr0] at k2
  rw [hd]
  generalize linkE E o.a o.b = w at fin ⊢
  simp [evOp_call,sets,T.get_set,rresV,k2,storeK_g,putB_eq,roT,cellsOf,loadE_eq,getC_eq,getsB_succ,getsB_zero]
  exact fin _
 by_cases h4:o.kind = 4
 ·have hd:doE n E o = unlinkE E o.a:=by unfold doE; rw [if_neg (by omega)]; rw [if_neg (by omega)]; rw [if_neg (by omega)]; rw [if_pos h4]
  simp [evOp_call,sets,T.get_set,loadE_eq,getC_eq,kb0,h4,getsB_succ,getsB_zero]
  have eo:(.g [.int .i64 4,.s o.a,.s o.b,.int .i64 o.at_,.int .i64 o.n,.s o.data]:V) = opR o:=by rw [opR,h4]
  rw [eo]
  rw [tmF_ne rfl]
  refine Gd.mono (rgone_any R0 O C hB o _ (.inl ⟨h4,rfl⟩) _) ?_
  rintro ⟨r,s2⟩ h
  obtain ⟨z,hr,k2,fin⟩:=rr_fin R hx0 (rb:=st.nx + 1) ⟨by omega,by omega⟩ h
  subst hr
  rw [kr0] at k2
  rw [hd]
  generalize unlinkE E o.a = w at fin ⊢
  simp [evOp_call,sets,T.get_set,rresV,k2,storeK_g,putB_eq,roT,cellsOf,loadE_eq,getC_eq,getsB_succ,getsB_zero]
  exact fin _
 by_cases h5:o.kind = 5
 ·have hd:doE n E o = rmdirE E o.a:=by unfold doE; rw [if_neg (by omega)]; rw [if_neg (by omega)]; rw [if_neg (by omega)]; rw [if_neg (by omega)]; rw [if_pos h5]
  simp [evOp_call,sets,T.get_set,loadE_eq,getC_eq,kb0,h5,getsB_succ,getsB_zero]
  have eo:(.g [.int .i64 5,.s o.a,.s o.b,.int .i64 o.at_,.int .i64 o.n,.s o.data]:V) = opR o:=by rw [opR,h5]
  rw [eo]
  rw [tmF_ne rfl]
  refine Gd.mono (rgone_any R0 O C hB o _ (.inr ⟨h5,rfl⟩) _) ?_
  rintro ⟨r,s2⟩ h
  obtain ⟨z,hr,k2,fin⟩:=rr_fin R hx0 (rb:=st.nx + 1) ⟨by omega,by omega⟩ h
  subst hr
  rw [kr0] at k2
  rw [hd]
  generalize rmdirE E o.a = w at fin ⊢
  simp [evOp_call,sets,T.get_set,rresV,k2,storeK_g,putB_eq,roT,cellsOf,loadE_eq,getC_eq,getsB_succ,getsB_zero]
  exact fin _
 by_cases h6:o.kind = 6
 ·have hd:doE n E o = renameE E o.a o.b:=by unfold doE; rw [if_neg (by omega)]; rw [if_neg (by omega)]; rw [if_neg (by omega)]; rw [if_neg (by omega)]; rw [if_neg (by omega)]; rw [if_pos h6]
  simp [evOp_call,sets,T.get_set,loadE_eq,getC_eq,kb0,h6,getsB_succ,getsB_zero]
  have eo:(.g [.int .i64 6,.s o.a,.s o.b,.int .i64 o.at_,.int .i64 o.n,.s o.data]:V) = opR o:=by rw [opR,h6]
  rw [eo]
  refine Gd.mono (rrename_any R0 O C hB o _) ?_
  rintro ⟨r,s2⟩ h
  obtain ⟨z,hr,k2,fin⟩:=rr_fin R hx0 (rb:=st.nx + 1) ⟨by omega,by omega⟩ h
  subst hr
  rw [kr0] at k2
  rw [hd]
  generalize renameE E o.a o.b = w at fin ⊢
  simp [evOp_call,sets,T.get_set,rresV,k2,storeK_g,putB_eq,roT,cellsOf,loadE_eq,getC_eq,getsB_succ,getsB_zero]
  exact fin _
 by_cases h7:o.kind = 7
 ·have hd:doE n E o = symlinkE n E o.a o.data:=by unfold doE; rw [if_neg (by omega)]; rw [if_neg (by omega)]; rw [if_neg (by omega)]; rw [if_neg (by omega)]; rw [if_neg (by omega)]; rw [if_neg (by omega)]; rw [if_pos h7]
  by_cases c1:(o.data.length:Int) < 1
  ·have hw:doE n E o = (refR 1,E):=by rw [hd]; unfold symlinkE; rw [if_pos (by omega)]
   simp [evOp_call,sets,T.get_set,loadE_eq,getC_eq,kb0,h7,len_str un9,c1]
   rw [tmF_ne rfl]
   refine Gd.mono (rfail_any s0 _ _) ?_
   rintro ⟨r,sf⟩ ⟨hr,xf⟩
   simp only at hr xf
   subst hr
   have nf:=xf.le
   have hxf:=hx0.trans (xf.mono hx0.le)
   have kf:=(xf.keep (st.nx + 1) (by omega)).trans kr0
   simp [evOp_call,sets,T.get_set,kf,storeK_g,putB_eq,roT,cellsOf,loadE_eq,getC_eq,getsB_succ,getsB_zero]
   rw [hw]
   exact rrR_ref R (hxf.set (by omega) (by omega) _) _
  by_cases c2:400 < (o.data.length:Int)
  ·have hw:doE n E o = (refR 1,E):=by rw [hd]; unfold symlinkE; rw [if_pos (by omega)]
   simp [evOp_call,sets,T.get_set,loadE_eq,getC_eq,kb0,h7,len_str un9,c1,c2]
   rw [tmF_ne rfl]
   refine Gd.mono (rfail_any s0 _ _) ?_
   rintro ⟨r,sf⟩ ⟨hr,xf⟩
   simp only at hr xf
   subst hr
   have nf:=xf.le
   have hxf:=hx0.trans (xf.mono hx0.le)
   have kf:=(xf.keep (st.nx + 1) (by omega)).trans kr0
   simp [evOp_call,sets,T.get_set,kf,storeK_g,putB_eq,roT,cellsOf,loadE_eq,getC_eq,getsB_succ,getsB_zero]
   rw [hw]
   exact rrR_ref R (hxf.set (by omega) (by omega) _) _
  have hd2:doE n E o = makeE n E o.a 3 o.data:=by rw [hd]; unfold symlinkE; rw [if_neg (by omega)]
  clear hd
  have hd:=hd2
  simp [evOp_call,sets,T.get_set,loadE_eq,getC_eq,kb0,h7,len_str un9,c1,c2]
  refine Gd.mono (rmakes_any R0 O C hB o.a ha 3 (by decide) o.data _) ?_
  rintro ⟨r,s2⟩ h
  obtain ⟨z,hr,k2,fin⟩:=rr_fin R hx0 (rb:=st.nx + 1) ⟨by omega,by omega⟩ h
  subst hr
  rw [kr0] at k2
  rw [hd]
  generalize makeE n E o.a 3 o.data = w at fin ⊢
  simp [evOp_call,sets,T.get_set,rresV,k2,storeK_g,putB_eq,roT,cellsOf,loadE_eq,getC_eq,getsB_succ,getsB_zero]
  exact fin _
 by_cases h8:o.kind = 8
 ·have hd:doE n E o = readlinkE E o.a:=by unfold doE; rw [if_neg (by omega)]; rw [if_neg (by omega)]; rw [if_neg (by omega)]; rw [if_neg (by omega)]; rw [if_neg (by omega)]; rw [if_neg (by omega)]; rw [if_neg (by omega)]; rw [if_pos h8]
  unfold readlinkE at hd
  simp [evOp_call,sets,T.get_set,loadE_eq,getC_eq,kb0,h8]
  rw [tmF_ne rfl]
  refine Gd.mono (rway_any R0 O C hB o.a false _) ?_
  rintro ⟨r,s1⟩ ⟨hr,x1⟩
  simp only at hr x1
  subst hr
  have hx1:=hx0.trans (x1.mono hx0.le)
  have n1:=x1.le
  have kb:=(x1.keep st.nx (by omega)).trans kb0
  have k1:=(x1.keep (st.nx + 1) (by omega)).trans kr0
  have R1:=R.ext hx1
  have hwn:=O.way o.a false
  have hwk:=fun h => C.way O (s:=o.a) (last:=false) h
  obtain ⟨w,hwd⟩:∃ w,w = wayE E o.a false:=⟨_,rfl⟩
  rw [← hwd] at hwn hwk hd ⊢
  by_cases ce:w.2 = 0
  rotate_left
  ·rw [if_pos ce] at hd
   have hw:=hd
   simp [evOp_call,sets,T.get_set,tupK,ce]
   rw [tmF_ne rfl]
   refine Gd.mono (rfail_any s1 _ _) ?_
   rintro ⟨r,sf⟩ ⟨hr,xf⟩
   simp only at hr xf
   subst hr
   have nf:=xf.le
   have hxf:=hx1.trans (xf.mono hx1.le)
   have kf:=(xf.keep (st.nx + 1) (by omega)).trans k1
   simp [evOp_call,sets,T.get_set,kf,storeK_g,putB_eq,roT,cellsOf,loadE_eq,getC_eq,getsB_succ,getsB_zero]
   rw [hw]
   exact rrR_ref R (hxf.set (by omega) (by omega) _) _
  rw [if_neg (by simpa using ce)] at hd
  obtain ⟨tq,hq,q0,q1⟩:=R1.cell
  obtain ⟨tt,hm,row⟩:=R1.row
  obtain ⟨a0,a1,a2,a3,a4,a5⟩:=row w.1 hwn.1
  have hwl:w.1 < n + 1:=by omega
  by_cases ck:(E w.1).k = 3
  rotate_left
  ·rw [if_pos ck] at hd
   have hw:=hd
   have ck':¬ ((E w.1).k:Int) = 3:=by omega
   simp [evOp_call,sets,T.get_set,tupK,ce,loadE_eq,getC_eq,kb,h8,hq,q1,hwl,hm,a1,ck,ck']
   rw [tmF_ne rfl]
   refine Gd.mono (rfail_any s1 _ _) ?_
   rintro ⟨r,sf⟩ ⟨hr,xf⟩
   simp only at hr xf
   subst hr
   have nf:=xf.le
   have hxf:=hx1.trans (xf.mono hx1.le)
   have kf:=(xf.keep (st.nx + 1) (by omega)).trans k1
   simp [evOp_call,sets,T.get_set,kf,storeK_g,putB_eq,roT,cellsOf,loadE_eq,getC_eq,getsB_succ,getsB_zero]
   rw [hw]
   exact rrR_ref R (hxf.set (by omega) (by omega) _) _
  rw [if_neg (by simpa using ck)] at hd
  have ck':((E w.1).k:Int) = 3:=by omega
  simp [evOp_call,sets,T.get_set,tupK,ce,loadE_eq,getC_eq,kb,h8,hq,q1,hwl,hm,a1,a2,ck,ck',k1,storeK_g,putB_eq,roT,cellsOf,getsB_succ,getsB_zero]
  rw [hd]
  exact rrR_plain ⟨Z,R.ext (hx1.set (by omega) (by omega) _),StR.ext (hx1.set (by omega) (by omega) _)⟩ 0 w.1 0 0 0 (E w.1).d
 by_cases h9:o.kind = 9
 ·have hd:doE n E o = readE E o.a o.at_ o.n:=by unfold doE; rw [if_neg (by omega)]; rw [if_neg (by omega)]; rw [if_neg (by omega)]; rw [if_neg (by omega)]; rw [if_neg (by omega)]; rw [if_neg (by omega)]; rw [if_neg (by omega)]; rw [if_neg (by omega)]; rw [if_pos h9]
  simp [evOp_call,sets,T.get_set,loadE_eq,getC_eq,kb0,h9,getsB_succ,getsB_zero]
  have eo:(.g [.int .i64 9,.s o.a,.s o.b,.int .i64 o.at_,.int .i64 o.n,.s o.data]:V) = opR o:=by rw [opR,h9]
  rw [eo]
  refine Gd.mono (rread_any R0 O C hB o h9 _) ?_
  rintro ⟨r,s2⟩ h
  obtain ⟨z,hr,k2,fin⟩:=rr_fin R hx0 (rb:=st.nx + 1) ⟨by omega,by omega⟩ h
  subst hr
  rw [kr0] at k2
  rw [hd]
  generalize readE E o.a o.at_ o.n = w at fin ⊢
  simp [evOp_call,sets,T.get_set,rresV,k2,storeK_g,putB_eq,roT,cellsOf,loadE_eq,getC_eq,getsB_succ,getsB_zero]
  exact fin _
 by_cases h10:o.kind = 10
 ·have hd:doE n E o = writeE E o.a o.at_ o.data:=by unfold doE; rw [if_neg (by omega)]; rw [if_neg (by omega)]; rw [if_neg (by omega)]; rw [if_neg (by omega)]; rw [if_neg (by omega)]; rw [if_neg (by omega)]; rw [if_neg (by omega)]; rw [if_neg (by omega)]; rw [if_neg (by omega)]; rw [if_pos h10]
  simp [evOp_call,sets,T.get_set,loadE_eq,getC_eq,kb0,h10,getsB_succ,getsB_zero]
  have eo:(.g [.int .i64 10,.s o.a,.s o.b,.int .i64 o.at_,.int .i64 o.n,.s o.data]:V) = opR o:=by rw [opR,h10]
  rw [eo]
  refine Gd.mono (rwrite_any R0 O C hB o h10 hat hol _) ?_
  rintro ⟨r,s2⟩ h
  obtain ⟨z,hr,k2,fin⟩:=rr_fin R hx0 (rb:=st.nx + 1) ⟨by omega,by omega⟩ h
  subst hr
  rw [kr0] at k2
  rw [hd]
  generalize writeE E o.a o.at_ o.data = w at fin ⊢
  simp [evOp_call,sets,T.get_set,rresV,k2,storeK_g,putB_eq,roT,cellsOf,loadE_eq,getC_eq,getsB_succ,getsB_zero]
  exact fin _
 by_cases h11:o.kind = 11
 ·have hd:doE n E o = truncE E o.a o.n:=by unfold doE; rw [if_neg (by omega)]; rw [if_neg (by omega)]; rw [if_neg (by omega)]; rw [if_neg (by omega)]; rw [if_neg (by omega)]; rw [if_neg (by omega)]; rw [if_neg (by omega)]; rw [if_neg (by omega)]; rw [if_neg (by omega)]; rw [if_neg (by omega)]; rw [if_pos h11]
  simp [evOp_call,sets,T.get_set,loadE_eq,getC_eq,kb0,h11,getsB_succ,getsB_zero]
  have eo:(.g [.int .i64 11,.s o.a,.s o.b,.int .i64 o.at_,.int .i64 o.n,.s o.data]:V) = opR o:=by rw [opR,h11]
  rw [eo]
  refine Gd.mono (rtrunc_any R0 O C hB o h11 _) ?_
  rintro ⟨r,s2⟩ h
  obtain ⟨z,hr,k2,fin⟩:=rr_fin R hx0 (rb:=st.nx + 1) ⟨by omega,by omega⟩ h
  subst hr
  rw [kr0] at k2
  rw [hd]
  generalize truncE E o.a o.n = w at fin ⊢
  simp [evOp_call,sets,T.get_set,rresV,k2,storeK_g,putB_eq,roT,cellsOf,loadE_eq,getC_eq,getsB_succ,getsB_zero]
  exact fin _
 by_cases h12:o.kind = 12
 ·have hd:doE n E o = statE E o.a:=by unfold doE; rw [if_neg (by omega)]; rw [if_neg (by omega)]; rw [if_neg (by omega)]; rw [if_neg (by omega)]; rw [if_neg (by omega)]; rw [if_neg (by omega)]; rw [if_neg (by omega)]; rw [if_neg (by omega)]; rw [if_neg (by omega)]; rw [if_neg (by omega)]; rw [if_neg (by omega)]; rw [if_pos h12]
  unfold statE at hd
  simp [evOp_call,sets,T.get_set,loadE_eq,getC_eq,kb0,h12]
  rw [tmF_ne rfl]
  refine Gd.mono (rway_any R0 O C hB o.a false _) ?_
  rintro ⟨r,s1⟩ ⟨hr,x1⟩
  simp only at hr x1
  subst hr
  have hx1:=hx0.trans (x1.mono hx0.le)
  have n1:=x1.le
  have kb:=(x1.keep st.nx (by omega)).trans kb0
  have k1:=(x1.keep (st.nx + 1) (by omega)).trans kr0
  have R1:=R.ext hx1
  have hwn:=O.way o.a false
  have hwk:=fun h => C.way O (s:=o.a) (last:=false) h
  obtain ⟨w,hwd⟩:∃ w,w = wayE E o.a false:=⟨_,rfl⟩
  rw [← hwd] at hwn hwk hd ⊢
  by_cases ce:w.2 = 0
  rotate_left
  ·rw [if_pos ce] at hd
   have hw:=hd
   simp [evOp_call,sets,T.get_set,tupK,ce]
   rw [tmF_ne rfl]
   refine Gd.mono (rfail_any s1 _ _) ?_
   rintro ⟨r,sf⟩ ⟨hr,xf⟩
   simp only at hr xf
   subst hr
   have nf:=xf.le
   have hxf:=hx1.trans (xf.mono hx1.le)
   have kf:=(xf.keep (st.nx + 1) (by omega)).trans k1
   simp [evOp_call,sets,T.get_set,kf,storeK_g,putB_eq,roT,cellsOf,loadE_eq,getC_eq,getsB_succ,getsB_zero]
   rw [hw]
   exact rrR_ref R (hxf.set (by omega) (by omega) _) _
  rw [if_neg (by simpa using ce)] at hd
  obtain ⟨tq,hq,q0,q1⟩:=R1.cell
  obtain ⟨tt,hm,row⟩:=R1.row
  obtain ⟨a0,a1,a2,a3,a4,a5⟩:=row w.1 hwn.1
  have hwl:w.1 < n + 1:=by omega
  simp [evOp_call,sets,T.get_set,tupK,ce,loadE_eq,getC_eq,kb,h12]
  refine Gd.mono (rstat_any R1 O C hB ⟨hwn.2 ce,hwn.1⟩ _) ?_
  rintro ⟨r,s2⟩ h
  obtain ⟨z,hr,k2,fin⟩:=rr_fin R hx1 (rb:=st.nx + 1) ⟨by omega,by omega⟩ h
  subst hr
  rw [k1] at k2
  have hd2:doE n E o = (if (E w.1).k = 2 then ⟨0,w.1,2,1,(E w.1).l.length,[],[]⟩ else ⟨0,w.1,(E w.1).k,(E w.1).nm,(E w.1).d.length,[],[]⟩,E):=by
   rw [hd]
   split <;> rfl
  rw [hd2]
  generalize (if (E w.1).k = 2 then (⟨0,w.1,2,1,(E w.1).l.length,[],[]⟩:Rs) else ⟨0,w.1,(E w.1).k,(E w.1).nm,(E w.1).d.length,[],[]⟩) = W at fin ⊢
  simp [evOp_call,sets,T.get_set,rresV,k2,storeK_g,putB_eq,roT,cellsOf,loadE_eq,getC_eq,getsB_succ,getsB_zero]
  exact fin _
 by_cases h13:o.kind = 13
 ·have hd:doE n E o = namesE E o.a:=by unfold doE; rw [if_neg (by omega)]; rw [if_neg (by omega)]; rw [if_neg (by omega)]; rw [if_neg (by omega)]; rw [if_neg (by omega)]; rw [if_neg (by omega)]; rw [if_neg (by omega)]; rw [if_neg (by omega)]; rw [if_neg (by omega)]; rw [if_neg (by omega)]; rw [if_neg (by omega)]; rw [if_neg (by omega)]; rw [if_pos h13]
  unfold namesE at hd
  simp [evOp_call,sets,T.get_set,loadE_eq,getC_eq,kb0,h13]
  rw [tmF_ne rfl]
  refine Gd.mono (rway_any R0 O C hB o.a true _) ?_
  rintro ⟨r,s1⟩ ⟨hr,x1⟩
  simp only at hr x1
  subst hr
  have hx1:=hx0.trans (x1.mono hx0.le)
  have n1:=x1.le
  have kb:=(x1.keep st.nx (by omega)).trans kb0
  have k1:=(x1.keep (st.nx + 1) (by omega)).trans kr0
  have R1:=R.ext hx1
  have hwn:=O.way o.a true
  have hwk:=fun h => C.way O (s:=o.a) (last:=true) h
  obtain ⟨w,hwd⟩:∃ w,w = wayE E o.a true:=⟨_,rfl⟩
  rw [← hwd] at hwn hwk hd ⊢
  by_cases ce:w.2 = 0
  rotate_left
  ·rw [if_pos ce] at hd
   have hw:=hd
   simp [evOp_call,sets,T.get_set,tupK,ce]
   rw [tmF_ne rfl]
   refine Gd.mono (rfail_any s1 _ _) ?_
   rintro ⟨r,sf⟩ ⟨hr,xf⟩
   simp only at hr xf
   subst hr
   have nf:=xf.le
   have hxf:=hx1.trans (xf.mono hx1.le)
   have kf:=(xf.keep (st.nx + 1) (by omega)).trans k1
   simp [evOp_call,sets,T.get_set,kf,storeK_g,putB_eq,roT,cellsOf,loadE_eq,getC_eq,getsB_succ,getsB_zero]
   rw [hw]
   exact rrR_ref R (hxf.set (by omega) (by omega) _) _
  rw [if_neg (by simpa using ce)] at hd
  obtain ⟨tq,hq,q0,q1⟩:=R1.cell
  obtain ⟨tt,hm,row⟩:=R1.row
  obtain ⟨a0,a1,a2,a3,a4,a5⟩:=row w.1 hwn.1
  have hwl:w.1 < n + 1:=by omega
  by_cases ck:(E w.1).k = 2
  rotate_left
  ·rw [if_pos ck] at hd
   have hw:=hd
   have ck':¬ ((E w.1).k:Int) = 2:=by omega
   simp [evOp_call,sets,T.get_set,tupK,ce,loadE_eq,getC_eq,hq,q1,hwl,hm,a1,ck,ck']
   rw [tmF_ne rfl]
   refine Gd.mono (rfail_any s1 _ _) ?_
   rintro ⟨r,sf⟩ ⟨hr,xf⟩
   simp only at hr xf
   subst hr
   have nf:=xf.le
   have hxf:=hx1.trans (xf.mono hx1.le)
   have kf:=(xf.keep (st.nx + 1) (by omega)).trans k1
   simp [evOp_call,sets,T.get_set,kf,storeK_g,putB_eq,roT,cellsOf,loadE_eq,getC_eq,getsB_succ,getsB_zero]
   rw [hw]
   exact rrR_ref R (hxf.set (by omega) (by omega) _) _
  rw [if_neg (by simpa using ck)] at hd
  have ck':((E w.1).k:Int) = 2:=by omega
  simp [evOp_call,sets,T.get_set,tupK,ce,loadE_eq,getC_eq,hq,q1,hwl,hm,a1,ck,ck']
  rw [tmF_ne rfl]
  refine Gd.mono (rnames_any R1 O hB hwn.1 _) ?_
  rintro ⟨r,s2⟩ ⟨hr,hrb,x2⟩
  simp only at hr hrb x2
  have n2:=x2.le
  have hx2:=hx1.trans (x2.mono hx1.le)
  have k2:=(x2.keep (st.nx + 1) (by omega)).trans k1
  have hr1:V.one r = true:=hr.one
  simp [evOp_call,sets,T.get_set,hr1,k2,storeK_g,putB_eq,roT,cellsOf,loadE_eq,getC_eq,getsB_succ,getsB_zero]
  rw [hd]
  refine ⟨r,Z,rfl,?_,R.ext (hx2.set (m:=st.nx + 1) (by omega) (by omega) _),StR.ext (hx2.set (m:=st.nx + 1) (by omega) (by omega) _),fun b hb => by have:=hrb b hb; omega⟩
  exact rd_keep hr (Nat.le_refl _) fun b hb => T.get_set_ne _ _ (show st.nx + 1 ≠ b by have:=hrb b hb; omega)
 have hw:doE n E o = (refR 1,E):=by unfold doE; rw [if_neg (by omega)]; rw [if_neg (by omega)]; rw [if_neg (by omega)]; rw [if_neg (by omega)]; rw [if_neg (by omega)]; rw [if_neg (by omega)]; rw [if_neg (by omega)]; rw [if_neg (by omega)]; rw [if_neg (by omega)]; rw [if_neg (by omega)]; rw [if_neg (by omega)]; rw [if_neg (by omega)]; rw [if_neg (by omega)]
 simp [evOp_call,sets,T.get_set,loadE_eq,getC_eq,kb0,h1,h2,h3,h4,h5,h6,h7,h8,h9,h10,h11,h12,h13]
 rw [tmF_ne rfl]
 refine Gd.mono (rfail_any s0 _ _) ?_
 rintro ⟨r,sf⟩ ⟨hr,xf⟩
 simp only at hr xf
 subst hr
 have nf:=xf.le
 have hxf:=hx0.trans (xf.mono hx0.le)
 have kf:=(xf.keep (st.nx + 1) (by omega)).trans kr0
 simp [evOp_call,sets,T.get_set,kf,storeK_g,putB_eq,roT,cellsOf,loadE_eq,getC_eq,getsB_succ,getsB_zero]
 rw [hw]
 exact rrR_ref R (hxf.set (by omega) (by omega) _) _
end
end Go.Proofs.YtgcpgidofikcdaaGreatDoor
set_option linter.unusedSimpArgs false
set_option linter.unusedVariables false
namespace Go.Proofs.YtgcpgidofikcdaaGreatDoor
open Go.RowKit Ev
theorem do_small {n B:Nat} {E:Tr} (O:TOk n B E) (o:OpT):okS (doE n E o).1.data ∧ (doE n E o).1.names.length ≤ B + 1:=by
 have h0:okS ([]:Tx):=fun b hb => by cases hb
 have mk:∀ s k d,okS (makeE n E s k d).1.data ∧ (makeE n E s k d).1.names.length ≤ B + 1:=fun s k d => by
  unfold makeE; (repeat' split) <;> exact ⟨h0,Nat.zero_le _⟩
 unfold doE
 by_cases c:o.kind = 1
 ·rw [if_pos c]; exact mk _ _ _
 rw [if_neg c]; clear c; by_cases c:o.kind = 2
 ·rw [if_pos c]; exact mk _ _ _
 rw [if_neg c]; clear c; by_cases c:o.kind = 3
 ·rw [if_pos c]; unfold linkE; (repeat' split) <;> exact ⟨h0,Nat.zero_le _⟩
 rw [if_neg c]; clear c; by_cases c:o.kind = 4
 ·rw [if_pos c]; unfold unlinkE; (repeat' split) <;> exact ⟨h0,Nat.zero_le _⟩
 rw [if_neg c]; clear c; by_cases c:o.kind = 5
 ·rw [if_pos c]; unfold rmdirE; (repeat' split) <;> exact ⟨h0,Nat.zero_le _⟩
 rw [if_neg c]; clear c; by_cases c:o.kind = 6
 ·rw [if_pos c]; unfold renameE; (repeat' split) <;> exact ⟨h0,Nat.zero_le _⟩
 rw [if_neg c]; clear c; by_cases c:o.kind = 7
 ·rw [if_pos c]; unfold symlinkE; split
  ·exact ⟨h0,Nat.zero_le _⟩
  ·exact mk _ _ _
 rw [if_neg c]; clear c; by_cases c:o.kind = 8
 ·rw [if_pos c]; unfold readlinkE; split
  ·exact ⟨h0,Nat.zero_le _⟩
  split
  ·exact ⟨h0,Nat.zero_le _⟩
  ·exact ⟨(O.dat _).1,Nat.zero_le _⟩
 rw [if_neg c]; clear c; by_cases c:o.kind = 9
 ·rw [if_pos c]; unfold readE; split
  ·exact ⟨h0,Nat.zero_le _⟩
  split
  ·exact ⟨h0,Nat.zero_le _⟩
  ·refine ⟨fun b hb => ?_,Nat.zero_le _⟩
   exact (O.dat _).1 b (List.mem_of_mem_drop (List.mem_of_mem_take hb))
 rw [if_neg c]; clear c; by_cases c:o.kind = 10
 ·rw [if_pos c]; unfold writeE; (repeat' split) <;> exact ⟨h0,Nat.zero_le _⟩
 rw [if_neg c]; clear c; by_cases c:o.kind = 11
 ·rw [if_pos c]; unfold truncE; (repeat' split) <;> exact ⟨h0,Nat.zero_le _⟩
 rw [if_neg c]; clear c; by_cases c:o.kind = 12
 ·rw [if_pos c]; unfold statE; (repeat' split) <;> exact ⟨h0,Nat.zero_le _⟩
 rw [if_neg c]; clear c; by_cases c:o.kind = 13
 ·rw [if_pos c]; unfold namesE; split
  ·exact ⟨h0,Nat.zero_le _⟩
  split
  ·exact ⟨h0,Nat.zero_le _⟩
  ·refine ⟨h0,?_⟩
   show (listT E _).length ≤ B + 1
   unfold listT
   split
   ·have:=O.len 1
    have:=cntT_le lostT (E 1).l
    simp
    omega
   ·have:=O.len (wayE E o.a true).1
    simp
    omega
 rw [if_neg c]; exact ⟨h0,Nat.zero_le _⟩
structure ApR (q m q2 m2 n:Nat) (Z2:Nat → V) (LB DB:Nat → Prop):Prop where
 qm:q2 ≠ m
 mq:m2 ≠ q
 mm:m2 ≠ m
 lq:¬ LB q2
 lm:¬ LB m2
 dm:¬ DB m2
 zb:∀ i,i ≤ n → ∀ b,BlkOf (Z2 i) b → b ≠ m ∧ ¬ LB b
theorem RefG.frT {s s':St} {q m q2 m2 n:Nat} {Z2:Nat → V} {E:Tr} {LB DB LB' DB':Nat → Prop} (R:RefG s q2 m2 n Z2 E) (A:ApR q m q2 m2 n Z2 LB DB) (F:FrT s s' m LB DB LB' DB'):RefG s' q2 m2 n Z2 E ∧ ApR q m q2 m2 n Z2 LB' DB':=by
 have hl:=R.lt
 refine ⟨R.keepB F.le fun b hb => ?_,A.qm,A.mq,A.mm,fun h => ?_,fun h => ?_,fun h => ?_,fun i hi b hb => ⟨(A.zb i hi b hb).1,fun h => ?_⟩⟩
 ·rcases hb with rfl | rfl | ⟨i,hi,hb⟩
  ·exact F.keep _ hl.1 A.qm A.lq
  ·exact F.keep _ hl.2.1 A.mm A.lm
  ·exact F.keep _ (R.blkLt hi hb) (A.zb i hi b hb).1 (A.zb i hi b hb).2
 ·rcases F.lb _ h with h | h
  ·exact A.lq h
  ·omega
 ·rcases F.lb _ h with h | h
  ·exact A.lm h
  ·omega
 ·rcases F.db _ h with h | h
  ·exact A.dm h
  ·omega
 ·rcases F.lb _ h with h | h
  ·exact (A.zb i hi b hb).2 h
  ·have:=R.blkLt hi hb; omega
theorem TrN.stR {st s s':St} {q m n B q2 m2:Nat} {x:V} {Y Z Z2 Z2':Nat → V} {E:Tr} {LB DB:Nat → Prop} (h:TrN st s q m n B x Y Z E LB DB) (A:ApR q m q2 m2 n Z2 LB DB) (hm2:st.nx ≤ m2) (S:StR s s' m2 n Z2 Z2'):TrN st s' q m n B x Y Z E LB DB ∧ ApR q m q2 m2 n Z2' LB DB:=by
 have hl:=h.tr.lt
 have hle:=h.ext.le
 refine ⟨⟨h.tr.keep S.le fun b hb => ?_,h.ok,⟨Nat.le_trans hle S.le,fun w => S.wf (h.ext.wf w),fun b hb => (S.keep b (by omega) (by omega)).trans (h.ext.keep b hb)⟩,h.q,h.m,h.lb,h.db⟩,A.qm,A.mq,A.mm,A.lq,A.lm,A.dm,fun i hi b hb => ?_⟩
 ·rcases hb with rfl | rfl | hb | hb
  ·exact S.keep _ hl.1 (Ne.symm A.mq)
  ·exact S.keep _ hl.2.1 (Ne.symm A.mm)
  ·exact S.keep b (h.tr.lb b hb).1 fun e => A.lm (e ▸ hb)
  ·exact S.keep b (h.tr.db b hb).1 fun e => A.dm (e ▸ hb)
 ·rcases S.blk i hi b hb with ⟨j,hj,e⟩ | e
  ·exact A.zb j hj b e
  ·exact ⟨by omega,fun e2 => by have:=(h.tr.lb b e2).1; omega⟩
end Go.Proofs.YtgcpgidofikcdaaGreatDoor
set_option linter.unusedSimpArgs false
set_option linter.unusedVariables false
namespace Go.Proofs.YtgcpgidofikcdaaGreatDoor
open Go.RowKit Ev
def lyI (st:St) (k:Int) (y:V) (q m q2 m2 n:Nat) (L:Nat) (e:Env) (s:St):Prop:=∃ (i:Nat) (x:V) (Y Z Z2:Nat → V) (E:Tr) (LB DB:Nat → Prop),i ≤ L ∧ e.get 1 = some y ∧ e.get 5 = some (.p q 0) ∧ e.get 6 = some (.p q2 0) ∧ e.get 7 = some (.int .i64 (i:Int)) ∧ TrN st s q m n i x Y Z E LB DB ∧ Ct n E ∧ RefG s q2 m2 n Z2 E ∧ ApR q m q2 m2 n Z2 LB DB
theorem g_TreePlays (st:St) (k:Int) (y:Nat → V) (l:List LOp) (hy:(rowC opC).at' st y l) :
  Gd (lawX Tryz.prog tmF 9 ⟨false,[],0,0⟩ 4 [.int .i64 k,y 0] st) fun r => r.1 = .bool true:=by
 rw [Gd_lawX Tryz.func4 rfl]
 by_cases c3:(50:Int) < (l.length:Int)
 ·simp [evOp_call,sets,T.get_set,oracF_cons,rowC_len hy,c3]
 simp [evOp_call,sets,T.get_set,oracF_cons,rowC_len hy,c3]
 rw [tmF_ne rfl]
 refine Gd.mono (newT_any st k _) ?_
 rintro ⟨r,s0⟩ ⟨q,m,x,Y,Z,hr,TG,hm,hq,x0⟩
 simp only at hr TG x0
 subst hr
 simp [evOp_call,sets,T.get_set,oracF_cons]
 rw [tmF_ne rfl]
 refine Gd.mono (rNew_any s0 k _) ?_
 rintro ⟨r,s00⟩ ⟨q2,m2,hr,RG,hq2,hm2,x00⟩
 simp only at hr RG x00
 subst hr
 have n0:=x0.le
 have n00:=x00.le
 have hl0:=TG.lt
 simp [evOp_call,sets,T.get_set,ptrEq]
 refine Gd_loop (lyI st k (y 0) q m q2 m2 (nodesN k) l.length) (fun e _ => muAt 7 l.length e) ?_ ?_
 ·refine ⟨0,x,Y,Z,_,newE,noB,noB,Nat.zero_le _,by simp [T.get_set],by simp [T.get_set],by simp [T.get_set],by simp [T.get_set],⟨TG.ext x00,newE_ok (nodesN_ok k),x0.trans (x00.mono n0),hq,hm,fun b h => h.elim,fun b h => h.elim⟩,Ct.new _,RG,⟨by omega,by omega,by omega,fun h => h,fun h => h,fun h => h,fun i _ b hb => absurd hb (nil_blk b)⟩⟩
 clear TG RG Y Z x
 have hm2st:st.nx ≤ m2:=by omega
 rintro e s ⟨i,x,Y,Z,Z2,E,LB,DB,hi,g1,g5,g6,g7,T0,C0,R0,A0⟩
 by_cases hlt:i < l.length
 case neg =>
  obtain rfl:i = l.length:=by omega
  simp [evOp_call,T.get_set,g1,g7,rowC_len hy,sets]
 have hlt':(i:Int) < l.length:=by omega
 have hwi:=wrap_nat (n:=i) (by omega)
 obtain ⟨o,hl⟩:∃ r,l[i]? = some r:=⟨_,List.getElem?_eq_getElem hlt⟩
 obtain ⟨mt,of,ty,sz,tr,yy,hid,hmt,hgt,hcl,hat⟩:=rowC_old un41 io33 hy hl
 obtain ⟨o0,o1,o2,o3,o4,hin⟩:=opC_in hat
 have t0:tr.get of = some (.int .i64 o.1):=by have:=hcl 0 (by decide); rw [o0] at this; exact this
 have t1:=hcl 1 (by decide); rw [o1] at t1
 have t2:=hcl 2 (by decide); rw [o2] at t2
 have t3:=hcl 3 (by decide); rw [o3] at t3
 have t4:=hcl 4 (by decide); rw [o4] at t4
 have t5:=hcl 5 (by decide)
 have hyone:=hin.y.one
 obtain ⟨my,oy,qy,hy0,hmy,hro⟩:=rowC_sl hy hl
 simp [evOp_call,T.get_set,g1,g5,g6,g7,rowC_len hy,hlt',sets,hid,loadE_eq,getC_eq,hgt s T0.ext,getsB_succ,getsB_zero,t0,t1,t2,t3,t4,t5,oracF_cons]
 rw [tmF_ne rfl]
 have hin':=hin.ext T0.ext
 refine Gd.mono (heavy_any s (toOp o) (yy 5) hin'.y _) ?_
 rintro ⟨r,s1⟩ ⟨hr,x1⟩
 simp only at hr x1
 subst hr
 cases hv:heavyB (toOp o) with
 | true => simp [evOp_call,T.get_set,sets]
 | false =>
  have T1:=T0.more x1
  have R1:=R0.ext x1
  simp [evOp_call,T.get_set,g1,g5,g6,g7,sets,oracF_cons]
  refine Gd.mono (clone_any T1.tr T1.ok (by omega) _) ?_
  rintro ⟨r,s2⟩ ⟨cq,cm,xc,Yc,Zc,LBc,DBc,hr,TC,hlo,x2⟩
  simp only at hr TC x2
  subst hr
  have T2:=T1.more x2
  have R2:=R1.ext x2
  have n2:=x2.le
  simp [evOp_call,T.get_set,g1,g5,g6,g7,sets,hid,loadE_eq,getC_eq,hgt s2 T2.ext,getsB_succ,getsB_zero,t0,t1,t2,t3,t4,t5,oracF_cons]
  refine ⟨by kernel_rfl,?_⟩
  rw [cxOf_callRo [(my,my + 1)] (by kernel_rfl) (by kernel_rfl) (looseW_at 1 (.sl my oy l.length qy) (by simp [T.get_set,g1,hy0]) (by kernel_rfl)) (fun p hp => by simp at hp; subst hp; exact hro _ T2.ext),forb_nil,liftF_nil]
  refine Gd.mono (T2.do (by omega) hin hv _) ?_
  rintro ⟨r,s3⟩ ⟨ry,rz,Y3,Z3,LB3,DB3,hr,hry,hrz,TG3,F3,hbl⟩
  simp only at hr hry hrz TG3 F3
  subst hr
  have T3:=T2.step (o:=toOp o) hin.a hin.b hin.d TG3 F3
  obtain ⟨R3,A3⟩:=R2.frT A0 F3
  have lt1:=T1.tr.lt
  have n3:=F3.le
  have TC3:=TC.frame F3 (m':=m) ⟨by omega,by omega,fun h => by have:=hlo.2.2.1 _ h; omega,fun h => by have:=hlo.2.2.2 _ h; omega⟩ ⟨fun h => by have:=(T1.tr.lb _ h).1; omega,fun h => by have:=(T1.tr.lb _ h).1; omega,fun b hb h => by
   have:=(T1.tr.lb _ h).1
   rcases hb with hb | hb
   ·have:=hlo.2.2.1 _ hb; omega
   ·have:=hlo.2.2.2 _ hb; omega⟩
  have C3:Ct (nodesN k) (doE (nodesN k) E (toOp o)).2:=C0.doE T1.ok (by omega) hin.a hin.b
  have n2':=T2.ext.le
  simp [evOp_call,T.get_set,g1,g5,g6,g7,sets,hid,loadE_eq,getC_eq,hgt s3 T3.ext,getsB_succ,getsB_zero,t0,t1,t2,t3,t4,t5,oracF_cons]
  have hv2:=heavy_not hv
  have hsm:=do_small (n:=nodesN k) T1.ok (toOp o)
  have hrd:=fun h => reads_same (n:=nodesN k) (E:=E) (o:=toOp o) h
  have lt2:=R1.lt
  refine ⟨inF_ld (by omega),fun _ => ?_⟩
  rw [cxOf_call (by kernel_rfl) (by kernel_rfl),forb_step (by kernel_rfl) rfl,liftF_nil,tmF_ne rfl]
  refine Gd.mono (op_any s3 (toOp o) (yy 5) (hin.ext T3.ext).y hin.d _) ?_
  rintro ⟨r,s4⟩ ⟨hr,x4⟩
  simp only at hr x4
  subst hr
  have n4:=x4.le
  simp [evOp_call,T.get_set,g1,g5,g6,g7,sets,oracF_cons]
  rw [cxOf_call (by kernel_rfl) (by kernel_rfl),forb_step (by kernel_rfl) (forb_step (by kernel_rfl) rfl),liftF_nil]
  refine Gd.mono (rdo_any (R3.ext x4) T1.ok C0 (by omega) (toOp o) hin.a hin.b hin.at_.2 (by omega) _) ?_
  rintro ⟨r,s5⟩ ⟨z,Z5,hr,hz,R5,S5,hzb⟩
  simp only at hr hz R5 S5
  subst hr
  have n5:=S5.le
  obtain ⟨T5,A5⟩:=(T3.more x4).stR A3 hm2st S5
  have TC4:=TC3.ext x4
  have ltc:=TC4.lt
  have TC5:=TC4.keep S5.le fun b hb => by
   rcases hb with rfl | rfl | hb | hb
   ·exact S5.keep _ ltc.1 (by omega)
   ·exact S5.keep _ ltc.2.1 (by omega)
   ·exact S5.keep b (TC4.lb b hb).1 (by have:=hlo.2.2.1 _ hb; omega)
   ·exact S5.keep b (TC4.db b hb).1 (by have:=hlo.2.2.2 _ hb; omega)
  have hry5:=rd_keep (hry.ext x4) S5.le fun b hb => S5.keep b (rd_blk (hry.ext x4) b hb) (by have:=(hbl b (.inl hb)).1; omega)
  have hrz5:=rd_keep (hrz.ext x4) S5.le fun b hb => S5.keep b (rd_blk (hrz.ext x4) b hb) (by have:=(hbl b (.inr hb)).1; omega)
  generalize doE (nodesN k) E (toOp o) = RE at *
  simp [evOp_call,T.get_set,g1,g5,g6,g7,sets,oracF_cons]
  rw [cxOf_call (by kernel_rfl) (by kernel_rfl),forb_step (by kernel_rfl) (forb_step (by kernel_rfl) (forb_step (by kernel_rfl) rfl)),liftF_nil,tmF_ne rfl]
  refine Gd.mono (told_same s5 RE.1 ry rz z hry5 hsm.1 hrz5 hz (by omega) _) ?_
  rintro ⟨r,s6⟩ ⟨hr,x6⟩
  simp only at hr x6
  subst hr
  have n6:=x6.le
  have T6:=T5.more x6
  have R6:=R5.ext x6
  simp [evOp_call,T.get_set,g1,g5,g6,g7,sets,oracF_cons]
  have hids:(idsK RE.2 (nodesN k + 1)).length ≤ 1000:=by
   have:=cntK_le RE.2 (nodesN k + 1)
   have:=(nodesN_ok k).2
   rw [idsK_len]
   omega
  rw [cxOf_call (by kernel_rfl) (by kernel_rfl),forb_step (by kernel_rfl) (forb_step (by kernel_rfl) (forb_step (by kernel_rfl) (forb_step (by kernel_rfl) rfl))),liftF_nil]
  refine Gd.mono (partsC_any T6.tr T6.ok (by omega) _) ?_
  rintro ⟨r7,s7⟩ ⟨L7,hL7,pL7,pb7,x7⟩
  simp only at hL7 pL7 pb7 x7
  have n7:=x7.le
  simp [evOp_call,T.get_set,g1,g5,g6,g7,sets,oracF_cons]
  rw [cxOf_call (by kernel_rfl) (by kernel_rfl),forb_step (by kernel_rfl) (forb_step (by kernel_rfl) (forb_step (by kernel_rfl) (forb_step (by kernel_rfl) (forb_step (by kernel_rfl) rfl)))),liftF_nil,tmF_ne rfl]
  refine Gd.mono (lparts_any T6.ok (by omega) r7 L7 _ hL7 pL7 hids _) ?_
  rintro ⟨r8,s8⟩ ⟨K8,hK8,cK8,x8⟩
  simp only at hK8 cK8 x8
  have n8:=x8.le
  have R8:=(R6.ext x7).ext x8
  simp [evOp_call,T.get_set,g1,g5,g6,g7,sets,oracF_cons]
  rw [cxOf_call (by kernel_rfl) (by kernel_rfl),forb_step (by kernel_rfl) (forb_step (by kernel_rfl) (forb_step (by kernel_rfl) (forb_step (by kernel_rfl) (forb_step (by kernel_rfl) (forb_step (by kernel_rfl) rfl))))),liftF_nil,tmF_ne rfl]
  refine Gd.mono (rParts_any R8 T6.ok _) ?_
  rintro ⟨r9,s9⟩ ⟨M9,hM9,cM9,x9⟩
  simp only at hM9 cM9 x9
  have n9:=x9.le
  simp [evOp_call,T.get_set,g1,g5,g6,g7,sets,oracF_cons]
  rw [cxOf_call (by kernel_rfl) (by kernel_rfl),forb_step (by kernel_rfl) (forb_step (by kernel_rfl) (forb_step (by kernel_rfl) (forb_step (by kernel_rfl) (forb_step (by kernel_rfl) (forb_step (by kernel_rfl) (forb_step (by kernel_rfl) rfl)))))),liftF_nil,tmF_ne rfl]
  refine Gd.mono (rsameparts_any s9 T6.ok (by omega) r8 r9 K8 M9 _ (hK8.ext x9) hM9 (cK8.keep x9.le fun b hb _ => ⟨x9.keep b hb,trivial⟩) cM9 hids _) ?_
  rintro ⟨r,s10⟩ ⟨hr,x10⟩
  simp only at hr x10
  subst hr
  have x610:Ext s6.nx s6 s10:=x7.trans ((x8.mono (by omega)).trans ((x9.mono (by omega)).trans (x10.mono (by omega))))
  have T10:=T6.more x610
  have R10:=R6.ext x610
  have TC10:=(TC5.ext x6).ext x610
  have hmu:∀ e':Env,e'.get 7 = some (.int .i64 ((i + 1:Nat):Int)) → muAt 7 l.length e' < muAt 7 l.length e:=fun e' h => muAt_lt g7 h hlt
  simp [evOp_call,T.get_set,g1,g5,g6,g7,sets,hid,loadE_eq,getC_eq,hgt s10 T10.ext,t0,oracF_cons]
  rw [tmF_ne rfl]
  refine Gd.mono (reads_any s10 o.1 _) ?_
  rintro _ rfl
  cases hrb:readsB o.1 with
  | false =>
   simp [evOp_call,T.get_set,g1,g5,g6,g7,sets,hwi]
   exact ⟨⟨i + 1,x,Y3,Z3,Z5,RE.2,LB3,DB3,hlt,by simp [T.get_set,g1],by simp [T.get_set,g5],by simp [T.get_set,g6],by simp [T.get_set],T10,C3,R10,A5⟩,hmu _ (by simp [T.get_set])⟩
  | true =>
   have hE:RE.2 = E:=hrd (by
    unfold readsB at hrb
    simp only [Bool.or_eq_true,decide_eq_true_eq] at hrb
    rcases hrb with ((h | h) | h) | h
    ·exact .inl h
    ·exact .inr (.inl h)
    ·exact .inr (.inr (.inl h))
    ·exact .inr (.inr (.inr h)))
   simp [evOp_call,T.get_set,g1,g5,g6,g7,sets,oracF_cons]
   rw [tmF_ne rfl]
   refine Gd.mono (sameT_any TC10 T10.tr T1.ok T10.ok (by omega) _) ?_
   rintro ⟨r,s11⟩ ⟨⟨b,hr,hb⟩,x11⟩
   simp only at hr x11
   subst hr
   have hbt:b = true:=hb.2 ⟨rfl,fun j _ => by rw [hE]; exact ⟨rfl,rfl,rfl⟩⟩
   subst hbt
   simp [evOp_call,T.get_set,g1,g5,g6,g7,sets,hwi]
   exact ⟨⟨i + 1,x,Y3,Z3,Z5,RE.2,LB3,DB3,hlt,by simp [T.get_set,g1],by simp [T.get_set,g5],by simp [T.get_set,g6],by simp [T.get_set],T10.more x11,C3,R10.ext x11,A5⟩,hmu _ (by simp [T.get_set])⟩
theorem w_TreePlays (k:Int) (l:List LOp) (W:World) (_:-9223372036854775808 ≤ k ∧ k ≤ 9223372036854775807) (x:Value) (hx:(rowC opC).rel W (fun j => [x][j]?.getD default) l) :
  Calls Tryz.prog 4 #[.int .i64 k,x] W fun e W' => e = .returned (.bool true) ∧ Below W.heap.size W W':=by
 obtain ⟨s1,r1,v1,b1,l1,q1,e1,a1⟩:=(rowC opC).enter (Begin.zero W) hx
 exact law_calls treeLaw b1 (.cons (rel_int _ _) (.cons (q1 0 (by decide)).2 .nil)) (g_TreePlays s1 k v1 l a1)
end Go.Proofs.YtgcpgidofikcdaaGreatDoor

/-
  PLAIN: TrA, TrB, TrC, TrD, in one text.
-/
import Derived.Test.YtgcpgidofikcdaaGreatDoorTmPt
import Derived.Test.YtgcpgidofikcdaaGreatDoorTmCt
import Derived.Test.YtgcpgidofikcdaaGreatDoorTyRef
import Derived.Test.YtgcpgidofikcdaaGreatDoorPaL
set_option maxRecDepth 20000
set_option maxHeartbeats 16000000
set_option linter.unusedSimpArgs false
set_option linter.unusedVariables false
namespace Go.Proofs.YtgcpgidofikcdaaGreatDoor
open Go.RowKit Ev
def partN (E:Tr) (i:Nat):Nat:=if (E i).k = 0 then 0 else i
structure RefG (s:St) (q m n:Nat) (Z:Nat → V) (E:Tr):Prop where
 cell:∃ t,s.h.get q = some (.cs 115 2 t) ∧ t.get 0 = some (.int .i64 (n:Int)) ∧ t.get 1 = some (.sl m 0 (n + 1) (n + 1))
 row:∃ t,s.h.get m = some (.cs 118 ((n + 1) * 4) t) ∧ ∀ i,i ≤ n → t.get (i * 4) = some (.int .i64 (partN E i:Int)) ∧ t.get (i * 4 + 1) = some (.int .i64 ((E i).k:Int)) ∧ t.get (i * 4 + 2) = some (.s (E i).d) ∧ t.get (i * 4 + 3) = some (Z i) ∧ RdRow s (Z i) 2 (E i).l.length (cellsN (E i).l) ∧ ∀ b,BlkOf (Z i) b → b ≠ q ∧ b ≠ m
 lt:q < s.nx ∧ m < s.nx ∧ m ≠ q
 cap:∀ i,i ≤ n → CapOk (Z i)
theorem RefG.ext {s s':St} {q m n:Nat} {Z:Nat → V} {E:Tr} (h:RefG s q m n Z E) (k:Ext s.nx s s'):RefG s' q m n Z E:=by
 obtain ⟨⟨t,h1,h2⟩,⟨t2,h3,h4⟩,h5,h6⟩:=h
 have:=k.le
 refine ⟨⟨t,(k.keep q h5.1).trans h1,h2⟩,⟨t2,(k.keep m h5.2.1).trans h3,fun i hi => ?_⟩,⟨by omega,by omega,h5.2.2⟩,h6⟩
 obtain ⟨a0,a1,a2,a3,a4,a5⟩:=h4 i hi
 exact ⟨a0,a1,a2,a3,a4.ext k,a5⟩
def fiN (p:Tx) (l:List (Tx × Nat)):Int:=match l.findIdx? fun x => x.1 == p with
 | some i => (i:Int)
 | none => -1
theorem fiN_at {p:Tx} {l:List (Tx × Nat)} {i:Nat} (h:i < l.length) (he:l[i].1 = p) (hb:∀ j,(hj:j < i) → (l[j]'(by omega)).1 ≠ p):fiN p l = (i:Int):=by
 unfold fiN
 have:l.findIdx? (fun x => x.1 == p) = some i:=by
  rw [List.findIdx?_eq_some_iff_getElem]
  exact ⟨h,by simpa using he,fun j hj => by simpa using hb j hj⟩
 rw [this]
theorem fiN_no {p:Tx} {l:List (Tx × Nat)} (hb:∀ j,(hj:j < l.length) → l[j].1 ≠ p):fiN p l = -1:=by
 unfold fiN
 have:l.findIdx? (fun x => x.1 == p) = none:=by
  rw [List.findIdx?_eq_none_iff]
  intro x hx
  obtain ⟨j,hj,e⟩:=List.getElem_of_mem hx
  have:=hb j hj
  rw [e] at this
  simpa using this
 rw [this]
def rfI (st:St) (z:V) (p:Tx) (l:List (Tx × Nat)) (e:Env) (s:St):Prop:=∃ i,i ≤ l.length ∧ e.get 0 = some z ∧ e.get 1 = some (.s p) ∧ e.get 5 = some (.int .i64 (i:Int)) ∧ s = st ∧ ∀ j,(hj:j < i) → (h:j < l.length) → l[j].1 ≠ p
theorem rfind_any (st:St) (z:V) (l:List (Tx × Nat)) (hz:RdRow st z 2 l.length (cellsN l)) (hl:l.length ≤ 1000000) (p:Tx) (nt:Nat) :
  Gd (callL Tryz.prog ⟨false,[],0,nt⟩ 190 [z,.s p] st) fun r => r = (.int .i64 (fiN p l),st):=by
 rw [Gd_callL Tryz.func190 rfl]
 have hzl:=hz.lenS
 simp [evOp_call,sets,T.get_set]
 refine Gd_loop (rfI st z p l) (fun e _ => muAt 5 l.length e) ?_ ?_
 ·exact ⟨0,Nat.zero_le _,by simp [T.get_set],by simp [T.get_set],by simp [T.get_set],rfl,fun j hj => by omega⟩
 rintro e s ⟨i,hi,g0,g1,g5,rfl,hno⟩
 by_cases hlt:i < l.length
 case neg =>
  obtain rfl:i = l.length:=by omega
  simp [evOp_call,T.get_set,g0,g1,g5,hzl]
  exact (fiN_no fun j hj => hno j hj hj).symm
 have hlt':(i:Int) < (l.length:Int):=by omega
 have hwi:=wrap_nat (n:=i) (by omega)
 obtain ⟨m1,o1,ty1,sz1,tr1,i1,b1,kk1,l1,c1⟩:=hz.idx (st:=s) un116 io127 hlt
 have hg:=List.getElem?_eq_getElem hlt
 obtain ⟨q1,q2⟩:=cellsN_get _ _ _ hg
 have d0:tr1.get o1 = some (.s l[i].1):=by have:=c1 0 _ (by omega) q1; simpa using this
 by_cases he:l[i].1 = p
 ·simp [evOp_call,T.get_set,g0,g1,g5,hzl,hlt',i1,loadE_eq,getC_eq,kk1,d0,he]
  exact (fiN_at hlt he fun j hj => hno j hj (by omega)).symm
 ·simp [evOp_call,T.get_set,g0,g1,g5,hzl,hlt',i1,loadE_eq,getC_eq,kk1,d0,he,hwi]
  refine ⟨⟨i + 1,hlt,by simp [T.get_set,g0],by simp [T.get_set,g1],by simp [T.get_set],rfl,fun j hj h => ?_⟩,muAt_lt g5 (by simp [T.get_set]) hlt⟩
  by_cases e:j = i
  ·subst e; exact he
  ·exact hno j (by omega) h
def rlI (st:St) (q n:Nat) (E:Tr) (e:Env) (s:St):Prop:=∃ i,1 ≤ i ∧ i ≤ n + 1 ∧ e.get 0 = some (.p q 0) ∧ e.get 3 = some (.int .i64 (i:Int)) ∧ s = st ∧ ∀ j,1 ≤ j → j < i → (E j).k ≠ 0
theorem rleast_any {st:St} {q m n:Nat} {Z:Nat → V} {E:Tr} (R:RefG st q m n Z E) (hn:n ≤ 64) (nt:Nat) :
  Gd (callL Tryz.prog ⟨false,[],0,nt⟩ 128 [.p q 0] st) fun r => r = (.int .i64 (spareE n E:Int),st):=by
 rw [Gd_callL Tryz.func128 rfl]
 obtain ⟨tq,hq,q0,q1⟩:=R.cell
 obtain ⟨t,hm,row⟩:=R.row
 have hR:List.range (n + 1) = List.range (n + 1):=rfl
 simp [evOp_call,sets,T.get_set]
 refine Gd_loop (rlI st q n E) (fun e _ => muAt 3 (n + 1) e) ?_ ?_
 ·exact ⟨1,Nat.le_refl _,by omega,by simp [T.get_set],by simp [T.get_set],rfl,fun j h1 h2 => by omega⟩
 rintro e s ⟨i,h1,hi,g0,g3,rfl,hno⟩
 by_cases hlt:i < n + 1
 case neg =>
  obtain rfl:i = n + 1:=by omega
  have e0:spareE n E = 0:=by
   unfold spareE
   rw [List.find?_eq_none.2 fun j hj => by
    simp at hj
    have:=hno j
    simp
    intro h
    exact this h (by omega)]
   rfl
  have hnle:¬ ((n:Int) + 1 ≤ (n:Int)):=by omega
  simp [evOp_call,T.get_set,g0,g3,loadE_eq,getC_eq,hq,q0,hnle]
  rw [e0]
  rfl
 have hle:(i:Int) ≤ (n:Int):=by omega
 have hwi:=wrap_nat (n:=i) (by omega)
 obtain ⟨a0,a1,a2,a3,a4,a5⟩:=row i (by omega)
 by_cases hk:(E i).k = 0
 ·have e0:spareE n E = i:=by
   unfold spareE
   have:(List.range (n + 1)).find? (fun i => decide (1 ≤ i ∧ (E i).k = 0)) = some i:=by
    rw [List.find?_range_eq_some]
    refine ⟨by simp [h1,hk],by simpa using hlt,fun j hj => ?_⟩
    have:=hno j
    simp
    rcases Nat.eq_zero_or_pos j with h | h
    ·exact .inl h
    ·exact .inr (this h hj)
   rw [this]
   rfl
  simp [evOp_call,T.get_set,g0,g3,loadE_eq,getC_eq,hq,q0,q1,hle,hm,a1,hk,hlt]
  rw [e0]
 ·have hk':¬ ((E i).k:Int) = 0:=by omega
  simp [evOp_call,T.get_set,g0,g3,loadE_eq,getC_eq,hq,q0,q1,hle,hm,a1,hk,hk',hlt,hwi]
  refine ⟨⟨i + 1,by omega,by omega,by simp [T.get_set,g0],by simp [T.get_set],rfl,fun j h2 h3 => ?_⟩,muAt_lt g3 (by simp [T.get_set]) hlt⟩
  by_cases e:j = i
  ·subst e; exact hk
  ·exact hno j h2 (by omega)
def csN (E:Tr) (t:Nat):Nat → Nat
 | 0 => 0
 | i + 1 => csN E t i + cntL (E i).l t
theorem csN_all (E:Tr) (t:Nat):∀ n,csN E t (n + 1) = cntE n E t
 | 0 => by show 0 + _ = _; rw [Nat.zero_add]; rfl
 | n + 1 => by
  show csN E t (n + 1) + cntL (E (n + 1)).l t = _
  rw [csN_all E t n]
  rfl
theorem cntL_take {l:List (Tx × Nat)} {j t:Nat} (h:j < l.length):cntL (l.take (j + 1)) t = cntL (l.take j) t + if l[j].2 = t then 1 else 0:=by
 unfold cntL
 rw [List.take_add_one,List.getElem?_eq_getElem h,List.countP_append]
 simp only [Option.toList_some,List.countP_cons,List.countP_nil,Nat.zero_add,beq_iff_eq]
def rkI1 (st:St) (q n t:Nat) (E:Tr) (e:Env) (s:St):Prop:=∃ i,1 ≤ i ∧ i ≤ n + 1 ∧ e.get 0 = some (.p q 0) ∧ e.get 1 = some (.int .i64 (t:Int)) ∧ e.get 5 = some (.int .i64 (csN E t i:Int)) ∧ e.get 6 = some (.int .i64 (i:Int)) ∧ s = st
def rkI2 (st:St) (q n t i:Nat) (E:Tr) (e:Env) (s:St):Prop:=∃ j,j ≤ (E i).l.length ∧ e.get 0 = some (.p q 0) ∧ e.get 1 = some (.int .i64 (t:Int)) ∧ e.get 5 = some (.int .i64 ((csN E t i + cntL ((E i).l.take j) t:Nat):Int)) ∧ e.get 6 = some (.int .i64 (i:Int)) ∧ e.get 7 = some (.int .i64 (j:Int)) ∧ s = st
theorem rlinks_gen {st:St} {q m n B:Nat} {Z:Nat → V} {E:Tr} (R:RefG st q m n Z E) (hn:n ≤ 64) (h0:(E 0).l = []) (hlen:∀ i,(E i).l.length ≤ B) (hB:B ≤ 1002) (t:Nat) (nt:Nat) {wb:Nat} :
  Gd (callL Tryz.prog ⟨false,[],wb,nt⟩ 130 [.p q 0,.int .i64 (t:Int)] st) fun r => r = (.int .i64 (cntE n E t:Int),st):=by
 rw [Gd_callL Tryz.func130 rfl]
 obtain ⟨tq,hq,q0,q1⟩:=R.cell
 obtain ⟨tt,hm,row⟩:=R.row
 have hcm:∀ i,i ≤ n + 1 → csN E t i ≤ 66000:=fun i hi => by
  have h1:csN E t i ≤ csN E t (n + 1):=by
   have mono:∀ a k,csN E t a ≤ csN E t (a + k):=fun a k => by
    induction k with
    | zero => exact Nat.le_refl _
    | succ k ih => exact Nat.le_trans ih (Nat.le_add_right _ _)
   have:=mono i (n + 1 - i)
   rw [show i + (n + 1 - i) = n + 1 by omega] at this
   exact this
  rw [csN_all] at h1
  have h2:=sumR_max (f:=fun a => cntL (E a).l t) (B:=B) (fun j => Nat.le_trans (cntL_le _ _) (hlen j)) n
  have h3:(n + 1) * B ≤ 65 * 1002:=Nat.mul_le_mul (by omega) hB
  have h4:cntE n E t ≤ (n + 1) * B:=h2
  omega
 simp [evOp_call,sets,T.get_set]
 refine Gd_loop (rkI1 st q n t E) (fun e _ => muAt 6 (n + 1) e) ?_ ?_
 ·refine ⟨1,Nat.le_refl _,by omega,by simp [T.get_set],by simp [T.get_set],?_,by simp [T.get_set],rfl⟩
  have:csN E t 1 = 0:=by
   show 0 + cntL (E 0).l t = 0
   rw [h0]
   rfl
  rw [this]
  simp [T.get_set]
 rintro e s ⟨i,h1,hi,g0,g1,g5,g6,rfl⟩
 by_cases hlt:i < n + 1
 case neg =>
  obtain rfl:i = n + 1:=by omega
  have hnle:¬ ((n:Int) + 1 ≤ (n:Int)):=by omega
  rw [csN_all] at g5
  simp [evOp_call,T.get_set,g0,g1,g5,g6,loadE_eq,getC_eq,hq,q0,hnle]
 have hle:(i:Int) ≤ (n:Int):=by omega
 have hwi:=wrap_nat (n:=i) (by omega)
 obtain ⟨a0,a1,a2,a3,a4,a5⟩:=row i (by omega)
 have hzl:=a4.lenS
 have hll:=hlen i
 simp [evOp_call,T.get_set,g0,g1,g5,g6,loadE_eq,getC_eq,hq,q0,q1,hle]
 refine Gd_loop (rkI2 s q n t i E) (fun e _ => muAt 7 (E i).l.length e) ?_ ?_
 ·refine ⟨0,Nat.zero_le _,by simp [T.get_set,g0],by simp [T.get_set,g1],?_,by simp [T.get_set,g6],by simp [T.get_set],rfl⟩
  have:cntL ((E i).l.take 0) t = 0:=by rw [List.take_zero]; rfl
  rw [this,Nat.add_zero]
  simp [T.get_set,g5]
 have G6:=g6
 clear g0 g1 g5 g6
 rintro e2 s2 ⟨j,hj,g0,g1,g5,g6,g7,rfl⟩
 by_cases hltj:j < (E i).l.length
 case neg =>
  obtain rfl:j = (E i).l.length:=by omega
  rw [List.take_length] at g5
  have e5:csN E t i + cntL (E i).l t = csN E t (i + 1):=rfl
  rw [e5] at g5
  simp [evOp_call,T.get_set,g0,g1,g5,g6,g7,loadE_eq,getC_eq,hq,q0,q1,hm,a3,hzl,hlt,hwi]
  exact ⟨⟨i + 1,by omega,by omega,by simp [T.get_set,g0],by simp [T.get_set,g1],by simp [T.get_set,g5],by simp [T.get_set],rfl⟩,muAt_lt G6 (by simp [T.get_set]) hlt⟩
 have hlt':(j:Int) < ((E i).l.length:Int):=by omega
 have hwj:=wrap_nat (n:=j) (by omega)
 obtain ⟨m1,o1,ty1,sz1,tr1,i1,b1,kk1,l1,c1⟩:=a4.idx (st:=s2) un116 io127 hltj
 have hg:=List.getElem?_eq_getElem hltj
 obtain ⟨p1,p2⟩:=cellsN_get _ _ _ hg
 have d1:tr1.get (o1 + 1) = some (.int .i64 ((E i).l[j].2:Int)):=c1 1 _ (by omega) p2
 have hct:=cntL_take (t:=t) hltj
 have hbig:csN E t i + cntL ((E i).l.take j) t ≤ 70000:=by
  have:=hcm i (by omega)
  have:=cntL_le ((E i).l.take j) t
  rw [List.length_take] at this
  omega
 by_cases he:(E i).l[j].2 = t
 ·have hw5:IntKind.i64.wrap ((csN E t i:Int) + (cntL ((E i).l.take j) t:Int) + 1) = (csN E t i:Int) + (cntL ((E i).l.take j) t:Int) + 1:=wrap_in (by omega) (by omega)
  simp [evOp_call,T.get_set,g0,g1,g5,g6,g7,loadE_eq,getC_eq,hq,q0,q1,hm,a3,hzl,hlt,hlt',i1,kk1,d1,he,hwj,hw5]
  refine ⟨⟨j + 1,hltj,by simp [T.get_set,g0],by simp [T.get_set,g1],?_,by simp [T.get_set,g6],by simp [T.get_set],rfl⟩,muAt_lt g7 (by simp [T.get_set]) hltj⟩
  rw [hct,if_pos he]
  simp [T.get_set]
  omega
 ·have he':¬ ((E i).l[j].2:Int) = (t:Int):=by omega
  simp [evOp_call,T.get_set,g0,g1,g5,g6,g7,loadE_eq,getC_eq,hq,q0,q1,hm,a3,hzl,hlt,hlt',i1,kk1,d1,he,he',hwj]
  refine ⟨⟨j + 1,hltj,by simp [T.get_set,g0],by simp [T.get_set,g1],?_,by simp [T.get_set,g6],by simp [T.get_set],rfl⟩,muAt_lt g7 (by simp [T.get_set]) hltj⟩
  rw [hct,if_neg he]
  simp [T.get_set,g5]
theorem rlinks_any {st:St} {q m n B:Nat} {Z:Nat → V} {E:Tr} (R:RefG st q m n Z E) (O:TOk n B E) (hB:B ≤ 1000) (t:Nat) (nt:Nat) :
  Gd (callL Tryz.prog ⟨false,[],0,nt⟩ 130 [.p q 0,.int .i64 (t:Int)] st) fun r => r = (.int .i64 (cntE n E t:Int),st) :=
 rlinks_gen R O.n2.2 (O.lst 0 (by rw [O.zero]; decide)) O.len (by omega) t nt
end Go.Proofs.YtgcpgidofikcdaaGreatDoor
set_option linter.unusedSimpArgs false
set_option linter.unusedVariables false
namespace Go.Proofs.YtgcpgidofikcdaaGreatDoor
open Go.RowKit Ev
theorem fi_ent {l:List (Tx × Nat)} (hr:RisT l) (p:Tx):(entT p l = none ∧ fiN p l = -1) ∨ ∃ (x i:Nat),entT p l = some x ∧ fiN p l = (i:Int) ∧ l[i]? = some (p,x):=by
 cases he:entT p l with
 | none =>
  left
  refine ⟨rfl,fiN_no fun j hj e => ?_⟩
  exact (ris_none hr).1 he l[j].2 (by rw [← e]; exact List.getElem_mem hj)
 | some x =>
  right
  obtain ⟨i,hi,e⟩:=List.getElem_of_mem ((ris_ent hr).1 he)
  refine ⟨x,i,rfl,fiN_at hi (by rw [e]) fun j hj e2 => ?_,by rw [List.getElem?_eq_getElem hi,e]⟩
  have:=ris_one hr (i:=j) (j:=i) (by omega) hi (by rw [e2,e])
  omega
def raI1 (st:St) (q n t:Nat) (E:Tr) (e:Env) (s:St):Prop:=∃ i,1 ≤ i ∧ i ≤ n + 1 ∧ e.get 0 = some (.p q 0) ∧ e.get 1 = some (.int .i64 (t:Int)) ∧ e.get 5 = some (.int .i64 (i:Int)) ∧ s = st ∧ ∀ d,1 ≤ d → d < i → ∀ x ∈ (E d).l,x.2 ≠ t
def raI2 (st:St) (q n t i:Nat) (E:Tr) (e:Env) (s:St):Prop:=∃ j,j ≤ (E i).l.length ∧ e.get 0 = some (.p q 0) ∧ e.get 1 = some (.int .i64 (t:Int)) ∧ e.get 5 = some (.int .i64 (i:Int)) ∧ e.get 6 = some (.int .i64 (j:Int)) ∧ s = st ∧ ∀ x ∈ (E i).l.take j,x.2 ≠ t
theorem rabove_any {st:St} {q m n B:Nat} {Z:Nat → V} {E:Tr} (R:RefG st q m n Z E) (O:TOk n B E) (hB:B ≤ 1000) {t u:Nat} (hu:1 ≤ u ∧ u ≤ n) (hex:∃ p,(p,t) ∈ (E u).l) (hone:∀ a p,(p,t) ∈ (E a).l → a = u) (nt:Nat) :
  Gd (callL Tryz.prog ⟨false,[],0,nt⟩ 245 [.p q 0,.int .i64 (t:Int)] st) fun r => r = (.int .i64 (u:Int),st):=by
 rw [Gd_callL Tryz.func245 rfl]
 obtain ⟨tq,hq,q0,q1⟩:=R.cell
 obtain ⟨tt,hm,row⟩:=R.row
 have hn:=O.n2
 simp [evOp_call,sets,T.get_set]
 refine Gd_loop (raI1 st q n t E) (fun e _ => muAt 5 (n + 1) e) ?_ ?_
 ·exact ⟨1,Nat.le_refl _,by omega,by simp [T.get_set],by simp [T.get_set],by simp [T.get_set],rfl,fun d h1 h2 => by omega⟩
 rintro e s ⟨i,h1,hi,g0,g1,g5,rfl,hno⟩
 by_cases hlt:i < n + 1
 case neg =>
  exfalso
  obtain ⟨p,hp⟩:=hex
  exact hno u hu.1 (by omega) _ hp rfl
 have hle:(i:Int) ≤ (n:Int):=by omega
 have hwi:=wrap_nat (n:=i) (by omega)
 obtain ⟨a0,a1,a2,a3,a4,a5⟩:=row i (by omega)
 have hzl:=a4.lenS
 have hll:=O.len i
 simp [evOp_call,T.get_set,g0,g1,g5,loadE_eq,getC_eq,hq,q0,q1,hle]
 refine Gd_loop (raI2 s q n t i E) (fun e _ => muAt 6 (E i).l.length e) ?_ ?_
 ·exact ⟨0,Nat.zero_le _,by simp [T.get_set,g0],by simp [T.get_set,g1],by simp [T.get_set,g5],by simp [T.get_set],rfl,fun x hx => by simp at hx⟩
 have G5:=g5
 clear g0 g1 g5
 rintro e2 s2 ⟨j,hj,g0,g1,g5,g6,rfl,hno2⟩
 by_cases hltj:j < (E i).l.length
 case neg =>
  obtain rfl:j = (E i).l.length:=by omega
  rw [List.take_length] at hno2
  simp [evOp_call,T.get_set,g0,g1,g5,g6,loadE_eq,getC_eq,hq,q0,q1,hm,a3,hzl,hlt,hwi]
  refine ⟨⟨i + 1,by omega,by omega,by simp [T.get_set,g0],by simp [T.get_set,g1],by simp [T.get_set],rfl,fun d h2 h3 => ?_⟩,muAt_lt G5 (by simp [T.get_set]) hlt⟩
  by_cases e:d = i
  ·subst e; exact hno2
  ·exact hno d h2 (by omega)
 have hlt':(j:Int) < ((E i).l.length:Int):=by omega
 have hwj:=wrap_nat (n:=j) (by omega)
 obtain ⟨m1,o1,ty1,sz1,tr1,i1,b1,kk1,l1,c1⟩:=a4.idx (st:=s2) un116 io127 hltj
 have hg:=List.getElem?_eq_getElem hltj
 obtain ⟨p1,p2⟩:=cellsN_get _ _ _ hg
 have d1:tr1.get (o1 + 1) = some (.int .i64 ((E i).l[j].2:Int)):=c1 1 _ (by omega) p2
 by_cases he:(E i).l[j].2 = t
 ·have hiu:i = u:=hone i (E i).l[j].1 (by rw [← he]; exact List.getElem_mem hltj)
  simp [evOp_call,T.get_set,g0,g1,g5,g6,loadE_eq,getC_eq,hq,q0,q1,hm,a3,hzl,hlt,hlt',i1,kk1,d1,he,hwj]
  first | exact hiu | (rw [hiu]) | omega
 ·have he':¬ ((E i).l[j].2:Int) = (t:Int):=by omega
  simp [evOp_call,T.get_set,g0,g1,g5,g6,loadE_eq,getC_eq,hq,q0,q1,hm,a3,hzl,hlt,hlt',i1,kk1,d1,he,he',hwj]
  refine ⟨⟨j + 1,hltj,by simp [T.get_set,g0],by simp [T.get_set,g1],by simp [T.get_set,g5],by simp [T.get_set],rfl,fun x hx => ?_⟩,muAt_lt g6 (by simp [T.get_set]) hltj⟩
  rw [List.take_add_one,hg] at hx
  rcases List.mem_append.1 hx with h | h
  ·exact hno2 x h
  ·simp at h; subst h; exact he
theorem rparent_any {st:St} {q m n B:Nat} {Z:Nat → V} {E:Tr} (R:RefG st q m n Z E) (O:TOk n B E) (C:Ct n E) (hB:B ≤ 1000) {a:Nat} (ha:(E a).k = 2) (nt:Nat) :
  Gd (callL Tryz.prog ⟨false,[],0,nt⟩ 191 [.p q 0,.int .i64 (a:Int)] st) fun r => r = (.int .i64 ((E a).up:Int),st):=by
 rw [Gd_callL Tryz.func191 rfl]
 have h1:=O.kle (i:=a) (by omega)
 by_cases h2:a ≤ 2
 ·have h2':(a:Int) ≤ 2:=by omega
  have e:(E a).up = 1:=by
   rcases (show a = 1 ∨ a = 2 by omega) with rfl | rfl
   ·exact O.root.2
   ·exact O.lost.2.1
  simp [evOp_call,sets,T.get_set,h2,h2',e]
 ·have h2':¬ (a:Int) ≤ 2:=by omega
  obtain ⟨_,hk,p,hp⟩:=O.dir a (by omega) ha
  have hu:=O.kle (i:=(E a).up) (by omega)
  simp [evOp_call,sets,T.get_set,h2,h2']
  refine Gd.mono (rabove_any R O hB hu ⟨p,hp⟩ (fun b q hq => (C.one O ha hq hp).1) _) ?_
  rintro _ rfl
  simp [T.get_set]
theorem rchild_any {st:St} {q m n B:Nat} {Z:Nat → V} {E:Tr} (R:RefG st q m n Z E) (O:TOk n B E) (hB:B ≤ 1000) {a:Nat} (ha:a ≤ n) (p:Tx) (nt:Nat) :
  Gd (callL Tryz.prog ⟨false,[],0,nt⟩ 132 [.p q 0,.int .i64 (a:Int),.s p] st) fun r => r = (.int .i64 (findE E a p:Int),st):=by
 rw [Gd_callL Tryz.func132 rfl]
 obtain ⟨tq,hq,q0,q1⟩:=R.cell
 obtain ⟨tt,hm,row⟩:=R.row
 obtain ⟨a0,a1,a2,a3,a4,a5⟩:=row a ha
 have hlt:a < n + 1:=by omega
 have hll:=O.len a
 by_cases h1:a = 1
 ·subst h1
  by_cases h2:p = lostT
  ·have e:findE E 1 p = 2:=if_pos ⟨rfl,h2⟩
   have h2':=h2
   unfold lostT at h2'
   simp [evOp_call,sets,T.get_set,h2',e]
   rw [← h2',e]
   rfl
  ·have h2':=h2
   unfold lostT at h2'
   simp [evOp_call,sets,T.get_set,h2',loadE_eq,getC_eq,hq,q0,q1,hm,a3,hlt]
   have hc:¬ (1 = 1 ∧ p = lostT):=fun h => h2 h.2
   refine Gd.mono (rfind_any st (Z 1) (E 1).l a4 (by omega) p _) ?_
   rintro _ rfl
   rcases fi_ent (O.ris 1) p with ⟨e1,e2⟩ | ⟨x,i,e1,e2,e3⟩
   ·have e:findE E 1 p = 0:=by unfold findE; rw [if_neg hc,e1]; rfl
    simp [evOp_call,T.get_set,e2,e]
   ·have e:findE E 1 p = x:=by unfold findE; rw [if_neg hc,e1]; rfl
    have hil:=(List.getElem?_eq_some_iff.1 e3).1
    obtain ⟨m1,o1,ty1,sz1,tr1,i1,b1,kk1,l1,c1⟩:=a4.idx (st:=st) un116 io127 hil
    obtain ⟨p1,p2⟩:=cellsN_get _ _ _ e3
    have d1:tr1.get (o1 + 1) = some (.int .i64 (x:Int)):=c1 1 _ (by omega) p2
    have hneg:¬ ((i:Int) < 0):=by omega
    simp [evOp_call,T.get_set,e2,e,hneg,loadE_eq,getC_eq,hq,q0,q1,hm,a3,hlt,i1,kk1,d1]
 ·have h1':¬ (a:Int) = 1:=by omega
  simp [evOp_call,sets,T.get_set,h1,h1',loadE_eq,getC_eq,hq,q0,q1,hm,a3,hlt]
  have hc:¬ (a = 1 ∧ p = lostT):=fun h => h1 h.1
  refine Gd.mono (rfind_any st (Z a) (E a).l a4 (by omega) p _) ?_
  rintro _ rfl
  rcases fi_ent (O.ris a) p with ⟨e1,e2⟩ | ⟨x,i,e1,e2,e3⟩
  ·have e:findE E a p = 0:=by unfold findE; rw [if_neg hc,e1]; rfl
   simp [evOp_call,T.get_set,e2,e]
  ·have e:findE E a p = x:=by unfold findE; rw [if_neg hc,e1]; rfl
   have hil:=(List.getElem?_eq_some_iff.1 e3).1
   obtain ⟨m1,o1,ty1,sz1,tr1,i1,b1,kk1,l1,c1⟩:=a4.idx (st:=st) un116 io127 hil
   obtain ⟨p1,p2⟩:=cellsN_get _ _ _ e3
   have d1:tr1.get (o1 + 1) = some (.int .i64 (x:Int)):=c1 1 _ (by omega) p2
   have hneg:¬ ((i:Int) < 0):=by omega
   simp [evOp_call,T.get_set,e2,e,hneg,loadE_eq,getC_eq,hq,q0,q1,hm,a3,hlt,i1,kk1,d1]
end Go.Proofs.YtgcpgidofikcdaaGreatDoor
set_option linter.unusedSimpArgs false
set_option linter.unusedVariables false
namespace Go.Proofs.YtgcpgidofikcdaaGreatDoor
open Go.RowKit Ev
def rwI (st:St) (q n hp a:Nat) (y:V) (ps:List Tx) (last:Bool) (E:Tr) (e:Env) (s:St):Prop:=∃ (i hp' a':Nat),i ≤ ps.length ∧ e.get 0 = some (.p q 0) ∧ e.get 1 = some (.int .i64 (a':Int)) ∧ e.get 2 = some y ∧ e.get 3 = some (.bool last) ∧ e.get 4 = some (.int .i64 (8 - (hp':Int))) ∧ e.get 13 = some (.int .i64 (i:Int)) ∧ hp ≤ hp' ∧ hp' ≤ 8 ∧ 1 ≤ a' ∧ a' ≤ n ∧ walk E hp a ps last = walk E hp' a' (ps.drop i) last ∧ Ext st.nx st s
def rwR (s:St) (w:Nat × Nat × Int) (r:V × St):Prop:=∃ left:Int,r.1 = .t [.int .i64 (w.2.1:Int),.int .i64 left,.int .i64 w.2.2] ∧ (w.2.2 = 0 → left = 8 - (w.1:Int)) ∧ Ext s.nx s r.2
theorem rwalk_any {st0:St} {q m n B:Nat} {Z:Nat → V} {E:Tr} (R0:RefG st0 q m n Z E) (O:TOk n B E) (C:Ct n E) (hB:B ≤ 1000):∀ (k hp a:Nat) (ps:List Tx) (last:Bool) (y:V) (st:St) (nt:Nat),8 - hp = k → hp ≤ 8 → 1 ≤ a → a ≤ n → Ext st0.nx st0 st → RdRow st y 1 ps.length (sv ps) → ps.length ≤ 100000 →
  Gd (callL Tryz.prog ⟨false,[],0,nt⟩ 137 [.p q 0,.int .i64 (a:Int),y,.bool last,.int .i64 (8 - (hp:Int))] st) (rwR st (walk E hp a ps last)):=by
 intro k
 induction k using Nat.strongRecOn with
 | _ k ihk =>
 intro hp a ps last y st nt hk8 hp8 ha1 han hst hy hpl
 rw [Gd_callL Tryz.func137 rfl]
 have hn:=O.n2
 have hyl:=hy.lenS
 simp [evOp_call,sets,T.get_set]
 refine Gd_loop (rwI st q n hp a y ps last E) (fun e _ => muAt 13 ps.length e) ?_ ?_
 ·exact ⟨0,hp,a,Nat.zero_le _,by simp [T.get_set],by simp [T.get_set],by simp [T.get_set],by simp [T.get_set],by simp [T.get_set],by simp [T.get_set],Nat.le_refl _,hp8,ha1,han,by rw [List.drop_zero],Ext.refl _ _⟩
 rintro e s ⟨i,h,d,hi,g0,g1,g2,g3,g4,g13,hh,hh8,hd1,hdn,hW,hx⟩
 by_cases hlt:i < ps.length
 case neg =>
  obtain rfl:i = ps.length:=by omega
  rw [List.drop_length,walk_nil] at hW
  simp [evOp_call,T.get_set,g0,g1,g2,g3,g4,g13,hyl]
  rw [hW]
  exact ⟨_,rfl,fun _ => rfl,hx⟩
 have hlt':(i:Int) < (ps.length:Int):=by omega
 have hwi:=wrap_nat (n:=i) (by omega)
 have hx0:Ext st0.nx st0 s:=hst.trans (hx.mono hst.le)
 have R:=R0.ext hx0
 obtain ⟨tq,hq,q0,q1⟩:=R.cell
 obtain ⟨tt,hm,row⟩:=R.row
 obtain ⟨a0,a1,a2,a3,a4,a5⟩:=row d hdn
 have hdl:d < n + 1:=by omega
 obtain ⟨p,hp'⟩:∃ p,ps[i]? = some p:=⟨_,List.getElem?_eq_getElem hlt⟩
 have hdr:ps.drop i = p :: ps.drop (i + 1):=by
  rw [← (List.getElem?_eq_some_iff.1 hp').2,List.getElem_cons_drop]
 rw [hdr,walk_cons] at hW
 obtain ⟨m1,o1,ty1,sz1,tr1,i1,b1,kk1,l1,c1⟩:=(hy.ext hx).idx (st:=s) un28 io9 hlt
 have t0:tr1.get o1 = some (.s p):=by have:=c1 0 (.s p) (by omega) (by simpa using sv_get hp'); simpa using this
 by_cases ck:(E d).k = 2
 rotate_left
 ·have ck':¬ ((E d).k:Int) = 2:=by omega
  rw [if_pos ck] at hW
  simp [evOp_call,T.get_set,g0,g1,g2,g3,g4,g13,hyl,hlt',loadE_eq,getC_eq,hq,q0,q1,hm,a1,hdl,ck,ck']
  rw [hW]
  exact ⟨_,rfl,(fun h => by cases h),hx⟩
 rw [if_neg (fun h => h ck)] at hW
 by_cases c2:p = dots
 ·have c2':=c2
  unfold dots at c2'
  rw [if_pos c2] at hW
  simp [evOp_call,T.get_set,g0,g1,g2,g3,g4,g13,hyl,hlt',loadE_eq,getC_eq,hq,q0,q1,hm,a1,hdl,ck,i1,kk1,t0,c2']
  refine Gd.mono (rparent_any R O C hB ck _) ?_
  rintro _ rfl
  have hu:=O.up1 ck
  simp [evOp_call,T.get_set,g0,g1,g2,g3,g4,g13,hwi]
  exact ⟨⟨i + 1,h,(E d).up,hlt,by simp [T.get_set,g0],by simp [T.get_set],by simp [T.get_set,g2],by simp [T.get_set,g3],by simp [T.get_set,g4],by simp [T.get_set],hh,hh8,hu.1,hu.2.1,hW,hx⟩,muAt_lt g13 (by simp [T.get_set]) hlt⟩
 have c2':=c2
 unfold dots at c2'
 rw [if_neg c2] at hW
 simp [evOp_call,T.get_set,g0,g1,g2,g3,g4,g13,hyl,hlt',loadE_eq,getC_eq,hq,q0,q1,hm,a1,hdl,ck,i1,kk1,t0,c2']
 refine Gd.mono (rchild_any R O hB hdn p _) ?_
 rintro _ rfl
 obtain ⟨f,hf⟩:∃ f,f = findE E d p:=⟨_,rfl⟩
 rw [← hf] at hW ⊢
 by_cases c3:f = 0
 ·rw [if_pos c3] at hW
  simp [evOp_call,T.get_set,g0,g1,g2,g3,g4,g13,c3]
  rw [hW]
  exact ⟨_,rfl,(fun h => by cases h),hx⟩
 rw [if_neg c3] at hW
 have hfn:f ≤ n:=by rw [hf]; exact (O.find d p).1
 have hf1:1 ≤ f:=by omega
 obtain ⟨b0,b1',b2,b3,b4,b5⟩:=row f hfn
 have hfl:f < n + 1:=by omega
 have hne0:ps.drop (i + 1) ≠ [] ↔ i + 1 < ps.length:=by rw [Ne,List.drop_eq_nil_iff]; omega
 by_cases ckf:(E f).k = 3
 rotate_left
 ·have ckf':¬ ((E f).k:Int) = 3:=by omega
  rw [if_neg (fun h => ckf h.1)] at hW
  simp [evOp_call,T.get_set,g0,g1,g2,g3,g4,g13,c3,loadE_eq,getC_eq,hq,q0,q1,hm,b1',hfl,ckf,ckf',hwi]
  exact ⟨⟨i + 1,h,f,hlt,by simp [T.get_set,g0],by simp [T.get_set],by simp [T.get_set,g2],by simp [T.get_set,g3],by simp [T.get_set,g4],by simp [T.get_set],hh,hh8,hf1,hfn,hW,hx⟩,muAt_lt g13 (by simp [T.get_set]) hlt⟩
 have hi1:((i:Int) + 1 < (ps.length:Int)) ↔ i + 1 < ps.length:=by omega
 by_cases cl:last = true ∨ i + 1 < ps.length
 rotate_left
 ·obtain ⟨cl1,cl2⟩:=not_or.1 cl
  have cl1':last = false:=by simpa using cl1
  rw [if_neg (fun h => cl (h.2.elim .inl fun h => .inr (hne0.1 h)))] at hW
  subst cl1'
  have cl3:¬ ((i:Int) + 1 < (ps.length:Int)):=by omega
  simp [evOp_call,T.get_set,g0,g1,g2,g3,g4,g13,c3,loadE_eq,getC_eq,hq,q0,q1,hm,b1',hfl,ckf,hwi,hyl,cl2,cl3]
  exact ⟨⟨i + 1,h,f,hlt,by simp [T.get_set,g0],by simp [T.get_set],by simp [T.get_set,g2],by simp [T.get_set,g3],by simp [T.get_set,g4],by simp [T.get_set],hh,hh8,hf1,hfn,hW,hx⟩,muAt_lt g13 (by simp [T.get_set]) hlt⟩
 rw [if_pos ⟨ckf,cl.elim .inl fun h => .inr (hne0.2 h)⟩] at hW
 have cl':last = true ∨ (last = false ∧ i + 1 < ps.length):=by
  cases last
  ·exact .inr ⟨rfl,cl.resolve_left (by decide)⟩
  ·exact .inl rfl
 by_cases h8:h = 8
 ·have e8:follE E h d f = (h + 1,0,11):=by unfold follE; rw [if_pos (by omega)]
  rw [e8,if_pos (fun hh => by cases hh)] at hW
  subst h8
  rcases cl' with cl' | ⟨cl',cl2⟩
  ·subst cl'
   simp [evOp_call,T.get_set,g0,g1,g2,g3,g4,g13,c3,loadE_eq,getC_eq,hq,q0,q1,hm,b1',hfl,ckf,hwi,hyl]
   rw [hW]
   exact ⟨_,rfl,(fun h => by cases h),hx⟩
  ·subst cl'
   have cl3:=hi1.2 cl2
   simp [evOp_call,T.get_set,g0,g1,g2,g3,g4,g13,c3,loadE_eq,getC_eq,hq,q0,q1,hm,b1',hfl,ckf,hwi,hyl,cl2,cl3]
   rw [hW]
   exact ⟨_,rfl,(fun h => by cases h),hx⟩
 have h8':¬ (8 - (h:Int) = 0):=by omega
 rcases cl' with cl' | ⟨cl',cl2⟩
 ·subst cl'
  simp [evOp_call,T.get_set,g0,g1,g2,g3,g4,g13,c3,loadE_eq,getC_eq,hq,q0,q1,hm,b1',b2,hfl,ckf,hwi,hyl,h8']
  refine Gd.mono (rsplit_any s (E f).d _) ?_
  rintro ⟨r,s1⟩ ⟨x2,hr,hrow,x1⟩
  simp only at hr hrow x1
  subst hr
  have hx1:=hx.trans (x1.mono hx.le)
  have hq1:=(x1.keep q R.lt.1).trans hq
  have hm1:=(x1.keep m R.lt.2.1).trans hm
  by_cases c7:errS (E f).d = 0
  rotate_left
  ·have e7:follE E h d f = (h + 1,0,errS (E f).d):=by unfold follE; rw [if_neg (by omega),if_pos c7]
   rw [e7,if_pos c7] at hW
   simp [evOp_call,T.get_set,g0,g1,g2,g3,g4,g13,tupK,c7]
   rw [hW]
   exact ⟨_,rfl,(fun h => absurd h c7),hx1⟩
  rw [show pErr (E f).d = parS (E f).d from if_pos c7] at hrow
  obtain ⟨b,ds,hds⟩:∃ b ds,(E f).d = b :: ds:=by
   cases hd:(E f).d with
   | nil => rw [hd] at c7; exact absurd c7 (by decide)
   | cons b ds => exact ⟨b,ds,rfl⟩
  have hix:∀ st',indexK Tryz.prog st' 9 (.s (E f).d) 0 = some (.int .u8 (b:Int),st'):=fun st' => by
   unfold indexK
   rw [un9,hds]
   rfl
  have hsub:IntKind.i64.wrap (8 - (h:Int) - 1) = 8 - ((h + 1:Nat):Int):=by rw [wrap_in (by omega) (by omega)]; omega
  have hpl2:(parS (E f).d).length ≤ 100000:=by have:=par_len (E f).d; have:=(O.dat f).2; omega
  obtain ⟨fr,hfr⟩:∃ fr,fr = if (E f).d.head? = some 47 then 1 else d:=⟨_,rfl⟩
  have hfr1:1 ≤ fr ∧ fr ≤ n:=by rw [hfr]; split <;> omega
  have ef:follE E h d f = walk E (h + 1) fr (parS (E f).d) true:=by
   unfold follE
   rw [if_neg (by omega),if_neg (fun h => h c7),hfr]
  rw [ef] at hW
  have hrec:=fun nt => ihk (8 - (h + 1)) (by omega) (h + 1) fr (parS (E f).d) true x2 s1 nt rfl (by omega) hfr1.1 hfr1.2 (hx0.trans (x1.mono hx0.le)) hrow.rd hpl2
  by_cases cb:b = 47
  ·have hfr2:fr = 1:=by rw [hfr,hds]; simp [cb]
   have cb':(b:Int) = 47:=by omega
   rw [hfr2] at hrec hW hfr1
   simp [evOp_call,T.get_set,g0,g1,g2,g3,g4,g13,tupK,c7,loadE_eq,getC_eq,hq1,q0,q1,hm1,b2,hfl,hix,cb,cb',hsub]
   refine Gd.mono (hrec _) ?_
   rintro ⟨r,s2⟩ ⟨left,hr,hl,x3⟩
   simp only at hr x3
   subst hr
   have hx2:=hx1.trans (x3.mono hx1.le)
   have hw1:=O.walk 9 (h + 1) 1 (parS (E f).d) true (by omega) hfr1.1 hfr1.2
   have hw2:=walk_h8 E 9 (h + 1) 1 (parS (E f).d) true (by omega) (by omega)
   have hw3:=walk_le E (h + 1) 1 (parS (E f).d) true
   obtain ⟨w,hwd⟩:∃ w,w = walk E (h + 1) 1 (parS (E f).d) true:=⟨_,rfl⟩
   rw [← hwd] at hW hl hw1 hw2 hw3 ⊢
   by_cases c9:w.2.2 = 0
   rotate_left
   ·rw [if_pos c9] at hW
    simp [evOp_call,T.get_set,g0,g1,g2,g3,g4,g13,tupK,c9]
    rw [hW]
    exact ⟨_,rfl,(fun h => absurd h c9),hx2⟩
   ·rw [if_neg (fun h => h c9)] at hW
    have hl:=hl c9
    subst hl
    simp [evOp_call,T.get_set,g0,g1,g2,g3,g4,g13,tupK,c9,hwi]
    exact ⟨⟨i + 1,w.1,w.2.1,hlt,by simp [T.get_set,g0],by simp [T.get_set],by simp [T.get_set,g2],by simp [T.get_set,g3],by simp [T.get_set],by simp [T.get_set],by omega,hw2 c9,hw1.2.1 c9,hw1.1,hW,hx2⟩,muAt_lt g13 (by simp [T.get_set]) hlt⟩
  ·have hfr2:fr = d:=by rw [hfr,hds]; simp [cb]
   have cb':¬ (b:Int) = 47:=by omega
   rw [hfr2] at hrec hW hfr1
   simp [evOp_call,T.get_set,g0,g1,g2,g3,g4,g13,tupK,c7,loadE_eq,getC_eq,hq1,q0,q1,hm1,b2,hfl,hix,cb,cb',hsub]
   refine Gd.mono (hrec _) ?_
   rintro ⟨r,s2⟩ ⟨left,hr,hl,x3⟩
   simp only at hr x3
   subst hr
   have hx2:=hx1.trans (x3.mono hx1.le)
   have hw1:=O.walk 9 (h + 1) d (parS (E f).d) true (by omega) hfr1.1 hfr1.2
   have hw2:=walk_h8 E 9 (h + 1) d (parS (E f).d) true (by omega) (by omega)
   have hw3:=walk_le E (h + 1) d (parS (E f).d) true
   obtain ⟨w,hwd⟩:∃ w,w = walk E (h + 1) d (parS (E f).d) true:=⟨_,rfl⟩
   rw [← hwd] at hW hl hw1 hw2 hw3 ⊢
   by_cases c9:w.2.2 = 0
   rotate_left
   ·rw [if_pos c9] at hW
    simp [evOp_call,T.get_set,g0,g1,g2,g3,g4,g13,tupK,c9]
    rw [hW]
    exact ⟨_,rfl,(fun h => absurd h c9),hx2⟩
   ·rw [if_neg (fun h => h c9)] at hW
    have hl:=hl c9
    subst hl
    simp [evOp_call,T.get_set,g0,g1,g2,g3,g4,g13,tupK,c9,hwi]
    exact ⟨⟨i + 1,w.1,w.2.1,hlt,by simp [T.get_set,g0],by simp [T.get_set],by simp [T.get_set,g2],by simp [T.get_set,g3],by simp [T.get_set],by simp [T.get_set],by omega,hw2 c9,hw1.2.1 c9,hw1.1,hW,hx2⟩,muAt_lt g13 (by simp [T.get_set]) hlt⟩
 ·subst cl'
  have cl3:=hi1.2 cl2
  simp [evOp_call,T.get_set,g0,g1,g2,g3,g4,g13,c3,loadE_eq,getC_eq,hq,q0,q1,hm,b1',b2,hfl,ckf,hwi,hyl,h8',cl2,cl3]
  refine Gd.mono (rsplit_any s (E f).d _) ?_
  rintro ⟨r,s1⟩ ⟨x2,hr,hrow,x1⟩
  simp only at hr hrow x1
  subst hr
  have hx1:=hx.trans (x1.mono hx.le)
  have hq1:=(x1.keep q R.lt.1).trans hq
  have hm1:=(x1.keep m R.lt.2.1).trans hm
  by_cases c7:errS (E f).d = 0
  rotate_left
  ·have e7:follE E h d f = (h + 1,0,errS (E f).d):=by unfold follE; rw [if_neg (by omega),if_pos c7]
   rw [e7,if_pos c7] at hW
   simp [evOp_call,T.get_set,g0,g1,g2,g3,g4,g13,tupK,c7]
   rw [hW]
   exact ⟨_,rfl,(fun h => absurd h c7),hx1⟩
  rw [show pErr (E f).d = parS (E f).d from if_pos c7] at hrow
  obtain ⟨b,ds,hds⟩:∃ b ds,(E f).d = b :: ds:=by
   cases hd:(E f).d with
   | nil => rw [hd] at c7; exact absurd c7 (by decide)
   | cons b ds => exact ⟨b,ds,rfl⟩
  have hix:∀ st',indexK Tryz.prog st' 9 (.s (E f).d) 0 = some (.int .u8 (b:Int),st'):=fun st' => by
   unfold indexK
   rw [un9,hds]
   rfl
  have hsub:IntKind.i64.wrap (8 - (h:Int) - 1) = 8 - ((h + 1:Nat):Int):=by rw [wrap_in (by omega) (by omega)]; omega
  have hpl2:(parS (E f).d).length ≤ 100000:=by have:=par_len (E f).d; have:=(O.dat f).2; omega
  obtain ⟨fr,hfr⟩:∃ fr,fr = if (E f).d.head? = some 47 then 1 else d:=⟨_,rfl⟩
  have hfr1:1 ≤ fr ∧ fr ≤ n:=by rw [hfr]; split <;> omega
  have ef:follE E h d f = walk E (h + 1) fr (parS (E f).d) true:=by
   unfold follE
   rw [if_neg (by omega),if_neg (fun h => h c7),hfr]
  rw [ef] at hW
  have hrec:=fun nt => ihk (8 - (h + 1)) (by omega) (h + 1) fr (parS (E f).d) true x2 s1 nt rfl (by omega) hfr1.1 hfr1.2 (hx0.trans (x1.mono hx0.le)) hrow.rd hpl2
  by_cases cb:b = 47
  ·have hfr2:fr = 1:=by rw [hfr,hds]; simp [cb]
   have cb':(b:Int) = 47:=by omega
   rw [hfr2] at hrec hW hfr1
   simp [evOp_call,T.get_set,g0,g1,g2,g3,g4,g13,tupK,c7,loadE_eq,getC_eq,hq1,q0,q1,hm1,b2,hfl,hix,cb,cb',hsub]
   refine Gd.mono (hrec _) ?_
   rintro ⟨r,s2⟩ ⟨left,hr,hl,x3⟩
   simp only at hr x3
   subst hr
   have hx2:=hx1.trans (x3.mono hx1.le)
   have hw1:=O.walk 9 (h + 1) 1 (parS (E f).d) true (by omega) hfr1.1 hfr1.2
   have hw2:=walk_h8 E 9 (h + 1) 1 (parS (E f).d) true (by omega) (by omega)
   have hw3:=walk_le E (h + 1) 1 (parS (E f).d) true
   obtain ⟨w,hwd⟩:∃ w,w = walk E (h + 1) 1 (parS (E f).d) true:=⟨_,rfl⟩
   rw [← hwd] at hW hl hw1 hw2 hw3 ⊢
   by_cases c9:w.2.2 = 0
   rotate_left
   ·rw [if_pos c9] at hW
    simp [evOp_call,T.get_set,g0,g1,g2,g3,g4,g13,tupK,c9]
    rw [hW]
    exact ⟨_,rfl,(fun h => absurd h c9),hx2⟩
   ·rw [if_neg (fun h => h c9)] at hW
    have hl:=hl c9
    subst hl
    simp [evOp_call,T.get_set,g0,g1,g2,g3,g4,g13,tupK,c9,hwi]
    exact ⟨⟨i + 1,w.1,w.2.1,hlt,by simp [T.get_set,g0],by simp [T.get_set],by simp [T.get_set,g2],by simp [T.get_set,g3],by simp [T.get_set],by simp [T.get_set],by omega,hw2 c9,hw1.2.1 c9,hw1.1,hW,hx2⟩,muAt_lt g13 (by simp [T.get_set]) hlt⟩
  ·have hfr2:fr = d:=by rw [hfr,hds]; simp [cb]
   have cb':¬ (b:Int) = 47:=by omega
   rw [hfr2] at hrec hW hfr1
   simp [evOp_call,T.get_set,g0,g1,g2,g3,g4,g13,tupK,c7,loadE_eq,getC_eq,hq1,q0,q1,hm1,b2,hfl,hix,cb,cb',hsub]
   refine Gd.mono (hrec _) ?_
   rintro ⟨r,s2⟩ ⟨left,hr,hl,x3⟩
   simp only at hr x3
   subst hr
   have hx2:=hx1.trans (x3.mono hx1.le)
   have hw1:=O.walk 9 (h + 1) d (parS (E f).d) true (by omega) hfr1.1 hfr1.2
   have hw2:=walk_h8 E 9 (h + 1) d (parS (E f).d) true (by omega) (by omega)
   have hw3:=walk_le E (h + 1) d (parS (E f).d) true
   obtain ⟨w,hwd⟩:∃ w,w = walk E (h + 1) d (parS (E f).d) true:=⟨_,rfl⟩
   rw [← hwd] at hW hl hw1 hw2 hw3 ⊢
   by_cases c9:w.2.2 = 0
   rotate_left
   ·rw [if_pos c9] at hW
    simp [evOp_call,T.get_set,g0,g1,g2,g3,g4,g13,tupK,c9]
    rw [hW]
    exact ⟨_,rfl,(fun h => absurd h c9),hx2⟩
   ·rw [if_neg (fun h => h c9)] at hW
    have hl:=hl c9
    subst hl
    simp [evOp_call,T.get_set,g0,g1,g2,g3,g4,g13,tupK,c9,hwi]
    exact ⟨⟨i + 1,w.1,w.2.1,hlt,by simp [T.get_set,g0],by simp [T.get_set],by simp [T.get_set,g2],by simp [T.get_set,g3],by simp [T.get_set],by simp [T.get_set],by omega,hw2 c9,hw1.2.1 c9,hw1.1,hW,hx2⟩,muAt_lt g13 (by simp [T.get_set]) hlt⟩
end Go.Proofs.YtgcpgidofikcdaaGreatDoor
set_option linter.unusedSimpArgs false
set_option linter.unusedVariables false
namespace Go.Proofs.YtgcpgidofikcdaaGreatDoor
open Go.RowKit Ev
section
variable {st:St} {q m n B:Nat} {Z:Nat → V} {E:Tr}
theorem rway_any (R:RefG st q m n Z E) (O:TOk n B E) (C:Ct n E) (hB:B ≤ 1000) (s:Tx) (last:Bool) (nt:Nat) :
  Gd (callL Tryz.prog ⟨false,[],0,nt⟩ 69 [.p q 0,.s s,.bool last] st) fun r => r.1 = .t [.int .i64 ((wayE E s last).1:Int),.int .i64 (wayE E s last).2] ∧ Ext st.nx st r.2:=by
 rw [Gd_callL Tryz.func69 rfl]
 have hn:=O.n2
 simp [evOp_call,sets,T.get_set]
 refine Gd.mono (rsplit_any st s _) ?_
 rintro ⟨r,s1⟩ ⟨x,hr,hrow,x1⟩
 simp only at hr hrow x1
 subst hr
 unfold wayE
 by_cases ce:errS s = 0
 rotate_left
 ·rw [if_pos ce]
  simp [evOp_call,sets,T.get_set,tupK,ce]
  exact x1
 rw [if_neg (fun h => h ce)]
 rw [show pErr s = parS s from if_pos ce] at hrow
 have hpl:(parS s).length ≤ 100000:=by
  have h1:=par_len s
  have h2:s.length ≤ 400:=by
   unfold errS at ce
   split at ce
   ·cases ce
   split at ce
   ·cases ce
   ·omega
  omega
 simp [evOp_call,sets,T.get_set,tupK,ce]
 refine Gd.mono (rwalk_any R O C hB 8 0 1 (parS s) last x s1 _ rfl (by omega) (Nat.le_refl _) (by omega) x1 hrow.rd hpl) ?_
 rintro ⟨r,s2⟩ ⟨left,hr,_,x2⟩
 simp only at hr x2
 subst hr
 simp [evOp_call,sets,T.get_set,tupK]
 exact x1.trans (x2.mono x1.le)
theorem lastD_max (s:Tx):(lastD s).length ≤ 100000:=by
 unfold lastD
 split
 ·rename_i h
  have h1:=par_len s
  have h2:s.length ≤ 400:=by
   unfold lastE at h
   split at h
   ·rename_i h3; exact absurd h h3
   ·rename_i h3
    have h3:errS s = 0:=by omega
    unfold errS at h3
    split at h3
    ·cases h3
    split at h3
    ·cases h3
    ·omega
  rw [List.length_dropLast]
  omega
 ·exact Nat.zero_le _
theorem rdir_any (R:RefG st q m n Z E) (O:TOk n B E) (C:Ct n E) (hB:B ≤ 1000) (s:Tx) (nt:Nat) :
  Gd (callL Tryz.prog ⟨false,[],0,nt⟩ 131 [.p q 0,.s s] st) fun r => ∃ x,r.1 = .t [.int .i64 ((lastDE E s).1:Int),.s x,.int .i64 (lastDE E s).2.2] ∧ ((lastDE E s).2.2 = 0 → x = (lastDE E s).2.1) ∧ Ext st.nx st r.2:=by
 rw [Gd_callL Tryz.func131 rfl]
 have hn:=O.n2
 simp [evOp_call,sets,T.get_set]
 refine Gd.mono (rlast_any st s _) ?_
 rintro ⟨r,s1⟩ ⟨x,hr,hrow,x1⟩
 simp only at hr hrow x1
 subst hr
 unfold lastDE
 by_cases ce:lastE s = 0
 rotate_left
 ·rw [if_pos ce]
  simp [evOp_call,sets,T.get_set,tupK,ce]
  exact x1
 rw [if_neg (fun h => h ce)]
 simp [evOp_call,sets,T.get_set,tupK,ce]
 refine Gd.mono (rwalk_any R O C hB 8 0 1 (lastD s) true x s1 _ rfl (by omega) (Nat.le_refl _) (by omega) x1 hrow (lastD_max s)) ?_
 rintro ⟨r,s2⟩ ⟨left,hr,_,x2⟩
 simp only at hr x2
 subst hr
 have hx2:=x1.trans (x2.mono x1.le)
 have R2:=R.ext hx2
 have hw:=O.walk 9 0 1 (lastD s) true (by omega) (Nat.le_refl _) (by omega)
 unfold Go.Proofs.YtgcpgidofikcdaaGreatDoor.dirE
 obtain ⟨w,hwd⟩:∃ w,w = walk E 0 1 (lastD s) true:=⟨_,rfl⟩
 rw [← hwd] at hw ⊢
 by_cases c1:w.2.2 = 0
 rotate_left
 ·rw [if_pos c1]
  simp [evOp_call,sets,T.get_set,tupK,c1]
  exact hx2
 rw [if_neg (fun h => h c1)]
 obtain ⟨tq,hq,q0,q1⟩:=R2.cell
 obtain ⟨tt,hm,row⟩:=R2.row
 obtain ⟨a0,a1,a2,a3,a4,a5⟩:=row w.2.1 hw.1
 have hl:w.2.1 < n + 1:=by omega
 by_cases c2:(E w.2.1).k = 2
 rotate_left
 ·have c2':¬ ((E w.2.1).k:Int) = 2:=by omega
  rw [if_pos c2]
  simp [evOp_call,sets,T.get_set,tupK,c1,loadE_eq,getC_eq,hq,q0,q1,hm,a1,hl,c2,c2']
  exact hx2
 ·rw [if_neg (fun h => h c2)]
  simp [evOp_call,sets,T.get_set,tupK,c1,loadE_eq,getC_eq,hq,q0,q1,hm,a1,hl,c2]
  exact hx2
theorem lastDE_dir (O:TOk n B E) {s:Tx} (h:(lastDE E s).2.2 = 0):(E (lastDE E s).1).k = 2:=by
 unfold lastDE at h ⊢
 split at h
 ·rename_i c; exact absurd h c
 rename_i c
 rw [if_neg c]
 exact O.dirE _ h
theorem rfree_any (R:RefG st q m n Z E) (O:TOk n B E) (C:Ct n E) (hB:B ≤ 1000) (s:Tx) (nt:Nat) :
  Gd (callL Tryz.prog ⟨false,[],0,nt⟩ 127 [.p q 0,.s s] st) fun r => ∃ x,r.1 = .t [.int .i64 ((roomE E s).1:Int),.s x,.int .i64 (roomE E s).2.2] ∧ ((roomE E s).2.2 = 0 → x = (roomE E s).2.1) ∧ Ext st.nx st r.2:=by
 rw [Gd_callL Tryz.func127 rfl]
 simp [evOp_call,sets,T.get_set]
 refine Gd.mono (rdir_any R O C hB s _) ?_
 rintro ⟨r,s1⟩ ⟨x,hr,hx,x1⟩
 simp only at hr x1
 subst hr
 have hd:=lastDE_dir O (s:=s)
 obtain ⟨rm,hrm⟩:∃ rm,rm = roomE E s:=⟨_,rfl⟩
 rw [← hrm]
 unfold roomE at hrm
 obtain ⟨⟨d,nm,er⟩,hw⟩:∃ w,w = lastDE E s:=⟨_,rfl⟩
 rw [← hw] at hx hd hrm ⊢
 simp only at hx hd hrm ⊢
 by_cases ce:er = 0
 rotate_left
 ·rw [if_pos ce] at hrm
  simp [evOp_call,sets,T.get_set,tupK,ce]
  rw [hrm]
  exact ⟨_,⟨rfl,rfl,rfl⟩,(fun h => absurd h ce),x1⟩
 rw [if_neg (fun h => h ce)] at hrm
 have hx:=hx ce
 subst hx
 have hdn:=(O.kle (i:=d) (by have:=hd ce; omega)).2
 have R1:=R.ext x1
 simp [evOp_call,sets,T.get_set,tupK,ce]
 refine Gd.mono (rchild_any R1 O hB hdn x _) ?_
 rintro _ rfl
 by_cases c2:findE E d x = 0
 rotate_left
 ·rw [if_pos c2] at hrm
  simp [evOp_call,sets,T.get_set,tupK,c2]
  rw [hrm]
  exact ⟨_,⟨rfl,rfl,rfl⟩,(fun h => by cases h),x1⟩
 rw [if_neg (fun h => h c2)] at hrm
 by_cases c3:d = 2
 ·rw [if_pos c3] at hrm
  subst c3
  simp [evOp_call,sets,T.get_set,tupK,c2]
  rw [hrm]
  exact ⟨_,⟨rfl,rfl,rfl⟩,(fun h => by cases h),x1⟩
 ·have c3':¬ (d:Int) = 2:=by omega
  rw [if_neg c3] at hrm
  simp [evOp_call,sets,T.get_set,tupK,c2,c3,c3']
  rw [hrm]
  exact ⟨_,⟨rfl,rfl,rfl⟩,(fun _ => rfl),x1⟩
end
end Go.Proofs.YtgcpgidofikcdaaGreatDoor

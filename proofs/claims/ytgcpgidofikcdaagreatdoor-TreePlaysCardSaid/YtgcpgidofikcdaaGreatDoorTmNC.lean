/-
  PLAIN: TmNew, TmSm, TmCl, in one text.
-/
import Derived.Test.YtgcpgidofikcdaaGreatDoorTmVZ
import Derived.Test.YtgcpgidofikcdaaGreatDoorTrNew
import Derived.Test.YtgcpgidofikcdaaGreatDoorEqS
set_option maxRecDepth 20000
set_option maxHeartbeats 16000000
set_option linter.unusedSimpArgs false
set_option linter.unusedVariables false
namespace Go.Proofs.YtgcpgidofikcdaaGreatDoor
open Go.RowKit Ev
def noB:Nat → Prop:=fun _ => False
def nodesN (k:Int):Nat:=(max 2 (min k 64)).toNat
theorem nodesN_ok (k:Int):2 ≤ nodesN k ∧ nodesN k ≤ 64:=by unfold nodesN; omega
theorem TrAt.trG {s:St} {q m n:Nat} (h:TrAt s q m n twoK twoU):TrG s q m n (.sl m 0 (n + 1) (n + 1)) (fun _ => .c (.slice none 0 0)) (fun _ => .c (.slice none 0 0)) newE noB noB:=by
 obtain ⟨⟨tq,h1,h2⟩,⟨t,h3,h4⟩,h5,h6⟩:=h
 refine ⟨⟨tq,h1,h2⟩,.inl rfl,⟨_,_,t,h3,by decide,Nat.le_refl _,fun i hi => ?_⟩,fun i j b _ _ hb _ => absurd hb (nil_blk b),⟨h6,by omega,by omega⟩,fun b hb => hb.elim,fun b hb => hb.elim⟩
 obtain ⟨g0,g1,g2,g3,g4⟩:=h4 i hi
 have e:newE i = ⟨(twoK i).toNat,(twoU i).toNat,0,[],[]⟩ ∧ twoK i = ((twoK i).toNat:Int) ∧ twoU i = ((twoU i).toNat:Int):=by
  unfold newE twoK twoU updN
  by_cases c1:i = 1
  ·subst c1; simp
  ·by_cases c2:i = 2
   ·subst c2; simp
   ·simp [c1,c2,noE]
 obtain ⟨e1,e2,e3⟩:=e
 rw [e1]
 refine ⟨?_,?_,g2,g3,g4,⟨⟨rfl,.inl ⟨.inl rfl,rfl⟩⟩,fun b hb => absurd hb (nil_blk b),fun _ _ _ _ e => (by cases e)⟩,.inl ⟨rfl,.inl rfl⟩⟩
 ·rw [g0,e2]; rfl
 ·rw [g1,e3]; rfl
def newR (st:St) (n:Nat) (r:V × St):Prop:=∃ q m x Y Z,r.1 = .p q 0 ∧ TrG r.2 q m n x Y Z newE noB noB ∧ st.nx ≤ m ∧ st.nx ≤ q ∧ Ext st.nx st r.2
theorem newT_any (st:St) (k:Int) (nt:Nat):Gd (callL Tryz.prog ⟨false,[],0,nt⟩ 10 [.int .i64 k] st) (newR st (nodesN k)):=by
 have hN:=nodesN_ok k
 have key:∀ nt,Gd (callL Tryz.prog ⟨false,[],0,nt⟩ 10 [.int .i64 k] st) (treeR st (nodesN k)):=fun nt => by
  rw [Gd_callL Tryz.func10 rfl]
  have e3:(if (2:Int) < (if (64:Int) < k then 64 else k) then (if (64:Int) < k then 64 else k) else 2) = (nodesN k:Int):=by
   unfold nodesN
   split <;> split <;> omega
  simp [evOp_call,sets,T.get_set,evOp_min,evOp_max,min_i64,max_i64]
  rw [e3]
  refine Gd.mono (bare_any st (nodesN k) hN _) ?_
  rintro ⟨r,s1⟩ ⟨q,m,hr,hT,hm,x1⟩
  simp only at hr hT x1
  subst hr
  obtain ⟨⟨tq,h1,h2⟩,⟨t,h3,_⟩,h5,h6⟩:=id hT
  have hq1:¬ m = q:=by omega
  have hb1:6 ≤ (nodesN k + 1) * 5:=by omega
  have hb2:11 ≤ (nodesN k + 1) * 5:=by omega
  have hb3:5 + 1 ≤ (nodesN k + 1) * 5:=by omega
  have hb4:10 + 1 ≤ (nodesN k + 1) * 5:=by omega
  have hn2:1 < nodesN k + 1:=by omega
  have hn3:2 < nodesN k + 1:=by omega
  have hT1:=hT.kind 1 (by omega) 2 h3
  have hT2:=hT1.kind 2 (by omega) 2 (T.get_set_same _ _ _)
  simp [evOp_call,sets,T.get_set,loadE_eq,getC_eq,putB_eq,roT,h1,h2,h3,hq1,hb1,hb2,hb3,hb4,hn2,hn3]
  have hx2:Ext st.nx st ⟨s1.nx,s1.h.set m (.cs 92 ((nodesN k + 1) * 5) ((t.set (1 * 5) (.int .i64 2)).set (2 * 5) (.int .i64 2)))⟩:=x1.set (m:=m) hm (by omega) _
  refine ⟨q,m,rfl,?_,hm,hx2⟩
  simp only [T.set_set] at hT2
  exact hT2
 refine Gd.mono (key nt) ?_
 rintro ⟨r,s1⟩ ⟨q,m,hr,hT,hm,x1⟩
 have:=hT.lt
 exact ⟨q,m,_,_,_,hr,hT.trG,hm,by omega,x1⟩
end Go.Proofs.YtgcpgidofikcdaaGreatDoor
set_option linter.unusedSimpArgs false
set_option linter.unusedVariables false
namespace Go.Proofs.YtgcpgidofikcdaaGreatDoor
open Go.RowKit Ev
theorem pr_str {P:Program} (d:Nat) {t:TypeId} (a b:ByteArray) (h:P.underlying t = some .string):pureRun P (Op.equalIn (d + 1) t (.string a) (.string b)) = some (a == b):=by
 unfold Op.equalIn
 rw [pr_bind (pr_underlying h)]
 simp [pr_pure]
theorem feStr {P:Program} {d:Nat} {xs ys:Array Value} {f:Field} {a b:ByteArray} (hn:f.name ≠ "_") (hu:P.underlying f.type = some .string) (hx:xs[f.offset]? = some (.string a)) (hy:ys[f.offset]? = some (.string b)):FieldEq P (d + 1) xs ys f (a == b):=by
 have hp:∀ (cs:Array Value) v,cs[f.offset]? = some v → pureRun P (part f.type cs f.offset) = some v:=fun cs v hv => by
  unfold part isAgg
  rw [pr_bind (a:=false) (by rw [pr_bind (pr_underlying hu)]; rfl)]
  simp only [hv]
  rfl
 exact ⟨hn,_,_,hp xs _ hx,hp ys _ hy,pr_str d a b hu⟩
theorem tx_inj {a b:Tx} (ha:okS a) (hb:okS b) (h:a.map UInt8.ofNat = b.map UInt8.ofNat):a = b:=by
 have h2:=congrArg (List.map UInt8.toNat) h
 rw [List.map_map,List.map_map] at h2
 have key:∀ c:Tx,okS c → c.map (UInt8.toNat ∘ UInt8.ofNat) = c:=fun c hc => by
  conv => rhs; rw [← List.map_id c]
  refine List.map_congr_left fun x hx => ?_
  have:=hc x hx
  simp
  omega
 rw [key a ha,key b hb] at h2
 exact h2
theorem neqName (st:St) (x y:Operand) (a c:Tx) (ha:okS a) (hc:okS c) (b d:Nat):binE Tryz.prog st .neq 109 x y (.g [.s a,.int .i64 (b:Int)]) (.g [.s c,.int .i64 (d:Int)]) = some (.bool (!decide ((a,b) = (c,d))),st):=by
 have:=neq_struct (st:=st) (x:=x) (y:=y) (l:=[.s a,.int .i64 (b:Int)]) (l':=[.s c,.int .i64 (d:Int)]) (xs:=[.string ⟨⟨a.map UInt8.ofNat⟩⟩,.int .i64 (b:Int)]) (ys:=[.string ⟨⟨c.map UInt8.ofNat⟩⟩,.int .i64 (d:Int)]) Tryz.underlying109 (by kernel_rfl) (by kernel_rfl) rfl rfl
  (.cons (feStr (d:=9998) (by decide) Tryz.underlying9 rfl rfl) (.cons (.int (d:=9998) (by decide) Tryz.underlying3 rfl rfl) .nil))
 have he:([(⟨⟨a.map UInt8.ofNat⟩⟩:ByteArray) == ⟨⟨c.map UInt8.ofNat⟩⟩,((b:Int) == (d:Int))].all id) = decide ((a,b) = (c,d)):=by
  have hac:((⟨⟨a.map UInt8.ofNat⟩⟩:ByteArray) == ⟨⟨c.map UInt8.ofNat⟩⟩) = decide (a = c):=by
   show ((⟨a.map UInt8.ofNat⟩:Array UInt8) == ⟨c.map UInt8.ofNat⟩) = _
   rw [Bool.eq_iff_iff]
   simp only [beq_iff_eq,decide_eq_true_eq]
   constructor
   ·intro h
    have h2:a.map UInt8.ofNat = c.map UInt8.ofNat:=congrArg Array.toList h
    exact tx_inj ha hc h2
   ·rintro rfl; rfl
  have hbd:((b:Int) == (d:Int)) = decide (b = d):=by
   rw [Bool.eq_iff_iff]
   simp only [beq_iff_eq,decide_eq_true_eq]
   omega
  rw [hac,hbd]; simp
 rw [he] at this
 exact this
theorem beq_any (st:St) (y z:V) (a b:Tx) (hy:RdRow st y 1 a.length (yv a)) (hz:RdRow st z 1 b.length (yv b)) (ha:okS a) (hb:okS b) (nt:Nat):Gd (callL Tryz.prog ⟨false,[],0,nt⟩ 61 [y,z] st) fun r => r = (.bool (decide (a = b)),st):=by
 rw [Gd_callL Tryz.func61 rfl]
 have c1:∀ nt,convE Tryz.prog ⟨false,[],0,nt⟩ st 27 9 y = some (.s a,st):=fun nt => conv_bytes hy ha fun _ _ => rfl
 have c2:∀ nt,convE Tryz.prog ⟨false,[],0,nt⟩ st 27 9 z = some (.s b,st):=fun nt => conv_bytes hz hb fun _ _ => rfl
 simp [evOp_call,sets,T.get_set,c1,c2]
def neI (y z:V) (a b:List (Tx × Nat)) (st:St) (e:Env) (s:St):Prop:=∃ k:Nat,k ≤ a.length ∧ a.take k = b.take k ∧ e.get 0 = some y ∧ e.get 1 = some z ∧ e.get 12 = some (.int .i64 (a.length:Int)) ∧ e.get 13 = some (.int .i64 (k:Int)) ∧ s = st
theorem neq_any (st:St) (y z:V) (a b:List (Tx × Nat)) (hy:RdRow st y 2 a.length (cellsN a)) (hz:RdRow st z 2 b.length (cellsN b)) (ha:∀ e ∈ a,okS e.1) (hb:∀ e ∈ b,okS e.1) (hl:a.length ≤ 1000000) (nt:Nat):Gd (callL Tryz.prog ⟨false,[],0,nt⟩ 62 [y,z] st) fun r => r = (.bool (decide (a = b)),st):=by
 rw [Gd_callL Tryz.func62 rfl]
 by_cases hll:a.length = b.length
 rotate_left
 ·have h1:¬ (a.length:Int) = (b.length:Int):=by omega
  have h2:¬ a = b:=fun e => hll (by rw [e])
  simp [evOp_call,sets,T.get_set,hy.lenS,hz.lenS,h1,hll,h2]
 have h1:(a.length:Int) = (b.length:Int):=by omega
 simp [evOp_call,sets,T.get_set,hy.lenS,hz.lenS,h1]
 rw [← h1]
 refine Gd_loop (neI y z a b st) (fun e _ => muAt 13 a.length e) ?_ ?_
 ·exact ⟨0,Nat.zero_le _,rfl,by simp [T.get_set],by simp [T.get_set],by simp [T.get_set],by simp [T.get_set],rfl⟩
 rintro e s ⟨k,hk,htk,g0,g1,g12,g13,rfl⟩
 by_cases hlt:k < a.length
 ·have hlt':(k:Int) < (a.length:Int):=by omega
  have hlt2:k < b.length:=by omega
  have hwk:=wrap_nat (n:=k) (by omega)
  obtain ⟨m1,o1,ty1,sz1,tr1,i1,b1,k1,l1,c1⟩:=hy.idx (st:=s) un90 io109 hlt
  obtain ⟨m2,o2,ty2,sz2,tr2,i2,b2,k2,l2,c2⟩:=hz.idx (st:=s) un90 io109 hlt2
  have ga:=List.getElem?_eq_getElem hlt
  have gb:=List.getElem?_eq_getElem hlt2
  obtain ⟨p1,p2⟩:=cellsN_get _ _ _ ga
  obtain ⟨q1,q2⟩:=cellsN_get _ _ _ gb
  have d0:tr1.get o1 = some (.s a[k].1):=by have:=c1 0 _ (by omega) p1; simpa using this
  have d1:tr1.get (o1 + 1) = some (.int .i64 (a[k].2:Int)):=c1 1 _ (by omega) p2
  have f0:tr2.get o2 = some (.s b[k].1):=by have:=c2 0 _ (by omega) q1; simpa using this
  have f1:tr2.get (o2 + 1) = some (.int .i64 (b[k].2:Int)):=c2 1 _ (by omega) q2
  have hne:=fun x' y' => neqName s x' y' a[k].1 b[k].1 (ha _ (List.getElem_mem hlt)) (hb _ (List.getElem_mem hlt2)) a[k].2 b[k].2
  simp [evOp_call,T.get_set,g0,g1,g12,g13,hlt',sets]
  refine ⟨by kernel_rfl,?_⟩
  simp [evOp_call,T.get_set,g0,g1,g12,g13,i1,i2,loadE_eq,getC_eq,getsB_succ,getsB_zero,k1,k2,d0,d1,f0,f1,sets,hne]
  by_cases hab:a[k] = b[k]
  ·have hp:a[k].1 = b[k].1 ∧ a[k].2 = b[k].2:=by rw [hab]; exact ⟨rfl,rfl⟩
   simp [evOp_call,T.get_set,g0,g1,g12,g13,hp.1,hp.2,hwk,sets]
   refine ⟨⟨k + 1,hlt,?_,by simp [T.get_set,g0],by simp [T.get_set,g1],by simp [T.get_set,g12],by simp [T.get_set],rfl⟩,muAt_lt g13 (by simp [T.get_set]) hlt⟩
   rw [List.take_add_one,List.take_add_one,htk,ga,gb,hab]
  ·have hp:¬ (a[k].1 = b[k].1 ∧ a[k].2 = b[k].2):=fun h => hab (Prod.ext h.1 h.2)
   have hne2:¬ a = b:=fun e => hab (by subst e; rfl)
   have hp2:(!decide (a[k].1 = b[k].1) || !decide (a[k].2 = b[k].2)) = true:=by
    by_cases h:a[k].1 = b[k].1
    ·have h3:¬ a[k].2 = b[k].2:=fun h4 => hp ⟨h,h4⟩
     simp [h3]
    ·simp [h]
   simp [evOp_call,T.get_set,g0,g1,g12,g13,hp2,hne2,sets]
 ·obtain rfl:k = a.length:=by omega
  have hab:a = b:=by rw [List.take_length,hll,List.take_length] at htk; exact htk
  simp [evOp_call,T.get_set,g0,g1,g12,g13,sets]
  simp [hab]
def SameE (n n':Nat) (E E':Tr):Prop:=n = n' ∧ ∀ i,i ≤ n → (E i).k = (E' i).k ∧ (E i).d = (E' i).d ∧ (E i).l = (E' i).l
abbrev entV (e:Ent) (y z:V):V:=.g [.int .i64 (e.k:Int),.int .i64 (e.up:Int),.int .i64 e.nm,y,z]
theorem same1_any (st:St) (e e':Ent) (y z y' z':V) (hy:RdRow st y 1 e.d.length (yv e.d)) (hz:RdRow st z 2 e.l.length (cellsN e.l)) (hy':RdRow st y' 1 e'.d.length (yv e'.d)) (hz':RdRow st z' 2 e'.l.length (cellsN e'.l)) (hd:okS e.d) (hd':okS e'.d) (hl:∀ a ∈ e.l,okS a.1) (hl':∀ a ∈ e'.l,okS a.1) (hn:e.l.length ≤ 1000000) (nt:Nat) :
  Gd (callL Tryz.prog ⟨false,[],0,nt⟩ 60 [entV e y z,entV e' y' z'] st) fun r => r.1 = .bool (decide (e.k = e'.k ∧ e.d = e'.d ∧ e.l = e'.l)) ∧ Ext st.nx st r.2:=by
 rw [Gd_callL Tryz.func60 rfl]
 have hwu:wantK true (some V.u) = false:=rfl
 have hwf:wantK false (some V.u) = false:=rfl
 have o1:=hy.one
 have o2:=hz.one
 have o3:=hy'.one
 have o4:=hz'.one
 have hn1:¬ st.nx + 1 = st.nx:=by omega
 have x1:=fun b b' => ((Ext.refl st.nx st).new (Nat.le_refl _) b).new (b:=st.nx) (Nat.le_succ _) b'
 by_cases c1:e.k = e'.k
 ·have c1':(e.k:Int) = (e'.k:Int):=by omega
  simp [evOp_call,sets,T.get_set,newC_is,cellsOf,loadE_eq,getC_eq,o1,o2,o3,o4,hn1,hwu,hwf,c1,c1']
  refine Gd.mono (beq_any _ y y' e.d e'.d (hy.ext (x1 _ _)) (hy'.ext (x1 _ _)) hd hd' _) ?_
  rintro _ rfl
  by_cases c2:e.d = e'.d
  ·simp [evOp_call,sets,T.get_set,newC_is,cellsOf,loadE_eq,getC_eq,o1,o2,o3,o4,hn1,hwu,hwf,c2]
   refine Gd.mono (neq_any _ z z' e.l e'.l (hz.ext (x1 _ _)) (hz'.ext (x1 _ _)) hl hl' hn _) ?_
   rintro _ rfl
   by_cases c3:e.l = e'.l
   ·simp [evOp_call,sets,T.get_set,hwu,hwf,c3]
    exact x1 _ _
   ·simp [evOp_call,sets,T.get_set,hwu,hwf,c3]
    exact x1 _ _
  ·simp [evOp_call,sets,T.get_set,newC_is,cellsOf,loadE_eq,getC_eq,o1,o2,o3,o4,hn1,hwu,hwf,c2]
   exact x1 _ _
 ·have c1':¬ (e.k:Int) = (e'.k:Int):=by omega
  simp [evOp_call,sets,T.get_set,newC_is,cellsOf,loadE_eq,getC_eq,o1,o2,o3,o4,hn1,hwu,hwf,c1,c1']
  exact x1 _ _
def eqI (st:St) (x x':V) (n:Nat) (E E':Tr) (e:Env) (s:St):Prop:=∃ k:Nat,k ≤ n + 1 ∧ (∀ i,i < k → (E i).k = (E' i).k ∧ (E i).d = (E' i).d ∧ (E i).l = (E' i).l) ∧ e.get 1 = some x' ∧ e.get 2 = some (.f (.func 60) [] []) ∧ e.get 15 = some x ∧ e.get 16 = some (.int .i64 ((n + 1:Nat):Int)) ∧ e.get 17 = some (.int .i64 (k:Int)) ∧ Ext st.nx st s
theorem eqFn_any {st:St} {q m n q' m' n' B B':Nat} {x x':V} {Y Z Y' Z':Nat → V} {E E':Tr} {LB DB LB' DB':Nat → Prop} (TG:TrG st q m n x Y Z E LB DB) (TG':TrG st q' m' n' x' Y' Z' E' LB' DB') (O:TOk n B E) (O':TOk n' B' E') (hB:B ≤ 1000000) (nt:Nat) :
  Gd (callL Tryz.prog ⟨false,[],0,nt⟩ 59 [x,x',.f (.func 60) [] []] st) fun r => (∃ b:Bool,r.1 = .bool b ∧ (b = true ↔ SameE n n' E E')) ∧ Ext st.nx st r.2:=by
 rw [Gd_callL Tryz.func59 rfl]
 have hl:=TG.len
 have hl':=TG'.len
 by_cases hnn:n = n'
 rotate_left
 ·have h1:¬ (n:Int) = (n':Int):=by omega
  simp [evOp_call,sets,T.get_set,hl,hl',h1,hnn]
  exact ⟨fun h => hnn h.1,Ext.refl _ _⟩
 subst hnn
 simp [evOp_call,sets,T.get_set,hl,hl']
 refine Gd_loop (eqI st x x' n E E') (fun e _ => muAt 17 (n + 1) e) ?_ ?_
 ·exact ⟨0,by omega,fun i h => by omega,by simp [T.get_set],by simp [T.get_set],by simp [T.get_set],by simp [T.get_set],by simp [T.get_set],Ext.refl _ _⟩
 rintro e s ⟨k,hk,hsm,g1,g2,g15,g16,g17,hs⟩
 by_cases hlt:k < n + 1
 case neg =>
  obtain rfl:k = n + 1:=by omega
  simp [evOp_call,sets,T.get_set,g16,g17]
  exact ⟨⟨rfl,fun i hi => hsm i (by omega)⟩,hs⟩
 have hlt':(k:Int) < (n:Int) + 1:=by omega
 have hwk:=wrap_nat (n:=k) (by have:=O.n2; omega)
 have TGs:=TG.ext hs
 have TGs':=TG'.ext hs
 obtain ⟨ty,sz,t,hm,hro,hsz,row⟩:=TGs.row
 obtain ⟨ty',sz',t',hm',hro',hsz',row'⟩:=TGs'.row
 obtain ⟨e1,e2,e3,e4,e5,e6,e7⟩:=row k (by omega)
 obtain ⟨f1,f2,f3,f4,f5,f6,f7⟩:=row' k (by omega)
 have hii:=fun c => TGs.idx (i:=k) (by omega) c
 have hii':=fun c => TGs'.idx (i:=k) (by omega) c
 have hlt1:=TGs.lt
 have hlt2:=TGs'.lt
 have u1:¬ s.nx = m:=by omega
 have u2:¬ s.nx = m':=by omega
 have u3:¬ s.nx + 1 = s.nx:=by omega
 have o1:=e6.1.one
 have o2:=e7.rd.one
 have o3:=f6.1.one
 have o4:=f7.rd.one
 have x1:=fun b b' => ((Ext.refl s.nx s).new (Nat.le_refl _) b).new (b:=s.nx) (Nat.le_succ _) b'
 simp [evOp_call,evOp_callW,sets,T.get_set,g1,g2,g15,g16,g17,hlt,hlt',loadE_eq,getC_eq,getsB_succ,getsB_zero,hm,hm',e1,e2,e3,e4,e5,f1,f2,f3,f4,f5,u1,u2,u3,newC_is,storeK_g,putB_eq,roT,cellsOf,hii,hii',hwk,o1,o2,o3,o4]
 rw [funW_f (by kernel_rfl)]
 refine Gd.mono (same1_any _ (E k) (E' k) (Y k) (Z k) (Y' k) (Z' k) (e6.1.ext (x1 _ _)) (e7.rd.ext (x1 _ _)) (f6.1.ext (x1 _ _)) (f7.rd.ext (x1 _ _)) (O.dat k).1 (O'.dat k).1 (fun a ha => (O.ent k a ha).1) (fun a ha => (O'.ent k a ha).1) (by have:=O.len k; omega) _) ?_
 rintro ⟨r,s2⟩ ⟨hr,x2⟩
 simp only at hr x2
 subst hr
 have hx2:=(hs.trans ((x1 _ _).mono hs.le)).trans (x2.mono (by show st.nx ≤ s.nx + 1 + 1; have:=hs.le; omega))
 by_cases c:(E k).k = (E' k).k ∧ (E k).d = (E' k).d ∧ (E k).l = (E' k).l
 ·simp [evOp_call,sets,T.get_set,g1,g2,g15,g16,g17,hwk,c]
  exact ⟨⟨k + 1,by omega,fun i hi => by
   by_cases h:i = k
   ·subst h; exact c
   ·exact hsm i (by omega),by simp [T.get_set,g1],by simp [T.get_set,g2],by simp [T.get_set,g15],by simp [T.get_set,g16],by simp [T.get_set],hx2⟩,muAt_lt g17 (by simp [T.get_set]) hlt⟩
 ·have cd:decide ((E k).k = (E' k).k ∧ (E k).d = (E' k).d ∧ (E k).l = (E' k).l) = false:=decide_eq_false c
  rw [cd]
  simp [evOp_call,sets,T.get_set,g1,g2,g15,g16,g17,hwk]
  exact ⟨fun h => c (h.2 k (by omega)),hx2⟩
theorem sameT_any {st:St} {q m n q' m' n' B B':Nat} {x x':V} {Y Z Y' Z':Nat → V} {E E':Tr} {LB DB LB' DB':Nat → Prop} (TG:TrG st q m n x Y Z E LB DB) (TG':TrG st q' m' n' x' Y' Z' E' LB' DB') (O:TOk n B E) (O':TOk n' B' E') (hB:B ≤ 1000000) (nt:Nat) :
  Gd (callL Tryz.prog ⟨false,[],0,nt⟩ 16 [.p q 0,.p q' 0] st) fun r => (∃ b:Bool,r.1 = .bool b ∧ (b = true ↔ SameE n n' E E')) ∧ Ext st.nx st r.2:=by
 rw [Gd_callL Tryz.func16 rfl]
 obtain ⟨tq,h1,h2⟩:=TG.cell
 obtain ⟨tq',h1',h2'⟩:=TG'.cell
 simp [evOp_call,sets,T.get_set]
 refine ⟨by kernel_rfl,?_⟩
 simp [evOp_call,sets,T.get_set,loadE_eq,getC_eq,getsB_succ,getsB_zero,h1,h2,h1',h2']
 rw [cxOf_call (by kernel_rfl) (by kernel_rfl),forb_nil]
 refine Gd.mono (eqFn_any TG TG' O O' hB _) ?_
 rintro ⟨r,s2⟩ ⟨⟨b,hr,hb⟩,x2⟩
 simp only at hr x2
 subst hr
 simp [evOp_call,sets,T.get_set]
 exact ⟨by cases b <;> simp_all,x2⟩
end Go.Proofs.YtgcpgidofikcdaaGreatDoor
set_option linter.unusedSimpArgs false
set_option linter.unusedVariables false
namespace Go.Proofs.YtgcpgidofikcdaaGreatDoor
open Go.RowKit Ev
structure CloAt (st s:St) (cq cm n k:Nat) (E:Tr) (Yc Zc:Nat → V) (LBc DBc:Nat → Prop):Prop where
 cell:∃ tq,s.h.get cq = some (.cs 95 1 tq) ∧ tq.get 0 = some (.sg cm 0 (n + 1) 5)
 row:∃ ty sz t,s.h.get cm = some (.cs ty sz t) ∧ ty ≠ roT ∧ (n + 1) * 5 ≤ sz ∧ (∀ i,i ≤ n → t.get (i * 5) = some (.int .i64 ((E i).k:Int)) ∧ t.get (i * 5 + 1) = some (.int .i64 ((E i).up:Int)) ∧ t.get (i * 5 + 2) = some (.int .i64 (E i).nm)) ∧ ∀ i,i < k → EntAt s LBc DBc t i (Yc i) (Zc i) (E i)
 apart:∀ i j b,i < k → j < k → BlkOf (Zc i) b → BlkOf (Zc j) b → i = j
 lt:st.nx ≤ cq ∧ st.nx ≤ cm ∧ cq < s.nx ∧ cm < s.nx ∧ cm ≠ cq
 lb:∀ b,LBc b → st.nx ≤ b ∧ b < s.nx ∧ b ≠ cq ∧ b ≠ cm
 db:∀ b,DBc b → st.nx ≤ b ∧ b < s.nx ∧ b ≠ cq ∧ b ≠ cm ∧ ¬ LBc b
 ext:Ext st.nx st s
def cloR (st:St) (n:Nat) (E:Tr) (r:V × St):Prop:=∃ cq cm xc Yc Zc LBc DBc,r.1 = .p cq 0 ∧ TrG r.2 cq cm n xc Yc Zc E LBc DBc ∧ (st.nx ≤ cq ∧ st.nx ≤ cm ∧ (∀ b,LBc b → st.nx ≤ b) ∧ ∀ b,DBc b → st.nx ≤ b) ∧ Ext st.nx st r.2
theorem CloAt.done {st s:St} {cq cm n:Nat} {E:Tr} {Yc Zc:Nat → V} {LBc DBc:Nat → Prop} (h:CloAt st s cq cm n (n + 1) E Yc Zc LBc DBc):cloR st n E (.p cq 0,s):=by
 obtain ⟨h1,⟨ty,sz,t,h2,h3,h4,h5,h6⟩,h7,h8,h9,h10,h11⟩:=h
 have T1:TrG s cq cm n (.sg cm 0 (n + 1) 5) Yc Zc E LBc DBc:=⟨h1,.inr rfl,⟨ty,sz,t,h2,h3,h4,fun i hi => h6 i (by omega)⟩,fun i j b hi hj => h7 i j b (by omega) (by omega),⟨h8.2.2.1,h8.2.2.2.1,h8.2.2.2.2⟩,fun b hb => by have:=h9 b hb; omega,fun b hb => by have:=h10 b hb; exact ⟨by omega,by omega,by omega,this.2.2.2.2⟩⟩
 exact ⟨cq,cm,_,Yc,Zc,LBc,DBc,rfl,T1,⟨h8.1,h8.2.1,fun b hb => (h9 b hb).1,fun b hb => (h10 b hb).1⟩,h11⟩
theorem clR_nrow {st s:St} {v:V} {l:List (Tx × Nat)} (h2:∀ b,BlkOf v b → st.nx ≤ b ∧ b < s.nx) (h3:0 < l.length → OwnRow st.nx s v 2 l.length (cellsN l)) (h4:l.length = 0 → v = .c (.slice none 0 0) ∨ ∃ m,v = .sl m 0 0 0 ∧ st.nx ≤ m ∧ m < s.nx ∧ s.h.get m = some (.cs 109 0 .lf)):NRow s (fun b => st.nx ≤ b) v l:=by
 by_cases h:l.length = 0
 ·refine .inl ⟨List.length_eq_zero_iff.1 h,?_⟩
  rcases h4 h with e | ⟨m,e,e1,e2,e3⟩
  ·exact .inl e
  ·exact .inr ⟨m,e,e2,e1,e3⟩
 ·obtain ⟨_,⟨_,h5⟩ | ⟨m,ty,t,e,e1,e2,e3,e4,e5⟩⟩:=h3 (by omega)
  ·omega
  ·exact .inr ⟨m,ty,_,t,e,e2,e1,e3,e4,Nat.le_refl _,e5⟩
theorem NRow.sub {s s':St} {LB:Nat → Prop} {x:V} {l:List (Tx × Nat)} (h:NRow s LB x l) (k:Sub s s'):NRow s' LB x l:=by
 have hn:=k.nx
 rcases h with ⟨h0,h | ⟨m,rfl,h2,h3,h4⟩⟩ | ⟨m,ty,sz,t,rfl,h2,h3,h4,h5⟩
 ·exact .inl ⟨h0,.inl h⟩
 ·exact .inl ⟨h0,.inr ⟨m,rfl,by omega,h3,k.get _ _ h4⟩⟩
 ·exact .inr ⟨m,ty,sz,t,rfl,by omega,h3,k.get _ _ h4,h5⟩
theorem CloAt.step {st s s7:St} {cq cm n k w:Nat} {E:Tr} {Yc Zc:Nat → V} {LBc DBc:Nat → Prop} (C:CloAt st s cq cm n k E Yc Zc LBc DBc) (hk:k < n + 1) (xe:Ext s.nx s s7) {tyd szd:Nat} {td:T V} (hm:s.h.get cm = some (.cs tyd szd td)) {y2 z2:V} (hy:RdRow s7 y2 1 (E k).d.length (yv (E k).d)) (hyb:∀ b,BlkOf y2 b → s.nx ≤ b ∧ b < w) (hyc:CapOk y2) (hz:NRow s7 (fun b => w ≤ b) z2 (E k).l) (hw:s.nx ≤ w ∧ w ≤ s7.nx) :
  CloAt st ⟨s7.nx,s7.h.set cm (.cs tyd szd ((td.set (k * 5 + 3) y2).set (k * 5 + 4) z2))⟩ cq cm n (k + 1) E (fun j => if j = k then y2 else Yc j) (fun j => if j = k then z2 else Zc j) (fun b => LBc b ∨ BlkOf z2 b) (fun b => DBc b ∨ BlkOf y2 b):=by
 obtain ⟨⟨tq,h1,h1b⟩,⟨ty,sz,t,h2,h3,h4,h5,h6⟩,h7,h8,h9,h10,h11⟩:=C
 rw [hm] at h2
 injection h2 with h2
 injection h2 with e1 e2 e3
 subst e1 e2 e3
 have nle:=xe.le
 have oth:∀ w b,b ≠ cm → (s7.h.set cm w).get b = s7.h.get b:=fun w b hb => T.get_set_ne _ _ (Ne.symm hb)
 have old:∀ w b,b < s.nx → b ≠ cm → (s7.h.set cm w).get b = s.h.get b:=fun w b hb hne => (oth w b hne).trans (xe.keep b hb)
 have far:∀ i c,i ≠ k ∨ c < 3 → c < 5 → ((td.set (k * 5 + 3) y2).set (k * 5 + 4) z2).get (i * 5 + c) = td.get (i * 5 + c):=fun i c h hc => by
  rw [T.get_set_ne _ _ (by omega),T.get_set_ne _ _ (by omega)]
 have hlbz:∀ i,i < k → ∀ b,BlkOf (Zc i) b → LBc b:=fun i hi b hb => ((h6 i hi).lr.blk b hb).1
 refine ⟨⟨tq,(old _ cq h8.2.2.1 (Ne.symm h8.2.2.2.2)).trans h1,h1b⟩,⟨tyd,szd,_,T.get_set_same _ _ _,h3,h4,fun i hi => ?_,fun i hi => ?_⟩,fun i j b hi hj e1 e2 => ?_,⟨h8.1,h8.2.1,by show cq < s7.nx; omega,by show cm < s7.nx; omega,h8.2.2.2.2⟩,fun b hb => ?_,fun b hb => ?_,?_⟩
 ·obtain ⟨a0,a1,a2⟩:=h5 i hi
  exact ⟨(far i 0 (.inr (by omega)) (by omega)).trans a0,(far i 1 (.inr (by omega)) (by omega)).trans a1,(far i 2 (.inr (by omega)) (by omega)).trans a2⟩
 ·by_cases e:i = k
  ·subst e
   rw [if_pos rfl,if_pos rfl]
   obtain ⟨a0,a1,a2⟩:=h5 i (by omega)
   refine ⟨(far i 0 (.inr (by omega)) (by omega)).trans a0,(far i 1 (.inr (by omega)) (by omega)).trans a1,(far i 2 (.inr (by omega)) (by omega)).trans a2,?_,T.get_set_same _ _ _,?_,?_⟩
   ·rw [T.get_set_ne _ _ (by omega)]; exact T.get_set_same _ _ _
   ·have hB0:BRow s7 (fun b => BlkOf y2 b) y2 (E i).d:=⟨hy,fun b hb => hb,hyc⟩
    exact hB0.keep (Nat.le_refl _) fun b hb _ => ⟨oth _ b (by have:=hyb b hb; omega),.inr hb⟩
   ·exact hz.keep (Nat.le_refl _) fun b hb hwb => ⟨oth _ b (by omega),.inr hb⟩
  ·rw [if_neg e,if_neg e]
   obtain ⟨k0,k1,k2,k3,k4,k5,k6⟩:=h6 i (by omega)
   refine ⟨(far i 0 (.inl e) (by omega)).trans k0,(far i 1 (.inl e) (by omega)).trans k1,(far i 2 (.inl e) (by omega)).trans k2,(far i 3 (.inl e) (by omega)).trans k3,(far i 4 (.inl e) (by omega)).trans k4,?_,?_⟩
   ·exact k5.keep nle fun b _ hb => by have:=h10 b hb; exact ⟨old _ b (by omega) (by omega),.inl hb⟩
   ·exact k6.keep nle fun b _ hb => by have:=h9 b hb; exact ⟨old _ b (by omega) (by omega),.inl hb⟩
 ·have hbz:BlkOf z2 b → s.nx ≤ b:=fun h => by have:=(hz.blk b h).1; omega
  by_cases ea:i = k
  ·by_cases eb:j = k
   ·omega
   ·rw [if_pos ea] at e1
    rw [if_neg eb] at e2
    have:=hbz e1
    have:=h9 b (hlbz j (by omega) b e2)
    omega
  ·rw [if_neg ea] at e1
   have hb1:=hlbz i (by omega) b e1
   by_cases eb:j = k
   ·rw [if_pos eb] at e2
    have:=hbz e2
    have:=h9 b hb1
    omega
   ·rw [if_neg eb] at e2
    exact h7 i j b (by omega) (by omega) e1 e2
 ·show st.nx ≤ b ∧ b < s7.nx ∧ b ≠ cq ∧ b ≠ cm
  have:=h11.le
  rcases hb with hb | hb
  ·have:=h9 b hb; omega
  ·have:=hz.blk b hb; omega
 ·show st.nx ≤ b ∧ b < s7.nx ∧ b ≠ cq ∧ b ≠ cm ∧ ¬ _
  have:=h11.le
  rcases hb with hb | hb
  ·obtain ⟨c1,c2,c3,c4,c5⟩:=h10 b hb
   refine ⟨c1,by omega,c3,c4,fun h => ?_⟩
   rcases h with h | h
   ·exact c5 h
   ·have:=(hz.blk b h).1; omega
  ·have hyb':=hyb b hb
   refine ⟨by omega,by omega,by omega,by omega,fun h => ?_⟩
   rcases h with h | h
   ·have:=h9 b h; omega
   ·have:=(hz.blk b h).1; omega
 ·exact (h11.trans (xe.mono h11.le)).set h8.2.1 (by omega) _
def clI (st:St) (q m n:Nat) (x:V) (Y Z:Nat → V) (E:Tr) (e:Env) (s:St):Prop:=∃ (k cq cm:Nat) (Yc Zc:Nat → V) (LBc DBc:Nat → Prop),k ≤ n + 1 ∧ e.get 3 = some (.p cq 0) ∧ e.get 16 = some x ∧ e.get 17 = some (.int .i64 ((n + 1:Nat):Int)) ∧ e.get 18 = some (.int .i64 (k:Int)) ∧ CloAt st s cq cm n k E Yc Zc LBc DBc
theorem clone_any {st:St} {q m n B:Nat} {x:V} {Y Z:Nat → V} {E:Tr} {LB DB:Nat → Prop} (TG:TrG st q m n x Y Z E LB DB) (O:TOk n B E) (hB:B ≤ 1000000) (nt:Nat) :
  Gd (tmF ⟨false,[],0,nt⟩ 20 [.p q 0] st) (cloR st n E):=by
 rw [Gd_tmF rfl rfl Tryz.func20 rfl]
 have hn2:=O.n2
 obtain ⟨tq,hq,q0⟩:=TG.cell
 obtain ⟨ty,sz,t,hm,hro,hsz,row⟩:=TG.row
 have hlt:=TG.lt
 obtain ⟨cs,hcs,hcl⟩:∃ cs:List V,cs.length = (n + 1) * 5 ∧ ∀ j,j < (n + 1) * 5 → cs[j]? = t.get j:=by
  refine ⟨(List.range ((n + 1) * 5)).map fun j => (t.get j).getD .u,by simp,fun j hj => ?_⟩
  rw [List.getElem?_map,List.getElem?_range hj]
  obtain ⟨e1,e2,e3,e4,e5,e6,e7⟩:=row (j / 5) (by omega)
  have hsome:∃ v,t.get j = some v:=by
   rcases (show j = j / 5 * 5 ∨ j = j / 5 * 5 + 1 ∨ j = j / 5 * 5 + 2 ∨ j = j / 5 * 5 + 3 ∨ j = j / 5 * 5 + 4 by omega) with h | h | h | h | h <;> rw [h]
   ·exact ⟨_,e1⟩
   ·exact ⟨_,e2⟩
   ·exact ⟨_,e3⟩
   ·exact ⟨_,e4⟩
   ·exact ⟨_,e5⟩
  obtain ⟨v,hv⟩:=hsome
  show some ((t.get j).getD .u) = t.get j
  rw [hv]
  rfl
 have hrd:RdRow st x 5 (n + 1) cs:=by
  refine ⟨hcs,?_⟩
  rcases TG.xs with rfl | rfl
  ·exact .inr (.inl ⟨m,0,n + 1,ty,sz,t,rfl,hlt.2.1,hm,by omega,fun j v hj => by rw [Nat.zero_add,← hcl j (by have:=lt_of_get hj; omega)]; exact hj⟩)
  ·exact .inr (.inr ⟨m,0,ty,sz,t,rfl,hlt.2.1,hm,by omega,fun j v hj => by rw [Nat.zero_add,← hcl j (by have:=lt_of_get hj; omega)]; exact hj⟩)
 simp [evOp_call,sets,T.get_set,loadE_eq,getC_eq,hq,q0]
 rw [tmF_ne rfl]
 refine Gd.mono (cloneE_any st x (n + 1) cs hrd (by omega) _) ?_
 rintro ⟨r,s1⟩ ⟨_,_,hown,_,_,x1⟩
 simp only at hown x1
 obtain ⟨_,⟨_,hz⟩ | ⟨cm,tyc,tc,rfl,c1,c2,c3,c4,c5⟩⟩:=hown (by omega)
 ·omega
 have n1:=x1.le
 have hq1:=(x1.keep q hlt.1).trans hq
 have u1:¬ s1.nx = q:=by omega
 have hln:=TG.len
 have x2:=fun w => x1.new (b:=st.nx) n1 w
 simp [evOp_call,sets,T.get_set,loadE_eq,getC_eq,hq1,q0,newC_is,cellsOf,u1,hln]
 refine Gd_loop (clI st q m n x Y Z E) (fun e _ => muAt 18 (n + 1) e) ?_ ?_
 ·refine ⟨0,s1.nx,cm,Y,Z,noB,noB,Nat.zero_le _,by simp [T.get_set],by simp [T.get_set],by simp [T.get_set],by simp [T.get_set],⟨⟨_,T.get_set_same _ _ _,by simp [T.get_set]⟩,⟨tyc,_,tc,(T.get_set_ne _ _ (by omega)).trans c3,c4,Nat.le_refl _,fun i hi => ?_,fun i h => by omega⟩,fun i j b h => by omega,⟨n1,c1,Nat.lt_succ_self _,by show cm < s1.nx + 1; omega,by omega⟩,fun b hb => hb.elim,fun b hb => hb.elim,x2 _⟩⟩
  obtain ⟨e1,e2,e3,_⟩:=row i hi
  refine ⟨c5 _ _ ?_,c5 _ _ ?_,c5 _ _ ?_⟩ <;> rw [hcl _ (by omega)]
  ·exact e1
  ·exact e2
  ·exact e3
 rintro e s ⟨k,cq,cm,Yc,Zc,LBc,DBc,hk,g3,g16,g17,g18,C⟩
 have nS:=C.ext.le
 by_cases hlt0:k < n + 1
 case neg =>
  obtain rfl:k = n + 1:=by omega
  simp [evOp_call,sets,T.get_set,g3,g17,g18]
  exact C.done
 have hlt':(k:Int) < (n:Int) + 1:=by omega
 have hwk:=wrap_nat (n:=k) (by omega)
 have TGs:=TG.ext C.ext
 obtain ⟨ty2,sz2,t2,hm2,hro2,hsz2,row2⟩:=TGs.row
 obtain ⟨e1,e2,e3,e4,e5,e6,e7⟩:=row2 k (by omega)
 have hii:=fun c => TGs.idx (i:=k) (by omega) c
 have hlt2:=TGs.lt
 obtain ⟨⟨tqc,hqc,qc0⟩,⟨tyd,szd,td,hmd,hrod,hszd,rowd,rowk⟩,hap,hCl,hlb,hdb,hext⟩:=id C
 have v1:¬ s.nx = m:=by omega
 have v2:¬ s.nx = cq:=by omega
 have o1:=e6.1.one
 have o2:=e7.rd.one
 have x3:=fun w => (Ext.refl s.nx s).new (Nat.le_refl _) w
 simp [evOp_call,T.get_set,g3,g16,g17,g18,hlt',loadE_eq,getC_eq,getsB_succ,getsB_zero,hm2,e1,e2,e3,e4,e5,v1,v2,newC_is,storeK_g,putB_eq,roT,sets,cellsOf,hii,o1,o2]
 refine ⟨by kernel_rfl,?_⟩
 simp [evOp_call,T.get_set,g3,g16,g17,g18,hlt',loadE_eq,getC_eq,getsB_succ,getsB_zero,hqc,qc0,v1,v2,sets,hii,o1,o2]
 obtain ⟨s5,hs5⟩:∃ s5:St,s5 = ⟨s.nx + 1,s.h.set s.nx (.cs 92 5 (sets [.int .i64 ((E k).k:Int),.int .i64 ((E k).up:Int),.int .i64 (E k).nm,Y k,Z k] 0 (sets [.int .i64 0,.int .i64 0,.int .i64 0,.c (.slice none 0 0),.c (.slice none 0 0)] 0 .lf)))⟩:=⟨_,rfl⟩
 have x5:Ext s.nx s s5:=by rw [hs5]; exact x3 _
 have n5:s5.nx = s.nx + 1:=by rw [hs5]
 have g5:s5.h.get s.nx = some (.cs 92 5 (sets [.int .i64 ((E k).k:Int),.int .i64 ((E k).up:Int),.int .i64 (E k).nm,Y k,Z k] 0 (sets [.int .i64 0,.int .i64 0,.int .i64 0,.c (.slice none 0 0),.c (.slice none 0 0)] 0 .lf))):=by rw [hs5]; exact T.get_set_same _ _ _
 simp only [sets] at hs5 g5
 have kb:∀ b,b < s.nx → s5.h.get b = s.h.get b:=fun b hb => x5.keep b hb
 have hC:=hCl
 have hq5:=(kb cq hC.2.2.1).trans hqc
 have hm5:=(kb cm hC.2.2.2.1).trans hmd
 have TG5:=TGs.ext x5
 obtain ⟨ty5,sz5,t5,hmm5,_,_,row5⟩:=TG5.row
 obtain ⟨_,_,_,_,_,b6,b7⟩:=row5 k (by omega)
 have y6:=b6.1
 have y7:=b7.rd
 rw [← hs5]
 simp only [← n5]
 have hffb:∀ b,b < st.nx → inF [(cq,cq + 1),(cq,cq + 1),(s.nx,s.nx + 1)] b = false:=fun b h => by rw [inF_cons,if_neg (by omega),inF_cons,if_neg (by omega),inF_cons,if_neg (by omega)]; rfl
 have hffc:∀ b,b < st.nx → inF [(cq,cq + 1),(cq,cq + 1)] b = false:=fun b h => by rw [inF_cons,if_neg (by omega),inF_cons,if_neg (by omega)]; rfl
 have hYl:∀ b,BlkOf (Y k) b → b < st.nx:=fun b hb => (TG.db b (e6.2.1 b hb)).1
 have hZl:∀ b,BlkOf (Z k) b → b < st.nx:=fun b hb => (TG.lb b (e7.blk b hb).1).1
 rw [cxOf_callL [(cq,cq + 1),(cq,cq + 1),(s.nx,s.nx + 1)] (by kernel_rfl) (by kernel_rfl) (looseW_at3 25 30 5 (.p cq 0) (.p cq 0) (.p s.nx 0) (by simp [T.get_set]) (by simp [T.get_set]) (by simp [T.get_set]) (by kernel_rfl)) (fun y hy => by
  simp at hy
  subst hy
  rw [clashes_tmp']; simp [T.get_set]
  exact rd_blkF y6 fun b hb => hffb b (hYl b hb)) (fun p hp => by
   simp at hp
   rcases hp with rfl | rfl
   ·rw [isRo_cs hq5]; decide
   ·rw [isRo_cs g5]; decide),forb_nil]
 simp only [List.append_nil]
 show Gd (liftF tmK ⟨false,[(cq,cq + 1),(cq,cq + 1),(s.nx,s.nx + 1)],0,_⟩ _ _ s5) _
 refine Gd_lift (R:=fun v s' => RdRow s' v 1 (E k).d.length (yv (E k).d) ∧ (∀ b,BlkOf v b → s5.nx ≤ b ∧ b < s'.nx) ∧ CapOk v) (by
  rw [tmK_ne rfl]
  refine Gd.mono (cloneB_any (er _ s5) (Y k) (E k).d.length (yv (E k).d) (y6.er fun b hb => hffb b (hYl b hb)) (by have:=(O.dat k).2; omega) _) ?_
  rintro ⟨v,s'⟩ ⟨c1,c2,c3,c4,c5,c6⟩
  exact ⟨⟨c1,c2,c5⟩,c6⟩) ?_
 rintro y2 s5' s6 ⟨hy2,hyb2,hyc2⟩ k6 x6
 have hy2:=RdRow.sub k6 hy2
 have hyb2:∀ b,BlkOf y2 b → s5.nx ≤ b ∧ b < s6.nx:=fun b hb => by have:=hyb2 b hb; have e:=k6.nx; omega
 have hyo2:V.one y2 = true:=hy2.one
 have n6:=x6.le
 have g6:=(x6.keep s.nx (by omega)).trans g5
 have hq6:=(x6.keep cq (by omega)).trans hq5
 have hm6:=(x6.keep cm (by omega)).trans hm5
 simp [evOp_call,T.get_set,loadE_eq,getC_eq,getsB_succ,getsB_zero,g6]
 refine ⟨inF_lds (rsOf_lt (by simp) (by omega)),fun _ => ?_⟩
 have y7':RdRow s6 (Z k) 2 (E k).l.length (cellsN (E k).l):=y7.ext x6
 have r6:s6.h.get cq ≠ none:=by rw [hq6]; simp
 rw [cxOf_callL [(cq,cq + 1),(cq,cq + 1)] (by kernel_rfl) (by kernel_rfl) (looseW_at2 25 30 (.p cq 0) (.p cq 0) (by simp [T.get_set]) (by simp [T.get_set]) (by kernel_rfl)) (fun y hy => by
  simp at hy
  subst hy
  rw [clashes_tmp']; simp [T.get_set]
  exact rd_blkF y7' fun b hb => hffc b (hZl b hb)) (fun p hp => by
   simp at hp
   subst hp
   rw [isRo_cs hq6]; decide),forb_step (by kernel_rfl) rfl]
 simp only [List.append_nil]
 show Gd (liftF tmK ⟨false,[(cq,cq + 1),(cq,cq + 1)],0,_⟩ _ _ s6) _
 obtain ⟨LZ,hLZ⟩:∃ LZ:Nat → Prop,LZ = fun b => s6.nx ≤ b:=⟨_,rfl⟩
 refine Gd_lift (R:=fun v s' => NRow s' (fun b => s6.nx ≤ b) v (E k).l) (by
  rw [tmK_ne rfl]
  refine Gd.mono (cloneN_any (er _ s6) (Z k) (E k).l.length (cellsN (E k).l) (y7'.er fun b hb => hffc b (hZl b hb)) (by have:=(O.lok k).len; omega) _) ?_
  rintro ⟨v,s'⟩ ⟨c1,c2,c3,c4,c5,c6⟩
  exact ⟨clR_nrow c2 c3 c4,c6⟩) ?_
 rintro z2 s6' s7 hz2 k7 x7
 have hz2:NRow s7 (fun b => s6.nx ≤ b) z2 (E k).l:=hz2.sub k7
 have hzo2:V.one z2 = true:=hz2.rd.one
 have n7:=x7.le
 have hq7:=(x7.keep cq (by omega)).trans hq6
 have hm7:=(x7.keep cm (by omega)).trans hm6
 have hcmq:¬ cm = cq:=hC.2.2.2.2
 have hk1:k < n + 1:=hlt0
 simp [evOp_call,T.get_set,loadE_eq,getC_eq,hk1,hyo2,hzo2]
 rw [cxOf_store (by kernel_rfl),forb_step (by kernel_rfl) (forb_step (by kernel_rfl) rfl)]
 have hb1:k * 5 + 3 + 1 ≤ szd:=by omega
 have hb2:k * 5 + 4 + 1 ≤ szd:=by omega
 have hb1':k * 5 + 4 ≤ szd:=by omega
 have hb2':k * 5 + 5 ≤ szd:=by omega
 simp [evOp_call,T.get_set,sets,putB_eq,loadE_eq,getC_eq,hm7,hrod,hb1,hb1',hk1,storeK_1 hyo2,hzo2]
 rw [cxOf_store (by kernel_rfl),forb_step (by kernel_rfl) (forb_step (by kernel_rfl) rfl)]
 have hwk':=hwk
 simp [evOp_call,T.get_set,sets,putB_eq,loadE_eq,getC_eq,hrod,hb2,hb2',hk1,storeK_1 hzo2,g18,hwk]
 have hx57:=x5.trans ((x6.mono (by omega)).trans (x7.mono (by omega)))
 exact ⟨⟨k + 1,cq,cm,_,_,_,_,by omega,by simp [T.get_set,g3],by simp [T.get_set,g16],by simp [T.get_set,g17],by simp [T.get_set],C.step hlt0 hx57 hmd (hy2.ext x7) (fun b hb => by have:=hyb2 b hb; exact ⟨by omega,this.2⟩) hyc2 hz2 (by omega)⟩,muAt_lt g18 (by simp [T.get_set]) hlt0⟩
end Go.Proofs.YtgcpgidofikcdaaGreatDoor

/-
  PLAIN: TmBl, TmK, TmL, TmM, TmN, in one text.
-/
import Derived.Test.YtgcpgidofikcdaaGreatDoorTyTree
import Derived.Test.YtgcpgidofikcdaaGreatDoorTmGJ
import Derived.Test.YtgcpgidofikcdaaGreatDoorPaGa
set_option maxRecDepth 20000
set_option maxHeartbeats 16000000
set_option linter.unusedSimpArgs false
set_option linter.unusedVariables false
namespace Go.Proofs.YtgcpgidofikcdaaGreatDoor
open Go.RowKit Ev
abbrev zR:List V:=[.int .i64 0,.int .i64 0,.int .i64 0,.int .i64 0,.int .i64 0,.c (.slice none 0 0),.c (.slice none 0 0)]
@[simp] theorem bR0 (x:Operand) (v:V) (st:St) (h:v.one = true):bldK Tryz.prog 30 [(0,x)] [v] zR st = some (.g [v,.int .i64 0,.int .i64 0,.int .i64 0,.int .i64 0,.c (.slice none 0 0),.c (.slice none 0 0)],st):=by
 rw [bldK_ok so30,partsK_one rfl h (by simp)]; rfl
@[simp] theorem bR1 (x:Operand) (v:V) (st:St) (h:v.one = true):bldK Tryz.prog 30 [(1,x)] [v] zR st = some (.g [.int .i64 0,v,.int .i64 0,.int .i64 0,.int .i64 0,.c (.slice none 0 0),.c (.slice none 0 0)],st):=by
 rw [bldK_ok so30,partsK_one rfl h (by simp)]; rfl
@[simp] theorem bR14 (x y:Operand) (v w:V) (st:St) (h:v.one = true) (h':w.one = true):bldK Tryz.prog 30 [(1,x),(4,y)] [v,w] zR st = some (.g [.int .i64 0,v,.int .i64 0,.int .i64 0,w,.c (.slice none 0 0),.c (.slice none 0 0)],st):=by
 rw [bldK_ok so30,partsK_one rfl h (by simp),partsK_one rfl h' (by simp)]; rfl
@[simp] theorem bR15 (x y:Operand) (v w:V) (st:St) (h:v.one = true) (h':w.one = true):bldK Tryz.prog 30 [(1,x),(5,y)] [v,w] zR st = some (.g [.int .i64 0,v,.int .i64 0,.int .i64 0,.int .i64 0,w,.c (.slice none 0 0)],st):=by
 rw [bldK_ok so30,partsK_one rfl h (by simp),partsK_one rfl h' (by simp)]; rfl
@[simp] theorem bR16 (x y:Operand) (v w:V) (st:St) (h:v.one = true) (h':w.one = true):bldK Tryz.prog 30 [(1,x),(6,y)] [v,w] zR st = some (.g [.int .i64 0,v,.int .i64 0,.int .i64 0,.int .i64 0,.c (.slice none 0 0),w],st):=by
 rw [bldK_ok so30,partsK_one rfl h (by simp),partsK_one rfl h' (by simp)]; rfl
@[simp] theorem bR1234 (x0 x1 x2 x3:Operand) (a0 a1 a2 a3:V) (st:St) (h0:a0.one = true) (h1:a1.one = true) (h2:a2.one = true) (h3:a3.one = true):bldK Tryz.prog 30 [(1,x0),(2,x1),(3,x2),(4,x3)] [a0,a1,a2,a3] zR st = some (.g [.int .i64 0,a0,a1,a2,a3,.c (.slice none 0 0),.c (.slice none 0 0)],st):=by
 rw [bldK_ok so30,partsK_one rfl h0 (by simp),partsK_one rfl h1 (by simp),partsK_one rfl h2 (by simp),partsK_one rfl h3 (by simp)]; rfl
@[simp] theorem bW0 (x:Operand) (v:V) (st:St) (h:v.one = true):bldK Tryz.prog 252 [(0,x)] [v] [.c (.pointer none),.int .i64 0] st = some (.g [v,.int .i64 0],st):=by
 rw [bldK_ok so252,partsK_one rfl h (by simp)]; rfl
@[simp] theorem bE03 (x y:Operand) (v w:V) (st:St) (h:v.one = true) (h':w.one = true):bldK Tryz.prog 92 [(0,x),(3,y)] [v,w] [.int .i64 0,.int .i64 0,.int .i64 0,.c (.slice none 0 0),.c (.slice none 0 0)] st = some (.g [v,.int .i64 0,.int .i64 0,w,.c (.slice none 0 0)],st):=by
 rw [bldK_ok so92,partsK_one rfl h (by simp),partsK_one rfl h' (by simp)]; rfl
end Go.Proofs.YtgcpgidofikcdaaGreatDoor
set_option linter.unusedSimpArgs false
set_option linter.unusedVariables false
namespace Go.Proofs.YtgcpgidofikcdaaGreatDoor
open Go.RowKit Ev
inductive RtN (E:Tr):Nat → Nat → Prop
 | one:RtN E 0 1
 | up {k a:Nat}:a ≠ 1 → RtN E k (E a).up → RtN E (k + 1) a
theorem RtN.uniq {E:Tr} {k a:Nat} (h:RtN E k a):∀ j,RtN E j a → j = k:=by
 induction h with
 | one => intro j hj; cases hj with
  | one => rfl
  | up h _ => exact absurd rfl h
 | up h _ ih => intro j hj; cases hj with
  | one => exact absurd rfl h
  | up _ h2 => rw [ih _ h2]
theorem Rt.num {E:Tr} {a:Nat} (h:Rt E a):∃ k,RtN E k a:=by
 induction h with
 | one => exact ⟨0,.one⟩
 | @up a _ ih =>
  by_cases e:a = 1
  ·subst e; exact ⟨0,.one⟩
  ·obtain ⟨k,hk⟩:=ih; exact ⟨k + 1,.up e hk⟩
open Classical in
noncomputable def rk (E:Tr) (a:Nat):Nat:=if h:∃ k,RtN E k a then Classical.choose h else 0
theorem rk_eq {E:Tr} {k a:Nat} (h:RtN E k a):rk E a = k:=by
 have h2:∃ k,RtN E k a:=⟨k,h⟩
 unfold rk
 rw [dif_pos h2]
 exact h.uniq _ (Classical.choose_spec h2)
theorem TOk.rkLt {n B:Nat} {E:Tr} (h:TOk n B E) {a:Nat} (ha:(E a).k = 2) (h1:a ≠ 1):rk E (E a).up < rk E a:=by
 obtain ⟨k,hk⟩:=(h.chain a ha).num
 rw [rk_eq hk]
 cases hk with
 | one => exact absurd rfl h1
 | up _ h2 => rw [rk_eq h2]; exact Nat.lt_succ_self _
noncomputable def wiG (E:Tr) (e:Env):Nat:=match e.get 1 with
 | some (.c (.int _ (.ofNat c))) => rk E c
 | _ => 0
theorem wiG_eq {E:Tr} {e:Env} {c:Nat} (h:e.get 1 = some (.int .i64 (c:Int))):wiG E e = rk E c:=by unfold wiG; rw [h]
def wiI (st:St) (q i a:Nat) (E:Tr) (e:Env) (s:St):Prop:=∃ c:Nat,(E c).k = 2 ∧ e.get 0 = some (.p q 0) ∧ e.get 1 = some (.int .i64 (c:Int)) ∧ e.get 2 = some (.int .i64 (i:Int)) ∧ (Wn E i c ↔ Wn E i a) ∧ s = st
theorem wn_up {E:Tr} {i c:Nat} (h1:c ≠ i) (h2:c ≠ 1):Wn E i (E c).up ↔ Wn E i c:=by
 constructor
 ·exact fun h => .up h2 h
 ·intro h; cases h with
  | here => exact absurd rfl h1
  | up _ h => exact h
theorem wn_one {E:Tr} {i:Nat} (h1:1 ≠ i):¬ Wn E i 1:=by
 intro h
 cases h with
 | here => exact h1 rfl
 | up h _ => exact h rfl
theorem within_any {st:St} {q m n B:Nat} {x:V} {Y Z:Nat → V} {E:Tr} {LB DB:Nat → Prop} (TG:TrG st q m n x Y Z E LB DB) (O:TOk n B E) (a i:Nat) (ha:(E a).k = 2) (nt:Nat) :
  Gd (callL Tryz.prog ⟨false,[],0,nt⟩ 114 [.p q 0,.int .i64 (a:Int),.int .i64 (i:Int)] st) fun r => (∃ b:Bool,r.1 = .bool b ∧ (b = true ↔ Wn E i a)) ∧ r.2 = st:=by
 rw [Gd_callL Tryz.func114 rfl]
 have hwu:wantK true (some V.u) = false:=rfl
 have hwf:wantK false (some V.u) = false:=rfl
 obtain ⟨tq,hq,q0⟩:=TG.cell
 obtain ⟨ty,sz,t,hm,hro,hsz,row⟩:=TG.row
 simp [evOp_call,sets,T.get_set]
 refine Gd_loop (wiI st q i a E) (fun e _ => wiG E e) ?_ ?_
 ·exact ⟨a,ha,by simp [T.get_set],by simp [T.get_set],by simp [T.get_set],Iff.rfl,rfl⟩
 rintro e s ⟨c,hc,g0,g1,g2,hw,rfl⟩
 have hcn:=O.kle (i:=c) (by omega)
 obtain ⟨e1,e2,e3,e4,e5,e6,e7⟩:=row c hcn.2
 have hix:=fun k => TG.idx (i:=c) hcn.2 k
 by_cases h1:c = i
 ·have h1':(c:Int) = (i:Int):=by omega
  simp [evOp_call,T.get_set,g0,g1,g2,hwu,hwf,h1,sets]
  rw [← hw,h1]
  exact .here
 ·have h1':¬ (c:Int) = (i:Int):=by omega
  by_cases h2:c = 1
  ·subst h2
   have h3:¬ (1:Int) = (i:Int):=by omega
   simp [evOp_call,T.get_set,g0,g1,g2,hwu,hwf,h3,sets]
   rw [← hw]
   exact wn_one h1
  ·have h2':¬ (c:Int) = 1:=by omega
   have hup:=O.up1 hc
   simp [evOp_call,T.get_set,g0,g1,g2,hwu,hwf,h1',h1,h2,h2',sets,loadE_eq,getC_eq,hq,q0,hix,hm,e2]
   exact ⟨⟨(E c).up,hup.2.2,by simp [T.get_set,g0],by simp [T.get_set],by simp [T.get_set,g2],(wn_up h1 h2).trans hw,rfl⟩,by rw [wiG_eq g1,wiG_eq (c:=(E c).up) (by simp [T.get_set])]; exact O.rkLt hc h2⟩
theorem yields_any {st:St} {q m n B:Nat} {x:V} {Y Z:Nat → V} {E:Tr} {LB DB:Nat → Prop} (TG:TrG st q m n x Y Z E LB DB) (O:TOk n B E) (o i:Nat) (ho:o ≤ n) (hi:i ≤ n) (nt:Nat) :
  Gd (callL Tryz.prog ⟨false,[],0,nt⟩ 116 [.p q 0,.int .i64 (o:Int),.int .i64 (i:Int)] st) fun r => r = (.int .i64 (yieldE E o i),st):=by
 rw [Gd_callL Tryz.func116 rfl]
 have hwu:wantK true (some V.u) = false:=rfl
 have hwf:wantK false (some V.u) = false:=rfl
 obtain ⟨tq,hq,q0⟩:=TG.cell
 obtain ⟨ty,sz,t,hm,hro,hsz,row⟩:=TG.row
 obtain ⟨e1,e2,e3,e4,e5,e6,e7⟩:=row o ho
 obtain ⟨f1,f2,f3,f4,f5,f6,f7⟩:=row i hi
 have hio:=fun k => TG.idx ho k
 have hii:=fun k => TG.idx hi k
 have hln:=e7.rd.lenS
 unfold yieldE
 by_cases c0:o = 0
 ·subst c0
  simp [evOp_call,sets,T.get_set]
 have c0':¬ (o:Int) = 0:=by omega
 by_cases c1:o = 2
 ·subst c1
  simp [evOp_call,sets,T.get_set,loadE_eq,getC_eq,hq,q0,hii,hm,f1]
 have c1':¬ (o:Int) = 2:=by omega
 have k1:((E o).k:Int) = 2 ↔ (E o).k = 2:=by omega
 have k2:((E i).k:Int) = 2 ↔ (E i).k = 2:=by omega
 by_cases ko:(E o).k = 2
 ·by_cases ki:(E i).k = 2
  ·by_cases hl:(E o).l = []
   ·have hl0:(E o).l.length = 0:=by rw [hl]; rfl
    simp [evOp_call,sets,T.get_set,loadE_eq,getC_eq,hq,q0,hio,hii,hm,e1,f1,e5,hln,hwu,hwf,c0,c0',c1,c1',ko,ki,hl,hl0]
   ·have hl0:0 < (E o).l.length:=List.length_pos_iff.2 hl
    simp [evOp_call,sets,T.get_set,loadE_eq,getC_eq,hq,q0,hio,hii,hm,e1,f1,e5,hln,hwu,hwf,c0,c0',c1,c1',ko,ki,hl,hl0]
  ·simp [evOp_call,sets,T.get_set,loadE_eq,getC_eq,hq,q0,hio,hii,hm,e1,f1,e5,hln,hwu,hwf,c0,c0',c1,c1',ko,ki,k2]
 ·by_cases ki:(E i).k = 2
  ·simp [evOp_call,sets,T.get_set,loadE_eq,getC_eq,hq,q0,hio,hii,hm,e1,f1,e5,hln,hwu,hwf,c0,c0',c1,c1',ko,ki,k1]
  ·have hl:=O.lst o ko
   have hl0:(E o).l.length = 0:=by rw [hl]; rfl
   simp [evOp_call,sets,T.get_set,loadE_eq,getC_eq,hq,q0,hio,hii,hm,e1,f1,e5,hln,hwu,hwf,c0,c0',c1,c1',ko,ki,k1,k2,hl,hl0]
abbrev resV (err:Int) (node ty:Nat) (links:Int) (size:Nat) (y z:V):V:=.g [.int .i64 err,.int .i64 (node:Int),.int .i64 (ty:Int),.int .i64 links,.int .i64 (size:Int),y,z]
theorem refuse_any (st:St) (err:Int) (nt:Nat) :
  Gd (callL Tryz.prog ⟨false,[],0,nt⟩ 53 [.int .i64 err] st) fun r => r.1 = resV err 0 0 0 0 (.c (.slice none 0 0)) (.c (.slice none 0 0)) ∧ Ext st.nx st r.2:=by
 rw [Gd_callL Tryz.func53 rfl]
 simp [evOp_call,sets,T.get_set,newC_is,cellsOf,loadE_eq,getC_eq,getsB_succ,getsB_zero,storeK_g,putB_eq,roT]
 exact (Ext.refl _ _).new (Nat.le_refl _) _
end Go.Proofs.YtgcpgidofikcdaaGreatDoor
set_option linter.unusedSimpArgs false
set_option linter.unusedVariables false
namespace Go.Proofs.YtgcpgidofikcdaaGreatDoor
open Go.RowKit Ev
theorem bytesOf_yv {β:Type}:∀ (B:Tx) (k:List Nat → Option β),okS B → bytesOfAs (yv B) k = k B
 | [],k,_ => rfl
 | b :: B,k,h => by
  have hn:Nat.blt b 256 = true:=by
   have:=h b (by simp)
   rw [Nat.blt_eq]; omega
  have e:bytesOfAs (yv (b :: B)) k = (match Nat.blt b 256 with | true => bytesOfAs (yv B) fun r => k (b :: r) | false => none):=rfl
  rw [e,hn]
  exact bytesOf_yv B _ fun b hb => h b (by simp [hb])
theorem firsts_c {β:Type} {c:Cx} {st:St} {z n:Nat} {x:V} {l:List V} (h:RdRow st x z n l) (hok:∀ m,BlkOf x m → c.ok m = true) (k:List V → Option β):firsts c st z n x k = k l:=by
 obtain ⟨h1,h2⟩:=h
 rcases h2 with ⟨hx,rfl⟩ | ⟨m,o,q,ty,sz,t,rfl,_,h4,_,h6⟩ | ⟨m,o,ty,sz,t,rfl,_,h4,_,h6⟩
 ·have hl:l = []:=List.eq_nil_of_length_eq_zero (by rw [h1]; simp)
  subst hl
  rcases hx with rfl | rfl <;> rfl
 ·rw [firsts_sl,if_pos (Nat.le_refl _),getC_eq,h4]
  simp only [hok m (.inl ⟨_,_,_,rfl⟩),cond_true,Option.bind_some,csK_cs]
  rw [← h1]
  exact getsB_list h6 k
 ·have e1:Ev.firsts c st z n (.sg m o n z) k = (match Nat.ble n n with | true => getC c st m fun t => getsB t (n * z) o k | false => none):=rfl
  have e2:Nat.ble n n = true:=by rw [Nat.ble_eq]; exact Nat.le_refl _
  rw [e1,e2]
  simp only
  rw [getC_eq,h4]
  simp only [hok m (.inr ⟨_,_,_,rfl⟩),cond_true,Option.bind_some,csK_cs]
  rw [← h1]
  exact getsB_list h6 k
theorem conv_bytes {c:Cx} {st:St} {x:V} {B:Tx} (hx:RdRow st x 1 B.length (yv B)) (hb:okS B) (hok:∀ m,BlkOf x m → c.ok m = true):convE Tryz.prog c st 27 9 x = some (.s B,st):=by
 have h2:=hx.2
 have e:convE Tryz.prog c st 27 9 x = lenA x fun len => firsts c st 1 len x fun l => bytesOfAs l fun l => some (.s l,st):=by
  unfold convE
  rw [un27,un9]
  rcases h2 with ⟨rfl | rfl,_⟩ | ⟨m,o,q,ty,sz,t,rfl,_⟩ | ⟨m,o,ty,sz,t,rfl,_⟩ <;> (simp only [un5]; rfl)
 rw [e,hx.len,firsts_c hx hok,bytesOf_yv B _ hb]
theorem walk_h8 (E:Tr):∀ (m hp a:Nat) (ps:List Tx) (last:Bool),9 - hp ≤ m → hp ≤ 8 → (walk E hp a ps last).2.2 = 0 → (walk E hp a ps last).1 ≤ 8:=by
 intro m
 induction m with
 | zero => intro hp a ps last h1 h2; omega
 | succ m ihm =>
  intro hp a ps
  induction ps generalizing hp a with
  | nil => intro last _ h2 _; rw [walk_nil]; exact h2
  | cons p ps ih =>
   intro last h1 h2
   rw [walk_cons]
   split
   ·intro h; cases h
   split
   ·exact ih _ _ last h1 h2
   split
   ·intro h; cases h
   split
   ·split
    ·rename_i c; intro h; exact absurd h c
    ·rename_i c
     have c5:(follE E hp a (findE E a p)).2.2 = 0:=by omega
     have hfl:=follE_le E hp a (findE E a p)
     have hf8:(follE E hp a (findE E a p)).1 ≤ 8:=by
      unfold follE at c5 ⊢
      split at c5
      ·cases c5
      rename_i c6
      rw [if_neg c6]
      split at c5
      ·rename_i c7; exact absurd c5 c7
      rename_i c7
      rw [if_neg c7]
      exact ihm (hp + 1) _ _ _ (by omega) (by omega) c5
     exact ihm _ _ ps last (by omega) hf8
   ·exact ih _ _ last h1 h2
theorem follE_h8 (E:Tr) (h a i:Nat) (h8:h ≤ 8) (he:(follE E h a i).2.2 = 0):(follE E h a i).1 ≤ 8:=by
 unfold follE at he ⊢
 split at he
 ·cases he
 rename_i c6
 rw [if_neg c6]
 split at he
 ·rename_i c7; exact absurd he c7
 rename_i c7
 rw [if_neg c7]
 exact walk_h8 E 9 _ _ _ _ (by omega) (by omega) he
structure WkAt (s:St) (wq q h:Nat):Prop where
 lt:wq < s.nx
 cell:∃ t,s.h.get wq = some (.cs 252 2 t) ∧ t.get 0 = some (.p q 0) ∧ t.get 1 = some (.int .i64 (h:Int))
structure FrW (st s:St) (wq:Nat):Prop where
 le:st.nx ≤ s.nx
 wf:Wf st → Wf s
 keep:∀ b,b < st.nx → b ≠ wq → s.h.get b = st.h.get b
theorem FrW.refl (s:St) (wq:Nat):FrW s s wq:=⟨Nat.le_refl _,id,fun _ _ _ => rfl⟩
theorem FrW.trans {s1 s2 s3:St} {wq:Nat} (h:FrW s1 s2 wq) (k:FrW s2 s3 wq):FrW s1 s3 wq:=⟨Nat.le_trans h.le k.le,fun w => k.wf (h.wf w),fun b hb hn => (k.keep b (Nat.lt_of_lt_of_le hb h.le) hn).trans (h.keep b hb hn)⟩
theorem FrW.ext {s1 s2:St} (wq:Nat) (h:Ext s1.nx s1 s2):FrW s1 s2 wq:=⟨h.le,h.wf,fun b hb _ => h.keep b hb⟩
theorem WkAt.ext {s1 s2:St} {wq q h:Nat} (w:WkAt s1 wq q h) (k:Ext s1.nx s1 s2):WkAt s2 wq q h:=by
 obtain ⟨h1,t,h2,h3⟩:=w
 exact ⟨Nat.lt_of_lt_of_le h1 k.le,t,(k.keep _ h1).trans h2,h3⟩
def Off (q m:Nat) (LB DB:Nat → Prop) (b:Nat):Prop:=b ≠ q ∧ b ≠ m ∧ ¬ LB b ∧ ¬ DB b
theorem TrG.keepW {s s':St} {q m n wq:Nat} {x:V} {Y Z:Nat → V} {E:Tr} {LB DB:Nat → Prop} (h:TrG s q m n x Y Z E LB DB) (k:FrW s s' wq) (ho:Off q m LB DB wq):TrG s' q m n x Y Z E LB DB :=
 h.keep k.le fun b hb => by
  rcases hb with rfl | rfl | hb | hb
  ·exact k.keep b h.lt.1 (Ne.symm ho.1)
  ·exact k.keep b h.lt.2.1 (Ne.symm ho.2.1)
  ·exact k.keep b (h.lb b hb).1 (fun e => ho.2.2.1 (e ▸ hb))
  ·exact k.keep b (h.db b hb).1 (fun e => ho.2.2.2 (e ▸ hb))
theorem RdRow.keepW {s s':St} {y:V} {z k wq:Nat} {l:List V} (h:RdRow s y z k l) (f:FrW s s' wq) (hb:∀ b,BlkOf y b → b ≠ wq):RdRow s' y z k l:=by
 obtain ⟨h1,h2⟩:=h
 refine ⟨h1,?_⟩
 have:=f.le
 rcases h2 with h2 | ⟨m,o,q,ty,sz,t,rfl,h4,h5,h6⟩ | ⟨m,o,ty,sz,t,rfl,h4,h5,h6⟩
 ·exact .inl h2
 ·exact .inr (.inl ⟨m,o,q,ty,sz,t,rfl,by omega,(f.keep m h4 (hb m (.inl ⟨_,_,_,rfl⟩))).trans h5,h6⟩)
 ·exact .inr (.inr ⟨m,o,ty,sz,t,rfl,by omega,(f.keep m h4 (hb m (.inr ⟨_,_,_,rfl⟩))).trans h5,h6⟩)
def FromOk (k q m n:Nat) (x:V) (Y Z:Nat → V) (E:Tr) (LB DB:Nat → Prop):Prop:=∀ (st:St) (wq h a:Nat) (y:V) (ps:List Tx) (last:Bool) (nt:Nat),9 - h ≤ k → h ≤ 8 → TrG st q m n x Y Z E LB DB → WkAt st wq q h → Off q m LB DB wq → 1 ≤ a → a ≤ n → RdRow st y 1 ps.length (sv ps) → (∀ b,BlkOf y b → b ≠ wq) → (∀ p ∈ ps,okS p) → ps.length ≤ 1000 →
 Gd (callL Tryz.prog ⟨false,[],0,nt⟩ 179 [.p wq 0,.int .i64 (a:Int),y,.bool last] st) fun r => r.1 = .t [.int .i64 ((walk E h a ps last).2.1:Int),.int .i64 (walk E h a ps last).2.2] ∧ WkAt r.2 wq q (walk E h a ps last).1 ∧ FrW st r.2 wq
theorem errS_len {s:Tx} (h:errS s = 0):(parS s).length ≤ 1000:=by
 have h1:=(errS_zero h).2.1
 have h2:=par_len s
 omega
theorem follow_of {k q m n B:Nat} {x:V} {Y Z:Nat → V} {E:Tr} {LB DB:Nat → Prop} (O:TOk n B E) (hF:FromOk k q m n x Y Z E LB DB) (st:St) (wq h a i:Nat) (nt:Nat) (hk:9 - (h + 1) ≤ k) (h8:h ≤ 8) (TG:TrG st q m n x Y Z E LB DB) (W:WkAt st wq q h) (ho:Off q m LB DB wq) (ha:1 ≤ a ∧ a ≤ n) (hi:i ≤ n) :
  Gd (callL Tryz.prog ⟨false,[],0,nt⟩ 231 [.p wq 0,.int .i64 (a:Int),.int .i64 (i:Int)] st) fun r => r.1 = .t [.int .i64 ((follE E h a i).2.1:Int),.int .i64 (follE E h a i).2.2] ∧ WkAt r.2 wq q (follE E h a i).1 ∧ FrW st r.2 wq:=by
 rw [Gd_callL Tryz.func231 rfl]
 obtain ⟨hw,t0,w0,w1,w2⟩:=W
 have hwh:IntKind.i64.wrap ((h:Int) + 1) = ((h + 1:Nat):Int):=wrap_in (by omega) (by omega)
 have hk1:FrW st ⟨st.nx,st.h.set wq (.cs 252 2 (t0.set 1 (.int .i64 ((h + 1:Nat):Int))))⟩ wq:=⟨Nat.le_refl _,fun w b hb => by
  have hb':st.nx ≤ b:=hb
  exact (T.get_set_ne _ _ (by omega)).trans (w b hb),fun b hb hn => T.get_set_ne _ _ (Ne.symm hn)⟩
 have TG1:=TG.keepW hk1 ho
 obtain ⟨st1,hst1⟩:∃ s:St,s = ⟨st.nx,st.h.set wq (.cs 252 2 (t0.set 1 (.int .i64 ((h + 1:Nat):Int))))⟩:=⟨_,rfl⟩
 have gw1:st1.h.get wq = some (.cs 252 2 (t0.set 1 (.int .i64 ((h + 1:Nat):Int)))):=by rw [hst1]; exact T.get_set_same _ _ _
 have W1:WkAt st1 wq q (h + 1):=⟨by rw [hst1]; exact hw,_,gw1,by rw [T.get_set_ne _ _ (by decide)]; exact w1,T.get_set_same _ _ _⟩
 simp [evOp_call,sets,T.get_set,loadE_eq,getC_eq,w0,w1,w2,hwh,putB_eq,roT]
 rw [← hst1] at TG1 hk1
 simp only [Int.natCast_add,Int.cast_ofNat_Int] at hst1
 rw [← hst1]
 by_cases c8:8 ≤ h
 ·have c8':(8:Int) < (h:Int) + 1:=by omega
  have hfe:follE E h a i = (h + 1,0,11):=if_pos c8
  simp [evOp_call,sets,T.get_set,loadE_eq,getC_eq,gw1,w1,c8',hfe]
  exact ⟨W1,hk1⟩
 have c8':¬ (8:Int) < (h:Int) + 1:=by omega
 obtain ⟨tq,hq,q0⟩:=TG1.cell
 obtain ⟨ty,sz,t,hm,hro,hsz,row⟩:=TG1.row
 obtain ⟨e1,e2,e3,e4,e5,e6,e7⟩:=row i hi
 have hix:=fun k => TG1.idx hi k
 have hcv:∀ nt,convE Tryz.prog ⟨false,[],0,nt⟩ st1 27 9 (Y i) = some (.s (E i).d,st1):=fun nt => conv_bytes e6.1 (O.dat i).1 fun _ _ => rfl
 simp [evOp_call,sets,T.get_set,loadE_eq,getC_eq,gw1,w1,c8',hq,q0,hix,hm,e4,hcv]
 refine Gd.mono (psplit_any st1 (E i).d (O.dat i).1 _) ?_
 rintro ⟨r,s2⟩ ⟨y,hr,hy,x2⟩
 simp only at hr hy x2
 subst hr
 by_cases c9:errS (E i).d = 0
 rotate_left
 ·have hfe:follE E h a i = (h + 1,0,errS (E i).d):=by unfold follE; rw [if_neg c8,if_pos c9]
  simp [evOp_call,sets,T.get_set,tupK,c9,hfe]
  exact ⟨W1.ext x2,hk1.trans (FrW.ext wq x2)⟩
 have hfe:follE E h a i = walk E (h + 1) (if (E i).d.head? = some 47 then 1 else a) (parS (E i).d) true:=by unfold follE; rw [if_neg c8,if_neg (by simpa using c9)]
 have hpe:pErr (E i).d = parS (E i).d:=if_pos c9
 rw [hpe] at hy
 have hne:=(errS_zero c9).1
 obtain ⟨b0,d',hd⟩:∃ b0 d',(E i).d = b0 :: d':=by
  cases hh:(E i).d with
  | nil => exact absurd hh hne
  | cons b0 d' => exact ⟨b0,d',rfl⟩
 have hyb:∀ b,BlkOf y b → b ≠ wq:=fun b hb => by
  have hlt:=W1.lt
  obtain ⟨_,⟨rfl,_⟩ | ⟨mm,tt,tr,rfl,h5,_⟩⟩:=hy
  ·rcases hb with ⟨_,_,_,e⟩ | ⟨_,_,_,e⟩ <;> cases e
  ·rcases hb with ⟨_,_,_,e⟩ | ⟨_,_,_,e⟩
   ·cases e
   ·injection e with e; omega
 have hix0:∀ st:St,indexK Tryz.prog st 9 (.s (E i).d) 0 = some (.int .u8 (b0:Int),st):=fun st => indexK_str un9 _ _ _ (by rw [hd]; rfl)
 have n1:=O.n2
 by_cases c10:b0 = 47
 ·have hh:(E i).d.head? = some 47:=by rw [hd,c10]; rfl
  rw [if_pos hh] at hfe
  have c10':(b0:Int) = 47:=by omega
  simp [evOp_call,sets,T.get_set,tupK,c9,hix0,c10,c10']
  refine Gd.mono (hF s2 wq (h + 1) 1 y (parS (E i).d) true _ hk (by omega) (TG1.ext x2) (W1.ext x2) ho (Nat.le_refl _) (by omega) hy.rd hyb (fun p hp => ok_par (O.dat i).1 hp) (errS_len c9)) ?_
  rintro ⟨r,s3⟩ ⟨hr,W3,f3⟩
  simp only at hr W3 f3
  subst hr
  simp [evOp_call,sets,T.get_set,tupK,hfe]
  exact ⟨W3,(hk1.trans (FrW.ext wq x2)).trans f3⟩
 ·have hh:¬ (E i).d.head? = some 47:=by rw [hd]; intro e; injection e with e; exact c10 e
  rw [if_neg hh] at hfe
  have c10':¬ (b0:Int) = 47:=by omega
  simp [evOp_call,sets,T.get_set,tupK,c9,hix0,c10,c10']
  refine Gd.mono (hF s2 wq (h + 1) a y (parS (E i).d) true _ hk (by omega) (TG1.ext x2) (W1.ext x2) ho ha.1 ha.2 hy.rd hyb (fun p hp => ok_par (O.dat i).1 hp) (errS_len c9)) ?_
  rintro ⟨r,s3⟩ ⟨hr,W3,f3⟩
  simp only at hr W3 f3
  subst hr
  simp [evOp_call,sets,T.get_set,tupK,hfe]
  exact ⟨W3,(hk1.trans (FrW.ext wq x2)).trans f3⟩
end Go.Proofs.YtgcpgidofikcdaaGreatDoor
set_option linter.unusedSimpArgs false
set_option linter.unusedVariables false
namespace Go.Proofs.YtgcpgidofikcdaaGreatDoor
open Go.RowKit Ev
def frI (st:St) (wq q n h a:Nat) (y:V) (ps:List Tx) (last:Bool) (E:Tr) (e:Env) (s:St):Prop:=∃ i h2 a2:Nat,i ≤ ps.length ∧ e.get 0 = some (.p wq 0) ∧ e.get 1 = some (.int .i64 (a2:Int)) ∧ e.get 2 = some y ∧ e.get 3 = some (.bool last) ∧ e.get 14 = some y ∧ e.get 15 = some (.int .i64 (ps.length:Int)) ∧ e.get 16 = some (.int .i64 (i:Int)) ∧ h ≤ h2 ∧ h2 ≤ 8 ∧ 1 ≤ a2 ∧ a2 ≤ n ∧ walk E h a ps last = walk E h2 a2 (ps.drop i) last ∧ WkAt s wq q h2 ∧ FrW st s wq
theorem from_step {k q m n B:Nat} {x:V} {Y Z:Nat → V} {E:Tr} {LB DB:Nat → Prop} (O:TOk n B E) (hB:B ≤ 1000000) (hF:∀ k',k' < k → FromOk k' q m n x Y Z E LB DB):FromOk k q m n x Y Z E LB DB:=by
 intro st wq h a y ps last nt hk h8 TG0 W0 ho ha1 han hy hyb hps hpl
 rw [Gd_callL Tryz.func179 rfl]
 have hwu:wantK true (some V.u) = false:=rfl
 have hwf:wantK false (some V.u) = false:=rfl
 simp [evOp_call,sets,T.get_set,hy.lenS]
 refine Gd_loop (frI st wq q n h a y ps last E) (fun e _ => muAt 16 ps.length e) ?_ ?_
 ·exact ⟨0,h,a,Nat.zero_le _,by simp [T.get_set],by simp [T.get_set],by simp [T.get_set],by simp [T.get_set],by simp [T.get_set],by simp [T.get_set],by simp [T.get_set],Nat.le_refl _,h8,ha1,han,by rw [List.drop_zero],W0,FrW.refl _ _⟩
 rintro e s ⟨i,h2,a2,hi,g0,g1,g2,g3,g14,g15,g16,hh,hh8,ha2,ha2n,hwk,W,fw⟩
 have TG:=TG0.keepW fw ho
 have hys:=RdRow.keepW hy fw hyb
 by_cases hlt:i < ps.length
 rotate_left
 ·obtain rfl:i = ps.length:=by omega
  rw [List.drop_length,walk_nil] at hwk
  simp [evOp_call,T.get_set,g0,g1,g2,g3,g14,g15,g16,sets]
  exact ⟨⟨by rw [hwk] <;> rfl,by rw [hwk] <;> rfl⟩,by rw [hwk]; exact W,fw⟩
 have hlt':(i:Int) < (ps.length:Int):=by omega
 have hwi:=wrap_nat (n:=i) (by omega)
 have hwl:IntKind.i64.wrap ((ps.length:Int) - 1) = (ps.length:Int) - 1:=wrap_in (by omega) (by omega)
 obtain ⟨p,hp⟩:∃ p,ps[i]? = some p:=⟨_,List.getElem?_eq_getElem hlt⟩
 have hpok:okS p:=hps p (List.mem_of_getElem? hp)
 have hdr:ps.drop i = p :: ps.drop (i + 1):=by
  rw [List.drop_eq_getElem_cons hlt]
  rw [List.getElem?_eq_getElem hlt] at hp
  injection hp with hp
  rw [hp]
 rw [hdr,walk_cons] at hwk
 obtain ⟨m1,o1,ty1,sz1,tr1,i1,b1,k1,l1,c1⟩:=hys.idx (st:=s) un28 io9 hlt
 have d1:tr1.get o1 = some (.s p):=c1 0 _ (by omega) (by simpa using sv_get hp)
 obtain ⟨tq,hq,q0⟩:=TG.cell
 obtain ⟨ty,sz,t,hm,hro,hsz,row⟩:=TG.row
 obtain ⟨e1,e2,e3,e4,e5,e6,e7⟩:=row a2 ha2n
 have hix:=fun k => TG.idx ha2n k
 have W':=W
 obtain ⟨hwlt,t0,w0,w1,w2⟩:=W'
 by_cases ck:(E a2).k = 2
 rotate_left
 ·have ck':¬ ((E a2).k:Int) = 2:=by omega
  rw [if_pos ck] at hwk
  simp [evOp_call,T.get_set,g0,g1,g2,g3,g14,g15,g16,sets,hlt',i1,loadE_eq,getC_eq,k1,d1,w0,w1,hq,q0,hix,hm,e1,ck,ck']
  exact ⟨⟨by rw [hwk] <;> rfl,by rw [hwk] <;> rfl⟩,by rw [hwk]; exact W,fw⟩
 rw [if_neg (by simpa using ck)] at hwk
 have hup:=O.up1 ck
 by_cases cd:p = dots
 ·rw [if_pos cd] at hwk
  have cd':p = [46,46]:=cd
  simp [evOp_call,T.get_set,g0,g1,g2,g3,g14,g15,g16,sets,hlt',i1,loadE_eq,getC_eq,k1,d1,w0,w1,hq,q0,hix,hm,e1,e2,ck,cd',hwi]
  exact ⟨⟨i + 1,h2,(E a2).up,hlt,by simp [T.get_set,g0],by simp [T.get_set],by simp [T.get_set,g2],by simp [T.get_set,g3],by simp [T.get_set,g14],by simp [T.get_set,g15],by simp [T.get_set],hh,hh8,hup.1,hup.2.1,hwk,W,fw⟩,muAt_lt g16 (by simp [T.get_set]) hlt⟩
 rw [if_neg cd] at hwk
 have cd':¬ p = [46,46]:=cd
 simp [evOp_call,T.get_set,g0,g1,g2,g3,g14,g15,g16,sets,hlt',i1,loadE_eq,getC_eq,k1,d1,w0,w1,hq,q0,hix,hm,e1,e2,ck,cd',hwi]
 refine Gd.mono (find_any TG O hB a2 ha2n p hpok _) ?_
 rintro ⟨r,s2⟩ ⟨hr,x2⟩
 simp only at hr x2
 subst hr
 have fw2:=fw.trans (FrW.ext wq x2)
 have TG2:=TG.ext x2
 have W2:=W.ext x2
 obtain ⟨f,hf⟩:∃ f,f = findE E a2 p:=⟨_,rfl⟩
 rw [← hf] at hwk ⊢
 by_cases c0:f = 0
 ·rw [if_pos c0] at hwk
  simp [evOp_call,T.get_set,g0,g1,g2,g3,g14,g15,g16,sets,c0]
  exact ⟨⟨by rw [hwk] <;> rfl,by rw [hwk] <;> rfl⟩,by rw [hwk]; exact W2,fw2⟩
 rw [if_neg c0] at hwk
 have c0':¬ (f:Int) = 0:=by omega
 have hfn:f ≤ n:=by rw [hf]; exact (O.find a2 p).1
 obtain ⟨tq2,hq2,q02⟩:=TG2.cell
 obtain ⟨ty2,sz2,t2,hm2,hro2,hsz2,row2⟩:=TG2.row
 obtain ⟨f1,f2,f3,f4,f5,f6,f7⟩:=row2 f hfn
 have hix2:=fun k => TG2.idx hfn k
 obtain ⟨hwlt2,t02,w02,w12,w22⟩:=id W2
 have hdn:(ps.drop (i + 1) ≠ []) ↔ (i:Int) < (ps.length:Int) - 1:=by
  rw [Ne,List.drop_eq_nil_iff]; omega
 have go:∀ (en:Env) (h3 f':Nat) (s3:St),1 ≤ f' → f' ≤ n → h ≤ h3 → h3 ≤ 8 → walk E h a ps last = walk E h3 f' (ps.drop (i + 1)) last → WkAt s3 wq q h3 → FrW st s3 wq → en.get 0 = some (.p wq 0) → en.get 1 = some (.int .i64 (f':Int)) → en.get 2 = some y → en.get 3 = some (.bool last) → en.get 14 = some y → en.get 15 = some (.int .i64 (ps.length:Int)) → en.get 16 = some (.int .i64 ((i + 1:Nat):Int)) → frI st wq q n h a y ps last E en s3 ∧ muAt 16 ps.length en < muAt 16 ps.length e:=fun en h3 f' s3 q1 q2 q3 q4 q5 q6 q7 z0 z1 z2 z3 z14 z15 z16 =>
  ⟨⟨i + 1,h3,f',hlt,z0,z1,z2,z3,z14,z15,z16,q3,q4,q1,q2,q5,q6,q7⟩,muAt_lt g16 z16 hlt⟩
 by_cases cl:(E f).k = 3 ∧ (last = true ∨ ps.drop (i + 1) ≠ [])
 ·rw [if_pos cl] at hwk
  have fol:∀ nt,Gd (callL Tryz.prog ⟨false,[],0,nt⟩ 231 [.p wq 0,.int .i64 (a2:Int),.int .i64 (f:Int)] s2) fun r => r.1 = .t [.int .i64 ((follE E h2 a2 f).2.1:Int),.int .i64 (follE E h2 a2 f).2.2] ∧ WkAt r.2 wq q (follE E h2 a2 f).1 ∧ FrW s2 r.2 wq:=fun nt =>
   follow_of O (hF (9 - (h2 + 1)) (by omega)) s2 wq h2 a2 f nt (Nat.le_refl _) hh8 TG2 W2 ho ⟨ha2,ha2n⟩ hfn
  have rest:∀ s3,WkAt s3 wq q (follE E h2 a2 f).1 → FrW s2 s3 wq → (follE E h2 a2 f).2.2 = 0 → 1 ≤ (follE E h2 a2 f).2.1 ∧ (follE E h2 a2 f).2.1 ≤ n ∧ h ≤ (follE E h2 a2 f).1 ∧ (follE E h2 a2 f).1 ≤ 8:=fun s3 W3 f3 he => by
   have q1:=follE_le E h2 a2 f
   have q2:=follE_h8 E h2 a2 f hh8 he
   have:1 ≤ (follE E h2 a2 f).2.1 ∧ (follE E h2 a2 f).2.1 ≤ n:=by
    unfold follE at he ⊢
    split at he
    ·cases he
    rename_i c6
    rw [if_neg c6]
    split at he
    ·rename_i c7; exact absurd he c7
    rename_i c7
    rw [if_neg c7]
    have n2:=O.n2
    have h1':1 ≤ (if (E f).d.head? = some 47 then 1 else a2) ∧ (if (E f).d.head? = some 47 then 1 else a2) ≤ n:=by split <;> omega
    have:=O.walk 9 (h2 + 1) _ (parS (E f).d) true (by omega) h1'.1 h1'.2
    exact ⟨this.2.1 he,this.1⟩
   exact ⟨this.1,this.2,by omega,q2⟩
  have tail:∀ r:V × St,(r.1 = .t [.int .i64 ((follE E h2 a2 f).2.1:Int),.int .i64 (follE E h2 a2 f).2.2] ∧ WkAt r.2 wq q (follE E h2 a2 f).1 ∧ FrW s2 r.2 wq) → ∃ s3,r = (.t [.int .i64 ((follE E h2 a2 f).2.1:Int),.int .i64 (follE E h2 a2 f).2.2],s3) ∧ WkAt s3 wq q (follE E h2 a2 f).1 ∧ FrW s2 s3 wq:=fun r hr => ⟨r.2,by rw [← hr.1],hr.2⟩
  have clk:((E f).k:Int) = 3:=by omega
  by_cases cla:last = true
  ·subst cla
   simp [evOp_call,T.get_set,g0,g1,g2,g3,g14,g15,g16,sets,c0,c0',loadE_eq,getC_eq,w02,w12,hq2,q02,hix2,hm2,f1,clk,hwu,hwf]
   refine Gd.mono (fol _) ?_
   intro r hr
   obtain ⟨s3,rfl,W3,f3⟩:=tail r hr
   by_cases ce:(follE E h2 a2 f).2.2 = 0
   ·rw [if_neg (by simpa using ce)] at hwk
    obtain ⟨q1,q2,q3,q4⟩:=rest s3 W3 f3 ce
    simp [evOp_call,T.get_set,g0,g1,g2,g3,g14,g15,g16,sets,tupK,ce,hwi]
    exact go _ _ _ _ q1 q2 q3 q4 hwk W3 (fw2.trans f3) (by simp [T.get_set,g0]) (by simp [T.get_set]) (by simp [T.get_set,g2]) (by simp [T.get_set,g3]) (by simp [T.get_set,g14]) (by simp [T.get_set,g15]) (by simp [T.get_set])
   ·rw [if_pos ce] at hwk
    simp [evOp_call,T.get_set,g0,g1,g2,g3,g14,g15,g16,sets,tupK,ce,hwi]
    exact ⟨⟨by rw [hwk] <;> rfl,by rw [hwk] <;> rfl⟩,by rw [hwk]; exact W3,fw2.trans f3⟩
  ·obtain rfl:last = false:=by simpa using cla
   have cli:(i:Int) < (ps.length:Int) - 1:=hdn.1 (by rcases cl.2 with h | h; exact absurd h cla; exact h)
   simp [evOp_call,T.get_set,g0,g1,g2,g3,g14,g15,g16,sets,c0,c0',loadE_eq,getC_eq,w02,w12,hq2,q02,hix2,hm2,f1,clk,hwu,hwf,hy.lenS,hwl,cli]
   refine Gd.mono (fol _) ?_
   intro r hr
   obtain ⟨s3,rfl,W3,f3⟩:=tail r hr
   by_cases ce:(follE E h2 a2 f).2.2 = 0
   ·rw [if_neg (by simpa using ce)] at hwk
    obtain ⟨q1,q2,q3,q4⟩:=rest s3 W3 f3 ce
    simp [evOp_call,T.get_set,g0,g1,g2,g3,g14,g15,g16,sets,tupK,ce,hwi]
    exact go _ _ _ _ q1 q2 q3 q4 hwk W3 (fw2.trans f3) (by simp [T.get_set,g0]) (by simp [T.get_set]) (by simp [T.get_set,g2]) (by simp [T.get_set,g3]) (by simp [T.get_set,g14]) (by simp [T.get_set,g15]) (by simp [T.get_set])
   ·rw [if_pos ce] at hwk
    simp [evOp_call,T.get_set,g0,g1,g2,g3,g14,g15,g16,sets,tupK,ce,hwi]
    exact ⟨⟨by rw [hwk] <;> rfl,by rw [hwk] <;> rfl⟩,by rw [hwk]; exact W3,fw2.trans f3⟩
 ·rw [if_neg cl] at hwk
  have q1:1 ≤ f:=by omega
  by_cases clk:(E f).k = 3
  ·have clk':((E f).k:Int) = 3:=by omega
   obtain rfl:last = false:=by
    cases last with
    | false => rfl
    | true => exact absurd ⟨clk,.inl rfl⟩ cl
   have cli:¬ (i:Int) < (ps.length:Int) - 1:=fun h => cl ⟨clk,.inr (hdn.2 h)⟩
   simp [evOp_call,T.get_set,g0,g1,g2,g3,g14,g15,g16,sets,c0,c0',loadE_eq,getC_eq,w02,w12,hq2,q02,hix2,hm2,f1,clk',hwu,hwf,hy.lenS,hwl,cli,hwi]
   exact go _ _ _ _ q1 hfn hh hh8 hwk W2 fw2 (by simp [T.get_set,g0]) (by simp [T.get_set]) (by simp [T.get_set,g2]) (by simp [T.get_set,g3]) (by simp [T.get_set,g14]) (by simp [T.get_set,g15]) (by simp [T.get_set])
  ·have clk':¬ ((E f).k:Int) = 3:=by omega
   simp [evOp_call,T.get_set,g0,g1,g2,g3,g14,g15,g16,sets,c0,c0',loadE_eq,getC_eq,w02,w12,hq2,q02,hix2,hm2,f1,clk',hwu,hwf,hwi]
   exact go _ _ _ _ q1 hfn hh hh8 hwk W2 fw2 (by simp [T.get_set,g0]) (by simp [T.get_set]) (by simp [T.get_set,g2]) (by simp [T.get_set,g3]) (by simp [T.get_set,g14]) (by simp [T.get_set,g15]) (by simp [T.get_set])
theorem from_ok {q m n B:Nat} {x:V} {Y Z:Nat → V} {E:Tr} {LB DB:Nat → Prop} (O:TOk n B E) (hB:B ≤ 1000000) (k:Nat):FromOk k q m n x Y Z E LB DB:=by
 induction k using Nat.strongRecOn with
 | _ k ih => exact from_step O hB ih
end Go.Proofs.YtgcpgidofikcdaaGreatDoor
set_option linter.unusedSimpArgs false
set_option linter.unusedVariables false
namespace Go.Proofs.YtgcpgidofikcdaaGreatDoor
open Go.RowKit Ev
theorem TrG.off {s:St} {q m n wq:Nat} {x:V} {Y Z:Nat → V} {E:Tr} {LB DB:Nat → Prop} (h:TrG s q m n x Y Z E LB DB) (hw:s.nx ≤ wq):Off q m LB DB wq :=
 ⟨by have:=h.lt.1; omega,by have:=h.lt.2.1; omega,fun e => by have:=(h.lb _ e).1; omega,fun e => by have:=(h.db _ e).1; omega⟩
theorem FrW.toExt {st s s':St} {wq:Nat} (f:FrW s s' wq) (x:Ext st.nx st s) (h:st.nx ≤ wq):Ext st.nx st s' :=
 ⟨Nat.le_trans x.le f.le,fun w => f.wf (x.wf w),fun b hb => (f.keep b (Nat.lt_of_lt_of_le hb x.le) (by omega)).trans (x.keep b hb)⟩
theorem own_blk {b z n:Nat} {st:St} {y:V} {l:List V} (h:OwnRow b st y z n l):∀ c,BlkOf y c → b ≤ c ∧ c < st.nx:=fun c hc => by
 obtain ⟨_,⟨rfl,_⟩ | ⟨mm,tt,tr,rfl,h4,h5,_⟩⟩:=h
 ·rcases hc with ⟨_,_,_,e⟩ | ⟨_,_,_,e⟩ <;> cases e
 ·rcases hc with ⟨_,_,_,e⟩ | ⟨_,_,_,e⟩
  ·cases e
  ·injection e with e; subst e; exact ⟨h4,h5⟩
theorem rd_blk {z n:Nat} {st:St} {y:V} {l:List V} (h:RdRow st y z n l):∀ c,BlkOf y c → c < st.nx:=fun c hc => by
 obtain ⟨_,⟨rfl | rfl,_⟩ | ⟨m,o,q,ty,sz,t,rfl,h4,_⟩ | ⟨m,o,ty,sz,t,rfl,h4,_⟩⟩:=h
 ·rcases hc with ⟨_,_,_,e⟩ | ⟨_,_,_,e⟩ <;> cases e
 ·rcases hc with ⟨_,_,_,e⟩ | ⟨_,_,_,e⟩ <;> cases e
 ·rcases hc with ⟨_,_,_,e⟩ | ⟨_,_,_,e⟩
  ·injection e with e; subst e; exact h4
  ·cases e
 ·rcases hc with ⟨_,_,_,e⟩ | ⟨_,_,_,e⟩
  ·cases e
  ·injection e with e; subst e; exact h4
section
variable {st:St} {q m n B:Nat} {x:V} {Y Z:Nat → V} {E:Tr} {LB DB:Nat → Prop}
theorem walk_new (TG:TrG st q m n x Y Z E LB DB) (O:TOk n B E) (hB:B ≤ 1000000) (y:V) (ps:List Tx) (last:Bool) (hy:RdRow st y 1 ps.length (sv ps)) (hps:∀ p ∈ ps,okS p) (hpl:ps.length ≤ 1000) (t:T V) (h0:t.get 0 = some (.p q 0)) (h1:t.get 1 = some (.int .i64 0)) (nt:Nat) :
  Gd (callL Tryz.prog ⟨false,[],0,nt⟩ 179 [.p st.nx 0,.int .i64 1,y,.bool last] ⟨st.nx + 1,st.h.set st.nx (.cs 252 2 t)⟩) fun r => r.1 = .t [.int .i64 ((walk E 0 1 ps last).2.1:Int),.int .i64 (walk E 0 1 ps last).2.2] ∧ Ext st.nx st r.2:=by
 have x1:=(Ext.refl st.nx st).new (Nat.le_refl _) (.cs 252 2 t)
 have n2:=O.n2
 refine Gd.mono (from_ok O hB 9 _ st.nx 0 1 y ps last nt (by omega) (by omega) (TG.ext x1) ⟨Nat.lt_succ_self _,t,T.get_set_same _ _ _,h0,h1⟩ (TG.off (Nat.le_refl _)) (Nat.le_refl _) (by omega) (hy.ext x1) (fun b hb => by have:=rd_blk hy b hb; omega) hps hpl) ?_
 rintro ⟨r,s2⟩ ⟨hr,W,f⟩
 exact ⟨hr,f.toExt x1 (Nat.le_refl _)⟩
theorem way_any (TG:TrG st q m n x Y Z E LB DB) (O:TOk n B E) (hB:B ≤ 1000000) (s:Tx) (hs:okS s) (last:Bool) (nt:Nat) :
  Gd (callL Tryz.prog ⟨false,[],0,nt⟩ 109 [.p q 0,.s s,.bool last] st) fun r => r.1 = .t [.int .i64 ((wayE E s last).1:Int),.int .i64 (wayE E s last).2] ∧ Ext st.nx st r.2:=by
 rw [Gd_callL Tryz.func109 rfl]
 simp [evOp_call,sets,T.get_set]
 refine Gd.mono (psplit_any st s hs _) ?_
 rintro ⟨r,s2⟩ ⟨y,hr,hy,x2⟩
 simp only at hr hy x2
 subst hr
 by_cases ce:errS s = 0
 rotate_left
 ·have hw:wayE E s last = (0,errS s):=if_pos ce
  simp [evOp_call,sets,T.get_set,tupK,ce,hw]
  exact x2
 have hw:wayE E s last = (walk E 0 1 (parS s) last).2:=if_neg (by simpa using ce)
 have hpe:pErr s = parS s:=if_pos ce
 rw [hpe] at hy
 simp [evOp_call,sets,T.get_set,tupK,ce,newC_is,cellsOf,storeK_g,putB_eq,roT,loadE_eq,getC_eq,getsB_succ,getsB_zero]
 refine Gd.mono (walk_new (TG.ext x2) O hB y (parS s) last hy.rd (fun p hp => ok_par hs hp) (errS_len ce) _ (by simp [T.get_set]) (by simp [T.get_set]) _) ?_
 rintro ⟨r,s3⟩ ⟨hr,x3⟩
 simp only at hr x3
 subst hr
 simp [evOp_call,sets,T.get_set,tupK,hw]
 exact x2.trans (x3.mono x2.le)
theorem dir_any (TG:TrG st q m n x Y Z E LB DB) (O:TOk n B E) (hB:B ≤ 1000000) (y:V) (ps:List Tx) (hy:RdRow st y 1 ps.length (sv ps)) (hps:∀ p ∈ ps,okS p) (hpl:ps.length ≤ 1000) (nt:Nat) :
  Gd (callL Tryz.prog ⟨false,[],0,nt⟩ 113 [.p q 0,y] st) fun r => r.1 = .t [.int .i64 ((dirE E ps).1:Int),.int .i64 (dirE E ps).2] ∧ Ext st.nx st r.2:=by
 rw [Gd_callL Tryz.func113 rfl]
 simp [evOp_call,sets,T.get_set,tupK,newC_is,cellsOf,storeK_g,putB_eq,roT,loadE_eq,getC_eq,getsB_succ,getsB_zero]
 refine Gd.mono (walk_new TG O hB y ps true hy hps hpl _ (by simp [T.get_set]) (by simp [T.get_set]) _) ?_
 rintro ⟨r,s3⟩ ⟨hr,x3⟩
 simp only at hr x3
 subst hr
 have hwk:=O.walk 9 0 1 ps true (by omega) (Nat.le_refl _) (by have:=O.n2; omega)
 by_cases ce:(walk E 0 1 ps true).2.2 = 0
 rotate_left
 ·have hw:dirE E ps = (0,(walk E 0 1 ps true).2.2):=if_pos ce
  simp [evOp_call,sets,T.get_set,tupK,ce,hw]
  exact x3
 have TG3:=TG.ext x3
 obtain ⟨tq,hq,q0⟩:=TG3.cell
 obtain ⟨ty,sz,t,hm,hro,hsz,row⟩:=TG3.row
 obtain ⟨e1,e2,e3,e4,e5,e6,e7⟩:=row _ hwk.1
 have hix:=fun k => TG3.idx hwk.1 k
 by_cases ck:(E (walk E 0 1 ps true).2.1).k = 2
 ·have hw:dirE E ps = ((walk E 0 1 ps true).2.1,0):=by unfold dirE; rw [if_neg (by simpa using ce),if_neg (by simpa using ck)]
  simp [evOp_call,sets,T.get_set,tupK,ce,hw,loadE_eq,getC_eq,hq,q0,hix,hm,e1,ck]
  exact x3
 ·have ck':¬ ((E (walk E 0 1 ps true).2.1).k:Int) = 2:=by omega
  have hw:dirE E ps = (0,4):=by unfold dirE; rw [if_neg (by simpa using ce),if_pos ck]
  simp [evOp_call,sets,T.get_set,tupK,ce,hw,loadE_eq,getC_eq,hq,q0,hix,hm,e1,ck']
  exact x3
theorem lastD_len {s:Tx}:(lastD s).length ≤ 1000:=by
 unfold lastD
 split
 ·rename_i h
  have h2:errS s = 0:=by
   unfold lastE at h
   split at h
   ·rename_i c; exact absurd h c
   ·rename_i c; simpa using c
  have:=errS_len h2
  rw [List.length_dropLast]
  omega
 ·exact Nat.zero_le _
theorem lastDE_any (TG:TrG st q m n x Y Z E LB DB) (O:TOk n B E) (hB:B ≤ 1000000) (s:Tx) (hs:okS s) (nt:Nat) :
  Gd (callL Tryz.prog ⟨false,[],0,nt⟩ 176 [.p q 0,.s s] st) fun r => r.1 = .t [.int .i64 ((lastDE E s).1:Int),.s (lastDE E s).2.1,.int .i64 (lastDE E s).2.2] ∧ Ext st.nx st r.2:=by
 rw [Gd_callL Tryz.func176 rfl]
 simp [evOp_call,sets,T.get_set]
 refine Gd.mono (last_any st s hs _) ?_
 rintro ⟨r,s2⟩ ⟨y,hr,hy,_,_,x2⟩
 simp only at hr hy x2
 subst hr
 by_cases ce:lastE s = 0
 rotate_left
 ·have hw:lastDE E s = (0,[],lastE s):=if_pos ce
  simp [evOp_call,sets,T.get_set,tupK,ce,hw]
  exact x2
 have hw:lastDE E s = ((dirE E (lastD s)).1,lastN s,(dirE E (lastD s)).2):=if_neg (by simpa using ce)
 simp [evOp_call,sets,T.get_set,tupK,ce]
 refine Gd.mono (dir_any (TG.ext x2) O hB y (lastD s) hy (ok_lastD hs) lastD_len _) ?_
 rintro ⟨r,s3⟩ ⟨hr,x3⟩
 simp only at hr x3
 subst hr
 simp [evOp_call,sets,T.get_set,tupK,hw]
 exact x2.trans (x3.mono x2.le)
theorem TOk.lastDE (O:TOk n B E) {s:Tx} (hs:okS s):(Go.Proofs.YtgcpgidofikcdaaGreatDoor.lastDE E s).1 ≤ n ∧ okS (Go.Proofs.YtgcpgidofikcdaaGreatDoor.lastDE E s).2.1 ∧ ((Go.Proofs.YtgcpgidofikcdaaGreatDoor.lastDE E s).2.2 = 0 → (E (Go.Proofs.YtgcpgidofikcdaaGreatDoor.lastDE E s).1).k = 2):=by
 unfold Go.Proofs.YtgcpgidofikcdaaGreatDoor.lastDE
 split
 ·rename_i c
  exact ⟨Nat.zero_le _,fun b hb => (by cases hb),fun e => absurd e c⟩
 ·refine ⟨?_,ok_lastN hs,fun e => O.dirE _ e⟩
  unfold Go.Proofs.YtgcpgidofikcdaaGreatDoor.dirE
  split
  ·exact Nat.zero_le _
  split
  ·exact Nat.zero_le _
  ·exact (O.walk 9 0 1 _ true (by omega) (Nat.le_refl _) (by have:=O.n2; omega)).1
theorem there_any (TG:TrG st q m n x Y Z E LB DB) (O:TOk n B E) (hB:B ≤ 1000000) (s:Tx) (hs:okS s) (nt:Nat) :
  Gd (callL Tryz.prog ⟨false,[],0,nt⟩ 110 [.p q 0,.s s] st) fun r => r.1 = .t [.int .i64 ((thereE E s).1:Int),.int .i64 ((thereE E s).2.1:Int),.s (thereE E s).2.2.1,.int .i64 (thereE E s).2.2.2] ∧ Ext st.nx st r.2:=by
 rw [Gd_callL Tryz.func110 rfl]
 simp [evOp_call,sets,T.get_set]
 refine Gd.mono (lastDE_any TG O hB s hs _) ?_
 rintro ⟨r,s2⟩ ⟨hr,x2⟩
 simp only at hr x2
 subst hr
 by_cases ce:(lastDE E s).2.2 = 0
 rotate_left
 ·have hw:thereE E s = (0,0,[],(lastDE E s).2.2):=if_pos ce
  simp [evOp_call,sets,T.get_set,tupK,ce,hw]
  exact x2
 have hL:=O.lastDE hs
 simp [evOp_call,sets,T.get_set,tupK,ce]
 refine Gd.mono (find_any (TG.ext x2) O hB _ hL.1 _ hL.2.1 _) ?_
 rintro ⟨r,s3⟩ ⟨hr,x3⟩
 simp only at hr x3
 subst hr
 have x23:=x2.trans (x3.mono x2.le)
 by_cases cf:findE E (lastDE E s).1 (lastDE E s).2.1 = 0
 ·have hw:thereE E s = (0,0,[],2):=by unfold thereE; rw [if_neg (by simpa using ce),if_pos cf]
  simp [evOp_call,sets,T.get_set,tupK,cf,hw]
  exact x23
 ·have hw:thereE E s = ((lastDE E s).1,findE E (lastDE E s).1 (lastDE E s).2.1,(lastDE E s).2.1,0):=by unfold thereE; rw [if_neg (by simpa using ce),if_neg cf]
  have cf':¬ (findE E (lastDE E s).1 (lastDE E s).2.1:Int) = 0:=by omega
  simp [evOp_call,sets,T.get_set,tupK,cf,cf',hw]
  exact x23
theorem room_any (TG:TrG st q m n x Y Z E LB DB) (O:TOk n B E) (hB:B ≤ 1000000) (s:Tx) (hs:okS s) (nt:Nat) :
  Gd (callL Tryz.prog ⟨false,[],0,nt⟩ 106 [.p q 0,.s s] st) fun r => r.1 = .t [.int .i64 ((roomE E s).1:Int),.s (roomE E s).2.1,.int .i64 (roomE E s).2.2] ∧ Ext st.nx st r.2:=by
 rw [Gd_callL Tryz.func106 rfl]
 simp [evOp_call,sets,T.get_set]
 refine Gd.mono (lastDE_any TG O hB s hs _) ?_
 rintro ⟨r,s2⟩ ⟨hr,x2⟩
 simp only at hr x2
 subst hr
 by_cases ce:(lastDE E s).2.2 = 0
 rotate_left
 ·have hw:roomE E s = (0,[],(lastDE E s).2.2):=if_pos ce
  simp [evOp_call,sets,T.get_set,tupK,ce,hw]
  exact x2
 have hL:=O.lastDE hs
 simp [evOp_call,sets,T.get_set,tupK,ce]
 refine Gd.mono (find_any (TG.ext x2) O hB _ hL.1 _ hL.2.1 _) ?_
 rintro ⟨r,s3⟩ ⟨hr,x3⟩
 simp only at hr x3
 subst hr
 have x23:=x2.trans (x3.mono x2.le)
 by_cases cf:findE E (lastDE E s).1 (lastDE E s).2.1 = 0
 rotate_left
 ·have hw:roomE E s = (0,[],3):=by unfold roomE; rw [if_neg (by simpa using ce),if_pos cf]
  have cf':¬ (findE E (lastDE E s).1 (lastDE E s).2.1:Int) = 0:=by omega
  simp [evOp_call,sets,T.get_set,tupK,cf,cf',hw]
  exact x23
 by_cases c2:(lastDE E s).1 = 2
 ·have hw:roomE E s = (0,[],12):=by unfold roomE; rw [if_neg (by simpa using ce),if_neg (by simpa using cf),if_pos c2]
  rw [c2] at cf
  simp [evOp_call,sets,T.get_set,tupK,cf,c2,hw]
  exact x23
 ·have hw:roomE E s = ((lastDE E s).1,(lastDE E s).2.1,0):=by unfold roomE; rw [if_neg (by simpa using ce),if_neg (by simpa using cf),if_neg c2]
  have c2':¬ ((lastDE E s).1:Int) = 2:=by omega
  simp [evOp_call,sets,T.get_set,tupK,cf,c2,c2',hw]
  exact x23
theorem file_any (TG:TrG st q m n x Y Z E LB DB) (O:TOk n B E) (hB:B ≤ 1000000) (s:Tx) (hs:okS s) (nt:Nat) :
  Gd (callL Tryz.prog ⟨false,[],0,nt⟩ 117 [.p q 0,.s s] st) fun r => r.1 = .t [.int .i64 ((fileE E s).1:Int),.int .i64 (fileE E s).2] ∧ Ext st.nx st r.2:=by
 rw [Gd_callL Tryz.func117 rfl]
 simp [evOp_call,sets,T.get_set]
 refine Gd.mono (way_any TG O hB s hs true _) ?_
 rintro ⟨r,s2⟩ ⟨hr,x2⟩
 simp only at hr x2
 subst hr
 by_cases ce:(wayE E s true).2 = 0
 rotate_left
 ·have hw:fileE E s = (0,(wayE E s true).2):=if_pos ce
  simp [evOp_call,sets,T.get_set,tupK,ce,hw]
  exact x2
 have hL:=O.way s true
 have TG3:=TG.ext x2
 obtain ⟨tq,hq,q0⟩:=TG3.cell
 obtain ⟨ty,sz,t,hm,hro,hsz,row⟩:=TG3.row
 obtain ⟨e1,e2,e3,e4,e5,e6,e7⟩:=row _ hL.1
 have hix:=fun k => TG3.idx hL.1 k
 by_cases ck:(E (wayE E s true).1).k = 2
 ·have hw:fileE E s = (0,5):=by unfold fileE; rw [if_neg (by simpa using ce),if_pos ck]
  simp [evOp_call,sets,T.get_set,tupK,ce,hw,loadE_eq,getC_eq,hq,q0,hix,hm,e1,ck]
  exact x2
 ·have ck':¬ ((E (wayE E s true).1).k:Int) = 2:=by omega
  have hw:fileE E s = ((wayE E s true).1,0):=by unfold fileE; rw [if_neg (by simpa using ce),if_neg ck]
  simp [evOp_call,sets,T.get_set,tupK,ce,hw,loadE_eq,getC_eq,hq,q0,hix,hm,e1,ck']
  exact x2
end
end Go.Proofs.YtgcpgidofikcdaaGreatDoor

/-
  PLAIN: TrQ, TrR, TrS, TrT, in one text.
-/
import Derived.Test.YtgcpgidofikcdaaGreatDoorTrEI
import Derived.Test.YtgcpgidofikcdaaGreatDoorTmNC
set_option maxRecDepth 20000
set_option maxHeartbeats 16000000
set_option linter.unusedSimpArgs false
set_option linter.unusedVariables false
namespace Go.Proofs.YtgcpgidofikcdaaGreatDoor
open Go.RowKit Ev
theorem rep_get {l:List V}:∀ (n i j:Nat),i < n → j < l.length → (rep l n)[i * l.length + j]? = l[j]?
 | 0,i,j,h,_ => absurd h (Nat.not_lt_zero _)
 | n + 1,i,j,h,hj => by
  have e:rep l (n + 1) = l ++ rep l n:=rfl
  rw [e]
  cases i with
  | zero => rw [Nat.zero_mul,Nat.zero_add,List.getElem?_append_left hj]
  | succ i =>
   have h1:(i + 1) * l.length + j = l.length + (i * l.length + j):=by rw [Nat.add_mul]; omega
   rw [h1,List.getElem?_append_right (by omega),Nat.add_sub_cancel_left]
   exact rep_get n i j (by omega) hj
theorem newRef {s:St} {q m N:Nat} {t tz:T V} (hN:2 ≤ N) (hget:∀ i j,i < N + 1 → j < 4 → tz.get (i * 4 + j) = [V.int .i64 0,.int .i64 0,.s [],.c (.slice none 0 0)][j]?)
  (hq:s.h.get q = some (.cs 115 2 t)) (hq0':t.get 1 = some (.sl m 0 (N + 1) (N + 1))) (hq0:t.get 0 = some (.int .i64 (N:Int)))
  (hm:s.h.get m = some (.cs 118 ((N + 1) * 4) ((((((((tz.set 4 (.int .i64 1)).set 5 (.int .i64 2)).set 6 (.s [])).set 7 (.c (.slice none 0 0))).set 8 (.int .i64 2)).set 9 (.int .i64 2)).set 10 (.s [])).set 11 (.c (.slice none 0 0)))))
  (h1:q < s.nx) (h2:m < s.nx) (h3:m ≠ q):RefG s q m N (fun _ => .c (.slice none 0 0)) newE:=by
 refine ⟨⟨t,hq,hq0,hq0'⟩,⟨_,hm,fun i hi => ?_⟩,⟨h1,h2,h3⟩,fun _ _ _ _ _ _ e => by cases e⟩
 have nb:∀ b,BlkOf (.c (.slice none 0 0)) b → b ≠ q ∧ b ≠ m:=fun b hb => absurd hb (nil_blk b)
 have rd:RdRow s (.c (.slice none 0 0)) 2 0 (cellsN []):=⟨rfl,.inl ⟨.inl rfl,rfl⟩⟩
 by_cases e1:i = 1
 ·subst e1
  exact ⟨by simp [T.get_set,partN,newE],by simp [T.get_set,newE],by simp [T.get_set,newE],by simp [T.get_set],rd,nb⟩
 by_cases e2:i = 2
 ·subst e2
  exact ⟨by simp [T.get_set,partN,newE],by simp [T.get_set,newE],by simp [T.get_set,newE],by simp [T.get_set],rd,nb⟩
 have eN:newE i = noE:=by unfold newE; rw [if_neg e1,if_neg e2]
 have ep:partN newE i = 0:=by unfold partN; rw [eN]; rfl
 have g:∀ j,j < 4 → ((((((((tz.set 4 (.int .i64 1)).set 5 (.int .i64 2)).set 6 (.s [])).set 7 (.c (.slice none 0 0))).set 8 (.int .i64 2)).set 9 (.int .i64 2)).set 10 (.s [])).set 11 (.c (.slice none 0 0))).get (i * 4 + j) = [V.int .i64 0,.int .i64 0,.s [],.c (.slice none 0 0)][j]?:=fun j hj => by
  rw [T.get_set_ne _ _ (by omega),T.get_set_ne _ _ (by omega),T.get_set_ne _ _ (by omega),T.get_set_ne _ _ (by omega),T.get_set_ne _ _ (by omega),T.get_set_ne _ _ (by omega),T.get_set_ne _ _ (by omega),T.get_set_ne _ _ (by omega)]
  exact hget i j (by omega) hj
 rw [eN,ep]
 exact ⟨g 0 (by decide),g 1 (by decide),g 2 (by decide),g 3 (by decide),rd,nb⟩
theorem rNew_any (st:St) (k:Int) (nt:Nat) :
  Gd (callL Tryz.prog ⟨false,[],0,nt⟩ 18 [.int .i64 k] st) fun r => ∃ q m,r.1 = .p q 0 ∧ RefG r.2 q m (nodesN k) (fun _ => .c (.slice none 0 0)) newE ∧ st.nx ≤ q ∧ st.nx ≤ m ∧ Ext st.nx st r.2:=by
 have hN:=nodesN_ok k
 have hcase:(k < 2 ∧ nodesN k = 2) ∨ (¬ k < 2 ∧ 64 < k ∧ nodesN k = 64) ∨ (¬ k < 2 ∧ ¬ 64 < k ∧ (nodesN k:Int) = k):=by unfold nodesN; omega
 rw [Gd_callL Tryz.func18 rfl]
 obtain ⟨N,hNk⟩:∃ N,N = nodesN k:=⟨_,rfl⟩
 rw [← hNk] at hN hcase ⊢
 have hwN:IntKind.i64.wrap ((N:Int) + 1) = ((N + 1:Nat):Int):=wrap_nat (n:=N) (by omega)
 rcases hcase with ⟨h1,h2⟩ | ⟨h1,h2,h3⟩ | ⟨h1,h2,h3⟩
 ·subst h2
  have hw3:IntKind.i64.wrap (2 + 1) = 3:=by decide
  have hwr:IntKind.i64.wrap 3 = 3:=by decide
  simp [evOp_call,sets,T.get_set,h1,hw3]
  refine Gd_make (i:=.i64) (i':=.i64) (n:=2 + 1) (q:=2 + 1) (fun k => el54 k) io118 (fun k => ze118 k) (by simp [T.get_set,hwr]) (by simp [T.get_set,hwr]) (Nat.le_refl _) (by omega) ?_
  have hlen:(rep [V.int .i64 0,.int .i64 0,.s [],.c (.slice none 0 0)] (2 + 1)).length = (2 + 1) * 4:=by rw [rep_length]; rfl
  have hget:∀ i j,i < 2 + 1 → j < 4 → (sets (rep [V.int .i64 0,.int .i64 0,.s [],.c (.slice none 0 0)] (2 + 1)) 0 .lf).get (i * 4 + j) = [V.int .i64 0,.int .i64 0,.s [],.c (.slice none 0 0)][j]?:=fun i j hi hj => by
   rw [get_sets,if_pos ⟨Nat.zero_le _,by rw [hlen]; omega⟩,Nat.sub_zero]
   exact rep_get (2 + 1) i j hi hj
  rw [hlen]
  generalize sets (rep [V.int .i64 0,.int .i64 0,.s [],.c (.slice none 0 0)] (2 + 1)) 0 .lf = tz at hget ⊢
  have hb1:8 ≤ (2 + 1) * 4:=by omega
  have hb2:12 ≤ (2 + 1) * 4:=by omega
  have hn1:1 < 2 + 1:=by omega
  have hn2:2 < 2 + 1:=by omega
  simp [evOp_call,sets,T.get_set,newC_is,cellsOf]
  refine ⟨by kernel_rfl,?_⟩
  simp [evOp_call,sets,T.get_set,loadE_eq,getC_eq,hn1,hn2]
  rw [cxOf_store (by kernel_rfl),forb_nil]
  simp [evOp_call,sets,T.get_set,storeK_g,putB_eq,roT,hb1,hb2,cellsOf,hn1,hn2]
  rw [cxOf_store (by kernel_rfl),forb_nil]
  simp [evOp_call,sets,T.get_set,storeK_g,putB_eq,roT,hb1,hb2,cellsOf,hn1,hn2]
  refine ⟨st.nx,newRef (tz:=tz) (by omega) hget (T.get_set_ne _ _ (by omega) |>.trans (T.get_set_same _ _ _)) (T.get_set_same _ _ _) (T.get_set_ne _ _ (by omega) |>.trans (T.get_set_same _ _ _)) (T.get_set_same _ _ _) (by show st.nx + 1 < st.nx + 1 + 1; omega) (by show st.nx < st.nx + 1 + 1; omega) (by omega),Nat.le_refl _,?_⟩
  exact (((Ext.refl st.nx st).new (Nat.le_refl _) (.cs 118 ((2 + 1) * 4) tz)).new (Nat.le_succ _) (.cs 115 2 ((T.lf.set 0 (.int .i64 (2:Int))).set 1 (.sl st.nx 0 (2 + 1) (2 + 1))))).set (m:=st.nx) (Nat.le_refl _) (by show st.nx < st.nx + 1 + 1; omega) _
 ·subst h3
  have hw3:IntKind.i64.wrap (64 + 1) = 65:=by decide
  have hwr:IntKind.i64.wrap 65 = 65:=by decide
  simp [evOp_call,sets,T.get_set,h1,h2,hw3]
  refine Gd_make (i:=.i64) (i':=.i64) (n:=64 + 1) (q:=64 + 1) (fun k => el54 k) io118 (fun k => ze118 k) (by simp [T.get_set,hwr]) (by simp [T.get_set,hwr]) (Nat.le_refl _) (by omega) ?_
  have hlen:(rep [V.int .i64 0,.int .i64 0,.s [],.c (.slice none 0 0)] (64 + 1)).length = (64 + 1) * 4:=by rw [rep_length]; rfl
  have hget:∀ i j,i < 64 + 1 → j < 4 → (sets (rep [V.int .i64 0,.int .i64 0,.s [],.c (.slice none 0 0)] (64 + 1)) 0 .lf).get (i * 4 + j) = [V.int .i64 0,.int .i64 0,.s [],.c (.slice none 0 0)][j]?:=fun i j hi hj => by
   rw [get_sets,if_pos ⟨Nat.zero_le _,by rw [hlen]; omega⟩,Nat.sub_zero]
   exact rep_get (64 + 1) i j hi hj
  rw [hlen]
  generalize sets (rep [V.int .i64 0,.int .i64 0,.s [],.c (.slice none 0 0)] (64 + 1)) 0 .lf = tz at hget ⊢
  have hb1:8 ≤ (64 + 1) * 4:=by omega
  have hb2:12 ≤ (64 + 1) * 4:=by omega
  have hn1:1 < 64 + 1:=by omega
  have hn2:2 < 64 + 1:=by omega
  simp [evOp_call,sets,T.get_set,newC_is,cellsOf]
  refine ⟨by kernel_rfl,?_⟩
  simp [evOp_call,sets,T.get_set,loadE_eq,getC_eq,hn1,hn2]
  rw [cxOf_store (by kernel_rfl),forb_nil]
  simp [evOp_call,sets,T.get_set,storeK_g,putB_eq,roT,hb1,hb2,cellsOf,hn1,hn2]
  rw [cxOf_store (by kernel_rfl),forb_nil]
  simp [evOp_call,sets,T.get_set,storeK_g,putB_eq,roT,hb1,hb2,cellsOf,hn1,hn2]
  refine ⟨st.nx,newRef (tz:=tz) (by omega) hget (T.get_set_ne _ _ (by omega) |>.trans (T.get_set_same _ _ _)) (T.get_set_same _ _ _) (T.get_set_ne _ _ (by omega) |>.trans (T.get_set_same _ _ _)) (T.get_set_same _ _ _) (by show st.nx + 1 < st.nx + 1 + 1; omega) (by show st.nx < st.nx + 1 + 1; omega) (by omega),Nat.le_refl _,?_⟩
  exact (((Ext.refl st.nx st).new (Nat.le_refl _) (.cs 118 ((64 + 1) * 4) tz)).new (Nat.le_succ _) (.cs 115 2 ((T.lf.set 0 (.int .i64 (64:Int))).set 1 (.sl st.nx 0 (64 + 1) (64 + 1))))).set (m:=st.nx) (Nat.le_refl _) (by show st.nx < st.nx + 1 + 1; omega) _
 ·rw [← h3]
  rw [← h3] at h1 h2
  have hwr:=hwN
  simp [evOp_call,sets,T.get_set,h1,h2,hwN]
  refine Gd_make (i:=.i64) (i':=.i64) (n:=N + 1) (q:=N + 1) (fun k => el54 k) io118 (fun k => ze118 k) (by simp [T.get_set,hwr]) (by simp [T.get_set,hwr]) (Nat.le_refl _) (by omega) ?_
  have hlen:(rep [V.int .i64 0,.int .i64 0,.s [],.c (.slice none 0 0)] (N + 1)).length = (N + 1) * 4:=by rw [rep_length]; rfl
  have hget:∀ i j,i < N + 1 → j < 4 → (sets (rep [V.int .i64 0,.int .i64 0,.s [],.c (.slice none 0 0)] (N + 1)) 0 .lf).get (i * 4 + j) = [V.int .i64 0,.int .i64 0,.s [],.c (.slice none 0 0)][j]?:=fun i j hi hj => by
   rw [get_sets,if_pos ⟨Nat.zero_le _,by rw [hlen]; omega⟩,Nat.sub_zero]
   exact rep_get (N + 1) i j hi hj
  rw [hlen]
  generalize sets (rep [V.int .i64 0,.int .i64 0,.s [],.c (.slice none 0 0)] (N + 1)) 0 .lf = tz at hget ⊢
  have hb1:8 ≤ (N + 1) * 4:=by omega
  have hb2:12 ≤ (N + 1) * 4:=by omega
  have hn1:1 < N + 1:=by omega
  have hn2:2 < N + 1:=by omega
  simp [evOp_call,sets,T.get_set,newC_is,cellsOf]
  refine ⟨by kernel_rfl,?_⟩
  simp [evOp_call,sets,T.get_set,loadE_eq,getC_eq,hn1,hn2]
  rw [cxOf_store (by kernel_rfl),forb_nil]
  simp [evOp_call,sets,T.get_set,storeK_g,putB_eq,roT,hb1,hb2,cellsOf,hn1,hn2]
  rw [cxOf_store (by kernel_rfl),forb_nil]
  simp [evOp_call,sets,T.get_set,storeK_g,putB_eq,roT,hb1,hb2,cellsOf,hn1,hn2]
  refine ⟨st.nx,newRef (tz:=tz) (by omega) hget (T.get_set_ne _ _ (by omega) |>.trans (T.get_set_same _ _ _)) (T.get_set_same _ _ _) (T.get_set_ne _ _ (by omega) |>.trans (T.get_set_same _ _ _)) (T.get_set_same _ _ _) (by show st.nx + 1 < st.nx + 1 + 1; omega) (by show st.nx < st.nx + 1 + 1; omega) (by omega),Nat.le_refl _,?_⟩
  exact (((Ext.refl st.nx st).new (Nat.le_refl _) (.cs 118 ((N + 1) * 4) tz)).new (Nat.le_succ _) (.cs 115 2 ((T.lf.set 0 (.int .i64 (N:Int))).set 1 (.sl st.nx 0 (N + 1) (N + 1))))).set (m:=st.nx) (Nat.le_refl _) (by show st.nx < st.nx + 1 + 1; omega) _
end Go.Proofs.YtgcpgidofikcdaaGreatDoor
set_option linter.unusedSimpArgs false
set_option linter.unusedVariables false
namespace Go.Proofs.YtgcpgidofikcdaaGreatDoor
open Go.RowKit Ev
def RtC (s:St) (E:Tr) (L:List V) (ids:List Nat) (av:Nat → Prop):Prop:=∀ j i,ids[j]? = some i → ∃ z,L[j * 4]? = some (.int .i64 (i:Int)) ∧ L[j * 4 + 1]? = some (.int .i64 ((E i).k:Int)) ∧ L[j * 4 + 2]? = some (.s (E i).d) ∧ L[j * 4 + 3]? = some z ∧
 RdRow s z 2 (E i).l.length (cellsN (E i).l) ∧ ∀ b,BlkOf z b → b < s.nx ∧ av b
theorem RtC.keep {s s':St} {E:Tr} {L:List V} {ids:List Nat} {av av':Nat → Prop} (h:RtC s E L ids av) (hn:s.nx ≤ s'.nx) (k:∀ b,b < s.nx → av b → s'.h.get b = s.h.get b ∧ av' b):RtC s' E L ids av':=fun j i hj => by
 obtain ⟨z,h0,h1,h2,h3,h5,h6⟩:=h j i hj
 refine ⟨z,h0,h1,h2,h3,rd_keep h5 hn fun b hb => ?_,fun b hb => ?_⟩
 ·obtain ⟨a1,a2⟩:=h6 b hb
  exact (k b a1 a2).1
 ·obtain ⟨a1,a2⟩:=h6 b hb
  exact ⟨by omega,(k b a1 a2).2⟩
theorem RtC.app {s:St} {E:Tr} {L:List V} {ids:List Nat} {av:Nat → Prop} (h:RtC s E L ids av) (hL:L.length = ids.length * 4) {i:Nat} {z:V} (h5:RdRow s z 2 (E i).l.length (cellsN (E i).l)) (h6:∀ b,BlkOf z b → b < s.nx ∧ av b) :
  RtC s E (L ++ [.int .i64 (i:Int),.int .i64 ((E i).k:Int),.s (E i).d,z]) (ids ++ [i]) av:=fun j x hj => by
 by_cases hlt:j < ids.length
 ·rw [List.getElem?_append_left hlt] at hj
  obtain ⟨z',g0,g1,g2,g3,g⟩:=h j x hj
  exact ⟨z',by rw [List.getElem?_append_left (by omega)]; exact g0,by rw [List.getElem?_append_left (by omega)]; exact g1,by rw [List.getElem?_append_left (by omega)]; exact g2,by rw [List.getElem?_append_left (by omega)]; exact g3,g⟩
 ·rw [List.getElem?_append_right (by omega)] at hj
  have hj0:j - ids.length = 0:=by
   have:=lt_of_get hj
   simpa using this
  rw [hj0] at hj
  simp at hj
  subst hj
  have e:j = ids.length:=by omega
  subst e
  refine ⟨z,?_,?_,?_,?_,h5,h6⟩
  ·rw [List.getElem?_append_right (by omega),show ids.length * 4 - L.length = 0 by omega]; rfl
  ·rw [List.getElem?_append_right (by omega),show ids.length * 4 + 1 - L.length = 1 by omega]; rfl
  ·rw [List.getElem?_append_right (by omega),show ids.length * 4 + 2 - L.length = 2 by omega]; rfl
  ·rw [List.getElem?_append_right (by omega),show ids.length * 4 + 3 - L.length = 3 by omega]; rfl
section
variable {st:St} {q m n B:Nat} {Z:Nat → V} {E:Tr}
def rpI (st:St) (q n:Nat) (E:Tr) (e:Env) (s:St):Prop:=∃ (i:Nat) (y:V) (L:List V),1 ≤ i ∧ i ≤ n + 1 ∧ e.get 0 = some (.p q 0) ∧ e.get 3 = some y ∧ e.get 4 = some (.int .i64 (i:Int)) ∧ OwnRow st.nx s y 4 (cntK E i) L ∧ RtC s E L (idsK E i) (fun b => b < st.nx) ∧ Ext st.nx st s
theorem rParts_any (R:RefG st q m n Z E) (O:TOk n B E) (nt:Nat) :
  Gd (callL Tryz.prog ⟨false,[],0,nt⟩ 26 [.p q 0] st) fun r => ∃ L,RdRow r.2 r.1 4 (idsK E (n + 1)).length L ∧ RtC r.2 E L (idsK E (n + 1)) (fun _ => True) ∧ Ext st.nx st r.2:=by
 rw [Gd_callL Tryz.func26 rfl]
 have hn:=O.n2
 simp [evOp_call,sets,T.get_set]
 refine Gd_loop (rpI st q n E) (fun e _ => muAt 4 (n + 1) e) ?_ ?_
 ·have e1:idsK E 1 = []:=by rw [idsK_succ,if_pos O.zero]; rfl
  refine ⟨1,.c (.slice none 0 0),[],Nat.le_refl _,by omega,by simp [T.get_set],by simp [T.get_set],by simp [T.get_set],?_,?_,Ext.refl _ _⟩
  ·rw [← idsK_len,e1]; exact OwnRow.nil _ _ _
  ·rw [e1]; exact fun j i hj => by simp at hj
 rintro e s ⟨i,y,L,h1,hi,g0,g3,g4,hy,hp,hx⟩
 have Rs:=R.ext hx
 have hle:=hx.le
 obtain ⟨tq,hq,q0,q1⟩:=Rs.cell
 obtain ⟨tt,hm,row⟩:=Rs.row
 by_cases hlt:i < n + 1
 case neg =>
  obtain rfl:i = n + 1:=by omega
  have hnle:¬ ((n:Int) + 1 ≤ (n:Int)):=by omega
  simp [evOp_call,T.get_set,g0,g3,g4,loadE_eq,getC_eq,hq,q0,hnle,sets]
  exact ⟨L,hy.rd,hp.keep (Nat.le_refl _) (fun b _ _ => ⟨rfl,trivial⟩),hx⟩
 have hlei:(i:Int) ≤ (n:Int):=by omega
 have hwi:=wrap_nat (n:=i) (by omega)
 obtain ⟨a0,a1,a2,a3,a4,a5⟩:=row i (by omega)
 by_cases ck:(E i).k = 0
 ·have ck':((E i).k:Int) = 0:=by omega
  simp [evOp_call,T.get_set,g0,g3,g4,loadE_eq,getC_eq,hq,q0,q1,hlei,hm,a1,hlt,ck,ck',hwi]
  exact ⟨⟨i + 1,y,L,by omega,by omega,by simp [T.get_set,g0],by simp [T.get_set,g3],by simp [T.get_set],by rw [cntK_succ,if_pos ck]; exact hy,by rw [idsK_succ,if_pos ck,List.append_nil]; exact hp,hx⟩,muAt_lt g4 (by simp [T.get_set]) hlt⟩
 have ck':¬ ((E i).k:Int) = 0:=by omega
 have ep:partN E i = i:=if_neg ck
 rw [ep] at a0
 simp [evOp_call,T.get_set,g0,g3,g4,loadE_eq,getC_eq,getsB_succ,getsB_zero,hq,q0,q1,hlei,hm,a0,a1,a2,a3,hlt,ck,ck',hwi]
 have hz1:V.one (Z i) = true:=a4.one
 refine evOp_build1 (v:=.g [.int .i64 (i:Int),.int .i64 ((E i).k:Int),.s (E i).d,Z i]) (cs:=[.int .i64 (i:Int),.int .i64 ((E i).k:Int),.s (E i).d,Z i]) (fun k => el54 k) (fun k => ze118 k) rfl (by decide) (by simp [T.get_set]) (fun k => by simp [cellsOf]) rfl ?_
 have x8:=fun w => (Ext.refl s.nx s).new (Nat.le_refl _) w
 simp [evOp_call,T.get_set,g0,g3,g4]
 have hcl:=cntK_le E i
 refine Gd_append un54 un54 io118 (n:=cntK E i) (lx:=1) (new:=[.int .i64 (i:Int),.int .i64 ((E i).k:Int),.s (E i).d,Z i]) (hy.ext (x8 _)) (by show st.nx ≤ s.nx + 1; omega) (by decide) (fun s' h => by cases h) (fun k => rfl) (fun k => by simp [getC_eq,getsB_succ,getsB_zero,T.get_set,sets]) rfl (by omega) ?_
 intro y' s9 ho he _ _
 have x9:Ext st.nx s s9:=((x8 _).mono hle).trans he
 have hz9:=a4.ext ((Ext.refl s.nx s))
 have hzl:∀ b,BlkOf (Z i) b → b < st.nx:=fun b hb => R.blkLt (by omega) hb
 simp [evOp_call,T.get_set,g0,g4,hwi]
 refine ⟨⟨i + 1,y',_,by omega,by omega,by simp [T.get_set,g0],by simp [T.get_set],by simp [T.get_set],by rw [cntK_succ,if_neg ck]; exact ho,?_,hx.trans x9⟩,muAt_lt g4 (by simp [T.get_set]) hlt⟩
 rw [idsK_succ,if_neg ck]
 have hp1:=hp.app (by rw [idsK_len]; exact hy.1) (i:=i) (z:=Z i) a4 fun b hb => ⟨by have:=hzl b hb; omega,hzl b hb⟩
 exact hp1.keep x9.le fun b _ hb => ⟨x9.keep b hb,hb⟩
theorem neqRName (st:St) (x y:Operand) (a c:Tx) (ha:okS a) (hc:okS c) (b d:Nat):binE Tryz.prog st .neq 127 x y (.g [.s a,.int .i64 (b:Int)]) (.g [.s c,.int .i64 (d:Int)]) = some (.bool (!decide ((a,b) = (c,d))),st):=by
 have:=neq_struct (st:=st) (x:=x) (y:=y) (l:=[.s a,.int .i64 (b:Int)]) (l':=[.s c,.int .i64 (d:Int)]) (xs:=[.string ⟨⟨a.map UInt8.ofNat⟩⟩,.int .i64 (b:Int)]) (ys:=[.string ⟨⟨c.map UInt8.ofNat⟩⟩,.int .i64 (d:Int)]) Tryz.underlying127 (by kernel_rfl) (by kernel_rfl) rfl rfl
  (.cons (feStr (d:=9998) (by decide) Tryz.underlying9 rfl rfl) (.cons (.int (d:=9998) (by decide) Tryz.underlying3 rfl rfl) .nil))
 have he:([(⟨⟨a.map UInt8.ofNat⟩⟩:ByteArray) == ⟨⟨c.map UInt8.ofNat⟩⟩,((b:Int) == (d:Int))].all id) = decide ((a,b) = (c,d)):=by
  have hac:((⟨⟨a.map UInt8.ofNat⟩⟩:ByteArray) == ⟨⟨c.map UInt8.ofNat⟩⟩) = decide (a = c):=by
   show ((⟨a.map UInt8.ofNat⟩:Array UInt8) == ⟨c.map UInt8.ofNat⟩) = _
   rw [Bool.eq_iff_iff]
   simp only [beq_iff_eq,decide_eq_true_eq]
   constructor
   ·intro h
    have h2:a.map UInt8.ofNat = c.map UInt8.ofNat:=congrArg Array.toList h
    exact tx_inj ha hc h2
   ·rintro rfl; rfl
  have hbd:((b:Int) == (d:Int)) = decide (b = d):=by
   rw [Bool.eq_iff_iff]
   simp only [beq_iff_eq,decide_eq_true_eq]
   omega
  rw [hac,hbd]; simp
 rw [he] at this
 exact this
def sptI (s1:St) (a b:Nat) (L:List (Tx × Nat)) (e:Env) (s:St):Prop:=∃ i:Nat,i ≤ L.length ∧ e.get 2 = some (.p a 0) ∧ e.get 3 = some (.p b 0) ∧ e.get 5 = some (.int .i64 (i:Int)) ∧ s = s1
theorem rsamepart_any (st:St) (i k:Nat) (d:Tx) (x y:V) (l:List (Tx × Nat)) (hx:RdRow st x 2 l.length (cellsN l)) (hy:RdRow st y 2 l.length (cellsN l)) (hl:l.length ≤ 1000000) (hok:∀ e ∈ l,okS e.1) (nt:Nat) :
  Gd (callL Tryz.prog ⟨false,[],0,nt⟩ 73 [.g [.int .i64 (i:Int),.int .i64 (k:Int),.s d,x],.g [.int .i64 (i:Int),.int .i64 (k:Int),.s d,y]] st) fun r => r.1 = .bool true ∧ Ext st.nx st r.2:=by
 rw [Gd_callL Tryz.func73 rfl]
 have hx1:=hx.one
 have hy1:=hy.one
 have x0:=fun w w' => ((Ext.refl st.nx st).new (Nat.le_refl _) w).new (Nat.le_succ _) w'
 have hxl:=hx.lenS
 have hyl:=hy.lenS
 simp [evOp_call,sets,T.get_set,newC_is,cellsOf,hx1,hy1]
 obtain ⟨s0,hs0⟩:∃ s0:St,s0 = ⟨st.nx + 1 + 1,(st.h.set st.nx (.cs 118 4 ((((T.lf.set 0 (.int .i64 (i:Int))).set 1 (.int .i64 (k:Int))).set 2 (.s d)).set 3 x))).set (st.nx + 1) (.cs 118 4 ((((T.lf.set 0 (.int .i64 (i:Int))).set 1 (.int .i64 (k:Int))).set 2 (.s d)).set 3 y))⟩:=⟨_,rfl⟩
 rw [← hs0]
 have hx0:Ext st.nx st s0:=by rw [hs0]; exact x0 _ _
 have ka:s0.h.get st.nx = some (.cs 118 4 ((((T.lf.set 0 (.int .i64 (i:Int))).set 1 (.int .i64 (k:Int))).set 2 (.s d)).set 3 x)):=by rw [hs0]; simp [T.get_set]
 have kb:s0.h.get (st.nx + 1) = some (.cs 118 4 ((((T.lf.set 0 (.int .i64 (i:Int))).set 1 (.int .i64 (k:Int))).set 2 (.s d)).set 3 y)):=by rw [hs0]; simp [T.get_set]
 clear hs0 x0
 simp [evOp_call,sets,T.get_set,loadE_eq,getC_eq,ka,kb,hxl,hyl]
 refine Gd_loop (sptI s0 st.nx (st.nx + 1) l) (fun e _ => muAt 5 l.length e) ?_ ?_
 ·exact ⟨0,Nat.zero_le _,by simp [T.get_set],by simp [T.get_set],by simp [T.get_set],rfl⟩
 rintro e s ⟨j,hj,g2,g3,g5,rfl⟩
 by_cases hlt:j < l.length
 case neg =>
  obtain rfl:j = l.length:=by omega
  simp [evOp_call,T.get_set,g2,g3,g5,loadE_eq,getC_eq,ka,kb,hxl,hyl,sets]
  exact hx0
 have hlt':(j:Int) < (l.length:Int):=by omega
 have hwj:=wrap_nat (n:=j) (by omega)
 have hg:=List.getElem?_eq_getElem hlt
 obtain ⟨p1,p2⟩:=cellsN_get _ _ _ hg
 obtain ⟨m1,o1,ty1,sz1,tr1,i1,b1,kk1,l1,c1⟩:=(hx.ext hx0).idx (st:=s) un116 io127 hlt
 obtain ⟨m2,o2,ty2,sz2,tr2,i2,b2,kk2,l2,c2⟩:=(hy.ext hx0).idx (st:=s) un116 io127 hlt
 have d0:tr1.get o1 = some (.s l[j].1):=by have:=c1 0 _ (by omega) p1; simpa using this
 have d1:tr1.get (o1 + 1) = some (.int .i64 (l[j].2:Int)):=c1 1 _ (by omega) p2
 have e0:tr2.get o2 = some (.s l[j].1):=by have:=c2 0 _ (by omega) p1; simpa using this
 have e1:tr2.get (o2 + 1) = some (.int .i64 (l[j].2:Int)):=c2 1 _ (by omega) p2
 simp [evOp_call,T.get_set,g2,g3,g5,loadE_eq,getC_eq,getsB_succ,getsB_zero,ka,kb,hxl,hyl,hlt',i1,i2,kk1,kk2,d0,d1,e0,e1,hwj]
 refine ⟨by kernel_rfl,?_⟩
 have hoj:=hok _ (List.getElem_mem hlt)
 rw [neqRName _ _ _ _ _ hoj hoj]
 simp [evOp_call,T.get_set,g2,g3,g5,hwj]
 exact ⟨⟨j + 1,hlt,by simp [T.get_set,g2],by simp [T.get_set,g3],by simp [T.get_set],rfl⟩,muAt_lt g5 (by simp [T.get_set]) hlt⟩
def spsI (s1:St) (x y:V) (N:Nat) (e:Env) (s:St):Prop:=∃ i:Nat,i ≤ N ∧ e.get 0 = some x ∧ e.get 1 = some y ∧ e.get 5 = some (.int .i64 (i:Int)) ∧ Ext s1.nx s1 s
theorem rsameparts_any (st:St) (O:TOk n B E) (hB:B ≤ 1000) (x y:V) (L K:List V) (ids:List Nat) (hx:RdRow st x 4 ids.length L) (hy:RdRow st y 4 ids.length K) (hL:RtC st E L ids (fun _ => True)) (hK:RtC st E K ids (fun _ => True)) (hl:ids.length ≤ 1000) (nt:Nat) :
  Gd (callL Tryz.prog ⟨false,[],0,nt⟩ 24 [x,y] st) fun r => r.1 = .bool true ∧ Ext st.nx st r.2:=by
 rw [Gd_callL Tryz.func24 rfl]
 have hxl:=hx.lenS
 have hyl:=hy.lenS
 simp [evOp_call,sets,T.get_set,hxl,hyl]
 refine Gd_loop (spsI st x y ids.length) (fun e _ => muAt 5 ids.length e) ?_ ?_
 ·exact ⟨0,Nat.zero_le _,by simp [T.get_set],by simp [T.get_set],by simp [T.get_set],Ext.refl _ _⟩
 rintro e s ⟨j,hj,g0,g1,g5,hxs⟩
 by_cases hlt:j < ids.length
 case neg =>
  obtain rfl:j = ids.length:=by omega
  simp [evOp_call,T.get_set,g0,g1,g5,hxl,hyl,sets]
  exact hxs
 have hlt':(j:Int) < (ids.length:Int):=by omega
 have hwj:=wrap_nat (n:=j) (by omega)
 obtain ⟨i,hi⟩:∃ i,ids[j]? = some i:=⟨_,List.getElem?_eq_getElem hlt⟩
 obtain ⟨z1,p0,p1,p2,p3,p4,p5⟩:=hL j i hi
 obtain ⟨z2,r0,r1,r2,r3,r4,r5⟩:=hK j i hi
 obtain ⟨m1,o1,ty1,sz1,tr1,i1,b1,kk1,l1,c1⟩:=(hx.ext hxs).idx (st:=s) un54 io118 hlt
 obtain ⟨m2,o2,ty2,sz2,tr2,i2,b2,kk2,l2,c2⟩:=(hy.ext hxs).idx (st:=s) un54 io118 hlt
 have d0:tr1.get o1 = some (.int .i64 (i:Int)):=by have:=c1 0 _ (by omega) p0; simpa using this
 have d1:=c1 1 _ (by omega) p1
 have d2:=c1 2 _ (by omega) p2
 have d3:=c1 3 _ (by omega) p3
 have e0:tr2.get o2 = some (.int .i64 (i:Int)):=by have:=c2 0 _ (by omega) r0; simpa using this
 have e1:=c2 1 _ (by omega) r1
 have e2:=c2 2 _ (by omega) r2
 have e3:=c2 3 _ (by omega) r3
 simp [evOp_call,T.get_set,g0,g1,g5,hxl,hyl,hlt',i1,i2,loadE_eq,getC_eq,getsB_succ,getsB_zero,kk1,kk2,d0,d1,d2,d3,e0,e1,e2,e3]
 refine ⟨by kernel_rfl,?_⟩
 rw [cxOf_call (by kernel_rfl) (by kernel_rfl),forb_nil]
 refine Gd.mono (rsamepart_any s i (E i).k (E i).d z1 z2 (E i).l (p4.ext hxs) (r4.ext hxs) (by have:=O.len i; omega) (fun e he => (O.ent i e he).1) _) ?_
 rintro ⟨r,s2⟩ ⟨hr,x2⟩
 simp only at hr x2
 subst hr
 simp [evOp_call,T.get_set,g0,g1,g5,hwj]
 exact ⟨⟨j + 1,hlt,by simp [T.get_set,g0],by simp [T.get_set,g1],by simp [T.get_set],hxs.trans (x2.mono hxs.le)⟩,muAt_lt g5 (by simp [T.get_set]) hlt⟩
end
end Go.Proofs.YtgcpgidofikcdaaGreatDoor
set_option linter.unusedSimpArgs false
set_option linter.unusedVariables false
namespace Go.Proofs.YtgcpgidofikcdaaGreatDoor
open Go.RowKit Ev
theorem op_any (st:St) (o:OpT) (y:V) (hy:RdRow st y 1 o.data.length (yv o.data)) (hd:okS o.data) (nt:Nat) :
  Gd (callL Tryz.prog ⟨false,[],0,nt⟩ 23 [opV o y] st) fun r => r.1 = opR o ∧ Ext st.nx st r.2:=by
 rw [Gd_callL Tryz.func23 rfl]
 have x0:=fun w w' => ((Ext.refl st.nx st).new (Nat.le_refl _) w).new (Nat.le_succ _) w'
 have hy1:=hy.one
 simp [evOp_call,sets,T.get_set,newC_is,opV,cellsOf,hy1]
 obtain ⟨s0,hs0⟩:∃ s0:St,s0 = ⟨st.nx + 1 + 1,(st.h.set st.nx (.cs 33 6 ((((((T.lf.set 0 (.int .i64 o.kind)).set 1 (.s o.a)).set 2 (.s o.b)).set 3 (.int .i64 o.at_)).set 4 (.int .i64 o.n)).set 5 y))).set (st.nx + 1) (.cs 51 6 ((((((T.lf.set 0 (.int .i64 0)).set 1 (.s [])).set 2 (.s [])).set 3 (.int .i64 0)).set 4 (.int .i64 0)).set 5 (.s [])))⟩:=⟨_,rfl⟩
 rw [← hs0]
 have hx0:Ext st.nx st s0:=by rw [hs0]; exact x0 _ _
 have n0:s0.nx = st.nx + 1 + 1:=by rw [hs0]
 have ka:s0.h.get st.nx = some (.cs 33 6 ((((((T.lf.set 0 (.int .i64 o.kind)).set 1 (.s o.a)).set 2 (.s o.b)).set 3 (.int .i64 o.at_)).set 4 (.int .i64 o.n)).set 5 y)):=by rw [hs0]; simp [T.get_set]
 have kb:s0.h.get (st.nx + 1) = some (.cs 51 6 ((((((T.lf.set 0 (.int .i64 0)).set 1 (.s [])).set 2 (.s [])).set 3 (.int .i64 0)).set 4 (.int .i64 0)).set 5 (.s []))):=by rw [hs0]; simp [T.get_set]
 clear hs0 x0
 simp [evOp_call,sets,T.get_set,loadE_eq,getC_eq,ka]
 rw [conv_bytes (hy.ext hx0) hd (fun _ _ => rfl)]
 simp [evOp_call,sets,T.get_set,loadE_eq,getC_eq,getsB_succ,getsB_zero,kb,storeK_g,putB_eq,roT,cellsOf]
 exact ⟨rfl,hx0.set (m:=st.nx + 1) (by omega) (by omega) _⟩
def txI (st:St) (x y:V) (N:Nat) (e:Env) (s:St):Prop:=∃ i:Nat,i ≤ N ∧ e.get 0 = some x ∧ e.get 1 = some y ∧ e.get 5 = some (.int .i64 (i:Int)) ∧ s = st
theorem texts_same (st:St) (x y:V) (L:List Tx) (hx:RdRow st x 1 L.length (sv L)) (hy:RdRow st y 1 L.length (sv L)) (hl:L.length ≤ 1000000) (nt:Nat) :
  Gd (callL Tryz.prog ⟨false,[],0,nt⟩ 15 [x,y] st) fun r => r = (.bool true,st):=by
 rw [Gd_callL Tryz.func15 rfl]
 have hxl:=hx.lenS
 have hyl:=hy.lenS
 simp [evOp_call,sets,T.get_set,hxl,hyl]
 refine Gd_loop (txI st x y L.length) (fun e _ => muAt 5 L.length e) ?_ ?_
 ·exact ⟨0,Nat.zero_le _,by simp [T.get_set],by simp [T.get_set],by simp [T.get_set],rfl⟩
 rintro e s ⟨j,hj,g0,g1,g5,rfl⟩
 by_cases hlt:j < L.length
 case neg =>
  obtain rfl:j = L.length:=by omega
  simp [evOp_call,T.get_set,g0,g1,g5,hxl,hyl,sets]
 have hlt':(j:Int) < (L.length:Int):=by omega
 have hwj:=wrap_nat (n:=j) (by omega)
 obtain ⟨p,hp⟩:∃ p,L[j]? = some p:=⟨_,List.getElem?_eq_getElem hlt⟩
 obtain ⟨m1,o1,ty1,sz1,tr1,i1,b1,kk1,l1,c1⟩:=hx.idx (st:=s) un28 io9 hlt
 obtain ⟨m2,o2,ty2,sz2,tr2,i2,b2,kk2,l2,c2⟩:=hy.idx (st:=s) un28 io9 hlt
 have t1:tr1.get o1 = some (.s p):=by have:=c1 0 (.s p) (by omega) (by simpa using sv_get hp); simpa using this
 have t2:tr2.get o2 = some (.s p):=by have:=c2 0 (.s p) (by omega) (by simpa using sv_get hp); simpa using this
 simp [evOp_call,T.get_set,g0,g1,g5,hxl,hyl,hlt',i1,i2,loadE_eq,getC_eq,kk1,kk2,t1,t2,hwj]
 exact ⟨by kernel_rfl,⟨j + 1,hlt,by simp [T.get_set,g0],by simp [T.get_set,g1],by simp [T.get_set],rfl⟩,muAt_lt g5 (by simp [T.get_set]) hlt⟩
theorem told_same (st:St) (w:Rs) (ry rz z:V) (hry:RdRow st ry 1 w.data.length (yv w.data)) (hd:okS w.data) (hrz:RdRow st rz 1 w.names.length (sv w.names)) (hz:RdRow st z 1 w.names.length (sv w.names)) (hl:w.names.length ≤ 1000000) (nt:Nat) :
  Gd (callL Tryz.prog ⟨false,[],0,nt⟩ 21 [resV w.err w.node w.ty w.links w.size ry rz,rresV w z] st) fun r => r.1 = .bool true ∧ Ext st.nx st r.2:=by
 rw [Gd_callL Tryz.func21 rfl]
 have x0:=fun w w' => ((Ext.refl st.nx st).new (Nat.le_refl _) w).new (Nat.le_succ _) w'
 have h1:=hry.one
 have h2:=hrz.one
 have h3:=hz.one
 simp [evOp_call,sets,T.get_set,newC_is,resV,rresV,cellsOf,h1,h2,h3]
 obtain ⟨s0,hs0⟩:∃ s0:St,s0 = ⟨st.nx + 1 + 1,(st.h.set st.nx (.cs 30 7 (((((((T.lf.set 0 (.int .i64 w.err)).set 1 (.int .i64 (w.node:Int))).set 2 (.int .i64 (w.ty:Int))).set 3 (.int .i64 w.links)).set 4 (.int .i64 (w.size:Int))).set 5 ry).set 6 rz))).set (st.nx + 1) (.cs 48 7 (((((((T.lf.set 0 (.int .i64 w.err)).set 1 (.int .i64 (w.node:Int))).set 2 (.int .i64 (w.ty:Int))).set 3 (.int .i64 w.links)).set 4 (.int .i64 (w.size:Int))).set 5 (.s w.data)).set 6 z))⟩:=⟨_,rfl⟩
 rw [← hs0]
 have hx0:Ext st.nx st s0:=by rw [hs0]; exact x0 _ _
 have ka:s0.h.get st.nx = some (.cs 30 7 (((((((T.lf.set 0 (.int .i64 w.err)).set 1 (.int .i64 (w.node:Int))).set 2 (.int .i64 (w.ty:Int))).set 3 (.int .i64 w.links)).set 4 (.int .i64 (w.size:Int))).set 5 ry).set 6 rz)):=by rw [hs0]; simp [T.get_set]
 have kb:s0.h.get (st.nx + 1) = some (.cs 48 7 (((((((T.lf.set 0 (.int .i64 w.err)).set 1 (.int .i64 (w.node:Int))).set 2 (.int .i64 (w.ty:Int))).set 3 (.int .i64 w.links)).set 4 (.int .i64 (w.size:Int))).set 5 (.s w.data)).set 6 z)):=by rw [hs0]; simp [T.get_set]
 clear hs0 x0
 simp [evOp_call,sets,T.get_set,loadE_eq,getC_eq,ka,kb]
 rw [conv_bytes (hry.ext hx0) hd (fun _ _ => rfl)]
 simp [evOp_call,sets,T.get_set,loadE_eq,getC_eq,ka,kb]
 refine Gd.mono (texts_same s0 rz z w.names (hrz.ext hx0) (hz.ext hx0) hl _) ?_
 rintro _ rfl
 simp [evOp_call,sets,T.get_set]
 exact hx0
def readsB (k:Int):Bool:=decide (k = 8) || decide (k = 9) || decide (k = 12) || decide (k = 13)
theorem reads_any (st:St) (k:Int) (nt:Nat) :
  Gd (callL Tryz.prog ⟨false,[],0,nt⟩ 17 [.int .i64 k] st) fun r => r = (.bool (readsB k),st):=by
 rw [Gd_callL Tryz.func17 rfl]
 by_cases h8:k = 8
 ·subst h8; simp [evOp_call,sets,T.get_set]; rfl
 by_cases h9:k = 9
 ·subst h9; simp [evOp_call,sets,T.get_set]; rfl
 by_cases h12:k = 12
 ·subst h12; simp [evOp_call,sets,T.get_set]; rfl
 by_cases h13:k = 13
 ·subst h13; simp [evOp_call,sets,T.get_set]; rfl
 have e:readsB k = false:=by unfold readsB; simp [h8,h9,h12,h13]
 rw [e]
 simp [evOp_call,sets,T.get_set,h8,h9,h12,h13]
end Go.Proofs.YtgcpgidofikcdaaGreatDoor
set_option linter.unusedSimpArgs false
set_option linter.unusedVariables false
namespace Go.Proofs.YtgcpgidofikcdaaGreatDoor
open Go.RowKit Ev
theorem conv_ok {c:Cx} {e:Env} {d:Option Nat} {t u ty:TypeId} {q:Nat} {p:String} {af:Array Edge} {g:Option (Nat × Bool)} {ops:List Oper} {i:Nat} {s0:St} {rs:List (Nat × Nat × Nat)} {v:V} {b:Nat} (hv:e.get q = some v) (hb:BlkOf v b) (hc:c.all = false) (hf:forb (befOf ops i) rs c.l = []):(cxOf c ops ⟨d,.convert t u (.tmp q),ty,p,af,g⟩ i rs s0 e).ok b = true:=by
 have h:cxOf c ops ⟨d,.convert t u (.tmp q),ty,p,af,g⟩ i rs s0 e = (match e.get q with
   | some v => (match blkOf v with
    | some m => ⟨c.all,(0,m) :: (m + 1,s0.nx) :: forb (befOf ops i) rs c.l,s0.nx,c.nt⟩
    | none => ⟨true,[],s0.nx,c.nt⟩)
   | none => ⟨true,[],s0.nx,c.nt⟩):=rfl
 have hbk:blkOf v = some b:=by rcases hb with ⟨_,_,_,rfl⟩ | ⟨_,_,_,rfl⟩ <;> rfl
 have hi:inF [(0,b),(b + 1,s0.nx)] b = false:=by rw [inF_cons,if_neg (by omega),inF_cons,if_neg (by omega)]; rfl
 rw [h,hv]
 simp only [hbk,hf,hc]
 unfold Cx.ok
 simp only [hi]
 rfl
def lpI (st:St) (x:V) (E:Tr) (ids:List Nat) (e:Env) (s:St):Prop:=∃ (j:Nat) (y:V) (K:List V),j ≤ ids.length ∧ e.get 0 = some x ∧ e.get 3 = some y ∧ e.get 4 = some (.int .i64 (j:Int)) ∧ OwnRow st.nx s y 4 j K ∧ RtC s E K (ids.take j) (fun b => st.nx ≤ b ∧ ¬ BlkOf y b) ∧ Ext st.nx st s
def lpJ (s1:St) (x y:V) (j i b:Nat) (E:Tr) (e:Env) (s:St):Prop:=∃ (k:Nat) (z:V) (t:T V),k ≤ (E i).l.length ∧ e.get 0 = some x ∧ e.get 3 = some y ∧ e.get 4 = some (.int .i64 (j:Int)) ∧ e.get 5 = some (.p b 0) ∧ e.get 6 = some (.int .i64 (k:Int)) ∧
 s.h.get b = some (.cs 118 4 t) ∧ t.get 0 = some (.int .i64 (i:Int)) ∧ t.get 1 = some (.int .i64 ((E i).k:Int)) ∧ t.get 2 = some (.s (E i).d) ∧ t.get 3 = some z ∧ OwnRow s1.nx s z 2 k (cellsN ((E i).l.take k)) ∧ FrW s1 s b
theorem lparts_any {st:St} {n B:Nat} {E:Tr} (O:TOk n B E) (hB:B ≤ 1000) (x:V) (L:List V) (ids:List Nat) (hx:RdRow st x 4 ids.length L) {av:Nat → Prop} (hL:PtC st E L ids av) (hl:ids.length ≤ 1000) (nt:Nat) :
  Gd (callL Tryz.prog ⟨false,[],0,nt⟩ 25 [x] st) fun r => ∃ K,RdRow r.2 r.1 4 ids.length K ∧ RtC r.2 E K ids (fun _ => True) ∧ Ext st.nx st r.2:=by
 rw [Gd_callL Tryz.func25 rfl]
 have hxl:=hx.lenS
 simp [evOp_call,sets,T.get_set]
 refine Gd_loop (lpI st x E ids) (fun e _ => muAt 4 ids.length e) ?_ ?_
 ·exact ⟨0,.c (.slice none 0 0),[],Nat.zero_le _,by simp [T.get_set],by simp [T.get_set],by simp [T.get_set],OwnRow.nil _ _ _,fun j i hj => by simp at hj,Ext.refl _ _⟩
 rintro e s ⟨j,y,K,hj,g0,g3,g4,hy,hp,hxs⟩
 have hle:=hxs.le
 by_cases hlt:j < ids.length
 case neg =>
  obtain rfl:j = ids.length:=by omega
  simp [evOp_call,T.get_set,g0,g3,g4,hxl,sets]
  rw [List.take_length] at hp
  exact ⟨K,hy.rd,hp.keep (Nat.le_refl _) (fun b _ _ => ⟨rfl,trivial⟩),hxs⟩
 have hlt':(j:Int) < (ids.length:Int):=by omega
 have hwj:=wrap_nat (n:=j) (by omega)
 obtain ⟨i,hi⟩:∃ i,ids[j]? = some i:=⟨_,List.getElem?_eq_getElem hlt⟩
 obtain ⟨d,z0,p0,p1,p2,p3,pd,pz,pb⟩:=hL j i hi
 obtain ⟨m1,o1,ty1,sz1,tr1,i1,b1,kk1,l1,c1⟩:=hx.idx (st:=st) un36 io104 hlt
 have b1':m1 < st.nx:=b1
 have d0:tr1.get o1 = some (.int .i64 (i:Int)):=by have:=c1 0 _ (by omega) p0; simpa using this
 have d1:=c1 1 _ (by omega) p1
 have d2:=c1 2 _ (by omega) p2
 have d3:=c1 3 _ (by omega) p3
 have kks:=(hxs.keep m1 b1').trans kk1
 have hll:=O.len i
 have hzl:=pz.lenS
 simp [evOp_call,T.get_set,g0,g3,g4,hxl,hlt',i1,loadE_eq,getC_eq,kks,d0,d1,d2]
 refine ⟨by kernel_rfl,?_⟩
 rw [conv_bytes (pd.ext hxs) (O.dat i).1 (fun b hb => conv_ok (by simp [T.get_set]) hb rfl rfl)]
 simp [evOp_call,T.get_set,newC_is,sets]
 rw [cxOf_store (by kernel_rfl),forb_cons (by kernel_rfl) rfl]
 simp [evOp_call,T.get_set,sets,storeK_g,putB_eq,roT,cellsOf]
 obtain ⟨t1,ht1⟩:∃ t1:T V,t1 = ((((((((T.lf.set 0 (V.int .i64 0)).set 1 (.int .i64 0)).set 2 (.s [])).set 3 (.c (.slice none 0 0))).set 0 (.int .i64 (i:Int))).set 1 (.int .i64 ((E i).k:Int))).set 2 (.s (E i).d)).set 3 (.c (.slice none 0 0))):=⟨_,rfl⟩
 rw [← ht1]
 have q0:t1.get 0 = some (.int .i64 (i:Int)):=by rw [ht1]; simp [T.get_set]
 have q1:t1.get 1 = some (.int .i64 ((E i).k:Int)):=by rw [ht1]; simp [T.get_set]
 have q2:t1.get 2 = some (.s (E i).d):=by rw [ht1]; simp [T.get_set]
 have q3:t1.get 3 = some (.c (.slice none 0 0)):=by rw [ht1]; simp [T.get_set]
 clear ht1
 obtain ⟨s1,hs1⟩:∃ s1:St,s1 = ⟨s.nx + 1,s.h.set s.nx (.cs 118 4 t1)⟩:=⟨_,rfl⟩
 rw [← hs1]
 have x1:Ext s.nx s s1:=by rw [hs1]; exact (Ext.refl s.nx s).new (Nat.le_refl _) _
 have n1:s1.nx = s.nx + 1:=by rw [hs1]
 have kp1:s1.h.get s.nx = some (.cs 118 4 t1):=by rw [hs1]; exact T.get_set_same _ _ _
 clear hs1
 refine Gd_loop (lpJ s1 x y j i s.nx E) (fun e _ => muAt 6 (E i).l.length e) ?_ ?_
 ·exact ⟨0,.c (.slice none 0 0),t1,Nat.zero_le _,by simp [T.get_set,g0],by simp [T.get_set,g3],by simp [T.get_set,g4],by simp [T.get_set],by simp [T.get_set],kp1,q0,q1,q2,q3,OwnRow.nil _ _ _,FrW.refl _ _⟩
 have G4:=g4
 clear g0 g3 g4 q0 q1 q2 q3 kp1
 rintro e2 s2 ⟨k,z,t,hk,g0,g3,g4,g5,g6,kp,q0,q1,q2,q3,hz,fr⟩
 have hx1:Ext st.nx st s1:=hxs.trans (x1.mono hle)
 have hx2:Ext st.nx st s2:=fr.toExt hx1 (by omega)
 have n2:=fr.le
 have kk2:=(hx2.keep m1 b1').trans kk1
 have hzl2:=(pz.ext hx2)
 by_cases hltk:k < (E i).l.length
 case neg =>
  obtain rfl:k = (E i).l.length:=by omega
  rw [List.take_length] at hz
  have hz1:V.one z = true:=hz.rd.one
  simp [evOp_call,T.get_set,g0,g3,g4,g5,g6,i1,loadE_eq,getC_eq,getsB_succ,getsB_zero,kk2,d3,hzl,kp,q0,q1,q2,q3,hz1]
  refine evOp_build1 (v:=.g [.int .i64 (i:Int),.int .i64 ((E i).k:Int),.s (E i).d,z]) (cs:=[.int .i64 (i:Int),.int .i64 ((E i).k:Int),.s (E i).d,z]) (fun k => el54 k) (fun k => ze118 k) rfl (by decide) (by simp [T.get_set]) (fun k => by simp [cellsOf,hz1]) rfl ?_
  have x8:=fun w => (Ext.refl s2.nx s2).new (Nat.le_refl _) w
  have hy2:OwnRow st.nx s2 y 4 j K:=hy.keepIf (by omega) fun c hc _ => (fr.keep c (by omega) (by omega)).trans (x1.keep c hc)
  have hp2:RtC s2 E K (ids.take j) (fun b => st.nx ≤ b ∧ ¬ BlkOf y b):=hp.keep (by omega) fun c hc h => ⟨(fr.keep c (by omega) (by omega)).trans (x1.keep c hc),h⟩
  have hzb:∀ b,BlkOf z b → s1.nx ≤ b ∧ b < s2.nx:=fun b hb => own_blk hz b hb
  have hyb:∀ b,BlkOf y b → st.nx ≤ b ∧ b < s.nx:=fun b hb => own_blk hy b hb
  simp [evOp_call,T.get_set,g3]
  refine Gd_append un54 un54 io118 (n:=j) (lx:=1) (new:=[.int .i64 (i:Int),.int .i64 ((E i).k:Int),.s (E i).d,z]) (hy2.ext (x8 _)) (by show st.nx ≤ s2.nx + 1; omega) (by decide) (fun s' h => by cases h) (fun k => rfl) (fun k => by simp [getC_eq,getsB_succ,getsB_zero,T.get_set,sets]) rfl (by omega) ?_
  intro y' s9 ho he hk3 hk4
  simp [evOp_call,T.get_set,g0,g4,hwj]
  have h8:=x8 (.cs 118 4 (sets [.int .i64 (i:Int),.int .i64 ((E i).k:Int),.s (E i).d,z] 0 .lf))
  refine ⟨⟨j + 1,y',_,hlt,by simp [T.get_set,g0],by simp [T.get_set],by simp [T.get_set],ho,?_,hx2.trans ((h8.mono (by omega)).trans he)⟩,muAt_lt G4 (by simp [T.get_set]) hlt⟩
  have et:ids.take (j + 1) = ids.take j ++ [i]:=by rw [List.take_add_one,hi]; rfl
  rw [et]
  have hp3:=hp2.app (by rw [List.length_take,hy.1]; omega) (i:=i) (z:=z) hz.rd fun b hb => ⟨(hzb b hb).2,by have:=(hzb b hb).1; omega,fun h => by have:=(hyb b h).2; have:=(hzb b hb).1; omega⟩
  have hp4:=hp3.keep (s':=⟨s2.nx + 1,s2.h.set s2.nx (.cs 118 4 (sets [.int .i64 (i:Int),.int .i64 ((E i).k:Int),.s (E i).d,z] 0 .lf))⟩) (av':=fun b => b < s2.nx ∧ st.nx ≤ b ∧ ¬ BlkOf y b) h8.le fun b hb h => ⟨h8.keep b hb,hb,h⟩
  refine hp4.keep he.le fun b hb h => ⟨hk3 b hb fun o ln e => h.2.2 (.inr ⟨_,_,_,e⟩),h.2.1,fun hbb => ?_⟩
  rcases hk4 with rfl | ⟨ln,rfl⟩
  ·exact h.2.2 hbb
  ·rcases hbb with ⟨_,_,_,e⟩ | ⟨_,_,_,e⟩
   ·cases e
   ·injection e with e
    have:s2.nx + 1 = b:=e
    omega
 have hltk':(k:Int) < ((E i).l.length:Int):=by omega
 have hwk:=wrap_nat (n:=k) (by omega)
 obtain ⟨m2,o2,ty2,sz2,tr2,i2,b2,kk3,l2,c2⟩:=hzl2.idx (st:=s2) un90 io109 hltk
 have hg:=List.getElem?_eq_getElem hltk
 obtain ⟨r1,r2⟩:=cellsN_get _ _ _ hg
 have e0:tr2.get o2 = some (.s (E i).l[k].1):=by have:=c2 0 _ (by omega) r1; simpa using this
 have e1:tr2.get (o2 + 1) = some (.int .i64 ((E i).l[k].2:Int)):=c2 1 _ (by omega) r2
 simp [evOp_call,T.get_set,g0,g3,g4,g5,g6,i1,i2,loadE_eq,getC_eq,kk2,kk3,d3,hzl,kp,q3,hltk',e0,e1]
 refine ⟨by kernel_rfl,?_⟩
 refine evOp_build1 (v:=.g [.s (E i).l[k].1,.int .i64 ((E i).l[k].2:Int)]) (cs:=[.s (E i).l[k].1,.int .i64 ((E i).l[k].2:Int)]) (fun k => el116 k) (fun k => ze127 k) rfl (by decide) (by simp [T.get_set]) (fun k => rfl) rfl ?_
 have x8:=fun w => (Ext.refl s2.nx s2).new (Nat.le_refl _) w
 simp [evOp_call,T.get_set]
 rw [cxOf_call (by kernel_rfl) (by kernel_rfl),forb_cons (by kernel_rfl) rfl]
 refine Gd_append un116 un116 io127 (n:=k) (lx:=1) (new:=[.s (E i).l[k].1,.int .i64 ((E i).l[k].2:Int)]) (hz.ext (x8 _)) (by show s1.nx ≤ s2.nx + 1; omega) (by decide) (fun s' h => by cases h) (fun k => rfl) (fun k => by simp [getC_eq,getsB_succ,getsB_zero,T.get_set,sets]) rfl (by omega) ?_
 intro z' s9 ho he hk3 hk4
 have h8:=x8 (.cs 127 2 (sets [.s (E i).l[k].1,.int .i64 ((E i).l[k].2:Int)] 0 .lf))
 have n9:s2.nx + 1 ≤ s9.nx:=he.le
 have kp9:s9.h.get s.nx = some (.cs 118 4 t):=(he.keep s.nx (by omega)).trans ((h8.keep s.nx (by omega)).trans kp)
 have hz1:V.one z' = true:=ho.rd.one
 simp [evOp_call,T.get_set,sets,g0,g3,g4,g5,g6]
 rw [cxOf_store (by kernel_rfl),forb_step (by kernel_rfl) (forb_cons (by kernel_rfl) rfl)]
 simp [evOp_call,T.get_set,sets,storeK_1 hz1,putB_eq,roT,kp9,hwk,g0,g3,g4,g5,g6]
 refine ⟨⟨k + 1,z',t.set 3 z',hltk,by simp [T.get_set,g0],by simp [T.get_set,g3],by simp [T.get_set,g4],by simp [T.get_set,g5],by simp [T.get_set],T.get_set_same _ _ _,by simp [T.get_set,q0],by simp [T.get_set,q1],by simp [T.get_set,q2],by simp [T.get_set],?_,?_⟩,muAt_lt g6 (by simp [T.get_set]) hltk⟩
 ·have et:cellsN ((E i).l.take (k + 1)) = cellsN ((E i).l.take k) ++ [.s (E i).l[k].1,.int .i64 ((E i).l[k].2:Int)]:=by
   rw [List.take_add_one,hg,cellsN_app]; rfl
  rw [et]
  exact ho.keepIf (Nat.le_refl _) fun c hc ⟨o,ln,e⟩ => T.get_set_ne _ _ (by have:=(own_blk ho c (.inr ⟨_,_,_,e⟩)).1; omega)
 ·exact ⟨by show s1.nx ≤ s9.nx; omega,fun w => set_wf (by omega) _ (he.wf (h8.wf (fr.wf w))),fun c hc hcb => (T.get_set_ne _ _ (Ne.symm hcb)).trans ((he.keep c hc).trans ((h8.keep c (by omega)).trans (fr.keep c hc hcb)))⟩
end Go.Proofs.YtgcpgidofikcdaaGreatDoor

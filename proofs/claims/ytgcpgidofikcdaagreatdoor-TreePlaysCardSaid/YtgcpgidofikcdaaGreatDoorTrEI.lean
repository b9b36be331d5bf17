/-
  PLAIN: TrE, TrF, TrP, TrG, TrH, TrI, in one text.
-/
import Derived.Test.YtgcpgidofikcdaaGreatDoorTrAD
import Derived.Test.YtgcpgidofikcdaaGreatDoorTmVZ
set_option maxRecDepth 20000
set_option maxHeartbeats 16000000
set_option linter.unusedSimpArgs false
set_option linter.unusedVariables false
namespace Go.Proofs.YtgcpgidofikcdaaGreatDoor
open Go.RowKit Ev
def upI (E:Tr):Nat → Nat → Nat
 | 0,d => d
 | k + 1,d => upI E k (E d).up
theorem upI_add (E:Tr) (k:Nat):∀ (j d:Nat),upI E (j + k) d = upI E k (upI E j d)
 | 0,d => by rw [Nat.zero_add]; rfl
 | j + 1,d => by
  rw [show j + 1 + k = (j + k) + 1 by omega]
  exact upI_add E k j (E d).up
theorem TOk.upD {n B:Nat} {E:Tr} (h:TOk n B E):∀ (k d:Nat),(E d).k = 2 → (E (upI E k d)).k = 2
 | 0,d,hd => hd
 | k + 1,d,hd => h.upD k _ (h.up1 hd).2.2
theorem pig:∀ (m:Nat) (L:List Nat),L.Nodup → (∀ x ∈ L,x < m) → L.length ≤ m
 | 0,L,_,h => by
  cases L with
  | nil => exact Nat.le_refl _
  | cons x L => exact absurd (h x (by simp)) (Nat.not_lt_zero _)
 | m + 1,L,hn,h => by
  have h1:=pig m (L.erase m) (hn.erase m) fun x hx => by
   have h2:=(hn.mem_erase_iff).1 hx
   have:=h x h2.2
   omega
  have h3:L.length ≤ (L.erase m).length + 1:=by
   rw [List.length_erase]
   split <;> omega
  omega
theorem least_of {P:Nat → Prop}:∀ (k:Nat),P k → ∃ j,j ≤ k ∧ P j ∧ ∀ i,i < j → ¬ P i:=by
 intro k
 induction k using Nat.strongRecOn with
 | _ k ih =>
 intro h
 by_cases hc:∃ i,i < k ∧ P i
 ·obtain ⟨i,hi,hp⟩:=hc
  obtain ⟨j,h1,h2⟩:=ih i hi hp
  exact ⟨j,by omega,h2⟩
 ·exact ⟨k,Nat.le_refl _,h,fun i hi hp => hc ⟨i,hi,hp⟩⟩
theorem TOk.wnI {n B:Nat} {E:Tr} (h:TOk n B E) {i d:Nat} (hd:(E d).k = 2):Wn E i d ↔ ∃ k,k ≤ n ∧ upI E k d = i:=by
 constructor
 ·intro hw
  have h1:∃ k,upI E k d = i:=by
   clear hd
   induction hw with
   | here => exact ⟨0,rfl⟩
   | up _ _ ih => obtain ⟨k,hk⟩:=ih; exact ⟨k + 1,hk⟩
  obtain ⟨k0,hk0⟩:=h1
  obtain ⟨k,_,hk,hmin⟩:=least_of (P:=fun k => upI E k d = i) k0 hk0
  refine ⟨k,?_,hk⟩
  have hnd:((List.range (k + 1)).map fun j => upI E j d).Nodup:=by
   unfold List.Nodup
   rw [List.pairwise_iff_getElem]
   intro a b ha hb hab e
   simp only [List.getElem_map,List.getElem_range,List.length_map,List.length_range] at e ha hb
   have e1:=upI_add E (k - b) a d
   have e2:=upI_add E (k - b) b d
   rw [← e,← e1,show b + (k - b) = k by omega,hk] at e2
   exact hmin (a + (k - b)) (by omega) e2.symm
  have hp:=pig (n + 1) _ hnd fun x hx => by
   obtain ⟨j,_,rfl⟩:=List.mem_map.1 hx
   have:=h.upD j d hd
   have:=(h.kle (i:=upI E j d) (by omega)).2
   omega
  have hm1:((List.range k).map fun j => upI E j d).length ≤ n:=by
   have hnd2:(0 :: (List.range (k + 1)).map fun j => upI E j d).Nodup:=by
    refine List.nodup_cons.2 ⟨fun h0 => ?_,hnd⟩
    obtain ⟨j,_,e⟩:=List.mem_map.1 h0
    have:=h.upD j d hd
    rw [e,h.zero] at this
    cases this
   have hp2:=pig (n + 1) _ hnd2 fun x hx => by
    rcases List.mem_cons.1 hx with rfl | hx
    ·omega
    ·obtain ⟨j,_,rfl⟩:=List.mem_map.1 hx
     have:=h.upD j d hd
     have:=(h.kle (i:=upI E j d) (by omega)).2
     omega
   simp only [List.length_cons,List.length_map,List.length_range] at hp2 ⊢
   omega
  simp only [List.length_map,List.length_range] at hm1
  exact hm1
 ·rintro ⟨k,hk,rfl⟩
  clear hk
  induction k generalizing d with
  | zero => exact .here
  | succ k ih =>
   have h1:=ih (h.up1 hd).2.2
   by_cases e:d = 1
   ·subst e
    have e2:upI E (k + 1) 1 = upI E k 1:=by
     show upI E k (E 1).up = _
     rw [h.root.2]
    rw [e2]
    rw [h.root.2] at h1
    exact h1
   ·exact .up e h1
theorem TOk.wnD {n B:Nat} {E:Tr} (h:TOk n B E) {i d:Nat} (hd:(E d).k = 2) (hw:Wn E i d):(E i).k = 2:=by
 obtain ⟨k,_,rfl⟩:=(h.wnI hd).1 hw
 exact h.upD k d hd
theorem reads_same {n:Nat} {E:Tr} {o:OpT} (h:o.kind = 8 ∨ o.kind = 9 ∨ o.kind = 12 ∨ o.kind = 13):(doE n E o).2 = E:=by
 unfold doE
 rcases h with h | h | h | h
 ·rw [if_neg (by omega),if_neg (by omega),if_neg (by omega),if_neg (by omega),if_neg (by omega),if_neg (by omega),if_neg (by omega),if_pos h]
  unfold readlinkE
  (repeat' split) <;> rfl
 ·rw [if_neg (by omega),if_neg (by omega),if_neg (by omega),if_neg (by omega),if_neg (by omega),if_neg (by omega),if_neg (by omega),if_neg (by omega),if_pos h]
  unfold readE
  (repeat' split) <;> rfl
 ·rw [if_neg (by omega),if_neg (by omega),if_neg (by omega),if_neg (by omega),if_neg (by omega),if_neg (by omega),if_neg (by omega),if_neg (by omega),if_neg (by omega),if_neg (by omega),if_neg (by omega),if_pos h]
  unfold statE
  (repeat' split) <;> rfl
 ·rw [if_neg (by omega),if_neg (by omega),if_neg (by omega),if_neg (by omega),if_neg (by omega),if_neg (by omega),if_neg (by omega),if_neg (by omega),if_neg (by omega),if_neg (by omega),if_neg (by omega),if_neg (by omega),if_pos h]
  unfold namesE
  (repeat' split) <;> rfl
structure LkW (n B:Nat) (E:Tr):Prop where
 n2:n ≤ 64
 z:(E 0).l = []
 ris:∀ i,RisT (E i).l
 len:∀ i,(E i).l.length ≤ B
theorem TOk.lkw {n B:Nat} {E:Tr} (h:TOk n B E):LkW n B E:=⟨h.n2.2,h.lst 0 (by rw [h.zero]; decide),h.ris,h.len⟩
theorem LkW.leave1 {n B:Nat} {E:Tr} (h:LkW n B E) (a:Nat) (p:Tx):LkW n B (leave1 E a p):=by
 have f:∀ j,(Go.Proofs.YtgcpgidofikcdaaGreatDoor.leave1 E a p j).l = if j = a then (E a).l.eraseIdx (cntT p (E a).l) else (E j).l:=fun j => by
  unfold Go.Proofs.YtgcpgidofikcdaaGreatDoor.leave1 updE
  split
  ·rfl
  ·rfl
 refine ⟨h.n2,?_,fun i => ?_,fun i => ?_⟩
 ·rw [f]
  split
  ·rename_i e; subst e; rw [h.z]; rfl
  ·exact h.z
 ·rw [f]
  split
  ·exact ris_del (h.ris a)
  ·exact h.ris i
 ·rw [f]
  split
  ·exact Nat.le_trans (List.length_eraseIdx_le _ _) (h.len a)
  ·exact h.len i
theorem LkW.enter {n B:Nat} {E:Tr} (h:LkW n B E) {a i:Nat} {p:Tx} (ha:a ≠ 0) (hn:entT p (E a).l = none):LkW n (B + 1) (enterE E a p i):=by
 have f:=fun j => (enter_f E a p i j).1.l
 refine ⟨h.n2,?_,fun j => ?_,fun j => ?_⟩
 ·rw [f,if_neg (Ne.symm ha)]; exact h.z
 ·rw [f]
  split
  ·exact ris_ins (h.ris a) hn
  ·exact h.ris j
 ·rw [f]
  split
  ·rw [insT_length (cntT_le _ _)]; have:=h.len a; omega
  ·have:=h.len j; omega
def dropR (n:Nat) (E:Tr) (a:Nat) (p:Tx) (i:Nat):Tr:=if cntE n (leave1 E a p) i = 0 then updE (leave1 E a p) i noE else leave1 E a p
def SameR (E E':Tr):Prop:=∀ j,(E j).k = (E' j).k ∧ (E j).d = (E' j).d ∧ (E j).l = (E' j).l
theorem drop_same {n:Nat} {E:Tr} (C:Ct n E) (hb:∀ j,cntE n E j ≤ 70000) {a i:Nat} {p:Tx} (he:entT p (E a).l = some i) (h3:3 ≤ i) (ha:a ≤ n):SameR (dropR n E a p i) (leaveE E a p):=by
 have hg:=entT_some he
 have h1:1 ≤ cntE n E i:=Nat.le_trans (cntL_pos (List.mem_of_getElem? hg)) (sumR_le (f:=fun a => cntL (E a).l i) ha)
 have hcm:=hb i
 have hnm:=C.nm i h3
 have hw:IntKind.i64.wrap ((E i).nm - 1) = (cntE n E i:Int) - 1:=by rw [wrap_in (by omega) (by omega)]; omega
 have hc:cntE n (Go.Proofs.YtgcpgidofikcdaaGreatDoor.leave1 E a p) i + 1 = cntE n E i:=by
  have h4:=cntE_one (E:=E) (E':=Go.Proofs.YtgcpgidofikcdaaGreatDoor.leave1 E a p) ha (fun k hk => by unfold Go.Proofs.YtgcpgidofikcdaaGreatDoor.leave1; rw [updE_ne _ _ hk]) i
  have e:(Go.Proofs.YtgcpgidofikcdaaGreatDoor.leave1 E a p a).l = (E a).l.eraseIdx (cntT p (E a).l):=by unfold Go.Proofs.YtgcpgidofikcdaaGreatDoor.leave1; rw [updE_same]
  rw [e] at h4
  have:=cntL_era hg i
  rw [if_pos rfl] at this
  omega
 have e1:(Go.Proofs.YtgcpgidofikcdaaGreatDoor.leave2 (Go.Proofs.YtgcpgidofikcdaaGreatDoor.leave1 E a p) i i).nm = IntKind.i64.wrap ((E i).nm - 1):=by
  unfold Go.Proofs.YtgcpgidofikcdaaGreatDoor.leave2
  rw [updE_same]
  show IntKind.i64.wrap ((Go.Proofs.YtgcpgidofikcdaaGreatDoor.leave1 E a p i).nm - 1) = _
  unfold Go.Proofs.YtgcpgidofikcdaaGreatDoor.leave1 updE
  split
  ·rename_i e; subst e; rfl
  ·rfl
 have e2:leaveE E a p = leave3 (leave2 (leave1 E a p) i) i:=by unfold leaveE; rw [he]
 have f2:SameR (leave1 E a p) (leave2 (leave1 E a p) i):=fun j => by
  unfold Go.Proofs.YtgcpgidofikcdaaGreatDoor.leave2
  by_cases e:j = i
  ·subst e; rw [updE_same]; exact ⟨rfl,rfl,rfl⟩
  ·rw [updE_ne _ _ e]; exact ⟨rfl,rfl,rfl⟩
 rw [e2]
 unfold dropR leave3
 rw [e1,hw]
 by_cases h0:cntE n (leave1 E a p) i = 0
 ·rw [if_pos h0,if_pos (by omega)]
  intro j
  by_cases e:j = i
  ·subst e; rw [updE_same,updE_same]; exact ⟨rfl,rfl,rfl⟩
  ·rw [updE_ne _ _ e,updE_ne _ _ e]; exact f2 j
 ·rw [if_neg h0,if_neg (by omega)]
  exact f2
theorem RefG.same {s:St} {q m n:Nat} {Z:Nat → V} {E E':Tr} (h:RefG s q m n Z E) (k:SameR E E'):RefG s q m n Z E':=by
 obtain ⟨h1,⟨t2,h3,h4⟩,h5,h6⟩:=h
 refine ⟨h1,⟨t2,h3,fun i hi => ?_⟩,h5,h6⟩
 obtain ⟨a0,a1,a2,a3,a4,a5⟩:=h4 i hi
 obtain ⟨k1,k2,k3⟩:=k i
 have hp:partN E' i = partN E i:=by unfold partN; rw [k1]
 exact ⟨by rw [hp]; exact a0,by rw [← k1]; exact a1,by rw [← k2]; exact a2,a3,by rw [← k3]; exact a4,a5⟩
theorem yield_why {E:Tr} {o i:Nat} (h:yieldE E o i = 0) (h0:o ≠ 0):o ≠ 2 ∧ ((E o).k = 2 ↔ (E i).k = 2) ∧ (E o).l = []:=by
 unfold yieldE at h
 rw [if_neg h0] at h
 by_cases c2:o = 2
 ·rw [if_pos c2] at h; cases h
 rw [if_neg c2] at h
 by_cases c5:(E o).k = 2 ∧ (E i).k ≠ 2
 ·rw [if_pos c5] at h; cases h
 rw [if_neg c5] at h
 by_cases c4:(E o).k ≠ 2 ∧ (E i).k = 2
 ·rw [if_pos c4] at h; cases h
 rw [if_neg c4] at h
 by_cases c6:(E o).l ≠ []
 ·rw [if_pos c6] at h; cases h
 refine ⟨c2,⟨fun k => ?_,fun k => ?_⟩,by simpa using c6⟩
 ·exact Classical.byContradiction fun hk => c5 ⟨k,hk⟩
 ·exact Classical.byContradiction fun hk => c4 ⟨hk,k⟩
theorem mid_gone {n B:Nat} {E:Tr} (h:TOk n B E) (C:Ct n E) (hB:B ≤ 1000) {to fr i:Nat} {q old:Tx} (d1:(E to).k = 2) (t1:(E fr).k = 2) (he:entT old (E fr).l = some i) (c6:findE E to q ≠ i) (c7:yieldE E (findE E to q) i = 0) :
  TOk n B (leaveE E to q) ∧ (leaveE E to q to).k = 2 ∧ entT q (leaveE E to q to).l = none ∧ ¬ (to = 1 ∧ q = lostT) ∧ (leaveE E to q fr).k = 2 ∧ entT old (leaveE E to q fr).l = some i ∧ Ct n (leaveE E to q) ∧ (leaveE E to q i).k = (E i).k:=by
 have hl0:¬ (to = 1 ∧ q = lostT):=fun e => by
  have e2:findE E to q = 2:=if_pos e
  rw [e2] at c7
  exact (yield_why c7 (by decide)).1 rfl
 cases ho:entT q (E to).l with
 | none =>
  have e1:leaveE E to q = E:=by unfold leaveE; rw [ho]
  rw [e1]
  exact ⟨h,d1,ho,hl0,t1,he,C,rfl⟩
 | some o =>
  have hfo:findE E to q = o:=by unfold findE; rw [if_neg hl0,ho]; rfl
  rw [hfo] at c6 c7
  have hom:=h.ent to _ (List.mem_of_getElem? (entT_some ho))
  simp only at hom
  obtain ⟨_,_,hol⟩:=yield_why c7 (by omega)
  have hT:=h.leave d1 ho (.inr hol)
  have hno:∀ c,(E c).l ≠ [] → c ≠ o:=fun c hc e => by subst e; exact hc hol
  have hmo:=(ris_ent (h.ris to)).1 ho
  have hmi:=(ris_ent (h.ris fr)).1 he
  have hton:to ≠ o:=hno to (fun e => by rw [e] at hmo; cases hmo)
  have hfrn:fr ≠ o:=hno fr (fun e => by rw [e] at hmi; cases hmi)
  have hio:i ≠ o:=fun e => c6 e.symm
  have u1:=leave_up ho hton
  have u2:=leave_up ho hfrn
  have u3:=leave_up ho hio
  refine ⟨hT,by rw [u1.2.1]; exact d1,?_,hl0,by rw [u2.2.1]; exact t1,?_,C.leave h hB ho hol,u3.2.1⟩
  ·rw [u1.2.2.2.2,if_pos rfl]
   exact (ris_none (ris_del (h.ris _))).2 fun j hj => by
    have:=((mem_del (h.ris to) (entT_some ho) _).1 hj).2
    exact this rfl
  ·rw [u2.2.2.2.2]
   split
   ·rename_i e
    rw [ris_ent (ris_del (h.ris _)),mem_del (h.ris to) (entT_some ho)]
    rw [e] at hmi
    refine ⟨hmi,fun e2 => ?_⟩
    simp only at e2
    subst e2
    have:=(ris_ent (h.ris to)).2 hmi
    rw [ho] at this
    injection this with this
    exact hio this.symm
   ·exact he
def longT (s:Tx) (k:Nat):Tx:=s ++ List.replicate (k - s.length) 0
theorem long_pad (s:Tx) (k:Nat):(longT s k).take k = padT s k:=by
 unfold longT padT
 rw [List.take_append,List.take_of_length_le (l:=List.replicate _ _) (by simp)]
theorem long_put (d w:Tx) (k:Nat):(longT d k).take k ++ w ++ (longT d k).drop (k + w.length) = putT (padT d (max d.length (k + w.length))) k w:=by
 have e:padT d (max d.length (k + w.length)) = d ++ List.replicate (max d.length (k + w.length) - d.length) 0:=by
  unfold padT
  rw [List.take_of_length_le (by omega)]
 unfold putT
 rw [e]
 unfold longT
 congr 1
 ·congr 1
  rw [List.take_append,List.take_append]
  congr 1
  rw [List.take_replicate,List.take_replicate]
  congr 1
  omega
 ·rw [List.drop_append,List.drop_append]
  congr 1
  rw [List.drop_replicate,List.drop_replicate]
  congr 1
  omega
theorem list_ins (E:Tr):(insT (cntT lostT (E 1).l) (lostT,2) (E 1).l).map (·.1) = listT E 1:=by
 unfold insT listT
 rw [if_pos rfl,List.map_append,List.map_cons,List.map_take,List.map_drop]
end Go.Proofs.YtgcpgidofikcdaaGreatDoor
set_option linter.unusedSimpArgs false
set_option linter.unusedVariables false
namespace Go.Proofs.YtgcpgidofikcdaaGreatDoor
open Go.RowKit Ev
def ERow (el b:Nat) (st:St) (x:V) (z n:Nat) (l:List V):Prop:=OwnRow b st x z n l ∨ (n = 0 ∧ l = [] ∧ ∃ m,x = .sl m 0 0 0 ∧ b ≤ m ∧ m < st.nx ∧ st.h.get m = some (.cs el 0 .lf))
theorem ERow.rd {el b z n:Nat} {st:St} {x:V} {l:List V} (h:ERow el b st x z n l):RdRow st x z n l:=by
 rcases h with h | ⟨rfl,rfl,m,rfl,h1,h2,h3⟩
 ·exact h.rd
 ·exact ⟨by simp,.inr (.inl ⟨m,0,0,_,_,_,rfl,h2,h3,by omega,fun j v hj => by simp at hj⟩)⟩
theorem ERow.cap {el b z n:Nat} {st:St} {x:V} {l:List V} (h:ERow el b st x z n l):CapOk x:=by
 rcases h with ⟨_,⟨rfl,_⟩ | ⟨m,ty,t,rfl,_⟩⟩ | ⟨rfl,rfl,m,rfl,h1,h2,h3⟩
 ·intro _ _ _ _ e; cases e
 ·intro _ _ _ _ e; cases e
 ·intro _ _ _ _ e; cases e; exact Nat.le_refl _
theorem ERow.blk {el b z n:Nat} {st:St} {x:V} {l:List V} (h:ERow el b st x z n l):∀ c,BlkOf x c → b ≤ c ∧ c < st.nx:=fun c hc => by
 rcases h with ⟨_,⟨rfl,_⟩ | ⟨m,ty,t,rfl,h1,h2,_⟩⟩ | ⟨rfl,rfl,m,rfl,h1,h2,h3⟩
 ·rcases hc with ⟨_,_,_,e⟩ | ⟨_,_,_,e⟩ <;> cases e
 ·rcases hc with ⟨_,_,_,e⟩ | ⟨_,_,_,e⟩
  ·cases e
  ·injection e with e; subst e; exact ⟨h1,h2⟩
 ·rcases hc with ⟨_,_,_,e⟩ | ⟨_,_,_,e⟩
  ·injection e with e; subst e; exact ⟨h1,h2⟩
  ·cases e
theorem ERow.ext {el b z n:Nat} {st st':St} {x:V} {l:List V} (h:ERow el b st x z n l) (k:Ext st.nx st st'):ERow el b st' x z n l:=by
 rcases h with h | ⟨rfl,rfl,m,rfl,h1,h2,h3⟩
 ·exact .inl (h.ext k)
 ·exact .inr ⟨rfl,rfl,m,rfl,h1,Nat.lt_of_lt_of_le h2 k.le,(k.keep m h2).trans h3⟩
theorem ERow.mono {el b b' z n:Nat} {st:St} {x:V} {l:List V} (h:ERow el b st x z n l) (k:b' ≤ b):ERow el b' st x z n l:=by
 rcases h with ⟨h0,h | ⟨m,ty,t,e,h1,h2⟩⟩ | ⟨h0,h1,m,e,h2,h3⟩
 ·exact .inl ⟨h0,.inl h⟩
 ·exact .inl ⟨h0,.inr ⟨m,ty,t,e,Nat.le_trans k h1,h2⟩⟩
 ·exact .inr ⟨h0,h1,m,e,Nat.le_trans k h2,h3⟩
theorem Gd_appendER {P:Program} {st:St} {el b t t' el' z n lx nt:Nat} {s x:V} {l new:List V} {Q:V × St → Prop} (hu:P.underlying t = some (.slice el)) (hk:P.underlying t' = some (.slice el')) (hi:infoOk P el z = true)
  (h:ERow el b st s z n l) (hb:b ≤ st.nx) (hel:el ≠ roT) (hx:∀ s',x ≠ .s s') (hl:∀ k:Nat → Res,lenA x k = k lx) (hf:∀ k:List V → Res,firsts ⟨false,[],0,nt⟩ st z lx x k = k new) (hn:new.length = lx * z) (hmax:n + lx ≤ 1073741824)
  (hQ:∀ s' st',ERow el b st' s' z (n + lx) (l ++ new) → Ext b st st' → Q (s',st')):Gd (builtinE P ⟨false,[],0,nt⟩ .append [t,t'] [s,x] st) Q:=by
 rcases h with h | ⟨rfl,rfl,m,rfl,h1,h2,h3⟩
 ·exact Gd_append hu hk hi h hb hel hx hl hf hn hmax fun s' st' k1 k2 _ _ => hQ s' st' (.inl k1) k2
 ·refine Gd_append0 hu hk hi hel h3 hx hl hf hn (by omega) (fun h0 => ?_) fun h0 => ?_
  ·subst h0
   have hn0:new = []:=List.length_eq_zero_iff.1 (by omega)
   subst hn0
   exact hQ _ _ (.inr ⟨rfl,rfl,m,rfl,h1,h2,T.get_set_same _ _ _⟩) ((Ext.refl _ _).set h1 h2 _)
  ·refine hQ _ _ (.inl ⟨by simp [hn],.inr ⟨st.nx,el,sets new 0 .lf,by simp,hb,Nat.lt_succ_self _,?_,hel,fun j v hj => ?_⟩⟩) ((Ext.refl _ _).new hb _)
   ·rw [Nat.zero_add,← hn]; exact T.get_set_same _ _ _
   ·rw [List.nil_append] at hj
    have hjl:=lt_of_get hj
    rw [get_sets,if_pos ⟨Nat.zero_le _,by omega⟩]
    simpa using hj
theorem slz_lo {P:Program} {c:Cx} {e:Env} {st:St} {t el n k z:Nat} {x:V} {l:List V} {X:Operand} {i:IntKind} (hu:P.underlying t = some (.slice el)) (hi:infoOk P el z = true) (h:RdRow st x z n l) (hc:CapOk x) (hx:opv e X = some (.int i (k:Int))) (hk:k ≤ n) :
  ∃ v,sliceK P c e st t x (some X) none = some (v,st) ∧ RdRow st v z (n - k) (l.drop (k * z)) ∧ CapOk v ∧ ∀ b,BlkOf v b → BlkOf x b:=by
 obtain ⟨h1,h2⟩:=h
 have hz:=infoOk_pos hi
 have hle:k * z ≤ n * z:=Nat.mul_le_mul_right z hk
 have hsub:(n - k) * z = n * z - k * z:=Nat.sub_mul ..
 have hl:(l.drop (k * z)).length = (n - k) * z:=by rw [List.length_drop]; omega
 rcases h2 with ⟨rfl | rfl,rfl⟩ | ⟨m,o,q,ty,sz,tr,rfl,h3,h4,h5,h6⟩ | ⟨m,o,ty,sz,tr,rfl,h3,h4,h5,h6⟩
 ·obtain rfl:k = 0:=by omega
  refine ⟨.c (.slice none 0 0),?_,⟨hl,.inl ⟨.inl rfl,by omega⟩⟩,hc,fun b hb => hb⟩
  unfold sliceK sliceE
  rw [hu]
  simp only [infoOk_sz hi,bnd_at hx,bnd_no]
 ·obtain rfl:k = 0:=by omega
  refine ⟨.e,?_,⟨hl,.inl ⟨.inr rfl,by omega⟩⟩,hc,fun b hb => hb⟩
  unfold sliceK sliceE sliceG
  rw [hu]
  simp only [infoOk_sz hi,bnd_at hx,bnd_no]
 ·have hq:=hc m o n q rfl
  have b1:Nat.ble k n = true:=Nat.ble_eq ▸ hk
  have b2:Nat.ble n q = true:=Nat.ble_eq ▸ hq
  refine ⟨.sl m (match Nat.beq q k with | true => o | false => o + k * z) (n - k) (q - k),?_,⟨hl,.inr (.inl ⟨m,_,_,ty,sz,tr,rfl,h3,h4,?_,?_⟩)⟩,fun _ _ _ _ e => (by injection e; omega),fun b hb => ?_⟩
  ·unfold sliceK sliceE
   rw [hu]
   simp only [infoOk_sz hi,bnd_at hx,bnd_no,b1,b2,fn_eq]
   cases Nat.beq q k <;> rfl
  ·cases hb:Nat.beq q k <;> simp only <;> omega
  ·intro j v hj
   have hjl:=lt_of_get hj
   rw [hl] at hjl
   have hqk:Nat.beq q k = false:=by
    cases hb:Nat.beq q k with
    | false => rfl
    | true =>
     have:=Nat.eq_of_beq_eq_true hb
     have e0:n - k = 0:=by omega
     rw [e0,Nat.zero_mul] at hjl
     omega
   rw [hqk]
   simp only
   rw [List.getElem?_drop] at hj
   have:=h6 _ _ hj
   rw [show o + k * z + j = o + (k * z + j) by omega]
   exact this
  ·rcases hb with ⟨_,_,_,e⟩ | ⟨_,_,_,e⟩
   ·injection e with e; subst e; exact .inl ⟨_,_,_,rfl⟩
   ·cases e
 ·have b1:Nat.ble k n = true:=Nat.ble_eq ▸ hk
  by_cases hkn:k = n ∧ k ≠ 0
  ·refine ⟨.e,?_,⟨hl,.inl ⟨.inr rfl,by omega⟩⟩,fun _ _ _ _ e => (by cases e),fun b hb => ?_⟩
   ·rw [sg_loA hu hi hx hk,if_pos hkn]
   ·rcases hb with ⟨_,_,_,e⟩ | ⟨_,_,_,e⟩ <;> cases e
  ·refine ⟨.sg m (o + k * z) (n - k) z,?_,⟨hl,.inr (.inr ⟨m,_,ty,sz,tr,rfl,h3,h4,by omega,fun j v hj => ?_⟩)⟩,fun _ _ _ _ e => (by cases e),fun b hb => ?_⟩
   ·rw [sg_loA hu hi hx hk,if_neg hkn]
   ·rw [List.getElem?_drop] at hj
    have:=h6 _ _ hj
    rw [show o + k * z + j = o + (k * z + j) by omega]
    exact this
   ·rcases hb with ⟨_,_,_,e⟩ | ⟨_,_,_,e⟩
    ·cases e
    ·injection e with e; subst e; exact .inr ⟨_,_,_,rfl⟩
theorem slz_hi {P:Program} {c:Cx} {e:Env} {st:St} {t el n k z:Nat} {x:V} {l:List V} {X:Operand} {i:IntKind} (hu:P.underlying t = some (.slice el)) (hi:infoOk P el z = true) (h:RdRow st x z n l) (hc:CapOk x) (hx:opv e X = some (.int i (k:Int))) (hk:k ≤ n) :
  ∃ v,sliceK P c e st t x none (some X) = some (v,st) ∧ RdRow st v z k (l.take (k * z)) ∧ ∀ b,BlkOf v b → BlkOf x b:=by
 obtain ⟨h1,h2⟩:=h
 have hz:=infoOk_pos hi
 have hle:k * z ≤ n * z:=Nat.mul_le_mul_right z hk
 have hl:(l.take (k * z)).length = k * z:=by rw [List.length_take]; omega
 have hg:∀ j v,(l.take (k * z))[j]? = some v → l[j]? = some v:=fun j v hj => by
  rw [List.getElem?_take] at hj
  split at hj
  ·exact hj
  ·cases hj
 rcases h2 with ⟨rfl | rfl,rfl⟩ | ⟨m,o,q,ty,sz,tr,rfl,h3,h4,h5,h6⟩ | ⟨m,o,ty,sz,tr,rfl,h3,h4,h5,h6⟩
 ·obtain rfl:k = 0:=by omega
  refine ⟨.c (.slice none 0 0),?_,⟨hl,.inl ⟨.inl rfl,by omega⟩⟩,fun b hb => hb⟩
  unfold sliceK sliceE
  rw [hu]
  simp only [infoOk_sz hi,bnd_at hx,bnd_no]
 ·obtain rfl:k = 0:=by omega
  refine ⟨.e,?_,⟨hl,.inl ⟨.inr rfl,by omega⟩⟩,fun b hb => hb⟩
  unfold sliceK sliceE sliceG
  rw [hu]
  simp only [infoOk_sz hi,bnd_at hx,bnd_no]
 ·have hq:=hc m o n q rfl
  exact ⟨.sl m o k q,sl_hi hu hi hx (by omega),⟨hl,.inr (.inl ⟨m,o,q,ty,sz,tr,rfl,h3,h4,by omega,fun j v hj => h6 j v (hg j v hj)⟩)⟩,fun b hb => by
   rcases hb with ⟨_,_,_,e⟩ | ⟨_,_,_,e⟩
   ·injection e with e; subst e; exact .inl ⟨_,_,_,rfl⟩
   ·cases e⟩
 ·exact ⟨.sg m o k z,sg_hi hu hi hx hk,⟨hl,.inr (.inr ⟨m,o,ty,sz,tr,rfl,h3,h4,by omega,fun j v hj => h6 j v (hg j v hj)⟩)⟩,fun b hb => by
   rcases hb with ⟨_,_,_,e⟩ | ⟨_,_,_,e⟩
   ·cases e
   ·injection e with e; subst e; exact .inr ⟨_,_,_,rfl⟩⟩
theorem Gd_szLo {P:Program} {c:Cx} {e:Env} {st:St} {t el n k z:Nat} {x:V} {l:List V} {X:Operand} {i:IntKind} {Q:V × St → Prop} (hu:P.underlying t = some (.slice el)) (hi:infoOk P el z = true) (h:RdRow st x z n l) (hc:CapOk x) (hx:opv e X = some (.int i (k:Int))) (hk:k ≤ n)
  (hQ:∀ v,RdRow st v z (n - k) (l.drop (k * z)) → (∀ b,BlkOf v b → BlkOf x b) → Q (v,st)):Gd (sliceK P c e st t x (some X) none) Q:=by
 obtain ⟨v,h1,h2,h3,h4⟩:=slz_lo (c:=c) hu hi h hc hx hk
 rw [h1,Gd_some]
 exact hQ v h2 h4
theorem Gd_szHi {P:Program} {c:Cx} {e:Env} {st:St} {t el n k z:Nat} {x:V} {l:List V} {X:Operand} {i:IntKind} {Q:V × St → Prop} (hu:P.underlying t = some (.slice el)) (hi:infoOk P el z = true) (h:RdRow st x z n l) (hc:CapOk x) (hx:opv e X = some (.int i (k:Int))) (hk:k ≤ n)
  (hQ:∀ v,RdRow st v z k (l.take (k * z)) → (∀ b,BlkOf v b → BlkOf x b) → Q (v,st)):Gd (sliceK P c e st t x none (some X)) Q:=by
 obtain ⟨v,h1,h2,h3⟩:=slz_hi (c:=c) hu hi h hc hx hk
 rw [h1,Gd_some]
 exact hQ v h2 h3
theorem Gd_append0W {P:Program} {st:St} {fl:List (Nat × Nat)} {b wb t t' el el' z m lx nt:Nat} {x:V} {new:List V} {Q:V × St → Prop} (hu:P.underlying t = some (.slice el)) (hk:P.underlying t' = some (.slice el')) (hi:infoOk P el z = true) (hel:el ≠ roT)
  (hb:b ≤ m) (hmn:m < st.nx) (hfm:inF fl m = false) (hm:st.h.get m = some (.cs el 0 .lf)) (hx:∀ s',x ≠ .s s') (hl:∀ k:Nat → Res,lenA x k = k lx) (hf:∀ k:List V → Res,firsts ⟨false,fl,wb,nt⟩ st z lx x k = k new) (hn:new.length = lx * z) (hmax:lx ≤ 1073741824)
  (hQ:∀ s' st',ERow el b st' s' z lx new → Ext b st st' → Q (s',st')):Gd (builtinE P ⟨false,fl,wb,nt⟩ .append [t,t'] [.sl m 0 0 0,x] st) Q:=by
 have e1:builtinE P ⟨false,fl,wb,nt⟩ .append [t,t'] [.sl m 0 0 0,x] st = appE ⟨false,fl,wb,nt⟩ st el z 0 lx (.sl m 0 0 0) new:=by
  have hsm:small P el (0 + lx) = true:=infoOk_small hi (by omega)
  unfold builtinE
  simp only [elemOf_ok hu hi,hk,lenA_sl]
  cases x with
  | s s' => exact absurd rfl (hx s')
  | _ => simp only [hl,hf,hsm]
 have hok:(⟨false,fl,wb,nt⟩:Cx).ok m = true:=by unfold Cx.ok; simp [hfm]
 rw [e1]
 unfold appE
 simp only [fn_eq,Nat.zero_add]
 by_cases hz:lx = 0
 ·subst hz
  have hnew:new = []:=List.length_eq_zero_iff.1 (by omega)
  subst hnew
  have b1:Nat.ble 0 0 = true:=rfl
  by_cases hw:wb ≤ m
  ·simp only [b1,still_wb (c:=⟨false,fl,wb,nt⟩) (n:=m) (lx:=0) hw]
   simp [putB_eq,hm,hel,sets,hok,hw]
   exact hQ _ _ (.inr ⟨rfl,rfl,m,rfl,hb,hmn,T.get_set_same _ _ _⟩) ((Ext.refl _ _).set hb hmn _)
  ·have hs:still ⟨false,fl,wb,nt⟩ m 0 = true:=by
    have e:Nat.ble wb m = false:=by
     cases h:Nat.ble wb m with
     | false => rfl
     | true => rw [Nat.ble_eq] at h; exact absurd h hw
    unfold still
    rw [e]
    rfl
   simp only [b1,hs]
   exact ⟨_,rfl,hQ _ _ (.inr ⟨rfl,rfl,m,rfl,hb,hmn,hm⟩) (Ext.refl _ _)⟩
 ·have hble:Nat.ble lx 0 = false:=by
   cases h:Nat.ble lx 0 with
   | false => rfl
   | true => rw [Nat.ble_eq] at h; omega
  simp only [hble]
  unfold growE
  have hfi:∀ k:List V → Res,firsts ⟨false,fl,wb,nt⟩ st z 0 (.sl m 0 0 0) k = k []:=fun k => by
   have h0:RdRow st (.sl m 0 0 0) z 0 []:=⟨by simp,.inr (.inl ⟨m,0,0,_,_,_,rfl,hmn,hm,by omega,fun j v hj => by simp at hj⟩)⟩
   exact firsts_c h0 (fun m' hm' => by
    rcases hm' with ⟨_,_,_,e⟩ | ⟨_,_,_,e⟩
    ·injection e with e; subst e; exact hok
    ·cases e) k
  rw [hfi,newC_is]
  simp only [List.nil_append]
  refine ⟨_,rfl,hQ _ _ (.inl ⟨hn,.inr ⟨st.nx,el,sets new 0 .lf,rfl,by omega,Nat.lt_succ_self _,?_,hel,fun j v hj => ?_⟩⟩) ((Ext.refl _ _).new (by omega) _)⟩
  ·rw [← hn]; exact T.get_set_same _ _ _
  ·have hjl:=lt_of_get hj
   rw [get_sets,if_pos ⟨Nat.zero_le _,by omega⟩]
   simpa using hj
theorem Gd_appendEF {P:Program} {st:St} {fl:List (Nat × Nat)} {el b t t' el' z n lx nt:Nat} {s x:V} {l new:List V} {Q:V × St → Prop} (hu:P.underlying t = some (.slice el)) (hk:P.underlying t' = some (.slice el')) (hi:infoOk P el z = true)
  (h:ERow el b st s z n l) (hfl:∀ m,BlkOf s m → inF fl m = false) (hb:b ≤ st.nx) (hel:el ≠ roT) (hx:∀ s',x ≠ .s s') (hl:∀ k:Nat → Res,lenA x k = k lx) (hf:∀ k:List V → Res,firsts ⟨false,fl,0,nt⟩ st z lx x k = k new) (hn:new.length = lx * z) (hmax:n + lx ≤ 1073741824)
  (hQ:∀ s' st',ERow el b st' s' z (n + lx) (l ++ new) → Ext b st st' → Q (s',st')):Gd (builtinE P ⟨false,fl,0,nt⟩ .append [t,t'] [s,x] st) Q:=by
 rcases h with h | ⟨rfl,rfl,m,rfl,h1,h2,h3⟩
 ·exact Gd_appendL hu hk hi h (fun m o ln e => hfl m (.inr ⟨_,_,_,e⟩)) hb hel hx hl hf hn hmax fun s' st' k1 k2 _ _ => hQ s' st' (.inl k1) k2
 ·exact Gd_append0W hu hk hi hel h1 h2 (hfl m (.inl ⟨_,_,_,rfl⟩)) h3 hx hl hf hn (by omega) fun s' st' k1 k2 => hQ s' st' (by rw [Nat.zero_add,List.nil_append]; exact k1) k2
theorem cxOf_callW {c:Cx} {e:Env} {s0:St} {d:Option Nat} {cl:Call} {ty:TypeId} {p:String} {af:Array Edge} {g:Option (Nat × Bool)} {ops:List Oper} {i:Nat} {rs:List (Nat × Nat × Nat)} (ht:touches (.call cl) = true) (hm:mayW ops i = false) (hl:looseW ops e i = none) :
  cxOf c ops ⟨d,.call cl,ty,p,af,g⟩ i rs s0 e = ⟨c.all,forb (befOf ops i) rs c.l,s0.nx,c.nt⟩:=by
 have h0:cxOf c ops ⟨d,.call cl,ty,p,af,g⟩ i rs s0 e = (match touches (.call cl) with
   | false => ⟨true,[],c.wb,c.nt⟩
   | true => (match mayW ops i with
    | true => ⟨c.all,forb (befOf ops i) rs c.l,c.wb,c.nt⟩
    | false => (match (match looseW ops e i with
      | none => none
      | some l => (match lr false (fun x _ r => match clashes e (alive s0.h l) x with | true => true | false => r) cl.args.toList with
       | true => none
       | false => some (alive s0.h l))) with
     | some l => ⟨c.all,l ++ forb (befOf ops i) rs c.l,c.wb,c.nt⟩
     | none => ⟨c.all,forb (befOf ops i) rs c.l,s0.nx,c.nt⟩))):=rfl
 rw [h0,ht,hm,hl]
end Go.Proofs.YtgcpgidofikcdaaGreatDoor
set_option linter.unusedSimpArgs false
set_option linter.unusedVariables false
namespace Go.Proofs.YtgcpgidofikcdaaGreatDoor
open Go.RowKit Ev
def idsK (E:Tr) (k:Nat):List Nat:=(List.range k).filter fun i => decide ((E i).k ≠ 0)
theorem idsK_len (E:Tr) (k:Nat):(idsK E k).length = cntK E k:=rfl
theorem idsK_succ (E:Tr) (k:Nat):idsK E (k + 1) = idsK E k ++ if (E k).k = 0 then [] else [k]:=by
 unfold idsK
 rw [List.range_succ,List.filter_append]
 by_cases h:(E k).k = 0
 ·simp [h]
 ·simp [h]
theorem rd_keep {s s':St} {x:V} {z n:Nat} {l:List V} (h:RdRow s x z n l) (hn:s.nx ≤ s'.nx) (k:∀ b,BlkOf x b → s'.h.get b = s.h.get b):RdRow s' x z n l:=by
 obtain ⟨h1,h2⟩:=h
 refine ⟨h1,?_⟩
 rcases h2 with h2 | ⟨m,o,q,ty,sz,t,rfl,h4,h5,h6⟩ | ⟨m,o,ty,sz,t,rfl,h4,h5,h6⟩
 ·exact .inl h2
 ·exact .inr (.inl ⟨m,o,q,ty,sz,t,rfl,by omega,(k m (.inl ⟨_,_,_,rfl⟩)).trans h5,h6⟩)
 ·exact .inr (.inr ⟨m,o,ty,sz,t,rfl,by omega,(k m (.inr ⟨_,_,_,rfl⟩)).trans h5,h6⟩)
def PtC (s:St) (E:Tr) (L:List V) (ids:List Nat) (av:Nat → Prop):Prop:=∀ j i,ids[j]? = some i → ∃ d z,L[j * 4]? = some (.int .i64 (i:Int)) ∧ L[j * 4 + 1]? = some (.int .i64 ((E i).k:Int)) ∧ L[j * 4 + 2]? = some d ∧ L[j * 4 + 3]? = some z ∧
 RdRow s d 1 (E i).d.length (yv (E i).d) ∧ RdRow s z 2 (E i).l.length (cellsN (E i).l) ∧ ∀ b,BlkOf d b ∨ BlkOf z b → b < s.nx ∧ av b
theorem PtC.keep {s s':St} {E:Tr} {L:List V} {ids:List Nat} {av av':Nat → Prop} (h:PtC s E L ids av) (hn:s.nx ≤ s'.nx) (k:∀ b,b < s.nx → av b → s'.h.get b = s.h.get b ∧ av' b):PtC s' E L ids av':=fun j i hj => by
 obtain ⟨d,z,h0,h1,h2,h3,h4,h5,h6⟩:=h j i hj
 refine ⟨d,z,h0,h1,h2,h3,rd_keep h4 hn fun b hb => ?_,rd_keep h5 hn fun b hb => ?_,fun b hb => ?_⟩
 ·obtain ⟨a1,a2⟩:=h6 b (.inl hb)
  exact (k b a1 a2).1
 ·obtain ⟨a1,a2⟩:=h6 b (.inr hb)
  exact (k b a1 a2).1
 ·obtain ⟨a1,a2⟩:=h6 b hb
  exact ⟨by omega,(k b a1 a2).2⟩
theorem PtC.app {s:St} {E:Tr} {L:List V} {ids:List Nat} {av:Nat → Prop} (h:PtC s E L ids av) (hL:L.length = ids.length * 4) {i:Nat} {d z:V} (h4:RdRow s d 1 (E i).d.length (yv (E i).d)) (h5:RdRow s z 2 (E i).l.length (cellsN (E i).l)) (h6:∀ b,BlkOf d b ∨ BlkOf z b → b < s.nx ∧ av b) :
  PtC s E (L ++ [.int .i64 (i:Int),.int .i64 ((E i).k:Int),d,z]) (ids ++ [i]) av:=fun j x hj => by
 by_cases hlt:j < ids.length
 ·rw [List.getElem?_append_left hlt] at hj
  obtain ⟨d',z',g0,g1,g2,g3,g⟩:=h j x hj
  exact ⟨d',z',by rw [List.getElem?_append_left (by omega)]; exact g0,by rw [List.getElem?_append_left (by omega)]; exact g1,by rw [List.getElem?_append_left (by omega)]; exact g2,by rw [List.getElem?_append_left (by omega)]; exact g3,g⟩
 ·rw [List.getElem?_append_right (by omega)] at hj
  have hj0:j - ids.length = 0:=by
   have:=lt_of_get hj
   simpa using this
  rw [hj0] at hj
  simp at hj
  subst hj
  have e:j = ids.length:=by omega
  subst e
  refine ⟨d,z,?_,?_,?_,?_,h4,h5,h6⟩
  ·rw [List.getElem?_append_right (by omega),show ids.length * 4 - L.length = 0 by omega]; rfl
  ·rw [List.getElem?_append_right (by omega),show ids.length * 4 + 1 - L.length = 1 by omega]; rfl
  ·rw [List.getElem?_append_right (by omega),show ids.length * 4 + 2 - L.length = 2 by omega]; rfl
  ·rw [List.getElem?_append_right (by omega),show ids.length * 4 + 3 - L.length = 3 by omega]; rfl
def ptC (st:St) (q n:Nat) (x:V) (E:Tr) (e:Env) (s:St):Prop:=∃ (k:Nat) (y:V) (L:List V),k ≤ n + 1 ∧ e.get 3 = some y ∧ e.get 9 = some x ∧ e.get 10 = some (.int .i64 ((n + 1:Nat):Int)) ∧ e.get 11 = some (.int .i64 (k:Int)) ∧ OwnRow st.nx s y 4 (cntK E k) L ∧ PtC s E L (idsK E k) (fun b => st.nx ≤ b ∧ ¬ BlkOf y b) ∧ Ext st.nx st s
theorem partsC_any {st:St} {q m n B:Nat} {x:V} {Y Z:Nat → V} {E:Tr} {LB DB:Nat → Prop} (TG:TrG st q m n x Y Z E LB DB) (O:TOk n B E) (hB:B ≤ 1000000) (nt:Nat) :
  Gd (tmF ⟨false,[],0,nt⟩ 14 [.p q 0] st) fun r => ∃ L,RdRow r.2 r.1 4 (idsK E (n + 1)).length L ∧ PtC r.2 E L (idsK E (n + 1)) (fun b => st.nx ≤ b) ∧ (∀ b,BlkOf r.1 b → st.nx ≤ b) ∧ Ext st.nx st r.2:=by
 rw [Gd_tmF rfl rfl Tryz.func14 rfl]
 have hn2:=O.n2
 obtain ⟨tq,hq,q0⟩:=TG.cell
 have hlt:=TG.lt
 have hln:=TG.len
 simp [evOp_call,sets,T.get_set,loadE_eq,getC_eq,hq,q0,hln]
 refine Gd_loop (ptC st q n x E) (fun e _ => muAt 11 (n + 1) e) ?_ ?_
 ·exact ⟨0,.c (.slice none 0 0),[],Nat.zero_le _,by simp [T.get_set],by simp [T.get_set],by simp [T.get_set],by simp [T.get_set],OwnRow.nil _ _ _,(fun j i hj => by simp [idsK] at hj),Ext.refl _ _⟩
 rintro e s ⟨k,y,L,hk,g3,g9,g10,g11,hy,hp,hx⟩
 have nS:=hx.le
 by_cases hlt0:k < n + 1
 case neg =>
  obtain rfl:k = n + 1:=by omega
  simp [evOp_call,sets,T.get_set,g3,g10,g11]
  exact ⟨L,hy.rd,hp.keep (Nat.le_refl _) (fun b _ h => ⟨rfl,h.1⟩),fun b hb => (own_blk hy b hb).1,hx⟩
 have hlt':(k:Int) < (n:Int) + 1:=by omega
 have hwk:=wrap_nat (n:=k) (by omega)
 have TGs:=TG.ext hx
 obtain ⟨ty2,sz2,t2,hm2,hro2,hsz2,row2⟩:=TGs.row
 obtain ⟨e1,e2,e3,e4,e5,e6,e7⟩:=row2 k (by omega)
 have hii:=fun c => TGs.idx (i:=k) (by omega) c
 have hlt2:=TGs.lt
 have v1:¬ s.nx = m:=by omega
 have o1:=e6.1.one
 have o2:=e7.rd.one
 have x3:=fun w => (Ext.refl s.nx s).new (Nat.le_refl _) w
 by_cases ck:(E k).k = 0
 ·have ck':((E k).k:Int) = 0:=by omega
  simp [evOp_call,T.get_set,g3,g9,g10,g11,hlt',loadE_eq,getC_eq,getsB_succ,getsB_zero,hm2,e1,e2,e3,e4,e5,v1,newC_is,storeK_g,putB_eq,roT,sets,cellsOf,hii,o1,o2,ck,ck',hwk]
  exact ⟨⟨k + 1,y,L,by omega,by simp [T.get_set,g3],by simp [T.get_set,g9],by simp [T.get_set,g10],by simp [T.get_set],by rw [cntK_succ,if_pos ck]; exact hy.ext (x3 _),by rw [idsK_succ,if_pos ck,List.append_nil]; exact hp.keep (x3 _).le (fun b hb h => ⟨(x3 _).keep b hb,h⟩),hx.trans ((x3 _).mono hx.le)⟩,muAt_lt g11 (by simp [T.get_set]) hlt0⟩
 have ck':¬ ((E k).k:Int) = 0:=by omega
 simp [evOp_call,T.get_set,g3,g9,g10,g11,hlt',loadE_eq,getC_eq,getsB_succ,getsB_zero,hm2,e1,e2,e3,e4,e5,v1,newC_is,storeK_g,putB_eq,roT,sets,cellsOf,hii,o1,o2,ck,ck',hwk]
 obtain ⟨s5,hs5⟩:∃ s5:St,s5 = ⟨s.nx + 1,s.h.set s.nx (.cs 92 5 (sets [.int .i64 ((E k).k:Int),.int .i64 ((E k).up:Int),.int .i64 (E k).nm,Y k,Z k] 0 (sets [.int .i64 0,.int .i64 0,.int .i64 0,.c (.slice none 0 0),.c (.slice none 0 0)] 0 .lf)))⟩:=⟨_,rfl⟩
 have x5:Ext s.nx s s5:=by rw [hs5]; exact x3 _
 have n5:s5.nx = s.nx + 1:=by rw [hs5]
 have g5:s5.h.get s.nx = some (.cs 92 5 (sets [.int .i64 ((E k).k:Int),.int .i64 ((E k).up:Int),.int .i64 (E k).nm,Y k,Z k] 0 (sets [.int .i64 0,.int .i64 0,.int .i64 0,.c (.slice none 0 0),.c (.slice none 0 0)] 0 .lf))):=by rw [hs5]; exact T.get_set_same _ _ _
 simp only [sets] at hs5 g5
 have TG5:=TGs.ext x5
 obtain ⟨ty5,sz5,t5,hmm5,_,_,row5⟩:=TG5.row
 obtain ⟨_,_,_,_,_,b6,b7⟩:=row5 k (by omega)
 have y6:=b6.1
 have y7:=b7.rd
 rw [← hs5]
 refine ⟨by kernel_rfl,?_⟩
 simp only [← n5]
 have hYl:∀ b,BlkOf (Y k) b → b < st.nx:=fun b hb => (TG.db b (e6.2.1 b hb)).1
 have hZl:∀ b,BlkOf (Z k) b → b < st.nx:=fun b hb => (TG.lb b (e7.blk b hb).1).1
 have hffc:∀ b,b < st.nx → inF [(s.nx,s.nx + 1)] b = false:=fun b h => by rw [inF_cons,if_neg (by omega)]; rfl
 have hffb:∀ b,b < st.nx → inF [(s.nx,s.nx + 1),(s.nx,s.nx + 1)] b = false:=fun b h => by rw [inF_cons,if_neg (by omega),inF_cons,if_neg (by omega)]; rfl
 rw [cxOf_callL [(s.nx,s.nx + 1),(s.nx,s.nx + 1)] (by kernel_rfl) (by kernel_rfl) (looseW_at2 21 5 (.p s.nx 0) (.p s.nx 0) (by simp [T.get_set]) (by simp [T.get_set]) (by kernel_rfl)) (fun y hy => by
  simp at hy
  subst hy
  rw [clashes_tmp']; simp [T.get_set]
  exact rd_blkF y6 fun b hb => hffb b (hYl b hb)) (fun p hp => by
   simp at hp
   subst hp
   rw [isRo_cs g5]; decide),forb_nil]
 simp only [List.append_nil]
 show Gd (liftF tmK ⟨false,[(s.nx,s.nx + 1),(s.nx,s.nx + 1)],0,_⟩ _ _ s5) _
 refine Gd_lift (R:=fun v s' => RdRow s' v 1 (E k).d.length (yv (E k).d) ∧ ∀ b,BlkOf v b → s5.nx ≤ b) (by
  rw [tmK_ne rfl]
  refine Gd.mono (cloneB_any (er _ s5) (Y k) (E k).d.length (yv (E k).d) (y6.er fun b hb => hffb b (hYl b hb)) (by have:=(O.dat k).2; omega) _) ?_
  rintro ⟨v,s'⟩ ⟨c1,c2,c3,c4,c5,c6⟩
  exact ⟨⟨c1,fun b hb => (c2 b hb).1⟩,c6⟩) ?_
 rintro y2 s5' s6 ⟨hy2,hyb⟩ k6 x6
 have hy2:=RdRow.sub k6 hy2
 have hyo2:V.one y2 = true:=hy2.one
 have n6:=x6.le
 have g6:=(x6.keep s.nx (by omega)).trans g5
 simp [evOp_call,T.get_set,loadE_eq,getC_eq,getsB_succ,getsB_zero,g6]
 refine ⟨inF_lds (rsOf_lt (by simp) (by omega)),fun _ => ?_⟩
 have y7':RdRow s6 (Z k) 2 (E k).l.length (cellsN (E k).l):=y7.ext x6
 rw [cxOf_callL [(s.nx,s.nx + 1)] (by kernel_rfl) (by kernel_rfl) (looseW_at 21 (.p s.nx 0) (by simp [T.get_set]) (by kernel_rfl)) (fun y hy => by
  simp at hy
  subst hy
  rw [clashes_tmp']; simp [T.get_set]
  exact rd_blkF y7' fun b hb => hffc b (hZl b hb)) (fun p hp => by
   simp at hp
   subst hp
   rw [isRo_cs g6]; decide),forb_step (by kernel_rfl) rfl]
 simp only [List.append_nil]
 show Gd (liftF tmK ⟨false,[(s.nx,s.nx + 1)],0,_⟩ _ _ s6) _
 refine Gd_lift (R:=fun v s' => RdRow s' v 2 (E k).l.length (cellsN (E k).l) ∧ ∀ b,BlkOf v b → s6.nx ≤ b) (by
  rw [tmK_ne rfl]
  refine Gd.mono (cloneN_any (er _ s6) (Z k) (E k).l.length (cellsN (E k).l) (y7'.er fun b hb => hffc b (hZl b hb)) (by have:=(O.lok k).len; omega) _) ?_
  rintro ⟨v,s'⟩ ⟨c1,c2,c3,c4,c5,c6⟩
  exact ⟨⟨c1,fun b hb => (c2 b hb).1⟩,c6⟩) ?_
 rintro z2 s6' s7 ⟨hz2,hzb⟩ k7 x7
 have hz2:=RdRow.sub k7 hz2
 have hzo2:V.one z2 = true:=hz2.one
 have n7:=x7.le
 simp [evOp_call,T.get_set,loadE_eq,getC_eq,hyo2,hzo2]
 refine evOp_build1 (v:=.g [.int .i64 (k:Int),.int .i64 ((E k).k:Int),y2,z2]) (cs:=[.int .i64 (k:Int),.int .i64 ((E k).k:Int),y2,z2]) (fun k => el36 k) (fun k => ze104 k) rfl (by decide) (by simp [T.get_set]) (fun k => by simp [cellsOf]) rfl ?_
 simp [evOp_call,T.get_set]
 rw [cxOf_call (by kernel_rfl) (by kernel_rfl),forb_cons (by kernel_rfl) (forb_step (by kernel_rfl) (forb_step (by kernel_rfl) rfl))]
 have hx7:=x5.trans ((x6.mono (by omega)).trans (x7.mono (by omega)))
 have x8:=fun w => (Ext.refl s7.nx s7).new (Nat.le_refl _) w
 have hcl:=cntK_le E k
 refine Gd_append un36 un36 io104 (n:=cntK E k) (lx:=1) (new:=[.int .i64 (k:Int),.int .i64 ((E k).k:Int),y2,z2]) ((hy.ext hx7).ext (x8 _)) (by show st.nx ≤ s7.nx + 1; omega) (by decide) (fun s' h => by cases h) (fun k => rfl) (fun k => by simp [getC_eq,getsB_succ,getsB_zero,T.get_set,sets]) rfl (by omega) ?_
 intro y' s9 ho he hk3 hk4
 simp [evOp_call,T.get_set,g3,g9,g10,g11,hwk]
 refine ⟨⟨k + 1,y',_,by omega,by simp [T.get_set],by simp [T.get_set,g9],by simp [T.get_set,g10],by simp [T.get_set],by rw [cntK_succ,if_neg ck]; exact ho,?_,?_⟩,muAt_lt g11 (by simp [T.get_set]) hlt0⟩
 ·rw [idsK_succ,if_neg ck]
  have h8:=(hx7.trans ((x8 (.cs 104 4 (sets [.int .i64 (k:Int),.int .i64 ((E k).k:Int),y2,z2] 0 .lf))).mono (by omega)))
  have hbl:∀ b,st.nx ≤ b ∧ ¬ BlkOf y b → b < s7.nx + 1 → s9.h.get b = ((s7.h.set s7.nx (.cs 104 4 (sets [.int .i64 (k:Int),.int .i64 ((E k).k:Int),y2,z2] 0 .lf))).get b) ∧ st.nx ≤ b ∧ ¬ BlkOf y' b:=fun b hb hlt => by
   refine ⟨hk3 b hlt fun o ln e => hb.2 (.inr ⟨_,_,_,e⟩),hb.1,fun hbb => ?_⟩
   rcases hk4 with rfl | ⟨ln,rfl⟩
   ·exact hb.2 hbb
   ·rcases hbb with ⟨_,_,_,e⟩ | ⟨_,_,_,e⟩
    ·cases e
    ·injection e with e
     have:s7.nx + 1 = b:=e
     omega
  have hnb:∀ b,s.nx + 1 ≤ b → st.nx ≤ b ∧ ¬ BlkOf y b:=fun b hb => ⟨by omega,fun h => by have:=(own_blk hy b h).2; omega⟩
  have hp1:=(hp.keep (s':=⟨s7.nx + 1,s7.h.set s7.nx (.cs 104 4 (sets [.int .i64 (k:Int),.int .i64 ((E k).k:Int),y2,z2] 0 .lf))⟩) (av':=fun b => st.nx ≤ b ∧ ¬ BlkOf y b) h8.le fun b hb h => ⟨h8.keep b hb,h⟩)
  have hy9:=(hy2.ext x7).ext (x8 (.cs 104 4 (sets [.int .i64 (k:Int),.int .i64 ((E k).k:Int),y2,z2] 0 .lf)))
  have hz9:=hz2.ext (x8 (.cs 104 4 (sets [.int .i64 (k:Int),.int .i64 ((E k).k:Int),y2,z2] 0 .lf)))
  have hp2:=hp1.app (by rw [idsK_len]; exact hy.1) (i:=k) (d:=y2) (z:=z2) hy9 hz9 fun b hb => by
   rcases hb with hb | hb
   ·have h1:=hyb b hb
    exact ⟨rd_blk hy9 b hb,hnb b (by omega)⟩
   ·have h1:=hzb b hb
    exact ⟨rd_blk hz9 b hb,hnb b (by omega)⟩
  exact hp2.keep he.le fun b hb h => hbl b h hb
 ·exact (hx.trans (hx7.mono hx.le)).trans (((x8 _).mono (by omega)).trans he)
end Go.Proofs.YtgcpgidofikcdaaGreatDoor
set_option linter.unusedSimpArgs false
set_option linter.unusedVariables false
namespace Go.Proofs.YtgcpgidofikcdaaGreatDoor
open Go.RowKit Ev
abbrev zRR:List V:=[.int .i64 0,.int .i64 0,.int .i64 0,.int .i64 0,.int .i64 0,.s [],.c (.slice none 0 0)]
@[simp] theorem rbR0 (x:Operand) (v:V) (st:St) (h:v.one = true):bldK Tryz.prog 48 [(0,x)] [v] zRR st = some (.g [v,.int .i64 0,.int .i64 0,.int .i64 0,.int .i64 0,.s [],.c (.slice none 0 0)],st):=by
 rw [bldK_ok so48,partsK_one rfl h (by simp)]; rfl
@[simp] theorem rbR1 (x:Operand) (v:V) (st:St) (h:v.one = true):bldK Tryz.prog 48 [(1,x)] [v] zRR st = some (.g [.int .i64 0,v,.int .i64 0,.int .i64 0,.int .i64 0,.s [],.c (.slice none 0 0)],st):=by
 rw [bldK_ok so48,partsK_one rfl h (by simp)]; rfl
@[simp] theorem rbR14 (x y:Operand) (v w:V) (st:St) (h:v.one = true) (h':w.one = true):bldK Tryz.prog 48 [(1,x),(4,y)] [v,w] zRR st = some (.g [.int .i64 0,v,.int .i64 0,.int .i64 0,w,.s [],.c (.slice none 0 0)],st):=by
 rw [bldK_ok so48,partsK_one rfl h (by simp),partsK_one rfl h' (by simp)]; rfl
@[simp] theorem rbR15 (x y:Operand) (v w:V) (st:St) (h:v.one = true) (h':w.one = true):bldK Tryz.prog 48 [(1,x),(5,y)] [v,w] zRR st = some (.g [.int .i64 0,v,.int .i64 0,.int .i64 0,.int .i64 0,w,.c (.slice none 0 0)],st):=by
 rw [bldK_ok so48,partsK_one rfl h (by simp),partsK_one rfl h' (by simp)]; rfl
@[simp] theorem rbR16 (x y:Operand) (v w:V) (st:St) (h:v.one = true) (h':w.one = true):bldK Tryz.prog 48 [(1,x),(6,y)] [v,w] zRR st = some (.g [.int .i64 0,v,.int .i64 0,.int .i64 0,.int .i64 0,.s [],w],st):=by
 rw [bldK_ok so48,partsK_one rfl h (by simp),partsK_one rfl h' (by simp)]; rfl
@[simp] theorem rbR1234 (x0 x1 x2 x3:Operand) (a0 a1 a2 a3:V) (st:St) (h0:a0.one = true) (h1:a1.one = true) (h2:a2.one = true) (h3:a3.one = true):bldK Tryz.prog 48 [(1,x0),(2,x1),(3,x2),(4,x3)] [a0,a1,a2,a3] zRR st = some (.g [.int .i64 0,a0,a1,a2,a3,.s [],.c (.slice none 0 0)],st):=by
 rw [bldK_ok so48,partsK_one rfl h0 (by simp),partsK_one rfl h1 (by simp),partsK_one rfl h2 (by simp),partsK_one rfl h3 (by simp)]; rfl
@[simp] theorem rbP012 (x0 x1 x2:Operand) (a0 a1 a2:V) (st:St) (h0:a0.one = true) (h1:a1.one = true) (h2:a2.one = true):bldK Tryz.prog 118 [(0,x0),(1,x1),(2,x2)] [a0,a1,a2] [.int .i64 0,.int .i64 0,.s [],.c (.slice none 0 0)] st = some (.g [a0,a1,a2,.c (.slice none 0 0)],st):=by
 rw [bldK_ok so118,partsK_one rfl h0 (by simp),partsK_one rfl h1 (by simp),partsK_one rfl h2 (by simp)]; rfl
@[simp] theorem rbP01 (x0 x1:Operand) (a0 a1:V) (st:St) (h0:a0.one = true) (h1:a1.one = true):bldK Tryz.prog 118 [(0,x0),(1,x1)] [a0,a1] [.int .i64 0,.int .i64 0,.s [],.c (.slice none 0 0)] st = some (.g [a0,a1,.s [],.c (.slice none 0 0)],st):=by
 rw [bldK_ok so118,partsK_one rfl h0 (by simp),partsK_one rfl h1 (by simp)]; rfl
def rresV (w:Rs) (z:V):V:=.g [.int .i64 w.err,.int .i64 (w.node:Int),.int .i64 (w.ty:Int),.int .i64 w.links,.int .i64 (w.size:Int),.s w.data,z]
structure StR (st s:St) (m n:Nat) (Z Z':Nat → V):Prop where
 le:st.nx ≤ s.nx
 wf:Wf st → Wf s
 keep:∀ b,b < st.nx → b ≠ m → s.h.get b = st.h.get b
 blk:∀ i,i ≤ n → ∀ b,BlkOf (Z' i) b → (∃ j,j ≤ n ∧ BlkOf (Z j) b) ∨ st.nx ≤ b
theorem StR.ext {st s:St} {m n:Nat} {Z:Nat → V} (h:Ext st.nx st s):StR st s m n Z Z:=⟨h.le,h.wf,fun b hb _ => h.keep b hb,fun i hi b hb => .inl ⟨i,hi,hb⟩⟩
theorem StR.refl (st:St) (m n:Nat) (Z:Nat → V):StR st st m n Z Z:=StR.ext (Ext.refl _ _)
theorem StR.trans {s1 s2 s3:St} {m n:Nat} {Z1 Z2 Z3:Nat → V} (h:StR s1 s2 m n Z1 Z2) (k:StR s2 s3 m n Z2 Z3):StR s1 s3 m n Z1 Z3:=by
 have hle:=h.le
 refine ⟨Nat.le_trans h.le k.le,fun w => k.wf (h.wf w),fun b hb hm => (k.keep b (by omega) hm).trans (h.keep b hb hm),fun i hi b hb => ?_⟩
 rcases k.blk i hi b hb with ⟨j,hj,e⟩ | e
 ·exact h.blk j hj b e
 ·exact .inr (by omega)
def updZ (Z:Nat → V) (i:Nat) (z:V):Nat → V:=fun j => if j = i then z else Z j
theorem RefG.upd {s s':St} {q m n:Nat} {Z:Nat → V} {E:Tr} (R:RefG s q m n Z E) {i:Nat} (hi:i ≤ n) (z:V) (e:Ent) (hn:s.nx ≤ s'.nx) {t t':T V}
  (hm:s.h.get m = some (.cs 118 ((n + 1) * 4) t)) (hm':s'.h.get m = some (.cs 118 ((n + 1) * 4) t')) (ho:∀ j,j < i * 4 ∨ i * 4 + 4 ≤ j → t'.get j = t.get j)
  (h0:t'.get (i * 4) = some (.int .i64 ((if e.k = 0 then 0 else i:Nat):Int))) (h1:t'.get (i * 4 + 1) = some (.int .i64 (e.k:Int))) (h2:t'.get (i * 4 + 2) = some (.s e.d)) (h3:t'.get (i * 4 + 3) = some z)
  (hz:RdRow s' z 2 e.l.length (cellsN e.l)) (hzb:∀ b,BlkOf z b → b ≠ q ∧ b ≠ m) (hc:CapOk z) (hk:∀ b,b < s.nx → b ≠ m → s'.h.get b = s.h.get b):RefG s' q m n (updZ Z i z) (updE E i e):=by
 obtain ⟨⟨tq,q1,q2⟩,⟨t2,g1,g2⟩,hl,hcap⟩:=R
 rw [hm] at g1
 injection g1 with g1
 injection g1 with _ _ g1
 subst g1
 refine ⟨⟨tq,(hk q hl.1 (Ne.symm hl.2.2)).trans q1,q2⟩,⟨t',hm',fun j hj => ?_⟩,⟨by omega,by omega,hl.2.2⟩,fun j hj => ?_⟩
 ·obtain ⟨a0,a1,a2,a3,a4,a5⟩:=g2 j hj
  by_cases e1:j = i
  ·subst e1
   have ep:partN (updE E j e) j = if e.k = 0 then 0 else j:=by unfold partN; rw [updE_same]
   have ez:updZ Z j z j = z:=if_pos rfl
   rw [ep,updE_same,ez]
   exact ⟨h0,h1,h2,h3,hz,hzb⟩
  ·have ep:partN (updE E i e) j = partN E j:=by unfold partN; rw [updE_ne _ _ e1]
   have ez:updZ Z i z j = Z j:=if_neg e1
   rw [ep,updE_ne _ _ e1,ez,ho _ (by omega),ho _ (by omega),ho _ (by omega),ho _ (by omega)]
   exact ⟨a0,a1,a2,a3,rd_keep a4 hn fun b hb => hk b (rd_blk a4 b hb) (a5 b hb).2,a5⟩
 ·by_cases e1:j = i
  ·subst e1
   rw [show updZ Z j z j = z from if_pos rfl]
   exact hc
  ·rw [show updZ Z i z j = Z j from if_neg e1]
   exact hcap j hj
theorem StR.upd {st s:St} {m n i:Nat} {Z:Nat → V} {z:V} (hn:st.nx ≤ s.nx) (hw:Wf st → Wf s) (hk:∀ b,b < st.nx → b ≠ m → s.h.get b = st.h.get b) (hz:∀ b,BlkOf z b → st.nx ≤ b):StR st s m n Z (updZ Z i z):=by
 refine ⟨hn,hw,hk,fun j hj b hb => ?_⟩
 by_cases e1:j = i
 ·subst e1
  rw [show updZ Z j z j = z from if_pos rfl] at hb
  exact .inr (hz b hb)
 ·rw [show updZ Z i z j = Z j from if_neg e1] at hb
  exact .inl ⟨j,hj,hb⟩
theorem set_wf {s:St} {m:Nat} (h:m < s.nx) (w:Ev.B):Wf s → Wf ⟨s.nx,s.h.set m w⟩:=((Ext.refl 0 s).set (Nat.zero_le _) h w).wf
theorem RefG.setL {s:St} {q m n:Nat} {Z:Nat → V} {E:Tr} (R:RefG s q m n Z E) {a:Nat} (ha:a ≤ n) (z:V) (l:List (Tx × Nat)) {tt:T V} (hm:s.h.get m = some (.cs 118 ((n + 1) * 4) tt)) (hz:RdRow s z 2 l.length (cellsN l)) (hzb:∀ b,BlkOf z b → b ≠ q ∧ b ≠ m) (hc:CapOk z) :
  RefG ⟨s.nx,s.h.set m (.cs 118 ((n + 1) * 4) (tt.set (a * 4 + 3) z))⟩ q m n (updZ Z a z) (updE E a { E a with l:=l }):=by
 obtain ⟨t2,g1,g2⟩:=R.row
 rw [hm] at g1
 injection g1 with g1
 injection g1 with _ _ g1
 subst g1
 obtain ⟨a0,a1,a2,a3,a4,a5⟩:=g2 a ha
 exact R.upd ha z { E a with l:=l } (Nat.le_refl _) hm (T.get_set_same _ _ _) (fun j hj => T.get_set_ne _ _ (by omega)) (by rw [T.get_set_ne _ _ (by omega)]; exact a0) (by rw [T.get_set_ne _ _ (by omega)]; exact a1) (by rw [T.get_set_ne _ _ (by omega)]; exact a2) (T.get_set_same _ _ _)
  (rd_keep hz (Nat.le_refl _) fun b hb => T.get_set_ne _ _ (Ne.symm (hzb b hb).2)) hzb hc fun b _ hb => T.get_set_ne _ _ (Ne.symm hb)
theorem RefG.setD {s:St} {q m n:Nat} {Z:Nat → V} {E:Tr} (R:RefG s q m n Z E) {a:Nat} (ha:a ≤ n) (d:Tx) {tt:T V} (hm:s.h.get m = some (.cs 118 ((n + 1) * 4) tt)) :
  RefG ⟨s.nx,s.h.set m (.cs 118 ((n + 1) * 4) (tt.set (a * 4 + 2) (.s d)))⟩ q m n (updZ Z a (Z a)) (setD E a d):=by
 obtain ⟨t2,g1,g2⟩:=R.row
 rw [hm] at g1
 injection g1 with g1
 injection g1 with _ _ g1
 subst g1
 obtain ⟨a0,a1,a2,a3,a4,a5⟩:=g2 a ha
 exact R.upd ha (Z a) { E a with d:=d } (Nat.le_refl _) hm (T.get_set_same _ _ _) (fun j hj => T.get_set_ne _ _ (by omega)) (by rw [T.get_set_ne _ _ (by omega)]; exact a0) (by rw [T.get_set_ne _ _ (by omega)]; exact a1) (T.get_set_same _ _ _) (by rw [T.get_set_ne _ _ (by omega)]; exact a3)
  (rd_keep a4 (Nat.le_refl _) fun b hb => T.get_set_ne _ _ (Ne.symm (a5 b hb).2)) a5 (R.cap a ha) fun b _ hb => T.get_set_ne _ _ (Ne.symm hb)
theorem RefG.setP {s:St} {q m n:Nat} {Z:Nat → V} {E:Tr} (R:RefG s q m n Z E) {a:Nat} (ha:a ≤ n) (k:Nat) (d:Tx) {tt:T V} (hm:s.h.get m = some (.cs 118 ((n + 1) * 4) tt)) (up:Nat) (nm:Int) :
  RefG ⟨s.nx,s.h.set m (.cs 118 ((n + 1) * 4) (sets [.int .i64 ((if k = 0 then 0 else a:Nat):Int),.int .i64 (k:Int),.s d,.c (.slice none 0 0)] (a * 4) tt))⟩ q m n (updZ Z a (.c (.slice none 0 0))) (updE E a ⟨k,up,nm,d,[]⟩):=by
 refine R.upd ha _ ⟨k,up,nm,d,[]⟩ (Nat.le_refl _) hm (T.get_set_same _ _ _) (fun j hj => ?_) ?_ ?_ ?_ ?_ ⟨rfl,.inl ⟨.inl rfl,rfl⟩⟩ (fun b hb => by rcases hb with ⟨_,_,_,e⟩ | ⟨_,_,_,e⟩ <;> cases e) (fun _ _ _ _ e => by cases e) fun b _ hb => T.get_set_ne _ _ (Ne.symm hb)
 ·rw [get_sets,if_neg (by simp; omega)]
 ·rw [get_sets,if_pos (by simp)]; simp
 ·rw [get_sets,if_pos (by simp),show a * 4 + 1 - a * 4 = 1 by omega]; rfl
 ·rw [get_sets,if_pos (by simp),show a * 4 + 2 - a * 4 = 2 by omega]; rfl
 ·rw [get_sets,if_pos (by simp),show a * 4 + 3 - a * 4 = 3 by omega]; rfl
def chR (st:St) (q m n:Nat) (Z:Nat → V) (E':Tr) (s:St):Prop:=∃ Z',RefG s q m n Z' E' ∧ StR st s m n Z Z'
def rrR (st:St) (q m n:Nat) (Z:Nat → V) (w:Rs × Tr) (r:V × St):Prop:=∃ z Z',r.1 = rresV w.1 z ∧ RdRow r.2 z 1 w.1.names.length (sv w.1.names) ∧ RefG r.2 q m n Z' w.2 ∧ StR st r.2 m n Z Z' ∧ ∀ b,BlkOf z b → st.nx ≤ b
section
variable {st:St} {q m n B:Nat} {Z:Nat → V} {E:Tr}
theorem chR.same {E1 E2:Tr} {s:St} (h:chR st q m n Z E1 s) (k:SameR E1 E2):chR st q m n Z E2 s:=by
 obtain ⟨Z',h1,h2⟩:=h
 exact ⟨Z',h1.same k,h2⟩
theorem chR.from {E1:Tr} {s0 s:St} (h:chR s0 q m n Z E1 s) (k:Ext st.nx st s0):chR st q m n Z E1 s:=by
 obtain ⟨Z',h1,h2⟩:=h
 exact ⟨Z',h1,(StR.ext k).trans h2⟩
theorem rrR.from {w:Rs × Tr} {s0:St} {r:V × St} (h:rrR s0 q m n Z w r) (k:Ext st.nx st s0):rrR st q m n Z w r:=by
 obtain ⟨z,Z',h1,h2,h3,h4,h5⟩:=h
 exact ⟨z,Z',h1,h2,h3,(StR.ext k).trans h4,fun b hb => Nat.le_trans k.le (h5 b hb)⟩
theorem rrR_ref (R:RefG st q m n Z E) {s:St} (h:Ext st.nx st s) (e:Int):rrR st q m n Z (refR e,E) (.g [.int .i64 e,.int .i64 0,.int .i64 0,.int .i64 0,.int .i64 0,.s [],.c (.slice none 0 0)],s) :=
 ⟨_,Z,rfl,⟨rfl,.inl ⟨.inl rfl,rfl⟩⟩,R.ext h,StR.ext h,fun b hb => absurd hb (nil_blk b)⟩
theorem rrR_plain {E':Tr} {s:St} (h:chR st q m n Z E' s) (err:Int) (node ty:Nat) (links:Int) (size:Nat) (d:Tx):rrR st q m n Z (⟨err,node,ty,links,size,d,[]⟩,E') (.g [.int .i64 err,.int .i64 (node:Int),.int .i64 (ty:Int),.int .i64 links,.int .i64 (size:Int),.s d,.c (.slice none 0 0)],s):=by
 obtain ⟨Z',h1,h2⟩:=h
 exact ⟨_,Z',rfl,⟨rfl,.inl ⟨.inl rfl,rfl⟩⟩,h1,h2,fun b hb => absurd hb (nil_blk b)⟩
theorem rrR_node {E':Tr} {s:St} (h:chR st q m n Z E' s) (i:Nat):rrR st q m n Z (nodeR i,E') (.g [.int .i64 0,.int .i64 (i:Int),.int .i64 0,.int .i64 0,.int .i64 0,.s [],.c (.slice none 0 0)],s):=rrR_plain h 0 i 0 0 0 []
theorem RefG.keepB {s s':St} (h:RefG s q m n Z E) (hn:s.nx ≤ s'.nx) (k:∀ b,b = q ∨ b = m ∨ (∃ i,i ≤ n ∧ BlkOf (Z i) b) → s'.h.get b = s.h.get b):RefG s' q m n Z E:=by
 obtain ⟨⟨t,h1,h2⟩,⟨t2,h3,h4⟩,h5,h6⟩:=h
 refine ⟨⟨t,(k q (.inl rfl)).trans h1,h2⟩,⟨t2,(k m (.inr (.inl rfl))).trans h3,fun i hi => ?_⟩,⟨by omega,by omega,h5.2.2⟩,h6⟩
 obtain ⟨a0,a1,a2,a3,a4,a5⟩:=h4 i hi
 exact ⟨a0,a1,a2,a3,rd_keep a4 hn fun b hb => k b (.inr (.inr ⟨i,hi,hb⟩)),a5⟩
theorem RefG.blkLt (h:RefG st q m n Z E) {i b:Nat} (hi:i ≤ n) (hb:BlkOf (Z i) b):b < st.nx:=by
 obtain ⟨_,⟨t2,h3,h4⟩,_⟩:=h
 exact rd_blk (h4 i hi).2.2.2.2.1 b hb
theorem rchg_fin (R:RefG st q m n Z E) {s1 s:St} {rb:Nat} {E':Tr} (x1:Ext st.nx st s1) (hrb:st.nx ≤ rb ∧ rb < s1.nx) (h:chR s1 q m n Z E' s):s.h.get rb = s1.h.get rb ∧ chR st q m n Z E' s ∧ ∀ w,chR st q m n Z E' ⟨s.nx,s.h.set rb w⟩:=by
 obtain ⟨Z',h1,h2⟩:=h
 have nm:rb ≠ m:=by have:=R.lt.2.1; omega
 have nq:rb ≠ q:=by have:=R.lt.1; omega
 have f:=(StR.ext (m:=m) (n:=n) (Z:=Z) x1).trans h2
 refine ⟨h2.keep rb hrb.2 nm,⟨Z',h1,f⟩,fun w => ⟨Z',h1.keepB (Nat.le_refl _) fun b hb => T.get_set_ne _ _ ?_,⟨f.le,fun hw b hb => ?_,fun b hb h3 => (T.get_set_ne _ _ (by omega)).trans (f.keep b hb h3),f.blk⟩⟩⟩
 ·intro e
  subst e
  rcases hb with hb | hb | ⟨i,hi,hb⟩
  ·exact nq hb
  ·exact nm hb
  ·rcases h2.blk i hi _ hb with ⟨j,hj,h5⟩ | h5
   ·have:=R.blkLt hj h5; omega
   ·omega
 ·have hb':s.nx ≤ b:=hb
  have:=h2.le
  exact (T.get_set_ne _ _ (by omega)).trans (f.wf hw b hb')
theorem rfail_any (st:St) (e:Int) (nt:Nat) :
  Gd (callL Tryz.prog ⟨false,[],0,nt⟩ 68 [.int .i64 e] st) fun r => r.1 = .g [.int .i64 e,.int .i64 0,.int .i64 0,.int .i64 0,.int .i64 0,.s [],.c (.slice none 0 0)] ∧ Ext st.nx st r.2:=by
 rw [Gd_callL Tryz.func68 rfl]
 have x0:=fun w => (Ext.refl st.nx st).new (Nat.le_refl _) w
 simp [evOp_call,sets,T.get_set,newC_is,storeK_g,putB_eq,roT,cellsOf,loadE_eq,getC_eq,getsB_succ,getsB_zero]
 exact x0 _
end
end Go.Proofs.YtgcpgidofikcdaaGreatDoor
set_option linter.unusedSimpArgs false
set_option linter.unusedVariables false
namespace Go.Proofs.YtgcpgidofikcdaaGreatDoor
open Go.RowKit Ev
theorem ltL_eq:∀ a b:List Nat,ltL a b = decide (a < b)
 | [],[] => by simp [ltL,lr]
 | [],y :: b => by simp [ltL,lr]
 | x :: a,[] => by simp [ltL,lr]
 | x :: a,y :: b => by
  have e:ltL (x :: a) (y :: b) = (match Nat.blt x y with | true => true | false => match Nat.beq x y with | true => ltL a b | false => false):=rfl
  rw [e,ltL_eq a b]
  by_cases h:x < y
  ·have h1:Nat.blt x y = true:=by rw [Nat.blt_eq]; exact h
   rw [h1]
   simp [List.cons_lt_cons_iff,h]
  ·have h1:Nat.blt x y = false:=by rw [Bool.eq_false_iff,Ne,Nat.blt_eq]; exact h
   rw [h1]
   by_cases h2:x = y
   ·subst h2
    simp [List.cons_lt_cons_iff]
   ·have h3:Nat.beq x y = false:=by rw [Bool.eq_false_iff]; exact fun h => h2 (Nat.eq_of_beq_eq_true h)
    rw [h3]
    simp [List.cons_lt_cons_iff,h,h2]
theorem bin_slt {P:Program} {st:St} {t:TypeId} {x y:Operand} (a b:List Nat):binE P st .lss t x y (.s a) (.s b) = some (.bool (decide (a < b)),st):=by
 show strOp .lss a b (ret st) = _
 simp only [strOp,fb_eq,ltL_eq]; rfl
def riI (s1:St) (z:V) (b:Nat) (p:Tx) (l:List (Tx × Nat)) (e:Env) (s:St):Prop:=∃ k,k ≤ l.length ∧ e.get 0 = some z ∧ e.get 3 = some (.p b 0) ∧ e.get 5 = some (.int .i64 (k:Int)) ∧ s = s1 ∧ k ≤ cntT p l
theorem rinsert_any (st:St) (z:V) (l:List (Tx × Nat)) (hz:RdRow st z 2 l.length (cellsN l)) (hc:CapOk z) (hr:RisT l) (hl:l.length ≤ 100000) (p:Tx) (i:Nat) (nt:Nat) :
  Gd (callL Tryz.prog ⟨false,[],0,nt⟩ 139 [z,.g [.s p,.int .i64 (i:Int)]] st) fun r => ERow 127 st.nx r.2 r.1 2 (l.length + 1) (cellsN (insT (cntT p l) (p,i) l)) ∧ Ext st.nx st r.2:=by
 rw [Gd_callL Tryz.func139 rfl]
 have x0:=fun w => (Ext.refl st.nx st).new (Nat.le_refl _) w
 simp [evOp_call,sets,T.get_set,newC_is,cellsOf]
 have hzl:=hz.lenS
 obtain ⟨s1,hs1⟩:∃ s1:St,s1 = ⟨st.nx + 1,st.h.set st.nx (.cs 127 2 ((T.lf.set 0 (.s p)).set 1 (.int .i64 (i:Int))))⟩:=⟨_,rfl⟩
 have x1:Ext st.nx st s1:=by rw [hs1]; exact x0 _
 have n1:s1.nx = st.nx + 1:=by rw [hs1]
 have g1:s1.h.get st.nx = some (.cs 127 2 ((T.lf.set 0 (.s p)).set 1 (.int .i64 (i:Int)))):=by rw [hs1]; exact T.get_set_same _ _ _
 rw [← hs1]
 have hz1:=hz.ext x1
 refine Gd_loop (riI s1 z st.nx p l) (fun e _ => muAt 5 l.length e) ?_ ?_
 ·exact ⟨0,Nat.zero_le _,by simp [T.get_set],by simp [T.get_set],by simp [T.get_set],rfl,Nat.zero_le _⟩
 clear hs1
 rintro e s ⟨k,hk,g0,g3,g5,rfl,hkc⟩
 have hcl:=cntT_le p l
 by_cases hlt:k < l.length
 case neg =>
  have hke:k = cntT p l:=by omega
  have hlt':¬ (k:Int) < (l.length:Int):=by omega
  simp [evOp_call,sets,T.get_set,g0,g3,g5,hzl,hlt,hlt']
  refine ⟨by kernel_rfl,by kernel_rfl,?_⟩
  rw [evOp_build0 (fun k => el116 k) (fun k => ze127 k) rfl]
  have x2:Ext s.nx s ⟨s.nx + 1,s.h.set s.nx (.cs 127 0 .lf)⟩:=(Ext.refl _ _).new (Nat.le_refl _) _
  have hE0:ERow 127 s.nx ⟨s.nx + 1,s.h.set s.nx (.cs 127 0 .lf)⟩ (.sl s.nx 0 0 0) 2 0 []:=.inr ⟨rfl,rfl,s.nx,rfl,Nat.le_refl _,Nat.lt_succ_self _,T.get_set_same _ _ _⟩
  have n2':(⟨s.nx + 1,s.h.set s.nx (.cs 127 0 .lf)⟩:St).nx = s.nx + 1:=rfl
  generalize hs2:(⟨s.nx + 1,s.h.set s.nx (.cs 127 0 .lf)⟩:St) = s2 at x2 hE0 n2' ⊢
  have g2:=(x2.keep st.nx (by omega)).trans g1
  have hz2:=hz1.ext x2
  simp [evOp_call,T.get_set,g0,g3,g5]
  refine Gd_szHi (i:=.i64) un116 io127 hz2 hc (k:=k) (by simp [T.get_set,g0,g3,g5]) (by omega) fun v1 hv1 hb1 => ?_
  simp [evOp_call,T.get_set,g0,g3,g5]
  have hsn:st.nx + 1 ≤ s.nx:=Nat.le_of_eq n1.symm
  have hff:∀ b,b ≠ st.nx → inF [(st.nx,st.nx + 1)] b = false:=fun b h => by rw [inF_cons,if_neg (by omega)]; rfl
  have hvf:∀ b,BlkOf v1 b → inF [(st.nx,st.nx + 1)] b = false:=fun b hb => hff b (by have:=rd_blk hz b (hb1 b hb); omega)
  rw [cxOf_callL [(st.nx,st.nx + 1)] (by kernel_rfl) (by kernel_rfl) (looseW_at 3 (.p st.nx 0) (by simp [T.get_set,g3]) (by kernel_rfl)) (fun y hy => by
   simp at hy
   rcases hy with rfl | rfl <;> (rw [clashes_tmp']; simp [T.get_set,blkOf])
   ·exact hff _ (by omega)
   ·exact rd_blkF hv1 hvf) (fun p hp => by simp at hp; subst hp; rw [isRo_cs g2]; decide),forb_step (by kernel_rfl) rfl]
  simp only [List.append_nil]
  refine Gd_appendEF un116 un116 io127 (b:=s.nx) hE0 (fun m hm => hff m (by have:=(hE0.blk m hm).1; omega)) (by omega) (by decide) hv1.notS (fun k => hv1.len k) (fun k => firsts_c hv1 (fun m hm => by unfold Cx.ok; simp [hvf m hm]) k) hv1.1 (by omega) fun y1 s3 hE1 x3 => ?_
  have n3:=x3.le
  have gx3:=(x3.keep st.nx (by omega)).trans g2
  simp [evOp_call,T.get_set,g0,g3,g5,loadE_eq,getC_eq,gx3]
  refine ⟨inF_lds (rsOf_lt (rsOf_lt (by simp) (by omega)) (by omega)),fun _ => ?_⟩
  simp [getsB_succ,getsB_zero,T.get_set]
  refine evOp_build1 (v:=.g [.s p,.int .i64 (i:Int)]) (cs:=[.s p,.int .i64 (i:Int)]) (fun k => el116 k) (fun k => ze127 k) rfl (by decide) (by simp [T.get_set]) (fun k => rfl) rfl ?_
  have x4:Ext s3.nx s3 ⟨s3.nx + 1,s3.h.set s3.nx (.cs 127 2 (sets [.s p,.int .i64 (i:Int)] 0 .lf))⟩:=(Ext.refl _ _).new (Nat.le_refl _) _
  have hxb:RdRow ⟨s3.nx + 1,s3.h.set s3.nx (.cs 127 2 (sets [.s p,.int .i64 (i:Int)] 0 .lf))⟩ (.sl s3.nx 0 1 1) 2 1 (cellsN [(p,i)]):=⟨rfl,.inr (.inl ⟨s3.nx,0,1,_,_,_,rfl,Nat.lt_succ_self _,T.get_set_same _ _ _,by omega,fun j v hj => by
   rw [get_sets]
   have hjl:=lt_of_get hj
   have:j < 2:=hjl
   rw [if_pos ⟨by omega,by simpa using this⟩]
   simp only [Nat.zero_add,Nat.sub_zero]
   exact hj⟩)⟩
  have n4':(⟨s3.nx + 1,s3.h.set s3.nx (.cs 127 2 (sets [.s p,.int .i64 (i:Int)] 0 .lf))⟩:St).nx = s3.nx + 1:=rfl
  generalize hs4:(⟨s3.nx + 1,s3.h.set s3.nx (.cs 127 2 (sets [.s p,.int .i64 (i:Int)] 0 .lf))⟩:St) = s4 at x4 hxb n4' ⊢
  simp [evOp_call,T.get_set]
  rw [cxOf_call (by kernel_rfl) (by kernel_rfl),forb_step (by kernel_rfl) (forb_step (by kernel_rfl) (forb_step (by kernel_rfl) rfl))]
  refine Gd_appendER un116 un116 io127 (b:=s.nx) (hE1.ext x4) (by omega) (by decide) hxb.notS (fun k => hxb.len k) (fun k => hxb.firsts k) hxb.1 (by omega) fun y2 s5 hE2 x5 => ?_
  have n5:=x5.le
  have n4:s4.nx = s3.nx + 1:=n4'
  have hz5:RdRow s5 z 2 l.length (cellsN l):=hz.ext ((x1.trans (x2.mono (by omega))).trans ((x3.mono (by omega)).trans ((x4.mono (by omega)).trans (x5.mono (by omega)))))
  simp [evOp_call,T.get_set,g0,g3,g5]
  refine Gd_szLo (i:=.i64) un116 io127 hz5 hc (k:=k) (by simp [T.get_set,g0,g3,g5]) (by omega) fun v2 hv2 hb2 => ?_
  simp [evOp_call,T.get_set,g0,g3,g5]
  rw [cxOf_call (by kernel_rfl) (by kernel_rfl),forb_step (by kernel_rfl) (forb_step (by kernel_rfl) (forb_step (by kernel_rfl) (forb_step (by kernel_rfl) rfl)))]
  refine Gd_appendER un116 un116 io127 (b:=s.nx) hE2 (by omega) (by decide) hv2.notS (fun k => hv2.len k) (fun k => hv2.firsts k) hv2.1 (by omega) fun y3 s6 hE3 x6 => ?_
  simp [evOp_call,T.get_set]
  have e1:0 + k + 1 + (l.length - k) = l.length + 1:=by omega
  have e2:[] ++ List.take (k * 2) (cellsN l) ++ cellsN [(p,i)] ++ List.drop (k * 2) (cellsN l) = cellsN (insT (cntT p l) (p,i) l):=by
   rw [← hke]
   unfold insT
   rw [← cellsN_take,← cellsN_drop,List.nil_append,← cellsN_app,← cellsN_app]
   simp
  rw [e1,e2] at hE3
  exact ⟨hE3.mono (by omega),(x1.trans (x2.mono (by omega))).trans ((x3.mono (by omega)).trans ((x4.mono (by omega)).trans ((x5.mono (by omega)).trans (x6.mono (by omega)))))⟩
 have hlt':(k:Int) < (l.length:Int):=by omega
 have hwk:=wrap_nat (n:=k) (by omega)
 obtain ⟨m1,o1,ty1,sz1,tr1,i1,b1,kk1,l1,c1⟩:=hz1.idx (st:=s) un116 io127 hlt
 have hg:=List.getElem?_eq_getElem hlt
 obtain ⟨q1,q2⟩:=cellsN_get _ _ _ hg
 have d0:tr1.get o1 = some (.s l[k].1):=by have:=c1 0 _ (by omega) q1; simpa using this
 by_cases hc1:l[k].1 < p
 ·simp [evOp_call,sets,T.get_set,g0,g3,g5,hzl,hlt',i1,loadE_eq,getC_eq,kk1,d0,g1,hc1,hwk,bin_slt]
  refine ⟨by kernel_rfl,⟨k + 1,hlt,by simp [T.get_set,g0],by simp [T.get_set,g3],by simp [T.get_set],rfl,(cntT_lt hr hlt).2 hc1⟩,muAt_lt g5 (by simp [T.get_set]) hlt⟩
 ·have hke:k = cntT p l:=by have:¬ k < cntT p l:=fun h => hc1 ((cntT_lt hr hlt).1 h); omega
  simp [evOp_call,sets,T.get_set,g0,g3,g5,hzl,hlt',i1,loadE_eq,getC_eq,kk1,d0,g1,hc1,hwk,bin_slt]
  refine ⟨by kernel_rfl,by kernel_rfl,?_⟩
  rw [evOp_build0 (fun k => el116 k) (fun k => ze127 k) rfl]
  have x2:Ext s.nx s ⟨s.nx + 1,s.h.set s.nx (.cs 127 0 .lf)⟩:=(Ext.refl _ _).new (Nat.le_refl _) _
  have hE0:ERow 127 s.nx ⟨s.nx + 1,s.h.set s.nx (.cs 127 0 .lf)⟩ (.sl s.nx 0 0 0) 2 0 []:=.inr ⟨rfl,rfl,s.nx,rfl,Nat.le_refl _,Nat.lt_succ_self _,T.get_set_same _ _ _⟩
  have n2':(⟨s.nx + 1,s.h.set s.nx (.cs 127 0 .lf)⟩:St).nx = s.nx + 1:=rfl
  generalize hs2:(⟨s.nx + 1,s.h.set s.nx (.cs 127 0 .lf)⟩:St) = s2 at x2 hE0 n2' ⊢
  have g2:=(x2.keep st.nx (by omega)).trans g1
  have hz2:=hz1.ext x2
  simp [evOp_call,T.get_set,g0,g3,g5]
  refine Gd_szHi (i:=.i64) un116 io127 hz2 hc (k:=k) (by simp [T.get_set,g0,g3,g5]) (by omega) fun v1 hv1 hb1 => ?_
  simp [evOp_call,T.get_set,g0,g3,g5]
  have hsn:st.nx + 1 ≤ s.nx:=Nat.le_of_eq n1.symm
  have hff:∀ b,b ≠ st.nx → inF [(st.nx,st.nx + 1)] b = false:=fun b h => by rw [inF_cons,if_neg (by omega)]; rfl
  have hvf:∀ b,BlkOf v1 b → inF [(st.nx,st.nx + 1)] b = false:=fun b hb => hff b (by have:=rd_blk hz b (hb1 b hb); omega)
  rw [cxOf_callL [(st.nx,st.nx + 1)] (by kernel_rfl) (by kernel_rfl) (looseW_at 3 (.p st.nx 0) (by simp [T.get_set,g3]) (by kernel_rfl)) (fun y hy => by
   simp at hy
   rcases hy with rfl | rfl <;> (rw [clashes_tmp']; simp [T.get_set,blkOf])
   ·exact hff _ (by omega)
   ·exact rd_blkF hv1 hvf) (fun p hp => by simp at hp; subst hp; rw [isRo_cs g2]; decide),forb_step (by kernel_rfl) rfl]
  simp only [List.append_nil]
  refine Gd_appendEF un116 un116 io127 (b:=s.nx) hE0 (fun m hm => hff m (by have:=(hE0.blk m hm).1; omega)) (by omega) (by decide) hv1.notS (fun k => hv1.len k) (fun k => firsts_c hv1 (fun m hm => by unfold Cx.ok; simp [hvf m hm]) k) hv1.1 (by omega) fun y1 s3 hE1 x3 => ?_
  have n3:=x3.le
  have gx3:=(x3.keep st.nx (by omega)).trans g2
  simp [evOp_call,T.get_set,g0,g3,g5,loadE_eq,getC_eq,gx3]
  refine ⟨inF_lds (rsOf_lt (rsOf_lt (by simp) (by omega)) (by omega)),fun _ => ?_⟩
  simp [getsB_succ,getsB_zero,T.get_set]
  refine evOp_build1 (v:=.g [.s p,.int .i64 (i:Int)]) (cs:=[.s p,.int .i64 (i:Int)]) (fun k => el116 k) (fun k => ze127 k) rfl (by decide) (by simp [T.get_set]) (fun k => rfl) rfl ?_
  have x4:Ext s3.nx s3 ⟨s3.nx + 1,s3.h.set s3.nx (.cs 127 2 (sets [.s p,.int .i64 (i:Int)] 0 .lf))⟩:=(Ext.refl _ _).new (Nat.le_refl _) _
  have hxb:RdRow ⟨s3.nx + 1,s3.h.set s3.nx (.cs 127 2 (sets [.s p,.int .i64 (i:Int)] 0 .lf))⟩ (.sl s3.nx 0 1 1) 2 1 (cellsN [(p,i)]):=⟨rfl,.inr (.inl ⟨s3.nx,0,1,_,_,_,rfl,Nat.lt_succ_self _,T.get_set_same _ _ _,by omega,fun j v hj => by
   rw [get_sets]
   have hjl:=lt_of_get hj
   have:j < 2:=hjl
   rw [if_pos ⟨by omega,by simpa using this⟩]
   simp only [Nat.zero_add,Nat.sub_zero]
   exact hj⟩)⟩
  have n4':(⟨s3.nx + 1,s3.h.set s3.nx (.cs 127 2 (sets [.s p,.int .i64 (i:Int)] 0 .lf))⟩:St).nx = s3.nx + 1:=rfl
  generalize hs4:(⟨s3.nx + 1,s3.h.set s3.nx (.cs 127 2 (sets [.s p,.int .i64 (i:Int)] 0 .lf))⟩:St) = s4 at x4 hxb n4' ⊢
  simp [evOp_call,T.get_set]
  rw [cxOf_call (by kernel_rfl) (by kernel_rfl),forb_step (by kernel_rfl) (forb_step (by kernel_rfl) (forb_step (by kernel_rfl) rfl))]
  refine Gd_appendER un116 un116 io127 (b:=s.nx) (hE1.ext x4) (by omega) (by decide) hxb.notS (fun k => hxb.len k) (fun k => hxb.firsts k) hxb.1 (by omega) fun y2 s5 hE2 x5 => ?_
  have n5:=x5.le
  have n4:s4.nx = s3.nx + 1:=n4'
  have hz5:RdRow s5 z 2 l.length (cellsN l):=hz.ext ((x1.trans (x2.mono (by omega))).trans ((x3.mono (by omega)).trans ((x4.mono (by omega)).trans (x5.mono (by omega)))))
  simp [evOp_call,T.get_set,g0,g3,g5]
  refine Gd_szLo (i:=.i64) un116 io127 hz5 hc (k:=k) (by simp [T.get_set,g0,g3,g5]) (by omega) fun v2 hv2 hb2 => ?_
  simp [evOp_call,T.get_set,g0,g3,g5]
  rw [cxOf_call (by kernel_rfl) (by kernel_rfl),forb_step (by kernel_rfl) (forb_step (by kernel_rfl) (forb_step (by kernel_rfl) (forb_step (by kernel_rfl) rfl)))]
  refine Gd_appendER un116 un116 io127 (b:=s.nx) hE2 (by omega) (by decide) hv2.notS (fun k => hv2.len k) (fun k => hv2.firsts k) hv2.1 (by omega) fun y3 s6 hE3 x6 => ?_
  simp [evOp_call,T.get_set]
  have e1:0 + k + 1 + (l.length - k) = l.length + 1:=by omega
  have e2:[] ++ List.take (k * 2) (cellsN l) ++ cellsN [(p,i)] ++ List.drop (k * 2) (cellsN l) = cellsN (insT (cntT p l) (p,i) l):=by
   rw [← hke]
   unfold insT
   rw [← cellsN_take,← cellsN_drop,List.nil_append,← cellsN_app,← cellsN_app]
   simp
  rw [e1,e2] at hE3
  exact ⟨hE3.mono (by omega),(x1.trans (x2.mono (by omega))).trans ((x3.mono (by omega)).trans ((x4.mono (by omega)).trans ((x5.mono (by omega)).trans (x6.mono (by omega)))))⟩
theorem updE_sameR (F:Tr) (i:Nat) (nm:Int) (up:Nat):SameR F (updE F i { F i with nm:=nm,up:=up }):=fun j => by
 by_cases e:j = i
 ·subst e; rw [updE_same]; exact ⟨rfl,rfl,rfl⟩
 ·rw [updE_ne _ _ e]; exact ⟨rfl,rfl,rfl⟩
theorem SameR.trans {E1 E2 E3:Tr} (h:SameR E1 E2) (k:SameR E2 E3):SameR E1 E3:=fun j => ⟨(h j).1.trans (k j).1,(h j).2.1.trans (k j).2.1,(h j).2.2.trans (k j).2.2⟩
theorem enter_same (E:Tr) (a:Nat) (p:Tx) (i:Nat):SameR (enter1 E a p i) (enterE E a p i) :=
 (updE_sameR (enter1 E a p i) i _ _).trans (updE_sameR (enter2 (enter1 E a p i) i) i _ _)
theorem radd_any {st:St} {q m n:Nat} {Z:Nat → V} {E:Tr} (R:RefG st q m n Z E) {a:Nat} (ha:a ≤ n) (hr:RisT (E a).l) (hl:(E a).l.length ≤ 100000) (p:Tx) (i:Nat) (nt:Nat) :
  Gd (tmF ⟨false,[],0,nt⟩ 129 [.p q 0,.int .i64 (a:Int),.s p,.int .i64 (i:Int)] st) fun r => r.1 = .u ∧ chR st q m n Z (enter1 E a p i) r.2:=by
 rw [Gd_tmF rfl rfl Tryz.func129 rfl]
 obtain ⟨tq,hq,q0,q1⟩:=R.cell
 obtain ⟨tt,hm,row⟩:=R.row
 obtain ⟨a0,a1,a2,a3,a4,a5⟩:=row a ha
 have hlt:a < n + 1:=by omega
 have hl3:=R.lt
 simp [evOp_call,sets,T.get_set,loadE_eq,getC_eq,hq,q0,q1,hm,a3,hlt]
 refine ⟨by kernel_rfl,?_⟩
 have hff:∀ b,b ≠ q → inF [(q,q + 1)] b = false:=fun b h => by rw [inF_cons,if_neg (by omega)]; rfl
 rw [cxOf_callL [(q,q + 1)] (by kernel_rfl) (by kernel_rfl) (looseW_at 10 (.p q 1) (by simp [T.get_set]) (by kernel_rfl)) (fun y hy => by
  simp at hy
  rcases hy with rfl | rfl <;> (rw [clashes_tmp']; simp [T.get_set,blkOf])
  exact rd_blkF a4 fun b hb => hff b (a5 b hb).1) (fun p hp => by simp at hp; subst hp; rw [isRo_cs hq]; decide),forb_nil]
 simp only [List.append_nil]
 show Gd (liftF tmK ⟨false,[(q,q + 1)],0,_⟩ _ _ st) _
 refine Gd_lift (R:=fun v s' => RdRow s' v 2 ((E a).l.length + 1) (cellsN (insT (cntT p (E a).l) (p,i) (E a).l)) ∧ CapOk v ∧ ∀ b,BlkOf v b → st.nx ≤ b) (by
  rw [tmK_ne rfl]
  refine Gd.mono (rinsert_any (er _ st) (Z a) (E a).l (a4.er fun b hb => hff b (a5 b hb).1) (R.cap a ha) hr hl p i _) ?_
  rintro ⟨v,s'⟩ ⟨c1,c2⟩
  exact ⟨⟨c1.rd,c1.cap,fun b hb => (c1.blk b hb).1⟩,c2⟩) ?_
 rintro z s1' s1 ⟨hz,hzc,hzb⟩ k1 x1
 have hz:=RdRow.sub k1 hz
 have hz1:V.one z = true:=hz.one
 have R1:=R.ext x1
 have hq1:=(x1.keep q hl3.1).trans hq
 have hm1:=(x1.keep m hl3.2.1).trans hm
 have hbd:a * 4 + 3 + 1 ≤ (n + 1) * 4:=by omega
 have hbd':a * 4 + 4 ≤ (n + 1) * 4:=by omega
 have hmq:¬ m = q:=hl3.2.2
 simp [evOp_call,T.get_set,hlt]
 rw [cxOf_store (by kernel_rfl),forb_step (by kernel_rfl) rfl]
 simp [evOp_call,T.get_set,sets,storeK_1 hz1,putB_eq,loadE_eq,getC_eq,hm1,roT,hbd,hbd',hmq]
 have hil:(insT (cntT p (E a).l) (p,i) (E a).l).length = (E a).l.length + 1:=insT_length (cntT_le _ _)
 exact ⟨updZ Z a z,R1.setL ha z _ hm1 (by rw [hil]; exact hz) (fun b hb => by have:=hzb b hb; omega) hzc,StR.upd x1.le (fun w => set_wf (by have:=x1.le; omega) _ (x1.wf w)) (fun b hb hbm => (T.get_set_ne _ _ (Ne.symm hbm)).trans (x1.keep b hb)) hzb⟩
def rwiI (st:St) (q n d i:Nat) (E:Tr) (e:Env) (s:St):Prop:=∃ k:Nat,k ≤ n + 1 ∧ e.get 0 = some (.p q 0) ∧ e.get 1 = some (.int .i64 (upI E k d:Int)) ∧ e.get 2 = some (.int .i64 (i:Int)) ∧ e.get 7 = some (.int .i64 (k:Int)) ∧ s = st ∧ ∀ j,j < k → upI E j d ≠ i
theorem rwithin_any {st:St} {q m n B:Nat} {Z:Nat → V} {E:Tr} (R:RefG st q m n Z E) (O:TOk n B E) (C:Ct n E) (hB:B ≤ 1000) {d i:Nat} (hd:(E d).k = 2) (nt:Nat) :
  Gd (callL Tryz.prog ⟨false,[],0,nt⟩ 135 [.p q 0,.int .i64 (d:Int),.int .i64 (i:Int)] st) fun r => ∃ b:Bool,r = (.bool b,st) ∧ (b = true ↔ Wn E i d):=by
 rw [Gd_callL Tryz.func135 rfl]
 obtain ⟨tq,hq,q0,q1⟩:=R.cell
 have hn:=O.n2
 simp [evOp_call,sets,T.get_set]
 refine Gd_loop (rwiI st q n d i E) (fun e _ => muAt 7 (n + 1) e) ?_ ?_
 ·exact ⟨0,Nat.zero_le _,by simp [T.get_set],by simp [T.get_set,upI],by simp [T.get_set],by simp [T.get_set],rfl,fun j hj => by omega⟩
 rintro e s ⟨k,hk,g0,g1,g2,g7,rfl,hno⟩
 by_cases hlt:k < n + 1
 case neg =>
  obtain rfl:k = n + 1:=by omega
  have hnle:¬ ((n:Int) + 1 ≤ (n:Int)):=by omega
  simp [evOp_call,T.get_set,g0,g1,g2,g7,loadE_eq,getC_eq,hq,q0,hnle,sets]
  rw [O.wnI hd]
  rintro ⟨j,hj,e⟩
  exact hno j (by omega) e
 have hle:(k:Int) ≤ (n:Int):=by omega
 have hwk:=wrap_nat (n:=k) (by omega)
 have hdk:=O.upD k d hd
 by_cases c1:upI E k d = i
 ·have c1':(upI E k d:Int) = (i:Int):=by omega
  simp [evOp_call,T.get_set,g0,g1,g2,g7,loadE_eq,getC_eq,hq,q0,hle,c1,c1',sets]
  rw [O.wnI hd]
  exact ⟨k,by omega,c1⟩
 have c1':¬ (upI E k d:Int) = (i:Int):=by omega
 simp [evOp_call,T.get_set,g0,g1,g2,g7,loadE_eq,getC_eq,hq,q0,hle,c1,c1',sets]
 refine Gd.mono (rparent_any R O C hB hdk _) ?_
 rintro _ rfl
 simp [evOp_call,T.get_set,g0,g1,g2,g7,hwk]
 refine ⟨⟨k + 1,by omega,by simp [T.get_set,g0],?_,by simp [T.get_set,g2],by simp [T.get_set],rfl,fun j hj => ?_⟩,muAt_lt g7 (by simp [T.get_set]) hlt⟩
 ·rw [upI_add E 1 k d]
  simp [T.get_set,upI]
 ·by_cases e:j = k
  ·subst e; exact c1
  ·exact hno j (by omega)
theorem rdrop_any {st:St} {q m n B:Nat} {Z:Nat → V} {E:Tr} (R:RefG st q m n Z E) (L:LkW n B E) (hB:B ≤ 1002) {a i:Nat} (ha:a ≤ n) (hi:i ≤ n) {p:Tx} (he:entT p (E a).l = some i) (nt:Nat) :
  Gd (callL Tryz.prog ⟨false,[],0,nt⟩ 133 [.p q 0,.int .i64 (a:Int),.s p] st) fun r => r.1 = .u ∧ chR st q m n Z (dropR n E a p i) r.2:=by
 rw [Gd_callL Tryz.func133 rfl]
 obtain ⟨tq,hq,q0,q1⟩:=R.cell
 obtain ⟨tt,hm,row⟩:=R.row
 obtain ⟨a0,a1,a2,a3,a4,a5⟩:=row a ha
 have hlt:a < n + 1:=by omega
 have hl3:=R.lt
 have hll:=L.len a
 simp [evOp_call,sets,T.get_set,loadE_eq,getC_eq,hq,q0,q1,hm,a3,hlt]
 refine Gd.mono (rfind_any st (Z a) (E a).l a4 (by omega) p _) ?_
 rintro _ rfl
 have hg:=entT_some he
 obtain ⟨hjl,hje⟩:=List.getElem?_eq_some_iff.1 hg
 have ef:fiN p (E a).l = (cntT p (E a).l:Int):=fiN_at hjl (by rw [hje]) fun j hj e => by
  have:=ris_one (L.ris a) (i:=j) (j:=cntT p (E a).l) (by omega) hjl (by rw [e,hje])
  omega
 obtain ⟨j,hj⟩:∃ j,j = cntT p (E a).l:=⟨_,rfl⟩
 rw [← hj] at hg hjl ef
 clear hje
 obtain ⟨m1,o1,ty1,sz1,tr1,i1,b1,kk1,l1,c1⟩:=a4.idx (st:=st) un116 io127 hjl
 obtain ⟨p1,p2⟩:=cellsN_get _ _ _ hg
 have d1:tr1.get (o1 + 1) = some (.int .i64 (i:Int)):=c1 1 _ (by omega) p2
 have hwj:IntKind.i64.wrap ((j:Int) + 1) = ((j + 1:Nat):Int):=wrap_nat (n:=j) (by omega)
 simp [evOp_call,T.get_set,ef,loadE_eq,getC_eq,hq,q0,q1,hm,a3,hlt,i1,kk1,d1,sets]
 refine ⟨by kernel_rfl,?_⟩
 rw [evOp_build0 (fun k => el116 k) (fun k => ze127 k) rfl]
 have x1:Ext st.nx st ⟨st.nx + 1,st.h.set st.nx (.cs 127 0 .lf)⟩:=(Ext.refl _ _).new (Nat.le_refl _) _
 have hE0:ERow 127 st.nx ⟨st.nx + 1,st.h.set st.nx (.cs 127 0 .lf)⟩ (.sl st.nx 0 0 0) 2 0 []:=.inr ⟨rfl,rfl,st.nx,rfl,Nat.le_refl _,Nat.lt_succ_self _,T.get_set_same _ _ _⟩
 generalize hs1:(⟨st.nx + 1,st.h.set st.nx (.cs 127 0 .lf)⟩:St) = s1 at x1 hE0 ⊢
 have n1:s1.nx = st.nx + 1:=by rw [← hs1]
 have hq1:=(x1.keep q hl3.1).trans hq
 have hm1:=(x1.keep m hl3.2.1).trans hm
 simp [evOp_call,T.get_set,loadE_eq,getC_eq,hq1,q0,q1,hm1,a3,hlt]
 refine ⟨inF_ld hl3.1,fun _ => ⟨inF_ld hl3.2.1,fun _ => ?_⟩⟩
 refine Gd_szHi (i:=.i64) un116 io127 (a4.ext x1) (R.cap a ha) (k:=j) (by simp [T.get_set]) (by omega) fun v1 hv1 hb1 => ?_
 simp [evOp_call,T.get_set]
 rw [cxOf_callW (by kernel_rfl) (by kernel_rfl) (by kernel_rfl),forb_step (by kernel_rfl) rfl]
 have g0:s1.h.get st.nx = some (.cs 127 0 .lf):=by rw [← hs1]; exact T.get_set_same _ _ _
 refine Gd_append0W (b:=st.nx) un116 un116 io127 (by decide) (Nat.le_refl _) (by omega) rfl g0 hv1.notS (fun k => hv1.len k) (fun k => firsts_c hv1 (fun m hm => rfl) k) hv1.1 (by omega) fun y1 s2 hE1 x2 => ?_
 have n2:=x2.le
 have hq2:=(x2.keep q hl3.1).trans hq1
 have hm2:=(x2.keep m hl3.2.1).trans hm1
 simp [evOp_call,T.get_set,loadE_eq,getC_eq,hq2,q0,q1,hm2,a3,hlt,hwj]
 refine ⟨inF_lds (rsOf_lt (rsOf_lt (by simp) (by omega)) (by omega)),fun _ => ⟨inF_lds (rsOf_lt (rsOf_lt (by simp) (by omega)) (by omega)),fun _ => ?_⟩⟩
 have hz2:=a4.ext (x1.trans x2)
 refine Gd_szLo (i:=.i64) un116 io127 hz2 (R.cap a ha) (k:=j + 1) (by simp [T.get_set]) (by omega) fun v2 hv2 hb2 => ?_
 simp [evOp_call,T.get_set]
 have hff:∀ b,b ≠ q → inF [(q,q + 1)] b = false:=fun b h => by rw [inF_cons,if_neg (by omega)]; rfl
 have hv2f:∀ b,BlkOf v2 b → inF [(q,q + 1)] b = false:=fun b hb => hff b (a5 b (hb2 b hb)).1
 have hE1f:∀ b,BlkOf y1 b → inF [(q,q + 1)] b = false:=fun b hb => hff b (by have:=(hE1.blk b hb).1; omega)
 rw [cxOf_callL [(q,q + 1)] (by kernel_rfl) (by kernel_rfl) (looseW_at 32 (.p q 1) (by simp [T.get_set]) (by kernel_rfl)) (fun y hy => by
  simp at hy
  rcases hy with rfl | rfl <;> (rw [clashes_tmp']; simp [T.get_set,blkOf])
  ·exact rd_blkF hE1.rd hE1f
  ·exact rd_blkF hv2 hv2f) (fun p hp => by simp at hp; subst hp; rw [isRo_cs hq2]; decide),forb_step (by kernel_rfl) (forb_step (by kernel_rfl) rfl)]
 simp only [List.append_nil]
 refine Gd_appendEF un116 un116 io127 (b:=st.nx) hE1 hE1f (by omega) (by decide) hv2.notS (fun k => hv2.len k) (fun k => firsts_c hv2 (fun m hm => by unfold Cx.ok; simp [hv2f m hm]) k) hv2.1 (by omega) fun y3 s3 hE3 x3 => ?_
 have n3:=x3.le
 have hm3:=(x3.keep m hl3.2.1).trans hm2
 have hy3:V.one y3 = true:=hE3.rd.one
 have hbd:a * 4 + 3 + 1 ≤ (n + 1) * 4:=by omega
 have hbd':a * 4 + 4 ≤ (n + 1) * 4:=by omega
 simp [evOp_call,T.get_set,hlt]
 rw [cxOf_store (by kernel_rfl),forb_step (by kernel_rfl) (forb_step (by kernel_rfl) (forb_step (by kernel_rfl) rfl))]
 simp [evOp_call,T.get_set,sets,storeK_1 hy3,putB_eq,hm3,roT,hbd,hbd']
 have x13:Ext st.nx st s3:=(x1.trans x2).trans x3
 have R3:=R.ext x13
 have e2:List.take (j * 2) (cellsN (E a).l) ++ List.drop ((j + 1) * 2) (cellsN (E a).l) = cellsN ((E a).l.eraseIdx j):=by
  rw [← cellsN_take,← cellsN_drop,← cellsN_app,List.eraseIdx_eq_take_drop_succ]
 have e3:((E a).l.eraseIdx j).length = j + ((E a).l.length - (j + 1)):=by rw [List.length_eraseIdx_of_lt hjl]; omega
 rw [e2,← e3] at hE3
 have R4:=R3.setL ha y3 ((E a).l.eraseIdx j) hm3 hE3.rd (fun b hb => by have:=(hE3.blk b hb).1; omega) hE3.cap
 have S4:StR st ⟨s3.nx,s3.h.set m (.cs 118 ((n + 1) * 4) (tt.set (a * 4 + 3) y3))⟩ m n Z (updZ Z a y3):=StR.upd x13.le (fun w => set_wf (by have:=x13.le; omega) _ (x13.wf w)) (fun b hb hbm => (T.get_set_ne _ _ (Ne.symm hbm)).trans (x13.keep b hb)) fun b hb => (hE3.blk b hb).1
 have e4:updE E a { E a with l:=(E a).l.eraseIdx j } = leave1 E a p:=by unfold leave1; rw [hj]
 rw [e4] at R4
 have hm4:(s3.h.set m (.cs 118 ((n + 1) * 4) (tt.set (a * 4 + 3) y3))).get m = some (.cs 118 ((n + 1) * 4) (tt.set (a * 4 + 3) y3)):=T.get_set_same _ _ _
 have hq4:(s3.h.set m (.cs 118 ((n + 1) * 4) (tt.set (a * 4 + 3) y3))).get q = some (.cs 115 2 tq):=(T.get_set_ne _ _ hl3.2.2).trans ((x3.keep q hl3.1).trans hq2)
 have L1:=L.leave1 a p
 generalize hS4:(⟨s3.nx,s3.h.set m (.cs 118 ((n + 1) * 4) (tt.set (a * 4 + 3) y3))⟩:St) = s4 at R4 S4 ⊢
 have hm4':s4.h.get m = some (.cs 118 ((n + 1) * 4) (tt.set (a * 4 + 3) y3)):=by rw [← hS4]; exact hm4
 have hq4':s4.h.get q = some (.cs 115 2 tq):=by rw [← hS4]; exact hq4
 refine Gd.mono (rlinks_gen R4 L1.n2 L1.z L1.len hB i _) ?_
 rintro _ rfl
 by_cases c0:cntE n (leave1 E a p) i = 0
 ·have hli:i < n + 1:=by omega
  have hbi:i * 4 + 4 ≤ (n + 1) * 4:=by omega
  simp [evOp_call,T.get_set,c0,loadE_eq,getC_eq,hq4',q1,hli,storeK_g,putB_eq,hm4',roT,hbi,cellsOf]
  have R5:=R4.setP hi 0 [] hm4' 0 0
  have e5:dropR n E a p i = updE (leave1 E a p) i noE:=by unfold dropR; rw [if_pos c0]
  rw [e5]
  refine ⟨updZ (updZ Z a y3) i (.c (.slice none 0 0)),R5,S4.trans (StR.upd (Nat.le_refl _) (fun w => set_wf R4.lt.2.1 _ w) (fun b hb hbm => T.get_set_ne _ _ (Ne.symm hbm)) fun b hb => by rcases hb with ⟨_,_,_,e⟩ | ⟨_,_,_,e⟩ <;> cases e)⟩
 ·have c0':¬ (cntE n (leave1 E a p) i:Int) = 0:=by omega
  have e5:dropR n E a p i = leave1 E a p:=by unfold dropR; rw [if_neg c0]
  simp [evOp_call,T.get_set,c0,c0']
  rw [e5]
  exact ⟨_,R4,S4⟩
end Go.Proofs.YtgcpgidofikcdaaGreatDoor
set_option linter.unusedSimpArgs false
set_option linter.unusedVariables false
namespace Go.Proofs.YtgcpgidofikcdaaGreatDoor
open Go.RowKit Ev
section
variable {st:St} {q m n B:Nat} {Z:Nat → V} {E:Tr}
theorem rmakes_any (R:RefG st q m n Z E) (O:TOk n B E) (C:Ct n E) (hB:B ≤ 1000) (s:Tx) (hs:okS s) (k:Nat) (hk:k ≠ 0) (d:Tx) (nt:Nat) :
  Gd (tmF ⟨false,[],0,nt⟩ 64 [.p q 0,.s s,.int .i64 (k:Int),.s d] st) (rrR st q m n Z (makeE n E s k d)):=by
 rw [Gd_tmF rfl rfl Tryz.func64 rfl]
 have x0:=fun w => (Ext.refl st.nx st).new (Nat.le_refl _) w
 simp [evOp_call,sets,T.get_set,newC_is]
 rw [tmF_ne rfl]
 refine Gd.mono (rfree_any (R.ext (x0 _)) O C hB s _) ?_
 rintro ⟨r,s1⟩ ⟨x,hr,hx,x1⟩
 simp only at hr x1
 subst hr
 have hx1:=(x0 _).trans (x1.mono (Nat.le_succ _))
 have n1:st.nx + 1 ≤ s1.nx:=x1.le
 have k1:=x1.keep st.nx (Nat.lt_succ_self _)
 simp only [T.get_set_same] at k1
 by_cases ce:(roomE E s).2.2 = 0
 rotate_left
 ·have hw:makeE n E s k d = (refR (roomE E s).2.2,E):=if_pos ce
  simp [evOp_call,sets,T.get_set,tupK,ce]
  rw [tmF_ne rfl]
  refine Gd.mono (rfail_any s1 _ _) ?_
  rintro ⟨r,s2⟩ ⟨hr,x2⟩
  simp only at hr x2
  subst hr
  have nf:=x2.le
  have hxf:=hx1.trans (x2.mono hx1.le)
  have kf:=(x2.keep (st.nx) (by omega)).trans k1
  simp [evOp_call,sets,T.get_set,kf,storeK_g,putB_eq,roT,cellsOf,loadE_eq,getC_eq,getsB_succ,getsB_zero]
  rw [hw]
  exact rrR_ref R (hxf.set (by omega) (by omega) _) _
 have hx:=hx ce
 subst hx
 have R1:=R.ext hx1
 have hn:=O.n2
 simp [evOp_call,sets,T.get_set,tupK,ce]
 rw [tmF_ne rfl]
 refine Gd.mono (rleast_any R1 hn.2 _) ?_
 rintro _ rfl
 by_cases c0:spareE n E = 0
 ·have hw:makeE n E s k d = (refR 7,E):=by unfold makeE; rw [if_neg (by simpa using ce),if_pos c0]
  simp [evOp_call,sets,T.get_set,c0]
  rw [tmF_ne rfl]
  refine Gd.mono (rfail_any s1 _ _) ?_
  rintro ⟨r,s2⟩ ⟨hr,x2⟩
  simp only at hr x2
  subst hr
  have nf:=x2.le
  have hxf:=hx1.trans (x2.mono hx1.le)
  have kf:=(x2.keep (st.nx) (by omega)).trans k1
  simp [evOp_call,sets,T.get_set,kf,storeK_g,putB_eq,roT,cellsOf,loadE_eq,getC_eq,getsB_succ,getsB_zero]
  rw [hw]
  exact rrR_ref R (hxf.set (by omega) (by omega) _) _
 have hw:makeE n E s k d = (nodeR (spareE n E),enterE (updE E (spareE n E) ⟨k,0,0,d,[]⟩) (roomE E s).1 (roomE E s).2.1 (spareE n E)):=by unfold makeE; rw [if_neg (by simpa using ce),if_neg c0]
 obtain ⟨i3,hin,hik⟩:=O.spare c0
 obtain ⟨r1,r2,r3,r4⟩:=O.room hs ce
 obtain ⟨i,hi⟩:∃ i,i = spareE n E:=⟨_,rfl⟩
 rw [← hi] at hw c0 i3 hin hik ⊢
 obtain ⟨tq,hq,q0,q1⟩:=R1.cell
 obtain ⟨tt,hm,row⟩:=R1.row
 have hil:i < n + 1:=by omega
 have hbi:i * 4 + 4 ≤ (n + 1) * 4:=by omega
 simp [evOp_call,sets,T.get_set,c0,loadE_eq,getC_eq,hq,q1,hil,storeK_g,putB_eq,hm,roT,hbi,cellsOf]
 have R7:=R1.setP hin k d hm 0 0
 rw [if_neg hk] at R7
 simp only [sets] at R7
 have hai:(roomE E s).1 ≠ i:=fun e => by rw [e,hik] at r1; cases r1
 have S7:StR s1 ⟨s1.nx,s1.h.set m (.cs 118 ((n + 1) * 4) ((((tt.set (i * 4) (.int .i64 (i:Int))).set (i * 4 + 1) (.int .i64 (k:Int))).set (i * 4 + 1 + 1) (.s d)).set (i * 4 + 1 + 1 + 1) (.c (.slice none 0 0))))⟩ m n Z (updZ Z i (.c (.slice none 0 0))):=StR.upd (st:=s1) (m:=m) (n:=n) (Z:=Z) (i:=i) (z:=.c (.slice none 0 0)) (Nat.le_refl _) (fun w => set_wf R1.lt.2.1 (.cs 118 ((n + 1) * 4) ((((tt.set (i * 4) (.int .i64 (i:Int))).set (i * 4 + 1) (.int .i64 (k:Int))).set (i * 4 + 1 + 1) (.s d)).set (i * 4 + 1 + 1 + 1) (.c (.slice none 0 0)))) w) (fun b hb hbm => T.get_set_ne _ _ (Ne.symm hbm)) fun b hb => by rcases hb with ⟨_,_,_,e⟩ | ⟨_,_,_,e⟩ <;> cases e
 have han:=(O.kle (i:=(roomE E s).1) (by omega)).2
 have hE1:(updE E i ⟨k,0,0,d,[]⟩ (roomE E s).1).l = (E (roomE E s).1).l:=by rw [updE_ne _ _ hai]
 refine Gd.mono (radd_any R7 han (by rw [hE1]; exact O.ris _) (by rw [hE1]; have:=O.len (roomE E s).1; omega) (roomE E s).2.1 i _) ?_
 rintro ⟨r,s8⟩ ⟨hr,c8⟩
 simp only at hr c8
 subst hr
 have c9:chR s1 q m n Z (enterE (updE E i ⟨k,0,0,d,[]⟩) (roomE E s).1 (roomE E s).2.1 i) s8:=by
  obtain ⟨Z',h1,h2⟩:=c8
  exact ⟨Z',h1.same (enter_same _ _ _ _),S7.trans h2⟩
 obtain ⟨k2,c3,c4⟩:=rchg_fin R hx1 ⟨Nat.le_refl _,by omega⟩ c9
 rw [k1] at k2
 simp [evOp_call,sets,T.get_set,k2,storeK_g,putB_eq,roT,cellsOf,loadE_eq,getC_eq,getsB_succ,getsB_zero]
 rw [hw]
 exact rrR_node (c4 _) _
def opR (o:OpT):V:=.g [.int .i64 o.kind,.s o.a,.s o.b,.int .i64 o.at_,.int .i64 o.n,.s o.data]
theorem rlink_any (R:RefG st q m n Z E) (O:TOk n B E) (C:Ct n E) (hB:B ≤ 1000) (o:OpT) (hb:okS o.b) (nt:Nat) :
  Gd (tmF ⟨false,[],0,nt⟩ 65 [.p q 0,opR o] st) (rrR st q m n Z (linkE E o.a o.b)):=by
 rw [Gd_tmF rfl rfl Tryz.func65 rfl]
 have x0:=fun w w' => ((Ext.refl st.nx st).new (Nat.le_refl _) w).new (Nat.le_succ _) w'
 simp [evOp_call,sets,T.get_set,newC_is,opR,cellsOf,loadE_eq,getC_eq]
 rw [tmF_ne rfl]
 refine Gd.mono (rway_any (R.ext (x0 _ _)) O C hB o.a false _) ?_
 rintro ⟨r,s1⟩ ⟨hr,x1⟩
 simp only at hr x1
 subst hr
 have hx1:=(x0 _ _).trans (x1.mono (by show st.nx ≤ st.nx + 1 + 1; omega))
 have n1:st.nx + 1 + 1 ≤ s1.nx:=x1.le
 have kb:=x1.keep st.nx (by show st.nx < st.nx + 1 + 1; omega)
 have k1:=x1.keep (st.nx + 1) (by show st.nx + 1 < st.nx + 1 + 1; omega)
 simp [T.get_set] at kb k1
 have R1:=R.ext hx1
 have hwn:=O.way o.a false
 obtain ⟨w,hwd⟩:∃ w,w = wayE E o.a false:=⟨_,rfl⟩
 have hlk:linkE E o.a o.b = if w.2 ≠ 0 then (refR w.2,E) else if (E w.1).k = 2 then (refR 5,E) else if (roomE E o.b).2.2 ≠ 0 then (refR (roomE E o.b).2.2,E) else if 200 ≤ (E w.1).nm then (refR 10,E) else (nodeR w.1,enterE E (roomE E o.b).1 (roomE E o.b).2.1 w.1):=by rw [hwd]; rfl
 have hkw:w.2 = 0 → (E w.1).k ≠ 0:=fun h => by rw [hwd] at h ⊢; exact C.way O h
 rw [← hwd] at hwn ⊢
 by_cases ce:w.2 = 0
 rotate_left
 ·have hw:linkE E o.a o.b = (refR w.2,E):=by rw [hlk,if_pos ce]
  simp [evOp_call,sets,T.get_set,tupK,ce]
  rw [tmF_ne rfl]
  refine Gd.mono (rfail_any s1 _ _) ?_
  rintro ⟨r,s2⟩ ⟨hr,x2⟩
  simp only at hr x2
  subst hr
  have nf:=x2.le
  have hxf:=hx1.trans (x2.mono hx1.le)
  have kf:=(x2.keep (st.nx + 1) (by omega)).trans k1
  simp [evOp_call,sets,T.get_set,kf,storeK_g,putB_eq,roT,cellsOf,loadE_eq,getC_eq,getsB_succ,getsB_zero]
  rw [hw]
  exact rrR_ref R (hxf.set (by omega) (by omega) _) _
 obtain ⟨tq,hq,q0,q1⟩:=R1.cell
 obtain ⟨tt,hm,row⟩:=R1.row
 obtain ⟨a0,a1,a2,a3,a4,a5⟩:=row w.1 hwn.1
 have hwl:w.1 < n + 1:=by omega
 by_cases ck:(E w.1).k = 2
 ·have hw:linkE E o.a o.b = (refR 5,E):=by rw [hlk,if_neg (by simpa using ce),if_pos ck]
  simp [evOp_call,sets,T.get_set,tupK,ce,loadE_eq,getC_eq,hq,q1,hwl,hm,a1,ck]
  rw [tmF_ne rfl]
  refine Gd.mono (rfail_any s1 _ _) ?_
  rintro ⟨r,s2⟩ ⟨hr,x2⟩
  simp only at hr x2
  subst hr
  have nf:=x2.le
  have hxf:=hx1.trans (x2.mono hx1.le)
  have kf:=(x2.keep (st.nx + 1) (by omega)).trans k1
  simp [evOp_call,sets,T.get_set,kf,storeK_g,putB_eq,roT,cellsOf,loadE_eq,getC_eq,getsB_succ,getsB_zero]
  rw [hw]
  exact rrR_ref R (hxf.set (by omega) (by omega) _) _
 have ck':¬ ((E w.1).k:Int) = 2:=by omega
 simp [evOp_call,sets,T.get_set,tupK,ce,loadE_eq,getC_eq,hq,q1,hwl,hm,a1,ck,ck',kb]
 rw [tmF_ne rfl]
 refine Gd.mono (rfree_any R1 O C hB o.b _) ?_
 rintro ⟨r,s2⟩ ⟨x,hr,hx,x2⟩
 simp only at hr x2
 subst hr
 have n2:=x2.le
 have hx2:=hx1.trans (x2.mono hx1.le)
 have k2:=(x2.keep (st.nx + 1) (by omega)).trans k1
 by_cases cf:(roomE E o.b).2.2 = 0
 rotate_left
 ·have hw:linkE E o.a o.b = (refR (roomE E o.b).2.2,E):=by rw [hlk,if_neg (by simpa using ce),if_neg ck,if_pos cf]
  simp [evOp_call,sets,T.get_set,tupK,cf]
  rw [tmF_ne rfl]
  refine Gd.mono (rfail_any s2 _ _) ?_
  rintro ⟨r,s3⟩ ⟨hr,x3⟩
  simp only at hr x3
  subst hr
  have nf:=x3.le
  have hxf:=hx2.trans (x3.mono hx2.le)
  have kf:=(x3.keep (st.nx + 1) (by omega)).trans k2
  simp [evOp_call,sets,T.get_set,kf,storeK_g,putB_eq,roT,cellsOf,loadE_eq,getC_eq,getsB_succ,getsB_zero]
  rw [hw]
  exact rrR_ref R (hxf.set (by omega) (by omega) _) _
 have hx:=hx cf
 subst hx
 have R2:=R.ext hx2
 simp [evOp_call,sets,T.get_set,tupK,cf]
 rw [tmF_ne rfl]
 refine Gd.mono (rlinks_any R2 O hB w.1 _) ?_
 rintro _ rfl
 obtain ⟨r1,r2,r3,r4⟩:=O.room hb cf
 have hw3:3 ≤ w.1:=by
  have:=hwn.2 ce
  have h1:w.1 ≠ 1:=fun e => ck (by rw [e]; exact O.root.1)
  have h2:w.1 ≠ 2:=fun e => ck (by rw [e]; exact O.lost.1)
  omega
 have hnm:=C.nm w.1 hw3
 by_cases c2:200 ≤ (E w.1).nm
 ·have hw:linkE E o.a o.b = (refR 10,E):=by rw [hlk,if_neg (by simpa using ce),if_neg ck,if_neg (by simpa using cf),if_pos c2]
  have c2':(200:Int) ≤ (cntE n E w.1:Int):=by omega
  simp [evOp_call,sets,T.get_set,c2']
  rw [tmF_ne rfl]
  refine Gd.mono (rfail_any s2 _ _) ?_
  rintro ⟨r,s3⟩ ⟨hr,x3⟩
  simp only at hr x3
  subst hr
  have nf:=x3.le
  have hxf:=hx2.trans (x3.mono hx2.le)
  have kf:=(x3.keep (st.nx + 1) (by omega)).trans k2
  simp [evOp_call,sets,T.get_set,kf,storeK_g,putB_eq,roT,cellsOf,loadE_eq,getC_eq,getsB_succ,getsB_zero]
  rw [hw]
  exact rrR_ref R (hxf.set (by omega) (by omega) _) _
 have hw:linkE E o.a o.b = (nodeR w.1,enterE E (roomE E o.b).1 (roomE E o.b).2.1 w.1):=by rw [hlk,if_neg (by simpa using ce),if_neg ck,if_neg (by simpa using cf),if_neg c2]
 have c2':¬ (200:Int) ≤ (cntE n E w.1:Int):=by omega
 simp [evOp_call,sets,T.get_set,c2']
 have han:=(O.kle (i:=(roomE E o.b).1) (by omega)).2
 refine Gd.mono (radd_any R2 han (O.ris _) (by have:=O.len (roomE E o.b).1; omega) (roomE E o.b).2.1 w.1 _) ?_
 rintro ⟨r,s3⟩ ⟨hr,c3⟩
 simp only at hr c3
 subst hr
 obtain ⟨k3,c4,c5⟩:=rchg_fin R hx2 (rb:=st.nx + 1) ⟨by omega,by omega⟩ (c3.same (enter_same _ _ _ _))
 rw [k2] at k3
 simp [evOp_call,sets,T.get_set,k3,storeK_g,putB_eq,roT,cellsOf,loadE_eq,getC_eq,getsB_succ,getsB_zero]
 rw [hw]
 exact rrR_node (c5 _) _
theorem rgone_any (R:RefG st q m n Z E) (O:TOk n B E) (C:Ct n E) (hB:B ≤ 1000) (o:OpT) (W:Rs × Tr) (hk:o.kind = 4 ∧ W = unlinkE E o.a ∨ o.kind = 5 ∧ W = rmdirE E o.a) (nt:Nat) :
  Gd (callL Tryz.prog ⟨false,[],0,nt⟩ 66 [.p q 0,opR o] st) (rrR st q m n Z W):=by
 rw [Gd_callL Tryz.func66 rfl]
 have x0:=fun w w' => ((Ext.refl st.nx st).new (Nat.le_refl _) w).new (Nat.le_succ _) w'
 simp [evOp_call,sets,T.get_set,newC_is,opR,cellsOf,loadE_eq,getC_eq]
 refine Gd.mono (rdir_any (R.ext (x0 _ _)) O C hB o.a _) ?_
 rintro ⟨r,s1⟩ ⟨x,hr,hx,x1⟩
 simp only at hr x1
 subst hr
 have hx1:=(x0 _ _).trans (x1.mono (by show st.nx ≤ st.nx + 1 + 1; omega))
 have n1:st.nx + 1 + 1 ≤ s1.nx:=x1.le
 have kb:=x1.keep st.nx (by show st.nx < st.nx + 1 + 1; omega)
 have k1:=x1.keep (st.nx + 1) (by show st.nx + 1 < st.nx + 1 + 1; omega)
 simp [T.get_set] at kb k1
 have R1:=R.ext hx1
 have hd:=lastDE_dir O (s:=o.a)
 have hth:thereE E o.a = if (lastDE E o.a).2.2 ≠ 0 then (0,0,[],(lastDE E o.a).2.2) else if findE E (lastDE E o.a).1 (lastDE E o.a).2.1 = 0 then (0,0,[],2) else ((lastDE E o.a).1,findE E (lastDE E o.a).1 (lastDE E o.a).2.1,(lastDE E o.a).2.1,0):=rfl
 have hu:unlinkE E o.a = if (thereE E o.a).2.2.2 ≠ 0 then (refR (thereE E o.a).2.2.2,E) else if (E (thereE E o.a).2.1).k = 2 then (refR 5,E) else (nodeR (thereE E o.a).2.1,leaveE E (thereE E o.a).1 (thereE E o.a).2.2.1):=rfl
 have hm':rmdirE E o.a = if (thereE E o.a).2.2.2 ≠ 0 then (refR (thereE E o.a).2.2.2,E) else if (E (thereE E o.a).2.1).k ≠ 2 then (refR 4,E) else if (thereE E o.a).2.1 = 2 then (refR 12,E) else if (E (thereE E o.a).2.1).l ≠ [] then (refR 6,E) else (nodeR (thereE E o.a).2.1,leaveE E (thereE E o.a).1 (thereE E o.a).2.2.1):=rfl
 obtain ⟨⟨d,nm,er⟩,hdd⟩:∃ w,w = lastDE E o.a:=⟨_,rfl⟩
 rw [← hdd] at hd hx hth ⊢
 simp only at hd hx hth ⊢
 by_cases ce:er = 0
 rotate_left
 ·have ht:(thereE E o.a).2.2.2 = er:=by rw [hth,if_pos ce]
  have hw:W = (refR er,E):=by
   rcases hk with ⟨_,h⟩ | ⟨_,h⟩
   ·rw [h,hu,ht,if_pos ce]
   ·rw [h,hm',ht,if_pos ce]
  simp [evOp_call,sets,T.get_set,tupK,ce]
  refine Gd.mono (rfail_any s1 _ _) ?_
  rintro ⟨r,s2⟩ ⟨hr,x2⟩
  simp only at hr x2
  subst hr
  have nf:=x2.le
  have hxf:=hx1.trans (x2.mono hx1.le)
  have kf:=(x2.keep (st.nx + 1) (by omega)).trans k1
  simp [evOp_call,sets,T.get_set,kf,storeK_g,putB_eq,roT,cellsOf,loadE_eq,getC_eq,getsB_succ,getsB_zero]
  rw [hw]
  exact rrR_ref R (hxf.set (by omega) (by omega) _) _
 have hx:=hx ce
 subst hx
 have hdk:=hd ce
 have hdn:=(O.kle (i:=d) (by omega)).2
 simp [evOp_call,sets,T.get_set,tupK,ce]
 refine Gd.mono (rchild_any R1 O hB hdn x _) ?_
 rintro _ rfl
 have hfn:=O.find d x
 obtain ⟨i,hi⟩:∃ i,i = findE E d x:=⟨_,rfl⟩
 rw [← hi] at hth hfn ⊢
 rw [if_neg (by simpa using ce)] at hth
 by_cases ci:i = 0
 ·have ht:(thereE E o.a).2.2.2 = 2:=by rw [hth,if_pos ci]
  have hw:W = (refR 2,E):=by
   rcases hk with ⟨_,h⟩ | ⟨_,h⟩
   ·rw [h,hu,ht,if_pos (by decide)]
   ·rw [h,hm',ht,if_pos (by decide)]
  simp [evOp_call,sets,T.get_set,ci]
  refine Gd.mono (rfail_any s1 _ _) ?_
  rintro ⟨r,s2⟩ ⟨hr,x2⟩
  simp only at hr x2
  subst hr
  have nf:=x2.le
  have hxf:=hx1.trans (x2.mono hx1.le)
  have kf:=(x2.keep (st.nx + 1) (by omega)).trans k1
  simp [evOp_call,sets,T.get_set,kf,storeK_g,putB_eq,roT,cellsOf,loadE_eq,getC_eq,getsB_succ,getsB_zero]
  rw [hw]
  exact rrR_ref R (hxf.set (by omega) (by omega) _) _
 rw [if_neg ci] at hth
 rw [hth] at hu hm'
 simp only [ne_eq,not_true_eq_false,if_false] at hu hm'
 have hik:=C.found O (a:=d) (p:=x) (by rw [← hi]; exact ci)
 rw [← hi] at hik
 have hi1:=O.kle hik
 obtain ⟨tq,hq,q0,q1⟩:=R1.cell
 obtain ⟨tt,hm,row⟩:=R1.row
 obtain ⟨a0,a1,a2,a3,a4,a5⟩:=row i hi1.2
 have hil:i < n + 1:=by omega
 have hzl:=a4.lenS
 rcases hk with ⟨hk,hW⟩ | ⟨hk,hW⟩
 ·rw [hu] at hW
  by_cases ck:(E i).k = 2
  ·have hw:W = (refR 5,E):=by rw [hW,if_pos ck]
   simp [evOp_call,sets,T.get_set,ci,kb,hk,loadE_eq,getC_eq,hq,q1,hil,hm,a1,ck]
   refine Gd.mono (rfail_any s1 _ _) ?_
   rintro ⟨r,s2⟩ ⟨hr,x2⟩
   simp only at hr x2
   subst hr
   have nf:=x2.le
   have hxf:=hx1.trans (x2.mono hx1.le)
   have kf:=(x2.keep (st.nx + 1) (by omega)).trans k1
   simp [evOp_call,sets,T.get_set,kf,storeK_g,putB_eq,roT,cellsOf,loadE_eq,getC_eq,getsB_succ,getsB_zero]
   rw [hw]
   exact rrR_ref R (hxf.set (by omega) (by omega) _) _
  have ck':¬ ((E i).k:Int) = 2:=by omega
  have c2:i ≠ 2:=fun e => ck (by rw [e]; exact O.lost.1)
  have c2':¬ (i:Int) = 2:=by omega
  have hw:W = (nodeR i,leaveE E d x):=by rw [hW,if_neg ck]
  simp [evOp_call,sets,T.get_set,ci,kb,hk,loadE_eq,getC_eq,hq,q1,hil,hm,a1,ck,ck',c2,c2']
  have he:=O.entF (a:=d) (p:=x) (by rw [← hi]; exact ci) (by rw [← hi]; exact c2)
  rw [← hi] at he
  have hin:=O.ent d _ (List.mem_of_getElem? (entT_some he))
  refine Gd.mono (rdrop_any R1 O.lkw (by omega) hdn hi1.2 he _) ?_
  rintro ⟨r,s2⟩ ⟨hr,c3⟩
  simp only at hr c3
  subst hr
  obtain ⟨k3,c4,c5⟩:=rchg_fin R hx1 (rb:=st.nx + 1) ⟨by omega,by omega⟩ (c3.same (drop_same C (fun j => Nat.le_trans (O.cnt hB j) (by decide)) he hin.2.1 hdn))
  rw [k1] at k3
  simp [evOp_call,sets,T.get_set,k3,storeK_g,putB_eq,roT,cellsOf,loadE_eq,getC_eq,getsB_succ,getsB_zero]
  rw [hw]
  exact rrR_node (c5 _) _
 ·rw [hm'] at hW
  by_cases ck:(E i).k = 2
  rotate_left
  ·have ck':¬ ((E i).k:Int) = 2:=by omega
   have hw:W = (refR 4,E):=by rw [hW,if_pos ck]
   simp [evOp_call,sets,T.get_set,ci,kb,hk,loadE_eq,getC_eq,hq,q1,hil,hm,a1,ck,ck']
   refine Gd.mono (rfail_any s1 _ _) ?_
   rintro ⟨r,s2⟩ ⟨hr,x2⟩
   simp only at hr x2
   subst hr
   have nf:=x2.le
   have hxf:=hx1.trans (x2.mono hx1.le)
   have kf:=(x2.keep (st.nx + 1) (by omega)).trans k1
   simp [evOp_call,sets,T.get_set,kf,storeK_g,putB_eq,roT,cellsOf,loadE_eq,getC_eq,getsB_succ,getsB_zero]
   rw [hw]
   exact rrR_ref R (hxf.set (by omega) (by omega) _) _
  rw [if_neg (by simpa using ck)] at hW
  by_cases c2:i = 2
  ·have hw:W = (refR 12,E):=by rw [hW,if_pos c2]
   subst c2
   have ck2:((E 2).k:Int) = 2:=by omega
   simp [evOp_call,sets,T.get_set,ci,kb,hk,loadE_eq,getC_eq,hq,q1,hil,hm,a1,ck,ck2]
   refine Gd.mono (rfail_any s1 _ _) ?_
   rintro ⟨r,s2⟩ ⟨hr,x2⟩
   simp only at hr x2
   subst hr
   have nf:=x2.le
   have hxf:=hx1.trans (x2.mono hx1.le)
   have kf:=(x2.keep (st.nx + 1) (by omega)).trans k1
   simp [evOp_call,sets,T.get_set,kf,storeK_g,putB_eq,roT,cellsOf,loadE_eq,getC_eq,getsB_succ,getsB_zero]
   rw [hw]
   exact rrR_ref R (hxf.set (by omega) (by omega) _) _
  rw [if_neg c2] at hW
  have c2':¬ (i:Int) = 2:=by omega
  by_cases cl:(E i).l = []
  rotate_left
  ·have hw:W = (refR 6,E):=by rw [hW,if_pos cl]
   have cl':0 < (E i).l.length:=List.length_pos_iff.2 cl
   simp [evOp_call,sets,T.get_set,ci,kb,hk,loadE_eq,getC_eq,hq,q1,hil,hm,a1,a3,hzl,ck,c2,c2',cl']
   refine Gd.mono (rfail_any s1 _ _) ?_
   rintro ⟨r,s2⟩ ⟨hr,x2⟩
   simp only at hr x2
   subst hr
   have nf:=x2.le
   have hxf:=hx1.trans (x2.mono hx1.le)
   have kf:=(x2.keep (st.nx + 1) (by omega)).trans k1
   simp [evOp_call,sets,T.get_set,kf,storeK_g,putB_eq,roT,cellsOf,loadE_eq,getC_eq,getsB_succ,getsB_zero]
   rw [hw]
   exact rrR_ref R (hxf.set (by omega) (by omega) _) _
  have hw:W = (nodeR i,leaveE E d x):=by rw [hW,if_neg (by simpa using cl)]
  have cl':¬ 0 < (E i).l.length:=by rw [cl]; decide
  simp [evOp_call,sets,T.get_set,ci,kb,hk,loadE_eq,getC_eq,hq,q1,hil,hm,a1,a3,hzl,ck,c2,c2',cl,cl']
  have he:=O.entF (a:=d) (p:=x) (by rw [← hi]; exact ci) (by rw [← hi]; exact c2)
  rw [← hi] at he
  have hin:=O.ent d _ (List.mem_of_getElem? (entT_some he))
  refine Gd.mono (rdrop_any R1 O.lkw (by omega) hdn hi1.2 he _) ?_
  rintro ⟨r,s2⟩ ⟨hr,c3⟩
  simp only at hr c3
  subst hr
  obtain ⟨k3,c4,c5⟩:=rchg_fin R hx1 (rb:=st.nx + 1) ⟨by omega,by omega⟩ (c3.same (drop_same C (fun j => Nat.le_trans (O.cnt hB j) (by decide)) he hin.2.1 hdn))
  rw [k1] at k3
  simp [evOp_call,sets,T.get_set,k3,storeK_g,putB_eq,roT,cellsOf,loadE_eq,getC_eq,getsB_succ,getsB_zero]
  rw [hw]
  exact rrR_node (c5 _) _
end
end Go.Proofs.YtgcpgidofikcdaaGreatDoor

/-
  PLAIN: TmG, TmH, TmI, TmJ, in one text.
-/
import Derived.Test.YtgcpgidofikcdaaGreatDoorTmAF
import Derived.Test.YtgcpgidofikcdaaGreatDoorTyTree
import Derived.Test.YtgcpgidofikcdaaGreatDoorKxK
import Derived.Test.YtgcpgidofikcdaaGreatDoorInl
set_option maxRecDepth 20000
set_option maxHeartbeats 8000000
set_option linter.unusedSimpArgs false
set_option linter.unusedVariables false
namespace Go.Proofs.YtgcpgidofikcdaaGreatDoor
open Go.RowKit Ev
def BlkOf (x:V) (m:Nat):Prop:=(∃ o k r,x = .sl m o k r) ∨ (∃ o k r,x = .sg m o k r)
def BRow (s:St) (DB:Nat → Prop) (x:V) (d:Tx):Prop:=RdRow s x 1 d.length (yv d) ∧ (∀ m,BlkOf x m → DB m) ∧ CapOk x
def cellsN (l:List (Tx × Nat)):List V:=l.flatMap fun x => [.s x.1,.int .i64 (x.2:Int)]
theorem cellsN_length (l:List (Tx × Nat)):(cellsN l).length = l.length * 2:=by
 unfold cellsN
 induction l with
 | nil => rfl
 | cons x l ih => rw [List.flatMap_cons,List.length_append,ih]; show 2 + _ = _; rw [List.length_cons]; omega
theorem cellsN_get:∀ (l:List (Tx × Nat)) (i:Nat) (x:Tx × Nat),l[i]? = some x → (cellsN l)[i * 2 + 0]? = some (.s x.1) ∧ (cellsN l)[i * 2 + 1]? = some (.int .i64 (x.2:Int))
 | [],i,x,h => by simp at h
 | y :: l,0,x,h => by
  simp at h; subst h
  exact ⟨rfl,rfl⟩
 | y :: l,i + 1,x,h => by
  have h1:=cellsN_get l i x (by simpa using h)
  have e:cellsN (y :: l) = .s y.1 :: .int .i64 (y.2:Int) :: cellsN l:=rfl
  rw [e,show (i + 1) * 2 + 0 = (i * 2 + 0) + 1 + 1 by omega,show (i + 1) * 2 + 1 = (i * 2 + 1) + 1 + 1 by omega]
  simp only [List.getElem?_cons_succ]
  exact h1
def NRow (s:St) (LB:Nat → Prop) (x:V) (l:List (Tx × Nat)):Prop :=
 (l = [] ∧ (x = .c (.slice none 0 0) ∨ ∃ m,x = .sl m 0 0 0 ∧ m < s.nx ∧ LB m ∧ s.h.get m = some (.cs 109 0 .lf))) ∨ ∃ m ty sz t,x = .sg m 0 l.length 2 ∧ m < s.nx ∧ LB m ∧ s.h.get m = some (.cs ty sz t) ∧ ty ≠ roT ∧ l.length * 2 ≤ sz ∧ ∀ j v,(cellsN l)[j]? = some v → t.get j = some v
theorem NRow.rd {s:St} {LB:Nat → Prop} {x:V} {l:List (Tx × Nat)} (h:NRow s LB x l):RdRow s x 2 l.length (cellsN l):=by
 refine ⟨cellsN_length l,?_⟩
 rcases h with ⟨rfl,h | ⟨m,rfl,h2,h3,h4⟩⟩ | ⟨m,ty,sz,t,rfl,h2,h3,h4,h5,h6,h7⟩
 ·exact .inl ⟨.inl h,rfl⟩
 ·exact .inr (.inl ⟨m,0,0,_,_,_,rfl,h2,h4,Nat.le_refl _,fun j v hj => by cases hj⟩)
 ·exact .inr (.inr ⟨m,0,ty,sz,t,rfl,h2,h4,by omega,fun j v hj => by rw [Nat.zero_add]; exact h7 j v hj⟩)
theorem NRow.blk {s:St} {LB:Nat → Prop} {x:V} {l:List (Tx × Nat)} (h:NRow s LB x l):∀ m,BlkOf x m → LB m ∧ m < s.nx:=fun m hm => by
 rcases h with ⟨rfl,rfl | ⟨m',rfl,h2,h3,h4⟩⟩ | ⟨m',ty,sz,t,rfl,h2,h3,h4,h5,h6,h7⟩
 ·rcases hm with ⟨_,_,_,e⟩ | ⟨_,_,_,e⟩ <;> cases e
 ·rcases hm with ⟨_,_,_,e⟩ | ⟨_,_,_,e⟩
  ·injection e with e1; subst e1; exact ⟨h3,h2⟩
  ·cases e
 ·rcases hm with ⟨_,_,_,e⟩ | ⟨_,_,_,e⟩
  ·cases e
  ·injection e with e1; subst e1; exact ⟨h3,h2⟩
theorem NRow.keep {s s':St} {LB LB':Nat → Prop} {x:V} {l:List (Tx × Nat)} (h:NRow s LB x l) (hn:s.nx ≤ s'.nx) (k:∀ m,BlkOf x m → LB m → s'.h.get m = s.h.get m ∧ LB' m):NRow s' LB' x l:=by
 rcases h with ⟨h0,h | ⟨m,rfl,h2,h3,h4⟩⟩ | ⟨m,ty,sz,t,rfl,h2,h3,h4,h5⟩
 ·exact .inl ⟨h0,.inl h⟩
 ·obtain ⟨k1,k2⟩:=k m (.inl ⟨_,_,_,rfl⟩) h3
  exact .inl ⟨h0,.inr ⟨m,rfl,by omega,k2,k1.trans h4⟩⟩
 ·obtain ⟨k1,k2⟩:=k m (.inr ⟨_,_,_,rfl⟩) h3
  exact .inr ⟨m,ty,sz,t,rfl,by omega,k2,k1.trans h4,h5⟩
theorem BRow.keep {s s':St} {DB DB':Nat → Prop} {x:V} {d:Tx} (h:BRow s DB x d) (hn:s.nx ≤ s'.nx) (k:∀ m,BlkOf x m → DB m → s'.h.get m = s.h.get m ∧ DB' m):BRow s' DB' x d:=by
 obtain ⟨⟨h1,h2⟩,h3,hc⟩:=h
 refine ⟨⟨h1,?_⟩,fun m hm => (k m hm (h3 m hm)).2,hc⟩
 rcases h2 with h2 | ⟨m,o,q,ty,sz,t,rfl,h4,h5,h6⟩ | ⟨m,o,ty,sz,t,rfl,h4,h5,h6⟩
 ·exact .inl h2
 ·exact .inr (.inl ⟨m,o,q,ty,sz,t,rfl,by omega,(k m (.inl ⟨_,_,_,rfl⟩) (h3 m (.inl ⟨_,_,_,rfl⟩))).1.trans h5,h6⟩)
 ·exact .inr (.inr ⟨m,o,ty,sz,t,rfl,by omega,(k m (.inr ⟨_,_,_,rfl⟩) (h3 m (.inr ⟨_,_,_,rfl⟩))).1.trans h5,h6⟩)
structure EntAt (s:St) (LB DB:Nat → Prop) (t:T V) (i:Nat) (y z:V) (e:Ent):Prop where
 k:t.get (i * 5) = some (.int .i64 (e.k:Int))
 up:t.get (i * 5 + 1) = some (.int .i64 (e.up:Int))
 nm:t.get (i * 5 + 2) = some (.int .i64 e.nm)
 d:t.get (i * 5 + 3) = some y
 l:t.get (i * 5 + 4) = some z
 dr:BRow s DB y e.d
 lr:NRow s LB z e.l
structure TrG (s:St) (q m n:Nat) (x:V) (Y Z:Nat → V) (E:Tr) (LB DB:Nat → Prop):Prop where
 cell:∃ tq,s.h.get q = some (.cs 95 1 tq) ∧ tq.get 0 = some x
 xs:x = .sl m 0 (n + 1) (n + 1) ∨ x = .sg m 0 (n + 1) 5
 row:∃ ty sz t,s.h.get m = some (.cs ty sz t) ∧ ty ≠ roT ∧ (n + 1) * 5 ≤ sz ∧ ∀ i,i ≤ n → EntAt s LB DB t i (Y i) (Z i) (E i)
 apart:∀ i j b,i ≤ n → j ≤ n → BlkOf (Z i) b → BlkOf (Z j) b → i = j
 lt:q < s.nx ∧ m < s.nx ∧ m ≠ q
 lb:∀ b,LB b → b < s.nx ∧ b ≠ q ∧ b ≠ m
 db:∀ b,DB b → b < s.nx ∧ b ≠ q ∧ b ≠ m ∧ ¬ LB b
structure FrT (st s:St) (m:Nat) (LB DB LB' DB':Nat → Prop):Prop where
 le:st.nx ≤ s.nx
 wf:Wf st → Wf s
 keep:∀ b,b < st.nx → b ≠ m → ¬ LB b → s.h.get b = st.h.get b
 lb:∀ b,LB' b → LB b ∨ st.nx ≤ b
 db:∀ b,DB' b → DB b ∨ st.nx ≤ b
theorem FrT.refl (s:St) (m:Nat) (LB DB:Nat → Prop):FrT s s m LB DB LB DB:=⟨Nat.le_refl _,fun h => h,fun _ _ _ _ => rfl,fun _ h => .inl h,fun _ h => .inl h⟩
theorem FrT.trans {s1 s2 s3:St} {m:Nat} {L1 D1 L2 D2 L3 D3:Nat → Prop} (h:FrT s1 s2 m L1 D1 L2 D2) (k:FrT s2 s3 m L2 D2 L3 D3):FrT s1 s3 m L1 D1 L3 D3:=by
 have hle:=h.le
 refine ⟨Nat.le_trans h.le k.le,fun w => k.wf (h.wf w),fun b hb hm hl => ?_,fun b hb => ?_,fun b hb => ?_⟩
 ·refine (k.keep b (by omega) hm fun hl2 => ?_).trans (h.keep b hb hm hl)
  rcases h.lb b hl2 with h1 | h1
  ·exact hl h1
  ·omega
 ·rcases k.lb b hb with h1 | h1
  ·exact h.lb b h1
  ·exact .inr (by omega)
 ·rcases k.db b hb with h1 | h1
  ·exact h.db b h1
  ·exact .inr (by omega)
theorem FrT.ext {s1 s2:St} {m:Nat} {LB DB:Nat → Prop} (h:Ext s1.nx s1 s2):FrT s1 s2 m LB DB LB DB:=⟨h.le,h.wf,fun b hb _ _ => h.keep b hb,fun _ h => .inl h,fun _ h => .inl h⟩
theorem TrG.keep {s s':St} {q m n:Nat} {x:V} {Y Z:Nat → V} {E:Tr} {LB DB:Nat → Prop} (h:TrG s q m n x Y Z E LB DB) (hn:s.nx ≤ s'.nx) (k:∀ b,b = q ∨ b = m ∨ LB b ∨ DB b → s'.h.get b = s.h.get b):TrG s' q m n x Y Z E LB DB:=by
 obtain ⟨⟨tq,h1,h2⟩,h3,⟨ty,sz,t,h4,h5,h6,h7⟩,h8,h9,h10,h11⟩:=h
 refine ⟨⟨tq,(k q (.inl rfl)).trans h1,h2⟩,h3,⟨ty,sz,t,(k m (.inr (.inl rfl))).trans h4,h5,h6,fun i hi => ?_⟩,h8,⟨by omega,by omega,h9.2.2⟩,fun b hb => by have:=h10 b hb; omega,fun b hb => by have:=h11 b hb; exact ⟨by omega,this.2⟩⟩
 obtain ⟨e1,e2,e3,e4,e5,e6,e7⟩:=h7 i hi
 exact ⟨e1,e2,e3,e4,e5,e6.keep hn fun b _ hb => ⟨k b (.inr (.inr (.inr hb))),hb⟩,e7.keep hn fun b _ hb => ⟨k b (.inr (.inr (.inl hb))),hb⟩⟩
theorem TrG.ext {s s':St} {q m n:Nat} {x:V} {Y Z:Nat → V} {E:Tr} {LB DB:Nat → Prop} (h:TrG s q m n x Y Z E LB DB) (k:Ext s.nx s s'):TrG s' q m n x Y Z E LB DB :=
 h.keep k.le fun b hb => k.keep b (by
  rcases hb with rfl | rfl | hb | hb
  ·exact h.lt.1
  ·exact h.lt.2.1
  ·exact (h.lb b hb).1
  ·exact (h.db b hb).1)
theorem TrG.frame {s s':St} {q m n m':Nat} {x:V} {Y Z:Nat → V} {E:Tr} {LB DB LB' DB' LB2 DB2:Nat → Prop} (h:TrG s q m n x Y Z E LB DB) (k:FrT s s' m' LB' DB' LB2 DB2) (hm:m' ≠ q ∧ m' ≠ m ∧ ¬ LB m' ∧ ¬ DB m') (hl:¬ LB' q ∧ ¬ LB' m ∧ ∀ b,LB b ∨ DB b → ¬ LB' b):TrG s' q m n x Y Z E LB DB :=
 h.keep k.le fun b hb => by
  rcases hb with rfl | rfl | hb | hb
  ·exact k.keep b h.lt.1 (Ne.symm hm.1) hl.1
  ·exact k.keep b h.lt.2.1 (Ne.symm hm.2.1) hl.2.1
  ·exact k.keep b (h.lb b hb).1 (fun e => hm.2.2.1 (e ▸ hb)) (hl.2.2 b (.inl hb))
  ·exact k.keep b (h.db b hb).1 (fun e => hm.2.2.2 (e ▸ hb)) (hl.2.2 b (.inr hb))
theorem TrG.idx {s:St} {q m n:Nat} {x:V} {Y Z:Nat → V} {E:Tr} {LB DB:Nat → Prop} (h:TrG s q m n x Y Z E LB DB) {i:Nat} (hi:i ≤ n) (k:V → Res):idxE Tryz.prog 93 x i k = k (.p m (i * 5)):=by
 have hlt:i < n + 1:=by omega
 rcases h.xs with rfl | rfl
 ·simp [hlt]
 ·simp [hlt]
theorem TrG.len {s:St} {q m n:Nat} {x:V} {Y Z:Nat → V} {E:Tr} {LB DB:Nat → Prop} (h:TrG s q m n x Y Z E LB DB) (s':St):lenS s' x = some (.int .i64 (((n + 1:Nat)):Int),s'):=by
 rcases h.xs with rfl | rfl <;> rfl
theorem TrG.upd {s s':St} {q m n:Nat} {x:V} {Y Z:Nat → V} {E:Tr} {LB DB LB' DB':Nat → Prop} (h:TrG s q m n x Y Z E LB DB) {i:Nat} (hi:i ≤ n) (y z:V) (e:Ent) (hn:s.nx ≤ s'.nx)
  {ty sz:Nat} {t t':T V} (hm:s.h.get m = some (.cs ty sz t)) (hm':s'.h.get m = some (.cs ty sz t'))
  (ho:∀ j,j < i * 5 ∨ i * 5 + 5 ≤ j → t'.get j = t.get j)
  (h0:t'.get (i * 5) = some (.int .i64 (e.k:Int))) (h1:t'.get (i * 5 + 1) = some (.int .i64 (e.up:Int))) (h2:t'.get (i * 5 + 2) = some (.int .i64 e.nm)) (h3:t'.get (i * 5 + 3) = some y) (h4:t'.get (i * 5 + 4) = some z)
  (hy:BRow s' DB' y e.d) (hz:NRow s' LB' z e.l)
  (hq:s'.h.get q = s.h.get q) (hd:∀ b,DB b → s'.h.get b = s.h.get b ∧ DB' b)
  (hl:∀ b,LB b → ¬ BlkOf (Z i) b → s'.h.get b = s.h.get b ∧ LB' b)
  (hz1:∀ b,BlkOf z b → BlkOf (Z i) b ∨ ¬ LB b)
  (lb':∀ b,LB' b → b < s'.nx ∧ b ≠ q ∧ b ≠ m) (db':∀ b,DB' b → b < s'.nx ∧ b ≠ q ∧ b ≠ m ∧ ¬ LB' b) :
  TrG s' q m n x (fun j => if j = i then y else Y j) (fun j => if j = i then z else Z j) (updE E i e) LB' DB':=by
 obtain ⟨⟨tq,g1,g2⟩,g3,⟨ty0,sz0,t0,g4,g5,g6,g7⟩,g8,g9,g10,g11⟩:=h
 rw [hm] at g4
 injection g4 with g4
 injection g4 with e1 e2 e3
 subst e1 e2 e3
 refine ⟨⟨tq,hq.trans g1,g2⟩,g3,⟨ty,sz,t',hm',g5,g6,fun j hj => ?_⟩,fun a b c ha hb e1 e2 => ?_,⟨by omega,by omega,g9.2.2⟩,lb',db'⟩
 ·by_cases e:j = i
  ·subst e
   rw [if_pos rfl,if_pos rfl,updE_same]
   exact ⟨h0,h1,h2,h3,h4,hy,hz⟩
  ·rw [if_neg e,if_neg e,updE_ne _ _ e]
   obtain ⟨k0,k1,k2,k3,k4,k5,k6⟩:=g7 j hj
   have hdj:∀ c,c < 5 → t'.get (j * 5 + c) = t.get (j * 5 + c):=fun c hc => ho _ (by omega)
   exact ⟨(hdj 0 (by omega)).trans k0,(hdj 1 (by omega)).trans k1,(hdj 2 (by omega)).trans k2,(hdj 3 (by omega)).trans k3,(hdj 4 (by omega)).trans k4,k5.keep hn fun b _ hb => hd b hb,k6.keep hn fun b hb hb2 => hl b hb2 fun hk => e (g8 i j b hi hj hk hb).symm⟩
 ·have hlb:∀ j,j ≤ n → ∀ b,BlkOf (Z j) b → LB b:=fun j hj b hk => by
   obtain ⟨k0,k1,k2,k3,k4,k5,k6⟩:=g7 j hj
   exact (k6.blk b hk).1
  by_cases ea:a = i
  ·by_cases eb:b = i
   ·rw [ea,eb]
   ·rw [if_pos ea] at e1
    rw [if_neg eb] at e2
    rcases hz1 c e1 with hk' | hk'
    ·exact ea.trans (g8 i b c hi hb hk' e2)
    ·exact absurd (hlb b hb c e2) hk'
  ·rw [if_neg ea] at e1
   by_cases eb:b = i
   ·rw [if_pos eb] at e2
    rcases hz1 c e2 with hk' | hk'
    ·exact (g8 a i c ha hi e1 hk').trans eb.symm
    ·exact absurd (hlb a ha c e1) hk'
   ·rw [if_neg eb] at e2
    exact g8 a b c ha hb e1 e2
end Go.Proofs.YtgcpgidofikcdaaGreatDoor
set_option linter.unusedSimpArgs false
set_option linter.unusedVariables false
namespace Go.Proofs.YtgcpgidofikcdaaGreatDoor
open Go.RowKit Ev
def tmS (g:Nat):Bool:=!(Nat.beq g 108 || Nat.beq g 41 || Nat.beq g 42 || Nat.beq g 46 || Nat.beq g 45 || Nat.beq g 52 || Nat.beq g 12 || Nat.beq g 111 || Nat.beq g 43 || Nat.beq g 44 || Nat.beq g 20 || Nat.beq g 14 || Nat.beq g 129 || Nat.beq g 64 || Nat.beq g 65 || Nat.beq g 67 || Nat.beq g 70 || Nat.beq g 71 || Nat.beq g 22)
def tmN (g:Nat):Bool:=tmS g && !(Nat.beq g 177 || Nat.beq g 120)
noncomputable def tmL:CallF:=liftF (callL Tryz.prog)
noncomputable def tm0 (F:CallF):CallF:=insF (insF (knF tmS tmL F) 177 2) 120 1
noncomputable def tmX (F:CallF):CallF:=liftF (tm0 F)
theorem tmX_ok:XOk Tryz.prog tmX :=
 XOk.comp (X:=liftF) (Y:=tm0) XOk.lift (XOk.comp (X:=fun F => insF F 120 1) (Y:=fun F => insF (knF tmS tmL F) 177 2) (XOk.ins (callL_both namesOkT mixesT) insC_S bodyInsS)
  (XOk.comp (X:=fun F => insF F 177 2) (Y:=fun F => knF tmS tmL F) (XOk.ins (callL_both namesOkT mixesT) insC_N bodyInsN) (XOk.kn (liftF_sound (callL_both namesOkT mixesT)))))
noncomputable def tmK:CallF:=tm0 (callOf Tryz.prog (evXL Tryz.prog tmX))
noncomputable def tmF:CallF:=liftF tmK
theorem tmF_both:CallSound Tryz.prog tmF ∧ HasBody Tryz.prog tmF:=callX_both namesOkT mixesT tmX_ok
noncomputable def tmM:Mach Tryz.prog:=machX tmX_ok
@[simp] theorem tmM_F:tmM.F = tmF:=rfl
theorem tmF_nil (a:Bool) (wb nt g:Nat) (args:List V) (st:St):tmF ⟨a,[],wb,nt⟩ g args st = tmK ⟨a,[],wb,nt⟩ g args st:=rfl
theorem tmK_ne {g:Nat} (h:tmN g = true) (a:Bool) (wb nt:Nat) (args:List V) (st:St):tmK ⟨a,[],wb,nt⟩ g args st = callL Tryz.prog ⟨a,[],wb,nt⟩ g args st:=by
 unfold tmN at h
 simp only [Bool.and_eq_true,Bool.not_eq_true',Bool.or_eq_false_iff] at h
 obtain ⟨h1,h2,h3⟩:=h
 unfold tmK tm0
 rw [insF_ne _ h3,insF_ne _ h2]
 unfold knF
 rw [h1]
 rfl
theorem tmF_ne {g:Nat} (h:tmN g = true) (a:Bool) (wb nt:Nat) (args:List V) (st:St):tmF ⟨a,[],wb,nt⟩ g args st = callL Tryz.prog ⟨a,[],wb,nt⟩ g args st:=tmK_ne h a wb nt args st
theorem Gd_tmK {a:Bool} {wb nt:Nat} {st:St} {f:Nat} {fn:Func} {code:Code} (hs:tmS f = false) (hI:(Nat.beq f 177 || Nat.beq f 120) = false) (hf:Tryz.prog.funcs[f]? = some fn) (hb:fn.body = some code) (args:List V) (Q:V × St → Prop) :
  Gd (tmK ⟨a,[],wb,nt⟩ f args st) Q = Gd (tmM.E ⟨a,[],wb,fn.ntmps⟩ code (sets args 0 .lf) st) (retK Tryz.prog ⟨a,[],wb,nt⟩ fn Q):=by
 simp only [Bool.or_eq_false_iff] at hI
 unfold tmK tm0
 rw [insF_ne _ hI.2,insF_ne _ hI.1]
 unfold knF
 rw [hs]
 exact Gd_callOf hf hb args Q
theorem Gd_tmF {a:Bool} {wb nt:Nat} {st:St} {f:Nat} {fn:Func} {code:Code} (hs:tmS f = false) (hI:(Nat.beq f 177 || Nat.beq f 120) = false) (hf:Tryz.prog.funcs[f]? = some fn) (hb:fn.body = some code) (args:List V) (Q:V × St → Prop) :
  Gd (tmF ⟨a,[],wb,nt⟩ f args st) Q = Gd (tmM.E ⟨a,[],wb,fn.ntmps⟩ code (sets args 0 .lf) st) (retK Tryz.prog ⟨a,[],wb,nt⟩ fn Q):=Gd_tmK hs hI hf hb args Q
theorem tmK_insN (a:Bool) (wb nt:Nat) (args:List V) (st:St):∃ F:CallF,tmK ⟨a,[],wb,nt⟩ 177 args st = insF F 177 2 ⟨a,[],wb,nt⟩ 177 args st ∧ F ⟨a,[],wb,nt⟩ 177 args st = callL Tryz.prog ⟨a,[],wb,nt⟩ 177 args st:=by
 refine ⟨knF tmS tmL (callOf Tryz.prog (evXL Tryz.prog tmX)),?_,?_⟩
 ·unfold tmK tm0
  rw [insF_ne _ (show Nat.beq 177 120 = false from rfl)]
 ·unfold knF
  rw [show tmS 177 = true from rfl]
  rfl
theorem tmK_insS (a:Bool) (wb nt:Nat) (args:List V) (st:St):∃ F:CallF,tmK ⟨a,[],wb,nt⟩ 120 args st = insF F 120 1 ⟨a,[],wb,nt⟩ 120 args st ∧ F ⟨a,[],wb,nt⟩ 120 args st = callL Tryz.prog ⟨a,[],wb,nt⟩ 120 args st:=by
 refine ⟨insF (knF tmS tmL (callOf Tryz.prog (evXL Tryz.prog tmX))) 177 2,rfl,?_⟩
 rw [insF_ne _ (show Nat.beq 120 177 = false from rfl)]
 unfold knF
 rw [show tmS 120 = true from rfl]
 rfl
theorem Gd_lift3 {F:CallF} {x:Nat × Nat} {l:List (Nat × Nat)} {a:Bool} {wb nt f:Nat} {args:List V} {st:St} {R:V → St → Prop} {Q:V × St → Prop}
  (h:Gd (F ⟨a,[],wb,nt⟩ f args (er (x :: l) st)) fun r => R r.1 r.2 ∧ r.2.nx = st.nx ∧ Wf r.2 ∧ ∀ n,n < st.nx → inF (x :: l) n = true → r.2.h.get n = none)
  (k:∀ v st1 st',R v st1 → st'.nx = st.nx → (∀ n,n < st.nx → st'.h.get n = if inF (x :: l) n = true then st.h.get n else st1.h.get n) → (Wf st → Wf st') → Q (v,st')):Gd (liftF F ⟨a,x :: l,wb,nt⟩ f args st) Q:=by
 rw [liftF_cons]
 obtain ⟨⟨v,st1⟩,h1,h2,h3,h5,h4⟩:=h
 simp only at h2 h3 h4 h5
 refine ⟨(v,mg (x :: l) st st1),by rw [h1]; rfl,?_⟩
 by_cases e:st1 = er (x :: l) st
 ·refine k v st1 _ h2 (by rw [e,mg_same]) (fun n hn => ?_) (fun w => by rw [e,mg_same]; exact w)
  rw [e,mg_same]
  split
  ·rfl
  ·rename_i c; rw [er_get,if_pos ⟨hn,by simpa using c⟩]
 have hg:∀ m,(mg (x :: l) st st1).h.get m = if m < st.nx ∧ inF (x :: l) m = true then st.h.get m else st1.h.get m:=fun m => by
  unfold mg
  rw [if_neg e]
  show (mgT (x :: l) st.h st1.h st.nx).get m = _
  rw [mgT_get]
  by_cases h5:m < st.nx ∧ inF (x :: l) m = true
  ·rw [if_pos h5]
   by_cases h6:st.h.get m = none
   ·rw [if_neg (fun h7 => h7.2.2 h6),h4 m h5.1 h5.2,h6]
   ·rw [if_pos ⟨h5.1,h5.2,h6⟩]
  ·rw [if_neg h5,if_neg (fun h7 => h5 ⟨h7.1,h7.2.1⟩)]
 have hnx:(mg (x :: l) st st1).nx = st.nx:=by rw [mg_nx]; exact h3
 refine k v st1 _ h2 hnx (fun n hn => ?_) (fun w n hn => ?_)
 ·rw [hg]
  by_cases c:inF (x :: l) n = true
  ·rw [if_pos ⟨hn,c⟩,if_pos c]
  ·rw [if_neg (fun h => c h.2),if_neg c]
 ·rw [hnx] at hn
  rw [hg,if_neg (fun h => by omega)]
  exact h5 n (by rw [h3]; exact hn)
end Go.Proofs.YtgcpgidofikcdaaGreatDoor
set_option linter.unusedSimpArgs false
set_option linter.unusedVariables false
namespace Go.Proofs.YtgcpgidofikcdaaGreatDoor
open Go.RowKit Ev
noncomputable def funW (P:Program) (F:CallF) (c:Cx) (v:V) (args:List V) (st:St):Res:=match v with
 | .f (.func f) first caps => (match ext? P f with
  | some g => (match extE P g (first ++ args ++ caps) st with | some r => some r | none => extS P c f (first ++ args ++ caps) st)
  | none => F c f (first ++ args ++ caps) st)
 | _ => none
theorem funW_f {P:Program} {F:CallF} {c:Cx} {f:Nat} (h:ext? P f = none) (args:List V) (st:St):funW P F c (.f (.func f) [] []) args st = F c f args st:=by
 unfold funW
 simp [h]
theorem evOp_callW {P:Program} {F:CallF} {c:Cx} {e:Env} {st:St} {d:Option Nat} {ty:TypeId} {p:String} {af:Array Edge} {g:Option (Nat × Bool)} (q:Nat) (args:Array Operand) (ats:Array TypeId):evOp P F c e st ⟨d,.call ⟨.value (.tmp q),args,ats⟩,ty,p,af,g⟩ = opds e args.toList fun args => opd e (.tmp q) fun f => funW P F c f args st:=rfl
def cmpT (a b:Tx):Int:=if a < b then -1 else if a = b then 0 else 1
theorem cmpT_neg {a b:Tx}:cmpT a b < 0 ↔ a < b:=by
 unfold cmpT
 split
 ·rename_i h; simp [h]
 split
 ·rename_i h1 h2; simp [h1]
 ·rename_i h1 h2; simp [h1]
theorem cmpT_zero {a b:Tx}:cmpT a b = 0 ↔ a = b:=by
 unfold cmpT
 split
 ·rename_i h; constructor
  ·intro e; cases e
  ·rintro rfl; exact absurd h (ltT_irrefl _)
 split
 ·rename_i h1 h2; simp [h2]
 ·rename_i h1 h2; simp [h2]
theorem cmp_bytes:∀ (a b:Tx),okS a → okS b → Lib.compareBytes (a.map UInt8.ofNat) (b.map UInt8.ofNat) = cmpT a b
 | [],[],_,_ => rfl
 | [],b :: vs,_,_ => by simp [Lib.compareBytes,cmpT]
 | a :: us,[],_,_ => by simp [Lib.compareBytes,cmpT]
 | a :: us,b :: vs,ha,hb => by
  have ih:=cmp_bytes us vs (fun x h => ha x (by simp [h])) (fun x h => hb x (by simp [h]))
  have ha':=ha a (by simp)
  have hb':=hb b (by simp)
  have lt:∀ x y:Nat,x < 256 → y < 256 → (UInt8.ofNat x < UInt8.ofNat y ↔ x < y):=fun x y hx hy => by
   rw [UInt8.lt_iff_toNat_lt]
   simp only [UInt8.toNat_ofNat']
   rw [Nat.mod_eq_of_lt hx,Nat.mod_eq_of_lt hy]
  unfold Lib.compareBytes
  rw [List.map_cons,List.map_cons]
  simp only [lt a b ha' hb',lt b a hb' ha',ih]
  unfold cmpT
  by_cases h1:a < b
  ·simp [h1,List.cons_lt_cons_iff]
  ·by_cases h2:b < a
   ·have:¬ a = b:=by omega
    simp [h1,h2,this,List.cons_lt_cons_iff]
   ·have:a = b:=by omega
    subst this
    simp [List.cons_lt_cons_iff]
theorem ext_cmp {P:Program} {st:St} (a b:Tx) (ha:okS a) (hb:okS b):extE P Extern.BytealgCompare.compare [.s a,.s b] st = some (.int .i64 (cmpT a b),st):=by
 have h1:valsA [.s a,.s b] = some [.string ⟨⟨a.map UInt8.ofNat⟩⟩,.string ⟨⟨b.map UInt8.ofNat⟩⟩]:=rfl
 unfold extE
 rw [h1]
 have hrun:pureRun P (Extern.BytealgCompare.compare #[.string ⟨⟨a.map UInt8.ofNat⟩⟩,.string ⟨⟨b.map UInt8.ofNat⟩⟩]) = some (.int .i64 (cmpT a b)):=by
  show pureRun P (pure (goInt (Extern.BytealgCompare.cmp ⟨⟨a.map UInt8.ofNat⟩⟩ ⟨⟨b.map UInt8.ofNat⟩⟩)):Sem Value) = _
  rw [Lib.cmp_eq]
  show pureRun P (pure (goInt (Lib.compareBytes (a.map UInt8.ofNat) (b.map UInt8.ofNat))):Sem Value) = _
  rw [cmp_bytes a b ha hb]
  rfl
 show pu P (Extern.BytealgCompare.compare #[.string ⟨⟨a.map UInt8.ofNat⟩⟩,.string ⟨⟨b.map UInt8.ofNat⟩⟩]) (ret st) = _
 unfold pu
 rw [hrun]
 simp [ofV,fA,ret]
theorem xcmp:ext? Tryz.prog 244 = some Extern.BytealgCompare.compare:=by kernel_rfl
theorem compare_any (c:Cx) (st:St) (a b:Tx) (ha:okS a) (hb:okS b):Gd (callL Tryz.prog c 124 [.s a,.s b] st) fun r => r = (.int .i64 (cmpT a b),st):=by
 rw [Gd_callL Tryz.func124 rfl]
 have h1:=ext_cmp (P:=Tryz.prog) (st:=st) a b ha hb
 simp [evOp_call,sets,T.get_set]
 rw [Gd_callL Tryz.func188 rfl]
 simp [evOp_ext xcmp,sets,T.get_set,extR_some h1]
theorem place1_any (st:St) (a p:Tx) (i:Nat) (ha:okS a) (hp:okS p) (nt:Nat) :
  Gd (callL Tryz.prog ⟨false,[],0,nt⟩ 183 [.g [.s a,.int .i64 (i:Int)],.s p] st) fun r => r.1 = .int .i64 (cmpT a p) ∧ Ext st.nx st r.2:=by
 rw [Gd_callL Tryz.func183 rfl]
 simp [evOp_call,sets,T.get_set,newC_is,cellsOf,loadE_eq,getC_eq]
 refine Gd.mono (compare_any _ _ a p ha hp) ?_
 rintro _ rfl
 simp [evOp_call,sets,T.get_set]
 exact (Ext.refl _ _).new (Nat.le_refl _) _
noncomputable def bfG (e:Env):Nat:=match e.get 9,e.get 10 with
 | some (.c (.int _ (.ofNat j))),some (.c (.int _ (.ofNat k))) => k - j
 | _,_ => 0
theorem bfG_eq {e:Env} {i j:Nat} (h7:e.get 9 = some (.int .i64 (i:Int))) (h8:e.get 10 = some (.int .i64 (j:Int))):bfG e = j - i:=by unfold bfG; rw [h7,h8]
def bfJ (x:V) (L:List (Tx × Nat)) (p:Tx) (st:St) (e:Env) (s:St):Prop:=∃ i j:Nat,i ≤ j ∧ j ≤ L.length ∧ i ≤ cntT p L ∧ cntT p L ≤ j ∧ e.get 0 = some x ∧ e.get 1 = some (.s p) ∧ e.get 2 = some (.f (.func 183) [] []) ∧ e.get 8 = some (.int .i64 (L.length:Int)) ∧ e.get 9 = some (.int .i64 (i:Int)) ∧ e.get 10 = some (.int .i64 (j:Int)) ∧ Ext st.nx st s
theorem half_w {a:Nat} (h:a ≤ 2000000):(max (IntKind.i64.wrap (a:Int) % 18446744073709551616) 0 >>> 1:Int) = ((a / 2:Nat):Int):=by
 have h1:IntKind.i64.wrap (a:Int) = (a:Int):=wrap_in (by omega) (by omega)
 rw [h1]
 have h2:((a:Int) % 18446744073709551616) = (a:Int):=Int.emod_eq_of_lt (by omega) (by omega)
 rw [h2,Int.max_eq_left (by omega)]
 show Int.shiftRight (a:Int) 1 = _
 rw [show Int.shiftRight (a:Int) 1 = ((a >>> 1:Nat):Int) from rfl,Nat.shiftRight_eq_div_pow]
theorem bsf_any (st:St) (x:V) (L:List (Tx × Nat)) (p:Tx) (hr:RisT L) (hok:∀ e ∈ L,okS e.1) (hp:okS p) (hl:L.length ≤ 1000000) (hx:RdRow st x 2 L.length (cellsN L)) (nt:Nat) :
  Gd (callL Tryz.prog ⟨false,[],0,nt⟩ 182 [x,.s p,.f (.func 183) [] []] st) fun r => r.1 = .t [.int .i64 (cntT p L:Int),.bool (entT p L).isSome] ∧ Ext st.nx st r.2:=by
 rw [Gd_callL Tryz.func182 rfl]
 have hwu:wantK true (some V.u) = false:=rfl
 have hwf:wantK false (some V.u) = false:=rfl
 simp [evOp_call,sets,T.get_set,hx.lenS]
 refine Gd_loop (bfJ x L p st) (fun e _ => bfG e) ?_ ?_
 ·exact ⟨0,L.length,Nat.zero_le _,Nat.le_refl _,Nat.zero_le _,cntT_le _ _,by simp [T.get_set],by simp [T.get_set],by simp [T.get_set],by simp [T.get_set],by simp [T.get_set],by simp [T.get_set],Ext.refl _ _⟩
 rintro e s ⟨i,j,hij,hj,h1,h2,g0,g1,g2,g8,g9,g10,hs⟩
 have hxs:=hx.ext hs
 by_cases hlt:i < j
 ·have hlt':(i:Int) < (j:Int):=by omega
  simp [evOp_call,T.get_set,g0,g1,g2,g8,g9,g10,hwu,hlt']
  rw [show ((i:Int) + (j:Int)) = ((i + j:Nat):Int) by omega,half_w (by omega)]
  obtain ⟨k,hk⟩:∃ k,k = (i + j) / 2:=⟨_,rfl⟩
  rw [← hk]
  have k1:i ≤ k:=by omega
  have k2:k < j:=by omega
  have hkl:k < L.length:=by omega
  have h00:∀ f:Nat → Res,asNat (V.int .i64 (k:Int)) f = f k:=fun _ => rfl
  obtain ⟨m1,o1,ty1,sz1,tr1,i1,b1,t1,l1,c1⟩:=hxs.idx (st:=s) un90 io109 (i:=k) hkl
  have hgk:=List.getElem?_eq_getElem hkl
  obtain ⟨q1,q2⟩:=cellsN_get L k _ hgk
  have d0:tr1.get o1 = some (.s L[k].1):=by have:=c1 0 _ (by omega) q1; simpa using this
  have d1:tr1.get (o1 + 1) = some (.int .i64 (L[k].2:Int)):=c1 1 _ (by omega) q2
  rw [h00,i1]
  have hw1:IntKind.i64.wrap ((k:Int) + 1) = ((k + 1:Nat):Int):=wrap_in (by omega) (by omega)
  simp [evOp_callW,T.get_set,g0,g1,g2,g8,g9,g10,hwu,loadE_eq,getC_eq,getsB_succ,getsB_zero,t1,d0,d1]
  rw [funW_f (by kernel_rfl)]
  refine Gd.mono (place1_any s L[k].1 p L[k].2 (hok _ (List.getElem_mem hkl)) hp _) ?_
  rintro ⟨r,s2⟩ ⟨hr1,x2⟩
  simp only at hr1 x2
  subst hr1
  have hcl:=cntT_lt hr hkl (p:=p)
  have hs2:=hs.trans (x2.mono hs.le)
  simp [evOp_call,T.get_set,g0,g1,g2,g8,g9,g10,cmpT_neg]
  by_cases hlw:L[k].1 < p
  ·simp [evOp_call,T.get_set,g0,g1,g2,g8,g9,g10,hlw,hw1]
   exact ⟨⟨k + 1,j,by omega,hj,by have:=hcl.2 hlw; omega,h2,by simp [T.get_set,g0],by simp [T.get_set,g1],by simp [T.get_set,g2],by simp [T.get_set,g8],by simp [T.get_set],by simp [T.get_set,g10],hs2⟩,by rw [bfG_eq g9 g10,bfG_eq (i:=k + 1) (j:=j) (by simp [T.get_set]) (by simp [T.get_set,g10])]; omega⟩
  ·simp [evOp_call,T.get_set,g0,g1,g2,g8,g9,g10,hlw,hw1]
   exact ⟨⟨i,k,by omega,by omega,h1,by have:¬ k < cntT p L:=fun h => hlw (hcl.1 h); omega,by simp [T.get_set,g0],by simp [T.get_set,g1],by simp [T.get_set,g2],by simp [T.get_set,g8],by simp [T.get_set,g9],by simp [T.get_set],hs2⟩,by rw [bfG_eq g9 g10,bfG_eq (i:=i) (j:=k) (by simp [T.get_set,g9]) (by simp [T.get_set])]; omega⟩
 ·obtain rfl:i = j:=by omega
  have hc:cntT p L = i:=by omega
  simp [evOp_call,T.get_set,g0,g1,g2,g8,g9,g10,hwu,hwf,sets]
  by_cases hil:i < L.length
  ·obtain ⟨m1,o1,ty1,sz1,tr1,i1,b1,t1,l1,c1⟩:=hxs.idx (st:=s) un90 io109 (i:=i) hil
   have hgk:=List.getElem?_eq_getElem hil
   obtain ⟨q1,q2⟩:=cellsN_get L i _ hgk
   have d0:tr1.get o1 = some (.s L[i].1):=by have:=c1 0 _ (by omega) q1; simpa using this
   have d1:tr1.get (o1 + 1) = some (.int .i64 (L[i].2:Int)):=c1 1 _ (by omega) q2
   have hent:(entT p L).isSome = decide (L[i].1 = p):=by
    unfold entT
    rw [hc,hgk]
    simp only
    split
    ·rename_i e; simp [e]
    ·rename_i e; simp [e]
   simp [evOp_callW,T.get_set,g0,g1,g2,g8,g9,g10,hwu,hwf,sets,hil,i1,loadE_eq,getC_eq,getsB_succ,getsB_zero,t1,d0,d1]
   rw [funW_f (by kernel_rfl)]
   refine Gd.mono (place1_any s L[i].1 p L[i].2 (hok _ (List.getElem_mem hil)) hp _) ?_
   rintro ⟨r,s2⟩ ⟨hr1,x2⟩
   simp only at hr1 x2
   subst hr1
   simp [evOp_call,T.get_set,g0,g1,g2,g8,g9,g10,hwu,hwf,sets,cmpT_zero]
   exact ⟨⟨by rw [hc],hent.symm⟩,hs.trans (x2.mono hs.le)⟩
  ·have hent:(entT p L).isSome = false:=by
    unfold entT
    rw [hc,List.getElem?_eq_none (by omega)]
    rfl
   simp [evOp_call,T.get_set,g0,g1,g2,g8,g9,g10,hwu,hwf,sets,hil]
   exact ⟨⟨by rw [hc],by simpa using hent⟩,hs⟩
theorem place_any {st:St} {q m n B:Nat} {x:V} {Y Z:Nat → V} {E:Tr} {LB DB:Nat → Prop} (TG:TrG st q m n x Y Z E LB DB)  (hB:B ≤ 1000000) (a:Nat) (ha:a ≤ n) (L:LOk n B E a) (p:Tx) (hp:okS p) (nt:Nat) :
  Gd (callL Tryz.prog ⟨false,[],0,nt⟩ 119 [.p q 0,.int .i64 (a:Int),.s p] st) fun r => r.1 = .t [.int .i64 (cntT p (E a).l:Int),.bool (entT p (E a).l).isSome] ∧ Ext st.nx st r.2:=by
 rw [Gd_callL Tryz.func119 rfl]
 obtain ⟨tq,hq,q0⟩:=TG.cell
 obtain ⟨ty,sz,t,hm,hro,hsz,row⟩:=TG.row
 obtain ⟨e1,e2,e3,e4,e5,e6,e7⟩:=row a ha
 simp [evOp_call,sets,T.get_set,loadE_eq,getC_eq,hq,q0,TG.idx ha,hm,e5]
 refine Gd.mono (bsf_any st (Z a) (E a).l p L.ris (fun e he => (L.ent e he).1) hp (by have:=L.len; omega) e7.rd _) ?_
 rintro ⟨r,s2⟩ ⟨hr1,x2⟩
 simp only at hr1 x2
 subst hr1
 simp [evOp_call,sets,T.get_set,tupK]
 exact x2
end Go.Proofs.YtgcpgidofikcdaaGreatDoor
set_option linter.unusedSimpArgs false
set_option linter.unusedVariables false
namespace Go.Proofs.YtgcpgidofikcdaaGreatDoor
open Go.RowKit Ev
theorem find_any {st:St} {q m n B:Nat} {x:V} {Y Z:Nat → V} {E:Tr} {LB DB:Nat → Prop} (TG:TrG st q m n x Y Z E LB DB) (O:TOk n B E) (hB:B ≤ 1000000) (a:Nat) (ha:a ≤ n) (p:Tx) (hp:okS p) (nt:Nat) :
  Gd (callL Tryz.prog ⟨false,[],0,nt⟩ 115 [.p q 0,.int .i64 (a:Int),.s p] st) fun r => r.1 = .int .i64 (findE E a p:Int) ∧ Ext st.nx st r.2:=by
 rw [Gd_callL Tryz.func115 rfl]
 have hwu:wantK true (some V.u) = false:=rfl
 have hwf:wantK false (some V.u) = false:=rfl
 by_cases c0:a = 1 ∧ p = lostT
 ·obtain ⟨rfl,rfl⟩:=c0
  simp [evOp_call,sets,T.get_set,hwu,hwf,lostT,findE]
  exact Ext.refl _ _
 have hfe:findE E a p = (entT p (E a).l).getD 0:=by unfold findE; rw [if_neg c0]
 have key:∀ nt,Gd (callL Tryz.prog ⟨false,[],0,nt⟩ 119 [.p q 0,.int .i64 (a:Int),.s p] st) fun r => r.1 = .t [.int .i64 (cntT p (E a).l:Int),.bool (entT p (E a).l).isSome] ∧ Ext st.nx st r.2:=fun nt => place_any TG hB a ha (O.lok a) p hp nt
 have fin:∀ s2,Ext st.nx st s2 → ∀ i,entT p (E a).l = some i → ∃ tq ty sz t m2 o2 ty2 sz2 t2,s2.h.get q = some (.cs 95 1 tq) ∧ tq.get 0 = some x ∧ s2.h.get m = some (.cs ty sz t) ∧ t.get (a * 5 + 4) = some (Z a) ∧ (∀ k:V → Res,idxE Tryz.prog 90 (Z a) (cntT p (E a).l) k = k (.p m2 o2)) ∧ s2.h.get m2 = some (.cs ty2 sz2 t2) ∧ t2.get (o2 + 1) = some (.int .i64 (i:Int)):=fun s2 x2 i hi => by
  have TG2:=TG.ext x2
  obtain ⟨tq,hq,q0⟩:=TG2.cell
  obtain ⟨ty,sz,t,hm,hro,hsz,row⟩:=TG2.row
  obtain ⟨e1,e2,e3,e4,e5,e6,e7⟩:=row a ha
  have hg:=entT_some hi
  have hlt:=(List.getElem?_eq_some_iff.1 hg).1
  obtain ⟨m1,o1,ty1,sz1,tr1,i1,b1,t1,l1,c1⟩:=e7.rd.idx (st:=s2) un90 io109 (i:=cntT p (E a).l) hlt
  exact ⟨tq,ty,sz,t,m1,o1,ty1,sz1,tr1,hq,q0,hm,e5,i1,t1,c1 1 _ (by omega) (cellsN_get _ _ _ hg).2⟩
 have hia:=@TrG.idx
 by_cases c1:a = 1
 ·have c2:¬ p = lostT:=fun h => c0 ⟨c1,h⟩
  have c2':¬ p = [108,111,115,116,43,102,111,117,110,100]:=c2
  have c1':(a:Int) = 1:=by omega
  simp [evOp_call,sets,T.get_set,hwu,hwf,c1',c2']
  rw [← c1']
  refine Gd.mono (key _) ?_
  rintro ⟨r,s2⟩ ⟨hr1,x2⟩
  simp only at hr1 x2
  subst hr1
  cases hi:entT p (E a).l with
  | none =>
   simp [evOp_call,sets,T.get_set,tupK,hfe,hi]
   exact x2
  | some i =>
   obtain ⟨tq,ty,sz,t,m2,o2,ty2,sz2,t2,f1,f2,f3,f4,f5,f6,f7⟩:=fin s2 x2 i hi
   have hix:=fun k => (TG.ext x2).idx ha k
   simp [evOp_call,sets,T.get_set,tupK,hfe,hi,loadE_eq,getC_eq,f1,f2,f3,f4,f5,f6,f7,hix]
   exact x2
 ·have c1':¬ (a:Int) = 1:=by omega
  simp [evOp_call,sets,T.get_set,hwu,hwf,c1',c1]
  refine Gd.mono (key _) ?_
  rintro ⟨r,s2⟩ ⟨hr1,x2⟩
  simp only at hr1 x2
  subst hr1
  cases hi:entT p (E a).l with
  | none =>
   simp [evOp_call,sets,T.get_set,tupK,hfe,hi]
   exact x2
  | some i =>
   obtain ⟨tq,ty,sz,t,m2,o2,ty2,sz2,t2,f1,f2,f3,f4,f5,f6,f7⟩:=fin s2 x2 i hi
   have hix:=fun k => (TG.ext x2).idx ha k
   simp [evOp_call,sets,T.get_set,tupK,hfe,hi,loadE_eq,getC_eq,f1,f2,f3,f4,f5,f6,f7,hix]
   exact x2
def spI (st:St) (q n:Nat) (E:Tr) (e:Env) (s:St):Prop:=∃ i:Nat,1 ≤ i ∧ i ≤ n + 1 ∧ e.get 0 = some (.p q 0) ∧ e.get 3 = some (.int .i64 (i:Int)) ∧ (∀ j,1 ≤ j → j < i → (E j).k ≠ 0) ∧ s = st
theorem spareE_of {n:Nat} {E:Tr} {i:Nat} (h1:1 ≤ i) (h2:i ≤ n) (hk:(E i).k = 0) (hl:∀ j,1 ≤ j → j < i → (E j).k ≠ 0):spareE n E = i:=by
 unfold spareE
 have:(List.range (n + 1)).find? (fun i => decide (1 ≤ i ∧ (E i).k = 0)) = some i:=by
  rw [List.find?_range_eq_some]
  refine ⟨by simp [h1,hk],by simp; omega,fun j hj => ?_⟩
  simp only [Bool.not_eq_true',decide_eq_false_iff_not]
  rintro ⟨g1,g2⟩
  exact hl j g1 hj g2
 rw [this]; rfl
theorem spareE_none {n:Nat} {E:Tr} (hl:∀ j,1 ≤ j → j ≤ n → (E j).k ≠ 0):spareE n E = 0:=by
 unfold spareE
 have:(List.range (n + 1)).find? (fun i => decide (1 ≤ i ∧ (E i).k = 0)) = none:=by
  rw [List.find?_eq_none]
  intro j hj
  simp at hj ⊢
  exact fun h => hl j h (by omega)
 rw [this]; rfl
theorem spare_any {st:St} {q m n:Nat} {x:V} {Y Z:Nat → V} {E:Tr} {LB DB:Nat → Prop} (TG:TrG st q m n x Y Z E LB DB) (hn:n ≤ 64) (nt:Nat) :
  Gd (callL Tryz.prog ⟨false,[],0,nt⟩ 107 [.p q 0] st) fun r => r = (.int .i64 (spareE n E:Int),st):=by
 rw [Gd_callL Tryz.func107 rfl]
 obtain ⟨tq,hq,q0⟩:=TG.cell
 obtain ⟨ty,sz,t,hm,hro,hsz,row⟩:=TG.row
 have hln:=TG.len
 simp [evOp_call,sets,T.get_set]
 refine Gd_loop (spI st q n E) (fun e _ => muAt 3 (n + 1) e) ?_ ?_
 ·exact ⟨1,Nat.le_refl _,by omega,by simp [T.get_set],by simp [T.get_set],fun j h1 h2 => by omega,rfl⟩
 rintro e s ⟨i,hi1,hi2,g0,g3,hl,rfl⟩
 by_cases hlt:i < n + 1
 ·have hlt':(i:Int) < (n:Int) + 1:=by omega
  obtain ⟨e1,e2,e3,e4,e5,e6,e7⟩:=row i (by omega)
  have hix:=fun k => TG.idx (i:=i) (by omega) k
  have hwi:=wrap_nat (n:=i) (by omega)
  simp [evOp_call,T.get_set,g0,g3,loadE_eq,getC_eq,hq,q0,hln,hix,hm,e1,hlt']
  by_cases hk:(E i).k = 0
  ·simp [evOp_call,T.get_set,g0,g3,hk,sets]
   rw [spareE_of hi1 (by omega) hk hl]
  ·simp [evOp_call,T.get_set,g0,g3,hk,sets,hwi]
   exact ⟨⟨i + 1,by omega,by omega,by simp [T.get_set,g0],by simp [T.get_set],fun j h1 h2 => by
    by_cases h:j = i
    ·subst h; exact hk
    ·exact hl j h1 (by omega),rfl⟩,muAt_lt g3 (by simp [T.get_set]) hlt⟩
 ·obtain rfl:i = n + 1:=by omega
  simp [evOp_call,T.get_set,g0,g3,loadE_eq,getC_eq,hq,q0,hln,sets]
  rw [spareE_none fun j h1 h2 => hl j h1 (by omega)]
  rfl
end Go.Proofs.YtgcpgidofikcdaaGreatDoor

/-
  PLAIN: TmV, TmW, TmX, TmY, TmYw, TmZ, TmZa, TmZb, TmZc, in one text.
-/
import Derived.Test.YtgcpgidofikcdaaGreatDoorTmOU
set_option maxRecDepth 20000
set_option maxHeartbeats 16000000
set_option linter.unusedSimpArgs false
set_option linter.unusedVariables false
namespace Go.Proofs.YtgcpgidofikcdaaGreatDoor
open Go.RowKit Ev
theorem bnd_no (e:Env) (n:Nat) (f:Nat → Res):bnd e n none f = f n:=rfl
theorem slc_lo {P:Program} {c:Cx} {e:Env} {st:St} {t el n k:Nat} {x:V} {l:List V} {X:Operand} {i:IntKind} (hu:P.underlying t = some (.slice el)) (hi:infoOk P el 1 = true) (h:RdRow st x 1 n l) (hc:CapOk x) (hx:opv e X = some (.int i (k:Int))) (hk:k ≤ n) :
  ∃ v,sliceK P c e st t x (some X) none = some (v,st) ∧ RdRow st v 1 (n - k) (l.drop k) ∧ CapOk v ∧ ∀ b,BlkOf v b → BlkOf x b:=by
 obtain ⟨h1,h2⟩:=h
 have hl:(l.drop k).length = (n - k) * 1:=by rw [List.length_drop]; omega
 rcases h2 with ⟨rfl | rfl,rfl⟩ | ⟨m,o,q,ty,sz,tr,rfl,h3,h4,h5,h6⟩ | ⟨m,o,ty,sz,tr,rfl,h3,h4,h5,h6⟩
 ·obtain rfl:k = 0:=by omega
  refine ⟨.c (.slice none 0 0),?_,⟨hl,.inl ⟨.inl rfl,by omega⟩⟩,hc,fun b hb => hb⟩
  unfold sliceK sliceE
  rw [hu]
  simp only [infoOk_sz hi,bnd_at hx,bnd_no]
 ·obtain rfl:k = 0:=by omega
  refine ⟨.e,?_,⟨hl,.inl ⟨.inr rfl,by omega⟩⟩,hc,fun b hb => hb⟩
  unfold sliceK sliceE sliceG
  rw [hu]
  simp only [infoOk_sz hi,bnd_at hx,bnd_no]
 ·have hq:=hc m o n q rfl
  have b1:Nat.ble k n = true:=Nat.ble_eq ▸ hk
  have b2:Nat.ble n q = true:=Nat.ble_eq ▸ hq
  refine ⟨.sl m (match Nat.beq q k with | true => o | false => o + k * 1) (n - k) (q - k),?_,⟨hl,.inr (.inl ⟨m,_,_,ty,sz,tr,rfl,h3,h4,?_,?_⟩)⟩,fun _ _ _ _ e => (by injection e; omega),fun b hb => ?_⟩
  ·unfold sliceK sliceE
   rw [hu]
   simp only [infoOk_sz hi,bnd_at hx,bnd_no,b1,b2,fn_eq]
   cases Nat.beq q k <;> rfl
  ·cases hb:Nat.beq q k <;> simp only <;> omega
  ·intro j v hj
   have hjl:=lt_of_get hj
   rw [hl] at hjl
   have hqk:Nat.beq q k = false:=by
    cases hb:Nat.beq q k with
    | false => rfl
    | true => have:=Nat.eq_of_beq_eq_true hb; omega
   rw [hqk]
   simp only
   rw [List.getElem?_drop] at hj
   have:=h6 _ _ hj
   rw [show o + k * 1 + j = o + (k + j) by omega]
   exact this
  ·rcases hb with ⟨_,_,_,e⟩ | ⟨_,_,_,e⟩
   ·injection e with e; subst e; exact .inl ⟨_,_,_,rfl⟩
   ·cases e
 ·have b1:Nat.ble k n = true:=Nat.ble_eq ▸ hk
  by_cases hkn:k = n ∧ k ≠ 0
  ·refine ⟨.e,?_,⟨hl,.inl ⟨.inr rfl,by omega⟩⟩,fun _ _ _ _ e => (by cases e),fun b hb => ?_⟩
   ·rw [sg_loA hu hi hx hk,if_pos hkn]
   ·rcases hb with ⟨_,_,_,e⟩ | ⟨_,_,_,e⟩ <;> cases e
  ·refine ⟨.sg m (o + k * 1) (n - k) 1,?_,⟨hl,.inr (.inr ⟨m,_,ty,sz,tr,rfl,h3,h4,by omega,fun j v hj => ?_⟩)⟩,fun _ _ _ _ e => (by cases e),fun b hb => ?_⟩
   ·rw [sg_loA hu hi hx hk,if_neg hkn]
   ·rw [List.getElem?_drop] at hj
    have:=h6 _ _ hj
    rw [show o + k * 1 + j = o + (k + j) by omega]
    exact this
   ·rcases hb with ⟨_,_,_,e⟩ | ⟨_,_,_,e⟩
    ·cases e
    ·injection e with e; subst e; exact .inr ⟨_,_,_,rfl⟩
theorem slc_hi {P:Program} {c:Cx} {e:Env} {st:St} {t el n k:Nat} {x:V} {l:List V} {X:Operand} {i:IntKind} (hu:P.underlying t = some (.slice el)) (hi:infoOk P el 1 = true) (h:RdRow st x 1 n l) (hc:CapOk x) (hx:opv e X = some (.int i (k:Int))) (hk:k ≤ n) :
  ∃ v,sliceK P c e st t x none (some X) = some (v,st) ∧ RdRow st v 1 k (l.take k) ∧ ∀ b,BlkOf v b → BlkOf x b:=by
 obtain ⟨h1,h2⟩:=h
 have hl:(l.take k).length = k * 1:=by rw [List.length_take]; omega
 have hg:∀ j v,(l.take k)[j]? = some v → l[j]? = some v:=fun j v hj => by
  rw [List.getElem?_take] at hj
  split at hj
  ·exact hj
  ·cases hj
 rcases h2 with ⟨rfl | rfl,rfl⟩ | ⟨m,o,q,ty,sz,tr,rfl,h3,h4,h5,h6⟩ | ⟨m,o,ty,sz,tr,rfl,h3,h4,h5,h6⟩
 ·obtain rfl:k = 0:=by omega
  refine ⟨.c (.slice none 0 0),?_,⟨hl,.inl ⟨.inl rfl,by omega⟩⟩,fun b hb => hb⟩
  unfold sliceK sliceE
  rw [hu]
  simp only [infoOk_sz hi,bnd_at hx,bnd_no]
 ·obtain rfl:k = 0:=by omega
  refine ⟨.e,?_,⟨hl,.inl ⟨.inr rfl,by omega⟩⟩,fun b hb => hb⟩
  unfold sliceK sliceE sliceG
  rw [hu]
  simp only [infoOk_sz hi,bnd_at hx,bnd_no]
 ·have hq:=hc m o n q rfl
  exact ⟨.sl m o k q,sl_hi hu hi hx (by omega),⟨hl,.inr (.inl ⟨m,o,q,ty,sz,tr,rfl,h3,h4,by omega,fun j v hj => h6 j v (hg j v hj)⟩)⟩,fun b hb => by
   rcases hb with ⟨_,_,_,e⟩ | ⟨_,_,_,e⟩
   ·injection e with e; subst e; exact .inl ⟨_,_,_,rfl⟩
   ·cases e⟩
 ·exact ⟨.sg m o k 1,sg_hi hu hi hx hk,⟨hl,.inr (.inr ⟨m,o,ty,sz,tr,rfl,h3,h4,by omega,fun j v hj => h6 j v (hg j v hj)⟩)⟩,fun b hb => by
   rcases hb with ⟨_,_,_,e⟩ | ⟨_,_,_,e⟩
   ·cases e
   ·injection e with e; subst e; exact .inr ⟨_,_,_,rfl⟩⟩
theorem Gd_slcLo {P:Program} {c:Cx} {e:Env} {st:St} {t el n k:Nat} {x:V} {l:List V} {X:Operand} {i:IntKind} {Q:V × St → Prop} (hu:P.underlying t = some (.slice el)) (hi:infoOk P el 1 = true) (h:RdRow st x 1 n l) (hc:CapOk x) (hx:opv e X = some (.int i (k:Int))) (hk:k ≤ n)
  (hQ:∀ v,RdRow st v 1 (n - k) (l.drop k) → CapOk v → (∀ b,BlkOf v b → BlkOf x b) → Q (v,st)):Gd (sliceK P c e st t x (some X) none) Q:=by
 obtain ⟨v,h1,h2,h3,h4⟩:=slc_lo (c:=c) hu hi h hc hx hk
 rw [h1,Gd_some]
 exact hQ v h2 h3 h4
theorem Gd_slcHi {P:Program} {c:Cx} {e:Env} {st:St} {t el n k:Nat} {x:V} {l:List V} {X:Operand} {i:IntKind} {Q:V × St → Prop} (hu:P.underlying t = some (.slice el)) (hi:infoOk P el 1 = true) (h:RdRow st x 1 n l) (hc:CapOk x) (hx:opv e X = some (.int i (k:Int))) (hk:k ≤ n)
  (hQ:∀ v,RdRow st v 1 k (l.take k) → (∀ b,BlkOf v b → BlkOf x b) → Q (v,st)):Gd (sliceK P c e st t x none (some X)) Q:=by
 obtain ⟨v,h1,h2,h3⟩:=slc_hi (c:=c) hu hi h hc hx hk
 rw [h1,Gd_some]
 exact hQ v h2 h3
theorem firsts_le {β:Type} {c:Cx} {st:St} {n k:Nat} {x:V} {l:List V} (h:RdRow st x 1 n l) (hk:k ≤ n) (hok:∀ m,BlkOf x m → c.ok m = true) (f:List V → Option β):firsts c st 1 k x f = f (l.take k):=by
 obtain ⟨h1,h2⟩:=h
 have hl:(l.take k).length = k * 1:=by rw [List.length_take]; omega
 have hg:∀ j v,(l.take k)[j]? = some v → l[j]? = some v:=fun j v hj => by
  rw [List.getElem?_take] at hj
  split at hj
  ·exact hj
  ·cases hj
 have b1:Nat.ble k n = true:=Nat.ble_eq ▸ hk
 rcases h2 with ⟨hx,rfl⟩ | ⟨m,o,q,ty,sz,t,rfl,_,h4,_,h6⟩ | ⟨m,o,ty,sz,t,rfl,_,h4,_,h6⟩
 ·obtain rfl:k = 0:=by omega
  rw [List.take_zero]
  rcases hx with rfl | rfl <;> rfl
 ·rw [firsts_sl,if_pos hk,getC_eq,h4]
  simp only [hok m (.inl ⟨_,_,_,rfl⟩),cond_true,Option.bind_some,csK_cs]
  rw [← hl]
  exact getsB_list (fun j v hj => h6 j v (hg j v hj)) f
 ·have e1:Ev.firsts c st 1 k (.sg m o n 1) f = (match Nat.ble k n with | true => getC c st m fun t => getsB t (k * 1) o f | false => none):=rfl
  rw [e1,b1]
  simp only
  rw [getC_eq,h4]
  simp only [hok m (.inr ⟨_,_,_,rfl⟩),cond_true,Option.bind_some,csK_cs]
  rw [← hl]
  exact getsB_list (fun j v hj => h6 j v (hg j v hj)) f
end Go.Proofs.YtgcpgidofikcdaaGreatDoor
set_option linter.unusedSimpArgs false
set_option linter.unusedVariables false
namespace Go.Proofs.YtgcpgidofikcdaaGreatDoor
open Go.RowKit Ev
theorem yv_take (d:Tx) (k:Nat):(yv d).take k = yv (d.take k):=by simp [yv,List.map_take]
theorem yv_drop (d:Tx) (k:Nat):(yv d).drop k = yv (d.drop k):=by simp [yv,List.map_drop]
theorem yv_get {d:Tx} {j:Nat} {b:Nat} (h:d[j]? = some b):(yv d)[j]? = some (.int .u8 (b:Int)):=by unfold yv; rw [List.getElem?_map,h]; rfl
theorem yv_of {d:Tx} {j:Nat} {v:V} (h:(yv d)[j]? = some v):∃ b,d[j]? = some b ∧ v = .int .u8 (b:Int):=by
 unfold yv at h
 rw [List.getElem?_map] at h
 cases hb:d[j]? with
 | none => rw [hb] at h; cases h
 | some b => rw [hb] at h; injection h with h; exact ⟨b,rfl,h.symm⟩
theorem rep1_len (v:V):∀ n,(rep [v] n).length = n
 | 0 => rfl
 | n + 1 => by show ([v] ++ rep [v] n).length = _; rw [List.length_append,rep1_len v n]; show 1 + n = _; omega
theorem rep1_get (v:V):∀ (n j:Nat),j < n → (rep [v] n)[j]? = some v
 | 0,j,h => by omega
 | n + 1,0,h => rfl
 | n + 1,j + 1,h => by
  show ([v] ++ rep [v] n)[j + 1]? = _
  rw [List.getElem?_append_right (by show 1 ≤ j + 1; omega)]
  exact rep1_get v n j (by omega)
section
variable {st:St} {q m n B:Nat} {x:V} {Y Z:Nat → V} {E:Tr} {LB DB:Nat → Prop}
def rszR (st:St) (q m n i:Nat) (x:V) (Z:Nat → V) (E:Tr) (d:Tx) (LB DB:Nat → Prop) (s:St):Prop:=∃ Y' DB' b tb,TrG s q m n x Y' Z (setD E i d) LB DB' ∧ FrT st s m LB DB LB DB' ∧ Y' i = .sl b 0 d.length d.length ∧ st.nx ≤ b ∧ s.h.get b = some (.cs 5 d.length tb) ∧ (∀ j,j ≤ n → j ≠ i → ¬ BlkOf (Y' j) b) ∧ ∀ j v,(yv d)[j]? = some v → tb.get j = some v
theorem TrG.setBytes (h:TrG st q m n x Y Z E LB DB) {s:St} (xe:Ext st.nx st s) {i:Nat} (hi:i ≤ n) {ty sz:Nat} {t tb:T V} (hm:s.h.get m = some (.cs ty sz t)) {b:Nat} {d:Tx} (hb:st.nx ≤ b ∧ b < s.nx) (hg:s.h.get b = some (.cs 5 d.length tb)) (hd:∀ j v,(yv d)[j]? = some v → tb.get j = some v) :
  rszR st q m n i x Z E d LB DB ⟨s.nx,s.h.set m (.cs ty sz (t.set (i * 5 + 3) (.sl b 0 d.length d.length)))⟩:=by
 have h1:=h.ext xe
 have hlt:=h1.lt
 have hlt0:=h.lt
 have oth:∀ w c,c ≠ m → (s.h.set m w).get c = s.h.get c:=fun w c hc => T.get_set_ne _ _ (Ne.symm hc)
 obtain ⟨ty0,sz0,t0,g4,g5,g6,g7⟩:=h1.row
 have hm0:=hm
 rw [hm] at g4
 injection g4 with g4
 injection g4 with e1 e2 e3
 subst e1 e2 e3
 obtain ⟨k0,k1,k2,k3,k4,k5,k6⟩:=g7 i hi
 obtain ⟨DB',hDB⟩:∃ DB':Nat → Prop,DB' = fun c => DB c ∨ c = b:=⟨_,rfl⟩
 have U:=h1.upd (s':=⟨s.nx,s.h.set m (.cs ty sz (t.set (i * 5 + 3) (.sl b 0 d.length d.length)))⟩) hi (.sl b 0 d.length d.length) (Z i) { E i with d:=d } (Nat.le_refl _) hm0 (T.get_set_same _ _ _) (fun j hj => T.get_set_ne _ _ (by omega)) ?_ ?_ ?_ (T.get_set_same _ _ _) ?_ (LB':=LB) (DB':=DB') ?_ ?_ (oth _ q (Ne.symm hlt.2.2)) (fun c hc => ⟨oth _ c (h1.db c hc).2.2.1,by rw [hDB]; exact .inl hc⟩) (fun c hc _ => ⟨oth _ c (h1.lb c hc).2.2,hc⟩) (fun c hc => .inl hc) (fun c hc => h1.lb c hc) (fun c hc => ?_)
 ·rw [ifY] at U
  refine ⟨_,DB',b,tb,U,?_,if_pos rfl,hb.1,(oth _ b (by omega)).trans hg,fun j hj hji hbl => ?_,hd⟩
  ·have F:FrT st s m LB DB LB DB':=⟨xe.le,xe.wf,fun c hc _ _ => xe.keep c hc,fun c hc => .inl hc,fun c hc => by
    rw [hDB] at hc
    rcases hc with hc | rfl
    ·exact .inl hc
    ·exact .inr hb.1⟩
   exact F.setM hlt.2.1 _
  ·rw [if_neg hji] at hbl
   have:=(h.db b ((h.row.choose_spec.choose_spec.choose_spec.2.2.2 j hj).dr.2.1 b hbl)).1
   omega
 ·rw [T.get_set_ne _ _ (by omega)]; exact k0
 ·rw [T.get_set_ne _ _ (by omega)]; exact k1
 ·rw [T.get_set_ne _ _ (by omega)]; exact k2
 ·rw [T.get_set_ne _ _ (by omega)]; exact k4
 ·refine ⟨⟨by simp,.inr (.inl ⟨b,0,d.length,_,_,tb,rfl,hb.2,(oth _ b (by omega)).trans hg,by show 0 + d.length * 1 ≤ d.length; omega,fun j v hj => by rw [Nat.zero_add]; exact hd j v hj⟩)⟩,fun c hc => ?_,fun _ _ _ _ e => by cases e; exact Nat.le_refl _⟩
  rw [hDB]
  rcases hc with ⟨_,_,_,e⟩ | ⟨_,_,_,e⟩
  ·injection e with e; exact .inr e.symm
  ·cases e
 ·exact k6.keep (Nat.le_refl _) fun c _ hc => ⟨oth _ c (h1.lb c hc).2.2,hc⟩
 ·rw [hDB] at hc
  rcases hc with hc | rfl
  ·exact h1.db c hc
  ·exact ⟨hb.2,by omega,by omega,fun e => by have:=(h.lb _ e).1; omega⟩
theorem resize_any (TG:TrG st q m n x Y Z E LB DB) (i:Nat) (hi:i ≤ n) (size:Nat) (hs:size ≤ 1000000) (nt:Nat) :
  Gd (callL Tryz.prog ⟨false,[],0,nt⟩ 118 [.p q 0,.int .i64 (i:Int),.int .i64 (size:Int)] st) fun r => r.1 = .t [] ∧ rszR st q m n i x Z E (padT (E i).d size) LB DB r.2:=by
 rw [Gd_callL Tryz.func118 rfl]
 have hlt:=TG.lt
 obtain ⟨d,hd⟩:∃ d,d = padT (E i).d size:=⟨_,rfl⟩
 have hdl:d.length = size:=by rw [hd,padT_length]
 simp [evOp_call,sets,T.get_set]
 refine Gd_make (i:=.i64) (i':=.i64) (n:=size) (q:=size) (zs:=[.int .u8 0]) (fun k => el27 k) io5 (fun k => ze5 k) (by simp [T.get_set]) (by simp [T.get_set]) (Nat.le_refl _) (by omega) ?_
 have x1:=(Ext.refl st.nx st).new (Nat.le_refl _) (.cs 5 (rep [.int .u8 0] size).length (sets (rep [.int .u8 0] size) 0 .lf))
 generalize hS1:(⟨st.nx + 1,st.h.set st.nx (.cs 5 (rep [.int .u8 0] size).length (sets (rep [.int .u8 0] size) 0 .lf))⟩:St) = s1 at x1 ⊢
 have gb1:s1.h.get st.nx = some (.cs 5 size (sets (rep [.int .u8 0] size) 0 .lf)):=by rw [← hS1,rep1_len]; exact T.get_set_same _ _ _
 have n1:s1.nx = st.nx + 1:=by rw [← hS1]
 have TG1:=TG.ext x1
 obtain ⟨tq,hq,q0⟩:=TG1.cell
 obtain ⟨ty,sz,t,hm,hro,hsz,row⟩:=TG1.row
 obtain ⟨e1,e2,e3,e4,e5,e6,e7⟩:=row i hi
 have hii:=fun k => TG1.idx hi k
 have hcp:∀ nt,builtinE Tryz.prog ⟨false,[],0,nt⟩ .copy [27,27] [.sl st.nx 0 size size,Y i] s1 = some (.int .i64 ((min (E i).d.length size:Nat):Int),⟨s1.nx,s1.h.set st.nx (.cs 5 size (sets ((yv (E i).d).take (min (E i).d.length size)) 0 (sets (rep [.int .u8 0] size) 0 .lf)))⟩):=fun nt =>
  copy_d un27 io5 (fun k => e6.1.len k) rfl (fun k => firsts_le e6.1 (Nat.min_le_left _ _) (fun _ _ => rfl) k) rfl (Nat.zero_le _) gb1 (by decide) (by rw [List.length_take]; omega)
 have hnq:¬ st.nx = q:=by omega
 have hnm:¬ st.nx = m:=by omega
 have hb5:i * 5 + 3 + 1 ≤ sz:=by omega
 have hb5':i * 5 + 4 ≤ sz:=by omega
 simp [evOp_call,sets,T.get_set,loadE_eq,getC_eq,hq,q0,hii,hm,e4,hcp,hnq,hnm,putB_eq,hro,hb5,hb5']
 have xe:Ext st.nx st ⟨s1.nx,s1.h.set st.nx (.cs 5 size (sets ((yv (E i).d).take (min (E i).d.length size)) 0 (sets (rep [.int .u8 0] size) 0 .lf)))⟩:=x1.set (Nat.le_refl _) (by omega) _
 have R:=TG.setBytes xe hi (t:=t) ((T.get_set_ne _ _ hnm).trans hm) (b:=st.nx) (d:=d) ⟨Nat.le_refl _,by show st.nx < s1.nx; omega⟩ (by rw [hdl]; exact T.get_set_same _ _ _) (fun j v hj => by
  obtain ⟨c,hc,rfl⟩:=yv_of hj
  rw [get_sets,List.length_take,yv_length]
  rw [hd] at hc
  unfold padT at hc
  rw [List.getElem?_append,List.length_take] at hc
  by_cases h1:j < min (E i).d.length size
  ·rw [if_pos ⟨Nat.zero_le _,by omega⟩,Nat.sub_zero,List.getElem?_take,if_pos h1]
   rw [if_pos (by omega),List.getElem?_take] at hc
   split at hc
   ·exact yv_get hc
   ·cases hc
  ·rw [if_neg (by omega),get_sets,rep1_len]
   rw [if_neg (by omega),List.getElem?_replicate] at hc
   split at hc
   ·injection hc with hc
    subst hc
    rw [if_pos ⟨Nat.zero_le _,by omega⟩,Nat.sub_zero,rep1_get _ _ _ (by omega)]
    rfl
   ·cases hc)
 rw [hdl] at R
 rw [← hd]
 exact R
end
end Go.Proofs.YtgcpgidofikcdaaGreatDoor
set_option linter.unusedSimpArgs false
set_option linter.unusedVariables false
namespace Go.Proofs.YtgcpgidofikcdaaGreatDoor
open Go.RowKit Ev
section
variable {st:St} {q m n B:Nat} {x:V} {Y Z:Nat → V} {E:Tr} {LB DB:Nat → Prop}
theorem doR_plain {E':Tr} {s:St} (h:chgR st q m n x E' LB DB s) (err:Int) (node ty:Nat) (links:Int) (size:Nat):doR st q m n x (⟨err,node,ty,links,size,[],[]⟩,E') LB DB (resV err node ty links size (.c (.slice none 0 0)) (.c (.slice none 0 0)),s):=by
 obtain ⟨Y',Z',LB',DB',h1,h2⟩:=h
 exact ⟨_,_,Y',Z',LB',DB',rfl,nil_rd _ _ rfl,nil_rd _ _ rfl,h1,h2,fun b h => by rcases h with h | h <;> exact absurd h (nil_blk b)⟩
theorem chg_same (TG:TrG st q m n x Y Z E LB DB) {s:St} (h:Ext st.nx st s):chgR st q m n x E LB DB s:=⟨Y,Z,LB,DB,TG.ext h,FrT.ext h⟩
theorem rsz_chg {s:St} {i:Nat} {d:Tx} (h:rszR st q m n i x Z E d LB DB s):chgR st q m n x (setD E i d) LB DB s:=by
 obtain ⟨Y',DB',b,tb,h1,h2,_⟩:=h
 exact ⟨Y',Z,LB,DB',h1,h2⟩
theorem trunc_any (TG:TrG st q m n x Y Z E LB DB) (O:TOk n B E) (hB:B ≤ 1000) (s:Tx) (hs:okS s) (k:Int) (nt:Nat) :
  Gd (callL Tryz.prog ⟨false,[],0,nt⟩ 50 [.p q 0,.s s,.int .i64 k] st) (doR st q m n x (truncE E s k) LB DB):=by
 rw [Gd_callL Tryz.func50 rfl]
 have x0:=fun w => (Ext.refl st.nx st).new (Nat.le_refl _) w
 by_cases c0:k < 0
 ·have hw:truncE E s k = (refR 1,E):=if_pos c0
  simp [evOp_call,sets,T.get_set,newC_is,c0]
  refine Gd.mono (refuse_any _ _ _) ?_
  rintro ⟨r,s2⟩ ⟨hr,x2⟩
  simp only at hr x2
  subst hr
  have n2:st.nx + 1 ≤ s2.nx:=x2.le
  have k2:=x2.keep st.nx (Nat.lt_succ_self _)
  simp only [T.get_set_same] at k2
  simp [evOp_call,sets,T.get_set,k2,storeK_g,putB_eq,roT,cellsOf,loadE_eq,getC_eq,getsB_succ,getsB_zero]
  rw [hw]
  exact doR_ref TG (((x0 _).trans (x2.mono (Nat.le_succ _))).set (Nat.le_refl _) (by omega) _) _
 simp [evOp_call,sets,T.get_set,newC_is,c0]
 refine Gd.mono (file_any (TG.ext (x0 _)) O (by omega) s hs _) ?_
 rintro ⟨r,s1⟩ ⟨hr,x1⟩
 simp only at hr x1
 subst hr
 have hx1:=(x0 _).trans (x1.mono (Nat.le_succ _))
 have n1:st.nx + 1 ≤ s1.nx:=x1.le
 have k1:=x1.keep st.nx (Nat.lt_succ_self _)
 simp only [T.get_set_same] at k1
 by_cases ce:(fileE E s).2 = 0
 rotate_left
 ·have hw:truncE E s k = (refR (fileE E s).2,E):=by unfold truncE; rw [if_neg c0,if_pos ce]
  simp [evOp_call,sets,T.get_set,tupK,ce]
  refine Gd.mono (refuse_any s1 _ _) ?_
  rintro ⟨r,s2⟩ ⟨hr,x2⟩
  simp only at hr x2
  subst hr
  have n2:=x2.le
  have hx2:=hx1.trans (x2.mono hx1.le)
  have k2:=(x2.keep st.nx (by omega)).trans k1
  simp [evOp_call,sets,T.get_set,k2,storeK_g,putB_eq,roT,cellsOf,loadE_eq,getC_eq,getsB_succ,getsB_zero]
  rw [hw]
  exact doR_ref TG (hx2.set (Nat.le_refl _) (by omega) _) _
 have TG1:=TG.ext hx1
 obtain ⟨f1,f2,f3⟩:=O.file ce
 by_cases c1:4096 < k
 ·have hw:truncE E s k = (refR 9,E):=by unfold truncE; rw [if_neg c0,if_neg (by simpa using ce),if_pos c1]
  simp [evOp_call,sets,T.get_set,tupK,ce,c1]
  refine Gd.mono (refuse_any s1 _ _) ?_
  rintro ⟨r,s2⟩ ⟨hr,x2⟩
  simp only at hr x2
  subst hr
  have n2:=x2.le
  have hx2:=hx1.trans (x2.mono hx1.le)
  have k2:=(x2.keep st.nx (by omega)).trans k1
  simp [evOp_call,sets,T.get_set,k2,storeK_g,putB_eq,roT,cellsOf,loadE_eq,getC_eq,getsB_succ,getsB_zero]
  rw [hw]
  exact doR_ref TG (hx2.set (Nat.le_refl _) (by omega) _) _
 obtain ⟨z,rfl⟩:∃ z:Nat,k = (z:Int):=⟨k.toNat,by omega⟩
 have hw:truncE E s (z:Int) = (⟨0,(fileE E s).1,0,0,z,[],[]⟩,setD E (fileE E s).1 (padT (E (fileE E s).1).d z)):=by
  unfold truncE; rw [if_neg c0,if_neg (by simpa using ce),if_neg c1]; rfl
 simp [evOp_call,sets,T.get_set,tupK,ce,c1]
 refine Gd.mono (resize_any TG1 _ f2 z (by omega) _) ?_
 rintro ⟨r,s2⟩ ⟨hr,c2⟩
 simp only at hr c2
 subst hr
 obtain ⟨k2,c3,c4⟩:=chg_fin TG hx1 ⟨Nat.le_refl _,by omega⟩ (rsz_chg c2)
 rw [k1] at k2
 simp [evOp_call,sets,T.get_set,k2,storeK_g,putB_eq,roT,cellsOf,loadE_eq,getC_eq,getsB_succ,getsB_zero]
 rw [hw]
 exact doR_plain (c4 _) _ _ _ _ _
theorem stat_any (TG:TrG st q m n x Y Z E LB DB) (O:TOk n B E) (hB:B ≤ 1000) (s:Tx) (hs:okS s) (nt:Nat) :
  Gd (callL Tryz.prog ⟨false,[],0,nt⟩ 51 [.p q 0,.s s] st) (doR st q m n x (statE E s) LB DB):=by
 rw [Gd_callL Tryz.func51 rfl]
 have x0:=fun w => (Ext.refl st.nx st).new (Nat.le_refl _) w
 simp [evOp_call,sets,T.get_set,newC_is]
 refine Gd.mono (way_any (TG.ext (x0 _)) O (by omega) s hs false _) ?_
 rintro ⟨r,s1⟩ ⟨hr,x1⟩
 simp only at hr x1
 subst hr
 have hx1:=(x0 _).trans (x1.mono (Nat.le_succ _))
 have n1:st.nx + 1 ≤ s1.nx:=x1.le
 have k1:=x1.keep st.nx (Nat.lt_succ_self _)
 simp only [T.get_set_same] at k1
 by_cases ce:(wayE E s false).2 = 0
 rotate_left
 ·have hw:statE E s = (refR (wayE E s false).2,E):=if_pos ce
  simp [evOp_call,sets,T.get_set,tupK,ce]
  refine Gd.mono (refuse_any s1 _ _) ?_
  rintro ⟨r,s2⟩ ⟨hr,x2⟩
  simp only at hr x2
  subst hr
  have n2:=x2.le
  have hx2:=hx1.trans (x2.mono hx1.le)
  have k2:=(x2.keep st.nx (by omega)).trans k1
  simp [evOp_call,sets,T.get_set,k2,storeK_g,putB_eq,roT,cellsOf,loadE_eq,getC_eq,getsB_succ,getsB_zero]
  rw [hw]
  exact doR_ref TG (hx2.set (Nat.le_refl _) (by omega) _) _
 have TG1:=TG.ext hx1
 obtain ⟨hin,hi1⟩:=O.way s false
 obtain ⟨tq,hq,q0⟩:=TG1.cell
 obtain ⟨ty,sz,t,hm,hro,hsz,row⟩:=TG1.row
 obtain ⟨e1,e2,e3,e4,e5,e6,e7⟩:=row _ hin
 have hii:=fun k => TG1.idx hin k
 have hyo:=e6.1.one
 have hzo:=e7.rd.one
 have hly:=e6.1.lenS
 have hlz:=e7.rd.lenS
 have u1:¬ s1.nx = st.nx:=by omega
 have u2:¬ s1.nx = q:=by have:=TG1.lt.1; omega
 have u3:¬ s1.nx = m:=by have:=TG1.lt.2.1; omega
 have x2:=fun w => hx1.new (b:=st.nx) hx1.le w
 by_cases ck:(E (wayE E s false).1).k = 2
 ·have hw:statE E s = (⟨0,(wayE E s false).1,2,1,(E (wayE E s false).1).l.length,[],[]⟩,E):=by unfold statE; rw [if_neg (by simpa using ce),if_pos ck]
  rw [ck] at e1
  simp [evOp_call,sets,T.get_set,tupK,ce,newC_is,loadE_eq,getC_eq,getsB_succ,getsB_zero,storeK_g,putB_eq,roT,cellsOf,hq,q0,hii,hm,e1,e2,e3,e4,e5,hyo,hzo,hly,hlz,k1,u1,u2,u3]
  rw [hw]
  exact doR_plain (chg_same TG ((x2 _).set (Nat.le_refl _) (by show st.nx < s1.nx + 1; omega) _)) _ _ _ _ _
 ·have ck':¬ ((E (wayE E s false).1).k:Int) = 2:=by omega
  have hw:statE E s = (⟨0,(wayE E s false).1,(E (wayE E s false).1).k,(E (wayE E s false).1).nm,(E (wayE E s false).1).d.length,[],[]⟩,E):=by unfold statE; rw [if_neg (by simpa using ce),if_neg ck]
  simp [evOp_call,sets,T.get_set,tupK,ce,newC_is,loadE_eq,getC_eq,getsB_succ,getsB_zero,storeK_g,putB_eq,roT,cellsOf,hq,q0,hii,hm,e1,e2,e3,e4,e5,hyo,hzo,hly,hlz,k1,u1,u2,u3,ck']
  rw [hw]
  exact doR_plain (chg_same TG ((x2 _).set (Nat.le_refl _) (by show st.nx < s1.nx + 1; omega) _)) _ _ _ _ _
theorem doR_data (TG:TrG st q m n x Y Z E LB DB) {s:St} (h:Ext st.nx st s) {rb:Nat} (hr:st.nx ≤ rb ∧ rb < s.nx) (i:Nat) (y:V) (d:Tx) (hy:RdRow s y 1 d.length (yv d)) (hyb:∀ b,BlkOf y b → st.nx ≤ b ∧ b ≠ rb) (w:Ev.B):doR st q m n x ({ nodeR i with data:=d },E) LB DB (resV 0 i 0 0 0 y (.c (.slice none 0 0)),⟨s.nx,s.h.set rb w⟩):=by
 have h2:=h.set hr.1 hr.2 w
 exact ⟨y,_,Y,Z,LB,DB,rfl,rd_other hy (fun b hb => (hyb b hb).2) w,nil_rd _ _ rfl,TG.ext h2,FrT.ext h2,fun b hb => by
  rcases hb with hb | hb
  ·exact ⟨(hyb b hb).1,fun e => by have:=(TG.lb _ e).1; have:=(hyb b hb).1; omega⟩
  ·exact absurd hb (nil_blk b)⟩
theorem readlink_any (TG:TrG st q m n x Y Z E LB DB) (O:TOk n B E) (hB:B ≤ 1000) (s:Tx) (hs:okS s) (nt:Nat) :
  Gd (callL Tryz.prog ⟨false,[],0,nt⟩ 47 [.p q 0,.s s] st) (doR st q m n x (readlinkE E s) LB DB):=by
 rw [Gd_callL Tryz.func47 rfl]
 have x0:=fun w => (Ext.refl st.nx st).new (Nat.le_refl _) w
 simp [evOp_call,sets,T.get_set,newC_is]
 refine Gd.mono (way_any (TG.ext (x0 _)) O (by omega) s hs false _) ?_
 rintro ⟨r,s1⟩ ⟨hr,x1⟩
 simp only at hr x1
 subst hr
 have hx1:=(x0 _).trans (x1.mono (Nat.le_succ _))
 have n1:st.nx + 1 ≤ s1.nx:=x1.le
 have k1:=x1.keep st.nx (Nat.lt_succ_self _)
 simp only [T.get_set_same] at k1
 by_cases ce:(wayE E s false).2 = 0
 rotate_left
 ·have hw:readlinkE E s = (refR (wayE E s false).2,E):=if_pos ce
  simp [evOp_call,sets,T.get_set,tupK,ce]
  refine Gd.mono (refuse_any s1 _ _) ?_
  rintro ⟨r,s2⟩ ⟨hr,x2⟩
  simp only at hr x2
  subst hr
  have n2:=x2.le
  have hx2:=hx1.trans (x2.mono hx1.le)
  have k2:=(x2.keep st.nx (by omega)).trans k1
  simp [evOp_call,sets,T.get_set,k2,storeK_g,putB_eq,roT,cellsOf,loadE_eq,getC_eq,getsB_succ,getsB_zero]
  rw [hw]
  exact doR_ref TG (hx2.set (Nat.le_refl _) (by omega) _) _
 have TG1:=TG.ext hx1
 obtain ⟨hin,hi1⟩:=O.way s false
 obtain ⟨tq,hq,q0⟩:=TG1.cell
 obtain ⟨ty,sz,t,hm,hro,hsz,row⟩:=TG1.row
 obtain ⟨e1,e2,e3,e4,e5,e6,e7⟩:=row _ hin
 have hii:=fun k => TG1.idx hin k
 by_cases ck:(E (wayE E s false).1).k = 3
 rotate_left
 ·have ck':¬ ((E (wayE E s false).1).k:Int) = 3:=by omega
  have hw:readlinkE E s = (refR 1,E):=by unfold readlinkE; rw [if_neg (by simpa using ce),if_pos ck]
  simp [evOp_call,sets,T.get_set,tupK,ce,loadE_eq,getC_eq,hq,q0,hii,hm,e1,ck']
  refine Gd.mono (refuse_any s1 _ _) ?_
  rintro ⟨r,s2⟩ ⟨hr,x2⟩
  simp only at hr x2
  subst hr
  have n2:=x2.le
  have hx2:=hx1.trans (x2.mono hx1.le)
  have k2:=(x2.keep st.nx (by omega)).trans k1
  simp [evOp_call,sets,T.get_set,k2,storeK_g,putB_eq,roT,cellsOf,loadE_eq,getC_eq,getsB_succ,getsB_zero]
  rw [hw]
  exact doR_ref TG (hx2.set (Nat.le_refl _) (by omega) _) _
 have hw:readlinkE E s = ({ nodeR (wayE E s false).1 with data:=(E (wayE E s false).1).d },E):=by unfold readlinkE; rw [if_neg (by simpa using ce),if_neg (by simpa using ck)]
 simp [evOp_call,sets,T.get_set,tupK,ce,loadE_eq,getC_eq,hq,q0,hii,hm,e1,ck,e4]
 refine Gd.mono (cloneB_any s1 _ _ _ e6.1 (by have:=(O.dat (wayE E s false).1).2; omega) _) ?_
 rintro ⟨y2,s2⟩ ⟨hy2,hyb2,_,_,_,x2⟩
 simp only at hy2 hyb2 x2
 have hyo2:=hy2.one
 have n2:=x2.le
 have hx2:=hx1.trans (x2.mono hx1.le)
 have k2:=(x2.keep st.nx (by omega)).trans k1
 simp [evOp_call,sets,T.get_set,k2,storeK_g,putB_eq,roT,cellsOf,loadE_eq,getC_eq,getsB_succ,getsB_zero,hyo2]
 rw [hw]
 exact doR_data TG hx2 ⟨Nat.le_refl _,by omega⟩ _ y2 _ hy2 (fun b hb => by have:=(hyb2 b hb).1; omega) _
end
end Go.Proofs.YtgcpgidofikcdaaGreatDoor
set_option linter.unusedSimpArgs false
set_option linter.unusedVariables false
namespace Go.Proofs.YtgcpgidofikcdaaGreatDoor
open Go.RowKit Ev
section
variable {st:St} {q m n B:Nat} {x:V} {Y Z:Nat → V} {E:Tr} {LB DB:Nat → Prop}
theorem read_any (TG:TrG st q m n x Y Z E LB DB) (O:TOk n B E) (hB:B ≤ 1000) (s:Tx) (hs:okS s) (a k:Int) (nt:Nat) :
  Gd (callL Tryz.prog ⟨false,[],0,nt⟩ 48 [.p q 0,.s s,.int .i64 a,.int .i64 k] st) (doR st q m n x (readE E s a k) LB DB):=by
 rw [Gd_callL Tryz.func48 rfl]
 have x0:=fun w => (Ext.refl st.nx st).new (Nat.le_refl _) w
 have hwu:wantK true (some V.u) = false:=rfl
 have hwf:wantK false (some V.u) = false:=rfl
 have bad:∀ w,∀ nt,Gd (callL Tryz.prog ⟨false,[],0,nt⟩ 53 [.int .i64 1] ⟨st.nx + 1,st.h.set st.nx w⟩) fun r => r.1 = resV 1 0 0 0 0 (.c (.slice none 0 0)) (.c (.slice none 0 0)) ∧ Ext st.nx st r.2 ∧ st.nx < r.2.nx ∧ r.2.h.get st.nx = some w:=fun w nt => by
  refine Gd.mono (refuse_any _ _ _) ?_
  rintro ⟨r,s2⟩ ⟨hr,x2⟩
  have h1:st.nx + 1 ≤ s2.nx:=x2.le
  exact ⟨hr,(x0 _).trans (x2.mono (Nat.le_succ _)),h1,(x2.keep st.nx (Nat.lt_succ_self _)).trans (T.get_set_same _ _ _)⟩
 by_cases c0:a < 0
 ·have hw:readE E s a k = (refR 1,E):=if_pos (.inl c0)
  simp [evOp_call,sets,T.get_set,newC_is,c0,hwu,hwf]
  refine Gd.mono (bad _ _) ?_
  rintro ⟨r,s2⟩ ⟨hr,x2,n2,k2⟩
  simp only at hr x2 n2 k2
  subst hr
  simp [evOp_call,sets,T.get_set,k2,storeK_g,putB_eq,roT,cellsOf,loadE_eq,getC_eq,getsB_succ,getsB_zero]
  rw [hw]
  exact doR_ref TG (x2.set (Nat.le_refl _) n2 _) _
 by_cases c1:k < 0
 ·have hw:readE E s a k = (refR 1,E):=if_pos (.inr c1)
  simp [evOp_call,sets,T.get_set,newC_is,c0,c1,hwu,hwf]
  refine Gd.mono (bad _ _) ?_
  rintro ⟨r,s2⟩ ⟨hr,x2,n2,k2⟩
  simp only at hr x2 n2 k2
  subst hr
  simp [evOp_call,sets,T.get_set,k2,storeK_g,putB_eq,roT,cellsOf,loadE_eq,getC_eq,getsB_succ,getsB_zero]
  rw [hw]
  exact doR_ref TG (x2.set (Nat.le_refl _) n2 _) _
 have c01:¬ (a < 0 ∨ k < 0):=by omega
 simp [evOp_call,sets,T.get_set,newC_is,c0,c1,hwu,hwf]
 refine Gd.mono (file_any (TG.ext (x0 _)) O (by omega) s hs _) ?_
 rintro ⟨r,s1⟩ ⟨hr,x1⟩
 simp only at hr x1
 subst hr
 have hx1:=(x0 _).trans (x1.mono (Nat.le_succ _))
 have n1:st.nx + 1 ≤ s1.nx:=x1.le
 have k1:=x1.keep st.nx (Nat.lt_succ_self _)
 simp only [T.get_set_same] at k1
 by_cases ce:(fileE E s).2 = 0
 rotate_left
 ·have hw:readE E s a k = (refR (fileE E s).2,E):=by unfold readE; rw [if_neg c01,if_pos ce]
  simp [evOp_call,sets,T.get_set,tupK,ce]
  refine Gd.mono (refuse_any s1 _ _) ?_
  rintro ⟨r,s2⟩ ⟨hr,x2⟩
  simp only at hr x2
  subst hr
  have n2:=x2.le
  have hx2:=hx1.trans (x2.mono hx1.le)
  have k2:=(x2.keep st.nx (by omega)).trans k1
  simp [evOp_call,sets,T.get_set,k2,storeK_g,putB_eq,roT,cellsOf,loadE_eq,getC_eq,getsB_succ,getsB_zero]
  rw [hw]
  exact doR_ref TG (hx2.set (Nat.le_refl _) (by omega) _) _
 have TG1:=TG.ext hx1
 obtain ⟨f1,f2,f3⟩:=O.file ce
 have hw:readE E s a k = ({ nodeR (fileE E s).1 with data:=cutT a k (E (fileE E s).1).d },E):=by unfold readE; rw [if_neg c01,if_neg (by simpa using ce)]
 obtain ⟨tq,hq,q0⟩:=TG1.cell
 obtain ⟨ty,sz,t,hm,hro,hsz,row⟩:=TG1.row
 obtain ⟨e1,e2,e3,e4,e5,e6,e7⟩:=row _ f2
 have hii:=fun k => TG1.idx f2 k
 have hly:=e6.1.lenS
 obtain ⟨d,hd⟩:∃ d,d = (E (fileE E s).1).d:=⟨_,rfl⟩
 obtain ⟨a',rfl⟩:∃ a':Nat,a = (a':Int):=⟨a.toNat,by omega⟩
 obtain ⟨k',rfl⟩:∃ k':Nat,k = (k':Int):=⟨k.toNat,by omega⟩
 rw [← hd] at hly e6 hw
 obtain ⟨j,hj⟩:∃ j,j = min a' d.length:=⟨_,rfl⟩
 have hji:(if d.length < a' then (d.length:Int) else (a':Int)) = (j:Int):=by split <;> omega
 have hdl:d.length ≤ 4096:=by rw [hd]; exact (O.dat _).2
 simp [evOp_call,sets,T.get_set,tupK,ce,loadE_eq,getC_eq,hq,q0,hii,hm,e4,hly,evOp_min,evOp_max,min_i64,max_i64,hji]
 refine Gd_slcLo (k:=j) (i:=.i64) un27 io5 e6.1 e6.2.2 (by simp [T.get_set]) (by omega) ?_
 intro v hv hvc hvb
 have hlv:=hv.lenS
 obtain ⟨l,hl⟩:∃ l,l = min k' (d.length - j):=⟨_,rfl⟩
 have hli:(if d.length - j < k' then ((d.length - j:Nat):Int) else (k':Int)) = (l:Int):=by split <;> omega
 simp [evOp_call,sets,T.get_set,hlv,evOp_min,evOp_max,min_i64,max_i64,hli]
 refine Gd_slcHi (k:=l) (i:=.i64) un27 io5 hv hvc (by simp [T.get_set]) (by omega) ?_
 intro w hw1 hwb
 have hwl:cutT (a':Int) (k':Int) d = (d.drop j).take l:=by
  unfold cutT
  have e1:(min (a':Int) (d.length:Int)).toNat = j:=by omega
  have e2:(min (k':Int) (((d.drop j).length:Nat):Int)).toNat = l:=by rw [List.length_drop]; omega
  rw [e1,e2]
 have hwlen:(cutT (a':Int) (k':Int) d).length = l:=by rw [hwl,List.length_take,List.length_drop]; omega
 rw [yv_drop,yv_take,← hwl] at hw1
 simp [evOp_call,sets,T.get_set]
 refine Gd.mono (cloneB_any s1 w l _ hw1 (by omega) _) ?_
 rintro ⟨y2,s2⟩ ⟨hy2,hyb2,_,_,_,x2⟩
 simp only at hy2 hyb2 x2
 have hyo2:=hy2.one
 have n2:=x2.le
 have hx2:=hx1.trans (x2.mono hx1.le)
 have k2:=(x2.keep st.nx (by omega)).trans k1
 simp [evOp_call,sets,T.get_set,k2,storeK_g,putB_eq,roT,cellsOf,loadE_eq,getC_eq,getsB_succ,getsB_zero,hyo2]
 rw [hw]
 exact doR_data TG hx2 ⟨Nat.le_refl _,by omega⟩ _ y2 _ (by rw [hwlen]; exact hy2) (fun b hb => by have:=(hyb2 b hb).1; omega) _
end
end Go.Proofs.YtgcpgidofikcdaaGreatDoor
set_option linter.unusedSimpArgs false
set_option linter.unusedVariables false
namespace Go.Proofs.YtgcpgidofikcdaaGreatDoor
open Go.RowKit Ev
theorem setD_setD (E:Tr) (i:Nat) (d d':Tx):setD (setD E i d) i d' = setD E i d':=by
 unfold setD
 rw [updE_same]
 funext j
 unfold updE
 split <;> rfl
section
variable {st:St} {q m n B:Nat} {x:V} {Y Z:Nat → V} {E:Tr} {LB DB:Nat → Prop}
theorem TrG.setIn (h:TrG st q m n x Y Z E LB DB) {i b:Nat} (hi:i ≤ n) {d:Tx} {tb:T V} (hY:Y i = .sl b 0 d.length d.length) (hl:(E i).d.length = d.length) (ho:∀ j,j ≤ n → j ≠ i → ¬ BlkOf (Y j) b) (hd:∀ j v,(yv d)[j]? = some v → tb.get j = some v) (hb:b < st.nx) :
  TrG ⟨st.nx,st.h.set b (.cs 5 d.length tb)⟩ q m n x Y Z (setD E i d) LB DB:=by
 have hbb:BlkOf (Y i) b:=by rw [hY]; exact .inl ⟨_,_,_,rfl⟩
 obtain ⟨⟨tq,h1,h2⟩,h3,⟨ty,sz,t,h4,h5,h6,h7⟩,h8,h9,h10,h11⟩:=h
 have hDB:=(h7 i hi).dr.2.1 b hbb
 obtain ⟨_,nq,nm,nl⟩:=h11 b hDB
 have oth:∀ w c,c ≠ b → (st.h.set b w).get c = st.h.get c:=fun w c hc => T.get_set_ne _ _ (Ne.symm hc)
 refine ⟨⟨tq,(oth _ q (Ne.symm nq)).trans h1,h2⟩,h3,⟨ty,sz,t,(oth _ m (Ne.symm nm)).trans h4,h5,h6,fun j hj => ?_⟩,h8,h9,h10,h11⟩
 obtain ⟨k0,k1,k2,k3,k4,k5,k6⟩:=h7 j hj
 have kl:NRow ⟨st.nx,st.h.set b (.cs 5 d.length tb)⟩ LB (Z j) (E j).l:=k6.keep (Nat.le_refl _) fun c _ hc => ⟨oth _ c (fun e => nl (e ▸ hc)),hc⟩
 by_cases e:j = i
 ·subst e
  unfold setD
  rw [updE_same]
  refine ⟨k0,k1,k2,k3,k4,⟨?_,k5.2.1,k5.2.2⟩,kl⟩
  rw [hY]
  exact ⟨by simp,.inr (.inl ⟨b,0,d.length,_,_,tb,rfl,hb,T.get_set_same _ _ _,by show 0 + d.length * 1 ≤ d.length; omega,fun j v hj => by rw [Nat.zero_add]; exact hd j v hj⟩)⟩
 ·unfold setD
  rw [updE_ne _ _ e]
  exact ⟨k0,k1,k2,k3,k4,k5.keep (Nat.le_refl _) fun c hc hc2 => ⟨oth _ c (fun e2 => ho j hj e (e2 ▸ hc)),hc2⟩,kl⟩
theorem write_any (TG:TrG st q m n x Y Z E LB DB) (O:TOk n B E) (hB:B ≤ 1000) (s:Tx) (hs:okS s) (a:Int) (y:V) (w:Tx) (hy:RdRow st y 1 w.length (yv w)) (hyo:∀ b,BlkOf y b → b ≠ m ∧ ¬ LB b) (hwl:w.length ≤ 1000000) (ha64:-9223372036854775808 ≤ a ∧ a ≤ 9223372036854775807) (nt:Nat) :
  Gd (callL Tryz.prog ⟨false,[],0,nt⟩ 49 [.p q 0,.s s,.int .i64 a,y] st) (doR st q m n x (writeE E s a w) LB DB):=by
 rw [Gd_callL Tryz.func49 rfl]
 have x0:=fun w => (Ext.refl st.nx st).new (Nat.le_refl _) w
 have hyone:=hy.one
 by_cases c0:a < 0
 ·have hw:writeE E s a w = (refR 1,E):=if_pos c0
  simp [evOp_call,sets,T.get_set,newC_is,c0]
  refine Gd.mono (refuse_any _ _ _) ?_
  rintro ⟨r,s2⟩ ⟨hr,x2⟩
  simp only at hr x2
  subst hr
  have n2:st.nx + 1 ≤ s2.nx:=x2.le
  have k2:=x2.keep st.nx (Nat.lt_succ_self _)
  simp only [T.get_set_same] at k2
  simp [evOp_call,sets,T.get_set,k2,storeK_g,putB_eq,roT,cellsOf,loadE_eq,getC_eq,getsB_succ,getsB_zero]
  rw [hw]
  exact doR_ref TG (((x0 _).trans (x2.mono (Nat.le_succ _))).set (Nat.le_refl _) (by omega) _) _
 simp [evOp_call,sets,T.get_set,newC_is,c0]
 refine Gd.mono (file_any (TG.ext (x0 _)) O (by omega) s hs _) ?_
 rintro ⟨r,s1⟩ ⟨hr,x1⟩
 simp only at hr x1
 subst hr
 have hx1:=(x0 _).trans (x1.mono (Nat.le_succ _))
 have n1:st.nx + 1 ≤ s1.nx:=x1.le
 have k1:=x1.keep st.nx (Nat.lt_succ_self _)
 simp only [T.get_set_same] at k1
 by_cases ce:(fileE E s).2 = 0
 rotate_left
 ·have hw:writeE E s a w = (refR (fileE E s).2,E):=by unfold writeE; rw [if_neg c0,if_pos ce]
  simp [evOp_call,sets,T.get_set,tupK,ce]
  refine Gd.mono (refuse_any s1 _ _) ?_
  rintro ⟨r,s2⟩ ⟨hr,x2⟩
  simp only at hr x2
  subst hr
  have n2:=x2.le
  have hx2:=hx1.trans (x2.mono hx1.le)
  have k2:=(x2.keep st.nx (by omega)).trans k1
  simp [evOp_call,sets,T.get_set,k2,storeK_g,putB_eq,roT,cellsOf,loadE_eq,getC_eq,getsB_succ,getsB_zero]
  rw [hw]
  exact doR_ref TG (hx2.set (Nat.le_refl _) (by omega) _) _
 have TG1:=TG.ext hx1
 obtain ⟨f1,f2,f3⟩:=O.file ce
 obtain ⟨i,hi⟩:∃ i,i = (fileE E s).1:=⟨_,rfl⟩
 rw [← hi] at f1 f2 f3 ⊢
 obtain ⟨tq,hq,q0⟩:=TG1.cell
 obtain ⟨ty,sz,t,hm,hro,hsz,row⟩:=TG1.row
 obtain ⟨e1,e2,e3,e4,e5,e6,e7⟩:=row _ f2
 have hii:=fun k => TG1.idx f2 k
 have hly:=e6.1.lenS
 have hly0:=hy.lenS
 obtain ⟨a',rfl⟩:∃ a':Nat,a = (a':Int):=⟨a.toNat,by omega⟩
 have hdl:=(O.dat i).2
 by_cases cw:w.length = 0
 ·have hw:writeE E s (a':Int) w = (⟨0,i,0,0,(E i).d.length,[],[]⟩,E):=by unfold writeE; rw [if_neg c0,if_neg (by simpa using ce),if_pos cw,← hi]; rfl
  simp [evOp_call,sets,T.get_set,tupK,ce,loadE_eq,getC_eq,hq,q0,hii,hm,e4,hly,hly0,cw,k1,storeK_g,putB_eq,roT,cellsOf,getsB_succ,getsB_zero]
  rw [hw]
  exact doR_plain (chg_same TG (hx1.set (Nat.le_refl _) (by omega) _)) _ _ _ _ _
 have cw':0 < w.length:=by omega
 have hws:IntKind.i64.wrap (4096 - (w.length:Int)) = 4096 - (w.length:Int):=wrap_in (by omega) (by omega)
 by_cases cb:4096 - (w.length:Int) < (a':Int)
 ·have hw:writeE E s (a':Int) w = (refR 9,E):=by unfold writeE; rw [if_neg c0,if_neg (by simpa using ce),if_neg cw,if_pos cb]
  simp [evOp_call,sets,T.get_set,tupK,ce,hly0,cw',hws,cb]
  refine Gd.mono (refuse_any s1 _ _) ?_
  rintro ⟨r,s2⟩ ⟨hr,x2⟩
  simp only at hr x2
  subst hr
  have n2:=x2.le
  have hx2:=hx1.trans (x2.mono hx1.le)
  have k2:=(x2.keep st.nx (by omega)).trans k1
  simp [evOp_call,sets,T.get_set,k2,storeK_g,putB_eq,roT,cellsOf,loadE_eq,getC_eq,getsB_succ,getsB_zero]
  rw [hw]
  exact doR_ref TG (hx2.set (Nat.le_refl _) (by omega) _) _
 obtain ⟨z,hz⟩:∃ z,z = max (E i).d.length (a' + w.length):=⟨_,rfl⟩
 have hw:writeE E s (a':Int) w = (⟨0,i,0,0,z,[],[]⟩,setD E i (putT (padT (E i).d z) a' w)):=by
  unfold writeE; rw [if_neg c0,if_neg (by simpa using ce),if_neg cw,if_neg cb,← hi,Int.toNat_natCast,← hz]; rfl
 have hwa:IntKind.i64.wrap ((a':Int) + (w.length:Int)) = (a':Int) + (w.length:Int):=wrap_in (by omega) (by omega)
 have hmx:(if ((E i).d.length:Int) < (a':Int) + (w.length:Int) then (a':Int) + (w.length:Int) else ((E i).d.length:Int)) = (z:Int):=by split <;> omega
 simp [evOp_call,sets,T.get_set,tupK,ce,hly0,cw',hws,cb,loadE_eq,getC_eq,hq,q0,hii,hm,e4,hly,hwa,evOp_min,evOp_max,min_i64,max_i64,hmx]
 refine Gd.mono (resize_any TG1 i f2 z (by omega) _) ?_
 rintro ⟨r,s2⟩ ⟨hr,c2⟩
 simp only at hr c2
 subst hr
 obtain ⟨Y2,DB2,b,tb,TG2,F2,g1,g2,g3,g4,g5⟩:=c2
 rw [padT_length] at g1 g3
 have n2:=F2.le
 have hy2:RdRow s2 y 1 w.length (yv w):=by
  have hb:=fun c hc => rd_blk hy c hc
  obtain ⟨h1,h2⟩:=hy
  refine ⟨h1,?_⟩
  have kk:∀ c,BlkOf y c → c < s2.nx ∧ s2.h.get c = st.h.get c:=fun c hc => by
   have h3:=hb c hc
   exact ⟨by omega,(F2.keep c (by omega) (hyo c hc).1 (hyo c hc).2).trans (hx1.keep c h3)⟩
  rcases h2 with h2 | ⟨m',o,q',ty',sz',t',rfl,h4,h5,h6⟩ | ⟨m',o,ty',sz',t',rfl,h4,h5,h6⟩
  ·exact .inl h2
  ·obtain ⟨k3,k4⟩:=kk m' (.inl ⟨_,_,_,rfl⟩)
   exact .inr (.inl ⟨m',o,q',ty',sz',t',rfl,k3,k4.trans h5,h6⟩)
  ·obtain ⟨k3,k4⟩:=kk m' (.inr ⟨_,_,_,rfl⟩)
   exact .inr (.inr ⟨m',o,ty',sz',t',rfl,k3,k4.trans h5,h6⟩)
 obtain ⟨tq2,hq2,q02⟩:=TG2.cell
 obtain ⟨ty2,sz2,t2,hm2,hro2,hsz2,row2⟩:=TG2.row
 have r2:=row2 _ f2
 have e42:=r2.d
 rw [g1] at e42
 have hii2:=fun k => TG2.idx f2 k
 have hbb:BlkOf (Y2 i) b:=by rw [g1]; exact .inl ⟨_,_,_,rfl⟩
 have hbD:=TG2.db b (r2.dr.2.1 b hbb)
 have k2r:s2.h.get st.nx = some _:=(F2.keep st.nx (by omega) (by have:=TG.lt.2.1; omega) (fun e => by have:=(TG.lb _ e).1; omega)).trans k1
 have haz:a' < z:=by omega
 simp [evOp_call,sets,T.get_set,loadE_eq,getC_eq,hq2,q02,hii2,hm2,e42]
 rw [sl_lo (k:=a') (i:=.i64) un27 io5 (by simp [T.get_set]) (by omega) (Nat.le_refl _) haz]
 have hcp:∀ nt,builtinE Tryz.prog ⟨false,[],0,nt⟩ .copy [27,27] [.sl b (0 + a' * 1) (z - a') (z - a'),y] s2 = some (.int .i64 ((w.length:Nat):Int),⟨s2.nx,s2.h.set b (.cs 5 z (sets (yv w) (0 + a' * 1) tb))⟩):=fun nt =>
  copy_d un27 io5 (fun k => hy2.len k) (by show min w.length (z - a') = w.length; omega) (fun k => by rw [firsts_le hy2 (Nat.le_refl _) (fun _ _ => rfl)]; rw [List.take_of_length_le (by simp)]) rfl (Nat.zero_le _) g3 (by decide) (by simp; omega)
 have u1:¬ b = q:=hbD.2.1
 have u2:¬ b = m:=hbD.2.2.1
 have u3:¬ b = st.nx:=by omega
 simp only [Nat.zero_add,Nat.mul_one] at hcp
 have hlz:∀ s':St,lenS s' (.sl b 0 z z) = some (.int .i64 (z:Int),s'):=fun _ => rfl
 simp [evOp_call,sets,T.get_set,loadE_eq,getC_eq,hq2,q02,hii2,hm2,e42,hcp,u1,u2,u3,k2r,hlz,storeK_g,putB_eq,roT,cellsOf,getsB_succ,getsB_zero]
 have hpl:(putT (padT (E i).d z) a' w).length = z:=by rw [putT_length (by rw [padT_length]; omega),padT_length]
 have TG3:=TG2.setIn (d:=putT (padT (E i).d z) a' w) (tb:=sets (yv w) a' tb) f2 (by rw [hpl]; exact g1) (by
  show (setD E i (padT (E i).d z) i).d.length = _
  unfold setD; rw [updE_same,hpl]; exact padT_length _ _) g4 (fun j v hj => by
  obtain ⟨c,hc,rfl⟩:=yv_of hj
  rw [get_sets,yv_length]
  unfold putT at hc
  have htl:((padT (E i).d z).take a').length = a':=by rw [List.length_take,padT_length]; omega
  rw [List.append_assoc,List.getElem?_append,htl] at hc
  by_cases h1:j < a'
  ·rw [if_pos h1,List.getElem?_take,if_pos h1] at hc
   rw [if_neg (by omega)]
   exact g5 j _ (yv_get hc)
  ·rw [if_neg h1,List.getElem?_append] at hc
   by_cases h2:j - a' < w.length
   ·rw [if_pos h2] at hc
    rw [if_pos ⟨by omega,by omega⟩]
    exact yv_get hc
   ·rw [if_neg h2,List.getElem?_drop] at hc
    rw [if_neg (by omega)]
    have e:a' + w.length + (j - a' - w.length) = j:=by omega
    rw [e] at hc
    exact g5 j _ (yv_get hc)) hbD.1
 rw [setD_setD,hpl] at TG3
 have C3:chgR s1 q m n x (setD E i (putT (padT (E i).d z) a' w)) LB DB ⟨s2.nx,s2.h.set b (.cs 5 z (sets (yv w) a' tb))⟩:=by
  refine ⟨Y2,Z,LB,DB2,TG3,⟨F2.le,fun hw c hc => ?_,fun c hc h1 h2 => (T.get_set_ne _ _ (by omega)).trans (F2.keep c hc h1 h2),F2.lb,F2.db⟩⟩
  have hc':s2.nx ≤ c:=hc
  exact (T.get_set_ne _ _ (by omega)).trans (F2.wf hw c hc')
 obtain ⟨k3,c3,c4⟩:=chg_fin TG hx1 ⟨Nat.le_refl _,by omega⟩ C3
 rw [hw]
 exact doR_plain (c4 _) _ _ _ _ _
end
end Go.Proofs.YtgcpgidofikcdaaGreatDoor
set_option linter.unusedSimpArgs false
set_option linter.unusedVariables false
namespace Go.Proofs.YtgcpgidofikcdaaGreatDoor
open Go.RowKit Ev
theorem sv_ins (c:Nat) (p:Tx) (l:List Tx):sv (l.take c ++ p :: l.drop c) = insL (c * 1) (sv l) (sv [p]):=by
 unfold insL
 rw [sv_app,sv,sv,sv,sv,List.map_take,List.map_cons,List.map_drop,Nat.mul_one]
 rfl
theorem insS_nil (st:St) (v:V) (p:Tx) (hv:RdRow st v 1 1 (sv [p])) (nt:Nat):Gd (callL Tryz.prog ⟨false,[],0,nt⟩ 120 [.c (.slice none 0 0),.int .i64 0,v] st) fun r => OwnRow st.nx r.2 r.1 1 1 (sv [p]) ∧ Ext st.nx st r.2:=by
 rw [Gd_callL Tryz.func120 rfl]
 have hln:∀ s:St,lenS s (V.c (.slice none 0 0)) = some (.int .i64 0,s):=fun s => (OwnRow.nil 0 s 1).rd.lenS s
 have hsl:∀ (c:Cx) (e:Env),e.get 11 = some (.int .i64 0) → sliceK Tryz.prog c e st 28 (V.c (.slice none 0 0)) (some (.tmp 11)) none = some (V.c (.slice none 0 0),st):=fun c e h => by
  unfold sliceK sliceE
  rw [un28]
  have hb:∀ f:Nat → Res,bnd e 0 (some (.tmp 11)) f = f 0:=fun f => bnd_at (i:=.i64) (k:=0) (by simp [h]) f
  have hb2:∀ f:Nat → Res,bnd e 0 none f = f 0:=fun _ => rfl
  simp only [infoOk_sz io9,hb,hb2]
 simp [evOp_call,sets,T.get_set]
 rw [hsl _ _ (by simp [T.get_set])]
 simp [evOp_call,sets,T.get_set,hv.lenS,hln]
 refine Gd_append_nil (b:=st.nx) un28 un28 io9 (Nat.le_refl _) (by decide) hv.notS hv.len (fun k => hv.firsts k) hv.1 (by omega) ?_
 intro y s1 hy x1 _
 simp [evOp_call,sets,T.get_set]
 exact ⟨hy,x1⟩
theorem insS_own {st:St} {b0 c:Nat} {y:V} {l:List Tx} (hy:OwnRow b0 st y 1 l.length (sv l)) (hb0:b0 ≤ st.nx) (hc:c ≤ l.length) (hl:l.length ≤ 100000) (p:Tx) {b:Nat} (hb:b < st.nx) (gb:∃ tb,st.h.get b = some (.cs 9 1 tb) ∧ tb.get 0 = some (.s p)) (hyb:∀ a,BlkOf y a → a ≠ b) (nt:Nat) :
  Gd (tmF ⟨false,[],0,nt⟩ 120 [y,.int .i64 (c:Int),.sl b 0 1 1] st) fun r => RdRow r.2 r.1 1 (l.length + 1) (sv (l.take c ++ p :: l.drop c)) ∧ (∀ a,BlkOf r.1 a → st.nx ≤ a) ∧ Ext b0 st r.2:=by
 obtain ⟨tb,gb1,gb2⟩:=gb
 obtain ⟨F,hF1,hF2⟩:=tmK_insS false 0 nt [y,.int .i64 (c:Int),.sl b 0 1 1] st
 have nb:∀ j v,(sv [p])[j]? = some v → tb.get (0 + j) = some v:=fun j v hj => by
  cases j with
  | zero => simp [sv] at hj; subst hj; exact gb2
  | succ j => simp [sv] at hj
 obtain ⟨_,⟨rfl,h0⟩ | ⟨m,ty,t,rfl,h3,h4,h5,h6,h7⟩⟩:=hy
 ·have hl0:l = []:=List.eq_nil_of_length_eq_zero h0
  subst hl0
  obtain rfl:c = 0:=by simpa using hc
  have hr:RdRow st (.sl b 0 1 1) 1 1 (sv [p]):=⟨rfl,.inr (.inl ⟨b,0,1,_,_,tb,rfl,hb,gb1,Nat.le_refl _,nb⟩)⟩
  rw [tmF_nil,hF1]
  have e0:insF F 120 1 ⟨false,[],0,nt⟩ 120 [.c (.slice none 0 0),.int .i64 ((0:Nat):Int),.sl b 0 1 1] st = F ⟨false,[],0,nt⟩ 120 [.c (.slice none 0 0),.int .i64 ((0:Nat):Int),.sl b 0 1 1] st:=by unfold insF; rw [Nat.beq_refl]
  rw [e0,hF2]
  refine Gd.mono (insS_nil st (.sl b 0 1 1) p hr nt) ?_
  rintro ⟨v,s'⟩ ⟨c1,c2⟩
  exact ⟨c1.rd,fun a ha => (own_blk c1 a ha).1,c2.mono hb0⟩
 ·have hmb:m ≠ b:=hyb m (.inr ⟨_,_,_,rfl⟩)
  rw [tmF_nil,hF1]
  refine Gd_insF (old:=sv l) (new:=sv [p]) (by omega) rfl rfl (Nat.zero_le _) hc hmb (by omega) (by omega) (Nat.le_refl _) h5 h6 gb1 (by decide) (by decide) (by omega) (by simp [sv]) h7 rfl nb ?_
  have hlen:(insL (c * 1) (sv l) (sv [p])).length = l.length + 1:=by rw [insL_length (by simp [sv]; omega)]; simp [sv]
  refine ⟨?_,fun a ha => ?_,⟨by show st.nx ≤ st.nx + 2; omega,fun w a ha => ?_,fun a ha => ?_⟩⟩
  ·rw [sv_ins]
   refine ⟨by rw [hlen,Nat.mul_one],.inr (.inr ⟨st.nx,0,unT,_,_,rfl,by show st.nx < st.nx + 2; omega,T.get_set_same _ _ _,by rw [hlen]; omega,fun j v hj => ?_⟩)⟩
   rw [Nat.zero_add,get_sets,if_pos ⟨Nat.zero_le _,by have:=(List.getElem?_eq_some_iff.1 hj).1; omega⟩,Nat.sub_zero]
   exact hj
  ·rcases ha with ⟨_,_,_,e⟩ | ⟨_,_,_,e⟩
   ·cases e
   ·injection e with e; omega
  ·have ha':st.nx + 2 ≤ a:=ha
   show ((st.h.set m .gone).set st.nx _).get a = none
   rw [T.get_set_ne _ _ (by omega),T.get_set_ne _ _ (by omega)]
   exact w a (by omega)
  ·show ((st.h.set m .gone).set st.nx _).get a = _
   rw [T.get_set_ne _ _ (by omega),T.get_set_ne _ _ (by omega)]
end Go.Proofs.YtgcpgidofikcdaaGreatDoor
set_option linter.unusedSimpArgs false
set_option linter.unusedVariables false
namespace Go.Proofs.YtgcpgidofikcdaaGreatDoor
open Go.RowKit Ev
section
variable {st:St} {q m n B:Nat} {x:V} {Y Z:Nat → V} {E:Tr} {LB DB:Nat → Prop}
theorem doR_names (TG:TrG st q m n x Y Z E LB DB) {s:St} (h:Ext st.nx st s) {rb:Nat} (hr:st.nx ≤ rb ∧ rb < s.nx) (i:Nat) (z:V) (l:List Tx) (hz:RdRow s z 1 l.length (sv l)) (hzb:∀ b,BlkOf z b → st.nx ≤ b ∧ b ≠ rb) (w:Ev.B):doR st q m n x ({ nodeR i with names:=l },E) LB DB (resV 0 i 0 0 0 (.c (.slice none 0 0)) z,⟨s.nx,s.h.set rb w⟩):=by
 have h2:=h.set hr.1 hr.2 w
 exact ⟨_,z,Y,Z,LB,DB,rfl,nil_rd _ _ rfl,rd_other hz (fun b hb => (hzb b hb).2) w,TG.ext h2,FrT.ext h2,fun b hb => by
  rcases hb with hb | hb
  ·exact absurd hb (nil_blk b)
  ·exact ⟨(hzb b hb).1,fun e => by have:=(TG.lb _ e).1; have:=(hzb b hb).1; omega⟩⟩
def nmI (s1:St) (q i rb:Nat) (z:V) (l:List Tx) (e:Env) (s:St):Prop:=∃ (k:Nat) (y:V),k ≤ l.length ∧ e.get 0 = some (.p q 0) ∧ e.get 4 = some (.p rb 0) ∧ e.get 5 = some (.int .i64 (i:Int)) ∧ e.get 7 = some y ∧ e.get 39 = some z ∧ e.get 40 = some (.int .i64 (l.length:Int)) ∧ e.get 41 = some (.int .i64 (k:Int)) ∧ OwnRow s1.nx s y 1 (l.take k).length (sv (l.take k)) ∧ Ext s1.nx s1 s
theorem okS_lost:okS lostT:=by unfold okS lostT; decide
theorem names_any (TG:TrG st q m n x Y Z E LB DB) (O:TOk n B E) (hB:B ≤ 1000) (s:Tx) (hs:okS s) (nt:Nat) :
  Gd (tmF ⟨false,[],0,nt⟩ 52 [.p q 0,.s s] st) (doR st q m n x (namesE E s) LB DB):=by
 rw [Gd_tmF rfl rfl Tryz.func52 rfl]
 have x0:=fun w => (Ext.refl st.nx st).new (Nat.le_refl _) w
 simp [evOp_call,sets,T.get_set,newC_is]
 rw [tmF_ne rfl]
 refine Gd.mono (way_any (TG.ext (x0 _)) O (by omega) s hs true _) ?_
 rintro ⟨r,s1⟩ ⟨hr,x1⟩
 simp only at hr x1
 subst hr
 have hx1:=(x0 _).trans (x1.mono (Nat.le_succ _))
 have n1:st.nx + 1 ≤ s1.nx:=x1.le
 have k1:=x1.keep st.nx (Nat.lt_succ_self _)
 simp only [T.get_set_same] at k1
 by_cases ce:(wayE E s true).2 = 0
 rotate_left
 ·have hw:namesE E s = (refR (wayE E s true).2,E):=if_pos ce
  simp [evOp_call,sets,T.get_set,tupK,ce]
  rw [tmF_ne rfl]
  refine Gd.mono (refuse_any s1 _ _) ?_
  rintro ⟨r,s2⟩ ⟨hr,x2⟩
  simp only at hr x2
  subst hr
  have n2:=x2.le
  have hx2:=hx1.trans (x2.mono hx1.le)
  have k2:=(x2.keep st.nx (by omega)).trans k1
  simp [evOp_call,sets,T.get_set,k2,storeK_g,putB_eq,roT,cellsOf,loadE_eq,getC_eq,getsB_succ,getsB_zero]
  rw [hw]
  exact doR_ref TG (hx2.set (Nat.le_refl _) (by omega) _) _
 have TG1:=TG.ext hx1
 obtain ⟨hin,hi1⟩:=O.way s true
 obtain ⟨i,hi⟩:∃ i,i = (wayE E s true).1:=⟨_,rfl⟩
 rw [← hi] at hin hi1 ⊢
 obtain ⟨tq,hq,q0⟩:=TG1.cell
 obtain ⟨ty,sz,t,hm,hro,hsz,row⟩:=TG1.row
 obtain ⟨e1,e2,e3,e4,e5,e6,e7⟩:=row _ hin
 have hii:=fun k => TG1.idx hin k
 by_cases ck:(E i).k = 2
 rotate_left
 ·have ck':¬ ((E i).k:Int) = 2:=by omega
  have hw:namesE E s = (refR 4,E):=by unfold namesE; rw [if_neg (by simpa using ce),← hi,if_pos ck]
  simp [evOp_call,sets,T.get_set,tupK,ce,loadE_eq,getC_eq,hq,q0,hii,hm,e1,ck']
  rw [tmF_ne rfl]
  refine Gd.mono (refuse_any s1 _ _) ?_
  rintro ⟨r,s2⟩ ⟨hr,x2⟩
  simp only at hr x2
  subst hr
  have n2:=x2.le
  have hx2:=hx1.trans (x2.mono hx1.le)
  have k2:=(x2.keep st.nx (by omega)).trans k1
  simp [evOp_call,sets,T.get_set,k2,storeK_g,putB_eq,roT,cellsOf,loadE_eq,getC_eq,getsB_succ,getsB_zero]
  rw [hw]
  exact doR_ref TG (hx2.set (Nat.le_refl _) (by omega) _) _
 have hw:namesE E s = ({ nodeR i with names:=listT E i },E):=by unfold namesE; rw [if_neg (by simpa using ce),← hi,if_neg (by simpa using ck)]
 have hlz:=e7.rd.lenS
 have hll:(E i).l.length ≤ 1000:=Nat.le_trans (O.len i) hB
 obtain ⟨l,hl⟩:∃ l,l = (E i).l.map (·.1):=⟨_,rfl⟩
 have hll2:l.length = (E i).l.length:=by rw [hl,List.length_map]
 simp [evOp_call,sets,T.get_set,tupK,ce,loadE_eq,getC_eq,hq,q0,hii,hm,e1,ck,e5,hlz]
 rw [← hll2]
 refine Gd_loop (nmI s1 q i st.nx (Z i) l) (fun e _ => muAt 41 l.length e) ?_ ?_
 ·exact ⟨0,.c (.slice none 0 0),Nat.zero_le _,by simp [T.get_set],by simp [T.get_set],by simp [T.get_set],by simp [T.get_set],by simp [T.get_set],by simp [T.get_set],by simp [T.get_set],OwnRow.nil _ _ _,Ext.refl _ _⟩
 rintro e s2 ⟨k,y,hk,g0,g4,g5,g7,g39,g40,g41,hy,x2⟩
 have n2:=x2.le
 have hkl:(l.take k).length = k:=by rw [List.length_take]; omega
 have hyl:=hy.rd.lenS
 by_cases hlt:k < l.length
 ·have hlt':(k:Int) < (l.length:Int):=by omega
  have hwk:=wrap_nat (n:=k) (by omega)
  have hz2:=e7.rd.ext x2
  have hlt2:k < (E i).l.length:=by omega
  have hgk:=List.getElem?_eq_getElem hlt2
  obtain ⟨q1,q2⟩:=cellsN_get _ _ _ hgk
  obtain ⟨m1,o1,ty1,sz1,tr1,i1,b1,kk1,l1,c1⟩:=hz2.idx (st:=s2) un90 io109 hlt2
  have d0:tr1.get o1 = some (.s (E i).l[k].1):=by have:=c1 0 _ (by omega) q1; simpa using this
  have d1:tr1.get (o1 + 1) = some (.int .i64 ((E i).l[k].2:Int)):=c1 1 _ (by omega) q2
  have u1:¬ s2.nx = m1:=by omega
  have x3:=fun w => (Ext.refl s2.nx s2).new (Nat.le_refl _) w
  simp [evOp_call,T.get_set,g0,g4,g5,g7,g39,g40,g41,hlt',i1,loadE_eq,getC_eq,getsB_succ,getsB_zero,kk1,d0,d1,newC_is,storeK_g,putB_eq,roT,sets,cellsOf,u1]
  refine evOp_build1 (v:=.s (E i).l[k].1) (cs:=[.s (E i).l[k].1]) (fun k => el28 k) (fun k => ze9 k) rfl (by decide) (by simp [T.get_set]) (fun k => rfl) rfl ?_
  simp [evOp_call,T.get_set,g7]
  refine Gd_append un28 un28 io9 (lx:=1) (new:=[.s (E i).l[k].1]) ((hy.ext (x3 _)).ext ((Ext.refl _ _).new (Nat.le_refl _) _)) (by show s1.nx ≤ s2.nx + 1 + 1; omega) (by decide) (fun s' h => by cases h) (fun k => rfl) (fun k => by simp [getC_eq,getsB_succ,getsB_zero,T.get_set,sets]) rfl (by rw [hkl]; omega) ?_
  intro y' s3 hy' x4 _ _
  have hkk:l[k]? = some (E i).l[k].1:=by rw [hl,List.getElem?_map,hgk]; rfl
  have etk:l.take (k + 1) = l.take k ++ [(E i).l[k].1]:=by rw [List.take_add_one,hkk]; rfl
  simp [evOp_call,T.get_set,g0,g4,g5,g39,g40,g41,hwk]
  refine ⟨⟨k + 1,y',hlt,by simp [T.get_set,g0],by simp [T.get_set,g4],by simp [T.get_set,g5],by simp [T.get_set],by simp [T.get_set,g39],by simp [T.get_set,g40],by simp [T.get_set],?_,?_⟩,muAt_lt g41 (by simp [T.get_set]) hlt⟩
  ·rw [etk,List.length_append,sv_app]
   exact hy'
  ·exact (x2.trans ((x3 _).mono n2)).trans (((Ext.refl _ _).new (Nat.le_refl _) _).mono (by show s1.nx ≤ s2.nx + 1; omega) |>.trans x4)
 ·obtain rfl:k = l.length:=by omega
  rw [List.take_length] at hy
  have hx2:=hx1.trans (x2.mono hx1.le)
  have TG2:=TG1.ext x2
  have k2:=(x2.keep st.nx (by omega)).trans k1
  have hyo:=hy.rd.one
  have hyb:=own_blk hy
  by_cases c1:i = 1
  rotate_left
  ·have c1':¬ (i:Int) = 1:=by omega
   have hlt3:listT E i = l:=by unfold listT; rw [if_neg c1,hl]
   simp [evOp_call,T.get_set,g0,g4,g5,g7,g39,g40,g41,c1,c1',k2,storeK_g,putB_eq,roT,cellsOf,loadE_eq,getC_eq,getsB_succ,getsB_zero,hyo,sets]
   rw [hw,hlt3]
   exact doR_names TG hx2 ⟨Nat.le_refl _,by omega⟩ i y l hy.rd (fun b hb => by have:=(hyb b hb).1; omega) _
  ·subst c1
   have hlt3:listT E 1 = l.take (cntT lostT (E 1).l) ++ lostT :: l.drop (cntT lostT (E 1).l):=by unfold listT; rw [if_pos rfl,← hl]
   have hcl:=cntT_le lostT (E 1).l
   have pl:=fun nt => place_any TG2 (by omega) 1 hin (O.lok 1) lostT okS_lost nt
   unfold lostT at pl
   simp [evOp_call,T.get_set,g0,g4,g5,g7,g39,g40,g41,sets]
   rw [tmF_ne rfl]
   refine Gd.mono (pl _) ?_
   rintro ⟨r,s3⟩ ⟨hr,x3⟩
   simp only at hr x3
   subst hr
   have n3:=x3.le
   simp [evOp_call,T.get_set,g0,g4,g5,g7,tupK,sets]
   refine evOp_build1 (v:=.s lostT) (cs:=[.s lostT]) (fun k => el28 k) (fun k => ze9 k) rfl (by decide) rfl (fun k => rfl) rfl ?_
   have x4:=(Ext.refl s3.nx s3).new (Nat.le_refl _) (.cs 9 1 (sets [.s lostT] 0 .lf))
   have gb4:∃ tb,(s3.h.set s3.nx (.cs 9 1 (sets [.s lostT] 0 .lf))).get s3.nx = some (.cs 9 1 tb) ∧ tb.get 0 = some (.s lostT):=⟨_,T.get_set_same _ _ _,by simp [sets,T.get_set]⟩
   simp [evOp_call,T.get_set,g0,g4,g5,g7]
   generalize hS4:(⟨s3.nx + 1,s3.h.set s3.nx (.cs 9 1 (sets [.s lostT] 0 .lf))⟩:St) = s4 at x4 ⊢
   have gb4':∃ tb,s4.h.get s3.nx = some (.cs 9 1 tb) ∧ tb.get 0 = some (.s lostT):=by rw [← hS4]; exact gb4
   have n4:s4.nx = s3.nx + 1:=by rw [← hS4]
   refine Gd.mono (insS_own ((hy.ext x3).ext x4) (by omega) (by rw [hll2]; exact hcl) (by omega) lostT (by omega) gb4' (fun a ha => by have:=(hyb a ha).2; omega) _) ?_
   rintro ⟨z,s5⟩ ⟨hz,hzb,x5⟩
   simp only at hz hzb x5
   have hzo:=hz.one
   have n5:=x5.le
   have hx5:=((hx2.trans (x3.mono hx2.le)).trans (x4.mono (by omega))).trans (x5.mono (by omega))
   have k5:=(x5.keep st.nx (by omega)).trans ((x4.keep st.nx (by omega)).trans ((x3.keep st.nx (by omega)).trans k2))
   simp [evOp_call,T.get_set,g0,g4,g5,g7,k5,storeK_g,putB_eq,roT,cellsOf,loadE_eq,getC_eq,getsB_succ,getsB_zero,hzo,sets]
   rw [hw,hlt3]
   refine doR_names TG hx5 ⟨Nat.le_refl _,by omega⟩ 1 z _ ?_ (fun b hb => by have:=hzb b hb; omega) _
   have e:(l.take (cntT lostT (E 1).l) ++ lostT :: l.drop (cntT lostT (E 1).l)).length = l.length + 1:=by simp; omega
   rw [e]
   exact hz
end
end Go.Proofs.YtgcpgidofikcdaaGreatDoor
set_option linter.unusedSimpArgs false
set_option linter.unusedVariables false
namespace Go.Proofs.YtgcpgidofikcdaaGreatDoor
open Go.RowKit Ev
theorem LOk.leave {n B:Nat} {E:Tr} {a c:Nat} (p:Tx) (h:LOk n B E c):LOk n B (leaveE E a p) c:=by
 cases he:entT p (E a).l with
 | none => have e:leaveE E a p = E:=by unfold leaveE; rw [he]
           rw [e]; exact h
 | some i =>
  have key:(leaveE E a p c).l = (E c).l ∨ (leaveE E a p c).l = [] ∨ ∃ k,(leaveE E a p c).l = (E c).l.eraseIdx k:=by
   by_cases hn:IntKind.i64.wrap ((E i).nm - 1) = 0
   ·obtain ⟨g1,g2⟩:=leave_gone he hn
    by_cases hc:c = i
    ·subst hc; rw [g1]; exact .inr (.inl rfl)
    ·rw [g2 c hc]
     split
     ·rename_i e; subst e; exact .inr (.inr ⟨_,rfl⟩)
     ·exact .inl rfl
   ·rw [(leave_stay he hn c).1.l]
    split
    ·rename_i e; subst e; exact .inr (.inr ⟨_,rfl⟩)
    ·exact .inl rfl
  rcases key with e | e | ⟨k,e⟩
  ·exact ⟨by rw [e]; exact h.ris,by rw [e]; exact h.ent,by rw [e]; exact h.len⟩
  ·exact ⟨by rw [e]; exact List.Pairwise.nil,by rw [e]; exact fun x hx => (by cases hx),by rw [e]; exact Nat.zero_le _⟩
  ·exact ⟨by rw [e]; exact ris_del h.ris,by rw [e]; exact fun x hx => h.ent x (List.mem_of_mem_eraseIdx hx),by rw [e]; exact Nat.le_trans (List.length_eraseIdx_le _ _) h.len⟩
theorem leave_none {n B:Nat} {E:Tr} {a:Nat} (p:Tx) (h:LOk n B E a):entT p (leaveE E a p a).l = none:=by
 cases he:entT p (E a).l with
 | none => have e:leaveE E a p = E:=by unfold leaveE; rw [he]
           rw [e]; exact he
 | some i =>
  have key:(leaveE E a p a).l = [] ∨ (leaveE E a p a).l = (E a).l.eraseIdx (cntT p (E a).l):=by
   by_cases hn:IntKind.i64.wrap ((E i).nm - 1) = 0
   ·obtain ⟨g1,g2⟩:=leave_gone he hn
    by_cases hc:a = i
    ·rw [← hc] at g1; rw [g1]; exact .inl rfl
    ·rw [g2 a hc,if_pos rfl]; exact .inr rfl
   ·rw [(leave_stay he hn a).1.l,if_pos rfl]; exact .inr rfl
  rcases key with e | e
  ·rw [e]; rfl
  ·rw [e]
   refine (ris_none (ris_del h.ris)).2 fun j hj => ?_
   exact ((mem_del h.ris (entT_some he) _).1 hj).2 rfl
theorem LOk.enter {n B:Nat} {E:Tr} {a i c:Nat} {p:Tx} (h:LOk n B E c) (ha:entT p (E a).l = none) (hp:okS p) (hi:i ≤ n):LOk n (B + 1) (enterE E a p i) c:=by
 have f:=(enter_f E a p i c).1.l
 by_cases e:c = a
 ·subst e
  rw [if_pos rfl] at f
  refine ⟨by rw [f]; exact ris_ins h.ris ha,fun x hx => ?_,by rw [f,insT_length (cntT_le _ _)]; have:=h.len; omega⟩
  rw [f] at hx
  rcases mem_insT.1 hx with rfl | hx
  ·exact ⟨hp,hi⟩
  ·exact h.ent x hx
 ·rw [if_neg e] at f
  exact ⟨by rw [f]; exact h.ris,by rw [f]; exact h.ent,by rw [f]; have:=h.len; omega⟩
section
variable {st:St} {q m n B:Nat} {x:V} {Y Z:Nat → V} {E:Tr} {LB DB:Nat → Prop}
theorem rename_any (TG:TrG st q m n x Y Z E LB DB) (O:TOk n B E) (hB:B ≤ 900) (a b:Tx) (ha:okS a) (hb:okS b) (nt:Nat) :
  Gd (tmF ⟨false,[],0,nt⟩ 45 [.p q 0,.s a,.s b] st) (doR st q m n x (renameE E a b) LB DB):=by
 rw [Gd_tmF rfl rfl Tryz.func45 rfl]
 obtain ⟨w0,hw0⟩:∃ w0:Ev.B,w0 = .cs 30 7 (((((((T.lf.set 0 (V.int .i64 0)).set 1 (V.int .i64 0)).set 2 (V.int .i64 0)).set 3 (V.int .i64 0)).set 4 (V.int .i64 0)).set 5 (.c (.slice none 0 0))).set 6 (.c (.slice none 0 0))):=⟨_,rfl⟩
 have x0:=(Ext.refl st.nx st).new (Nat.le_refl _) w0
 have ref:∀ (s:St) (e:Int) (nt:Nat),Ext st.nx st s → st.nx < s.nx → s.h.get st.nx = some w0 → ∀ Q:V × St → Prop,(∀ s2,Ext st.nx st s2 → st.nx < s2.nx → s2.h.get st.nx = some w0 → Q (resV e 0 0 0 0 (.c (.slice none 0 0)) (.c (.slice none 0 0)),s2)) → Gd (tmF ⟨false,[],0,nt⟩ 53 [.int .i64 e] s) Q:=fun s e nt h1 h2 h3 Q hQ => by
  rw [tmF_ne rfl]
  refine Gd.mono (refuse_any s _ _) ?_
  rintro ⟨r,s2⟩ ⟨hr,x2⟩
  simp only at hr x2
  subst hr
  exact hQ s2 (h1.trans (x2.mono h1.le)) (Nat.lt_of_lt_of_le h2 x2.le) ((x2.keep _ h2).trans h3)
 simp [evOp_call,sets,T.get_set,newC_is]
 rw [← hw0]
 rw [tmF_ne rfl]
 refine Gd.mono (last_any _ a ha _) ?_
 rintro ⟨r,s1⟩ ⟨y1,hr,hy1,_,_,x1⟩
 simp only at hr x1
 subst hr
 have hx1:=x0.trans (x1.mono (Nat.le_succ _))
 have n1:st.nx < s1.nx:=x1.le
 have k1:s1.h.get st.nx = some w0:=(x1.keep st.nx (Nat.lt_succ_self _)).trans (T.get_set_same _ _ _)
 by_cases c1:lastE a = 0
 rotate_left
 ·have hw:renameE E a b = (refR (lastE a),E):=if_pos c1
  simp [evOp_call,sets,T.get_set,tupK,c1]
  refine ref s1 _ _ hx1 n1 k1 _ fun s2 x2 n2 k2 => ?_
  subst hw0
  simp [evOp_call,sets,T.get_set,k2,storeK_g,putB_eq,roT,cellsOf,loadE_eq,getC_eq,getsB_succ,getsB_zero]
  rw [hw]
  exact doR_ref TG (x2.set (Nat.le_refl _) n2 _) _
 simp [evOp_call,sets,T.get_set,tupK,c1]
 rw [tmF_ne rfl]
 refine Gd.mono (last_any _ b hb _) ?_
 rintro ⟨r,s2⟩ ⟨y2,hr,hy2,_,_,x2⟩
 simp only at hr hy2 x2
 subst hr
 have hx2:=hx1.trans (x2.mono hx1.le)
 have n2:st.nx < s2.nx:=Nat.lt_of_lt_of_le n1 x2.le
 have k2:=(x2.keep st.nx n1).trans k1
 by_cases c2:lastE b = 0
 rotate_left
 ·have hw:renameE E a b = (refR (lastE b),E):=by unfold renameE; rw [if_neg (by simpa using c1),if_pos c2]
  simp [evOp_call,sets,T.get_set,tupK,c2]
  refine ref s2 _ _ hx2 n2 k2 _ fun s3 x3 n3 k3 => ?_
  subst hw0
  simp [evOp_call,sets,T.get_set,k3,storeK_g,putB_eq,roT,cellsOf,loadE_eq,getC_eq,getsB_succ,getsB_zero]
  rw [hw]
  exact doR_ref TG (x3.set (Nat.le_refl _) n3 _) _
 have TG2:=TG.ext hx2
 simp [evOp_call,sets,T.get_set,tupK,c2]
 rw [tmF_ne rfl]
 refine Gd.mono (there_any TG2 O (by omega) a ha _) ?_
 rintro ⟨r,s3⟩ ⟨hr,x3⟩
 simp only at hr x3
 subst hr
 have hx3:=hx2.trans (x3.mono hx2.le)
 have n3:st.nx < s3.nx:=Nat.lt_of_lt_of_le n2 x3.le
 have k3:=(x3.keep st.nx n2).trans k2
 by_cases c3:(thereE E a).2.2.2 = 0
 rotate_left
 ·have hw:renameE E a b = (refR (thereE E a).2.2.2,E):=by unfold renameE; rw [if_neg (by simpa using c1),if_neg (by simpa using c2),if_pos c3]
  simp [evOp_call,sets,T.get_set,tupK,c3]
  refine ref s3 _ _ hx3 n3 k3 _ fun s4 x4 n4 k4 => ?_
  subst hw0
  simp [evOp_call,sets,T.get_set,k4,storeK_g,putB_eq,roT,cellsOf,loadE_eq,getC_eq,getsB_succ,getsB_zero]
  rw [hw]
  exact doR_ref TG (x4.set (Nat.le_refl _) n4 _) _
 obtain ⟨t1,t2,t3,t4⟩:=O.there c3
 obtain ⟨i,hi⟩:∃ i,i = (thereE E a).2.1:=⟨_,rfl⟩
 obtain ⟨fr,hfr⟩:∃ fr,fr = (thereE E a).1:=⟨_,rfl⟩
 obtain ⟨old,hold⟩:∃ old,old = (thereE E a).2.2.1:=⟨_,rfl⟩
 have hin:i ≤ n:=by rw [hi,t2]; exact (O.find _ _).1
 have hfn:fr ≤ n:=by rw [hfr]; exact (O.kle (i:=(thereE E a).1) (by omega)).2
 have hok:okS old:=by rw [hold,t4.2.1]; exact ok_lastN ha
 rw [← hi,← hfr,← hold]
 by_cases c4:i = 2
 ·have hw:renameE E a b = (refR 12,E):=by unfold renameE; rw [if_neg (by simpa using c1),if_neg (by simpa using c2),if_neg (by simpa using c3),← hi,if_pos c4]
  simp [evOp_call,sets,T.get_set,tupK,c3,c4]
  refine ref s3 _ _ hx3 n3 k3 _ fun s4 x4 n4 k4 => ?_
  subst hw0
  simp [evOp_call,sets,T.get_set,k4,storeK_g,putB_eq,roT,cellsOf,loadE_eq,getC_eq,getsB_succ,getsB_zero]
  rw [hw]
  exact doR_ref TG (x4.set (Nat.le_refl _) n4 _) _
 have c4':¬ (i:Int) = 2:=by omega
 have TG3:=TG2.ext x3
 simp [evOp_call,sets,T.get_set,tupK,c3,c4,c4']
 rw [tmF_ne rfl]
 refine Gd.mono (dir_any TG3 O (by omega) y2 (lastD b) (hy2.ext x3) (ok_lastD hb) lastD_len _) ?_
 rintro ⟨r,s4⟩ ⟨hr,x4⟩
 simp only at hr x4
 subst hr
 have hx4:=hx3.trans (x4.mono hx3.le)
 have n4:st.nx < s4.nx:=Nat.lt_of_lt_of_le n3 x4.le
 have k4:=(x4.keep st.nx n3).trans k3
 by_cases c5:(dirE E (lastD b)).2 = 0
 rotate_left
 ·have hw:renameE E a b = (refR (dirE E (lastD b)).2,E):=by unfold renameE; rw [if_neg (by simpa using c1),if_neg (by simpa using c2),if_neg (by simpa using c3),← hi,if_neg c4,if_pos c5]
  simp [evOp_call,sets,T.get_set,tupK,c5]
  refine ref s4 _ _ hx4 n4 k4 _ fun s5 x5 n5 k5 => ?_
  subst hw0
  simp [evOp_call,sets,T.get_set,k5,storeK_g,putB_eq,roT,cellsOf,loadE_eq,getC_eq,getsB_succ,getsB_zero]
  rw [hw]
  exact doR_ref TG (x5.set (Nat.le_refl _) n5 _) _
 have d1:=O.dirE (lastD b) c5
 obtain ⟨to,hto⟩:∃ to,to = (dirE E (lastD b)).1:=⟨_,rfl⟩
 rw [← hto] at d1 ⊢
 have htn:=(O.kle (i:=to) (by omega)).2
 by_cases c6:to = 2
 ·have hw:renameE E a b = (refR 12,E):=by unfold renameE; rw [if_neg (by simpa using c1),if_neg (by simpa using c2),if_neg (by simpa using c3),← hi,if_neg c4,if_neg (by simpa using c5),← hto,if_pos c6]
  simp [evOp_call,sets,T.get_set,tupK,c5,c6]
  refine ref s4 _ _ hx4 n4 k4 _ fun s5 x5 n5 k5 => ?_
  subst hw0
  simp [evOp_call,sets,T.get_set,k5,storeK_g,putB_eq,roT,cellsOf,loadE_eq,getC_eq,getsB_succ,getsB_zero]
  rw [hw]
  exact doR_ref TG (x5.set (Nat.le_refl _) n5 _) _
 have c6':¬ (to:Int) = 2:=by omega
 have TG4:=TG3.ext x4
 simp [evOp_call,sets,T.get_set,tupK,c5,c6,c6']
 rw [tmF_ne rfl]
 refine Gd.mono (within_any TG4 O to i d1 _) ?_
 rintro ⟨r,s5⟩ ⟨⟨bw,hr,hbw⟩,hs5⟩
 simp only at hr hs5
 subst hr hs5
 by_cases c7:Wn E i to
 ·have hbt:bw = true:=hbw.2 c7
  have hw:renameE E a b = (refR 1,E):=by unfold renameE; rw [if_neg (by simpa using c1),if_neg (by simpa using c2),if_neg (by simpa using c3),← hi,if_neg c4,if_neg (by simpa using c5),← hto,if_neg c6,if_pos c7]
  simp [evOp_call,sets,T.get_set,tupK,hbt]
  refine ref s5 _ _ hx4 n4 k4 _ fun s6 x6 n6 k6 => ?_
  subst hw0
  simp [evOp_call,sets,T.get_set,k6,storeK_g,putB_eq,roT,cellsOf,loadE_eq,getC_eq,getsB_succ,getsB_zero]
  rw [hw]
  exact doR_ref TG (x6.set (Nat.le_refl _) n6 _) _
 have hbt:bw = false:=by cases bw with
  | false => rfl
  | true => exact absurd (hbw.1 rfl) c7
 simp [evOp_call,sets,T.get_set,tupK,hbt]
 rw [tmF_ne rfl]
 refine Gd.mono (find_any TG4 O (by omega) to htn (lastN b) (ok_lastN hb) _) ?_
 rintro ⟨r,s6⟩ ⟨hr,x6⟩
 simp only at hr x6
 subst hr
 have hx6:=hx4.trans (x6.mono hx4.le)
 have n6:st.nx < s6.nx:=Nat.lt_of_lt_of_le n4 x6.le
 have k6:=(x6.keep st.nx n4).trans k4
 obtain ⟨o,ho⟩:∃ o,o = findE E to (lastN b):=⟨_,rfl⟩
 have hon:o ≤ n:=by rw [ho]; exact (O.find _ _).1
 rw [← ho]
 have TG6:=TG4.ext x6
 by_cases c8:o = i
 ·have hw:renameE E a b = (nodeR i,E):=by unfold renameE; rw [if_neg (by simpa using c1),if_neg (by simpa using c2),if_neg (by simpa using c3),← hi,if_neg c4,if_neg (by simpa using c5),← hto,if_neg c6,if_neg c7,← ho,if_pos c8]
  have hw0':=hw0
  subst hw0'
  simp [evOp_call,sets,T.get_set,c8,k6,storeK_g,putB_eq,roT,cellsOf,loadE_eq,getC_eq,getsB_succ,getsB_zero]
  rw [hw]
  exact doR_node (chg_same TG (hx6.set (Nat.le_refl _) n6 _)) _
 have c8':¬ (o:Int) = (i:Int):=by omega
 simp [evOp_call,sets,T.get_set,c8,c8']
 rw [tmF_ne rfl]
 refine Gd.mono (yields_any TG6 O o i hon hin _) ?_
 rintro _ rfl
 by_cases c9:yieldE E o i = 0
 rotate_left
 ·have hw:renameE E a b = (refR (yieldE E o i),E):=by unfold renameE; rw [if_neg (by simpa using c1),if_neg (by simpa using c2),if_neg (by simpa using c3),← hi,if_neg c4,if_neg (by simpa using c5),← hto,if_neg c6,if_neg c7,← ho,if_neg c8,if_pos c9]
  simp [evOp_call,sets,T.get_set,tupK,c9]
  refine ref s6 _ _ hx6 n6 k6 _ fun s7 x7 n7 k7 => ?_
  subst hw0
  simp [evOp_call,sets,T.get_set,k7,storeK_g,putB_eq,roT,cellsOf,loadE_eq,getC_eq,getsB_succ,getsB_zero]
  rw [hw]
  exact doR_ref TG (x7.set (Nat.le_refl _) n7 _) _
 have hw:renameE E a b = (nodeR i,leaveE (enterE (leaveE E to (lastN b)) to (lastN b) i) fr old):=by unfold renameE; rw [if_neg (by simpa using c1),if_neg (by simpa using c2),if_neg (by simpa using c3),← hi,if_neg c4,if_neg (by simpa using c5),← hto,if_neg c6,if_neg c7,← ho,if_neg c8,if_neg (by simpa using c9),← hfr,← hold]
 have L1:=O.lok to
 have hno:=leave_none (lastN b) L1
 have L2:=(O.lok to).leave (a:=to) (lastN b)
 have L3:LOk n (B + 1) (enterE (leaveE E to (lastN b)) to (lastN b) i) fr:=((O.lok fr).leave (lastN b)).enter hno (ok_lastN hb) hin
 simp [evOp_call,sets,T.get_set,tupK,c9]
 refine Gd.mono (leave_any TG6 (by omega) to htn L1 (lastN b) (ok_lastN hb) _) ?_
 rintro ⟨r,s7⟩ ⟨hr,Y7,Z7,LB7,DB7,TG7,F7⟩
 simp only at hr TG7 F7
 subst hr
 simp [evOp_call,sets,T.get_set,tupK]
 refine Gd.mono (enter_any TG7 (by omega) to i htn L2 hin (lastN b) (ok_lastN hb) _) ?_
 rintro ⟨r,s8⟩ ⟨hr,Y8,Z8,LB8,DB8,TG8,F8⟩
 simp only at hr TG8 F8
 subst hr
 simp [evOp_call,sets,T.get_set,tupK]
 refine Gd.mono (leave_any TG8 (by omega) fr hfn L3 old hok _) ?_
 rintro ⟨r,s9⟩ ⟨hr,Y9,Z9,LB9,DB9,TG9,F9⟩
 simp only at hr TG9 F9
 subst hr
 obtain ⟨k9,_,c10⟩:=chg_fin TG hx6 ⟨Nat.le_refl _,n6⟩ (E':=leaveE (enterE (leaveE E to (lastN b)) to (lastN b) i) fr old) ⟨Y9,Z9,LB9,DB9,TG9,(F7.trans F8).trans F9⟩
 rw [k6] at k9
 subst hw0
 simp [evOp_call,sets,T.get_set,k9,storeK_g,putB_eq,roT,cellsOf,loadE_eq,getC_eq,getsB_succ,getsB_zero]
 rw [hw]
 exact doR_node (c10 _) _
end
end Go.Proofs.YtgcpgidofikcdaaGreatDoor
set_option linter.unusedSimpArgs false
set_option linter.unusedVariables false
namespace Go.Proofs.YtgcpgidofikcdaaGreatDoor
open Go.RowKit Ev
abbrev opV (o:OpT) (y:V):V:=.g [.int .i64 o.kind,.s o.a,.s o.b,.int .i64 o.at_,.int .i64 o.n,y]
section
variable {st:St} {q m n B:Nat} {x:V} {Y Z:Nat → V} {E:Tr} {LB DB:Nat → Prop}
theorem do_any (TG:TrG st q m n x Y Z E LB DB) (O:TOk n B E) (hB:B ≤ 900) (o:OpT) (y:V) (ha:okS o.a) (hb:okS o.b) (hy:RdRow st y 1 o.data.length (yv o.data)) (hyo:∀ b,BlkOf y b → b ≠ q ∧ b ≠ m ∧ ¬ LB b) (hd:o.data.length ≤ 1000000) (h64:-9223372036854775808 ≤ o.at_ ∧ o.at_ ≤ 9223372036854775807) (nt:Nat) :
  Gd (tmF ⟨false,[],0,nt⟩ 12 [.p q 0,opV o y] st) (doR st q m n x (doE n E o) LB DB):=by
 rw [Gd_tmF rfl rfl Tryz.func12 rfl]
 obtain ⟨kind,a,b,at_,on,data⟩:=o
 simp only at ha hb hy hd h64
 have hyone:=hy.one
 obtain ⟨wo,hwo⟩:∃ wo:Ev.B,wo = .cs 33 6 ((((((T.lf.set 0 (V.int .i64 kind)).set 1 (.s a)).set 2 (.s b)).set 3 (.int .i64 at_)).set 4 (.int .i64 on)).set 5 y):=⟨_,rfl⟩
 obtain ⟨w0,hw0⟩:∃ w0:Ev.B,w0 = .cs 30 7 (((((((T.lf.set 0 (V.int .i64 0)).set 1 (V.int .i64 0)).set 2 (V.int .i64 0)).set 3 (V.int .i64 0)).set 4 (V.int .i64 0)).set 5 (.c (.slice none 0 0))).set 6 (.c (.slice none 0 0))):=⟨_,rfl⟩
 have x0:=((Ext.refl st.nx st).new (Nat.le_refl _) wo).new (b:=st.nx) (Nat.le_succ _) w0
 obtain ⟨s0,hs0⟩:∃ s0:St,s0 = ⟨st.nx + 1 + 1,(st.h.set st.nx wo).set (st.nx + 1) w0⟩:=⟨_,rfl⟩
 rw [← hs0] at x0
 have n0:s0.nx = st.nx + 2:=by rw [hs0]
 have ko:s0.h.get st.nx = some wo:=by rw [hs0]; show ((st.h.set st.nx wo).set (st.nx + 1) w0).get st.nx = _; rw [T.get_set_ne _ _ (by omega),T.get_set_same]
 have k0:s0.h.get (st.nx + 1) = some w0:=by rw [hs0]; exact T.get_set_same _ _ _
 have TG0:=TG.ext x0
 have hy0:=hy.ext x0
 have fin:∀ {RE:Rs × Tr} (v:V) (s2:St),doR s0 q m n x RE LB DB (v,s2) → ∃ y2 z2,v = resV RE.1.err RE.1.node RE.1.ty RE.1.links RE.1.size y2 z2 ∧ V.one y2 = true ∧ V.one z2 = true ∧ s2.h.get (st.nx + 1) = some w0 ∧ ∀ w,doR st q m n x RE LB DB (v,⟨s2.nx,s2.h.set (st.nx + 1) w⟩):=fun v s2 hD => by
  obtain ⟨k2,c3⟩:=doR_put TG x0 ⟨Nat.le_succ _,by omega⟩ hD
  obtain ⟨y2,z2,Y2,Z2,LB2,DB2,hr,hy2,hz2,_⟩:=hD
  exact ⟨y2,z2,hr,hy2.one,hz2.one,k2.trans k0,c3⟩
 by_cases c1:kind = 1
 ·have hw:doE n E ⟨kind,a,b,at_,on,data⟩ = makeE n E a 2 []:=by unfold doE; rw [if_pos c1]
  rw [hw]
  subst c1
  simp [evOp_call,sets,T.get_set,newC_is,loadE_eq,getC_eq,cellsOf,hyone]
  rw [← hwo,← hw0,← hs0]
  refine Gd.mono (make_any TG0 O (by omega) a ha 2 (.c (.slice none 0 0)) [] (nil_rd _ _ rfl) (fun b hb => absurd hb (nil_blk b)) rfl (by decide) _) ?_
  rintro ⟨v,s2⟩ hD
  obtain ⟨y2,z2,rfl,hyo2,hzo2,k2,c⟩:=fin v s2 hD
  subst hw0
  simp [evOp_call,sets,T.get_set,k2,storeK_g,putB_eq,roT,cellsOf,loadE_eq,getC_eq,getsB_succ,getsB_zero,hyo2,hzo2]
  exact c _
 by_cases c2:kind = 2
 ·have hw:doE n E ⟨kind,a,b,at_,on,data⟩ = makeE n E a 1 []:=by unfold doE; rw [if_neg c1]; rw [if_pos c2]
  rw [hw]
  subst c2
  simp [evOp_call,sets,T.get_set,newC_is,loadE_eq,getC_eq,cellsOf,hyone]
  rw [← hwo,← hw0,← hs0]
  refine Gd.mono (make_any TG0 O (by omega) a ha 1 (.c (.slice none 0 0)) [] (nil_rd _ _ rfl) (fun b hb => absurd hb (nil_blk b)) rfl (by decide) _) ?_
  rintro ⟨v,s2⟩ hD
  obtain ⟨y2,z2,rfl,hyo2,hzo2,k2,c⟩:=fin v s2 hD
  subst hw0
  simp [evOp_call,sets,T.get_set,k2,storeK_g,putB_eq,roT,cellsOf,loadE_eq,getC_eq,getsB_succ,getsB_zero,hyo2,hzo2]
  exact c _
 by_cases c3:kind = 3
 ·have hw:doE n E ⟨kind,a,b,at_,on,data⟩ = linkE E a b:=by unfold doE; rw [if_neg c1]; rw [if_neg c2]; rw [if_pos c3]
  rw [hw]
  subst c3
  simp [evOp_call,sets,T.get_set,newC_is,loadE_eq,getC_eq,cellsOf,hyone]
  rw [← hwo,← hw0,← hs0]
  refine Gd.mono (link_any TG0 O (by omega) a b ha hb _) ?_
  rintro ⟨v,s2⟩ hD
  obtain ⟨y2,z2,rfl,hyo2,hzo2,k2,c⟩:=fin v s2 hD
  subst hw0
  simp [evOp_call,sets,T.get_set,k2,storeK_g,putB_eq,roT,cellsOf,loadE_eq,getC_eq,getsB_succ,getsB_zero,hyo2,hzo2]
  exact c _
 by_cases c4:kind = 4
 ·have hw:doE n E ⟨kind,a,b,at_,on,data⟩ = unlinkE E a:=by unfold doE; rw [if_neg c1]; rw [if_neg c2]; rw [if_neg c3]; rw [if_pos c4]
  rw [hw]
  subst c4
  simp [evOp_call,sets,T.get_set,newC_is,loadE_eq,getC_eq,cellsOf,hyone]
  rw [← hwo,← hw0,← hs0]
  refine Gd.mono (unlink_any TG0 O (by omega) a ha _) ?_
  rintro ⟨v,s2⟩ hD
  obtain ⟨y2,z2,rfl,hyo2,hzo2,k2,c⟩:=fin v s2 hD
  subst hw0
  simp [evOp_call,sets,T.get_set,k2,storeK_g,putB_eq,roT,cellsOf,loadE_eq,getC_eq,getsB_succ,getsB_zero,hyo2,hzo2]
  exact c _
 by_cases c5:kind = 5
 ·have hw:doE n E ⟨kind,a,b,at_,on,data⟩ = rmdirE E a:=by unfold doE; rw [if_neg c1]; rw [if_neg c2]; rw [if_neg c3]; rw [if_neg c4]; rw [if_pos c5]
  rw [hw]
  subst c5
  simp [evOp_call,sets,T.get_set,newC_is,loadE_eq,getC_eq,cellsOf,hyone]
  rw [← hwo,← hw0,← hs0]
  refine Gd.mono (rmdir_any TG0 O (by omega) a ha _) ?_
  rintro ⟨v,s2⟩ hD
  obtain ⟨y2,z2,rfl,hyo2,hzo2,k2,c⟩:=fin v s2 hD
  subst hw0
  simp [evOp_call,sets,T.get_set,k2,storeK_g,putB_eq,roT,cellsOf,loadE_eq,getC_eq,getsB_succ,getsB_zero,hyo2,hzo2]
  exact c _
 by_cases c6:kind = 6
 ·have hw:doE n E ⟨kind,a,b,at_,on,data⟩ = renameE E a b:=by unfold doE; rw [if_neg c1]; rw [if_neg c2]; rw [if_neg c3]; rw [if_neg c4]; rw [if_neg c5]; rw [if_pos c6]
  rw [hw]
  subst c6
  simp [evOp_call,sets,T.get_set,newC_is,loadE_eq,getC_eq,cellsOf,hyone]
  rw [← hwo,← hw0,← hs0]
  refine Gd.mono (rename_any TG0 O hB a b ha hb _) ?_
  rintro ⟨v,s2⟩ hD
  obtain ⟨y2,z2,rfl,hyo2,hzo2,k2,c⟩:=fin v s2 hD
  subst hw0
  simp [evOp_call,sets,T.get_set,k2,storeK_g,putB_eq,roT,cellsOf,loadE_eq,getC_eq,getsB_succ,getsB_zero,hyo2,hzo2]
  exact c _
 by_cases c7:kind = 7
 ·have hw:doE n E ⟨kind,a,b,at_,on,data⟩ = symlinkE n E a data:=by unfold doE; rw [if_neg c1]; rw [if_neg c2]; rw [if_neg c3]; rw [if_neg c4]; rw [if_neg c5]; rw [if_neg c6]; rw [if_pos c7]
  rw [hw]
  subst c7
  simp [evOp_call,sets,T.get_set,newC_is,loadE_eq,getC_eq,cellsOf,hyone]
  rw [← hwo,← hw0,← hs0]
  refine Gd.mono (symlink_any TG0 O (by omega) a ha y data hy0 (fun b hb => (hyo b hb).1) hd _) ?_
  rintro ⟨v,s2⟩ hD
  obtain ⟨y2,z2,rfl,hyo2,hzo2,k2,c⟩:=fin v s2 hD
  subst hw0
  simp [evOp_call,sets,T.get_set,k2,storeK_g,putB_eq,roT,cellsOf,loadE_eq,getC_eq,getsB_succ,getsB_zero,hyo2,hzo2]
  exact c _
 by_cases c8:kind = 8
 ·have hw:doE n E ⟨kind,a,b,at_,on,data⟩ = readlinkE E a:=by unfold doE; rw [if_neg c1]; rw [if_neg c2]; rw [if_neg c3]; rw [if_neg c4]; rw [if_neg c5]; rw [if_neg c6]; rw [if_neg c7]; rw [if_pos c8]
  rw [hw]
  subst c8
  simp [evOp_call,sets,T.get_set,newC_is,loadE_eq,getC_eq,cellsOf,hyone]
  rw [← hwo,← hw0,← hs0]
  rw [tmF_ne rfl]
  refine Gd.mono (readlink_any TG0 O (by omega) a ha _) ?_
  rintro ⟨v,s2⟩ hD
  obtain ⟨y2,z2,rfl,hyo2,hzo2,k2,c⟩:=fin v s2 hD
  subst hw0
  simp [evOp_call,sets,T.get_set,k2,storeK_g,putB_eq,roT,cellsOf,loadE_eq,getC_eq,getsB_succ,getsB_zero,hyo2,hzo2]
  exact c _
 by_cases c9:kind = 9
 ·have hw:doE n E ⟨kind,a,b,at_,on,data⟩ = readE E a at_ on:=by unfold doE; rw [if_neg c1]; rw [if_neg c2]; rw [if_neg c3]; rw [if_neg c4]; rw [if_neg c5]; rw [if_neg c6]; rw [if_neg c7]; rw [if_neg c8]; rw [if_pos c9]
  rw [hw]
  subst c9
  simp [evOp_call,sets,T.get_set,newC_is,loadE_eq,getC_eq,cellsOf,hyone]
  rw [← hwo,← hw0,← hs0]
  rw [tmF_ne rfl]
  refine Gd.mono (read_any TG0 O (by omega) a ha at_ on _) ?_
  rintro ⟨v,s2⟩ hD
  obtain ⟨y2,z2,rfl,hyo2,hzo2,k2,c⟩:=fin v s2 hD
  subst hw0
  simp [evOp_call,sets,T.get_set,k2,storeK_g,putB_eq,roT,cellsOf,loadE_eq,getC_eq,getsB_succ,getsB_zero,hyo2,hzo2]
  exact c _
 by_cases c10:kind = 10
 ·have hw:doE n E ⟨kind,a,b,at_,on,data⟩ = writeE E a at_ data:=by unfold doE; rw [if_neg c1]; rw [if_neg c2]; rw [if_neg c3]; rw [if_neg c4]; rw [if_neg c5]; rw [if_neg c6]; rw [if_neg c7]; rw [if_neg c8]; rw [if_neg c9]; rw [if_pos c10]
  rw [hw]
  subst c10
  simp [evOp_call,sets,T.get_set,newC_is,loadE_eq,getC_eq,cellsOf,hyone]
  rw [← hwo,← hw0,← hs0]
  rw [tmF_ne rfl]
  refine Gd.mono (write_any TG0 O (by omega) a ha at_ y data hy0 (fun b hb => (hyo b hb).2) hd h64 _) ?_
  rintro ⟨v,s2⟩ hD
  obtain ⟨y2,z2,rfl,hyo2,hzo2,k2,c⟩:=fin v s2 hD
  subst hw0
  simp [evOp_call,sets,T.get_set,k2,storeK_g,putB_eq,roT,cellsOf,loadE_eq,getC_eq,getsB_succ,getsB_zero,hyo2,hzo2]
  exact c _
 by_cases c11:kind = 11
 ·have hw:doE n E ⟨kind,a,b,at_,on,data⟩ = truncE E a on:=by unfold doE; rw [if_neg c1]; rw [if_neg c2]; rw [if_neg c3]; rw [if_neg c4]; rw [if_neg c5]; rw [if_neg c6]; rw [if_neg c7]; rw [if_neg c8]; rw [if_neg c9]; rw [if_neg c10]; rw [if_pos c11]
  rw [hw]
  subst c11
  simp [evOp_call,sets,T.get_set,newC_is,loadE_eq,getC_eq,cellsOf,hyone]
  rw [← hwo,← hw0,← hs0]
  rw [tmF_ne rfl]
  refine Gd.mono (trunc_any TG0 O (by omega) a ha on _) ?_
  rintro ⟨v,s2⟩ hD
  obtain ⟨y2,z2,rfl,hyo2,hzo2,k2,c⟩:=fin v s2 hD
  subst hw0
  simp [evOp_call,sets,T.get_set,k2,storeK_g,putB_eq,roT,cellsOf,loadE_eq,getC_eq,getsB_succ,getsB_zero,hyo2,hzo2]
  exact c _
 by_cases c12:kind = 12
 ·have hw:doE n E ⟨kind,a,b,at_,on,data⟩ = statE E a:=by unfold doE; rw [if_neg c1]; rw [if_neg c2]; rw [if_neg c3]; rw [if_neg c4]; rw [if_neg c5]; rw [if_neg c6]; rw [if_neg c7]; rw [if_neg c8]; rw [if_neg c9]; rw [if_neg c10]; rw [if_neg c11]; rw [if_pos c12]
  rw [hw]
  subst c12
  simp [evOp_call,sets,T.get_set,newC_is,loadE_eq,getC_eq,cellsOf,hyone]
  rw [← hwo,← hw0,← hs0]
  rw [tmF_ne rfl]
  refine Gd.mono (stat_any TG0 O (by omega) a ha _) ?_
  rintro ⟨v,s2⟩ hD
  obtain ⟨y2,z2,rfl,hyo2,hzo2,k2,c⟩:=fin v s2 hD
  subst hw0
  simp [evOp_call,sets,T.get_set,k2,storeK_g,putB_eq,roT,cellsOf,loadE_eq,getC_eq,getsB_succ,getsB_zero,hyo2,hzo2]
  exact c _
 by_cases c13:kind = 13
 ·have hw:doE n E ⟨kind,a,b,at_,on,data⟩ = namesE E a:=by unfold doE; rw [if_neg c1]; rw [if_neg c2]; rw [if_neg c3]; rw [if_neg c4]; rw [if_neg c5]; rw [if_neg c6]; rw [if_neg c7]; rw [if_neg c8]; rw [if_neg c9]; rw [if_neg c10]; rw [if_neg c11]; rw [if_neg c12]; rw [if_pos c13]
  rw [hw]
  subst c13
  simp [evOp_call,sets,T.get_set,newC_is,loadE_eq,getC_eq,cellsOf,hyone]
  rw [← hwo,← hw0,← hs0]
  refine Gd.mono (names_any TG0 O (by omega) a ha _) ?_
  rintro ⟨v,s2⟩ hD
  obtain ⟨y2,z2,rfl,hyo2,hzo2,k2,c⟩:=fin v s2 hD
  subst hw0
  simp [evOp_call,sets,T.get_set,k2,storeK_g,putB_eq,roT,cellsOf,loadE_eq,getC_eq,getsB_succ,getsB_zero,hyo2,hzo2]
  exact c _
 have hw:doE n E ⟨kind,a,b,at_,on,data⟩ = (refR 1,E):=by unfold doE; rw [if_neg c1]; rw [if_neg c2]; rw [if_neg c3]; rw [if_neg c4]; rw [if_neg c5]; rw [if_neg c6]; rw [if_neg c7]; rw [if_neg c8]; rw [if_neg c9]; rw [if_neg c10]; rw [if_neg c11]; rw [if_neg c12]; rw [if_neg c13]
 rw [hw]
 simp [evOp_call,sets,T.get_set,newC_is,loadE_eq,getC_eq,cellsOf,hyone,c1,c2,c3,c4,c5,c6,c7,c8,c9,c10,c11,c12,c13]
 rw [← hwo,← hw0,← hs0]
 rw [tmF_ne rfl]
 refine Gd.mono (refuse_any s0 1 _) ?_
 rintro ⟨v,s2⟩ ⟨hv,x2⟩
 simp only at hv x2
 subst hv
 have k2:=(x2.keep (st.nx + 1) (by omega)).trans k0
 subst hw0
 simp [evOp_call,sets,T.get_set,k2,storeK_g,putB_eq,roT,cellsOf,loadE_eq,getC_eq,getsB_succ,getsB_zero]
 exact doR_ref TG ((x0.trans (x2.mono (by omega))).set (Nat.le_succ _) (by have:=x2.le; omega) _) _
end
end Go.Proofs.YtgcpgidofikcdaaGreatDoor

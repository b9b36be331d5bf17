/-
  Contracts of package strings: Split.
-/
import Derived.Test.YtgcpgidofikcdaaGreatDoorPaA
set_option maxRecDepth 20000
set_option maxHeartbeats 2000000
set_option linter.unusedSimpArgs false
namespace Go.Proofs.YtgcpgidofikcdaaGreatDoor
open Go.RowKit Ev
def sv (L:List Tx):List V:=L.map V.s
@[simp] theorem sv_length (L:List Tx):(sv L).length = L.length:=by simp [sv]
theorem sv_get {L:List Tx} {i:Nat} {p:Tx} (h:L[i]? = some p):(sv L)[i]? = some (.s p):=by unfold sv; rw [List.getElem?_map,h]; rfl
theorem sv_of {L:List Tx} {i:Nat} {v:V} (h:(sv L)[i]? = some v):∃ p,L[i]? = some p ∧ v = .s p:=by
 unfold sv at h
 rw [List.getElem?_map] at h
 cases hp:L[i]? with
 | none => rw [hp] at h; simp at h
 | some p => rw [hp] at h; simp at h; exact ⟨p,rfl,h.symm⟩
theorem spl_cut {r:Tx} (h:47 ∈ r):∃ k,fidx 47 r = some k ∧ k < r.length ∧ spl r = r.take k :: spl (r.drop (k + 1)):=by
 cases hk:fidx 47 r with
 | none => exact absurd h (fidx_none hk)
 | some k =>
  obtain ⟨h1,h2⟩:=fidx_some hk
  have hlt:=(List.getElem?_eq_some_iff.1 h1).1
  refine ⟨k,rfl,hlt,?_⟩
  have e:r = r.take k ++ 47 :: r.drop (k + 1):=by
   have h47:r[k] = 47:=by rw [List.getElem?_eq_getElem hlt] at h1; injection h1
   rw [← h47,List.getElem_cons_drop,List.take_append_drop]
  conv => lhs; rw [e]
  exact spl_part _ _ h2
theorem spl_one {r:Tx} (h:(spl r).length = 1):spl r = [r]:=by
 refine spl_last r fun hm => ?_
 rw [spl_count] at h
 have:=List.count_pos_iff.2 hm
 omega
def gsI (st:St) (q:Nat) (ty:TypeId) (L:List Tx) (e:Env) (s:St):Prop:=∃ (i:Nat) (r:Tx),i < L.length ∧ e.get 0 = some (.s r) ∧ e.get 1 = some (.s [47]) ∧ e.get 2 = some (.int .i64 0) ∧ e.get 3 = some (.int .i64 ((L.length - 1:Nat):Int)) ∧ e.get 9 = some (.sl q 0 L.length L.length) ∧ e.get 10 = some (.int .i64 (i:Int)) ∧
 L = L.take i ++ spl r ∧ okS r ∧ r.length ≤ 1000000 ∧ Ext st.nx st s ∧ q = st.nx ∧ q < s.nx ∧ ∃ t,s.h.get q = some (.cs ty L.length t) ∧ ∀ j p,j < i → L[j]? = some p → t.get j = some (.s p)
theorem genSplit_any (st:St) (s:Tx) (hs:okS s) (hl:s.length ≤ 1000000) (nt:Nat) :
  Gd (callL Tryz.prog ⟨false,[],0,nt⟩ 269 [.s s,.s [47],.int .i64 0,.int .i64 (-1)] st) fun r => RdRow r.2 r.1 1 (spl s).length (sv (spl s)) ∧ (∃ m,r.1 = .sl m 0 (spl s).length (spl s).length) ∧ Ext st.nx st r.2:=by
 rw [Gd_callL Tryz.func269 rfl]
 simp [evOp_call,sets,T.get_set]
 refine Gd.mono (count_any _ st s hs 47 (by omega)) ?_
 rintro _ rfl
 have hcl:s.count 47 ≤ s.length:=List.count_le_length
 have hN:=spl_count s
 have hN1:(spl s).length ≤ 1000001:=by omega
 obtain ⟨N,hNd⟩:∃ N,N = (spl s).length:=⟨_,rfl⟩
 have w1:IntKind.i64.wrap ((s.count 47:Nat) + 1:Int) = (N:Int):=by rw [show ((s.count 47:Nat) + 1:Int) = (N:Int) by omega]; exact wrap_in (by omega) (by omega)
 have w2:IntKind.i64.wrap ((s.length:Int) + 1) = (s.length:Int) + 1:=wrap_in (by omega) (by omega)
 have hm:¬ ((s.length:Int) + 1 < (N:Int)):=by omega
 have hm2:¬ ((s.length:Int) + 1 < ((spl s).length:Int)):=by omega
 simp [evOp_call,evOp_min,min_i64,sets,T.get_set,w1,w2,len_str un9,hm]
 refine Gd_make (i:=.i64) (i':=.i64) (n:=N) (q:=N) (fun k => el28 k) io9 (fun k => ze9 k) (by simp [T.get_set,hm]) (by simp [T.get_set,hm]) (Nat.le_refl _) (by omega) ?_
 have w3:IntKind.i64.wrap ((N:Int) - 1) = ((N - 1:Nat):Int):=by rw [show ((N:Int) - 1) = ((N - 1:Nat):Int) by omega]; exact wrap_in (by omega) (by omega)
 simp [evOp_call,sets,T.get_set,w3]
 have hrl:(rep [V.s []] N).length = N:=by rw [rep_one]; simp
 refine Gd_loop (gsI st st.nx 9 (spl s)) (fun en _ => muAt 10 N en) ?_ ?_
 ·refine ⟨0,s,by omega,by simp [T.get_set],by simp [T.get_set],by simp [T.get_set],by simp [T.get_set,hm,w3,← hNd],by simp [T.get_set,hNd],by simp [T.get_set],by simp,hs,hl,(Ext.refl _ _).new (Nat.le_refl _) _,rfl,Nat.lt_succ_self _,?_⟩
  refine ⟨_,by rw [← hNd]; show (st.h.set st.nx _).get st.nx = _; rw [T.get_set_same,hrl],fun j p hj => by omega⟩
 ·rintro en sx ⟨i,r,hi,g0,g1,g2,g3,g9,g10,hL,hr,hrl2,hx,hq,hqs,t,ht,hcell⟩
  have hrlen:(spl r).length = (spl s).length - i:=by
   have:=congrArg List.length hL
   rw [List.length_append,List.length_take] at this
   omega
  by_cases hlt:i < (spl s).length - 1
  ·have hlt':(i:Int) < (((spl s).length - 1:Nat):Int):=by omega
   have h47:47 ∈ r:=by
    have:=spl_count r
    exact List.count_pos_iff.1 (by omega)
   obtain ⟨k,hk,hkl,hcut⟩:=spl_cut h47
   have hkI:idxI 47 r = (k:Int):=by unfold idxI; rw [hk]
   simp [evOp_call,T.get_set,g0,g1,g2,g3,g9,g10,hlt']
   refine Gd.mono (index_any _ sx r hr 47 (by omega)) ?_
   rintro _ rfl
   rw [hkI]
   have w4:IntKind.i64.wrap (k:Int) = (k:Int):=wrap_in (by omega) (by omega)
   obtain ⟨k1,hk1⟩:∃ k1,k1 = k + 1:=⟨_,rfl⟩
   obtain ⟨i1,hi1⟩:∃ i1,i1 = i + 1:=⟨_,rfl⟩
   have w5:IntKind.i64.wrap ((k:Int) + 1) = (k1:Int):=by rw [show ((k:Int) + 1) = (k1:Int) by omega]; exact wrap_in (by omega) (by omega)
   have w6:IntKind.i64.wrap ((i:Int) + 1) = (i1:Int):=by rw [show ((i:Int) + 1) = (i1:Int) by omega]; exact wrap_in (by omega) (by omega)
   have hle1:i + 1 ≤ (spl s).length:=hi
   have hk0:¬ (k:Int) < 0:=by omega
   have hpi:(spl s)[i]? = some (r.take k):=by
    rw [hL,List.getElem?_append_right (by rw [List.length_take]; omega),List.length_take,hcut]
    rw [show i - min i (spl s).length = 0 by omega]
    rfl
   simp [evOp_call,T.get_set,g0,g1,g2,g3,g9,g10,hk0,w4]
   refine Gd_strHi (k:=k) (i:=.i64) un9 (by simp [T.get_set,w4]) (by omega) ?_
   simp [evOp_call,T.get_set,g0,g1,g2,g3,g9,g10,hk0,w4,hi,hle1,putB_eq,ht,roT,sets,w5]
   refine Gd_strLo (k:=k1) (i:=.i64) un9 (by simp [T.get_set,w5]) (by omega) ?_
   simp [evOp_call,T.get_set,g0,g1,g2,g3,g9,g10,w6]
   subst hi1 hk1
   have hL2:spl s = (spl s).take (i + 1) ++ spl (r.drop (k + 1)):=by
    rw [List.take_add_one,hpi]
    rw [hcut] at hL
    simpa using hL
   refine ⟨⟨i + 1,r.drop (k + 1),by omega,by simp [T.get_set],by simp [T.get_set,g1],by simp [T.get_set,g2],by simp [T.get_set,g3],by simp [T.get_set,g9],by simp [T.get_set],hL2,hr.drop _,by rw [List.length_drop]; omega,hx.set (Nat.le_refl _) hqs _,rfl,hqs,_,T.get_set_same _ _ _,fun j p hj hp => ?_⟩,muAt_lt g10 (by simp [T.get_set]) (by omega)⟩
   rw [T.get_set]
   by_cases hji:i = j
   ·subst hji
    rw [if_pos rfl]
    rw [hpi] at hp
    injection hp with hp
    rw [hp]
   ·rw [if_neg hji]
    exact hcell j p (by omega) hp
  ·have hle1:i + 1 ≤ (spl s).length:=hi
   have hie:i = (spl s).length - 1:=by omega
   have hlt':¬ (i:Int) < (((spl s).length - 1:Nat):Int):=by omega
   have hone:spl r = [r]:=spl_one (by omega)
   have hpi:(spl s)[i]? = some r:=by
    rw [hL,List.getElem?_append_right (by rw [List.length_take]; omega),List.length_take,hone]
    rw [show i - min i (spl s).length = 0 by omega]
    rfl
   have w6:IntKind.i64.wrap ((i:Int) + 1) = ((spl s).length:Int):=by rw [show ((i:Int) + 1) = ((spl s).length:Int) by omega]; exact wrap_in (by omega) (by omega)
   simp [evOp_call,T.get_set,g0,g1,g2,g3,g9,g10,hlt',hi,hle1,putB_eq,ht,roT,sets,w6]
   unfold sliceK
   rw [sliceE_hiS un28 io9 (k:=(spl s).length) (i:=.i64) (by simp [T.get_set]) _ _ _ _ (Nat.le_refl _)]
   simp [evOp_call,T.get_set]
   refine ⟨⟨by simp,.inr (.inl ⟨st.nx,0,_,_,_,_,rfl,hqs,T.get_set_same _ _ _,by omega,fun j v hj => ?_⟩)⟩,hx.set (Nat.le_refl _) hqs _⟩
   obtain ⟨p,hp,rfl⟩:=sv_of hj
   rw [Nat.zero_add,T.get_set]
   by_cases hji:i = j
   ·subst hji
    rw [if_pos rfl]
    rw [hpi] at hp
    injection hp with hp
    rw [hp]
   ·rw [if_neg hji]
    have:=(List.getElem?_eq_some_iff.1 hp).1
    exact hcell j p (by omega) hp
theorem split_any (st:St) (s:Tx) (hs:okS s) (hl:s.length ≤ 1000000) (nt:Nat) :
  Gd (callL Tryz.prog ⟨false,[],0,nt⟩ 229 [.s s,.s [47]] st) fun r => RdRow r.2 r.1 1 (spl s).length (sv (spl s)) ∧ (∃ m,r.1 = .sl m 0 (spl s).length (spl s).length) ∧ Ext st.nx st r.2:=by
 rw [Gd_callL Tryz.func229 rfl]
 simp [evOp_call,sets,T.get_set]
 refine Gd.mono (genSplit_any st s hs hl _) ?_
 rintro ⟨r,s1⟩ ⟨h1,⟨m,h2⟩,h3⟩
 simp only at h1 h2 h3
 simp [evOp_call,sets,T.get_set]
 exact ⟨h1,⟨m,h2⟩,h3⟩
end Go.Proofs.YtgcpgidofikcdaaGreatDoor

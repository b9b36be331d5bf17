/-
  PLAIN: TyIns, InzN, InzS, in one text.
-/
import Derived.Test.YtgcpgidofikcdaaGreatDoorChecked
import Derived.Test.YtgcpgidofikcdaaGreatDoorSb
import Derived.Test.YtgcpgidofikcdaaGreatDoorInsK
set_option maxRecDepth 20000
set_option maxHeartbeats 8000000
namespace Go.Proofs.YtgcpgidofikcdaaGreatDoor
open Go.RowKit Ev
@[simp] theorem nt120:Tryz.f120.ntmps = 95:=rfl
@[simp] theorem rs120:Tryz.f120.results.toList = [.tmp 6]:=rfl
@[simp] theorem xt120:ext? Tryz.prog 120 = none:=by kernel_rfl
@[simp] theorem nt177:Tryz.f177.ntmps = 95:=rfl
@[simp] theorem rs177:Tryz.f177.results.toList = [.tmp 6]:=rfl
@[simp] theorem xt177:ext? Tryz.prog 177 = none:=by kernel_rfl
@[simp] theorem nt184:Tryz.f184.ntmps = 2:=rfl
@[simp] theorem nt185:Tryz.f185.ntmps = 10:=rfl
@[simp] theorem rs185:Tryz.f185.results.toList = []:=rfl
@[simp] theorem nt227:Tryz.f227.ntmps = 2:=rfl
@[simp] theorem nt228:Tryz.f228.ntmps = 10:=rfl
@[simp] theorem rs228:Tryz.f228.results.toList = []:=rfl
@[simp] theorem nt233:Tryz.f233.ntmps = 14:=rfl
@[simp] theorem rs233:Tryz.f233.results.toList = []:=rfl
@[simp] theorem nt268:Tryz.f268.ntmps = 14:=rfl
@[simp] theorem rs268:Tryz.f268.results.toList = []:=rfl
@[simp] theorem nt271:Tryz.f271.ntmps = 28:=rfl
@[simp] theorem rs271:Tryz.f271.results.toList = []:=rfl
@[simp] theorem nt285:Tryz.f285.ntmps = 28:=rfl
@[simp] theorem rs285:Tryz.f285.results.toList = []:=rfl
@[simp] theorem ag3:agg? Tryz.prog 3 = some false:=by kernel_rfl
@[simp] theorem sz3 {β:Type} (k:Nat → Option β):szOf Tryz.prog 3 k = k 1:=by kernel_rfl
@[simp] theorem ag9:agg? Tryz.prog 9 = some false:=by kernel_rfl
@[simp] theorem sz9 {β:Type} (k:Nat → Option β):szOf Tryz.prog 9 k = k 1:=by kernel_rfl
@[simp] theorem ze9 {β:Type} (k:List V → Option β):zero Tryz.prog 9 k = k [.s []]:=by kernel_rfl
theorem io9:infoOk Tryz.prog 9 1 = true:=by kernel_rfl
@[simp] theorem ag28:agg? Tryz.prog 28 = some false:=by kernel_rfl
@[simp] theorem sz28 {β:Type} (k:Nat → Option β):szOf Tryz.prog 28 k = k 1:=by kernel_rfl
@[simp] theorem ag90:agg? Tryz.prog 90 = some false:=by kernel_rfl
@[simp] theorem sz90 {β:Type} (k:Nat → Option β):szOf Tryz.prog 90 k = k 1:=by kernel_rfl
@[simp] theorem ag109:agg? Tryz.prog 109 = some true:=by kernel_rfl
@[simp] theorem sz109 {β:Type} (k:Nat → Option β):szOf Tryz.prog 109 k = k 2:=by kernel_rfl
@[simp] theorem ze109 {β:Type} (k:List V → Option β):zero Tryz.prog 109 k = k [.s [],.int .i64 0]:=by kernel_rfl
theorem io109:infoOk Tryz.prog 109 2 = true:=by kernel_rfl
@[simp] theorem un3:Tryz.prog.underlying 3 = some (.int .i64):=by kernel_rfl
@[simp] theorem un9:Tryz.prog.underlying 9 = some .string:=by kernel_rfl
@[simp] theorem un28:Tryz.prog.underlying 28 = some (.slice 9):=by kernel_rfl
@[simp] theorem ln28 (c:Cx) (st:St) (x:V):builtinE Tryz.prog c .len [28] [x] st = lenS st x:=len_slice un28 x
@[simp] theorem ix28 {β:Type} (m o len cap i:Nat) (k:V → Option β):idxE Tryz.prog 28 (.sl m o len cap) i k = if i < len then k (.p m (o + i * 1)) else none:=idxE_sl un28 (fun k => sz9 k) m o len cap i k
@[simp] theorem iy28 {β:Type} (m o len w i:Nat) (k:V → Option β):idxE Tryz.prog 28 (.sg m o len w) i k = if i < len then k (.p m (o + i * 1)) else none:=idxE_sg un28 (fun k => sz9 k) m o len w i k
@[simp] theorem el28 {β:Type} (k:TypeId → Nat → Option β):Ev.elemOf Tryz.prog 28 k = k 9 1:=by kernel_rfl
@[simp] theorem un90:Tryz.prog.underlying 90 = some (.slice 109):=by kernel_rfl
@[simp] theorem ln90 (c:Cx) (st:St) (x:V):builtinE Tryz.prog c .len [90] [x] st = lenS st x:=len_slice un90 x
@[simp] theorem iy90 {β:Type} (m o len w i:Nat) (k:V → Option β):idxE Tryz.prog 90 (.sg m o len w) i k = if i < len then k (.p m (o + i * 2)) else none:=idxE_sg un90 (fun k => sz109 k) m o len w i k
@[simp] theorem el90 {β:Type} (k:TypeId → Nat → Option β):Ev.elemOf Tryz.prog 90 k = k 109 2:=by kernel_rfl
theorem so109:structOk Tryz.prog 109 [(0,1),(1,1)] = true:=by kernel_rfl
@[simp] theorem bl109 (x0 x1:Operand) (a0 a1:V) (st:St) (h0:a0.one = true) (h1:a1.one = true):bldK Tryz.prog 109 [(0,x0),(1,x1)] [a0,a1] [.s [],.int .i64 0] st = some (.g [a0,a1],st):=by
 rw [bldK_ok so109,partsK_one rfl h0 (by simp),partsK_one rfl h1 (by simp)]; rfl
@[simp] theorem fk109_0 (k:Nat → Nat → Res):fieldK Tryz.prog 109 0 k = k 1 0:=by kernel_rfl
@[simp] theorem fk109_1 (k:Nat → Nat → Res):fieldK Tryz.prog 109 1 k = k 1 1:=by kernel_rfl
end Go.Proofs.YtgcpgidofikcdaaGreatDoor
set_option linter.unusedSimpArgs false
set_option linter.unusedVariables false
namespace Go.Proofs.YtgcpgidofikcdaaGreatDoor
open Go.RowKit Ev
theorem ovN:(ext? Tryz.prog 227).isSome = true:=by kernel_rfl
theorem ovKN:xKind Tryz.prog 227 = 2:=by kernel_rfl
theorem ovAN:ovArg Tryz.prog 227 = true:=by kernel_rfl
theorem wrap_n {a:Nat} (h:a ≤ 2000000):IntKind.i64.wrap (a:Int) = (a:Int):=wrap_in (by omega) (by omega)
theorem insC_N:InsC (callL Tryz.prog) 177 2:=by
 suffices hall:∀ z,z = 2 → InsC (callL Tryz.prog) 177 z from hall 2 rfl
 intro z hz
 have hio:infoOk Tryz.prog 109 z = true:=by rw [hz]; exact io109
 have hz1:1 ≤ z:=by omega
 have hzl:∃ zs:List V,zs.length = z ∧ ∀ kk:List V → Res,zero Tryz.prog 109 kk = kk zs:=⟨_,by rw [hz]; rfl,fun kk => ze109 kk⟩
 clear hz
 obtain ⟨zs,hzs,hze⟩:=hzl
 intro wb nt st m n i b o k q cap ty s0 ty' sz' tr tr' old new hm hb hwb hi hmb hk hmax hcap hs0 g2 hro gb hb1 hb2 hsz o1 o2 n1 n2 oo no
 have hu:=un90
 have e1:n * z + k * z = (n + k) * z:=(Nat.add_mul ..).symm
 have e2:i * z ≤ n * z:=Nat.mul_le_mul_right z hi
 have e3:i * z + k * z = (i + k) * z:=(Nat.add_mul ..).symm
 have e4:(n - i) * z = n * z - i * z:=Nat.sub_mul ..
 have e5:n * z ≤ cap * z:=Nat.mul_le_mul_right z hcap
 have e6:n + k ≤ cap → (n + k) * z ≤ cap * z:=Nat.mul_le_mul_right z
 have e7:1 * 1 ≤ k * z:=Nat.mul_le_mul hk hz1
 have e8:i < n → (i + 1) * z ≤ n * z:=Nat.mul_le_mul_right z
 have e9:(i + 1) * z = i * z + z:=Nat.succ_mul ..
 generalize hRR:InsR st m n k cap ty z s0 (insL (i * z) old new) = RR
 rw [Gd_callL Tryz.func177 rfl]
 have hnl:∀ s:St,lenS s (.sl m 0 n cap) = some (.int .i64 (n:Int),s):=fun _ => rfl
 have hkl:∀ s:St,lenS s (.sl b o k q) = some (.int .i64 (k:Int),s):=fun _ => rfl
 have hk0:¬ k = 0:=by omega
 have hlb:∀ kk:Nat → Res,lenA (.sl b o k q) kk = kk k:=fun _ => rfl
 have hns:∀ s',V.sl b o k q ≠ .s s':=fun _ h => by cases h
 have hfn:∀ (c:Cx) (s:St),c.ok b = true → s.h.get b = some (.cs ty' sz' tr') → ∀ kk:List V → Res,firsts c s z k (.sl b o k q) kk = kk new:=fun c s h1 h2 kk => firsts_cs h1 h2 (Nat.le_refl _) n1 n2 kk
 have hnk:IntKind.i64.wrap ((n:Int) + (k:Int)) = ((n + k:Nat):Int):=by rw [← Int.natCast_add]; exact wrap_n (by omega)
 have hik:IntKind.i64.wrap ((i:Int) + (k:Int)) = ((i + k:Nat):Int):=by rw [← Int.natCast_add]; exact wrap_n (by omega)
 have hnki:IntKind.i64.wrap ((n:Int) + (k:Int) - (i:Int)) = ((n + k - i:Nat):Int):=by rw [show (n:Int) + (k:Int) - (i:Int) = ((n + k - i:Nat):Int) by omega]; exact wrap_n (by omega)
 simp [evOp_call,sets,T.get_set,hnl,hkl,hk0]
 obtain ⟨v1,hv1⟩:=sl_any (P:=Tryz.prog) (c:=⟨false,[],wb,95⟩) (st:=st) (m:=m) (o:=0) (len:=n) (cap:=cap) (k:=i) (e:=((((((T.lf.set 0 (V.sl m 0 n cap)).set 1 (V.int IntKind.i64 ↑i)).set 2 (V.sl b o k q)).set 6 (V.c (Value.slice none 0 0))).set 10 (V.sl m 0 n cap)).set 11 (V.int IntKind.i64 ↑i))) (x:=.tmp 11) (i:=.i64) hu hio (by simp [T.get_set]) hi hcap
 rw [hv1]
 simp [evOp_call,sets,T.get_set,hnl,hkl,hk0]
 have hcs:∀ s:St,builtinE Tryz.prog ⟨false,[],wb,95⟩ .cap [90] [.sl m 0 n cap] s = some (.int .i64 (cap:Int),s):=fun s => cap_sl hu hio
 by_cases hin:i = n
 ·subst hin
  simp [evOp_call,sets,T.get_set,hnl,hkl,hk0]
  have hrw:insL (i * z) old new = old ++ new:=ins_end o1.symm
  have hol:∀ kk:List V → Res,firsts ⟨false,[],wb,95⟩ st z i (.sl m 0 i cap) kk = kk old:=fun kk => firsts_cs rfl g2 (Nat.le_refl _) o1 (fun j a h => by rw [Nat.zero_add]; exact o2 j a h) kk
  by_cases hroom:i + k ≤ cap
  ·have e6:=e6 hroom
   rw [app_room hu hu hio hns hlb (hfn _ _ rfl gb) (by omega) hroom rfl hwb g2 hro (by omega)]
   simp [evOp_call,sets,T.get_set]
   rw [← hRR]
   refine ⟨Nat.le_refl _,by show st.nx ≤ st.nx + 2; omega,fun p hp hne => T.get_set_ne _ _ (fun e => hne e.symm),.inl ⟨hroom,rfl,_,T.get_set_same _ _ _,fun j a h => ?_⟩⟩
   rw [hrw] at h
   exact app_get o1.symm o2 h
  ·rw [app_none hu hu hio hns hlb (hfn _ _ rfl gb) (by omega) (by omega) hol]
   simp [evOp_call,sets,T.get_set]
   rw [← hRR]
   refine ⟨by show st.nx ≤ st.nx + 1; omega,by show st.nx + 1 ≤ st.nx + 2; omega,fun p hp hne => T.get_set_ne _ _ (by omega),.inr ⟨st.nx,_,_,_,Nat.le_refl _,Nat.lt_succ_self _,rfl,T.get_set_same _ _ _,by decide,by omega,fun j a h => ?_⟩⟩
   rw [hrw] at h
   rw [get_sets,if_pos ⟨Nat.zero_le _,by have:=(List.getElem?_eq_some_iff.1 h).1; omega⟩]
   exact h
 ·have hin':¬ (i:Int) = (n:Int):=by omega
  have hin2:i < n:=by omega
  by_cases hroom:n + k ≤ cap
  ·have d1:¬ ((cap:Int) < (n:Int) + (k:Int)):=by omega
   simp [evOp_call,sets,T.get_set,hnl,hkl,hk0,hin,hin',hcs,hnk,d1]
   rw [sl_hi (k:=n + k) (i:=.i64) hu hio (by simp [T.get_set]) hroom]
   simp [evOp_call,sets,T.get_set,hnl,hkl,hk0,hik]
   rw [sl_lo (k:=i + k) (i:=.i64) hu hio (by simp [T.get_set]) (by omega) hroom (by omega)]
   simp [evOp_call,sets,T.get_set,hnl,hkl,hk0,hik]
   have e6:=e6 hroom
   rw [ext_over (b:=b) (o:=o) (k:=k) (q:=q) (m:=m) (u:=0 + (i + k) * z) (l:=n + k - (i + k)) (r:=cap - (i + k)) ovN ovKN ovAN (by simp [T.get_set]) (by simp [T.get_set]) (fun e => hmb e.symm) hk (by omega) rfl rfl gb g2 hb1 hb2 hro hsz (by omega)]
   simp [evOp_call,sets,T.get_set,hnl,hkl,hk0,hik]
   refine ⟨by kernel_rfl,?_⟩
   rw [sl_lo (k:=i + k) (i:=.i64) hu hio (by simp [T.get_set]) (by omega) hroom (by omega)]
   simp [evOp_call,sets,T.get_set,hnl,hkl,hk0,hik]
   rw [sl_lo (k:=i) (i:=.i64) hu hio (by simp [T.get_set]) (by omega) hroom (by omega)]
   simp [evOp_call,sets,T.get_set,hnl,hkl,hk0,hik]
   have hol:∀ kk:List V → Res,firsts ⟨false,[],wb,95⟩ st z (n - i) (.sl m (i * z) (n + k - i) (cap - i)) kk = kk (old.drop (i * z)):=fun kk => firsts_cs rfl g2 (by omega) (by rw [List.length_drop]; omega) (fun j a h => by
    rw [List.getElem?_drop] at h
    exact o2 _ a h) kk
   rw [cxOf_call (by kernel_rfl) (by kernel_rfl),forb_nil,copy_d (lx:=n + k - i) (n:=n - i) hu hio (fun _ => rfl) (by show min _ _ = _; omega) hol rfl hwb g2 hro (by rw [List.length_drop]; omega)]
   simp [evOp_call,sets,T.get_set,hnl,hkl,hk0,hik]
   rw [sl_lo (k:=i) (i:=.i64) hu hio (by simp [T.get_set]) (by omega) hroom (by omega)]
   simp [evOp_call,sets,T.get_set,hnl,hkl,hk0,hik]
   rw [copy_d (lx:=k) (n:=k) hu hio hlb (by show min _ _ = _; omega) (hfn _ _ rfl (by rw [T.get_set_ne _ _ hmb]; exact gb)) rfl hwb (T.get_set_same _ _ _) hro (by omega)]
   simp [evOp_call,sets,T.get_set,hnl,hkl,hk0,hik]
   rw [← hRR]
   refine ⟨Nat.le_refl _,by show st.nx ≤ st.nx + 2; omega,fun p hp hne => ?_,.inl ⟨hroom,rfl,_,T.get_set_same _ _ _,fun j a h => ?_⟩⟩
   ·simp [T.get_set,show ¬ m = p from fun e => hne e.symm]
   ·have:=ins_get (tr:=tr) (by omega) (fun j a _ h => o2 j a h) h
    rw [n1,e3] at this
    exact this
  ·have d1:(cap:Int) < (n:Int) + (k:Int):=by omega
   simp [evOp_call,sets,T.get_set,hnl,hkl,hk0,hin,hin',hcs,hnk,d1]
   have hol:∀ kk:List V → Res,firsts ⟨false,[],wb,95⟩ st z i (.sl m 0 i cap) kk = kk (old.take (i * z)):=fun kk => firsts_cs rfl g2 (Nat.le_refl _) (by rw [List.length_take]; omega) (fun j a h => by
    rw [List.getElem?_take] at h
    split at h
    ·rw [Nat.zero_add]; exact o2 j a h
    ·cases h) kk
   rw [sl_hi (k:=i) (i:=.i64) hu hio (by simp [T.get_set]) (by omega)]
   simp [evOp_call,sets,T.get_set,hnl,hkl,hk0,hik,hnk,hnki]
   rw [app_mk (lx:=n + k - i) hu un3 hio hze (by omega) (by omega) hol]
   simp [evOp_call,sets,T.get_set,hnl,hkl,hk0,hik,hnk,hnki]
   have e10:i + (n + k - i) = n + k:=by omega
   rw [e10]
   have hl0:(old.take (i * z) ++ rep zs (n + k - i)).length = (n + k) * z:=by
    rw [List.length_append,List.length_take,rep_length,hzs,Nat.sub_mul]; omega
   have hl1:min (i * z) old.length + (rep zs (n + k - i)).length = (n + k) * z:=by rw [← hl0,List.length_append,List.length_take]
   rw [hl1]
   have hne1:¬ st.nx = m:=by omega
   have hne2:¬ st.nx = b:=by omega
   rw [sg_lo (k:=i) (i:=.i64) hu hio (by simp [T.get_set]) (by omega)]
   simp [evOp_call,sets,T.get_set,hnl,hkl,hk0,hik]
   rw [copy_g (lx:=k) (n:=k) hu hio hlb (by show min _ _ = _; omega) (hfn _ _ rfl (by rw [T.get_set_ne _ _ hne2]; exact gb)) rfl (show wb ≤ st.nx by omega) (T.get_set_same _ _ _) (by decide) (by omega)]
   simp [evOp_call,sets,T.get_set,hnl,hkl,hk0,hik]
   refine ⟨by kernel_rfl,?_⟩
   rw [sg_lo (k:=i + k) (i:=.i64) hu hio (by simp [T.get_set]) (by omega)]
   simp [evOp_call,sets,T.get_set,hnl,hkl,hk0,hik]
   rw [sl_lo (k:=i) (i:=.i64) hu hio (by simp [T.get_set]) (by omega) hcap (by omega)]
   simp [evOp_call,sets,T.get_set,hnl,hkl,hk0,hik]
   have g3:(st.h.set st.nx (B.cs 109 ((n + k) * z) (sets new (i * z) (sets (List.take (i * z) old ++ rep zs (n + k - i)) 0 T.lf)))).get m = some (.cs ty s0 tr):=(T.get_set_ne _ _ hne1).trans g2
   have hol2:∀ kk:List V → Res,firsts ⟨false,[],wb,95⟩ ⟨st.nx + 1,st.h.set st.nx (B.cs 109 ((n + k) * z) (sets new (i * z) (sets (List.take (i * z) old ++ rep zs (n + k - i)) 0 T.lf)))⟩ z (n - i) (.sl m (i * z) (n - i) (cap - i)) kk = kk (old.drop (i * z)):=fun kk => firsts_cs rfl g3 (by omega) (by rw [List.length_drop]; omega) (fun j a h => by
    rw [List.getElem?_drop] at h
    exact o2 _ a h) kk
   rw [cxOf_call (by kernel_rfl) (by kernel_rfl),forb_nil,copy_g (lx:=n - i) (n:=n - i) hu hio (fun _ => rfl) (by show min _ _ = _; omega) hol2 rfl (show wb ≤ st.nx by omega) (T.get_set_same _ _ _) (by decide) (by rw [List.length_drop]; omega)]
   simp [evOp_call,sets,T.get_set,hnl,hkl,hk0,hik]
   rw [← hRR]
   refine ⟨by show st.nx ≤ st.nx + 1; omega,by show st.nx + 1 ≤ st.nx + 2; omega,fun p hp hne => ?_,.inr ⟨st.nx,_,_,_,Nat.le_refl _,Nat.lt_succ_self _,rfl,T.get_set_same _ _ _,by decide,Nat.le_refl _,fun j a h => ?_⟩⟩
   ·simp [T.get_set,show ¬ st.nx = p by omega]
   ·have:=ins_get' (tr:=sets (List.take (i * z) old ++ rep zs (n + k - i)) 0 T.lf) (by omega) (fun j a hj h => ?_) h
    ·rw [n1,e3] at this
     exact this
    ·rw [get_sets,if_pos ⟨Nat.zero_le _,by omega⟩,Nat.sub_zero,List.getElem?_append_left (by rw [List.length_take]; omega),List.getElem?_take,if_pos hj]
     exact h
end Go.Proofs.YtgcpgidofikcdaaGreatDoor
set_option linter.unusedSimpArgs false
set_option linter.unusedVariables false
namespace Go.Proofs.YtgcpgidofikcdaaGreatDoor
open Go.RowKit Ev
theorem ovS:(ext? Tryz.prog 184).isSome = true:=by kernel_rfl
theorem ovKS:xKind Tryz.prog 184 = 2:=by kernel_rfl
theorem ovAS:ovArg Tryz.prog 184 = true:=by kernel_rfl
theorem wrap_nS {a:Nat} (h:a ≤ 2000000):IntKind.i64.wrap (a:Int) = (a:Int):=wrap_in (by omega) (by omega)
theorem insC_S:InsC (callL Tryz.prog) 120 1:=by
 suffices hall:∀ z,z = 1 → InsC (callL Tryz.prog) 120 z from hall 1 rfl
 intro z hz
 have hio:infoOk Tryz.prog 9 z = true:=by rw [hz]; exact io9
 have hz1:1 ≤ z:=by omega
 have hzl:∃ zs:List V,zs.length = z ∧ ∀ kk:List V → Res,zero Tryz.prog 9 kk = kk zs:=⟨_,by rw [hz]; rfl,fun kk => ze9 kk⟩
 clear hz
 obtain ⟨zs,hzs,hze⟩:=hzl
 intro wb nt st m n i b o k q cap ty s0 ty' sz' tr tr' old new hm hb hwb hi hmb hk hmax hcap hs0 g2 hro gb hb1 hb2 hsz o1 o2 n1 n2 oo no
 have hu:=un28
 have e1:n * z + k * z = (n + k) * z:=(Nat.add_mul ..).symm
 have e2:i * z ≤ n * z:=Nat.mul_le_mul_right z hi
 have e3:i * z + k * z = (i + k) * z:=(Nat.add_mul ..).symm
 have e4:(n - i) * z = n * z - i * z:=Nat.sub_mul ..
 have e5:n * z ≤ cap * z:=Nat.mul_le_mul_right z hcap
 have e6:n + k ≤ cap → (n + k) * z ≤ cap * z:=Nat.mul_le_mul_right z
 have e7:1 * 1 ≤ k * z:=Nat.mul_le_mul hk hz1
 have e8:i < n → (i + 1) * z ≤ n * z:=Nat.mul_le_mul_right z
 have e9:(i + 1) * z = i * z + z:=Nat.succ_mul ..
 generalize hRR:InsR st m n k cap ty z s0 (insL (i * z) old new) = RR
 rw [Gd_callL Tryz.func120 rfl]
 have hnl:∀ s:St,lenS s (.sl m 0 n cap) = some (.int .i64 (n:Int),s):=fun _ => rfl
 have hkl:∀ s:St,lenS s (.sl b o k q) = some (.int .i64 (k:Int),s):=fun _ => rfl
 have hk0:¬ k = 0:=by omega
 have hlb:∀ kk:Nat → Res,lenA (.sl b o k q) kk = kk k:=fun _ => rfl
 have hns:∀ s',V.sl b o k q ≠ .s s':=fun _ h => by cases h
 have hfn:∀ (c:Cx) (s:St),c.ok b = true → s.h.get b = some (.cs ty' sz' tr') → ∀ kk:List V → Res,firsts c s z k (.sl b o k q) kk = kk new:=fun c s h1 h2 kk => firsts_cs h1 h2 (Nat.le_refl _) n1 n2 kk
 have hnk:IntKind.i64.wrap ((n:Int) + (k:Int)) = ((n + k:Nat):Int):=by rw [← Int.natCast_add]; exact wrap_nS (by omega)
 have hik:IntKind.i64.wrap ((i:Int) + (k:Int)) = ((i + k:Nat):Int):=by rw [← Int.natCast_add]; exact wrap_nS (by omega)
 have hnki:IntKind.i64.wrap ((n:Int) + (k:Int) - (i:Int)) = ((n + k - i:Nat):Int):=by rw [show (n:Int) + (k:Int) - (i:Int) = ((n + k - i:Nat):Int) by omega]; exact wrap_nS (by omega)
 simp [evOp_call,sets,T.get_set,hnl,hkl,hk0]
 obtain ⟨v1,hv1⟩:=sl_any (P:=Tryz.prog) (c:=⟨false,[],wb,95⟩) (st:=st) (m:=m) (o:=0) (len:=n) (cap:=cap) (k:=i) (e:=((((((T.lf.set 0 (V.sl m 0 n cap)).set 1 (V.int IntKind.i64 ↑i)).set 2 (V.sl b o k q)).set 6 (V.c (Value.slice none 0 0))).set 10 (V.sl m 0 n cap)).set 11 (V.int IntKind.i64 ↑i))) (x:=.tmp 11) (i:=.i64) hu hio (by simp [T.get_set]) hi hcap
 rw [hv1]
 simp [evOp_call,sets,T.get_set,hnl,hkl,hk0]
 have hcs:∀ s:St,builtinE Tryz.prog ⟨false,[],wb,95⟩ .cap [28] [.sl m 0 n cap] s = some (.int .i64 (cap:Int),s):=fun s => cap_sl hu hio
 by_cases hin:i = n
 ·subst hin
  simp [evOp_call,sets,T.get_set,hnl,hkl,hk0]
  have hrw:insL (i * z) old new = old ++ new:=ins_end o1.symm
  have hol:∀ kk:List V → Res,firsts ⟨false,[],wb,95⟩ st z i (.sl m 0 i cap) kk = kk old:=fun kk => firsts_cs rfl g2 (Nat.le_refl _) o1 (fun j a h => by rw [Nat.zero_add]; exact o2 j a h) kk
  by_cases hroom:i + k ≤ cap
  ·have e6:=e6 hroom
   rw [app_room hu hu hio hns hlb (hfn _ _ rfl gb) (by omega) hroom rfl hwb g2 hro (by omega)]
   simp [evOp_call,sets,T.get_set]
   rw [← hRR]
   refine ⟨Nat.le_refl _,by show st.nx ≤ st.nx + 2; omega,fun p hp hne => T.get_set_ne _ _ (fun e => hne e.symm),.inl ⟨hroom,rfl,_,T.get_set_same _ _ _,fun j a h => ?_⟩⟩
   rw [hrw] at h
   exact app_get o1.symm o2 h
  ·rw [app_none hu hu hio hns hlb (hfn _ _ rfl gb) (by omega) (by omega) hol]
   simp [evOp_call,sets,T.get_set]
   rw [← hRR]
   refine ⟨by show st.nx ≤ st.nx + 1; omega,by show st.nx + 1 ≤ st.nx + 2; omega,fun p hp hne => T.get_set_ne _ _ (by omega),.inr ⟨st.nx,_,_,_,Nat.le_refl _,Nat.lt_succ_self _,rfl,T.get_set_same _ _ _,by decide,by omega,fun j a h => ?_⟩⟩
   rw [hrw] at h
   rw [get_sets,if_pos ⟨Nat.zero_le _,by have:=(List.getElem?_eq_some_iff.1 h).1; omega⟩]
   exact h
 ·have hin':¬ (i:Int) = (n:Int):=by omega
  have hin2:i < n:=by omega
  by_cases hroom:n + k ≤ cap
  ·have d1:¬ ((cap:Int) < (n:Int) + (k:Int)):=by omega
   simp [evOp_call,sets,T.get_set,hnl,hkl,hk0,hin,hin',hcs,hnk,d1]
   rw [sl_hi (k:=n + k) (i:=.i64) hu hio (by simp [T.get_set]) hroom]
   simp [evOp_call,sets,T.get_set,hnl,hkl,hk0,hik]
   rw [sl_lo (k:=i + k) (i:=.i64) hu hio (by simp [T.get_set]) (by omega) hroom (by omega)]
   simp [evOp_call,sets,T.get_set,hnl,hkl,hk0,hik]
   have e6:=e6 hroom
   rw [ext_over (b:=b) (o:=o) (k:=k) (q:=q) (m:=m) (u:=0 + (i + k) * z) (l:=n + k - (i + k)) (r:=cap - (i + k)) ovS ovKS ovAS (by simp [T.get_set]) (by simp [T.get_set]) (fun e => hmb e.symm) hk (by omega) rfl rfl gb g2 hb1 hb2 hro hsz (by omega)]
   simp [evOp_call,sets,T.get_set,hnl,hkl,hk0,hik]
   refine ⟨by kernel_rfl,?_⟩
   rw [sl_lo (k:=i + k) (i:=.i64) hu hio (by simp [T.get_set]) (by omega) hroom (by omega)]
   simp [evOp_call,sets,T.get_set,hnl,hkl,hk0,hik]
   rw [sl_lo (k:=i) (i:=.i64) hu hio (by simp [T.get_set]) (by omega) hroom (by omega)]
   simp [evOp_call,sets,T.get_set,hnl,hkl,hk0,hik]
   have hol:∀ kk:List V → Res,firsts ⟨false,[],wb,95⟩ st z (n - i) (.sl m (i * z) (n + k - i) (cap - i)) kk = kk (old.drop (i * z)):=fun kk => firsts_cs rfl g2 (by omega) (by rw [List.length_drop]; omega) (fun j a h => by
    rw [List.getElem?_drop] at h
    exact o2 _ a h) kk
   rw [cxOf_call (by kernel_rfl) (by kernel_rfl),forb_nil,copy_d (lx:=n + k - i) (n:=n - i) hu hio (fun _ => rfl) (by show min _ _ = _; omega) hol rfl hwb g2 hro (by rw [List.length_drop]; omega)]
   simp [evOp_call,sets,T.get_set,hnl,hkl,hk0,hik]
   rw [sl_lo (k:=i) (i:=.i64) hu hio (by simp [T.get_set]) (by omega) hroom (by omega)]
   simp [evOp_call,sets,T.get_set,hnl,hkl,hk0,hik]
   rw [copy_d (lx:=k) (n:=k) hu hio hlb (by show min _ _ = _; omega) (hfn _ _ rfl (by rw [T.get_set_ne _ _ hmb]; exact gb)) rfl hwb (T.get_set_same _ _ _) hro (by omega)]
   simp [evOp_call,sets,T.get_set,hnl,hkl,hk0,hik]
   rw [← hRR]
   refine ⟨Nat.le_refl _,by show st.nx ≤ st.nx + 2; omega,fun p hp hne => ?_,.inl ⟨hroom,rfl,_,T.get_set_same _ _ _,fun j a h => ?_⟩⟩
   ·simp [T.get_set,show ¬ m = p from fun e => hne e.symm]
   ·have:=ins_get (tr:=tr) (by omega) (fun j a _ h => o2 j a h) h
    rw [n1,e3] at this
    exact this
  ·have d1:(cap:Int) < (n:Int) + (k:Int):=by omega
   simp [evOp_call,sets,T.get_set,hnl,hkl,hk0,hin,hin',hcs,hnk,d1]
   have hol:∀ kk:List V → Res,firsts ⟨false,[],wb,95⟩ st z i (.sl m 0 i cap) kk = kk (old.take (i * z)):=fun kk => firsts_cs rfl g2 (Nat.le_refl _) (by rw [List.length_take]; omega) (fun j a h => by
    rw [List.getElem?_take] at h
    split at h
    ·rw [Nat.zero_add]; exact o2 j a h
    ·cases h) kk
   rw [sl_hi (k:=i) (i:=.i64) hu hio (by simp [T.get_set]) (by omega)]
   simp [evOp_call,sets,T.get_set,hnl,hkl,hk0,hik,hnk,hnki]
   rw [app_mk (lx:=n + k - i) hu un3 hio hze (by omega) (by omega) hol]
   simp [evOp_call,sets,T.get_set,hnl,hkl,hk0,hik,hnk,hnki]
   have e10:i + (n + k - i) = n + k:=by omega
   rw [e10]
   have hl0:(old.take (i * z) ++ rep zs (n + k - i)).length = (n + k) * z:=by
    rw [List.length_append,List.length_take,rep_length,hzs,Nat.sub_mul]; omega
   have hl1:min (i * z) old.length + (rep zs (n + k - i)).length = (n + k) * z:=by rw [← hl0,List.length_append,List.length_take]
   rw [hl1]
   have hne1:¬ st.nx = m:=by omega
   have hne2:¬ st.nx = b:=by omega
   rw [sg_lo (k:=i) (i:=.i64) hu hio (by simp [T.get_set]) (by omega)]
   simp [evOp_call,sets,T.get_set,hnl,hkl,hk0,hik]
   rw [copy_g (lx:=k) (n:=k) hu hio hlb (by show min _ _ = _; omega) (hfn _ _ rfl (by rw [T.get_set_ne _ _ hne2]; exact gb)) rfl (show wb ≤ st.nx by omega) (T.get_set_same _ _ _) (by decide) (by omega)]
   simp [evOp_call,sets,T.get_set,hnl,hkl,hk0,hik]
   refine ⟨by kernel_rfl,?_⟩
   rw [sg_lo (k:=i + k) (i:=.i64) hu hio (by simp [T.get_set]) (by omega)]
   simp [evOp_call,sets,T.get_set,hnl,hkl,hk0,hik]
   rw [sl_lo (k:=i) (i:=.i64) hu hio (by simp [T.get_set]) (by omega) hcap (by omega)]
   simp [evOp_call,sets,T.get_set,hnl,hkl,hk0,hik]
   have g3:(st.h.set st.nx (B.cs 9 ((n + k) * z) (sets new (i * z) (sets (List.take (i * z) old ++ rep zs (n + k - i)) 0 T.lf)))).get m = some (.cs ty s0 tr):=(T.get_set_ne _ _ hne1).trans g2
   have hol2:∀ kk:List V → Res,firsts ⟨false,[],wb,95⟩ ⟨st.nx + 1,st.h.set st.nx (B.cs 9 ((n + k) * z) (sets new (i * z) (sets (List.take (i * z) old ++ rep zs (n + k - i)) 0 T.lf)))⟩ z (n - i) (.sl m (i * z) (n - i) (cap - i)) kk = kk (old.drop (i * z)):=fun kk => firsts_cs rfl g3 (by omega) (by rw [List.length_drop]; omega) (fun j a h => by
    rw [List.getElem?_drop] at h
    exact o2 _ a h) kk
   rw [cxOf_call (by kernel_rfl) (by kernel_rfl),forb_nil,copy_g (lx:=n - i) (n:=n - i) hu hio (fun _ => rfl) (by show min _ _ = _; omega) hol2 rfl (show wb ≤ st.nx by omega) (T.get_set_same _ _ _) (by decide) (by rw [List.length_drop]; omega)]
   simp [evOp_call,sets,T.get_set,hnl,hkl,hk0,hik]
   rw [← hRR]
   refine ⟨by show st.nx ≤ st.nx + 1; omega,by show st.nx + 1 ≤ st.nx + 2; omega,fun p hp hne => ?_,.inr ⟨st.nx,_,_,_,Nat.le_refl _,Nat.lt_succ_self _,rfl,T.get_set_same _ _ _,by decide,Nat.le_refl _,fun j a h => ?_⟩⟩
   ·simp [T.get_set,show ¬ st.nx = p by omega]
   ·have:=ins_get' (tr:=sets (List.take (i * z) old ++ rep zs (n + k - i)) 0 T.lf) (by omega) (fun j a hj h => ?_) h
    ·rw [n1,e3] at this
     exact this
    ·rw [get_sets,if_pos ⟨Nat.zero_le _,by omega⟩,Nat.sub_zero,List.getElem?_append_left (by rw [List.length_take]; omega),List.getElem?_take,if_pos hj]
     exact h
end Go.Proofs.YtgcpgidofikcdaaGreatDoor

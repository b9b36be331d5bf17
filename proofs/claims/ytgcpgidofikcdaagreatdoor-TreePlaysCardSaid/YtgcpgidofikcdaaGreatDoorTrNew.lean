/-
  Contracts: tree.bare, tree.New.
-/
import Derived.Test.YtgcpgidofikcdaaGreatDoorTyTree
import Derived.Test.YtgcpgidofikcdaaGreatDoorSc
import Derived.Test.YtgcpgidofikcdaaGreatDoorDrw
set_option maxRecDepth 20000
set_option maxHeartbeats 4000000
set_option linter.unusedSimpArgs false
set_option linter.unusedVariables false
namespace Go.Proofs.YtgcpgidofikcdaaGreatDoor
open Go.RowKit Ev
@[simp] theorem asNat_2 {β:Type} (f:Nat → Option β):asNat (.int .i64 2) f = f 2:=rfl
structure TrAt (s:St) (q m n:Nat) (K U:Nat → Int):Prop where
 cell:∃ tq,s.h.get q = some (.cs 95 1 tq) ∧ tq.get 0 = some (.sl m 0 (n + 1) (n + 1))
 row:∃ t,s.h.get m = some (.cs 92 ((n + 1) * 5) t) ∧ ∀ i,i ≤ n → t.get (i * 5) = some (.int .i64 (K i)) ∧ t.get (i * 5 + 1) = some (.int .i64 (U i)) ∧ t.get (i * 5 + 2) = some (.int .i64 0) ∧ t.get (i * 5 + 3) = some (.c (.slice none 0 0)) ∧ t.get (i * 5 + 4) = some (.c (.slice none 0 0))
 lt:m < q ∧ q < s.nx
theorem TrAt.ext {s s':St} {q m n:Nat} {K U:Nat → Int} (h:TrAt s q m n K U) (k:Ext s.nx s s'):TrAt s' q m n K U:=by
 obtain ⟨⟨tq,h1,h2⟩,⟨t,h3,h4⟩,h5,h6⟩:=h
 have:=k.le
 exact ⟨⟨tq,(k.keep _ h6).trans h1,h2⟩,⟨t,(k.keep _ (by omega)).trans h3,h4⟩,h5,by omega⟩
theorem rep_get5 {zs:List V} (hz:zs.length = 5):∀ (n i j:Nat),i < n → j < 5 → (rep zs n)[i * 5 + j]? = zs[j]?
 | 0,i,j,h,_ => by omega
 | n + 1,i,j,h,hj => by
  show (zs ++ rep zs n)[i * 5 + j]? = _
  cases i with
  | zero => rw [List.getElem?_append_left (by omega),Nat.zero_mul,Nat.zero_add]
  | succ i =>
   rw [List.getElem?_append_right (by omega),hz,show (i + 1) * 5 + j - 5 = i * 5 + j by omega]
   exact rep_get5 hz n i j (by omega) hj
theorem rep_len5 {zs:List V} (hz:zs.length = 5):∀ n,(rep zs n).length = n * 5
 | 0 => rfl
 | n + 1 => by show (zs ++ rep zs n).length = _; rw [List.length_append,hz,rep_len5 hz n]; omega
def bareR (st:St) (n:Nat) (r:V × St):Prop:=∃ q m,r.1 = .p q 0 ∧ TrAt r.2 q m n (fun _ => 0) (fun i => if i = 1 ∨ i = 2 then 1 else 0) ∧ st.nx ≤ m ∧ Ext st.nx st r.2
theorem bare_any (st:St) (n:Nat) (hn:2 ≤ n ∧ n ≤ 64) (nt:Nat) :
  Gd (callL Tryz.prog ⟨false,[],0,nt⟩ 40 [.int .i64 (n:Int)] st) (bareR st n):=by
 rw [Gd_callL Tryz.func40 rfl]
 have w1:IntKind.i64.wrap ((n:Int) + 1) = ((n + 1:Nat):Int):=wrap_nat (n:=n) (by omega)
 simp only [evOp_call,sets,T.get_set,w1]
 simp [evOp_call,sets,T.get_set,w1]
 refine Gd_make (i:=.i64) (i':=.i64) (n:=n + 1) (q:=n + 1) (zs:=[.int .i64 0,.int .i64 0,.int .i64 0,.c (.slice none 0 0),.c (.slice none 0 0)]) (fun k => el93 k) io92 (fun k => ze92 k) (by simp [T.get_set]) (by simp [T.get_set]) (Nat.le_refl _) (by omega) ?_
 simp [evOp_call,sets,T.get_set,newC_is,cellsOf]
 have hn1:¬ st.nx + 1 = st.nx:=by omega
 have hn2:1 < n + 1:=by omega
 have hn3:2 < n + 1:=by omega
 have hrl:=rep_len5 (zs:=[V.int .i64 0,V.int .i64 0,V.int .i64 0,V.c (.slice none 0 0),V.c (.slice none 0 0)]) rfl (n + 1)
 refine ⟨by kernel_rfl,?_⟩
 simp [evOp_call,T.get_set,loadE_eq,getC_eq,hn1,hn2,hn3]
 have hb1:6 + 1 ≤ (n + 1) * 5:=by omega
 have hb2:11 + 1 ≤ (n + 1) * 5:=by omega
 have hb3:7 ≤ (n + 1) * 5:=by omega
 have hb4:12 ≤ (n + 1) * 5:=by omega
 have x1:=fun b b' => ((Ext.refl st.nx st).new (Nat.le_refl _) b).new (b:=st.nx) (Nat.le_succ _) b'
 rw [cxOf_store (by kernel_rfl),forb_nil,putB_eq]
 simp [evOp_call,T.get_set,sets,roT,hrl,hn1,hn2,hn3,hb1,hb2,hb3,hb4]
 rw [cxOf_store (by kernel_rfl),forb_nil,putB_eq]
 simp [evOp_call,T.get_set,sets,roT,hrl,hn1,hn2,hn3,hb1,hb2,hb3,hb4]
 refine ⟨st.nx + 1,st.nx,rfl,⟨⟨T.lf.set 0 (.sl st.nx 0 (n + 1) (n + 1)),?_,T.get_set_same _ _ _⟩,⟨_,T.get_set_same _ _ _,fun i hi => ?_⟩,⟨Nat.lt_succ_self _,Nat.lt_succ_self _⟩⟩,Nat.le_refl _,(x1 _ _).set (m:=st.nx) (Nat.le_refl _) (by show st.nx < st.nx + 1 + 1; omega) _⟩
 ·rw [T.get_set_ne _ _ (show st.nx ≠ st.nx + 1 by omega),T.get_set_same]
 ·have gz:∀ j,j < 5 → (sets (rep [V.int .i64 0,V.int .i64 0,V.int .i64 0,V.c (.slice none 0 0),V.c (.slice none 0 0)] (n + 1)) 0 T.lf).get (i * 5 + j) = [V.int .i64 0,V.int .i64 0,V.int .i64 0,V.c (.slice none 0 0),V.c (.slice none 0 0)][j]?:=fun j hj => by
   rw [get_sets,if_pos ⟨Nat.zero_le _,by rw [hrl]; omega⟩,Nat.sub_zero]
   exact rep_get5 rfl (n + 1) i j (by omega) hj
  have get:∀ j,j < 5 → i * 5 + j ≠ 6 → i * 5 + j ≠ 11 → (((sets (rep [V.int .i64 0,V.int .i64 0,V.int .i64 0,V.c (.slice none 0 0),V.c (.slice none 0 0)] (n + 1)) 0 T.lf).set 6 (V.c (.int .i64 1))).set 11 (V.c (.int .i64 1))).get (i * 5 + j) = [V.int .i64 0,V.int .i64 0,V.int .i64 0,V.c (.slice none 0 0),V.c (.slice none 0 0)][j]?:=fun j hj h1 h2 => by
   rw [T.get_set_ne _ _ (fun e => h2 e.symm),T.get_set_ne _ _ (fun e => h1 e.symm)]; exact gz j hj
  refine ⟨get 0 (by omega) (by omega) (by omega),?_,get 2 (by omega) (by omega) (by omega),get 3 (by omega) (by omega) (by omega),get 4 (by omega) (by omega) (by omega)⟩
  by_cases c1:i = 1
  ·subst c1
   rw [T.get_set_ne _ _ (by decide),T.get_set_same]; rfl
  ·by_cases c2:i = 2
   ·subst c2
    rw [T.get_set_same]; rfl
   ·rw [get 1 (by omega) (by omega) (by omega)]
    simp [c1,c2]
def updN (f:Nat → Int) (k:Nat) (v:Int):Nat → Int:=fun i => if i = k then v else f i
theorem TrAt.kind {s:St} {q m n:Nat} {K U:Nat → Int} (h:TrAt s q m n K U) (k:Nat) (hk:k ≤ n) (v:Int) {t:T V} (hm:s.h.get m = some (.cs 92 ((n + 1) * 5) t)):TrAt ⟨s.nx,s.h.set m (.cs 92 ((n + 1) * 5) (t.set (k * 5) (.int .i64 v)))⟩ q m n (updN K k v) U:=by
 obtain ⟨⟨tq,h1,h2⟩,⟨t',h3,h4⟩,h5,h6⟩:=h
 rw [hm] at h3
 injection h3 with h3
 injection h3 with _ _ h3
 subst h3
 refine ⟨⟨tq,(T.get_set_ne _ _ (by omega)).trans h1,h2⟩,⟨_,T.get_set_same _ _ _,fun i hi => ?_⟩,h5,h6⟩
 obtain ⟨g0,g1,g2,g3,g4⟩:=h4 i hi
 refine ⟨?_,(T.get_set_ne _ _ (by omega)).trans g1,(T.get_set_ne _ _ (by omega)).trans g2,(T.get_set_ne _ _ (by omega)).trans g3,(T.get_set_ne _ _ (by omega)).trans g4⟩
 unfold updN
 by_cases e:i = k
 ·subst e; rw [if_pos rfl,T.get_set_same]
 ·rw [if_neg e,T.get_set_ne _ _ (by omega)]; exact g0
def twoK:Nat → Int:=updN (updN (fun _ => 0) 1 2) 2 2
def twoU:Nat → Int:=fun i => if i = 1 ∨ i = 2 then 1 else 0
def treeR (st:St) (n:Nat) (r:V × St):Prop:=∃ q m,r.1 = .p q 0 ∧ TrAt r.2 q m n twoK twoU ∧ st.nx ≤ m ∧ Ext st.nx st r.2
end Go.Proofs.YtgcpgidofikcdaaGreatDoor

/-
  PLAIN: how many entries name a node.
-/
import Derived.Test.YtgcpgidofikcdaaGreatDoorTmAF
set_option linter.unusedSimpArgs false
set_option linter.unusedVariables false
namespace Go.Proofs.YtgcpgidofikcdaaGreatDoor
open Go.RowKit Ev
def cntL (l:List (Tx × Nat)) (i:Nat):Nat:=l.countP fun x => x.2 == i
theorem cntL_ins (c:Nat) (p:Tx) (j:Nat) (l:List (Tx × Nat)) (i:Nat):cntL (insT c (p,j) l) i = cntL l i + if j = i then 1 else 0:=by
 unfold cntL insT
 have e:(l.take c ++ l.drop c).countP (fun x => x.2 == i) = l.countP fun x => x.2 == i:=by rw [List.take_append_drop]
 rw [List.countP_append] at e
 rw [List.countP_append,List.countP_cons]
 simp only [beq_iff_eq]
 omega
theorem cntL_era {c:Nat} {p:Tx} {j:Nat} {l:List (Tx × Nat)} (h:l[c]? = some (p,j)) (i:Nat):cntL (l.eraseIdx c) i + (if j = i then 1 else 0) = cntL l i:=by
 unfold cntL
 have hc:=lt_of_get h
 have e:l = l.take c ++ (p,j) :: l.drop (c + 1):=by
  rw [← (List.getElem?_eq_some_iff.1 h).2,List.getElem_cons_drop,List.take_append_drop]
 have e2:l.countP (fun x => x.2 == i) = (l.take c ++ (p,j) :: l.drop (c + 1)).countP fun x => x.2 == i:=by rw [← e]
 rw [e2,List.eraseIdx_eq_take_drop_succ,List.countP_append,List.countP_append,List.countP_cons]
 simp only [beq_iff_eq]
 omega
theorem cntL_pos {l:List (Tx × Nat)} {x:Tx × Nat} (h:x ∈ l):1 ≤ cntL l x.2:=List.countP_pos_iff.2 ⟨x,h,by simp⟩
theorem cntL_le (l:List (Tx × Nat)) (i:Nat):cntL l i ≤ l.length:=List.countP_le_length
theorem cntL_two {l:List (Tx × Nat)} {p q:Tx} {i:Nat} (hp:(p,i) ∈ l) (hq:(q,i) ∈ l) (h:p ≠ q):2 ≤ cntL l i:=by
 obtain ⟨a,b,rfl⟩:=List.append_of_mem hp
 unfold cntL
 rw [List.countP_append,List.countP_cons]
 have hq':(q,i) ∈ a ∨ (q,i) ∈ b:=by
  rcases List.mem_append.1 hq with h1 | h1
  ·exact .inl h1
  ·rcases List.mem_cons.1 h1 with h1 | h1
   ·injection h1 with h1 _; exact absurd h1.symm h
   ·exact .inr h1
 simp only [beq_self_eq_true,if_true]
 rcases hq' with h1 | h1
 ·have:=cntL_pos h1; unfold cntL at this; simp only at this; omega
 ·have:=cntL_pos h1; unfold cntL at this; simp only at this; omega
def sumR (f:Nat → Nat):Nat → Nat
 | 0 => f 0
 | n + 1 => sumR f n + f (n + 1)
theorem sumR_congr {f g:Nat → Nat}:∀ {n:Nat},(∀ j,j ≤ n → f j = g j) → sumR f n = sumR g n
 | 0,h => h 0 (Nat.le_refl _)
 | n + 1,h => by show sumR f n + f (n + 1) = _; rw [sumR_congr (n:=n) fun j hj => h j (by omega),h (n + 1) (Nat.le_refl _)]; rfl
theorem sumR_upd {f g:Nat → Nat} {a:Nat} (h:∀ j,j ≠ a → f j = g j):∀ {n:Nat},a ≤ n → sumR f n + g a = sumR g n + f a
 | 0,ha => by obtain rfl:a = 0:=by omega
              show f 0 + g 0 = g 0 + f 0; omega
 | n + 1,ha => by
  show sumR f n + f (n + 1) + g a = sumR g n + g (n + 1) + f a
  by_cases e:a = n + 1
  ·subst e
   have:=sumR_congr (f:=f) (g:=g) (n:=n) fun j hj => h j (by omega)
   omega
  ·have:=sumR_upd h (n:=n) (by omega)
   have:=h (n + 1) (by omega)
   omega
theorem sumR_le {f:Nat → Nat}:∀ {n a:Nat},a ≤ n → f a ≤ sumR f n
 | 0,a,ha => by obtain rfl:a = 0:=by omega
                exact Nat.le_refl _
 | n + 1,a,ha => by
  show f a ≤ sumR f n + f (n + 1)
  by_cases e:a = n + 1
  ·subst e; omega
  ·have:=sumR_le (f:=f) (n:=n) (a:=a) (by omega); omega
theorem sumR_two {f:Nat → Nat}:∀ {n a b:Nat},a ≤ n → b ≤ n → a ≠ b → f a + f b ≤ sumR f n
 | 0,a,b,ha,hb,h => by omega
 | n + 1,a,b,ha,hb,h => by
  show f a + f b ≤ sumR f n + f (n + 1)
  by_cases e:a = n + 1
  ·subst e; have:=sumR_le (f:=f) (n:=n) (a:=b) (by omega); omega
  ·by_cases e2:b = n + 1
   ·subst e2; have:=sumR_le (f:=f) (n:=n) (a:=a) (by omega); omega
   ·have:=sumR_two (f:=f) (n:=n) (a:=a) (b:=b) (by omega) (by omega) h; omega
theorem sumR_max {f:Nat → Nat} {B:Nat} (h:∀ j,f j ≤ B):∀ n,sumR f n ≤ (n + 1) * B
 | 0 => by have:=h 0; show f 0 ≤ _; omega
 | n + 1 => by have:=sumR_max h n; have:=h (n + 1); show sumR f n + f (n + 1) ≤ _; rw [Nat.add_mul (n + 1) 1 B]; omega
def cntE (n:Nat) (E:Tr) (i:Nat):Nat:=sumR (fun a => cntL (E a).l i) n
structure Ct (n:Nat) (E:Tr):Prop where
 nm:∀ i,3 ≤ i → (E i).nm = (cntE n E i:Int)
 fre:∀ i,(E i).k = 0 → (E i).nm = 0
theorem TOk.cnt {n B:Nat} {E:Tr} (h:TOk n B E) (hB:B ≤ 1000) (i:Nat):cntE n E i ≤ 65000:=by
 have h1:=sumR_max (f:=fun a => cntL (E a).l i) (B:=B) (fun j => Nat.le_trans (cntL_le _ _) (h.len j)) n
 have h2:=h.n2
 have h3:(n + 1) * B ≤ 65 * 1000:=Nat.mul_le_mul (by omega) hB
 unfold cntE
 omega
theorem Ct.named {n B:Nat} {E:Tr} (C:Ct n E) (h:TOk n B E) {a i:Nat} {p:Tx} (hp:(p,i) ∈ (E a).l):1 ≤ cntE n E i ∧ 3 ≤ i ∧ a ≤ n:=by
 have ha:a ≤ n:=Nat.le_of_not_lt fun hlt => by rw [h.out a hlt] at hp; cases hp
 exact ⟨Nat.le_trans (cntL_pos hp) (sumR_le (f:=fun a => cntL (E a).l i) ha),(h.ent a _ hp).2.1,ha⟩
theorem Ct.one {n B:Nat} {E:Tr} (C:Ct n E) (h:TOk n B E) {a b i:Nat} {p q:Tx} (hk:(E i).k = 2) (hp:(p,i) ∈ (E a).l) (hq:(q,i) ∈ (E b).l):a = b ∧ p = q:=by
 obtain ⟨h1,h2,h3⟩:=C.named h hp
 obtain ⟨_,_,h4⟩:=C.named h hq
 have h5:=(h.dir i h2 hk).1
 have h6:=C.nm i h2
 have h7:cntE n E i = 1:=by omega
 have hab:a = b:=Classical.byContradiction fun hne => by
  have h8:=sumR_two (f:=fun a => cntL (E a).l i) h3 h4 hne
  have:=cntL_pos hp
  have:=cntL_pos hq
  simp only at *
  unfold cntE at h7
  omega
 subst hab
 refine ⟨rfl,Classical.byContradiction fun hne => ?_⟩
 have h8:=cntL_two hp hq hne
 have h9:=sumR_le (f:=fun a => cntL (E a).l i) h3
 unfold cntE at h7
 omega
theorem cntE_one {n:Nat} {E E':Tr} {a:Nat} (ha:a ≤ n) (h:∀ j,j ≠ a → (E' j).l = (E j).l) (i:Nat):cntE n E' i + cntL (E a).l i = cntE n E i + cntL (E' a).l i:=by
 unfold cntE
 exact sumR_upd (f:=fun a => cntL (E' a).l i) (g:=fun a => cntL (E a).l i) (fun j hj => by show cntL (E' j).l i = cntL (E j).l i; rw [h j hj]) ha
theorem cnt_enter {n:Nat} (E:Tr) {a:Nat} (ha:a ≤ n) (p:Tx) (i j:Nat):cntE n (enterE E a p i) j = cntE n E j + if i = j then 1 else 0:=by
 have f:=fun j => (enter_f E a p i j).1
 have h1:=cntE_one (E:=E) (E':=enterE E a p i) ha (fun k hk => by rw [(f k).l,if_neg hk]) j
 rw [(f a).l,if_pos rfl,cntL_ins] at h1
 omega
theorem Ct.enter {n:Nat} {E:Tr} (C:Ct n E) (hb:∀ j,cntE n E j ≤ 65000) {a i:Nat} {p:Tx} (ha:a ≤ n) (hk:(E i).k ≠ 0):Ct n (enterE E a p i):=by
 have f:=fun j => (enter_f E a p i j).1
 have hc:∀ j,cntE n (enterE E a p i) j = cntE n E j + if i = j then 1 else 0:=fun j => by
  have h1:=cntE_one (E:=E) (E':=enterE E a p i) ha (fun k hk => by rw [(f k).l,if_neg hk]) j
  rw [(f a).l,if_pos rfl,cntL_ins] at h1
  omega
 refine ⟨fun j hj => ?_,fun j hj => ?_⟩
 ·rw [(f j).nm,hc j]
  by_cases e:j = i
  ·subst e
   rw [if_pos rfl,if_pos rfl]
   have:=C.nm j hj
   have:=hb j
   rw [wrap_in (by omega) (by omega)]
   omega
  ·rw [if_neg e,if_neg (Ne.symm e)]
   exact C.nm j hj
 ·rw [(f j).k] at hj
  rw [(f j).nm,if_neg (fun e => hk (by rw [← e]; exact hj))]
  exact C.fre j hj
theorem Ct.leaveB {n:Nat} {E:Tr} (C:Ct n E) (hb:∀ j,cntE n E j ≤ 70000) {a i:Nat} {p:Tx} (he:entT p (E a).l = some i) (h3:3 ≤ i) (ha:a ≤ n) (hl:cntE n E i = 1 → (E i).l = []):Ct n (leaveE E a p):=by
 have hg:=entT_some he
 have h1:1 ≤ cntE n E i:=Nat.le_trans (cntL_pos (List.mem_of_getElem? hg)) (sumR_le (f:=fun a => cntL (E a).l i) ha)
 have hcm:=hb i
 have hnm:=C.nm i h3
 have hw:IntKind.i64.wrap ((E i).nm - 1) = (cntE n E i:Int) - 1:=by rw [wrap_in (by omega) (by omega)]; omega
 have hsum:∀ E':Tr,(∀ j,(E' j).l = if j = a then (E a).l.eraseIdx (cntT p (E a).l) else (E j).l) → ∀ j,cntE n E' j + (if i = j then 1 else 0) = cntE n E j:=fun E' hE' j => by
  have h4:=cntE_one (E:=E) (E':=E') ha (fun k hk => by rw [hE' k,if_neg hk]) j
  rw [hE' a,if_pos rfl] at h4
  have:=cntL_era hg j
  omega
 by_cases h0:IntKind.i64.wrap ((E i).nm - 1) = 0
 ·obtain ⟨g1,g2⟩:=leave_gone he h0
  have hl:=hl (by omega)
  have hai:a ≠ i:=fun e => by subst e; rw [hl] at hg; cases hg
  have hs:=hsum (leaveE E a p) fun j => by
   by_cases e:j = i
   ·subst e
    rw [g1,if_neg (Ne.symm hai),hl]
    rfl
   ·rw [g2 j e]
    split
    ·rfl
    ·rfl
  refine ⟨fun j hj => ?_,fun j hj => ?_⟩
  ·have hsj:=hs j
   by_cases e:j = i
   ·subst e
    rw [g1]
    rw [if_pos rfl] at hsj
    show (0:Int) = _
    omega
   ·rw [if_neg (Ne.symm e)] at hsj
    rw [g2 j e,show cntE n (leaveE E a p) j = cntE n E j by omega]
    split
    ·rename_i e2; subst e2; exact C.nm j hj
    ·exact C.nm j hj
  ·by_cases e:j = i
   ·subst e; rw [g1]; rfl
   ·rw [g2 j e] at hj ⊢
    split
    ·rename_i e2
     rw [if_pos e2] at hj
     exact C.fre a hj
    ·rename_i e2
     rw [if_neg e2] at hj
     exact C.fre j hj
 ·have f:=fun j => (leave_stay he h0 j).1
  have hs:=hsum (leaveE E a p) fun j => (f j).l
  refine ⟨fun j hj => ?_,fun j hj => ?_⟩
  ·have hsj:=hs j
   rw [(f j).nm]
   by_cases e:j = i
   ·subst e
    rw [if_pos rfl] at hsj ⊢
    rw [hw]
    omega
   ·rw [if_neg e]
    rw [if_neg (Ne.symm e)] at hsj
    rw [show cntE n (leaveE E a p) j = cntE n E j by omega]
    exact C.nm j hj
  ·rw [(f j).k] at hj
   rw [(f j).nm]
   have:=C.fre j hj
   split
   ·rename_i e; subst e; omega
   ·exact this
theorem Ct.leave {n B:Nat} {E:Tr} (C:Ct n E) (h:TOk n B E) (hB:B ≤ 1000) {a i:Nat} {p:Tx} (he:entT p (E a).l = some i) (hl:(E i).l = []):Ct n (leaveE E a p):=by
 obtain ⟨h1,h3,ha⟩:=C.named h (List.mem_of_getElem? (entT_some he))
 exact C.leaveB (fun j => Nat.le_trans (h.cnt hB j) (by decide)) he h3 ha fun _ => hl
theorem Ct.same {n:Nat} {E E':Tr} (C:Ct n E) (h:∀ j,(E' j).k = (E j).k ∧ (E' j).nm = (E j).nm ∧ (E' j).l = (E j).l):Ct n E':=by
 have hc:∀ i,cntE n E' i = cntE n E i:=fun i => sumR_congr fun j _ => by rw [(h j).2.2]
 exact ⟨fun i hi => by rw [(h i).2.1,hc]; exact C.nm i hi,fun i hi => by rw [(h i).1] at hi; rw [(h i).2.1]; exact C.fre i hi⟩
theorem Ct.new (n:Nat):Ct n newE:=by
 have hl:∀ i,(newE i).l = []:=fun i => by unfold newE; (repeat' split) <;> rfl
 have hc:∀ (f:Nat → Nat),(∀ j,f j = 0) → ∀ n,sumR f n = 0:=fun f hf n => by
  induction n with
  | zero => exact hf 0
  | succ n ih => show sumR f n + f (n + 1) = 0; rw [ih,hf]
 refine ⟨fun i hi => ?_,fun i hi => ?_⟩
 ·have e:newE i = noE:=by unfold newE; rw [if_neg (by omega),if_neg (by omega)]
  rw [e]
  unfold cntE
  rw [hc _ fun j => by rw [hl j]; rfl]
  rfl
 ·revert hi
  unfold newE
  (repeat' split) <;> intro hi <;> first | rfl | (exact absurd hi (by decide))
theorem Ct.make {n B:Nat} {E:Tr} (C:Ct n E) (h:TOk n B E) (hB:B ≤ 1000) {a i k:Nat} {p d:Tx} (ha:a ≤ n) (hi:(E i).k = 0) (h3:3 ≤ i) (hk:k ≠ 0):Ct n (enterE (updE E i ⟨k,0,0,d,[]⟩) a p i):=by
 have hil:(E i).l = []:=h.lst i (by omega)
 have hl:∀ j,(updE E i ⟨k,0,0,d,[]⟩ j).l = (E j).l:=fun j => by
  unfold updE
  split
  ·rename_i e; rw [e,hil]
  ·rfl
 have hc:∀ j,cntE n (updE E i ⟨k,0,0,d,[]⟩) j = cntE n E j:=fun j => sumR_congr fun c _ => by rw [hl c]
 have hci:=C.nm i h3
 rw [C.fre i hi] at hci
 refine Ct.enter ⟨fun j hj => ?_,fun j hj => ?_⟩ (fun j => by rw [hc j]; exact h.cnt hB j) ha (by rw [updE_same]; exact hk)
 ·rw [hc j]
  by_cases e:j = i
  ·subst e; rw [updE_same]; exact hci
  ·rw [updE_ne _ _ e]; exact C.nm j hj
 ·by_cases e:j = i
  ·subst e; rw [updE_same] at hj; exact absurd hj hk
  ·rw [updE_ne _ _ e] at hj ⊢; exact C.fre j hj
theorem Ct.found {n B:Nat} {E:Tr} (C:Ct n E) (h:TOk n B E) {a:Nat} {p:Tx} (hf:findE E a p ≠ 0):(E (findE E a p)).k ≠ 0:=by
 by_cases e2:findE E a p = 2
 ·rw [e2,h.lost.1]; decide
 have he:=h.entF hf e2
 obtain ⟨h1,h3,_⟩:=C.named h (List.mem_of_getElem? (entT_some he))
 intro hk
 have h4:=C.nm _ h3
 rw [C.fre _ hk] at h4
 omega
theorem Ct.walk {n B:Nat} {E:Tr} (C:Ct n E) (h:TOk n B E):∀ (m hp a:Nat) (ps:List Tx) (last:Bool),9 - hp ≤ m → (E a).k ≠ 0 → (Go.Proofs.YtgcpgidofikcdaaGreatDoor.walk E hp a ps last).2.2 = 0 → (E (Go.Proofs.YtgcpgidofikcdaaGreatDoor.walk E hp a ps last).2.1).k ≠ 0:=by
 intro m
 induction m with
 | zero =>
  intro hp a ps
  induction ps generalizing a with
  | nil => intro last _ h1 _; rw [walk_nil]; exact h1
  | cons p ps ih =>
   intro last hm h1
   rw [walk_cons]
   split
   ·intro hh; cases hh
   rename_i c1
   split
   ·exact ih _ last hm (by have:=(h.up1 (a:=a) (by omega)).2.2; omega)
   split
   ·intro hh; cases hh
   rename_i c3
   split
   ·have e:follE E hp a (findE E a p) = (hp + 1,0,11):=by unfold follE; rw [if_pos (by omega)]
    rw [e,if_pos (fun hh => by cases hh)]
    intro hh; cases hh
   ·exact ih _ last hm (C.found h c3)
 | succ m ihm =>
  intro hp a ps
  induction ps generalizing hp a with
  | nil => intro last _ h1 _; rw [walk_nil]; exact h1
  | cons p ps ih =>
   intro last hm h1
   rw [walk_cons]
   split
   ·intro hh; cases hh
   rename_i c1
   split
   ·exact ih _ _ last hm (by have:=(h.up1 (a:=a) (by omega)).2.2; omega)
   split
   ·intro hh; cases hh
   rename_i c3
   split
   ·have hfl:=follE_le E hp a (findE E a p)
    split
    ·rename_i c5
     intro hh; exact absurd hh c5
    ·rename_i c5
     have c5:(follE E hp a (findE E a p)).2.2 = 0:=by omega
     refine ihm _ _ ps last (by omega) ?_
     unfold follE at c5 ⊢
     split at c5
     ·cases c5
     rename_i c6
     rw [if_neg c6]
     split at c5
     ·rename_i c7; exact absurd c5 c7
     rename_i c7
     rw [if_neg c7]
     exact ihm (hp + 1) _ (parS (E (findE E a p)).d) true (by omega) (by
      split
      ·rw [h.root.1]; decide
      ·exact h1) c5
   ·exact ih _ _ last hm (C.found h c3)
theorem Ct.way {n B:Nat} {E:Tr} (C:Ct n E) (h:TOk n B E) {s:Tx} {last:Bool} (he:(wayE E s last).2 = 0):(E (wayE E s last).1).k ≠ 0:=by
 unfold wayE at he ⊢
 split at he
 ·rename_i c; exact absurd he c
 rename_i c
 rw [if_neg c]
 exact C.walk h 9 0 1 _ _ (by omega) (by rw [h.root.1]; decide) he
theorem Ct.makeE {n B:Nat} {E:Tr} (C:Ct n E) (h:TOk n B E) (hB:B ≤ 1000) {s d:Tx} {k:Nat} (hs:okS s) (hk:k ≠ 0):Ct n (Go.Proofs.YtgcpgidofikcdaaGreatDoor.makeE n E s k d).2:=by
 unfold Go.Proofs.YtgcpgidofikcdaaGreatDoor.makeE
 split
 ·exact C
 rename_i c
 split
 ·exact C
 rename_i c2
 obtain ⟨r1,_,_,_⟩:=h.room hs (by simpa using c)
 obtain ⟨s1,_,s3⟩:=h.spare c2
 exact C.make h hB (h.kle (i:=(roomE E s).1) (by omega)).2 s3 s1 hk
theorem Ct.linkE {n B:Nat} {E:Tr} (C:Ct n E) (h:TOk n B E) (hB:B ≤ 1000) {a b:Tx} (hb:okS b):Ct n (Go.Proofs.YtgcpgidofikcdaaGreatDoor.linkE E a b).2:=by
 unfold Go.Proofs.YtgcpgidofikcdaaGreatDoor.linkE
 split
 ·exact C
 rename_i c1
 split
 ·exact C
 split
 ·exact C
 rename_i c3
 split
 ·exact C
 obtain ⟨r1,_,_,_⟩:=h.room hb (by simpa using c3)
 exact C.enter (h.cnt hB) (h.kle (i:=(roomE E b).1) (by omega)).2 (C.way h (by simpa using c1))
theorem Ct.unlinkE {n B:Nat} {E:Tr} (C:Ct n E) (h:TOk n B E) (hB:B ≤ 1000) {a:Tx}:Ct n (Go.Proofs.YtgcpgidofikcdaaGreatDoor.unlinkE E a).2:=by
 unfold Go.Proofs.YtgcpgidofikcdaaGreatDoor.unlinkE
 split
 ·exact C
 rename_i c1
 split
 ·exact C
 rename_i c2
 obtain ⟨t1,t2,t3,_⟩:=h.there (by simpa using c1)
 have hl:=h.lst _ c2
 rw [t2] at t3 c2 hl
 exact C.leave h hB (h.entF t3 (fun e => c2 (by rw [e]; exact h.lost.1))) hl
theorem Ct.rmdirE {n B:Nat} {E:Tr} (C:Ct n E) (h:TOk n B E) (hB:B ≤ 1000) {a:Tx}:Ct n (Go.Proofs.YtgcpgidofikcdaaGreatDoor.rmdirE E a).2:=by
 unfold Go.Proofs.YtgcpgidofikcdaaGreatDoor.rmdirE
 split
 ·exact C
 rename_i c1
 split
 ·exact C
 split
 ·exact C
 rename_i c3
 split
 ·exact C
 rename_i c4
 obtain ⟨t1,t2,t3,_⟩:=h.there (by simpa using c1)
 rw [t2] at t3 c3 c4
 exact C.leave h hB (h.entF t3 c3) (by simpa using c4)
theorem setD_f (E:Tr) (i:Nat) (d:Tx) (j:Nat):(setD E i d j).k = (E j).k ∧ (setD E i d j).nm = (E j).nm ∧ (setD E i d j).l = (E j).l:=by
 unfold setD updE
 by_cases e:j = i
 ·subst e; simp
 ·simp [e]
theorem Ct.renameE {n B:Nat} {E:Tr} (C:Ct n E) (h:TOk n B E) (hB:B ≤ 1000) {a b:Tx}:Ct n (Go.Proofs.YtgcpgidofikcdaaGreatDoor.renameE E a b).2:=by
 unfold Go.Proofs.YtgcpgidofikcdaaGreatDoor.renameE
 split
 ·exact C
 split
 ·exact C
 split
 ·exact C
 rename_i c1
 split
 ·exact C
 rename_i c2
 split
 ·exact C
 rename_i c3
 split
 ·exact C
 rename_i c4
 split
 ·exact C
 rename_i c5
 split
 ·exact C
 rename_i c6
 split
 ·exact C
 rename_i c7
 obtain ⟨t1,t2,t3,_⟩:=h.there (by simpa using c1)
 have d1:=h.dirE (lastD b) (by simpa using c3)
 obtain ⟨i,hi⟩:∃ i,i = (thereE E a).2.1:=⟨_,rfl⟩
 obtain ⟨fr,hfr⟩:∃ fr,fr = (thereE E a).1:=⟨_,rfl⟩
 obtain ⟨old,hold⟩:∃ old,old = (thereE E a).2.2.1:=⟨_,rfl⟩
 obtain ⟨to,hto⟩:∃ to,to = (Go.Proofs.YtgcpgidofikcdaaGreatDoor.dirE E (lastD b)).1:=⟨_,rfl⟩
 rw [← hfr,← hold,← hi] at t2
 rw [← hfr] at t1
 rw [← hi] at t3 c2 c5 c6 c7
 rw [← hto] at d1 c4 c5 c6 c7
 show Ct n (leaveE (enterE (leaveE E _ (lastN b)) _ (lastN b) (thereE E a).2.1) (thereE E a).1 (thereE E a).2.2.1)
 rw [← hfr,← hold,← hi,← hto]
 rw [t2] at t3 c2
 have he:=h.entF t3 c2
 rw [← t2] at he t3 c2
 have hin:=h.ent fr _ (List.mem_of_getElem? (entT_some he))
 simp only at hin
 have key:∃ E1,E1 = leaveE E to (lastN b) ∧ TOk n B E1 ∧ (E1 to).k = 2 ∧ entT (lastN b) (E1 to).l = none ∧ ¬ (to = 1 ∧ lastN b = lostT) ∧ (E1 fr).k = 2 ∧ entT old (E1 fr).l = some i ∧ Ct n E1 ∧ (E1 i).k = (E i).k:=by
  refine ⟨_,rfl,?_⟩
  have hl0:¬ (to = 1 ∧ lastN b = lostT):=fun e => c7 (by
   have e2:findE E to (lastN b) = 2:=if_pos e
   rw [e2]
   unfold yieldE
   rw [if_neg (by decide),if_pos rfl]
   intro hh; cases hh)
  cases ho:entT (lastN b) (E to).l with
  | none =>
   have e1:leaveE E to (lastN b) = E:=by unfold leaveE; rw [ho]
   rw [e1]
   exact ⟨h,d1,ho,hl0,t1,he,C,rfl⟩
  | some o =>
   have hfo:findE E to (lastN b) = o:=by unfold findE; rw [if_neg hl0,ho]; rfl
   rw [hfo] at c6 c7
   have hom:=h.ent to _ (List.mem_of_getElem? (entT_some ho))
   simp only at hom
   have hok:(E o).k ≠ 2 ∨ (E o).l = []:=by
    unfold yieldE at c7
    rw [if_neg (by omega),if_neg (by omega)] at c7
    by_cases ok:(E o).k = 2
    ·right
     split at c7
     ·simp at c7
     rename_i c8
     split at c7
     ·simp at c7
     split at c7
     ·simp at c7
     rename_i c9
     simpa using c9
    ·exact .inl ok
   have hT:=h.leave d1 ho hok
   have hno:∀ c,(E c).l ≠ [] → c ≠ o:=fun c hc e => by
    subst e
    rcases hok with hok | hok
    ·exact hc (h.lst _ hok)
    ·exact hc hok
   have hmo:=(ris_ent (h.ris to)).1 ho
   have hmi:=(ris_ent (h.ris fr)).1 he
   have hton:to ≠ o:=hno to (fun e => by rw [e] at hmo; cases hmo)
   have hfrn:fr ≠ o:=hno fr (fun e => by rw [e] at hmi; cases hmi)
   have hio:i ≠ o:=fun e => c6 e.symm
   have u1:=leave_up ho hton
   have u2:=leave_up ho hfrn
   have u3:=leave_up ho hio
   refine ⟨hT,by rw [u1.2.1]; exact d1,?_,hl0,by rw [u2.2.1]; exact t1,?_,C.leave h hB ho (by
    rcases hok with hok | hok
    ·exact h.lst _ hok
    ·exact hok),u3.2.1⟩
   ·rw [u1.2.2.2.2,if_pos rfl]
    exact (ris_none (ris_del (h.ris _))).2 fun j hj => by
     have:=((mem_del (h.ris to) (entT_some ho) _).1 hj).2
     exact this rfl
   ·rw [u2.2.2.2.2]
    split
    ·rename_i e
     rw [ris_ent (ris_del (h.ris _)),mem_del (h.ris to) (entT_some ho)]
     rw [e] at hmi
     refine ⟨hmi,fun e2 => ?_⟩
     simp only at e2
     subst e2
     have:=(ris_ent (h.ris to)).2 hmi
     rw [ho] at this
     injection this with this
     exact hio this.symm
    ·exact he
 obtain ⟨E1,hE1,k1,k2,k3,k4,k5,k6,k7,k8⟩:=key
 rw [← hE1]
 have hto1:to ≤ n:=(k1.kle (i:=to) (by omega)).2
 have hfr1:fr ≤ n:=(k1.kle (i:=fr) (by omega)).2
 have hmi:=(ris_ent (k1.ris fr)).1 k6
 obtain ⟨hn1,hn3,_⟩:=k7.named k1 hmi
 have hik:(E1 i).k ≠ 0:=fun hk => by
  have:=k7.nm i hn3
  rw [k7.fre i hk] at this
  omega
 have C2:=k7.enter (k1.cnt hB) (a:=to) (i:=i) (p:=lastN b) hto1 hik
 have f2:=enter_f E1 to (lastN b) i
 refine C2.leaveB (i:=i) (fun j => ?_) ?_ hn3 hfr1 fun hc => ?_
 ·rw [cnt_enter E1 hto1]
  have:=k1.cnt hB j
  split <;> omega
 ·have hr:RisT (enterE E1 to (lastN b) i fr).l:=by
   rw [(f2 fr).1.l]
   split
   ·exact ris_ins (k1.ris to) k3
   ·exact k1.ris fr
  rw [ris_ent hr,(f2 fr).1.l]
  split
  ·rename_i e; rw [e] at hmi; exact mem_insT.2 (.inr hmi)
  ·exact hmi
 ·rw [cnt_enter E1 hto1,if_pos rfl] at hc
  omega
theorem Ct.doE {n B:Nat} {E:Tr} (C:Ct n E) (h:TOk n B E) (hB:B ≤ 1000) {o:OpT} (ha:okS o.a) (hb:okS o.b):Ct n (Go.Proofs.YtgcpgidofikcdaaGreatDoor.doE n E o).2:=by
 unfold Go.Proofs.YtgcpgidofikcdaaGreatDoor.doE
 by_cases c:o.kind = 1
 ·rw [if_pos c]; exact C.makeE h hB ha (by decide)
 rw [if_neg c]
 by_cases c:o.kind = 2
 ·rw [if_pos c]; exact C.makeE h hB ha (by decide)
 rw [if_neg c]
 by_cases c:o.kind = 3
 ·rw [if_pos c]; exact C.linkE h hB hb
 rw [if_neg c]
 by_cases c:o.kind = 4
 ·rw [if_pos c]; exact C.unlinkE h hB
 rw [if_neg c]
 by_cases c:o.kind = 5
 ·rw [if_pos c]; exact C.rmdirE h hB
 rw [if_neg c]
 by_cases c:o.kind = 6
 ·rw [if_pos c]; exact C.renameE h hB
 rw [if_neg c]
 by_cases c:o.kind = 7
 ·rw [if_pos c]
  unfold symlinkE
  split
  ·exact C
  ·exact C.makeE h hB ha (by decide)
 rw [if_neg c]
 by_cases c:o.kind = 8
 ·rw [if_pos c]; unfold readlinkE; (repeat' split) <;> exact C
 rw [if_neg c]
 by_cases c:o.kind = 9
 ·rw [if_pos c]; unfold readE; (repeat' split) <;> exact C
 rw [if_neg c]
 by_cases c:o.kind = 10
 ·rw [if_pos c]; unfold writeE; (repeat' split) <;> first | exact C | exact C.same (setD_f _ _ _)
 rw [if_neg c]
 by_cases c:o.kind = 11
 ·rw [if_pos c]; unfold truncE; (repeat' split) <;> first | exact C | exact C.same (setD_f _ _ _)
 rw [if_neg c]
 by_cases c:o.kind = 12
 ·rw [if_pos c]; unfold statE; (repeat' split) <;> exact C
 rw [if_neg c]
 by_cases c:o.kind = 13
 ·rw [if_pos c]; unfold namesE; (repeat' split) <;> exact C
 rw [if_neg c]
 exact C
end Go.Proofs.YtgcpgidofikcdaaGreatDoor

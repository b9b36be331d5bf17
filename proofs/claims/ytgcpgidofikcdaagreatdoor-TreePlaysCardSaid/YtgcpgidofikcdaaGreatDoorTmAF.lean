/-
  PLAIN: TmA, TmB, TmC, TmD, TmE, TmF, in one text.
-/
import Derived.Test.YtgcpgidofikcdaaGreatDoorPaP
import Derived.Test.YtgcpgidofikcdaaGreatDoorPaGa
set_option linter.unusedSimpArgs false
set_option linter.unusedVariables false
namespace Go.Proofs.YtgcpgidofikcdaaGreatDoor
open Go.RowKit Ev
structure Ent where
 k:Nat
 up:Nat
 nm:Int
 d:Tx
 l:List (Tx × Nat)
def noE:Ent:=⟨0,0,0,[],[]⟩
abbrev Tr:=Nat → Ent
def updE (E:Tr) (i:Nat) (e:Ent):Tr:=fun j => if j = i then e else E j
theorem updE_same (E:Tr) (i:Nat) (e:Ent):updE E i e i = e:=if_pos rfl
theorem updE_ne (E:Tr) {i j:Nat} (e:Ent) (h:j ≠ i):updE E i e j = E j:=if_neg h
def lostT:Tx:=[108,111,115,116,43,102,111,117,110,100]
def dots:Tx:=[46,46]
def cntT (p:Tx) (l:List (Tx × Nat)):Nat:=(l.filter fun x => decide (x.1 < p)).length
theorem cntT_le (p:Tx) (l:List (Tx × Nat)):cntT p l ≤ l.length:=List.length_filter_le _ _
def entT (p:Tx) (l:List (Tx × Nat)):Option Nat:=match l[cntT p l]? with
 | some x => if x.1 = p then some x.2 else none
 | none => none
theorem entT_some {p:Tx} {l:List (Tx × Nat)} {i:Nat} (h:entT p l = some i):l[cntT p l]? = some (p,i):=by
 unfold entT at h
 cases hx:l[cntT p l]? with
 | none => rw [hx] at h; cases h
 | some x =>
  rw [hx] at h
  simp only at h
  split at h
  ·rename_i e; injection h with h; obtain ⟨a,b⟩:=x; simp only at e h; subst e h; rfl
  ·cases h
def findE (E:Tr) (a:Nat) (p:Tx):Nat:=if a = 1 ∧ p = lostT then 2 else (entT p (E a).l).getD 0
def insT (c:Nat) (x:Tx × Nat) (l:List (Tx × Nat)):List (Tx × Nat):=l.take c ++ x :: l.drop c
def enter1 (E:Tr) (a:Nat) (p:Tx) (i:Nat):Tr:=updE E a { E a with l:=insT (cntT p (E a).l) (p,i) (E a).l }
def enter2 (E:Tr) (i:Nat):Tr:=updE E i { E i with nm:=IntKind.i64.wrap ((E i).nm + 1) }
def enter3 (E:Tr) (a i:Nat):Tr:=updE E i { E i with up:=a }
def enterE (E:Tr) (a:Nat) (p:Tx) (i:Nat):Tr:=enter3 (enter2 (enter1 E a p i) i) a i
def leave1 (E:Tr) (a:Nat) (p:Tx):Tr:=updE E a { E a with l:=(E a).l.eraseIdx (cntT p (E a).l) }
def leave2 (E:Tr) (i:Nat):Tr:=updE E i { E i with nm:=IntKind.i64.wrap ((E i).nm - 1) }
def leave3 (E:Tr) (i:Nat):Tr:=if (E i).nm = 0 then updE E i noE else E
def leaveE (E:Tr) (a:Nat) (p:Tx):Tr:=match entT p (E a).l with
 | some i => leave3 (leave2 (leave1 E a p) i) i
 | none => E
def spareE (n:Nat) (E:Tr):Nat:=((List.range (n + 1)).find? fun i => decide (1 ≤ i ∧ (E i).k = 0)).getD 0
def walkE (E:Tr) (h a:Nat) (ps:List Tx) (last:Bool):{r:Nat × Nat × Int // h ≤ r.1} :=
 match ps with
 | [] => ⟨(h,a,0),Nat.le_refl _⟩
 | p :: ps =>
  if (E a).k ≠ 2 then ⟨(h,0,4),Nat.le_refl _⟩
  else if p = dots then walkE E h (E a).up ps last
  else if findE E a p = 0 then ⟨(h,0,2),Nat.le_refl _⟩
  else if (E (findE E a p)).k = 3 ∧ (last = true ∨ ps ≠ []) then
   if h8:8 ≤ h then ⟨(h + 1,0,11),Nat.le_succ _⟩
   else if errS (E (findE E a p)).d ≠ 0 then ⟨(h + 1,0,errS (E (findE E a p)).d),Nat.le_succ _⟩
   else
    match walkE E (h + 1) (if (E (findE E a p)).d.head? = some 47 then 1 else a) (parS (E (findE E a p)).d) true with
    | ⟨(h2,a2,e),hle⟩ =>
     if e ≠ 0 then ⟨(h2,0,e),Nat.le_trans (Nat.le_succ _) hle⟩
     else
      match walkE E h2 a2 ps last with
      | ⟨r2,hle2⟩ => ⟨r2,Nat.le_trans (Nat.le_trans (Nat.le_succ _) hle) hle2⟩
  else walkE E h (findE E a p) ps last
termination_by (9 - h,ps.length)
decreasing_by
 all_goals first
  | (apply Prod.Lex.right; simp)
  | (apply Prod.Lex.left; omega)
  | (apply Prod.Lex.left; simp only at hle; omega)
def walk (E:Tr) (h a:Nat) (ps:List Tx) (last:Bool):Nat × Nat × Int:=(walkE E h a ps last).1
def follE (E:Tr) (h a i:Nat):Nat × Nat × Int :=
 if 8 ≤ h then (h + 1,0,11)
 else if errS (E i).d ≠ 0 then (h + 1,0,errS (E i).d)
 else walk E (h + 1) (if (E i).d.head? = some 47 then 1 else a) (parS (E i).d) true
theorem walk_le (E:Tr) (h a:Nat) (ps:List Tx) (last:Bool):h ≤ (walk E h a ps last).1:=(walkE E h a ps last).2
theorem follE_le (E:Tr) (h a i:Nat):h + 1 ≤ (follE E h a i).1:=by
 unfold follE
 split
 ·exact Nat.le_refl _
 split
 ·exact Nat.le_refl _
 ·exact walk_le ..
theorem walk_nil (E:Tr) (h a:Nat) (last:Bool):walk E h a [] last = (h,a,0):=by unfold walk; rw [walkE]
theorem walk_cons (E:Tr) (h a:Nat) (p:Tx) (ps:List Tx) (last:Bool):walk E h a (p :: ps) last =
  if (E a).k ≠ 2 then (h,0,4)
  else if p = dots then walk E h (E a).up ps last
  else if findE E a p = 0 then (h,0,2)
  else if (E (findE E a p)).k = 3 ∧ (last = true ∨ ps ≠ []) then
   if (follE E h a (findE E a p)).2.2 ≠ 0 then ((follE E h a (findE E a p)).1,0,(follE E h a (findE E a p)).2.2)
   else walk E (follE E h a (findE E a p)).1 (follE E h a (findE E a p)).2.1 ps last
  else walk E h (findE E a p) ps last:=by
 unfold walk
 rw [walkE]
 by_cases h1:(E a).k ≠ 2
 ·rw [if_pos h1,if_pos h1]
 rw [if_neg h1,if_neg h1]
 by_cases h2:p = dots
 ·rw [if_pos h2,if_pos h2]
 rw [if_neg h2,if_neg h2]
 by_cases h3:findE E a p = 0
 ·rw [if_pos h3,if_pos h3]
 rw [if_neg h3,if_neg h3]
 by_cases h4:(E (findE E a p)).k = 3 ∧ (last = true ∨ ps ≠ [])
 ·rw [if_pos h4,if_pos h4]
  unfold follE walk
  by_cases h5:8 ≤ h
  ·rw [dif_pos h5,if_pos h5,if_pos (fun e => by cases e)]
  rw [dif_neg h5,if_neg h5]
  by_cases h6:errS (E (findE E a p)).d ≠ 0
  ·rw [if_pos h6,if_pos h6,if_pos h6]
  rw [if_neg h6,if_neg h6]
  obtain ⟨⟨h2,a2,e⟩,hle⟩:=walkE E (h + 1) (if (E (findE E a p)).d.head? = some 47 then 1 else a) (parS (E (findE E a p)).d) true
  simp only
  by_cases h7:e ≠ 0
  ·rw [if_pos h7,if_pos h7]
  ·rw [if_neg h7,if_neg h7]
 ·rw [if_neg h4,if_neg h4]
structure Rs where
 err:Int
 node:Nat
 ty:Nat
 links:Int
 size:Nat
 data:Tx
 names:List Tx
def refR (e:Int):Rs:=⟨e,0,0,0,0,[],[]⟩
def nodeR (i:Nat):Rs:=⟨0,i,0,0,0,[],[]⟩
end Go.Proofs.YtgcpgidofikcdaaGreatDoor
set_option linter.unusedSimpArgs false
set_option linter.unusedVariables false
namespace Go.Proofs.YtgcpgidofikcdaaGreatDoor
open Go.RowKit Ev
def wayE (E:Tr) (s:Tx) (last:Bool):Nat × Int:=if errS s ≠ 0 then (0,errS s) else (walk E 0 1 (parS s) last).2
def dirE (E:Tr) (ps:List Tx):Nat × Int :=
 if (walk E 0 1 ps true).2.2 ≠ 0 then (0,(walk E 0 1 ps true).2.2)
 else if (E (walk E 0 1 ps true).2.1).k ≠ 2 then (0,4)
 else ((walk E 0 1 ps true).2.1,0)
def lastDE (E:Tr) (s:Tx):Nat × Tx × Int:=if lastE s ≠ 0 then (0,[],lastE s) else ((dirE E (lastD s)).1,lastN s,(dirE E (lastD s)).2)
def thereE (E:Tr) (s:Tx):Nat × Nat × Tx × Int :=
 if (lastDE E s).2.2 ≠ 0 then (0,0,[],(lastDE E s).2.2)
 else if findE E (lastDE E s).1 (lastDE E s).2.1 = 0 then (0,0,[],2)
 else ((lastDE E s).1,findE E (lastDE E s).1 (lastDE E s).2.1,(lastDE E s).2.1,0)
def roomE (E:Tr) (s:Tx):Nat × Tx × Int :=
 if (lastDE E s).2.2 ≠ 0 then (0,[],(lastDE E s).2.2)
 else if findE E (lastDE E s).1 (lastDE E s).2.1 ≠ 0 then (0,[],3)
 else if (lastDE E s).1 = 2 then (0,[],12)
 else ((lastDE E s).1,(lastDE E s).2.1,0)
def fileE (E:Tr) (s:Tx):Nat × Int :=
 if (wayE E s true).2 ≠ 0 then (0,(wayE E s true).2)
 else if (E (wayE E s true).1).k = 2 then (0,5)
 else ((wayE E s true).1,0)
def makeE (n:Nat) (E:Tr) (s:Tx) (k:Nat) (d:Tx):Rs × Tr :=
 if (roomE E s).2.2 ≠ 0 then (refR (roomE E s).2.2,E)
 else if spareE n E = 0 then (refR 7,E)
 else (nodeR (spareE n E),enterE (updE E (spareE n E) ⟨k,0,0,d,[]⟩) (roomE E s).1 (roomE E s).2.1 (spareE n E))
def linkE (E:Tr) (a b:Tx):Rs × Tr :=
 if (wayE E a false).2 ≠ 0 then (refR (wayE E a false).2,E)
 else if (E (wayE E a false).1).k = 2 then (refR 5,E)
 else if (roomE E b).2.2 ≠ 0 then (refR (roomE E b).2.2,E)
 else if 200 ≤ (E (wayE E a false).1).nm then (refR 10,E)
 else (nodeR (wayE E a false).1,enterE E (roomE E b).1 (roomE E b).2.1 (wayE E a false).1)
def unlinkE (E:Tr) (a:Tx):Rs × Tr :=
 if (thereE E a).2.2.2 ≠ 0 then (refR (thereE E a).2.2.2,E)
 else if (E (thereE E a).2.1).k = 2 then (refR 5,E)
 else (nodeR (thereE E a).2.1,leaveE E (thereE E a).1 (thereE E a).2.2.1)
def rmdirE (E:Tr) (a:Tx):Rs × Tr :=
 if (thereE E a).2.2.2 ≠ 0 then (refR (thereE E a).2.2.2,E)
 else if (E (thereE E a).2.1).k ≠ 2 then (refR 4,E)
 else if (thereE E a).2.1 = 2 then (refR 12,E)
 else if (E (thereE E a).2.1).l ≠ [] then (refR 6,E)
 else (nodeR (thereE E a).2.1,leaveE E (thereE E a).1 (thereE E a).2.2.1)
def symlinkE (n:Nat) (E:Tr) (a d:Tx):Rs × Tr :=
 if d.length = 0 ∨ 400 < d.length then (refR 1,E) else makeE n E a 3 d
def readlinkE (E:Tr) (a:Tx):Rs × Tr :=
 if (wayE E a false).2 ≠ 0 then (refR (wayE E a false).2,E)
 else if (E (wayE E a false).1).k ≠ 3 then (refR 1,E)
 else ({ nodeR (wayE E a false).1 with data:=(E (wayE E a false).1).d },E)
def cutT (at_ most:Int) (d:Tx):Tx:=(d.drop (min at_ (d.length:Int)).toNat).take (min most ((d.drop (min at_ (d.length:Int)).toNat).length:Int)).toNat
def readE (E:Tr) (a:Tx) (at_ most:Int):Rs × Tr :=
 if at_ < 0 ∨ most < 0 then (refR 1,E)
 else if (fileE E a).2 ≠ 0 then (refR (fileE E a).2,E)
 else ({ nodeR (fileE E a).1 with data:=cutT at_ most (E (fileE E a).1).d },E)
def padT (d:Tx) (size:Nat):Tx:=d.take size ++ List.replicate (size - d.length) 0
theorem padT_length (d:Tx) (size:Nat):(padT d size).length = size:=by unfold padT; simp; omega
def putT (d:Tx) (at_:Nat) (w:Tx):Tx:=d.take at_ ++ w ++ d.drop (at_ + w.length)
def setD (E:Tr) (i:Nat) (d:Tx):Tr:=updE E i { E i with d:=d }
def writeE (E:Tr) (a:Tx) (at_:Int) (w:Tx):Rs × Tr :=
 if at_ < 0 then (refR 1,E)
 else if (fileE E a).2 ≠ 0 then (refR (fileE E a).2,E)
 else if w.length = 0 then ({ nodeR (fileE E a).1 with size:=(E (fileE E a).1).d.length },E)
 else if 4096 - (w.length:Int) < at_ then (refR 9,E)
 else ({ nodeR (fileE E a).1 with size:=max (E (fileE E a).1).d.length (at_.toNat + w.length) },setD E (fileE E a).1 (putT (padT (E (fileE E a).1).d (max (E (fileE E a).1).d.length (at_.toNat + w.length))) at_.toNat w))
def truncE (E:Tr) (a:Tx) (size:Int):Rs × Tr :=
 if size < 0 then (refR 1,E)
 else if (fileE E a).2 ≠ 0 then (refR (fileE E a).2,E)
 else if 4096 < size then (refR 9,E)
 else ({ nodeR (fileE E a).1 with size:=size.toNat },setD E (fileE E a).1 (padT (E (fileE E a).1).d size.toNat))
def statE (E:Tr) (a:Tx):Rs × Tr :=
 if (wayE E a false).2 ≠ 0 then (refR (wayE E a false).2,E)
 else if (E (wayE E a false).1).k = 2 then (⟨0,(wayE E a false).1,2,1,(E (wayE E a false).1).l.length,[],[]⟩,E)
 else (⟨0,(wayE E a false).1,(E (wayE E a false).1).k,(E (wayE E a false).1).nm,(E (wayE E a false).1).d.length,[],[]⟩,E)
def listT (E:Tr) (i:Nat):List Tx:=if i = 1 then ((E 1).l.map (·.1)).take (cntT lostT (E 1).l) ++ lostT :: ((E 1).l.map (·.1)).drop (cntT lostT (E 1).l) else (E i).l.map (·.1)
def namesE (E:Tr) (a:Tx):Rs × Tr :=
 if (wayE E a true).2 ≠ 0 then (refR (wayE E a true).2,E)
 else if (E (wayE E a true).1).k ≠ 2 then (refR 4,E)
 else ({ nodeR (wayE E a true).1 with names:=listT E (wayE E a true).1 },E)
inductive Wn (E:Tr) (i:Nat):Nat → Prop
 | here:Wn E i i
 | up {a:Nat}:a ≠ 1 → Wn E i (E a).up → Wn E i a
def yieldE (E:Tr) (o i:Nat):Int :=
 if o = 0 then 0
 else if o = 2 then 12
 else if (E o).k = 2 ∧ (E i).k ≠ 2 then 5
 else if (E o).k ≠ 2 ∧ (E i).k = 2 then 4
 else if (E o).l ≠ [] then 6
 else 0
open Classical in
noncomputable def renameE (E:Tr) (a b:Tx):Rs × Tr :=
 if lastE a ≠ 0 then (refR (lastE a),E)
 else if lastE b ≠ 0 then (refR (lastE b),E)
 else if (thereE E a).2.2.2 ≠ 0 then (refR (thereE E a).2.2.2,E)
 else if (thereE E a).2.1 = 2 then (refR 12,E)
 else if (dirE E (lastD b)).2 ≠ 0 then (refR (dirE E (lastD b)).2,E)
 else if (dirE E (lastD b)).1 = 2 then (refR 12,E)
 else if Wn E (thereE E a).2.1 (dirE E (lastD b)).1 then (refR 1,E)
 else if findE E (dirE E (lastD b)).1 (lastN b) = (thereE E a).2.1 then (nodeR (thereE E a).2.1,E)
 else if yieldE E (findE E (dirE E (lastD b)).1 (lastN b)) (thereE E a).2.1 ≠ 0 then (refR (yieldE E (findE E (dirE E (lastD b)).1 (lastN b)) (thereE E a).2.1),E)
 else (nodeR (thereE E a).2.1,leaveE (enterE (leaveE E (dirE E (lastD b)).1 (lastN b)) (dirE E (lastD b)).1 (lastN b) (thereE E a).2.1) (thereE E a).1 (thereE E a).2.2.1)
structure OpT where
 kind:Int
 a:Tx
 b:Tx
 at_:Int
 n:Int
 data:Tx
noncomputable def doE (n:Nat) (E:Tr) (o:OpT):Rs × Tr :=
 if o.kind = 1 then makeE n E o.a 2 []
 else if o.kind = 2 then makeE n E o.a 1 []
 else if o.kind = 3 then linkE E o.a o.b
 else if o.kind = 4 then unlinkE E o.a
 else if o.kind = 5 then rmdirE E o.a
 else if o.kind = 6 then renameE E o.a o.b
 else if o.kind = 7 then symlinkE n E o.a o.data
 else if o.kind = 8 then readlinkE E o.a
 else if o.kind = 9 then readE E o.a o.at_ o.n
 else if o.kind = 10 then writeE E o.a o.at_ o.data
 else if o.kind = 11 then truncE E o.a o.n
 else if o.kind = 12 then statE E o.a
 else if o.kind = 13 then namesE E o.a
 else (refR 1,E)
end Go.Proofs.YtgcpgidofikcdaaGreatDoor
set_option linter.unusedSimpArgs false
set_option linter.unusedVariables false
namespace Go.Proofs.YtgcpgidofikcdaaGreatDoor
open Go.RowKit Ev
def RisT (l:List (Tx × Nat)):Prop:=l.Pairwise fun a b => a.1 < b.1
theorem ltT_irrefl (a:Tx):¬ a < a:=List.lt_irrefl a
theorem ltT_trans {a b c:Tx} (h:a < b) (k:b < c):a < c:=List.lt_trans h k
theorem ltT_tri (a b:Tx) (h:¬ a < b) (k:a ≠ b):b < a:=by
 refine Classical.byContradiction fun h1 => k ?_
 exact List.le_antisymm (List.not_lt.1 h1) (List.not_lt.1 h)
theorem cntT_lt {p:Tx}:∀ {l:List (Tx × Nat)},RisT l → ∀ {i:Nat} (h:i < l.length),i < cntT p l ↔ l[i].1 < p
 | [],_,i,h => by simp at h
 | x :: l,hr,i,h => by
  have hr':RisT l:=(List.pairwise_cons.1 hr).2
  by_cases hx:x.1 < p
  ·have e:cntT p (x :: l) = cntT p l + 1:=by unfold cntT; rw [List.filter_cons,if_pos (by simpa using hx)]; rfl
   rw [e]
   cases i with
   | zero => simpa using hx
   | succ i => simpa using cntT_lt hr' (by simpa using h)
  ·have e:cntT p (x :: l) = 0:=by
    unfold cntT
    rw [List.length_eq_zero_iff,List.filter_eq_nil_iff]
    intro y hy
    rcases List.mem_cons.1 hy with rfl | hy
    ·simpa using hx
    ·have:=(List.pairwise_cons.1 hr).1 y hy
     simp only [decide_eq_true_eq]
     exact fun h => hx (ltT_trans this h)
   rw [e]
   cases i with
   | zero => simpa using hx
   | succ i =>
    have:=(List.pairwise_cons.1 hr).1 (l[i]'(by simpa using h)) (List.getElem_mem _)
    simp only [List.getElem_cons_succ,Nat.not_lt_zero,false_iff]
    exact fun h => hx (ltT_trans this h)
theorem ris_one {l:List (Tx × Nat)} (hr:RisT l) {i j:Nat} (hi:i < l.length) (hj:j < l.length) (e:l[i].1 = l[j].1):i = j:=by
 have h:=List.pairwise_iff_getElem.1 hr
 rcases Nat.lt_trichotomy i j with h1 | h1 | h1
 ·have:=h i j hi hj h1; rw [e] at this; exact absurd this (ltT_irrefl _)
 ·exact h1
 ·have:=h j i hj hi h1; rw [e] at this; exact absurd this (ltT_irrefl _)
theorem ent_of {p:Tx} {l:List (Tx × Nat)} {i:Nat} (hr:RisT l) (h:(p,i) ∈ l):l[cntT p l]? = some (p,i):=by
 obtain ⟨j,hj,e⟩:=List.getElem_of_mem h
 have h1:¬ j < cntT p l:=fun hh => by have:=(cntT_lt hr hj).1 hh; rw [e] at this; exact ltT_irrefl _ this
 have h2:¬ cntT p l < j:=fun hh => by
  have hc:cntT p l < l.length:=by omega
  have h3:¬ l[cntT p l].1 < p:=fun h4 => Nat.lt_irrefl _ ((cntT_lt hr hc).2 h4)
  have h4:=List.pairwise_iff_getElem.1 hr (cntT p l) j hc hj hh
  rw [e] at h4
  exact h3 h4
 have:cntT p l = j:=by omega
 rw [this,List.getElem?_eq_getElem hj,e]
theorem ris_ent {p:Tx} {l:List (Tx × Nat)} {i:Nat} (hr:RisT l):entT p l = some i ↔ (p,i) ∈ l:=by
 constructor
 ·exact fun h => List.mem_of_getElem? (entT_some h)
 ·intro h
  unfold entT
  rw [ent_of hr h]
  simp
theorem ris_none {p:Tx} {l:List (Tx × Nat)} (hr:RisT l):entT p l = none ↔ ∀ i,(p,i) ∉ l:=by
 constructor
 ·intro h i hm
  rw [(ris_ent hr).2 hm] at h; cases h
 ·intro h
  cases he:entT p l with
  | none => rfl
  | some i => exact absurd ((ris_ent hr).1 he) (h i)
theorem mem_insT {c:Nat} {x y:Tx × Nat} {l:List (Tx × Nat)}:y ∈ insT c x l ↔ y = x ∨ y ∈ l:=by
 unfold insT
 rw [List.mem_append,List.mem_cons]
 constructor
 ·rintro (h | h | h)
  ·exact .inr (List.mem_of_mem_take h)
  ·exact .inl h
  ·exact .inr (List.mem_of_mem_drop h)
 ·rintro (h | h)
  ·exact .inr (.inl h)
  ·rw [← List.take_append_drop c l,List.mem_append] at h
   rcases h with h | h
   ·exact .inl h
   ·exact .inr (.inr h)
theorem insT_length {c:Nat} {x:Tx × Nat} {l:List (Tx × Nat)} (h:c ≤ l.length):(insT c x l).length = l.length + 1:=by simp [insT]; omega
theorem ris_ins {p:Tx} {i:Nat} {l:List (Tx × Nat)} (hr:RisT l) (hn:entT p l = none):RisT (insT (cntT p l) (p,i) l):=by
 have hn:=(ris_none hr).1 hn
 have hc:=cntT_le p l
 unfold RisT insT at *
 rw [List.pairwise_append]
 have lo:∀ x ∈ l.take (cntT p l),x.1 < p:=fun x hx => by
  obtain ⟨j,hj,rfl⟩:=List.getElem_of_mem hx
  rw [List.length_take] at hj
  rw [List.getElem_take]
  exact (cntT_lt hr (by omega)).1 (by omega)
 have hi:∀ x ∈ l.drop (cntT p l),p < x.1:=fun x hx => by
  obtain ⟨j,hj,rfl⟩:=List.getElem_of_mem hx
  rw [List.length_drop] at hj
  rw [List.getElem_drop]
  have hlt:cntT p l + j < l.length:=by omega
  refine ltT_tri _ _ (fun hh => ?_) (fun hh => ?_)
  ·have:=(cntT_lt hr hlt).2 hh; omega
  ·refine hn (l[cntT p l + j]).2 ?_
   have e:(p,(l[cntT p l + j]).2) = l[cntT p l + j]:=by rw [Prod.ext_iff]; exact ⟨hh.symm,rfl⟩
   rw [e]
   exact List.getElem_mem hlt
 refine ⟨List.Pairwise.sublist (List.take_sublist _ _) hr,List.pairwise_cons.2 ⟨hi,List.Pairwise.sublist (List.drop_sublist _ _) hr⟩,fun a ha b hb => ?_⟩
 rcases List.mem_cons.1 hb with rfl | hb
 ·exact lo a ha
 ·exact ltT_trans (lo a ha) (hi b hb)
theorem ris_del {k:Nat} {l:List (Tx × Nat)} (hr:RisT l):RisT (l.eraseIdx k):=List.Pairwise.sublist (List.eraseIdx_sublist _ _) hr
theorem mem_del {k:Nat} {p:Tx} {i:Nat} {l:List (Tx × Nat)} (hr:RisT l) (hk:l[k]? = some (p,i)) (x:Tx × Nat):x ∈ l.eraseIdx k ↔ x ∈ l ∧ x.1 ≠ p:=by
 obtain ⟨hlt,he⟩:=List.getElem?_eq_some_iff.1 hk
 rw [List.mem_eraseIdx_iff_getElem]
 constructor
 ·rintro ⟨j,hj,hjk,rfl⟩
  exact ⟨List.getElem_mem _,fun e => hjk (ris_one hr hj hlt (by rw [e,he]))⟩
 ·rintro ⟨hm,hne⟩
  obtain ⟨j,hj,rfl⟩:=List.getElem_of_mem hm
  exact ⟨j,hj,fun e => hne (by subst e; rw [he]),rfl⟩
inductive Rt (E:Tr):Nat → Prop
 | one:Rt E 1
 | up {a:Nat}:Rt E (E a).up → Rt E a
structure TOk (n B:Nat) (E:Tr):Prop where
 n2:2 ≤ n ∧ n ≤ 64
 zero:(E 0).k = 0
 out:∀ i,n < i → E i = noE
 root:(E 1).k = 2 ∧ (E 1).up = 1
 lost:(E 2).k = 2 ∧ (E 2).up = 1 ∧ (E 2).l = []
 upn:∀ i,(E i).up ≤ n
 ris:∀ i,RisT (E i).l
 ent:∀ i,∀ x ∈ (E i).l,okS x.1 ∧ 3 ≤ x.2 ∧ x.2 ≤ n
 len:∀ i,(E i).l.length ≤ B
 dat:∀ i,okS (E i).d ∧ (E i).d.length ≤ 4096
 knd:∀ i,(E i).k ≤ 3
 lst:∀ i,(E i).k ≠ 2 → (E i).l = []
 dir:∀ i,3 ≤ i → (E i).k = 2 → (E i).nm = 1 ∧ (E (E i).up).k = 2 ∧ ∃ p,(p,i) ∈ (E (E i).up).l
 chain:∀ i,(E i).k = 2 → Rt E i
structure LOk (n B:Nat) (E:Tr) (a:Nat):Prop where
 ris:RisT (E a).l
 ent:∀ x ∈ (E a).l,okS x.1 ∧ x.2 ≤ n
 len:(E a).l.length ≤ B
theorem TOk.lok {n B:Nat} {E:Tr} (h:TOk n B E) (a:Nat):LOk n B E a:=⟨h.ris a,fun x hx => ⟨(h.ent a x hx).1,(h.ent a x hx).2.2⟩,h.len a⟩
theorem TOk.mono {n B C:Nat} {E:Tr} (h:TOk n B E) (k:B ≤ C):TOk n C E:={ h with len:=fun i => Nat.le_trans (h.len i) k }
theorem TOk.find {n B:Nat} {E:Tr} (h:TOk n B E) (a:Nat) (p:Tx):findE E a p ≤ n ∧ (findE E a p ≠ 0 → 2 ≤ findE E a p):=by
 unfold findE
 have:=h.n2
 split
 ·omega
 ·cases he:entT p (E a).l with
  | none => simp
  | some i =>
   have:=h.ent a _ (List.mem_of_getElem? (entT_some he))
   simp only at this
   simp; omega
theorem TOk.kle {n B:Nat} {E:Tr} (h:TOk n B E) {i:Nat} (hk:(E i).k ≠ 0):1 ≤ i ∧ i ≤ n:=by
 refine ⟨?_,?_⟩
 ·rcases Nat.eq_zero_or_pos i with rfl | h1
  ·exact absurd h.zero hk
  ·exact h1
 ·refine Nat.le_of_not_lt fun hlt => hk ?_
  rw [h.out i hlt]; rfl
theorem TOk.up1 {n B:Nat} {E:Tr} (h:TOk n B E) {a:Nat} (hk:(E a).k = 2):1 ≤ (E a).up ∧ (E a).up ≤ n ∧ (E (E a).up).k = 2:=by
 have h1:=(h.kle (i:=a) (by omega)).1
 refine ⟨?_,h.upn a,?_⟩
 ·by_cases c1:a = 1
  ·subst c1; rw [h.root.2]; exact Nat.le_refl _
  by_cases c2:a = 2
  ·subst c2; rw [h.lost.2.1]; exact Nat.le_refl _
  exact (h.kle (by have:=(h.dir a (by omega) hk).2.1; omega)).1
 ·by_cases c1:a = 1
  ·subst c1; rw [h.root.2]; exact h.root.1
  by_cases c2:a = 2
  ·subst c2; rw [h.lost.2.1]; exact h.root.1
  exact (h.dir a (by omega) hk).2.1
theorem TOk.walk {n B:Nat} {E:Tr} (h:TOk n B E):∀ (m hp a:Nat) (ps:List Tx) (last:Bool),9 - hp ≤ m → 1 ≤ a → a ≤ n → (Go.Proofs.YtgcpgidofikcdaaGreatDoor.walk E hp a ps last).2.1 ≤ n ∧ ((Go.Proofs.YtgcpgidofikcdaaGreatDoor.walk E hp a ps last).2.2 = 0 → 1 ≤ (Go.Proofs.YtgcpgidofikcdaaGreatDoor.walk E hp a ps last).2.1) ∧ ((Go.Proofs.YtgcpgidofikcdaaGreatDoor.walk E hp a ps last).2.2 ≠ 0 → (Go.Proofs.YtgcpgidofikcdaaGreatDoor.walk E hp a ps last).2.1 = 0):=by
 intro m
 induction m with
 | zero =>
  intro hp a ps
  induction ps generalizing a with
  | nil => intro last _ h1 h2; rw [walk_nil]; exact ⟨h2,fun _ => h1,fun hh => absurd rfl hh⟩
  | cons p ps ih =>
   intro last hm h1 h2
   rw [walk_cons]
   split
   ·exact ⟨Nat.zero_le _,fun hh => (by cases hh),fun _ => rfl⟩
   rename_i c1
   split
   ·have:=h.up1 (a:=a) (by omega)
    exact ih _ last hm this.1 this.2.1
   split
   ·exact ⟨Nat.zero_le _,fun hh => (by cases hh),fun _ => rfl⟩
   rename_i c3
   have hf:=h.find a p
   split
   ·have e:follE E hp a (findE E a p) = (hp + 1,0,11):=by unfold follE; rw [if_pos (by omega)]
    rw [e,if_pos (fun hh => by cases hh)]
    exact ⟨Nat.zero_le _,fun hh => (by cases hh),fun _ => rfl⟩
   ·exact ih _ last hm (by have:=hf.2 c3; omega) hf.1
 | succ m ihm =>
  intro hp a ps
  induction ps generalizing hp a with
  | nil => intro last _ h1 h2; rw [walk_nil]; exact ⟨h2,fun _ => h1,fun hh => absurd rfl hh⟩
  | cons p ps ih =>
   intro last hm h1 h2
   rw [walk_cons]
   split
   ·exact ⟨Nat.zero_le _,fun hh => (by cases hh),fun _ => rfl⟩
   rename_i c1
   split
   ·have:=h.up1 (a:=a) (by omega)
    exact ih _ _ last hm this.1 this.2.1
   split
   ·exact ⟨Nat.zero_le _,fun hh => (by cases hh),fun _ => rfl⟩
   rename_i c3
   have hf:=h.find a p
   split
   ·have hfl:=follE_le E hp a (findE E a p)
    split
    ·rename_i c5
     exact ⟨Nat.zero_le _,fun hh => absurd hh c5,fun _ => rfl⟩
    ·rename_i c5
     have c5:(follE E hp a (findE E a p)).2.2 = 0:=by omega
     have h0:=h.n2
     have:1 ≤ (follE E hp a (findE E a p)).2.1 ∧ (follE E hp a (findE E a p)).2.1 ≤ n:=by
      unfold follE at c5 ⊢
      split at c5
      ·cases c5
      rename_i c6
      rw [if_neg c6]
      split at c5
      ·rename_i c7; exact absurd c5 c7
      rename_i c7
      rw [if_neg c7]
      have h1':1 ≤ (if (E (findE E a p)).d.head? = some 47 then 1 else a) ∧ (if (E (findE E a p)).d.head? = some 47 then 1 else a) ≤ n:=by split <;> omega
      have:=ihm (hp + 1) _ (parS (E (findE E a p)).d) true (by omega) h1'.1 h1'.2
      exact ⟨this.2.1 c5,this.1⟩
     exact ihm _ _ ps last (by omega) this.1 this.2
   ·exact ih _ _ last hm (by have:=hf.2 c3; omega) hf.1
end Go.Proofs.YtgcpgidofikcdaaGreatDoor
set_option linter.unusedSimpArgs false
set_option linter.unusedVariables false
namespace Go.Proofs.YtgcpgidofikcdaaGreatDoor
open Go.RowKit Ev
theorem TOk.noEnt {n B:Nat} {E:Tr} (h:TOk n B E) {a:Nat} {p:Tx} (hf:findE E a p = 0):entT p (E a).l = .none:=by
 unfold findE at hf
 split at hf
 ·cases hf
 ·cases he:entT p (E a).l with
  | none => rfl
  | some i =>
   rw [he] at hf
   have:=(h.ent a _ (List.mem_of_getElem? (entT_some he))).2.1
   simp at hf this
   omega
theorem TOk.put {n B:Nat} {E E':Tr} (h:TOk n B E) {a i k:Nat} {p d:Tx} {nm:Int} (ha:(E a).k = 2) (ha2:a ≠ 2) (hf:findE E a p = 0) (hp:okS p) (hi:3 ≤ i ∧ i ≤ n) (hk:(E i).k ≠ 2) (hk3:k ≤ 3) (hnm:k = 2 → nm = 1) (hd:okS d ∧ d.length ≤ 4096)
  (e1:E' a = { E a with l:=insT (cntT p (E a).l) (p,i) (E a).l }) (e2:E' i = ⟨k,a,nm,d,[]⟩) (e3:∀ j,j ≠ a → j ≠ i → E' j = E j):TOk n (B + 1) E':=by
 have hn:=h.noEnt hf
 have hal:=h.kle (i:=a) (by omega)
 have hai:a ≠ i:=fun e => hk (e ▸ ha)
 have hl:∀ j,j ≠ i → (E' j).k = (E j).k ∧ (E' j).up = (E j).up ∧ (E' j).nm = (E j).nm ∧ (E' j).d = (E j).d ∧ ∀ x ∈ (E j).l,x ∈ (E' j).l:=fun j hj => by
  by_cases hja:j = a
  ·subst hja
   rw [e1]
   exact ⟨rfl,rfl,rfl,rfl,fun x hx => mem_insT.2 (.inr hx)⟩
  ·rw [e3 j hja hj]
   exact ⟨rfl,rfl,rfl,rfl,fun x hx => hx⟩
 have hrt:∀ j,Rt E j → (E j).k = 2 → Rt E' j:=fun j hj => by
  induction hj with
  | one => exact fun _ => .one
  | @up b hb ih =>
   intro hb2
   have hbi:b ≠ i:=fun e => hk (e ▸ hb2)
   refine .up ?_
   rw [(hl b hbi).2.1]
   exact ih (h.up1 hb2).2.2
 refine ⟨h.n2,?_,fun j hj => ?_,?_,?_,fun j => ?_,fun j => ?_,fun j x hx => ?_,fun j => ?_,fun j => ?_,fun j => ?_,fun j hj => ?_,fun j hj hj2 => ?_,fun j hj => ?_⟩
 ·rw [(hl 0 (by omega)).1]; exact h.zero
 ·rw [e3 j (by omega) (by omega)]; exact h.out j hj
 ·rw [(hl 1 (by omega)).1,(hl 1 (by omega)).2.1]; exact h.root
 ·rw [e3 2 (fun e => ha2 e.symm) (by omega)]; exact h.lost
 ·by_cases hj:j = i
  ·subst hj; rw [e2]; exact hal.2
  ·rw [(hl j hj).2.1]; exact h.upn j
 ·by_cases hj:j = i
  ·subst hj; rw [e2]; exact List.Pairwise.nil
  by_cases hja:j = a
  ·subst hja; rw [e1]; exact ris_ins (h.ris _) hn
  ·rw [e3 j hja hj]; exact h.ris j
 ·by_cases hj:j = i
  ·subst hj; rw [e2] at hx; cases hx
  by_cases hja:j = a
  ·subst hja; rw [e1] at hx
   rcases mem_insT.1 hx with rfl | hx
   ·exact ⟨hp,hi⟩
   ·exact h.ent _ x hx
  ·rw [e3 j hja hj] at hx; exact h.ent j x hx
 ·by_cases hj:j = i
  ·subst hj; rw [e2]; exact Nat.zero_le _
  by_cases hja:j = a
  ·subst hja; rw [e1]
   show (insT _ _ _).length ≤ _
   rw [insT_length (cntT_le _ _)]
   have:=h.len j; omega
  ·rw [e3 j hja hj]; have:=h.len j; omega
 ·by_cases hj:j = i
  ·subst hj; rw [e2]; exact hd
  ·rw [(hl j hj).2.2.2.1]; exact h.dat j
 ·by_cases hj:j = i
  ·subst hj; rw [e2]; exact hk3
  ·rw [(hl j hj).1]; exact h.knd j
 ·by_cases hji:j = i
  ·subst hji; rw [e2]
  by_cases hja:j = a
  ·subst hja; rw [(hl _ hji).1] at hj; exact absurd ha hj
  ·rw [e3 j hja hji] at hj ⊢; exact h.lst j hj
 ·by_cases hji:j = i
  ·subst hji; rw [e2] at hj2 ⊢
   refine ⟨hnm hj2,?_,p,?_⟩
   ·show (E' a).k = 2; rw [e1]; exact ha
   ·show _ ∈ (E' a).l; rw [e1]; exact mem_insT.2 (.inl rfl)
  ·have hL:=hl j hji
   rw [hL.1] at hj2
   obtain ⟨d1,d2,q,d3⟩:=h.dir j hj hj2
   have hui:(E j).up ≠ i:=fun e => hk (e ▸ d2)
   rw [hL.2.2.1,hL.2.1]
   exact ⟨d1,by rw [(hl _ hui).1]; exact d2,q,(hl _ hui).2.2.2.2 _ d3⟩
 ·by_cases hji:j = i
  ·subst hji
   refine .up ?_
   rw [e2]
   exact hrt a (h.chain a ha) ha
  ·rw [(hl j hji).1] at hj
   exact hrt j (h.chain j hj) hj
theorem TOk.take {n B:Nat} {E E':Tr} (h:TOk n B E) {a i c:Nat} {p:Tx} (ha:(E a).k = 2) (hc:(E a).l[c]? = some (p,i)) (hk:(E i).k ≠ 2 ∨ (E i).l = [])
  (e1:E' a = { E a with l:=(E a).l.eraseIdx c }) (e2:E' i = noE ∨ (E i).k ≠ 2 ∧ ∃ nm,E' i = { E i with nm:=nm }) (e3:∀ j,j ≠ a → j ≠ i → E' j = E j):TOk n B E':=by
 have hm:=List.mem_of_getElem? hc
 obtain ⟨_,hi3,hin⟩:=h.ent a _ hm
 simp only at hi3 hin
 have hal:=h.kle (i:=a) (by omega)
 have hai:a ≠ i:=fun e => by
  subst e
  rcases hk with hk | hk
  ·exact hk ha
  ·rw [hk] at hm; cases hm
 have hmd:=mem_del (h.ris a) hc
 have hl:∀ j,j ≠ i → (E' j).k = (E j).k ∧ (E' j).up = (E j).up ∧ (E' j).nm = (E j).nm ∧ (E' j).d = (E j).d ∧ (∀ x ∈ (E' j).l,x ∈ (E j).l) ∧ ∀ q b,(q,b) ∈ (E j).l → b ≠ i → (q,b) ∈ (E' j).l:=fun j hj => by
  by_cases hja:j = a
  ·subst hja
   rw [e1]
   refine ⟨rfl,rfl,rfl,rfl,fun x hx => ((hmd x).1 hx).1,fun q b hx hb => (hmd _).2 ⟨hx,fun e => ?_⟩⟩
   simp only at e
   subst e
   have h1:=(ris_ent (h.ris j)).2 hx
   rw [(ris_ent (h.ris j)).2 hm] at h1
   injection h1 with h1
   exact hb h1.symm
  ·rw [e3 j hja hj]
   exact ⟨rfl,rfl,rfl,rfl,fun x hx => hx,fun q b hx _ => hx⟩
 have hi:(E' i).k ≠ 2 ∧ (E' i).up ≤ n ∧ (E' i).l = [] ∧ (E' i).k ≤ 3 ∧ okS (E' i).d ∧ (E' i).d.length ≤ 4096:=by
  rcases e2 with e2 | ⟨h2,nm,e2⟩
  ·rw [e2]; exact ⟨by decide,Nat.zero_le _,rfl,by decide,fun b hb => (by cases hb),by decide⟩
  ·rw [e2]; exact ⟨h2,h.upn i,h.lst i h2,h.knd i,h.dat i⟩
 have hup:∀ j,3 ≤ j → (E j).k = 2 → (E j).up ≠ i:=fun j hj hj2 e => by
  obtain ⟨_,d2,q,d3⟩:=h.dir j hj hj2
  rw [e] at d2 d3
  rcases hk with hk | hk
  ·exact hk d2
  ·rw [hk] at d3; cases d3
 have hrt:∀ j,Rt E j → (E j).k = 2 → j ≠ i → Rt E' j:=fun j hj => by
  induction hj with
  | one => exact fun _ _ => .one
  | @up b hb ih =>
   intro hb2 hbi
   refine .up ?_
   rw [(hl b hbi).2.1]
   have hb1:=(h.kle (i:=b) (by omega)).1
   by_cases c1:b = 1
   ·subst c1; rw [h.root.2]; exact .one
   by_cases c2:b = 2
   ·subst c2; rw [h.lost.2.1]; exact .one
   exact ih (h.up1 hb2).2.2 (hup b (by omega) hb2)
 refine ⟨h.n2,?_,fun j hj => ?_,?_,?_,fun j => ?_,fun j => ?_,fun j x hx => ?_,fun j => ?_,fun j => ?_,fun j => ?_,fun j hj => ?_,fun j hj hj2 => ?_,fun j hj => ?_⟩
 ·rw [(hl 0 (by omega)).1]; exact h.zero
 ·rw [e3 j (by omega) (by omega)]; exact h.out j hj
 ·rw [(hl 1 (by omega)).1,(hl 1 (by omega)).2.1]; exact h.root
 ·have ha2:a ≠ 2:=fun e => by subst e; rw [h.lost.2.2] at hm; cases hm
  rw [e3 2 (fun e => ha2 e.symm) (by omega)]; exact h.lost
 ·by_cases hj:j = i
  ·subst hj; exact hi.2.1
  ·rw [(hl j hj).2.1]; exact h.upn j
 ·by_cases hj:j = i
  ·subst hj; rw [hi.2.2.1]; exact List.Pairwise.nil
  by_cases hja:j = a
  ·subst hja; rw [e1]; exact ris_del (h.ris _)
  ·rw [e3 j hja hj]; exact h.ris j
 ·by_cases hj:j = i
  ·subst hj; rw [hi.2.2.1] at hx; cases hx
  ·exact h.ent j x ((hl j hj).2.2.2.2.1 x hx)
 ·by_cases hj:j = i
  ·subst hj; rw [hi.2.2.1]; exact Nat.zero_le _
  by_cases hja:j = a
  ·subst hja; rw [e1]
   exact Nat.le_trans (List.length_eraseIdx_le _ _) (h.len j)
  ·rw [e3 j hja hj]; exact h.len j
 ·by_cases hj:j = i
  ·subst hj; exact hi.2.2.2.2
  ·rw [(hl j hj).2.2.2.1]; exact h.dat j
 ·by_cases hj:j = i
  ·subst hj; exact hi.2.2.2.1
  ·rw [(hl j hj).1]; exact h.knd j
 ·by_cases hji:j = i
  ·subst hji; exact hi.2.2.1
  ·rw [(hl j hji).1] at hj
   have h0:=h.lst j hj
   cases hx:(E' j).l with
   | nil => rfl
   | cons y ys =>
    have:=(hl j hji).2.2.2.2.1 y (by rw [hx]; exact List.mem_cons_self ..)
    rw [h0] at this; cases this
 ·by_cases hji:j = i
  ·subst hji; exact absurd hj2 hi.1
  ·have hL:=hl j hji
   rw [hL.1] at hj2
   obtain ⟨d1,d2,q,d3⟩:=h.dir j hj hj2
   have hui:=hup j hj hj2
   rw [hL.2.2.1,hL.2.1]
   exact ⟨d1,by rw [(hl _ hui).1]; exact d2,q,(hl _ hui).2.2.2.2.2 _ _ d3 hji⟩
 ·by_cases hji:j = i
  ·subst hji; exact absurd hj hi.1
  ·rw [(hl j hji).1] at hj
   exact hrt j (h.chain j hj) hj hji
end Go.Proofs.YtgcpgidofikcdaaGreatDoor
set_option linter.unusedSimpArgs false
set_option linter.unusedVariables false
namespace Go.Proofs.YtgcpgidofikcdaaGreatDoor
open Go.RowKit Ev
structure EntF (e e':Ent) (a i j:Nat) (nm:Int) (l:List (Tx × Nat)):Prop where
 k:e'.k = e.k
 d:e'.d = e.d
 nm:e'.nm = if j = i then nm else e.nm
 l:e'.l = if j = a then l else e.l
theorem enter_f (E:Tr) (a:Nat) (p:Tx) (i j:Nat):EntF (E j) (enterE E a p i j) a i j (IntKind.i64.wrap ((E i).nm + 1)) (insT (cntT p (E a).l) (p,i) (E a).l) ∧ (enterE E a p i j).up = if j = i then a else (E j).up:=by
 unfold enterE enter3 enter2 enter1 updE
 by_cases h1:j = i
 ·subst h1
  by_cases h2:j = a
  ·subst h2
   simp
   exact ⟨rfl,rfl,by simp,by simp⟩
  ·simp [h2]
   exact ⟨rfl,rfl,by simp,by simp [h2]⟩
 ·by_cases h2:j = a
  ·subst h2
   simp [h1]
   exact ⟨rfl,rfl,by simp [h1],by simp⟩
  ·simp [h1,h2]
   exact ⟨rfl,rfl,by simp [h1],by simp [h2]⟩
theorem leave_stay {E:Tr} {a:Nat} {p:Tx} {i:Nat} (h:entT p (E a).l = some i) (hn:IntKind.i64.wrap ((E i).nm - 1) ≠ 0) (j:Nat):EntF (E j) (leaveE E a p j) a i j (IntKind.i64.wrap ((E i).nm - 1)) ((E a).l.eraseIdx (cntT p (E a).l)) ∧ (leaveE E a p j).up = (E j).up:=by
 have e1:(leave1 E a p i).nm = (E i).nm:=by unfold leave1 updE; split <;> simp_all
 have e2:(leave2 (leave1 E a p) i i).nm = IntKind.i64.wrap ((E i).nm - 1):=by unfold leave2; rw [updE_same,← e1]
 have e:leaveE E a p = leave2 (leave1 E a p) i:=by
  unfold leaveE leave3
  rw [h]
  simp only
  rw [e2,if_neg hn]
 rw [e]
 unfold leave2
 rw [e1]
 unfold leave1 updE
 by_cases h1:j = i
 ·subst h1
  by_cases h2:j = a
  ·subst h2
   simp
   exact ⟨rfl,rfl,by simp,by simp⟩
  ·simp [h2]
   exact ⟨rfl,rfl,by simp,by simp [h2]⟩
 ·by_cases h2:j = a
  ·subst h2
   simp [h1]
   exact ⟨rfl,rfl,by simp [h1],by simp⟩
  ·simp [h1,h2]
   exact ⟨rfl,rfl,by simp [h1],by simp [h2]⟩
theorem leave_gone {E:Tr} {a:Nat} {p:Tx} {i:Nat} (h:entT p (E a).l = some i) (hn:IntKind.i64.wrap ((E i).nm - 1) = 0):leaveE E a p i = noE ∧ ∀ j,j ≠ i → leaveE E a p j = if j = a then { E a with l:=(E a).l.eraseIdx (cntT p (E a).l) } else E j:=by
 have e1:(leave1 E a p i).nm = (E i).nm:=by unfold leave1 updE; split <;> simp_all
 have e2:(leave2 (leave1 E a p) i i).nm = IntKind.i64.wrap ((E i).nm - 1):=by unfold leave2; rw [updE_same,← e1]
 have e:leaveE E a p = updE (leave2 (leave1 E a p) i) i noE:=by
  unfold leaveE leave3
  rw [h]
  simp only
  rw [e2,if_pos hn]
 rw [e]
 refine ⟨updE_same _ _ _,fun j hj => ?_⟩
 rw [updE_ne _ _ hj]
 unfold leave2
 rw [updE_ne _ _ hj]
 rfl
theorem TOk.enter {n B:Nat} {E:Tr} (h:TOk n B E) {a i:Nat} {p:Tx} (ha:(E a).k = 2) (ha2:a ≠ 2) (hf:findE E a p = 0) (hp:okS p) (hi:3 ≤ i ∧ i ≤ n) (hk:(E i).k ≠ 2):TOk n (B + 1) (enterE E a p i):=by
 have hai:a ≠ i:=fun e => hk (e ▸ ha)
 have hil:=h.lst i hk
 refine h.put (a:=a) (i:=i) (k:=(E i).k) (nm:=IntKind.i64.wrap ((E i).nm + 1)) (d:=(E i).d) ha ha2 hf hp hi hk (h.knd i) (fun e => absurd e hk) (h.dat i) ?_ ?_ ?_
 ·unfold enterE enter3 enter2 enter1 updE; simp [hai]
 ·unfold enterE enter3 enter2 enter1 updE; simp [hai,Ne.symm hai,hil]
 ·intro j h1 h2; unfold enterE enter3 enter2 enter1 updE; simp [h1,h2]
theorem TOk.make {n B:Nat} {E:Tr} (h:TOk n B E) {a i k:Nat} {p d:Tx} (ha:(E a).k = 2) (ha2:a ≠ 2) (hf:findE E a p = 0) (hp:okS p) (hi:3 ≤ i ∧ i ≤ n) (hk:(E i).k = 0) (hk3:k ≤ 3) (hd:okS d ∧ d.length ≤ 4096):TOk n (B + 1) (enterE (updE E i ⟨k,0,0,d,[]⟩) a p i):=by
 have hai:a ≠ i:=fun e => by rw [e] at ha; omega
 refine h.put (a:=a) (i:=i) (k:=k) (nm:=IntKind.i64.wrap (0 + 1)) (d:=d) ha ha2 hf hp hi (by omega) hk3 (fun e => by decide) hd ?_ ?_ ?_
 ·unfold enterE enter3 enter2 enter1 updE; simp [hai]
 ·unfold enterE enter3 enter2 enter1 updE; simp [hai,Ne.symm hai]
 ·intro j h1 h2; unfold enterE enter3 enter2 enter1 updE; simp [h1,h2]
theorem TOk.leave {n B:Nat} {E:Tr} (h:TOk n B E) {a i:Nat} {p:Tx} (ha:(E a).k = 2) (he:entT p (E a).l = some i) (hk:(E i).k ≠ 2 ∨ (E i).l = []):TOk n B (leaveE E a p):=by
 have hc:=entT_some he
 have hm:=List.mem_of_getElem? hc
 obtain ⟨_,hi3,hin⟩:=h.ent a _ hm
 simp only at hi3 hin
 have hai:a ≠ i:=fun e => by
  subst e
  rcases hk with hk | hk
  ·exact hk ha
  ·rw [hk] at hm; cases hm
 by_cases hn:IntKind.i64.wrap ((E i).nm - 1) = 0
 ·obtain ⟨g1,g2⟩:=leave_gone he hn
  exact h.take ha hc hk (by rw [g2 a hai,if_pos rfl]) (.inl g1) (fun j h1 h2 => by rw [g2 j h2,if_neg h1])
 ·have hk2:(E i).k ≠ 2:=fun e => by
   have:=(h.dir i hi3 e).1
   rw [this] at hn
   exact hn (by decide)
  have g:=leave_stay he hn
  refine h.take ha hc hk ?_ (.inr ⟨hk2,IntKind.i64.wrap ((E i).nm - 1),?_⟩) (fun j h1 h2 => ?_)
  ·obtain ⟨⟨f1,f2,f3,f4⟩,f5⟩:=g a
   rw [if_neg hai] at f3
   rw [if_pos rfl] at f4
   cases he':leaveE E a p a
   rw [he'] at f1 f2 f3 f4 f5
   simp only at f1 f2 f3 f4 f5
   subst f1 f2 f3 f4 f5
   rfl
  ·obtain ⟨⟨f1,f2,f3,f4⟩,f5⟩:=g i
   rw [if_pos rfl] at f3
   rw [if_neg (Ne.symm hai)] at f4
   cases he':leaveE E a p i
   rw [he'] at f1 f2 f3 f4 f5
   simp only at f1 f2 f3 f4 f5
   subst f1 f2 f3 f4 f5
   rfl
  ·obtain ⟨⟨f1,f2,f3,f4⟩,f5⟩:=g j
   rw [if_neg h2] at f3
   rw [if_neg h1] at f4
   cases he':leaveE E a p j
   rw [he'] at f1 f2 f3 f4 f5
   simp only at f1 f2 f3 f4 f5
   subst f1 f2 f3 f4 f5
   rfl
theorem TOk.move {n B:Nat} {E:Tr} (h:TOk n B E) {a b i:Nat} {p q:Tx} (hb:(E b).k = 2) (hb2:b ≠ 2) (hf:findE E b p = 0) (hp:okS p) (hik:(E i).k = 2) (hi3:3 ≤ i) (hw:¬ Wn E i b) (ha:(E a).k = 2) (hq:entT q (E a).l = some i):TOk n (B + 1) (leaveE (enterE E b p i) a q):=by
 have hbn:=h.noEnt hf
 have hbi:b ≠ i:=fun e => hw (e ▸ .here)
 have hi1:=(h.kle (i:=i) (by omega)).2
 have hnm:(E i).nm = 1:=(h.dir i hi3 hik).1
 obtain ⟨E2,hE2⟩:∃ E2,E2 = enterE E b p i:=⟨_,rfl⟩
 have f2:=enter_f E b p i
 rw [← hE2] at f2 ⊢
 have w2:IntKind.i64.wrap (1 + 1) = 2:=by decide
 have w1:IntKind.i64.wrap (2 - 1) = 1:=by decide
 have ris2:∀ j,RisT (E2 j).l:=fun j => by
  rw [(f2 j).1.l]
  split
  ·exact ris_ins (h.ris _) hbn
  ·exact h.ris j
 have sub2:∀ j x,x ∈ (E j).l → x ∈ (E2 j).l:=fun j x hx => by
  rw [(f2 j).1.l]
  split
  ·rename_i e; subst e; exact mem_insT.2 (.inr hx)
  ·exact hx
 have sup2:∀ j x,x ∈ (E2 j).l → x ∈ (E j).l ∨ j = b ∧ x = (p,i):=fun j x hx => by
  rw [(f2 j).1.l] at hx
  split at hx
  ·rename_i e; subst e
   rcases mem_insT.1 hx with h | h
   ·exact .inr ⟨rfl,h⟩
   ·exact .inl h
  ·exact .inl hx
 have hqm:=(ris_ent (h.ris a)).1 hq
 have hq2:entT q (E2 a).l = some i:=(ris_ent (ris2 a)).2 (sub2 a _ hqm)
 have hqp:¬ (a = b ∧ q = p):=fun e => by
  obtain ⟨rfl,rfl⟩:=e
  rw [hq] at hbn; cases hbn
 have hnm2:(E2 i).nm = 2:=by rw [(f2 i).1.nm,if_pos rfl,hnm,w2]
 have f3:=leave_stay (E:=E2) hq2 (by rw [hnm2,w1]; decide)
 rw [hnm2,w1] at f3
 have hmd:=mem_del (ris2 a) (entT_some hq2)
 have K:∀ j,(leaveE E2 a q j).k = (E j).k:=fun j => by rw [(f3 j).1.k,(f2 j).1.k]
 have U:∀ j,(leaveE E2 a q j).up = if j = i then b else (E j).up:=fun j => by rw [(f3 j).2,(f2 j).2]
 have sub3:∀ j x y,(x,y) ∈ (E2 j).l → ¬ (j = a ∧ x = q) → (x,y) ∈ (leaveE E2 a q j).l:=fun j x y hx hne => by
  rw [(f3 j).1.l]
  split
  ·rename_i e; subst e; exact (hmd _).2 ⟨hx,fun e => hne ⟨rfl,e⟩⟩
  ·exact hx
 have sup3:∀ j x,x ∈ (leaveE E2 a q j).l → x ∈ (E2 j).l:=fun j x hx => by
  rw [(f3 j).1.l] at hx
  split at hx
  ·rename_i e; subst e; exact ((hmd _).1 hx).1
  ·exact hx
 have R1:∀ c,Rt E c → (E c).k = 2 → ¬ Wn E i c → Rt (leaveE E2 a q) c:=fun c hc => by
  induction hc with
  | one => exact fun _ _ => .one
  | @up c hc ih =>
   intro hc2 hwc
   have hci:c ≠ i:=fun e => hwc (e ▸ .here)
   by_cases c1:c = 1
   ·subst c1; exact .one
   refine .up ?_
   rw [U,if_neg hci]
   exact ih (h.up1 hc2).2.2 (fun hh => hwc (.up c1 hh))
 have R2:∀ c,Rt E c → (E c).k = 2 → Rt (leaveE E2 a q) c:=fun c hc => by
  induction hc with
  | one => exact fun _ => .one
  | @up c hc ih =>
   intro hc2
   refine .up ?_
   rw [U]
   split
   ·exact R1 b (h.chain b hb) hb hw
   ·exact ih (h.up1 hc2).2.2
 refine ⟨h.n2,?_,fun j hj => ?_,?_,?_,fun j => ?_,fun j => ?_,fun j x hx => ?_,fun j => ?_,fun j => ?_,fun j => ?_,fun j hj => ?_,fun j hj hj2 => ?_,fun j hj => ?_⟩
 ·rw [K]; exact h.zero
 ·have hja:j ≠ a:=fun e => by have:=(h.kle (i:=a) (by omega)).2; omega
  have hjb:j ≠ b:=fun e => by have:=(h.kle (i:=b) (by omega)).2; omega
  have hji:j ≠ i:=by omega
  have h0:=h.out j hj
  obtain ⟨⟨g1,g2,g3,g4⟩,g5⟩:=f3 j
  obtain ⟨⟨k1,k2,k3,k4⟩,k5⟩:=f2 j
  rw [if_neg hji] at g3 k3 k5
  rw [if_neg hja] at g4
  rw [if_neg hjb] at k4
  rw [k1] at g1
  rw [k2] at g2
  rw [k3] at g3
  rw [k4] at g4
  rw [k5] at g5
  rw [h0] at g1 g2 g3 g4 g5
  cases he':leaveE E2 a q j
  rw [he'] at g1 g2 g3 g4 g5
  simp only at g1 g2 g3 g4 g5
  subst g1 g2 g3 g4 g5
  rfl
 ·rw [K,U,if_neg (by omega)]; exact h.root
 ·have ha2:a ≠ 2:=fun e => by subst e; rw [h.lost.2.2] at hqm; cases hqm
  refine ⟨by rw [K]; exact h.lost.1,by rw [U,if_neg (by omega)]; exact h.lost.2.1,?_⟩
  rw [(f3 2).1.l,if_neg (fun e => ha2 e.symm),(f2 2).1.l,if_neg (fun e => hb2 e.symm)]
  exact h.lost.2.2
 ·rw [U]
  split
  ·exact (h.kle (i:=b) (by omega)).2
  ·exact h.upn j
 ·rw [(f3 j).1.l]
  split
  ·exact ris_del (ris2 _)
  ·exact ris2 j
 ·rcases sup2 j x (sup3 j x hx) with hx | ⟨_,rfl⟩
  ·exact h.ent j x hx
  ·exact ⟨hp,hi3,hi1⟩
 ·have h2:∀ j,(E2 j).l.length ≤ B + 1:=fun j => by
   rw [(f2 j).1.l]
   split
   ·rw [insT_length (cntT_le _ _)]; have:=h.len b; omega
   ·have:=h.len j; omega
  rw [(f3 j).1.l]
  split
  ·exact Nat.le_trans (List.length_eraseIdx_le _ _) (h2 a)
  ·exact h2 j
 ·rw [(f3 j).1.d,(f2 j).1.d]; exact h.dat j
 ·rw [K]; exact h.knd j
 ·rw [K] at hj
  have h0:=h.lst j hj
  cases hx:(leaveE E2 a q j).l with
  | nil => rfl
  | cons y ys =>
   rcases sup2 j y (sup3 j y (by rw [hx]; exact List.mem_cons_self ..)) with h1 | ⟨rfl,_⟩
   ·rw [h0] at h1; cases h1
   ·exact absurd hb hj
 ·rw [K] at hj2
  by_cases hji:j = i
  ·subst hji
   refine ⟨by rw [(f3 j).1.nm,if_pos rfl],by rw [U,if_pos rfl,K]; exact hb,p,?_⟩
   rw [U,if_pos rfl]
   refine sub3 b p j ?_ (fun e => hqp ⟨e.1.symm,e.2.symm⟩)
   rw [(f2 b).1.l,if_pos rfl]
   exact mem_insT.2 (.inl rfl)
  ·obtain ⟨d1,d2,x,d3⟩:=h.dir j hj hj2
   refine ⟨by rw [(f3 j).1.nm,if_neg hji,(f2 j).1.nm,if_neg hji]; exact d1,by rw [U,if_neg hji,K]; exact d2,x,?_⟩
   rw [U,if_neg hji]
   refine sub3 _ _ _ (sub2 _ _ d3) (fun e => ?_)
   obtain ⟨e1,rfl⟩:=e
   rw [e1] at d3
   have h1:=(ris_ent (h.ris a)).2 d3
   rw [hq] at h1
   injection h1 with h1
   exact hji h1.symm
 ·rw [K] at hj
  exact R2 j (h.chain j hj) hj
end Go.Proofs.YtgcpgidofikcdaaGreatDoor
set_option linter.unusedSimpArgs false
set_option linter.unusedVariables false
namespace Go.Proofs.YtgcpgidofikcdaaGreatDoor
open Go.RowKit Ev
theorem ok_par {s:Tx} (h:okS s) {p:Tx} (hp:p ∈ parS s):okS p:=fun b hb => h b (spl_elem s p (List.mem_filter.1 hp).1 b hb)
theorem ok_lastN {s:Tx} (h:okS s):okS (lastN s):=by
 unfold lastN
 split
 ·cases hl:(parS s).getLast? with
  | none => intro b hb; cases hb
  | some p => exact ok_par h (List.mem_of_getLast? hl)
 ·intro b hb; cases hb
theorem ok_lastD {s:Tx} (h:okS s):∀ p ∈ lastD s,okS p:=fun p hp => by
 unfold lastD at hp
 split at hp
 ·exact ok_par h (List.dropLast_subset _ hp)
 ·cases hp
theorem TOk.dirE {n B:Nat} {E:Tr} (h:TOk n B E) (ps:List Tx) (he:(dirE E ps).2 = 0):(E (dirE E ps).1).k = 2:=by
 unfold Go.Proofs.YtgcpgidofikcdaaGreatDoor.dirE at he ⊢
 split at he
 ·rename_i c; exact absurd he c
 rename_i c
 split at he
 ·cases he
 rename_i c2
 rw [if_neg c,if_neg c2]
 simpa using c2
theorem TOk.room {n B:Nat} {E:Tr} (h:TOk n B E) {s:Tx} (hs:okS s) (he:(roomE E s).2.2 = 0):(E (roomE E s).1).k = 2 ∧ (roomE E s).1 ≠ 2 ∧ findE E (roomE E s).1 (roomE E s).2.1 = 0 ∧ okS (roomE E s).2.1:=by
 unfold roomE at he ⊢
 split at he
 ·rename_i c; exact absurd he c
 rename_i c
 split at he
 ·cases he
 rename_i c2
 split at he
 ·cases he
 rename_i c3
 rw [if_neg c,if_neg c2,if_neg c3]
 unfold lastDE at c c2 c3 ⊢
 split at c
 ·rename_i c4; simp only at c; exact absurd (by simpa using c) c4
 rename_i c4
 rw [if_neg c4] at c2 c3 ⊢
 exact ⟨h.dirE _ (by simpa using c),c3,by simpa using c2,ok_lastN hs⟩
theorem TOk.there {n B:Nat} {E:Tr} (h:TOk n B E) {s:Tx} (he:(thereE E s).2.2.2 = 0):(E (thereE E s).1).k = 2 ∧ (thereE E s).2.1 = findE E (thereE E s).1 (thereE E s).2.2.1 ∧ (thereE E s).2.1 ≠ 0 ∧ (thereE E s).1 = (Go.Proofs.YtgcpgidofikcdaaGreatDoor.dirE E (lastD s)).1 ∧ (thereE E s).2.2.1 = lastN s ∧ (Go.Proofs.YtgcpgidofikcdaaGreatDoor.dirE E (lastD s)).2 = 0 ∧ lastE s = 0:=by
 unfold thereE at he ⊢
 split at he
 ·rename_i c; exact absurd he c
 rename_i c
 split at he
 ·cases he
 rename_i c2
 rw [if_neg c,if_neg c2]
 unfold lastDE at c c2 ⊢
 split at c
 ·rename_i c4; simp only at c; exact absurd (by simpa using c) c4
 rename_i c4
 rw [if_neg c4] at c2 ⊢
 simp only at c
 exact ⟨h.dirE _ (by simpa using c),rfl,c2,rfl,rfl,by simpa using c,by simpa using c4⟩
theorem TOk.way {n B:Nat} {E:Tr} (h:TOk n B E) (s:Tx) (last:Bool):(wayE E s last).1 ≤ n ∧ ((wayE E s last).2 = 0 → 1 ≤ (wayE E s last).1):=by
 unfold wayE
 split
 ·rename_i c; exact ⟨Nat.zero_le _,fun e => absurd e c⟩
 ·have:=h.walk 9 0 1 (parS s) last (by omega) (Nat.le_refl _) (by have:=h.n2; omega)
  exact ⟨this.1,this.2.1⟩
theorem TOk.file {n B:Nat} {E:Tr} (h:TOk n B E) {s:Tx} (he:(fileE E s).2 = 0):3 ≤ (fileE E s).1 ∧ (fileE E s).1 ≤ n ∧ (E (fileE E s).1).k ≠ 2:=by
 unfold fileE at he ⊢
 split at he
 ·rename_i c; exact absurd he c
 rename_i c
 split at he
 ·cases he
 rename_i c2
 rw [if_neg c,if_neg c2]
 have:=h.way s true
 refine ⟨?_,this.1,c2⟩
 have h1:=this.2 (by simpa using c)
 show 3 ≤ (wayE E s true).1
 have n1:(wayE E s true).1 ≠ 1:=fun e => c2 (by rw [e]; exact h.root.1)
 have n2:(wayE E s true).1 ≠ 2:=fun e => c2 (by rw [e]; exact h.lost.1)
 omega
theorem spare_ok {n:Nat} {E:Tr} (h:spareE n E ≠ 0):1 ≤ spareE n E ∧ spareE n E ≤ n ∧ (E (spareE n E)).k = 0:=by
 unfold spareE at h ⊢
 cases hf:(List.range (n + 1)).find? fun i => decide (1 ≤ i ∧ (E i).k = 0) with
 | none => rw [hf] at h; exact absurd rfl h
 | some i =>
  have h1:=List.find?_some hf
  have h2:=List.mem_of_find?_eq_some hf
  simp at h1 h2 ⊢
  omega
theorem TOk.spare {n B:Nat} {E:Tr} (h:TOk n B E) (hs:spareE n E ≠ 0):3 ≤ spareE n E ∧ spareE n E ≤ n ∧ (E (spareE n E)).k = 0:=by
 obtain ⟨h1,h2,h3⟩:=spare_ok hs
 refine ⟨?_,h2,h3⟩
 have n1:spareE n E ≠ 1:=fun e => by rw [e,h.root.1] at h3; cases h3
 have n2:spareE n E ≠ 2:=fun e => by rw [e,h.lost.1] at h3; cases h3
 omega
theorem TOk.makeE {n B:Nat} {E:Tr} (h:TOk n B E) {s d:Tx} {k:Nat} (hs:okS s) (hd:okS d ∧ d.length ≤ 4096) (hk:k ≤ 3):TOk n (B + 1) (makeE n E s k d).2:=by
 unfold Go.Proofs.YtgcpgidofikcdaaGreatDoor.makeE
 split
 ·exact h.mono (Nat.le_succ _)
 rename_i c
 split
 ·exact h.mono (Nat.le_succ _)
 rename_i c2
 obtain ⟨r1,r2,r3,r4⟩:=h.room hs (by simpa using c)
 obtain ⟨s1,s2,s3⟩:=h.spare c2
 exact h.make r1 r2 r3 r4 ⟨s1,s2⟩ s3 hk hd
theorem TOk.linkE {n B:Nat} {E:Tr} (h:TOk n B E) {a b:Tx} (hb:okS b):TOk n (B + 1) (linkE E a b).2:=by
 unfold Go.Proofs.YtgcpgidofikcdaaGreatDoor.linkE
 split
 ·exact h.mono (Nat.le_succ _)
 rename_i c1
 split
 ·exact h.mono (Nat.le_succ _)
 rename_i c2
 split
 ·exact h.mono (Nat.le_succ _)
 rename_i c3
 split
 ·exact h.mono (Nat.le_succ _)
 obtain ⟨r1,r2,r3,r4⟩:=h.room hb (by simpa using c3)
 have hw:=h.way a false
 have h1:=hw.2 (by simpa using c1)
 have n1:(wayE E a false).1 ≠ 1:=fun e => c2 (by rw [e]; exact h.root.1)
 have n2:(wayE E a false).1 ≠ 2:=fun e => c2 (by rw [e]; exact h.lost.1)
 exact h.enter r1 r2 r3 r4 ⟨by omega,hw.1⟩ c2
theorem TOk.entF {n B:Nat} {E:Tr} (h:TOk n B E) {a:Nat} {p:Tx} (hf:findE E a p ≠ 0) (hn2:findE E a p ≠ 2):entT p (E a).l = some (findE E a p):=by
 unfold findE at hf hn2 ⊢
 split
 ·rename_i c; rw [if_pos c] at hn2; exact absurd rfl hn2
 ·rename_i c
  rw [if_neg c] at hf
  cases he:entT p (E a).l with
  | none => rw [he] at hf; exact absurd rfl hf
  | some i => rfl
theorem TOk.unlinkE {n B:Nat} {E:Tr} (h:TOk n B E) {a:Tx}:TOk n (B + 1) (unlinkE E a).2:=by
 unfold Go.Proofs.YtgcpgidofikcdaaGreatDoor.unlinkE
 split
 ·exact h.mono (Nat.le_succ _)
 rename_i c1
 split
 ·exact h.mono (Nat.le_succ _)
 rename_i c2
 obtain ⟨t1,t2,t3,_⟩:=h.there (by simpa using c1)
 rw [t2] at t3 c2
 have he:=h.entF t3 (fun e => c2 (by rw [e]; exact h.lost.1))
 exact (h.leave t1 he (.inl c2)).mono (Nat.le_succ _)
theorem TOk.rmdirE {n B:Nat} {E:Tr} (h:TOk n B E) {a:Tx}:TOk n (B + 1) (rmdirE E a).2:=by
 unfold Go.Proofs.YtgcpgidofikcdaaGreatDoor.rmdirE
 split
 ·exact h.mono (Nat.le_succ _)
 rename_i c1
 split
 ·exact h.mono (Nat.le_succ _)
 rename_i c2
 split
 ·exact h.mono (Nat.le_succ _)
 rename_i c3
 split
 ·exact h.mono (Nat.le_succ _)
 rename_i c4
 obtain ⟨t1,t2,t3,_⟩:=h.there (by simpa using c1)
 rw [t2] at t3 c2 c3 c4
 have he:=h.entF t3 c3
 exact (h.leave t1 he (.inr (by simpa using c4))).mono (Nat.le_succ _)
theorem TOk.symlinkE {n B:Nat} {E:Tr} (h:TOk n B E) {a d:Tx} (ha:okS a) (hd:okS d):TOk n (B + 1) (symlinkE n E a d).2:=by
 unfold Go.Proofs.YtgcpgidofikcdaaGreatDoor.symlinkE
 split
 ·exact h.mono (Nat.le_succ _)
 ·rename_i c
  exact h.makeE ha ⟨hd,by omega⟩ (by decide)
theorem TOk.setD {n B:Nat} {E:Tr} (h:TOk n B E) {i:Nat} {d:Tx} (hi:3 ≤ i ∧ i ≤ n) (hd:okS d ∧ d.length ≤ 4096):TOk n B (setD E i d):=by
 have f:∀ j,(Go.Proofs.YtgcpgidofikcdaaGreatDoor.setD E i d j).k = (E j).k ∧ (Go.Proofs.YtgcpgidofikcdaaGreatDoor.setD E i d j).up = (E j).up ∧ (Go.Proofs.YtgcpgidofikcdaaGreatDoor.setD E i d j).nm = (E j).nm ∧ (Go.Proofs.YtgcpgidofikcdaaGreatDoor.setD E i d j).l = (E j).l:=fun j => by
  unfold Go.Proofs.YtgcpgidofikcdaaGreatDoor.setD updE
  by_cases e:j = i
  ·subst e; simp
  ·simp [e]
 have hR:∀ c,Rt E c → Rt (Go.Proofs.YtgcpgidofikcdaaGreatDoor.setD E i d) c:=fun c hc => by
  induction hc with
  | one => exact .one
  | @up c _ ih => exact .up (by rw [(f c).2.1]; exact ih)
 refine ⟨h.n2,?_,fun j hj => ?_,?_,?_,fun j => ?_,fun j => ?_,fun j x hx => ?_,fun j => ?_,fun j => ?_,fun j => ?_,fun j hj => ?_,fun j hj hj2 => ?_,fun j hj => ?_⟩
 ·rw [(f 0).1]; exact h.zero
 ·unfold Go.Proofs.YtgcpgidofikcdaaGreatDoor.setD; rw [updE_ne _ _ (by omega)]; exact h.out j hj
 ·rw [(f 1).1,(f 1).2.1]; exact h.root
 ·rw [(f 2).1,(f 2).2.1,(f 2).2.2.2]; exact h.lost
 ·rw [(f j).2.1]; exact h.upn j
 ·rw [(f j).2.2.2]; exact h.ris j
 ·rw [(f j).2.2.2] at hx; exact h.ent j x hx
 ·rw [(f j).2.2.2]; exact h.len j
 ·unfold Go.Proofs.YtgcpgidofikcdaaGreatDoor.setD updE
  split
  ·exact hd
  ·exact h.dat j
 ·rw [(f j).1]; exact h.knd j
 ·rw [(f j).1] at hj; rw [(f j).2.2.2]; exact h.lst j hj
 ·rw [(f j).1] at hj2
  obtain ⟨d1,d2,p,d3⟩:=h.dir j hj hj2
  exact ⟨by rw [(f j).2.2.1]; exact d1,by rw [(f j).2.1,(f _).1]; exact d2,p,by rw [(f j).2.1,(f _).2.2.2]; exact d3⟩
 ·rw [(f j).1] at hj; exact hR j (h.chain j hj)
theorem ok_pad {d:Tx} (h:okS d) (k:Nat):okS (padT d k):=fun b hb => by
 unfold padT at hb
 rcases List.mem_append.1 hb with hb | hb
 ·exact h b (List.mem_of_mem_take hb)
 ·have:=(List.mem_replicate.1 hb).2; omega
theorem ok_put {d w:Tx} (h:okS d) (hw:okS w) (k:Nat):okS (putT d k w):=fun b hb => by
 unfold putT at hb
 rcases List.mem_append.1 hb with hb | hb
 ·rcases List.mem_append.1 hb with hb | hb
  ·exact h b (List.mem_of_mem_take hb)
  ·exact hw b hb
 ·exact h b (List.mem_of_mem_drop hb)
theorem putT_length {d w:Tx} {k:Nat} (h:k + w.length ≤ d.length):(putT d k w).length = d.length:=by unfold putT; simp; omega
theorem TOk.writeE {n B:Nat} {E:Tr} (h:TOk n B E) {a:Tx} {at_:Int} {w:Tx} (hw:okS w):TOk n (B + 1) (writeE E a at_ w).2:=by
 unfold Go.Proofs.YtgcpgidofikcdaaGreatDoor.writeE
 split
 ·exact h.mono (Nat.le_succ _)
 split
 ·exact h.mono (Nat.le_succ _)
 rename_i c0 c1
 split
 ·exact h.mono (Nat.le_succ _)
 split
 ·exact h.mono (Nat.le_succ _)
 rename_i c2
 obtain ⟨f1,f2,f3⟩:=h.file (s:=a) (by simpa using c1)
 refine (h.setD ⟨f1,f2⟩ ⟨ok_put (ok_pad (h.dat _).1 _) hw _,?_⟩).mono (Nat.le_succ _)
 rw [putT_length (by rw [padT_length]; omega),padT_length]
 have:=(h.dat (fileE E a).1).2
 omega
theorem TOk.truncE {n B:Nat} {E:Tr} (h:TOk n B E) {a:Tx} {s:Int}:TOk n (B + 1) (truncE E a s).2:=by
 unfold Go.Proofs.YtgcpgidofikcdaaGreatDoor.truncE
 split
 ·exact h.mono (Nat.le_succ _)
 split
 ·exact h.mono (Nat.le_succ _)
 rename_i c0 c1
 split
 ·exact h.mono (Nat.le_succ _)
 rename_i c2
 obtain ⟨f1,f2,f3⟩:=h.file (s:=a) (by simpa using c1)
 exact (h.setD ⟨f1,f2⟩ ⟨ok_pad (h.dat _).1 _,by rw [padT_length]; omega⟩).mono (Nat.le_succ _)
theorem Wn.keep {E E':Tr} {i a:Nat} (hw:Wn E' i a):∀ (P:Nat → Prop),P a → (∀ b,P b → b ≠ 1 → P (E b).up) → (∀ b,P b → (E' b).up = (E b).up) → Wn E i a:=by
 induction hw with
 | here => exact fun _ _ _ _ => .here
 | @up b hb _ ih =>
  intro P hp hs hu
  refine .up hb ?_
  rw [hu b hp] at ih
  exact ih P (hs b hp hb) hs hu
theorem leave_up {E:Tr} {a:Nat} {p:Tx} {i j:Nat} (h:entT p (E a).l = some i) (hj:j ≠ i):(leaveE E a p j).up = (E j).up ∧ (leaveE E a p j).k = (E j).k ∧ (leaveE E a p j).nm = (E j).nm ∧ (leaveE E a p j).d = (E j).d ∧ (leaveE E a p j).l = if j = a then (E a).l.eraseIdx (cntT p (E a).l) else (E j).l:=by
 by_cases hn:IntKind.i64.wrap ((E i).nm - 1) = 0
 ·rw [(leave_gone h hn).2 j hj]
  split
  ·rename_i e; subst e; exact ⟨rfl,rfl,rfl,rfl,rfl⟩
  ·exact ⟨rfl,rfl,rfl,rfl,rfl⟩
 ·obtain ⟨⟨f1,f2,f3,f4⟩,f5⟩:=leave_stay h hn j
  rw [if_neg hj] at f3
  exact ⟨f5,f1,f3,f2,f4⟩
theorem TOk.renameE {n B:Nat} {E:Tr} (h:TOk n B E) {a b:Tx} (hb:okS b):TOk n (B + 1) (renameE E a b).2:=by
 unfold Go.Proofs.YtgcpgidofikcdaaGreatDoor.renameE
 have hm:=h.mono (Nat.le_succ B)
 split
 ·exact hm
 split
 ·exact hm
 split
 ·exact hm
 rename_i c1
 split
 ·exact hm
 rename_i c2
 split
 ·exact hm
 rename_i c3
 split
 ·exact hm
 rename_i c4
 split
 ·exact hm
 rename_i c5
 split
 ·exact hm
 rename_i c6
 split
 ·exact hm
 rename_i c7
 obtain ⟨t1,t2,t3,_⟩:=h.there (by simpa using c1)
 have d1:=h.dirE (lastD b) (by simpa using c3)
 obtain ⟨i,hi⟩:∃ i,i = (thereE E a).2.1:=⟨_,rfl⟩
 obtain ⟨fr,hfr⟩:∃ fr,fr = (thereE E a).1:=⟨_,rfl⟩
 obtain ⟨old,hold⟩:∃ old,old = (thereE E a).2.2.1:=⟨_,rfl⟩
 obtain ⟨to,hto⟩:∃ to,to = (Go.Proofs.YtgcpgidofikcdaaGreatDoor.dirE E (lastD b)).1:=⟨_,rfl⟩
 rw [← hfr,← hold,← hi] at t2
 rw [← hfr] at t1
 rw [← hi] at t3 c2 c5 c6 c7
 rw [← hto] at d1 c4 c5 c6 c7
 show TOk n (B + 1) (leaveE (enterE (leaveE E _ (lastN b)) _ (lastN b) (thereE E a).2.1) (thereE E a).1 (thereE E a).2.2.1)
 rw [← hfr,← hold,← hi,← hto]
 rw [t2] at t3 c2
 have he:=h.entF t3 c2
 rw [← t2] at he t3 c2
 have hin:=h.ent fr _ (List.mem_of_getElem? (entT_some he))
 simp only at hin
 have key:∃ E1,E1 = leaveE E to (lastN b) ∧ TOk n B E1 ∧ (E1 to).k = 2 ∧ entT (lastN b) (E1 to).l = none ∧ ¬ (to = 1 ∧ lastN b = lostT) ∧ (E1 fr).k = 2 ∧ entT old (E1 fr).l = some i ∧ (E1 i).k = (E i).k ∧ ((E i).k = 2 → ¬ Wn E1 i to):=by
  refine ⟨_,rfl,?_⟩
  have hl0:¬ (to = 1 ∧ lastN b = lostT):=fun e => c7 (by
   have e2:findE E to (lastN b) = 2:=if_pos e
   rw [e2]
   unfold yieldE
   rw [if_neg (by decide),if_pos rfl]
   intro hh; cases hh)
  cases ho:entT (lastN b) (E to).l with
  | none =>
   have e1:leaveE E to (lastN b) = E:=by unfold leaveE; rw [ho]
   rw [e1]
   exact ⟨h,d1,ho,hl0,t1,he,rfl,fun _ => c5⟩
  | some o =>
   have hfo:findE E to (lastN b) = o:=by unfold findE; rw [if_neg hl0,ho]; rfl
   rw [hfo] at c6 c7
   have hom:=h.ent to _ (List.mem_of_getElem? (entT_some ho))
   simp only at hom
   have hok:(E o).k ≠ 2 ∨ (E o).l = []:=by
    unfold yieldE at c7
    rw [if_neg (by omega),if_neg (by omega)] at c7
    by_cases ok:(E o).k = 2
    ·right
     split at c7
     ·simp at c7
     rename_i c8
     split at c7
     ·simp at c7
     split at c7
     ·simp at c7
     rename_i c9
     simpa using c9
    ·exact .inl ok
   have hT:=h.leave d1 ho hok
   have hno:∀ c,(E c).l ≠ [] → c ≠ o:=fun c hc e => by
    subst e
    rcases hok with hok | hok
    ·exact hc (h.lst _ hok)
    ·exact hc hok
   have hmo:=(ris_ent (h.ris to)).1 ho
   have hmi:=(ris_ent (h.ris fr)).1 he
   have hton:to ≠ o:=hno to (fun e => by rw [e] at hmo; cases hmo)
   have hfrn:fr ≠ o:=hno fr (fun e => by rw [e] at hmi; cases hmi)
   have hio:i ≠ o:=fun e => c6 e.symm
   have u1:=leave_up ho hton
   have u2:=leave_up ho hfrn
   have u3:=leave_up ho hio
   refine ⟨hT,by rw [u1.2.1]; exact d1,?_,hl0,by rw [u2.2.1]; exact t1,?_,u3.2.1,fun hik hw => c5 ?_⟩
   ·rw [u1.2.2.2.2,if_pos rfl]
    exact (ris_none (ris_del (h.ris _))).2 fun j hj => by
     have:=((mem_del (h.ris to) (entT_some ho) _).1 hj).2
     exact this rfl
   ·rw [u2.2.2.2.2]
    split
    ·rename_i e
     rw [ris_ent (ris_del (h.ris _)),mem_del (h.ris to) (entT_some ho)]
     rw [e] at hmi
     refine ⟨hmi,fun e2 => ?_⟩
     simp only at e2
     subst e2
     have:=(ris_ent (h.ris to)).2 hmi
     rw [ho] at this
     injection this with this
     exact hio this.symm
    ·exact he
   ·-- the chain from 'to' does not meet what went away
    refine hw.keep (fun c => (E c).k = 2 ∧ c ≠ o) ⟨d1,hton⟩ (fun c hc hc1 => ⟨(h.up1 hc.1).2.2,?_⟩) (fun c hc => (leave_up ho hc.2).1)
    by_cases c2':c = 2
    ·subst c2'; rw [h.lost.2.1]; omega
    have h3:3 ≤ c:=by have:=(h.kle (i:=c) (by omega)).1; omega
    obtain ⟨_,_,q,hq⟩:=h.dir c h3 hc.1
    exact hno _ (fun e => by rw [e] at hq; cases hq)
 obtain ⟨E1,hE1,k1,k2,k3,k4,k5,k6,k7,k8⟩:=key
 rw [← hE1]
 have hf1:findE E1 to (lastN b) = 0:=by unfold findE; rw [if_neg k4,k3]; rfl
 by_cases hik:(E i).k = 2
 ·exact k1.move k2 c4 hf1 (ok_lastN hb) (by rw [k7]; exact hik) hin.2.1 (k8 hik) k5 k6
 ·have hik1:(E1 i).k ≠ 2:=by rw [k7]; exact hik
  have hT2:=k1.enter k2 c4 hf1 (ok_lastN hb) hin.2 hik1
  have f2:=enter_f E1 to (lastN b) i
  refine hT2.leave (i:=i) (by rw [(f2 fr).1.k]; exact k5) ?_ (.inl (by rw [(f2 i).1.k]; exact hik1))
  rw [ris_ent (hT2.ris _),(f2 fr).1.l]
  have hmi:=(ris_ent (k1.ris fr)).1 k6
  split
  ·rename_i e; rw [e] at hmi; exact mem_insT.2 (.inr hmi)
  ·exact hmi
theorem TOk.doE {n B:Nat} {E:Tr} (h:TOk n B E) {o:OpT} (ha:okS o.a) (hb:okS o.b) (hd:okS o.data):TOk n (B + 1) (doE n E o).2:=by
 unfold Go.Proofs.YtgcpgidofikcdaaGreatDoor.doE
 have hm:=h.mono (Nat.le_succ B)
 have h0:okS [] ∧ ([]:Tx).length ≤ 4096:=⟨fun b hb => (by cases hb),by decide⟩
 by_cases c:o.kind = 1
 ·rw [if_pos c]; exact h.makeE ha h0 (by decide)
 rw [if_neg c]; clear c; by_cases c:o.kind = 2
 ·rw [if_pos c]; exact h.makeE ha h0 (by decide)
 rw [if_neg c]; clear c; by_cases c:o.kind = 3
 ·rw [if_pos c]; exact h.linkE hb
 rw [if_neg c]; clear c; by_cases c:o.kind = 4
 ·rw [if_pos c]; exact h.unlinkE
 rw [if_neg c]; clear c; by_cases c:o.kind = 5
 ·rw [if_pos c]; exact h.rmdirE
 rw [if_neg c]; clear c; by_cases c:o.kind = 6
 ·rw [if_pos c]; exact h.renameE hb
 rw [if_neg c]; clear c; by_cases c:o.kind = 7
 ·rw [if_pos c]; exact h.symlinkE ha hd
 rw [if_neg c]; clear c; by_cases c:o.kind = 8
 ·rw [if_pos c]; unfold readlinkE; split
  ·exact hm
  split
  ·exact hm
  ·exact hm
 rw [if_neg c]; clear c; by_cases c:o.kind = 9
 ·rw [if_pos c]; unfold readE; split
  ·exact hm
  split
  ·exact hm
  ·exact hm
 rw [if_neg c]; clear c; by_cases c:o.kind = 10
 ·rw [if_pos c]; exact h.writeE hd
 rw [if_neg c]; clear c; by_cases c:o.kind = 11
 ·rw [if_pos c]; exact h.truncE
 rw [if_neg c]; clear c; by_cases c:o.kind = 12
 ·rw [if_pos c]; unfold statE; split
  ·exact hm
  split
  ·exact hm
  ·exact hm
 rw [if_neg c]; clear c; by_cases c:o.kind = 13
 ·rw [if_pos c]; unfold namesE; split
  ·exact hm
  split
  ·exact hm
  ·exact hm
 rw [if_neg c]; exact hm
def newE:Tr:=fun i => if i = 1 then ⟨2,1,0,[],[]⟩ else if i = 2 then ⟨2,1,0,[],[]⟩ else noE
theorem newE_ok {n:Nat} (h:2 ≤ n ∧ n ≤ 64):TOk n 0 newE:=by
 have h1:∀ i,(newE i).l = []:=fun i => by unfold newE; (repeat' split) <;> rfl
 have h2:∀ i,(newE i).d = []:=fun i => by unfold newE; (repeat' split) <;> rfl
 have h3:∀ i,(newE i).k = 2 → i = 1 ∨ i = 2:=fun i => by
  unfold newE
  split
  ·exact fun _ => .inl (by assumption)
  split
  ·exact fun _ => .inr (by assumption)
  ·intro e; cases e
 refine ⟨h,rfl,fun i hi => ?_,⟨rfl,rfl⟩,⟨rfl,rfl,rfl⟩,fun i => ?_,fun i => ?_,fun i x hx => ?_,fun i => ?_,fun i => ?_,fun i => ?_,fun i _ => h1 i,fun i hi hk => ?_,fun i hk => ?_⟩
 ·unfold newE; rw [if_neg (by omega),if_neg (by omega)]
 ·unfold newE
  split
  ·show 1 ≤ n; omega
  split
  ·show 1 ≤ n; omega
  ·exact Nat.zero_le _
 ·rw [h1]; exact List.Pairwise.nil
 ·rw [h1] at hx; cases hx
 ·rw [h1]; exact Nat.le_refl _
 ·rw [h2]; exact ⟨fun b hb => (by cases hb),by decide⟩
 ·unfold newE
  split
  ·decide
  split
  ·decide
  ·decide
 ·rcases h3 i hk with rfl | rfl <;> omega
 ·rcases h3 i hk with rfl | rfl
  ·exact .one
  ·exact .up .one
end Go.Proofs.YtgcpgidofikcdaaGreatDoor

/-
  PLAIN: ways: what stands between slashes; without detours.
-/
import Derived.Test.YtgcpgidofikcdaaGreatDoorStr
set_option linter.unusedSimpArgs false
namespace Go.Proofs.YtgcpgidofikcdaaGreatDoor
open Go.RowKit Ev
abbrev Tx:=List Nat
def spl:Tx → List Tx
 | [] => [[]]
 | x :: l => if x = 47 then [] :: spl l else match spl l with
  | p :: ps => (x :: p) :: ps
  | [] => [[x]]
theorem spl_ne (l:Tx):spl l ≠ []:=by
 cases l with
 | nil => simp [spl]
 | cons x l => unfold spl; split; simp; split <;> simp
theorem spl_slash (l:Tx):spl (47 :: l) = [] :: spl l:=by simp [spl]
theorem spl_part:∀ (p l:Tx),47 ∉ p → spl (p ++ 47 :: l) = p :: spl l
 | [],l,_ => by simp [spl]
 | x :: p,l,h => by
  have hx:¬ x = 47:=fun e => h (by simp [e])
  have:=spl_part p l (fun e => h (by simp [e]))
  simp [spl,hx,this]
theorem spl_last:∀ (p:Tx),47 ∉ p → spl p = [p]
 | [],_ => rfl
 | x :: p,h => by
  have hx:¬ x = 47:=fun e => h (by simp [e])
  have:=spl_last p (fun e => h (by simp [e]))
  simp [spl,hx,this]
theorem spl_count:∀ l:Tx,(spl l).length = l.count 47 + 1
 | [] => rfl
 | x :: l => by
  have ih:=spl_count l
  unfold spl
  split
  ·rename_i hx; subst hx; simp [ih]
  ·rename_i hx
   have hc:(x :: l).count 47 = l.count 47:=by rw [List.count_cons]; simp [hx]
   rw [hc]
   split
   ·rename_i q qs hq; rw [hq] at ih; simpa using ih
   ·rename_i hq; exact absurd hq (spl_ne l)
theorem spl_size:∀ l:Tx,((spl l).map fun p => p.length + 1).sum = l.length + 1
 | [] => rfl
 | x :: l => by
  have ih:=spl_size l
  unfold spl
  split
  ·simp [ih]; omega
  ·split
   ·rename_i q qs hq; rw [hq] at ih; simp at ih ⊢; omega
   ·rename_i hq; exact absurd hq (spl_ne l)
theorem spl_elem:∀ (l:Tx) (p:Tx),p ∈ spl l → ∀ b ∈ p,b ∈ l
 | [],p,h,b,hb => by simp [spl] at h; subst h; simp at hb
 | x :: l,p,h,b,hb => by
  unfold spl at h
  split at h
  ·rcases List.mem_cons.1 h with rfl | h
   ·simp at hb
   ·simp [spl_elem l p h b hb]
  ·split at h
   ·rename_i q qs hq
    rcases List.mem_cons.1 h with rfl | h
    ·rcases List.mem_cons.1 hb with rfl | hb
     ·simp
     ·simp [spl_elem l q (by rw [hq]; simp) b hb]
    ·simp [spl_elem l p (by rw [hq]; simp [h]) b hb]
   ·simp at h; subst h; simp at hb; simp [hb]
def badT (p:Tx):Prop:=40 < p.length ∨ 0 ∈ p
instance (p:Tx):Decidable (badT p):=by unfold badT; infer_instance
def keepT (p:Tx):Bool:=!decide (p = []) && !decide (p = [46])
def errS (s:Tx):Int:=if s = [] then 1 else if 400 < s.length then 8 else if ∃ p ∈ spl s,badT p then 8 else 0
def parS (s:Tx):List Tx:=(spl s).filter keepT
def cl1 (l:List Tx) (p:Tx):List Tx:=if p = [46,46] then l.dropLast else l ++ [p]
def nmT (p:Tx):Prop:=p ≠ [] ∧ p.length ≤ 40 ∧ p ≠ [46] ∧ p ≠ [46,46] ∧ 47 ∉ p ∧ 0 ∉ p
instance (p:Tx):Decidable (nmT p):=by unfold nmT; infer_instance
theorem errS_zero {s:Tx} (h:errS s = 0):s ≠ [] ∧ s.length ≤ 400 ∧ ∀ p ∈ spl s,¬ badT p:=by
 unfold errS at h
 split at h
 ·cases h
 ·rename_i h1
  split at h
  ·cases h
  ·split at h
   ·cases h
   ·rename_i h2 h3
    exact ⟨h1,by omega,fun p hp hb => h3 ⟨p,hp,hb⟩⟩
theorem errS_of {s:Tx} (h1:s ≠ []) (h2:s.length ≤ 400) (h3:∀ p ∈ spl s,¬ badT p):errS s = 0:=by
 unfold errS
 rw [if_neg h1,if_neg (by omega),if_neg]
 rintro ⟨p,hp,hb⟩
 exact h3 p hp hb
end Go.Proofs.YtgcpgidofikcdaaGreatDoor

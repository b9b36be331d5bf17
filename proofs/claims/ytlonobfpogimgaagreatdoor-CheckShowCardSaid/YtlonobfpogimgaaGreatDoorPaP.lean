/-
  PLAIN: ways: what stands between slashes; without detours.
-/
import Derived.Test.YtlonobfpogimgaaGreatDoorStr
set_option linter.unusedSimpArgs false
namespace Go.Proofs.YtlonobfpogimgaaGreatDoor
open Go.RowKit Ev
abbrev Tx := List Nat
/-- what stands between slashes -/
def spl : Tx → List Tx
  | [] => [[]]
  | x :: l => if x = 47 then [] :: spl l else match spl l with
    | p :: ps => (x :: p) :: ps
    | [] => [[x]]
theorem spl_ne (l : Tx) : spl l ≠ [] := by
  cases l with
  | nil => simp [spl]
  | cons x l => unfold spl; split; simp; split <;> simp
theorem spl_slash (l : Tx) : spl (47 :: l) = [] :: spl l := by simp [spl]
theorem spl_part : ∀ (p l : Tx), 47 ∉ p → spl (p ++ 47 :: l) = p :: spl l
  | [], l, _ => by simp [spl]
  | x :: p, l, h => by
    have hx : ¬ x = 47 := fun e => h (by simp [e])
    have := spl_part p l (fun e => h (by simp [e]))
    simp [spl, hx, this]
theorem spl_last : ∀ (p : Tx), 47 ∉ p → spl p = [p]
  | [], _ => rfl
  | x :: p, h => by
    have hx : ¬ x = 47 := fun e => h (by simp [e])
    have := spl_last p (fun e => h (by simp [e]))
    simp [spl, hx, this]
theorem spl_mem : ∀ (l : Tx) (p : Tx), p ∈ spl l → 47 ∉ p
  | [], p, h => by simp [spl] at h; subst h; simp
  | x :: l, p, h => by
    unfold spl at h
    split at h
    · rcases List.mem_cons.1 h with rfl | h
      · simp
      · exact spl_mem l p h
    · rename_i hx
      split at h
      · rename_i q qs hq
        rcases List.mem_cons.1 h with rfl | h
        · have := spl_mem l q (by rw [hq]; simp)
          simp [this]; exact fun e => hx e.symm
        · exact spl_mem l p (by rw [hq]; simp [h])
      · simp at h; subst h; simp; exact fun e => hx e.symm
theorem spl_count : ∀ l : Tx, (spl l).length = l.count 47 + 1
  | [] => rfl
  | x :: l => by
    have ih := spl_count l
    unfold spl
    split
    · rename_i hx; subst hx; simp [ih]
    · rename_i hx
      have hc : (x :: l).count 47 = l.count 47 := by rw [List.count_cons]; simp [hx]
      rw [hc]
      split
      · rename_i q qs hq; rw [hq] at ih; simpa using ih
      · rename_i hq; exact absurd hq (spl_ne l)
theorem spl_size : ∀ l : Tx, ((spl l).map fun p => p.length + 1).sum = l.length + 1
  | [] => rfl
  | x :: l => by
    have ih := spl_size l
    unfold spl
    split
    · simp [ih]; omega
    · split
      · rename_i q qs hq; rw [hq] at ih; simp at ih ⊢; omega
      · rename_i hq; exact absurd hq (spl_ne l)
theorem spl_elem : ∀ (l : Tx) (p : Tx), p ∈ spl l → ∀ b ∈ p, b ∈ l
  | [], p, h, b, hb => by simp [spl] at h; subst h; simp at hb
  | x :: l, p, h, b, hb => by
    unfold spl at h
    split at h
    · rcases List.mem_cons.1 h with rfl | h
      · simp at hb
      · simp [spl_elem l p h b hb]
    · split at h
      · rename_i q qs hq
        rcases List.mem_cons.1 h with rfl | h
        · rcases List.mem_cons.1 hb with rfl | hb
          · simp
          · simp [spl_elem l q (by rw [hq]; simp) b hb]
        · simp [spl_elem l p (by rw [hq]; simp [h]) b hb]
      · simp at h; subst h; simp at hb; simp [hb]
/-- put together -/
def jn (L : List Tx) : Tx := L.flatMap fun p => 47 :: p
theorem jn_app (L K : List Tx) : jn (L ++ K) = jn L ++ jn K := by simp [jn]
theorem jn_len (L : List Tx) : (jn L).length = (L.map fun p => p.length + 1).sum := by
  induction L with
  | nil => rfl
  | cons p L ih => show (47 :: p ++ jn L).length = _; simp [ih]; omega
theorem spl_jn : ∀ L : List Tx, (∀ p ∈ L, 47 ∉ p) → spl (jn L) = [] :: L
  | [], _ => rfl
  | p :: L, h => by
    have ih := spl_jn L fun q hq => h q (by simp [hq])
    have hp := h p (by simp)
    show spl (47 :: (p ++ jn L)) = _
    rw [spl_slash]
    congr 1
    cases L with
    | nil => show spl (p ++ []) = [p]; rw [List.append_nil]; exact spl_last p hp
    | cons q L =>
      have e : jn (q :: L) = 47 :: (q ++ jn L) := rfl
      rw [e, spl_slash] at ih
      rw [e, spl_part p _ hp]
      congr 1
      injection ih
def badT (p : Tx) : Prop := 40 < p.length ∨ 0 ∈ p
instance (p : Tx) : Decidable (badT p) := by unfold badT; infer_instance
def keepT (p : Tx) : Bool := !decide (p = []) && !decide (p = [46])
def errS (s : Tx) : Int := if s = [] then 1 else if 400 < s.length then 8 else if ∃ p ∈ spl s, badT p then 8 else 0
def parS (s : Tx) : List Tx := (spl s).filter keepT
/-- without detours -/
def cl1 (l : List Tx) (p : Tx) : List Tx := if p = [46, 46] then l.dropLast else l ++ [p]
def clP (L : List Tx) : List Tx := L.foldl cl1 []
def wayL (L : List Tx) : Tx := if L = [] then [47] else jn L
def clS (s : Tx) : Tx := if errS s = 0 then wayL (clP (parS s)) else []
def nmT (p : Tx) : Prop := p ≠ [] ∧ p.length ≤ 40 ∧ p ≠ [46] ∧ p ≠ [46, 46] ∧ 47 ∉ p ∧ 0 ∉ p
instance (p : Tx) : Decidable (nmT p) := by unfold nmT; infer_instance
theorem errS_zero {s : Tx} (h : errS s = 0) : s ≠ [] ∧ s.length ≤ 400 ∧ ∀ p ∈ spl s, ¬ badT p := by
  unfold errS at h
  split at h
  · cases h
  · rename_i h1
    split at h
    · cases h
    · split at h
      · cases h
      · rename_i h2 h3
        exact ⟨h1, by omega, fun p hp hb => h3 ⟨p, hp, hb⟩⟩
theorem errS_of {s : Tx} (h1 : s ≠ []) (h2 : s.length ≤ 400) (h3 : ∀ p ∈ spl s, ¬ badT p) : errS s = 0 := by
  unfold errS
  rw [if_neg h1, if_neg (by omega), if_neg]
  rintro ⟨p, hp, hb⟩
  exact h3 p hp hb
/-- such as stand in a row of parts without detours -/
def fineT (p : Tx) : Prop := nmT p
theorem par_mem {s : Tx} (h : errS s = 0) {p : Tx} (hp : p ∈ parS s) : p ≠ [] ∧ p ≠ [46] ∧ p.length ≤ 40 ∧ 47 ∉ p ∧ 0 ∉ p := by
  unfold parS at hp
  rw [List.mem_filter] at hp
  obtain ⟨h1, h2⟩ := hp
  have h3 := (errS_zero h).2.2 p h1
  unfold badT at h3
  unfold keepT at h2
  simp at h2
  exact ⟨h2.1, h2.2, by omega, spl_mem s p h1, fun h => h3 (.inr h)⟩
theorem cl_mem : ∀ (L K : List Tx) (p : Tx), p ∈ L.foldl cl1 K → p ∈ K ∨ (p ∈ L ∧ p ≠ [46, 46])
  | [], K, p, h => .inl h
  | q :: L, K, p, h => by
    rcases cl_mem L (cl1 K q) p h with h | h
    · unfold cl1 at h
      split at h
      · exact .inl ((List.dropLast_sublist K).mem h)
      · rename_i hq
        rcases List.mem_append.1 h with h | h
        · exact .inl h
        · simp at h; subst h; exact .inr ⟨by simp, hq⟩
    · exact .inr ⟨by simp [h.1], h.2⟩
theorem clP_mem {L : List Tx} {p : Tx} (h : p ∈ clP L) : p ∈ L ∧ p ≠ [46, 46] := by
  rcases cl_mem L [] p h with h | h
  · simp at h
  · exact h
theorem sum_dropLast (K : List Tx) : (K.dropLast.map fun p => p.length + 1).sum ≤ (K.map fun p => p.length + 1).sum := by
  rcases List.eq_nil_or_concat K with rfl | ⟨K', q, rfl⟩
  · simp
  · rw [List.concat_eq_append, List.dropLast_concat]; simp
theorem cl_size : ∀ (L K : List Tx), ((L.foldl cl1 K).map fun p => p.length + 1).sum ≤ (K.map fun p => p.length + 1).sum + (L.map fun p => p.length + 1).sum
  | [], K => by simp
  | q :: L, K => by
    have := cl_size L (cl1 K q)
    have h2 : ((cl1 K q).map fun p => p.length + 1).sum ≤ (K.map fun p => p.length + 1).sum + (q.length + 1) := by
      unfold cl1
      split
      · have := sum_dropLast K; omega
      · simp
    simp only [List.foldl_cons, List.map_cons, List.sum_cons]
    omega
theorem filter_size (f : Tx → Bool) (L : List Tx) : ((L.filter f).map fun p => p.length + 1).sum ≤ (L.map fun p => p.length + 1).sum := by
  induction L with
  | nil => simp
  | cons p L ih =>
    rw [List.filter_cons]
    split
    · simp; exact ih
    · simp; omega
/-- a row of names is its own -/
theorem cl_names : ∀ (L K : List Tx), (∀ p ∈ L, p ≠ [46, 46]) → L.foldl cl1 K = K ++ L
  | [], K, _ => by simp
  | q :: L, K, h => by
    rw [List.foldl_cons, cl_names L _ fun p hp => h p (by simp [hp])]
    unfold cl1
    rw [if_neg (h q (by simp))]
    simp
theorem clP_names {L : List Tx} (h : ∀ p ∈ L, p ≠ [46, 46]) : clP L = L := by
  unfold clP; rw [cl_names L [] h]; rfl
theorem par_jn {L : List Tx} (h : ∀ p ∈ L, 47 ∉ p ∧ p ≠ [] ∧ p ≠ [46]) : parS (jn L) = L := by
  unfold parS
  rw [spl_jn L fun p hp => (h p hp).1]
  have : ∀ p ∈ L, keepT p = true := fun p hp => by unfold keepT; simp [(h p hp).2.1, (h p hp).2.2]
  rw [List.filter_cons]
  have k0 : keepT [] = false := rfl
  rw [k0]
  simp only [Bool.false_eq_true, if_false]
  exact List.filter_eq_self.2 this
theorem err_jn {L : List Tx} (hne : L ≠ []) (hlen : (jn L).length ≤ 400) (h : ∀ p ∈ L, 47 ∉ p ∧ ¬ badT p) : errS (jn L) = 0 := by
  refine errS_of ?_ hlen ?_
  · cases L with
    | nil => exact absurd rfl hne
    | cons p L => show 47 :: (p ++ jn L) ≠ []; simp
  · rw [spl_jn L fun p hp => (h p hp).1]
    intro p hp
    rcases List.mem_cons.1 hp with rfl | hp
    · unfold badT; simp
    · exact (h p hp).2
/-- cleaned -/
theorem clS_some {s : Tx} (h : errS s = 0) (hs : s.length ≤ 399) : (clP (parS s) = [] → clS s = [47]) ∧ (clP (parS s) ≠ [] → clS s = jn (clP (parS s)) ∧ errS (clS s) = 0 ∧ parS (clS s) = clP (parS s) ∧ clS (clS s) = clS s) ∧ clS s ≠ [] ∧ ∀ p ∈ clP (parS s), p ≠ [46, 46] ∧ p ≠ [46] ∧ p ≠ [] := by
  have e : clS s = wayL (clP (parS s)) := by unfold clS; rw [if_pos h]
  have hm : ∀ p ∈ clP (parS s), p ≠ [] ∧ p ≠ [46] ∧ p.length ≤ 40 ∧ 47 ∉ p ∧ 0 ∉ p ∧ p ≠ [46, 46] := fun p hp => by
    obtain ⟨h1, h2⟩ := clP_mem hp
    obtain ⟨a1, a2, a3, a4, a5⟩ := par_mem h h1
    exact ⟨a1, a2, a3, a4, a5, h2⟩
  refine ⟨fun h0 => by rw [e, h0]; rfl, fun h0 => ?_, ?_, fun p hp => ⟨(hm p hp).2.2.2.2.2, (hm p hp).2.1, (hm p hp).1⟩⟩
  · have e2 : clS s = jn (clP (parS s)) := by rw [e]; unfold wayL; rw [if_neg h0]
    have hlen : (jn (clP (parS s))).length ≤ 400 := by
      rw [jn_len]
      have a1 := cl_size (parS s) []
      have a2 := filter_size keepT (spl s)
      have a3 := spl_size s
      unfold clP
      simp only [List.map_nil, List.sum_nil, Nat.zero_add] at a1
      unfold parS at a1 ⊢
      omega
    have e3 : errS (clS s) = 0 := by
      rw [e2]
      exact err_jn h0 hlen fun p hp => ⟨(hm p hp).2.2.2.1, fun hb => by unfold badT at hb; rcases hb with hb | hb; have := (hm p hp).2.2.1; omega; exact (hm p hp).2.2.2.2.1 hb⟩
    have e4 : parS (clS s) = clP (parS s) := by rw [e2]; exact par_jn fun p hp => ⟨(hm p hp).2.2.2.1, (hm p hp).1, (hm p hp).2.1⟩
    refine ⟨e2, e3, e4, ?_⟩
    have e5 : clS (clS s) = wayL (clP (parS (clS s))) := by
      have : clS (clS s) = if errS (clS s) = 0 then wayL (clP (parS (clS s))) else [] := rfl
      rw [this, if_pos e3]
    rw [e5, e4, clP_names fun p hp => (hm p hp).2.2.2.2.2, e]
  · rw [e]
    unfold wayL
    split
    · simp
    · rename_i h0
      cases hL : clP (parS s) with
      | nil => exact absurd hL h0
      | cons p L => show 47 :: (p ++ jn L) ≠ []; simp
theorem clS_slash : errS [47] = 0 ∧ parS [47] = [] ∧ clS [47] = [47] := by decide
end Go.Proofs.YtlonobfpogimgaaGreatDoor

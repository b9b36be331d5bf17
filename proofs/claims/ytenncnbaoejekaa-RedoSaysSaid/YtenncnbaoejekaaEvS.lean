/-
  PLAIN: what must come before what in a region that draws; the evaluator's run of it in the text's order.
-/
import Derived.Test.YtenncnbaoejekaaEvR
namespace Go.Proofs.Ytenncnbaoejekaa.Ev
open Go.RowKit

/-! ### what must come before -/
noncomputable def edgeMask (acc : List Nat) (l : List Edge) : Nat := lr 0 (fun (x : Edge) _ r => match Region.binds .any x with | true => Nat.lor (Nat.lor r (Nat.shiftLeft 1 x.on)) ((lget acc x.on).getD 0) | false => r) l
theorem edgeMask_bit (acc : List Nat) : ∀ (l : List Edge) (j : Nat), Nat.testBit (edgeMask acc l) j = true ↔ ∃ x, x ∈ l ∧ Region.binds .any x = true ∧ (x.on = j ∨ Nat.testBit ((acc[x.on]?).getD 0) j = true)
  | [], j => by simp [edgeMask]
  | x :: l, j => by
    have h : edgeMask acc (x :: l) = (match Region.binds .any x with | true => Nat.lor (Nat.lor (edgeMask acc l) (Nat.shiftLeft 1 x.on)) ((lget acc x.on).getD 0) | false => edgeMask acc l) := rfl
    have ih := edgeMask_bit acc l j
    rw [h]
    split
    · rename_i hb
      show Nat.testBit ((edgeMask acc l ||| (1 <<< x.on)) ||| ((lget acc x.on).getD 0)) j = true ↔ _
      rw [Nat.testBit_or, Nat.testBit_or, lget_eq, Nat.testBit_shiftLeft, Bool.or_eq_true, Bool.or_eq_true, ih]
      constructor
      · rintro ((⟨y, h1, h2, h3⟩ | h) | h)
        · exact ⟨y, List.mem_cons_of_mem _ h1, h2, h3⟩
        · refine ⟨x, List.mem_cons_self, hb, .inl ?_⟩
          simp [Nat.testBit_one_eq_true_iff_self_eq_zero] at h
          omega
        · exact ⟨x, List.mem_cons_self, hb, .inr h⟩
      · rintro ⟨y, h1, h2, h3⟩
        rcases List.mem_cons.1 h1 with rfl | h1
        · rcases h3 with rfl | h3
          · exact .inl (.inr (by simp))
          · exact .inr h3
        · exact .inl (.inl ⟨y, h1, h2, h3⟩)
    · rename_i hb
      rw [ih]
      constructor
      · rintro ⟨y, h1, h2, h3⟩; exact ⟨y, List.mem_cons_of_mem _ h1, h2, h3⟩
      · rintro ⟨y, h1, h2, h3⟩
        rcases List.mem_cons.1 h1 with rfl | h1
        · rw [hb] at h2; cases h2
        · exact ⟨y, h1, h2, h3⟩
theorem befs_cons (o : Oper) (l : List Oper) (acc : List Nat) : befs (o :: l) acc = befs l (acc ++ [edgeMask acc o.after.toList]) := rfl
theorem befs_prefix : ∀ (l : List Oper) (acc : List Nat) (i : Nat), i < acc.length → (befs l acc)[i]? = acc[i]?
  | [], _, _, _ => rfl
  | o :: l, acc, i, h => by
    rw [befs_cons, befs_prefix l _ i (by simp; omega), List.getElem?_append_left h]
theorem befs_get : ∀ (l : List Oper) (acc : List Nat) (i : Nat) (o : Oper), l[i]? = some o → ∃ acc', (befs l acc)[acc.length + i]? = some (edgeMask acc' o.after.toList) ∧ acc'.length = acc.length + i ∧ ∀ j, j < acc.length + i → acc'[j]? = (befs l acc)[j]?
  | [], _, _, _, h => by simp at h
  | o :: l, acc, 0, o', h => by
    simp at h; subst h
    refine ⟨acc, ?_, by simp, fun j hj => ?_⟩
    · rw [befs_cons, befs_prefix l _ _ (by simp)]; simp
    · rw [befs_cons, befs_prefix l _ j (by simp; omega), List.getElem?_append_left (by omega)]
  | o :: l, acc, i + 1, o', h => by
    obtain ⟨acc', h1, h2, h3⟩ := befs_get l (acc ++ [edgeMask acc o.after.toList]) i o' (by simpa using h)
    refine ⟨acc', ?_, by simp at h2; omega, fun j hj => ?_⟩
    · rw [befs_cons, ← h1]; congr 1; simp; omega
    · rw [befs_cons]; exact h3 j (by simp; omega)
/-- the mask of number i -/
theorem befOf_bit {L : List Oper} {i : Nat} {o : Oper} (ho : L[i]? = some o) (hlt : ∀ x, x ∈ o.after.toList → Region.binds .any x = true → x.on < i) (j : Nat) :
    Nat.testBit (befOf L i) j = true ↔ ∃ x, x ∈ o.after.toList ∧ Region.binds .any x = true ∧ (x.on = j ∨ Nat.testBit (befOf L x.on) j = true) := by
  obtain ⟨acc', h1, h2, h3⟩ := befs_get L [] i o ho
  simp only [List.length_nil, Nat.zero_add] at h1 h2 h3
  have e : befOf L i = edgeMask acc' o.after.toList := by
    unfold befOf; rw [lget_eq, h1]; rfl
  rw [e, edgeMask_bit]
  constructor
  · rintro ⟨x, k1, k2, k3⟩
    refine ⟨x, k1, k2, k3.imp id fun k => ?_⟩
    unfold befOf
    rw [lget_eq, ← h3 x.on (hlt x k1 k2)]; exact k
  · rintro ⟨x, k1, k2, k3⟩
    refine ⟨x, k1, k2, k3.imp id fun k => ?_⟩
    unfold befOf at k
    rw [lget_eq, ← h3 x.on (hlt x k1 k2)] at k; exact k
/-! ### what regOk says -/
structure RegFacts (L : List Oper) : Prop where
  edge : ∀ (i : Nat) (o : Oper), L[i]? = some o → ∀ x, x ∈ o.after.toList → Region.binds .any x = true → x.on < i
  uniq : ∀ (i j : Nat) (o o' : Oper) (t : Nat), L[i]? = some o → L[j]? = some o' → i ≠ j → o.dst = some t → o'.dst ≠ some t
  look : ∀ (i j : Nat) (o o' : Oper) (t : Nat), L[i]? = some o → L[j]? = some o' → o'.dst = some t → t ∈ looks L o → Nat.testBit (befOf L i) j = true ∨ Nat.testBit (befOf L j) i = true
noncomputable def rowOk (L : List Oper) (o : Oper) (i : Nat) (l : List Oper) : Nat → Bool := lr (β := Nat → Bool) (fun _ => true) (fun (oj : Oper) _ ihj j => match oj.dst with
      | none => ihj (j + 1)
      | some t => (match (match Nat.beq i j with | true => true | false => (match o.dst with | none => true | some u => !Nat.beq t u)) with
        | false => false
        | true => (match (looks L o).any (Nat.beq t) with
          | false => ihj (j + 1)
          | true => (match Nat.testBit (befOf L i) j with | true => ihj (j + 1) | false => (match Nat.testBit (befOf L j) i with | true => ihj (j + 1) | false => false))))) l
theorem rowOk_spec (L : List Oper) (o : Oper) (i : Nat) : ∀ (l : List Oper) (j : Nat), rowOk L o i l j = true → ∀ m o' t, l[m]? = some o' → o'.dst = some t → (i ≠ j + m → ∀ u, o.dst = some u → t ≠ u) ∧ (t ∈ looks L o → Nat.testBit (befOf L i) (j + m) = true ∨ Nat.testBit (befOf L (j + m)) i = true)
  | [], _, _, _, _, _, h, _ => by simp at h
  | oj :: l, j, hr, m, o', t, hm, hd => by
    have hr' : (match oj.dst with
      | none => rowOk L o i l (j + 1)
      | some t => (match (match Nat.beq i j with | true => true | false => (match o.dst with | none => true | some u => !Nat.beq t u)) with
        | false => false
        | true => (match (looks L o).any (Nat.beq t) with
          | false => rowOk L o i l (j + 1)
          | true => (match Nat.testBit (befOf L i) j with | true => rowOk L o i l (j + 1) | false => (match Nat.testBit (befOf L j) i with | true => rowOk L o i l (j + 1) | false => false))))) = true := hr
    cases m with
    | zero =>
      simp at hm; subst hm
      rw [hd] at hr'
      simp only at hr'
      split at hr'
      · cases hr'
      · rename_i h1
        refine ⟨fun hij u hu e => ?_, fun hl => ?_⟩
        · subst e
          have hb : Nat.beq i j = false := by
            rw [nbeq]; simpa using hij
          rw [hb, hu] at h1
          simp at h1
        · split at hr'
          · rename_i h2
            rw [List.any_eq_false] at h2
            exact absurd (by simp) (h2 t hl)
          · split at hr'
            · rename_i h3; exact .inl (by simpa using h3)
            · split at hr'
              · rename_i h4; exact .inr (by simpa using h4)
              · cases hr'
    | succ m =>
      have hrest : rowOk L o i l (j + 1) = true := by
        split at hr'
        · exact hr'
        · split at hr'
          · cases hr'
          · split at hr'
            · exact hr'
            · split at hr'
              · exact hr'
              · split at hr'
                · exact hr'
                · cases hr'
      have := rowOk_spec L o i l (j + 1) hrest m o' t (by simpa using hm) hd
      rw [show j + (m + 1) = j + 1 + m by omega]
      exact this
noncomputable def regOkAt (L : List Oper) (l : List Oper) : Nat → Bool := lr (β := Nat → Bool) (fun _ => true) (fun o _ ih i =>
  match rowOk L o i L 0 with
  | false => false
  | true => (match o.after.toList.all fun (x : Edge) => match Region.binds .any x with | true => Nat.blt x.on i | false => true with
    | false => false
    | true => (match o.op with | .select .. => false | _ => ih (i + 1)))) l
theorem regOkAt_spec (L : List Oper) : ∀ (l : List Oper) (i : Nat), regOkAt L l i = true → ∀ m o, l[m]? = some o → rowOk L o (i + m) L 0 = true ∧ (∀ x, x ∈ o.after.toList → Region.binds .any x = true → x.on < i + m)
  | [], _, _, _, _, h => by simp at h
  | o :: l, i, hr, m, o', hm => by
    have hr' : (match rowOk L o i L 0 with
      | false => false
      | true => (match o.after.toList.all fun (x : Edge) => match Region.binds .any x with | true => Nat.blt x.on i | false => true with
        | false => false
        | true => (match o.op with | .select .. => false | _ => regOkAt L l (i + 1)))) = true := hr
    split at hr'
    · cases hr'
    · rename_i h1
      split at hr'
      · cases hr'
      · rename_i h2
        cases m with
        | zero =>
          simp at hm; subst hm
          refine ⟨h1, fun x hx hb => ?_⟩
          have := (List.all_eq_true.1 h2) x hx
          rw [hb] at this
          simpa [Nat.blt_eq] using this
        | succ m =>
          have hrest : regOkAt L l (i + 1) = true := by
            split at hr'
            · cases hr'
            · exact hr'
          have := regOkAt_spec L l (i + 1) hrest m o' (by simpa using hm)
          rw [show i + (m + 1) = i + 1 + m by omega]
          exact this
theorem regOk_facts {L : List Oper} (h : regOk L = true) : RegFacts L := by
  have h' : regOkAt L L 0 = true := h
  have key := regOkAt_spec L L 0 h'
  simp only [Nat.zero_add] at key
  refine ⟨fun i o ho => (key i o ho).2, fun i j o o' t ho ho' hij hd hd' => ?_, fun i j o o' t ho ho' hd hl => ?_⟩
  · have := (rowOk_spec L o i L 0 (key i o ho).1 j o' t ho' hd').1
    simp only [Nat.zero_add] at this
    exact this hij t hd rfl
  · have := (rowOk_spec L o i L 0 (key i o ho).1 j o' t ho' hd).2 hl
    simpa using this
theorem RegFacts.lt {L : List Oper} (R : RegFacts L) : ∀ (i j : Nat) (o : Oper), L[i]? = some o → Nat.testBit (befOf L i) j = true → j < i := by
  intro i
  induction i using Nat.strongRecOn with
  | _ i ih =>
    intro j o ho hb
    obtain ⟨x, h1, h2, h3⟩ := (befOf_bit ho (R.edge i o ho) j).1 hb
    have hx := R.edge i o ho x h1 h2
    rcases h3 with rfl | h3
    · exact hx
    · have hlen : i < L.length := by
        rcases Nat.lt_or_ge i L.length with h | h
        · exact h
        · rw [List.getElem?_eq_none h] at ho; cases ho
      have := ih x.on hx j L[x.on] (List.getElem?_eq_getElem (by omega)) h3
      omega
theorem mayW_spec {L : List Oper} {i : Nat} (h : mayW L i = true) : ∀ j o, L[j]? = some o → j ≠ i → touches o.op = true → Nat.testBit (befOf L i) j = true ∨ Nat.testBit (befOf L j) i = true := by
  have key : ∀ (l : List Oper) (j : Nat), (lr (β := Nat → Bool) (fun _ => true) (fun o _ ih j => match Nat.beq i j with
      | true => ih (j + 1)
      | false => match touches o.op with
        | false => ih (j + 1)
        | true => match ordered L i j with
          | true => ih (j + 1)
          | false => false) l j) = true → ∀ m o, l[m]? = some o → j + m ≠ i → touches o.op = true → ordered L i (j + m) = true := by
    intro l
    induction l with
    | nil => intro j _ m o hm; simp at hm
    | cons o l ih =>
      intro j hj m o' hm hne ht
      rw [lr_cons] at hj
      cases m with
      | zero =>
        simp at hm; subst hm
        have hb : Nat.beq i j = false := by rw [nbeq]; simp; omega
        rw [hb, ht] at hj
        simp only at hj
        split at hj
        · rename_i ho; simpa using ho
        · cases hj
      | succ m =>
        have hrest := ih (j + 1)
        have hj' : (lr (β := Nat → Bool) (fun _ => true) (fun o _ ih j => match Nat.beq i j with
            | true => ih (j + 1)
            | false => match touches o.op with
              | false => ih (j + 1)
              | true => match ordered L i j with
                | true => ih (j + 1)
                | false => false) l (j + 1)) = true := by
          split at hj
          · exact hj
          · split at hj
            · exact hj
            · split at hj
              · exact hj
              · cases hj
        have := hrest hj' m o' (by simpa using hm) (by omega) ht
        rw [show j + (m + 1) = j + 1 + m by omega]; exact this
  intro j o ho hne ht
  have := key L 0 h j o ho (by omega) ht
  rw [Nat.zero_add] at this
  unfold ordered at this
  split at this
  · rename_i h1; exact .inl h1
  · exact .inr this
end Go.Proofs.Ytenncnbaoejekaa.Ev

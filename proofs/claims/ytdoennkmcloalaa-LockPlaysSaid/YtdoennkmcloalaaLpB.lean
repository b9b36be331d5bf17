/-
  Package lock: what a change of one entry leaves of a table.
-/
import Derived.Test.YtdoennkmcloalaaLpA
import Derived.Test.YtdoennkmcloalaaInzI
import Derived.Test.YtdoennkmcloalaaDelI
set_option linter.unusedSimpArgs false
set_option linter.unusedVariables false
namespace Go.Proofs.Ytdoennkmcloalaa
open Go.RowKit Ev
section
variable {P : Program} {c : Cx} {st : St}
theorem mk_set : ∀ (M : List (Int × V × Nat)) (j : Nat) (k : Int) (v0 v : V) (b : Nat), M[j]? = some (k, v0, b) → (mk M).modify j (fun e => (.int .i64 k, v, e.2.2)) = mk (M.set j (k, v, b))
  | [], j, _, _, _, _, h => by simp at h
  | e :: M, 0, k, v0, v, b, h => by
    simp at h
    subst h
    rfl
  | e :: M, j + 1, k, v0, v, b, h => by
    have := mk_set M j k v0 v b (by simpa using h)
    show _ :: (mk M).modify j _ = _ :: mk (M.set j (k, v, b))
    rw [this]
theorem mput_old {t el : TypeId} {n ck j : Nat} {k : Int} {M : List (Int × V × Nat)} {v v0 : V} {b : Nat} (h : IsMap P t el) (hok : c.ok n = true) (hwb : c.wb ≤ n) (hg : st.h.get n = some (.mp (mk M) ck)) (hj : M[j]? = some (k, v0, b)) (hn : ∀ e ∈ M.take j, e.1 ≠ k) :
    mputE P c st t (.m n) (.int .i64 k) v = some (.u, ⟨st.nx, st.h.set n (.mp (mk (M.set j (k, v, b))) ck)⟩) := by
  unfold mputE
  rw [mapT_int h, getM_eq hok hg]
  simp only [mfind_at hj hn, setB_eq, if_pos hwb]
  rw [Nat.zero_add, mk_set M j k v0 v b hj]
theorem mdel_no {t el : TypeId} {n ck : Nat} {k : Int} {M : List (Int × V × Nat)} (h : IsMap P t el) (hok : c.ok n = true) (hg : st.h.get n = some (.mp (mk M) ck)) (hn : ∀ e ∈ M, e.1 ≠ k) :
    mdelE P c st t (.m n) (.int .i64 k) = some (.t [], st) := by
  unfold mdelE
  rw [mapT_int h]
  show getM c st (.m n) _ = _
  rw [getM_eq hok hg]
  simp only [mfind_none hn]
end
theorem set_keys : ∀ {M : List (Int × V × Nat)} {j : Nat} {k : Int} {v0 v : V} {b : Nat}, M[j]? = some (k, v0, b) → (M.set j (k, v, b)).map (·.1) = M.map (·.1)
  | [], _, _, _, _, _, h => by simp at h
  | e :: M, 0, k, v0, v, b, h => by simp at h; subst h; rfl
  | e :: M, j + 1, k, v0, v, b, h => by
    show e.1 :: (M.set j (k, v, b)).map (·.1) = e.1 :: M.map (·.1)
    rw [set_keys (by simpa using h)]
theorem mem_setK : ∀ {M : List (Int × V × Nat)} {j : Nat} {k : Int} {v0 v : V} {b : Nat}, M[j]? = some (k, v0, b) → (M.map (·.1)).Nodup → ∀ e ∈ M.set j (k, v, b), e = (k, v, b) ∨ (e ∈ M ∧ e.1 ≠ k)
  | [], _, _, _, _, _, h, _, _, _ => by simp at h
  | x :: M, 0, k, v0, v, b, h, hn, e, he => by
    simp at h
    subst h
    rcases List.mem_cons.1 he with rfl | he
    · exact .inl rfl
    · refine .inr ⟨List.mem_cons_of_mem _ he, fun hh => ?_⟩
      exact (List.nodup_cons.1 hn).1 (List.mem_map.2 ⟨e, he, hh⟩)
  | x :: M, j + 1, k, v0, v, b, h, hn, e, he => by
    have hj : M[j]? = some (k, v0, b) := by simpa using h
    rcases List.mem_cons.1 he with rfl | he
    · refine .inr ⟨List.mem_cons_self .., fun hh => ?_⟩
      exact (List.nodup_cons.1 hn).1 (List.mem_map.2 ⟨_, List.mem_of_getElem? hj, hh.symm⟩)
    · rcases mem_setK hj (List.nodup_cons.1 hn).2 e he with h1 | ⟨h1, h2⟩
      · exact .inl h1
      · exact .inr ⟨List.mem_cons_of_mem _ h1, h2⟩
theorem mem_eraseK : ∀ {M : List (Int × V × Nat)} {j : Nat} {k : Int} {v0 : V} {b : Nat}, M[j]? = some (k, v0, b) → (M.map (·.1)).Nodup → ∀ e, e ∈ M.eraseIdx j ↔ e ∈ M ∧ e.1 ≠ k
  | [], _, _, _, _, h, _, _ => by simp at h
  | x :: M, 0, k, v0, b, h, hn, e => by
    simp at h
    subst h
    have hx := (List.nodup_cons.1 hn).1
    constructor
    · intro he
      exact ⟨List.mem_cons_of_mem _ he, fun hh => hx (List.mem_map.2 ⟨e, he, hh⟩)⟩
    · rintro ⟨he, hk⟩
      rcases List.mem_cons.1 he with rfl | he
      · exact absurd rfl hk
      · exact he
  | x :: M, j + 1, k, v0, b, h, hn, e => by
    have hj : M[j]? = some (k, v0, b) := by simpa using h
    have ih := mem_eraseK hj (List.nodup_cons.1 hn).2 e
    constructor
    · intro he
      rcases List.mem_cons.1 he with rfl | he
      · exact ⟨List.mem_cons_self .., fun hh => (List.nodup_cons.1 hn).1 (List.mem_map.2 ⟨_, List.mem_of_getElem? hj, hh.symm⟩)⟩
      · exact ⟨List.mem_cons_of_mem _ (ih.1 he).1, (ih.1 he).2⟩
    · rintro ⟨he, hk⟩
      rcases List.mem_cons.1 he with rfl | he
      · exact List.mem_cons_self ..
      · exact List.mem_cons_of_mem _ (ih.2 ⟨he, hk⟩)
theorem erase_keys {M : List (Int × V × Nat)} {j : Nat} (hn : (M.map (·.1)).Nodup) : ((M.eraseIdx j).map (·.1)).Nodup :=
  List.Sublist.nodup (List.Sublist.map _ (List.eraseIdx_sublist M j)) hn
open Classical in
/-- at one place another -/
noncomputable def updI {α : Type} (f : Int → α) (k : Int) (v : α) : Int → α := fun i => if i = k then v else f i
theorem updI_same {α : Type} (f : Int → α) (k : Int) (v : α) : updI f k v k = v := by unfold updI; rw [if_pos rfl]
theorem updI_ne {α : Type} (f : Int → α) {k i : Int} (v : α) (h : i ≠ k) : updI f k v i = f i := by unfold updI; rw [if_neg h]
/-- what a step leaves of blocks that are no key's -/
structure FrK (s s' : St) (a b : Nat) (KB KB' : Nat → Prop) : Prop where
  le : s.nx ≤ s'.nx
  keep : ∀ n, n < s.nx → n ≠ a → n ≠ b → ¬ KB n → s'.h.get n = s.h.get n
  more : ∀ n, KB' n → KB n ∨ s.nx ≤ n
  wf : Wf s → Wf s'
theorem FrK.refl (s : St) (a b : Nat) (KB : Nat → Prop) : FrK s s a b KB KB := ⟨Nat.le_refl _, fun _ _ _ _ _ => rfl, fun _ h => .inl h, id⟩
theorem FrK.trans {s1 s2 s3 : St} {a b : Nat} {K1 K2 K3 : Nat → Prop} (h : FrK s1 s2 a b K1 K2) (k : FrK s2 s3 a b K2 K3) : FrK s1 s3 a b K1 K3 :=
  ⟨Nat.le_trans h.le k.le, fun n hn ha hb hk => (k.keep n (Nat.lt_of_lt_of_le hn h.le) ha hb (fun hk2 => by rcases h.more n hk2 with h3 | h3; exact hk h3; omega)).trans (h.keep n hn ha hb hk), fun n hn => by
    rcases k.more n hn with h3 | h3
    · exact h.more n h3
    · exact .inr (Nat.le_trans h.le h3), fun w => k.wf (h.wf w)⟩
theorem Ev.Ext.frK {s s' : St} (h : Ext s.nx s s') (a b : Nat) (KB : Nat → Prop) : FrK s s' a b KB KB := ⟨h.le, fun n hn _ _ _ => h.keep n hn, fun _ h => .inl h, h.wf⟩
section
variable {s s' : St} {q pb : Nat} {KB KB' : Nat → Prop} {hv : Int → List Wn} {ky : Int → List Int × Bool} {A B : List (Int × V × Nat)}
/-- an entry of a key that had none -/
theorem LkMaps.keyNew (h : LkMaps s q pb KB hv ky A B) {k : Int} {v : V} {c m : Nat} {w : List Int × Bool} (hno : ∀ e ∈ B, e.1 ≠ k) (hn : s.nx ≤ s'.nx) (hm : s.nx ≤ m)
    (keep : ∀ n ty sz t, n < s.nx → s.h.get n = some (.cs ty sz t) → s'.h.get n = some (.cs ty sz t)) (hr : KRow s' (fun n => KB n ∨ n = m) v m w) (hw : w.1 ≠ []) (hri : RisI w.1) (hb : w.1.length ≤ 1000) (hq : q < s.nx) : LkMaps s' q pb (fun n => KB n ∨ n = m) hv (updI ky k w) A (B ++ [(k, v, c)]) where
  aOk e he := ⟨(h.aOk e he).1, by
    obtain ⟨n, ty, sz, t, h1, h2, h3, h4, h5, h6⟩ := (h.aOk e he).2
    exact ⟨n, ty, sz, t, h1, by omega, fun hk => by rcases hk with h7 | h7; exact h3 h7; omega, h4, keep _ _ _ _ h2 h5, h6⟩⟩
  aAll := h.aAll
  aOne := h.aOne
  bOk e he := by
    rcases List.mem_append.1 he with he | he
    · obtain ⟨h1, n, ty, sz, t, h2, h3, h4, h5, h6⟩ := h.bOk e he
      rw [updI_ne _ _ (hno e he)]
      exact ⟨h1, n, ty, sz, t, h2, by omega, .inl h4, keep _ _ _ _ h3 h5, h6⟩
    · simp at he
      subst he
      show (updI ky k w k).1 ≠ [] ∧ ∃ m', KRow s' (fun n => KB n ∨ n = m) v m' (updI ky k w k)
      rw [updI_same]
      exact ⟨hw, m, hr⟩
  bAll i hi := by
    by_cases e : i = k
    · subst e; exact ⟨_, List.mem_append_right _ (List.mem_singleton.2 rfl), rfl⟩
    · rw [updI_ne _ _ e] at hi
      obtain ⟨x, h1, h2⟩ := h.bAll i hi
      exact ⟨x, List.mem_append_left _ h1, h2⟩
  bOne := by
    rw [List.map_append, List.nodup_append]
    refine ⟨h.bOne, by simp, fun x hx y hy => ?_⟩
    simp at hy
    subst hy
    obtain ⟨e, he, rfl⟩ := List.mem_map.1 hx
    exact hno e he
  bApart e he e' he' n l r l' r' h1 h2 := by
    obtain ⟨ty, sz, t, h3, _⟩ := hr
    have old : ∀ e ∈ B, ∀ l r, e.2.1 = .g [.sg n 0 l 1, r] → n < s.nx := fun e he l r h1 => by
      obtain ⟨_, n', ty, sz, t, h4, h5, _⟩ := h.bOk e he
      rw [h1] at h4
      injection h4 with h4
      injection h4 with h4
      injection h4 with h4
      subst h4; exact h5
    have new : ∀ l r, v = .g [.sg n 0 l 1, r] → n = m := fun l r h1 => by
      rw [h3] at h1
      injection h1 with h1
      injection h1 with h1
      injection h1 with h1
      exact h1.symm
    rcases List.mem_append.1 he with he | he <;> rcases List.mem_append.1 he' with he' | he'
    · exact h.bApart e he e' he' n l r l' r' h1 h2
    · simp at he'; subst he'; have := old e he l r h1; have := new l' r' h2; omega
    · simp at he; subst he; have := old e' he' l' r' h2; have := new l r h1; omega
    · simp at he he'; subst he he'; rfl
  qNo hk := by rcases hk with h1 | h1; exact h.qNo h1; omega
  kbLt n hk := by
    rcases hk with h1 | h1
    · exact Nat.lt_of_lt_of_le (h.kbLt n h1) hn
    · obtain ⟨ty, sz, t, h3, h4, _⟩ := hr; omega
  ris i := by
    by_cases e : i = k
    · subst e; rw [updI_same]; exact hri
    · rw [updI_ne _ _ e]; exact h.ris i
  big := ⟨h.big.1, fun i => by
    by_cases e : i = k
    · subst e; rw [updI_same]; exact hb
    · rw [updI_ne _ _ e]; exact h.big.2 i⟩
/-- another entry of a key: in a new block, or in its own -/
theorem LkMaps.keyOld (h : LkMaps s q pb KB hv ky A B) {k : Int} {v v0 : V} {c j m m0 : Nat} {w : List Int × Bool} (hj : B[j]? = some (k, v0, c)) (hk0 : KRow s KB v0 m0 (ky k)) (hn : s.nx ≤ s'.nx) (hm : s.nx ≤ m ∨ m = m0)
    (keep : ∀ n ty sz t, n < s.nx → n ≠ m0 → s.h.get n = some (.cs ty sz t) → s'.h.get n = some (.cs ty sz t)) (hr : KRow s' (fun n => KB n ∨ n = m) v m w) (hw : w.1 ≠ []) (hri : RisI w.1) (hb : w.1.length ≤ 1000) (hq : q < s.nx) : LkMaps s' q pb (fun n => KB n ∨ n = m) hv (updI ky k w) A (B.set j (k, v, c)) := by
  have hm0 : KB m0 := by obtain ⟨ty, sz, t, h1, h2, h3, _⟩ := hk0; exact h3
  have hmem : (k, v0, c) ∈ B := List.mem_of_getElem? hj
  have other : ∀ e ∈ B, e.1 ≠ k → ∀ n l r, e.2.1 = .g [.sg n 0 l 1, r] → n ≠ m0 := fun e he hne n l r h1 e0 => by
    subst e0
    obtain ⟨ty, sz, t, h2, _⟩ := hk0
    exact hne (h.bApart e he _ hmem n l r _ _ h1 h2)
  have old : ∀ e ∈ B, ∀ n l r, e.2.1 = .g [.sg n 0 l 1, r] → n < s.nx := fun e he n l r h1 => by
    obtain ⟨_, n', ty, sz, t, h4, h5, _⟩ := h.bOk e he
    rw [h1] at h4
    injection h4 with h4
    injection h4 with h4
    injection h4 with h4
    subst h4; exact h5
  have hmKB : ∀ n, (KB n ∨ n = m) → KB n ∨ s.nx ≤ n := fun n hn => by
    rcases hn with h1 | h1
    · exact .inl h1
    · rcases hm with h2 | h2
      · exact .inr (by omega)
      · exact .inl (by rw [h1, h2]; exact hm0)
  refine ⟨fun e he => ⟨(h.aOk e he).1, ?_⟩, h.aAll, h.aOne, fun e he => ?_, fun i hi => ?_, by rw [set_keys hj]; exact h.bOne, fun e he e' he' n l r l' r' h1 h2 => ?_, fun hk => ?_, fun n hk => ?_, fun i => ?_, h.big.1, fun i => ?_⟩
  · obtain ⟨n, ty, sz, t, h1, h2, h3, h4, h5, h6⟩ := (h.aOk e he).2
    exact ⟨n, ty, sz, t, h1, by omega, fun hk => by rcases hmKB n hk with h7 | h7; exact h3 h7; omega, h4, keep _ _ _ _ h2 (fun e => h3 (e ▸ hm0)) h5, h6⟩
  · rcases mem_setK hj h.bOne e he with rfl | ⟨he, hne⟩
    · show (updI ky k w k).1 ≠ [] ∧ ∃ m', KRow s' (fun n => KB n ∨ n = m) v m' (updI ky k w k)
      rw [updI_same]
      exact ⟨hw, m, hr⟩
    · obtain ⟨h1, n, ty, sz, t, h2, h3, h4, h5, h6⟩ := h.bOk e he
      rw [updI_ne _ _ hne]
      exact ⟨h1, n, ty, sz, t, h2, by omega, .inl h4, keep _ _ _ _ h3 (other e he hne n _ _ h2) h5, h6⟩
  · have hkeys := set_keys (v := v) hj
    have : i ∈ (B.set j (k, v, c)).map (·.1) := by
      rw [hkeys]
      by_cases e : i = k
      · subst e; exact List.mem_map.2 ⟨_, hmem, rfl⟩
      · rw [updI_ne _ _ e] at hi
        obtain ⟨x, h1, h2⟩ := h.bAll i hi
        exact List.mem_map.2 ⟨x, h1, h2⟩
    obtain ⟨e, h1, h2⟩ := List.mem_map.1 this
    exact ⟨e, h1, h2⟩
  · obtain ⟨ty, sz, t, h3, _⟩ := hr
    have new : ∀ l r, v = .g [.sg n 0 l 1, r] → n = m := fun l r h1 => by
      rw [h3] at h1
      injection h1 with h1
      injection h1 with h1
      injection h1 with h1
      exact h1.symm
    rcases mem_setK hj h.bOne e he with rfl | ⟨he, hne⟩ <;> rcases mem_setK hj h.bOne e' he' with rfl | ⟨he', hne'⟩
    · rfl
    · have q1 := new l r h1
      have q2 := old e' he' n l' r' h2
      have q3 := other e' he' hne' n l' r' h2
      omega
    · have q1 := new l' r' h2
      have q2 := old e he n l r h1
      have q3 := other e he hne n l r h1
      omega
    · exact h.bApart e he e' he' n l r l' r' h1 h2
  · rcases hmKB q hk with h1 | h1
    · exact h.qNo h1
    · omega
  · rcases hk with h1 | h1
    · exact Nat.lt_of_lt_of_le (h.kbLt n h1) hn
    · obtain ⟨ty, sz, t, h3, h4, _⟩ := hr; omega
  · by_cases e : i = k
    · subst e; rw [updI_same]; exact hri
    · rw [updI_ne _ _ e]; exact h.ris i
  · by_cases e : i = k
    · subst e; rw [updI_same]; exact hb
    · rw [updI_ne _ _ e]; exact h.big.2 i
/-- a key's entry taken away -/
theorem LkMaps.keyDel (h : LkMaps s q pb KB hv ky A B) {k : Int} {v0 : V} {c j m0 : Nat} {al : Bool} (hj : B[j]? = some (k, v0, c)) (hk0 : KRow s KB v0 m0 (ky k)) (hn : s.nx ≤ s'.nx)
    (keep : ∀ n ty sz t, n < s.nx → n ≠ m0 → s.h.get n = some (.cs ty sz t) → s'.h.get n = some (.cs ty sz t)) (hq : q < s.nx) : LkMaps s' q pb KB hv (updI ky k ([], al)) A (B.eraseIdx j) := by
  have hm0 : KB m0 := by obtain ⟨ty, sz, t, h1, h2, h3, _⟩ := hk0; exact h3
  have hmem : (k, v0, c) ∈ B := List.mem_of_getElem? hj
  have other : ∀ e ∈ B, e.1 ≠ k → ∀ n l r, e.2.1 = .g [.sg n 0 l 1, r] → n ≠ m0 := fun e he hne n l r h1 e0 => by
    subst e0
    obtain ⟨ty, sz, t, h2, _⟩ := hk0
    exact hne (h.bApart e he _ hmem n l r _ _ h1 h2)
  have mem := mem_eraseK hj h.bOne
  refine ⟨fun e he => ⟨(h.aOk e he).1, ?_⟩, h.aAll, h.aOne, fun e he => ?_, fun i hi => ?_, erase_keys h.bOne, fun e he e' he' n l r l' r' h1 h2 => h.bApart e ((mem e).1 he).1 e' ((mem e').1 he').1 n l r l' r' h1 h2, h.qNo, fun n hk => Nat.lt_of_lt_of_le (h.kbLt n hk) hn, fun i => ?_, h.big.1, fun i => ?_⟩
  · obtain ⟨n, ty, sz, t, h1, h2, h3, h4, h5, h6⟩ := (h.aOk e he).2
    exact ⟨n, ty, sz, t, h1, by omega, h3, h4, keep _ _ _ _ h2 (fun e => h3 (e ▸ hm0)) h5, h6⟩
  · obtain ⟨he, hne⟩ := (mem e).1 he
    obtain ⟨h1, n, ty, sz, t, h2, h3, h4, h5, h6⟩ := h.bOk e he
    rw [updI_ne _ _ hne]
    exact ⟨h1, n, ty, sz, t, h2, by omega, h4, keep _ _ _ _ h3 (other e he hne n _ _ h2) h5, h6⟩
  · by_cases e : i = k
    · subst e; rw [updI_same] at hi; exact absurd rfl hi
    · rw [updI_ne _ _ e] at hi
      obtain ⟨x, h1, h2⟩ := h.bAll i hi
      exact ⟨x, (mem x).2 ⟨h1, by rw [h2]; exact e⟩, h2⟩
  · by_cases e : i = k
    · subst e; rw [updI_same]; exact List.Pairwise.nil
    · rw [updI_ne _ _ e]; exact h.ris i
  · by_cases e : i = k
    · subst e; rw [updI_same]; exact Nat.zero_le _
    · rw [updI_ne _ _ e]; exact h.big.2 i
/-- somebody's wants, of whom there were none -/
theorem LkMaps.wantNew (h : LkMaps s q pb KB hv ky A B) {k : Int} {v : V} {c : Nat} {w : List Wn} (hno : hv k = []) (hn : s.nx ≤ s'.nx) (keep : ∀ n ty sz t, n < s.nx → s.h.get n = some (.cs ty sz t) → s'.h.get n = some (.cs ty sz t)) (hr : WRow s' q pb KB v w) (hw : w ≠ []) (hb : w.length ≤ 1000) : LkMaps s' q pb KB (updI hv k w) ky (A ++ [(k, v, c)]) B := by
  have hA : ∀ e ∈ A, e.1 ≠ k := fun e he e0 => (h.aOk e he).1 (e0 ▸ hno)
  have h' := h.keep hn fun m ty sz t hm _ hg => keep m ty sz t hm hg
  refine ⟨fun e he => ?_, fun i hi => ?_, ?_, h'.bOk, h'.bAll, h'.bOne, h'.bApart, h'.qNo, h'.kbLt, h'.ris, fun i => ?_, h'.big.2⟩
  · rcases List.mem_append.1 he with he | he
    · rw [updI_ne _ _ (hA e he)]; exact h'.aOk e he
    · simp at he
      subst he
      show updI hv k w k ≠ [] ∧ WRow s' q pb KB v (updI hv k w k)
      rw [updI_same]
      exact ⟨hw, hr⟩
  · by_cases e : i = k
    · subst e; exact ⟨_, List.mem_append_right _ (List.mem_singleton.2 rfl), rfl⟩
    · rw [updI_ne _ _ e] at hi
      obtain ⟨x, h1, h2⟩ := h.aAll i hi
      exact ⟨x, List.mem_append_left _ h1, h2⟩
  · rw [List.map_append, List.nodup_append]
    refine ⟨h.aOne, by simp, fun x hx y hy => ?_⟩
    simp at hy
    subst hy
    obtain ⟨e, he, rfl⟩ := List.mem_map.1 hx
    exact hA e he
  · by_cases e : i = k
    · subst e; rw [updI_same]; exact hb
    · rw [updI_ne _ _ e]; exact h.big.1 i
/-- .. taken away -/
theorem LkMaps.wantDel (h : LkMaps s q pb KB hv ky A B) {k : Int} {v0 : V} {c j : Nat} (hj : A[j]? = some (k, v0, c)) : LkMaps s q pb KB (updI hv k []) ky (A.eraseIdx j) B := by
  have mem := mem_eraseK hj h.aOne
  refine ⟨fun e he => ?_, fun i hi => ?_, erase_keys h.aOne, h.bOk, h.bAll, h.bOne, h.bApart, h.qNo, h.kbLt, h.ris, fun i => ?_, h.big.2⟩
  · obtain ⟨he, hne⟩ := (mem e).1 he
    rw [updI_ne _ _ hne]; exact h.aOk e he
  · by_cases e : i = k
    · subst e; rw [updI_same] at hi; exact absurd rfl hi
    · rw [updI_ne _ _ e] at hi
      obtain ⟨x, h1, h2⟩ := h.aAll i hi
      exact ⟨x, (mem x).2 ⟨h1, by rw [h2]; exact e⟩, h2⟩
  · by_cases e : i = k
    · subst e; rw [updI_same]; exact Nat.zero_le _
    · rw [updI_ne _ _ e]; exact h.big.1 i
end
end Go.Proofs.Ytdoennkmcloalaa

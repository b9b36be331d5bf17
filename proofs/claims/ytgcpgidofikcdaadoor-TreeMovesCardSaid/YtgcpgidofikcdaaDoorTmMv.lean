/-
  PLAIN: what is called by another name, and back, is as it was.
-/
import Derived.Test.YtgcpgidofikcdaaDoorTmCt
set_option linter.unusedSimpArgs false
set_option linter.unusedVariables false
namespace Go.Proofs.YtgcpgidofikcdaaDoor
open Go.RowKit Ev
/-- a way's last step by itself -/
theorem walk_snoc (E : Tr) (p : Tx) : ∀ (ps : List Tx) (h a : Nat), walk E h a (ps ++ [p]) false = if (walk E h a ps true).2.2 ≠ 0 then walk E h a ps true else walk E (walk E h a ps true).1 (walk E h a ps true).2.1 [p] false
  | [], h, a => by rw [walk_nil, if_neg (fun h => h rfl)]; rfl
  | q :: ps, h, a => by
    have ih := walk_snoc E p ps
    rw [List.cons_append, walk_cons, walk_cons E h a q ps true]
    by_cases c1 : (E a).k ≠ 2
    · simp only [if_pos c1]
      exact (if_pos (fun hh => by cases hh)).symm
    by_cases c2 : q = dots
    · simp only [if_neg c1, if_pos c2]
      exact ih _ _
    by_cases c3 : findE E a q = 0
    · simp only [if_neg c1, if_neg c2, if_pos c3]
      exact (if_pos (fun hh => by cases hh)).symm
    by_cases c4 : (E (findE E a q)).k = 3
    · have e1 : (E (findE E a q)).k = 3 ∧ (false = true ∨ ps ++ [p] ≠ []) := ⟨c4, .inr (by simp)⟩
      have e2 : (E (findE E a q)).k = 3 ∧ (True ∨ ps ≠ []) := ⟨c4, .inl trivial⟩
      simp only [if_neg c1, if_neg c2, if_neg c3, if_pos e1, if_pos e2]
      by_cases c5 : (follE E h a (findE E a q)).2.2 ≠ 0
      · simp only [if_pos c5]
      · simp only [if_neg c5]
        exact ih _ _
    · have e1 : ¬ ((E (findE E a q)).k = 3 ∧ (false = true ∨ ps ++ [p] ≠ [])) := fun h => c4 h.1
      have e2 : ¬ ((E (findE E a q)).k = 3 ∧ (True ∨ ps ≠ [])) := fun h => c4 h.1
      simp only [if_neg c1, if_neg c2, if_neg c3, if_neg e1, if_neg e2]
      exact ih _ _
theorem ris_ext : ∀ {l l' : List (Tx × Nat)}, RisT l → RisT l' → (∀ x, x ∈ l ↔ x ∈ l') → l = l'
  | [], [], _, _, _ => rfl
  | [], y :: l', _, _, h => by have := (h y).2 (by simp); cases this
  | x :: l, [], _, _, h => by have := (h x).1 (by simp); cases this
  | x :: l, y :: l', hr, hr', h => by
    obtain ⟨h1, h2⟩ := List.pairwise_cons.1 hr
    obtain ⟨h3, h4⟩ := List.pairwise_cons.1 hr'
    have e : x = y := by
      rcases List.mem_cons.1 ((h x).1 (by simp)) with e | e
      · exact e
      · rcases List.mem_cons.1 ((h y).2 (by simp)) with e2 | e2
        · exact e2.symm
        · exact absurd (ltT_trans (h3 x e) (h1 y e2)) (ltT_irrefl _)
    subst e
    rw [ris_ext h2 h4 fun z => ?_]
    constructor
    · intro hz
      rcases List.mem_cons.1 ((h z).1 (by simp [hz])) with e | e
      · subst e; exact absurd (h1 z hz) (ltT_irrefl _)
      · exact e
    · intro hz
      rcases List.mem_cons.1 ((h z).2 (by simp [hz])) with e | e
      · subst e; exact absurd (h3 z hz) (ltT_irrefl _)
      · exact e
structure MvF (F M : Tr) (da db i : Nat) (na nb : Tx) : Prop where
  k : ∀ j, (M j).k = (F j).k
  d : ∀ j, (M j).d = (F j).d
  nm : (M i).nm = (F i).nm
  up : ∀ j, (M j).up = if j = i then db else (F j).up
  ris : ∀ j, RisT (M j).l
  mem : ∀ j q x, (q, x) ∈ (M j).l ↔ ((q, x) ∈ (F j).l ∧ ¬ (j = da ∧ q = na)) ∨ (j = db ∧ q = nb ∧ x = i)
theorem mv_ok {F : Tr} {da db i : Nat} {na nb : Tx} (hr : ∀ j, RisT (F j).l) (hb : entT nb (F db).l = none) (ha : entT na (F da).l = some i) (hn : 1 ≤ (F i).nm ∧ (F i).nm ≤ 65000) : MvF F (leaveE (enterE F db nb i) da na) da db i na nb := by
  have f := enter_f F db nb i
  have hw : IntKind.i64.wrap ((F i).nm + 1) = (F i).nm + 1 := wrap_in (by omega) (by omega)
  have hnbd := (ris_none (hr db)).1 hb
  have hmi := (ris_ent (hr da)).1 ha
  have hr2 : ∀ j, RisT (enterE F db nb i j).l := fun j => by
    rw [(f j).1.l]
    split
    · exact ris_ins (hr db) hb
    · exact hr j
  have hm2 : ∀ j q x, (q, x) ∈ (enterE F db nb i j).l ↔ (q, x) ∈ (F j).l ∨ (j = db ∧ q = nb ∧ x = i) := fun j q x => by
    rw [(f j).1.l]
    by_cases e : j = db
    · subst e
      rw [if_pos rfl, mem_insT]
      constructor
      · rintro (h | h)
        · injection h with h1 h2; exact .inr ⟨rfl, h1, h2⟩
        · exact .inl h
      · rintro (h | ⟨_, h1, h2⟩)
        · exact .inr h
        · exact .inl (by rw [h1, h2])
    · rw [if_neg e]
      exact ⟨.inl, fun h => h.elim id fun h => absurd h.1 e⟩
  have he2 : entT na (enterE F db nb i da).l = some i := (ris_ent (hr2 da)).2 ((hm2 da na i).2 (.inl hmi))
  have hnm2 : (enterE F db nb i i).nm = (F i).nm + 1 := by rw [(f i).1.nm, if_pos rfl, hw]
  have hw2 : IntKind.i64.wrap ((enterE F db nb i i).nm - 1) = (F i).nm := by rw [hnm2, wrap_in (by omega) (by omega)]; omega
  have g := leave_stay he2 (by rw [hw2]; omega)
  refine ⟨fun j => ?_, fun j => ?_, ?_, fun j => ?_, fun j => ?_, fun j q x => ?_⟩
  · rw [(g j).1.k, (f j).1.k]
  · rw [(g j).1.d, (f j).1.d]
  · rw [(g i).1.nm, if_pos rfl, hw2]
  · rw [(g j).2, (f j).2]
  · rw [(g j).1.l]
    split
    · exact ris_del (hr2 da)
    · exact hr2 j
  · rw [(g j).1.l]
    by_cases e : j = da
    · subst e
      rw [if_pos rfl, mem_del (hr2 j) (entT_some he2), hm2]
      constructor
      · rintro ⟨h | h, h2⟩
        · exact .inl ⟨h, fun h3 => h2 h3.2⟩
        · exact .inr h
      · rintro (⟨h, h2⟩ | h)
        · exact ⟨.inl h, fun h3 => h2 ⟨rfl, h3⟩⟩
        · refine ⟨.inr h, fun h3 => ?_⟩
          obtain ⟨h4, h5, _⟩ := h
          simp only at h3
          rw [← h5, h3, ← h4] at hnbd
          exact hnbd i hmi
    · rw [if_neg e, hm2]
      constructor
      · rintro (h | h)
        · exact .inl ⟨h, fun h3 => e h3.1⟩
        · exact .inr h
      · rintro (⟨h, _⟩ | h)
        · exact .inl h
        · exact .inr h
/-- not below a directory that moves -/
def Cl (E : Tr) (i x : Nat) : Prop := (E i).k = 2 → (E x).k = 2 → ¬ Wn E i x
structure Lk (n B : Nat) (E M : Tr) (da db i : Nat) (na nb : Tx) : Prop where
  ok : TOk n B E
  ct : Ct n E
  i3 : 3 ≤ i
  k : ∀ j, (M j).k = (E j).k
  d : ∀ j, (M j).d = (E j).d
  up : ∀ j, j ≠ i → (M j).up = (E j).up
  ent : (na, i) ∈ (E da).l
  fa : findE M da na = 0
  fb : findE E db nb = 0
  f : ∀ a p, ¬ (a = da ∧ p = na) → ¬ (a = db ∧ p = nb) → findE M a p = findE E a p
theorem Cl.one {E : Tr} {i : Nat} (h3 : 3 ≤ i) : Cl E i 1 := fun _ _ hw => by
  cases hw with
  | here => omega
  | up h _ => exact h rfl
section
variable {n B da db i : Nat} {na nb : Tx} {E M : Tr}
theorem Lk.up1 (L : Lk n B E M da db i na nb) {a : Nat} (hk : (E a).k = 2) (hc : Cl E i a) : (M a).up = (E a).up ∧ Cl E i (E a).up := by
  have hai : a ≠ i := fun e => by subst e; exact hc hk hk .here
  refine ⟨L.up a hai, fun h2 h3 hw => ?_⟩
  by_cases e : a = 1
  · subst e
    rw [L.ok.root.2] at hw
    exact hc h2 hk hw
  · exact hc h2 hk (.up e hw)
theorem Lk.find (L : Lk n B E M da db i na nb) {a : Nat} {p : Tx} (hk : (E a).k = 2) (hc : Cl E i a) (h1 : findE E a p ≠ 0) (h2 : findE M a p ≠ 0) : findE M a p = findE E a p ∧ Cl E i (findE E a p) := by
  have ea : ¬ (a = da ∧ p = na) := fun e => h2 (by rw [e.1, e.2]; exact L.fa)
  have eb : ¬ (a = db ∧ p = nb) := fun e => h1 (by rw [e.1, e.2]; exact L.fb)
  refine ⟨L.f a p ea eb, fun h3 h4 hw => ?_⟩
  have hmem : findE E a p ≠ 2 → (p, findE E a p) ∈ (E a).l := fun e2 => List.mem_of_getElem? (entT_some (L.ok.entF h1 e2))
  have hi3 := L.i3
  cases hw with
  | here =>
    have hm := hmem (by omega)
    have := L.ct.one L.ok h3 hm L.ent
    exact ea this
  | up h5 h6 =>
    refine hc h3 hk ?_
    by_cases e2 : findE E a p = 2
    · have e1 : a = 1 := by
        unfold findE at e2
        split at e2
        · rename_i e; exact e.1
        · cases he : entT p (E a).l with
          | none => rw [he] at e2; cases e2
          | some x =>
            rw [he] at e2
            have := (L.ok.ent a _ (List.mem_of_getElem? (entT_some he))).2.1
            simp at e2 this
            omega
      rw [e2, L.ok.lost.2.1] at h6
      rw [e1]
      exact h6
    · have hm := hmem e2
      obtain ⟨_, h7, _⟩ := L.ct.named L.ok hm
      obtain ⟨_, _, q, hq⟩ := L.ok.dir _ h7 h4
      rw [(L.ct.one L.ok h4 hm hq).1]
      exact h6
theorem Lk.walk (L : Lk n B E M da db i na nb) : ∀ (m hp a : Nat) (ps : List Tx) (last : Bool), 9 - hp ≤ m → Cl E i a → (Go.Proofs.YtgcpgidofikcdaaDoor.walk E hp a ps last).2.2 = 0 → (Go.Proofs.YtgcpgidofikcdaaDoor.walk M hp a ps last).2.2 = 0 → Go.Proofs.YtgcpgidofikcdaaDoor.walk M hp a ps last = Go.Proofs.YtgcpgidofikcdaaDoor.walk E hp a ps last ∧ Cl E i (Go.Proofs.YtgcpgidofikcdaaDoor.walk E hp a ps last).2.1 := by
  intro m
  induction m with
  | zero =>
    intro hp a ps
    induction ps generalizing a with
    | nil => intro last _ h1 _ _; rw [walk_nil, walk_nil]; exact ⟨rfl, h1⟩
    | cons p ps ih =>
      intro last hm h1
      rw [walk_cons, walk_cons M, L.k a]
      by_cases c1 : (E a).k ≠ 2
      · simp only [if_pos c1]; intro hh; cases hh
      have hk : (E a).k = 2 := by omega
      by_cases c2 : p = dots
      · simp only [if_neg c1, if_pos c2]
        obtain ⟨u1, u2⟩ := L.up1 hk h1
        rw [u1]
        exact ih _ last hm u2
      by_cases c3 : findE E a p = 0
      · simp only [if_neg c1, if_neg c2, if_pos c3]; intro hh; cases hh
      by_cases c3' : findE M a p = 0
      · simp only [if_neg c1, if_neg c2, if_neg c3, if_pos c3']; intro _ hh; cases hh
      obtain ⟨f1, f2⟩ := L.find hk h1 c3 c3'
      by_cases c4 : (E (findE E a p)).k = 3 ∧ (last = true ∨ ps ≠ [])
      · have e : follE E hp a (findE E a p) = (hp + 1, 0, 11) := by unfold follE; rw [if_pos (by omega)]
        simp only [if_neg c1, if_neg c2, if_neg c3, if_pos c4, e]
        intro hh; cases hh
      · have c4' : ¬ ((M (findE M a p)).k = 3 ∧ (last = true ∨ ps ≠ [])) := by rw [f1, L.k]; exact c4
        simp only [if_neg c1, if_neg c2, if_neg c3, if_neg c3', if_neg c4, if_neg c4']
        rw [f1]
        exact ih _ last hm f2
  | succ m ihm =>
    intro hp a ps
    induction ps generalizing hp a with
    | nil => intro last _ h1 _ _; rw [walk_nil, walk_nil]; exact ⟨rfl, h1⟩
    | cons p ps ih =>
      intro last hm h1
      rw [walk_cons, walk_cons M, L.k a]
      by_cases c1 : (E a).k ≠ 2
      · simp only [if_pos c1]; intro hh; cases hh
      have hk : (E a).k = 2 := by omega
      by_cases c2 : p = dots
      · simp only [if_neg c1, if_pos c2]
        obtain ⟨u1, u2⟩ := L.up1 hk h1
        rw [u1]
        exact ih _ _ last hm u2
      by_cases c3 : findE E a p = 0
      · simp only [if_neg c1, if_neg c2, if_pos c3]; intro hh; cases hh
      by_cases c3' : findE M a p = 0
      · simp only [if_neg c1, if_neg c2, if_neg c3, if_pos c3']; intro _ hh; cases hh
      obtain ⟨f1, f2⟩ := L.find hk h1 c3 c3'
      by_cases c4 : (E (findE E a p)).k = 3 ∧ (last = true ∨ ps ≠ [])
      · have c4' : (M (findE M a p)).k = 3 ∧ (last = true ∨ ps ≠ []) := by rw [f1, L.k]; exact c4
        simp only [if_neg c1, if_neg c2, if_neg c3, if_neg c3', if_pos c4, if_pos c4']
        have hfl := follE_le E hp a (findE E a p)
        by_cases c5 : (follE E hp a (findE E a p)).2.2 ≠ 0
        · simp only [if_pos c5]; intro hh; exact absurd hh c5
        by_cases c5' : (follE M hp a (findE M a p)).2.2 ≠ 0
        · simp only [if_neg c5, if_pos c5']; intro _ hh; exact absurd hh c5'
        simp only [if_neg c5, if_neg c5']
        have key : follE M hp a (findE M a p) = follE E hp a (findE E a p) ∧ Cl E i (follE E hp a (findE E a p)).2.1 := by
          have c5 : (follE E hp a (findE E a p)).2.2 = 0 := by omega
          have c5' : (follE M hp a (findE M a p)).2.2 = 0 := by omega
          revert c5 c5'
          rw [f1]
          unfold follE
          rw [L.d]
          by_cases c6 : 8 ≤ hp
          · simp only [if_pos c6]; intro hh; cases hh
          by_cases c7 : errS (E (findE E a p)).d ≠ 0
          · simp only [if_neg c6, if_pos c7]; intro hh; exact absurd hh c7
          simp only [if_neg c6, if_neg c7]
          exact ihm (hp + 1) _ (parS (E (findE E a p)).d) true (by omega) (by
            split
            · exact Cl.one L.i3
            · exact h1)
        rw [key.1]
        exact ihm _ _ ps last (by omega) key.2
      · have c4' : ¬ ((M (findE M a p)).k = 3 ∧ (last = true ∨ ps ≠ [])) := by rw [f1, L.k]; exact c4
        simp only [if_neg c1, if_neg c2, if_neg c3, if_neg c3', if_neg c4, if_neg c4']
        rw [f1]
        exact ih _ _ last hm f2
theorem Lk.dirE (L : Lk n B E M da db i na nb) {ps : List Tx} (h1 : (Go.Proofs.YtgcpgidofikcdaaDoor.dirE E ps).2 = 0) (h2 : (Go.Proofs.YtgcpgidofikcdaaDoor.dirE M ps).2 = 0) : (Go.Proofs.YtgcpgidofikcdaaDoor.dirE M ps).1 = (Go.Proofs.YtgcpgidofikcdaaDoor.dirE E ps).1 := by
  unfold Go.Proofs.YtgcpgidofikcdaaDoor.dirE at h1 h2 ⊢
  by_cases c1 : (Go.Proofs.YtgcpgidofikcdaaDoor.walk E 0 1 ps true).2.2 ≠ 0
  · rw [if_pos c1] at h1; exact absurd h1 c1
  by_cases c2 : (Go.Proofs.YtgcpgidofikcdaaDoor.walk M 0 1 ps true).2.2 ≠ 0
  · rw [if_pos c2] at h2; exact absurd h2 c2
  have := (L.walk 9 0 1 ps true (by omega) (Cl.one L.i3) (by omega) (by omega)).1
  rw [if_neg c1] at h1 ⊢
  rw [if_neg c2] at h2 ⊢
  rw [this, L.k] at h2 ⊢
theorem MvF.lk (h : TOk n B E) (C : Ct n E) (mv : MvF E M da db i na nb) (h3 : 3 ≤ i) (hnl : ¬ (da = 1 ∧ na = lostT)) (ha : entT na (E da).l = some i) (hb : findE E db nb = 0) : Lk n B E M da db i na nb := by
  have hfa : findE E da na = i := by unfold findE; rw [if_neg hnl, ha]; rfl
  have hab : ¬ (da = db ∧ na = nb) := fun e => by rw [e.1, e.2, hb] at hfa; omega
  refine ⟨h, C, h3, mv.k, mv.d, fun j hj => by rw [mv.up, if_neg hj], (ris_ent (h.ris da)).1 ha, ?_, hb, fun a p e1 e2 => ?_⟩
  · unfold findE
    rw [if_neg hnl, (ris_none (mv.ris da)).2 fun x hx => ?_]
    · rfl
    · rcases (mv.mem da na x).1 hx with h1 | h1
      · exact h1.2 ⟨rfl, rfl⟩
      · exact hab ⟨h1.1, h1.2.1⟩
  · have hm : ∀ x, (p, x) ∈ (M a).l ↔ (p, x) ∈ (E a).l := fun x => by
      rw [mv.mem]
      constructor
      · rintro (h1 | h1)
        · exact h1.1
        · exact absurd ⟨h1.1, h1.2.1⟩ e2
      · intro h1; exact .inl ⟨h1, e1⟩
    have he : entT p (M a).l = entT p (E a).l := by
      cases hx : entT p (E a).l with
      | none =>
        rw [ris_none (mv.ris a)]
        intro x hx2
        exact (ris_none (h.ris a)).1 hx x ((hm x).1 hx2)
      | some x =>
        rw [ris_ent (mv.ris a), hm]
        exact (ris_ent (h.ris a)).1 hx
    unfold findE
    rw [he]
theorem last_snoc {s : Tx} (h : lastE s = 0) : errS s = 0 ∧ parS s = lastD s ++ [lastN s] ∧ lastN s ≠ dots := by
  have h0 := h
  unfold lastE at h0
  by_cases c1 : errS s ≠ 0
  · rw [if_pos c1] at h0; exact absurd h0 c1
  rw [if_neg c1] at h0
  by_cases c2 : lastBad s
  · rw [if_pos c2] at h0; cases h0
  have hne : parS s ≠ [] := fun e => c2 (.inl e)
  have hg : (parS s).getLast? = some ((parS s).getLast hne) := List.getLast?_eq_some_getLast hne
  have hN : lastN s = (parS s).getLast hne := by unfold lastN; rw [if_pos h, hg]; rfl
  refine ⟨by omega, ?_, fun e => c2 (.inr (.inl ?_))⟩
  · unfold lastD
    rw [if_pos h, hN]
    exact (List.dropLast_concat_getLast hne).symm
  · rw [hg, ← hN, e]; rfl
theorem enoent {s : Tx} (h : lastE s = 0) (hd : (Go.Proofs.YtgcpgidofikcdaaDoor.dirE E (lastD s)).2 = 0) (hw : (wayE E s false).2 = 2) : findE E (Go.Proofs.YtgcpgidofikcdaaDoor.dirE E (lastD s)).1 (lastN s) = 0 := by
  obtain ⟨h1, h2, h3⟩ := last_snoc h
  unfold wayE at hw
  rw [if_neg (fun hh => hh h1), h2, walk_snoc] at hw
  unfold Go.Proofs.YtgcpgidofikcdaaDoor.dirE at hd ⊢
  by_cases c1 : (Go.Proofs.YtgcpgidofikcdaaDoor.walk E 0 1 (lastD s) true).2.2 ≠ 0
  · rw [if_pos c1] at hd; exact absurd hd c1
  rw [if_neg c1] at hd hw ⊢
  by_cases c2 : (E (Go.Proofs.YtgcpgidofikcdaaDoor.walk E 0 1 (lastD s) true).2.1).k ≠ 2
  · rw [if_pos c2] at hd; cases hd
  rw [if_neg c2] at hd ⊢
  refine Classical.byContradiction fun c3 => ?_
  rw [walk_cons, if_neg c2, if_neg h3, if_neg c3, if_neg (fun hh => by rcases hh.2 with e | e; cases e; exact e rfl), walk_nil] at hw
  cases hw
theorem ren_ok (h : TOk n B E) {a b : Tx} (he : (renameE E a b).1.err = 0) : lastE a = 0 ∧ lastE b = 0 ∧ (thereE E a).2.2.2 = 0 ∧ (thereE E a).2.1 ≠ 2 ∧ (Go.Proofs.YtgcpgidofikcdaaDoor.dirE E (lastD b)).2 = 0 ∧ (findE E (Go.Proofs.YtgcpgidofikcdaaDoor.dirE E (lastD b)).1 (lastN b) = 0 → (renameE E a b).2 = leaveE (enterE (leaveE E (Go.Proofs.YtgcpgidofikcdaaDoor.dirE E (lastD b)).1 (lastN b)) (Go.Proofs.YtgcpgidofikcdaaDoor.dirE E (lastD b)).1 (lastN b) (thereE E a).2.1) (thereE E a).1 (thereE E a).2.2.1) := by
  unfold renameE at he ⊢
  by_cases c1 : lastE a ≠ 0
  · rw [if_pos c1] at he; exact absurd he c1
  rw [if_neg c1] at he ⊢
  by_cases c2 : lastE b ≠ 0
  · rw [if_pos c2] at he; exact absurd he c2
  rw [if_neg c2] at he ⊢
  by_cases c3 : (thereE E a).2.2.2 ≠ 0
  · rw [if_pos c3] at he; exact absurd he c3
  rw [if_neg c3] at he ⊢
  by_cases c4 : (thereE E a).2.1 = 2
  · rw [if_pos c4] at he; cases he
  rw [if_neg c4] at he ⊢
  by_cases c5 : (Go.Proofs.YtgcpgidofikcdaaDoor.dirE E (lastD b)).2 ≠ 0
  · rw [if_pos c5] at he; exact absurd he c5
  rw [if_neg c5] at he ⊢
  by_cases c6 : (Go.Proofs.YtgcpgidofikcdaaDoor.dirE E (lastD b)).1 = 2
  · rw [if_pos c6] at he; cases he
  rw [if_neg c6] at he ⊢
  by_cases c7 : Wn E (thereE E a).2.1 (Go.Proofs.YtgcpgidofikcdaaDoor.dirE E (lastD b)).1
  · rw [if_pos c7] at he; cases he
  rw [if_neg c7] at he ⊢
  refine ⟨by omega, by omega, by omega, c4, by omega, fun hf => ?_⟩
  have h3 := (h.there (s := a) (by omega)).2.2.1
  rw [hf] at he ⊢
  rw [if_neg (fun e => h3 e.symm)] at he ⊢
  rw [if_neg (fun hh => hh rfl)]
theorem leave_nil {F : Tr} {a : Nat} {p : Tx} (h : entT p (F a).l = none) : leaveE F a p = F := by unfold leaveE; rw [h]
theorem move_back (h : TOk n B E) (C : Ct n E) (hB : B ≤ 1000) {a b : Tx} (hb : okS b) (h1 : (renameE E a b).1.err = 0) (hw : (wayE E b false).2 = 2) (h2 : (renameE (renameE E a b).2 b a).1.err = 0) (j : Nat) : (E j).k = ((renameE (renameE E a b).2 b a).2 j).k ∧ (E j).d = ((renameE (renameE E a b).2 b a).2 j).d ∧ (E j).l = ((renameE (renameE E a b).2 b a).2 j).l := by
  obtain ⟨a0, b0, t0, t2, d0, key⟩ := ren_ok h h1
  have hM := h.renameE (a := a) hb
  have hfb := enoent b0 d0 hw
  have key := key hfb
  obtain ⟨M, hMd⟩ : ∃ M, M = (renameE E a b).2 := ⟨_, rfl⟩
  rw [← hMd] at hM key h2 ⊢
  obtain ⟨da, hda⟩ : ∃ da, da = (thereE E a).1 := ⟨_, rfl⟩
  obtain ⟨ia, hia⟩ : ∃ ia, ia = (thereE E a).2.1 := ⟨_, rfl⟩
  obtain ⟨na, hna⟩ : ∃ na, na = (thereE E a).2.2.1 := ⟨_, rfl⟩
  obtain ⟨db, hdb⟩ : ∃ db, db = (Go.Proofs.YtgcpgidofikcdaaDoor.dirE E (lastD b)).1 := ⟨_, rfl⟩
  obtain ⟨nb, hnb⟩ : ∃ nb, nb = lastN b := ⟨_, rfl⟩
  obtain ⟨s1, s2, s3, s4, s5, s6, s7⟩ := h.there t0
  rw [← hda, ← hia, ← hna] at key
  rw [← hdb, ← hnb] at key hfb
  rw [← hia, ← hda, ← hna] at s2
  rw [← hda] at s1 s4
  rw [← hia] at s3 t2
  rw [← hna] at s5
  have hnb0 : entT nb (E db).l = none := h.noEnt hfb
  rw [leave_nil hnb0] at key
  have he : entT na (E da).l = some ia := by
    have := h.entF (a := da) (p := na) (by rw [← s2]; exact s3) (by rw [← s2]; exact t2)
    rw [← s2] at this
    exact this
  have hmi := (ris_ent (h.ris da)).1 he
  obtain ⟨n1, i3, _⟩ := C.named h hmi
  have hnm := C.nm ia i3
  have hcm := h.cnt hB ia
  have mv : MvF E M da db ia na nb := by rw [key]; exact mv_ok h.ris hnb0 he (by omega)
  have hnl : ¬ (da = 1 ∧ na = lostT) := fun e => t2 (by rw [s2]; exact if_pos e)
  have L := mv.lk h C i3 hnl he hfb
  obtain ⟨_, _, u0, u2, e0, key2⟩ := ren_ok hM h2
  obtain ⟨v1, v2, v3, v4, v5, v6, v7⟩ := hM.there u0
  have e1 := L.dirE (ps := lastD b) d0 v6
  rw [← hdb] at e1
  have e2 := L.dirE (ps := lastD a) s6 e0
  rw [← s4] at e2
  rw [v4, e1, v5, ← hnb] at v2
  have hnlb : ¬ (db = 1 ∧ nb = lostT) := fun e => by
    have : findE E db nb = 2 := if_pos e
    omega
  have heM : entT nb (M db).l = some ia := (ris_ent (mv.ris db)).2 ((mv.mem db nb ia).2 (.inr ⟨rfl, rfl, rfl⟩))
  have hfM : findE M db nb = ia := by unfold findE; rw [if_neg hnlb, heM]; rfl
  have hnaM : entT na (M da).l = none := hM.noEnt L.fa
  have key2 := key2 (by rw [e2, ← s5]; exact L.fa)
  rw [e2, ← s5, v2, hfM, v4, e1, v5, ← hnb, leave_nil hnaM] at key2
  have mv2 : MvF M (renameE M b a).2 db da ia nb na := by rw [key2]; exact mv_ok mv.ris hnaM heM (by rw [mv.nm]; omega)
  refine ⟨by rw [mv2.k, mv.k], by rw [mv2.d, mv.d], ris_ext (h.ris j) (mv2.ris j) fun x => ?_⟩
  obtain ⟨q, y⟩ := x
  rw [mv2.mem, mv.mem]
  constructor
  · intro hx
    by_cases e : j = da ∧ q = na
    · refine .inr ⟨e.1, e.2, ?_⟩
      rw [e.1, e.2] at hx
      have := (ris_ent (h.ris da)).2 hx
      rw [he] at this
      injection this with this
      exact this.symm
    · refine .inl ⟨.inl ⟨hx, e⟩, fun e3 => ?_⟩
      rw [e3.1, e3.2] at hx
      exact (ris_none (h.ris db)).1 hnb0 y hx
  · rintro (⟨hx | hx, hno⟩ | hx)
    · exact hx.1
    · exact absurd ⟨hx.1, hx.2.1⟩ hno
    · rw [hx.1, hx.2.1, hx.2.2]; exact hmi
end
end Go.Proofs.YtgcpgidofikcdaaDoor

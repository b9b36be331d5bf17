/-
  PLAIN: rows that are put in order; their blocks.
-/
import Derived.Test.YtlonobfpogimgaaChecked
import Derived.Test.YtlonobfpogimgaaDrw
import Derived.Test.YtlonobfpogimgaaSc
set_option linter.unusedSimpArgs false
set_option linter.unusedVariables false
namespace Go.Proofs.Ytlonobfpogimgaa
open Go.RowKit Ev
/-! ### places that change -/
structure Pm (a b : Nat) (σ : Nat → Nat) : Prop where
  inj : ∀ i j, σ i = σ j → i = j
  out : ∀ i, (i < a ∨ b ≤ i) → σ i = i
theorem Pm.id (a b : Nat) : Pm a b fun i => i := ⟨fun _ _ h => h, fun _ _ => rfl⟩
theorem Pm.ins {a b : Nat} {σ : Nat → Nat} (h : Pm a b σ) {i : Nat} (h1 : a ≤ i) (h2 : i < b) : a ≤ σ i ∧ σ i < b := by
  rcases Nat.lt_or_ge (σ i) a with k | k
  · have e := h.inj _ _ (h.out (σ i) (.inl k)); omega
  · rcases Nat.lt_or_ge (σ i) b with k2 | k2
    · exact ⟨k, k2⟩
    · have e := h.inj _ _ (h.out (σ i) (.inr k2)); omega
theorem Pm.comp {a b : Nat} {σ τ : Nat → Nat} (h : Pm a b σ) (k : Pm a b τ) : Pm a b fun i => σ (τ i) :=
  ⟨fun i j e => k.inj _ _ (h.inj _ _ e), fun i hi => by show σ (τ i) = i; rw [k.out i hi, h.out i hi]⟩
theorem Pm.mono {a b a' b' : Nat} {σ : Nat → Nat} (h : Pm a b σ) (h1 : a' ≤ a) (h2 : b ≤ b') : Pm a' b' σ := ⟨h.inj, fun i hi => h.out i (by omega)⟩
def tr (i j k : Nat) : Nat := if k = i then j else if k = j then i else k
theorem Pm.tr {a b i j : Nat} (h1 : a ≤ i) (h2 : i < b) (h3 : a ≤ j) (h4 : j < b) : Pm a b (tr i j) := by
  constructor
  · intro p q e
    unfold Proofs.Ytlonobfpogimgaa.tr at e
    split at e <;> split at e <;> (try split at e) <;> (try split at e) <;> omega
  · intro p hp
    unfold Proofs.Ytlonobfpogimgaa.tr
    rw [if_neg (by omega), if_neg (by omega)]
/-! ### elements and their order -/
structure El where
  a : Int
  b : Int
  ha : 0 ≤ a ∧ a ≤ 1073741824
  hb : 0 ≤ b ∧ b ≤ 1073741824
structure Ord (lt : El → El → Prop) : Prop where
  asym : ∀ a b, lt a b → ¬ lt b a
  tr : ∀ a b d, ¬ lt b a → ¬ lt d b → ¬ lt d a
theorem Ord.irr {lt : El → El → Prop} (h : Ord lt) (a : El) : ¬ lt a a := fun k => h.asym a a k k
/-- less, then not greater: less -/
theorem Ord.lt_le {lt : El → El → Prop} (h : Ord lt) {a b d : El} (h1 : lt a b) (h2 : ¬ lt d b) : lt a d := Classical.byContradiction fun k => h.tr b d a h2 k h1
theorem Ord.le_lt {lt : El → El → Prop} (h : Ord lt) {a b d : El} (h1 : ¬ lt b a) (h2 : lt b d) : lt a d := Classical.byContradiction fun k => h.tr d a b k h1 h2
def Srt (lt : El → El → Prop) (D : Nat → El) (a b : Nat) : Prop := ∀ p q, a ≤ p → p < q → q < b → ¬ lt (D q) (D p)
def swp (D : Nat → El) (i j : Nat) : Nat → El := fun k => D (tr i j k)
theorem swp_i (D : Nat → El) (i j : Nat) : swp D i j i = D j := by simp [swp, tr]
theorem swp_j (D : Nat → El) (i j : Nat) : swp D i j j = D i := by
  unfold swp tr
  by_cases h : j = i
  · subst h; simp
  · simp [h]
theorem swp_o (D : Nat → El) {i j k : Nat} (h1 : k ≠ i) (h2 : k ≠ j) : swp D i j k = D k := by unfold swp tr; rw [if_neg h1, if_neg h2]
/-! ### insertion -/
/-- the element at j goes down: it is less than all of those behind it up to i; the others are in order -/
structure Sunk (lt : El → El → Prop) (D : Nat → El) (a i j : Nat) : Prop where
  lo : a ≤ j
  hi : j ≤ i
  srt : ∀ p q, a ≤ p → p < q → q ≤ i → p ≠ j → q ≠ j → ¬ lt (D q) (D p)
  less : ∀ q, j < q → q ≤ i → lt (D j) (D q)
theorem Sunk.start {lt : El → El → Prop} {D : Nat → El} {a i : Nat} (h : Srt lt D a i) (hai : a ≤ i) : Sunk lt D a i i :=
  ⟨hai, Nat.le_refl _, fun p q h1 h2 h3 h4 h5 => h p q h1 h2 (by omega), fun q h1 h2 => by omega⟩
theorem Sunk.step {lt : El → El → Prop} (ho : Ord lt) {D : Nat → El} {a i j : Nat} (h : Sunk lt D a i (j + 1)) (ha : a ≤ j) (hl : lt (D (j + 1)) (D j)) : Sunk lt (swp D (j + 1) j) a i j := by
  have hhi := h.hi
  refine ⟨ha, by omega, fun p q h1 h2 h3 h4 h5 => ?_, fun q h1 h2 => ?_⟩
  · by_cases e1 : p = j + 1
    · subst e1
      rw [swp_i, swp_o D (by omega) (by omega)]
      exact h.srt j q ha (by omega) h3 (by omega) (by omega)
    · by_cases e2 : q = j + 1
      · subst e2
        rw [swp_i, swp_o D (by omega) (by omega)]
        exact h.srt p j h1 (by omega) (by omega) (by omega) (by omega)
      · rw [swp_o D (by omega) (by omega), swp_o D (by omega) (by omega)]
        exact h.srt p q h1 h2 h3 (by omega) (by omega)
  · rw [swp_j]
    by_cases e : q = j + 1
    · subst e; rw [swp_i]; exact hl
    · rw [swp_o D (by omega) (by omega)]
      exact h.less q (by omega) h2
theorem Sunk.done {lt : El → El → Prop} (ho : Ord lt) {D : Nat → El} {a i j : Nat} (h : Sunk lt D a i j) (hd : j = a ∨ ∃ k, j = k + 1 ∧ a ≤ k ∧ ¬ lt (D (k + 1)) (D k)) : Srt lt D a (i + 1) := by
  intro p q h1 h2 h3
  by_cases e1 : p = j
  · subst e1
    exact ho.asym _ _ (h.less q h2 (by omega))
  · by_cases e2 : q = j
    · subst e2
      rcases hd with rfl | ⟨k, rfl, hk, hn⟩
      · omega
      · by_cases e3 : p = k
        · subst e3; exact hn
        · have := h.srt p k h1 (by omega) (by have := h.hi; omega) (by omega) (by omega)
          exact ho.tr _ _ _ this hn
    · exact h.srt p q h1 h2 (by omega) e1 e2
/-! ### the block of a row -/
def elV (r : El) : V := .g [.int .i64 r.1, .int .i64 r.2]
def ElAt (t : T V) (j : Nat) (r : El) : Prop := t.get (j * 2) = some (.int .i64 r.1) ∧ t.get (j * 2 + 1) = some (.int .i64 r.2)
def RowB (st : St) (m n : Nat) (D : Nat → El) : Prop := m < st.nx ∧ ∃ ty t, st.h.get m = some (.cs ty (n * 2) t) ∧ ty ≠ roT ∧ ∀ j, j < n → ElAt t j (D j)
structure Keep (st : St) (m : Nat) (s : St) : Prop where
  le : st.nx ≤ s.nx
  get : ∀ k, k < st.nx → k ≠ m → s.h.get k = st.h.get k
  wf : Wf st → Wf s
theorem Keep.refl (st : St) (m : Nat) : Keep st m st := ⟨Nat.le_refl _, fun _ _ _ => rfl, fun h => h⟩
theorem Keep.trans {m : Nat} {s1 s2 s3 : St} (h : Keep s1 m s2) (k : Keep s2 m s3) : Keep s1 m s3 :=
  ⟨Nat.le_trans h.le k.le, fun q h1 h2 => (k.get q (Nat.lt_of_lt_of_le h1 h.le) h2).trans (h.get q h1 h2), fun w => k.wf (h.wf w)⟩
theorem Keep.ext {m : Nat} {s1 s2 s3 : St} (h : Keep s1 m s2) (k : Ext s2.nx s2 s3) : Keep s1 m s3 :=
  ⟨Nat.le_trans h.le k.le, fun q h1 h2 => (k.keep q (Nat.lt_of_lt_of_le h1 h.le)).trans (h.get q h1 h2), fun w => k.wf (h.wf w)⟩
theorem Keep.set {m : Nat} {s1 s2 : St} (h : Keep s1 m s2) (hm : m < s2.nx) (x : B) : Keep s1 m ⟨s2.nx, s2.h.set m x⟩ :=
  ⟨h.le, fun q h1 h2 => (T.get_set_ne _ _ (fun e => h2 e.symm)).trans (h.get q h1 h2), fun w n hn => by
    show (s2.h.set m x).get n = none
    have hn' : s2.nx ≤ n := hn
    rw [T.get_set_ne _ _ (by omega)]
    exact h.wf w n hn'⟩
theorem RowB.ext {st st' : St} {m n : Nat} {D : Nat → El} (h : RowB st m n D) (k : Ext st.nx st st') : RowB st' m n D := by
  obtain ⟨h1, ty, t, h2, h3⟩ := h
  exact ⟨Nat.lt_of_lt_of_le h1 k.le, ty, t, (k.keep m h1).trans h2, h3⟩
/-- what the two stores of a swap leave -/
theorem swap_at {t : T V} {n i j : Nat} {D : Nat → El} (h : ∀ j, j < n → ElAt t j (D j)) (hi : i < n) (hj : j < n) (k : Nat) (hk : k < n) :
    ElAt ((((t.set (i * 2) (.int .i64 (D j).1)).set (i * 2 + 1) (.int .i64 (D j).2)).set (j * 2) (.int .i64 (D i).1)).set (j * 2 + 1) (.int .i64 (D i).2)) k (swp D i j k) := by
  obtain ⟨k1, k2⟩ := h k hk
  unfold ElAt
  simp only [T.get_set]
  by_cases e2 : k = j
  · subst e2
    rw [swp_j]
    exact ⟨by rw [if_neg (by omega), if_pos rfl], by rw [if_pos rfl]⟩
  · by_cases e1 : k = i
    · subst e1
      rw [swp_i]
      exact ⟨by rw [if_neg (by omega), if_neg (by omega), if_neg (by omega), if_pos rfl], by rw [if_neg (by omega), if_neg (by omega), if_pos rfl]⟩
    · rw [swp_o D e1 e2]
      exact ⟨by rw [if_neg (by omega), if_neg (by omega), if_neg (by omega), if_neg (by omega)]; exact k1, by rw [if_neg (by omega), if_neg (by omega), if_neg (by omega), if_neg (by omega)]; exact k2⟩
theorem RowB.swap {s : St} {m n i j : Nat} {D : Nat → El} {ty : TypeId} {t : T V} (hm : m < s.nx) (hro : ty ≠ roT) (h : ∀ j, j < n → ElAt t j (D j)) (hi : i < n) (hj : j < n) :
    RowB ⟨s.nx, s.h.set m (.cs ty (n * 2) ((((t.set (i * 2) (.int .i64 (D j).1)).set (i * 2 + 1) (.int .i64 (D j).2)).set (j * 2) (.int .i64 (D i).1)).set (j * 2 + 1) (.int .i64 (D i).2)))⟩ m n (swp D i j) :=
  ⟨hm, ty, _, T.get_set_same _ _ _, hro, fun k hk => swap_at h hi hj k hk⟩
/-- a row changed within a range -/
structure Out (st : St) (m n : Nat) (D : Nat → El) (a b : Nat) (s : St) (D' : Nat → El) : Prop where
  pm : ∃ σ, Pm a b σ ∧ ∀ k, D' k = D (σ k)
  row : RowB s m n D'
  keep : Keep st m s
theorem Out.refl {st : St} {m n : Nat} {D : Nat → El} (a b : Nat) (h : RowB st m n D) : Out st m n D a b st D := ⟨⟨_, Pm.id a b, fun _ => rfl⟩, h, Keep.refl _ _⟩
theorem Out.ext {st s s' : St} {m n a b : Nat} {D D' : Nat → El} (h : Out st m n D a b s D') (k : Ext s.nx s s') : Out st m n D a b s' D' := ⟨h.pm, h.row.ext k, h.keep.ext k⟩
theorem Out.trans {st s s' : St} {m n a b : Nat} {D D' D'' : Nat → El} (h : Out st m n D a b s D') (k : Out s m n D' a b s' D'') : Out st m n D a b s' D'' := by
  obtain ⟨σ, h1, h2⟩ := h.pm
  obtain ⟨τ, k1, k2⟩ := k.pm
  exact ⟨⟨_, h1.comp k1, fun i => by rw [k2, h2]⟩, k.row, h.keep.trans k.keep⟩
theorem Out.mono {st s : St} {m n a b a' b' : Nat} {D D' : Nat → El} (h : Out st m n D a b s D') (h1 : a' ≤ a) (h2 : b ≤ b') : Out st m n D a' b' s D' := by
  obtain ⟨σ, k1, k2⟩ := h.pm
  exact ⟨⟨σ, k1.mono h1 h2, k2⟩, h.row, h.keep⟩
theorem Out.swap {st s : St} {m n a b i j : Nat} {D D' : Nat → El} {ty : TypeId} {t : T V} (h : Out st m n D a b s D') (hg : s.h.get m = some (.cs ty (n * 2) t)) (hro : ty ≠ roT) (hc : ∀ j, j < n → ElAt t j (D' j)) (hi : i < n) (hj : j < n) (h1 : a ≤ i) (h2 : i < b) (h3 : a ≤ j) (h4 : j < b) :
    Out st m n D a b ⟨s.nx, s.h.set m (.cs ty (n * 2) ((((t.set (i * 2) (.int .i64 (D' j).1)).set (i * 2 + 1) (.int .i64 (D' j).2)).set (j * 2) (.int .i64 (D' i).1)).set (j * 2 + 1) (.int .i64 (D' i).2)))⟩ (swp D' i j) := by
  obtain ⟨σ, k1, k2⟩ := h.pm
  exact ⟨⟨_, k1.comp (Pm.tr h1 h2 h3 h4), fun k => k2 _⟩, RowB.swap h.row.1 hro hc hi hj, h.keep.set h.row.1 _⟩
theorem Out.out {st s : St} {m n a b : Nat} {D D' : Nat → El} (h : Out st m n D a b s D') {k : Nat} (hk : k < a ∨ b ≤ k) : D' k = D k := by
  obtain ⟨σ, k1, k2⟩ := h.pm
  rw [k2, k1.out k hk]
theorem Out.all {st s : St} {m n a b : Nat} {D D' : Nat → El} (h : Out st m n D a b s D') {p : El → Prop} (hp : ∀ i, a ≤ i → i < b → p (D i)) : ∀ i, a ≤ i → i < b → p (D' i) := fun i h1 h2 => by
  obtain ⟨σ, k1, k2⟩ := h.pm
  rw [k2]
  obtain ⟨k3, k4⟩ := k1.ins h1 h2
  exact hp _ k3 k4
/-! ### the function that compares -/
noncomputable def funK (P : Program) (F : CallF) (c : Cx) (v : V) (args : List V) (st : St) : Res := match v with
  | .f (.func f) first caps => (match ext? P f with
    | some g => (match extE P g (first ++ args ++ caps) st with | some r => some r | none => extS P c f (first ++ args ++ caps) st)
    | none => F c f (first ++ args ++ caps) st)
  | _ => none
theorem funK_f {P : Program} {F : CallF} {c : Cx} {f : Nat} (h : ext? P f = none) (args : List V) (st : St) : funK P F c (.f (.func f) [] []) args st = F c f args st := by
  unfold funK
  simp [h]
theorem evOp_callV {P : Program} {F : CallF} {c : Cx} {e : Env} {st : St} {d : Option Nat} {ty : TypeId} {p : String} {af : Array Edge} {g : Option (Nat × Bool)} (q : Nat) (args : Array Operand) (ats : Array TypeId) : evOp P F c e st ⟨d, .call ⟨.value (.tmp q), args, ats⟩, ty, p, af, g⟩ = opds e args.toList fun args => opd e (.tmp q) fun v => funK P F c v args st := rfl
structure CmpF (F : V) (lt : El → El → Prop) : Prop where
  run : ∀ (s : St) (a b : El) (nt : Nat), Gd (funK Try.prog (callL Try.prog) ⟨false, [], 0, nt⟩ F [elV a, elV b] s) fun r => ∃ k : Int, r.1 = .int .i64 k ∧ (k < 0 ↔ lt a b) ∧ Ext s.nx s r.2
  ord : Ord lt
end Go.Proofs.Ytlonobfpogimgaa

/-
  PLAIN: the evaluator's memory and the model's.
-/
import Derived.Test.YtenncnbaoejekaaEvC
import Derived.Deep.AppendSrc
import Derived.Deep.MidRow
namespace Go.Proofs.Ytenncnbaoejekaa.Ev
open Go.RowKit

abbrev Mem := Nat → Option B
def upd {α : Type} (f : Nat → Option α) (n : Nat) (b : α) : Nat → Option α := fun m => if m = n then some b else f m
theorem upd_same {α : Type} (f : Nat → Option α) (n : Nat) (b : α) : upd f n b n = some b := by simp [upd]
theorem upd_ne {α : Type} (f : Nat → Option α) {n m : Nat} (b : α) (h : m ≠ n) : upd f n b m = f m := by simp [upd, h]

def B.live : B → Prop
  | .gone => False
  | .cs ty _ _ => ty ≠ roT
  | _ => True
def B.has : B → Prop
  | .gone => False
  | _ => True
theorem B.live.has {b : B} (h : b.live) : b.has := by cases b <;> first | exact trivial | exact h
def FrOk (fr : Nat × Nat) (n : Nat) : Prop := fr.1 = fr.2 ∨ n ≤ fr.1
theorem FrOk.no {fr : Nat × Nat} {n i : Nat} (h : FrOk fr n) (hi : i < n) : ¬ (fr.1 ≤ i ∧ i < fr.2) := by
  unfold FrOk at h; omega
def RelE (ρ : Rho) (x : MEnt) (y : MapEntry) : Prop := Rel ρ x.1 y.key ∧ Rel ρ x.2.1 y.val ∧ y.born = x.2.2
def MRel (ρ : Rho) : List MEnt → List MapEntry → Prop
  | [], [] => True
  | x :: l, y :: es => RelE ρ x y ∧ MRel ρ l es
  | _, _ => False
theorem MRel.mono {ρ ρ' : Rho} (hρ : ρ.le ρ') : ∀ {l : List MEnt} {es : List MapEntry}, MRel ρ l es → MRel ρ' l es
  | [], [], _ => trivial
  | _ :: _, _ :: _, h => ⟨⟨Rel.mono hρ _ _ h.1.1, Rel.mono hρ _ _ h.1.2.1, h.1.2.2⟩, MRel.mono hρ h.2⟩
  | [], _ :: _, h => h.elim
  | _ :: _, [], h => h.elim
def Blk (ρ : Rho) (b : B) (r : R) (w : World) : Prop := match b with
  | .cs ty0 sz t => ∃ (ty : TypeId) (cells : Array Value) (fr : Nat × Nat), w.heap[r.block]? = some (.cells cells ty fr) ∧ cells.size = r.base + r.size ∧ sz ≤ r.size ∧ (ty0 ≠ roT → FrOk fr cells.size) ∧
      ∀ i v, t.get i = some v → i < sz ∧ v.one = true ∧ ∃ x, cells[r.base + i]? = some x ∧ Rel ρ v x
  | .mp l clock => ∃ es : Array MapEntry, w.heap[r.block]? = some (.map es clock) ∧ MRel ρ l es.toList
  | .it l pos => w.heap[r.block]? = some (.stringIter ⟨⟨l.map UInt8.ofNat⟩⟩ pos) ∧ r.base = 0 ∧ ∀ b, b ∈ l → b < 256
  | .gone => True
structure Real (ρ : Rho) (B0 : Nat) (τ : Mem) (w : World) : Prop where
  size : B0 ≤ w.heap.size
  blk : ∀ n b, τ n = some b → ∃ r, ρ n = some r ∧ (b.live → B0 ≤ r.block) ∧ r.block < w.heap.size ∧ Blk ρ b r w
  inj : ∀ n m b b' r r', τ n = some b → τ m = some b' → b.live → b'.has → n ≠ m → ρ n = some r → ρ m = some r' → r.block ≠ r'.block
def Wf (st : St) : Prop := ∀ n, st.nx ≤ n → st.h.get n = none
def Agree (c : Cx) (st : St) (τ : Mem) : Prop := ∀ n b, c.ok n = true → st.h.get n = some b → τ n = some b
def Fresh (ρ : Rho) (st st' : St) : Prop := ∀ n, st.nx ≤ n → n < st'.nx → ρ n = none
def Dom (ρ ρ' : Rho) (st st' : St) : Prop := ∀ n r, ρ' n = some r → ρ n = some r ∨ (st.nx ≤ n ∧ n < st'.nx)
noncomputable def ov (st st' : St) (τ : Mem) : Mem := open Classical in fun n => if st.nx ≤ n ∧ n < st'.nx then st'.h.get n else if st.h.get n = st'.h.get n then τ n else st'.h.get n
structure StepOk (c : Cx) (st st' : St) : Prop where
  le : st.nx ≤ st'.nx
  chg : ∀ n, n < st.nx → st.h.get n ≠ st'.h.get n → c.ok n = true ∧ st.h.get n ≠ none ∧ st'.h.get n ≠ none ∧ c.wb ≤ n
  wf : Wf st → Wf st'

theorem Blk.mono {ρ ρ' : Rho} (hρ : ρ.le ρ') {b : B} {r : R} {w : World} (h : Blk ρ b r w) : Blk ρ' b r w := by
  cases b with
  | cs ty sz t =>
    obtain ⟨ty', cells, fr, h1, h2, h3, h4, h5⟩ := h
    exact ⟨ty', cells, fr, h1, h2, h3, h4, fun i v hv => by obtain ⟨h6, h7, x, h8, h9⟩ := h5 i v hv; exact ⟨h6, h7, x, h8, h9.mono hρ⟩⟩
  | it l pos => exact h
  | mp l clock => obtain ⟨es, h1, h2⟩ := h; exact ⟨es, h1, h2.mono hρ⟩
  | _ => trivial
theorem Blk.congr {ρ : Rho} {b : B} {r : R} {w w' : World} (h : Blk ρ b r w) (hw : w'.heap[r.block]? = w.heap[r.block]?) : Blk ρ b r w' := by
  cases b with
  | cs ty sz t =>
    obtain ⟨ty', cells, fr, h1, h2⟩ := h
    exact ⟨ty', cells, fr, hw.trans h1, h2⟩
  | it l pos => exact ⟨hw.trans h.1, h.2⟩
  | mp l clock => obtain ⟨es, h1, h2⟩ := h; exact ⟨es, hw.trans h1, h2⟩
  | _ => trivial

/-! ### overlays -/
theorem ov_self (st : St) (τ : Mem) : ov st st τ = τ := by
  funext n
  unfold ov
  rw [if_neg (by omega), if_pos rfl]
theorem ov_eq {st st' : St} {τ τ' : Mem} (h1 : ∀ n, st.nx ≤ n → n < st'.nx → τ' n = st'.h.get n) (h2 : ∀ n, ¬ (st.nx ≤ n ∧ n < st'.nx) → st.h.get n ≠ st'.h.get n → τ' n = st'.h.get n)
    (h3 : ∀ n, ¬ (st.nx ≤ n ∧ n < st'.nx) → st.h.get n = st'.h.get n → τ' n = τ n) : ov st st' τ = τ' := by
  funext n
  unfold ov
  split
  · rename_i h; exact (h1 n h.1 h.2).symm
  · rename_i h
    split
    · rename_i e; exact (h3 n h e).symm
    · rename_i e; exact (h2 n h e).symm
theorem StepOk.refl (c : Cx) (st : St) : StepOk c st st := ⟨Nat.le_refl _, fun _ _ h => absurd rfl h, id⟩
theorem StepOk.trans {c : Cx} {s1 s2 s3 : St} (h : StepOk c s1 s2) (k : StepOk c s2 s3) : StepOk c s1 s3 :=
  ⟨Nat.le_trans h.le k.le, fun n hn he => by
    by_cases e : s1.h.get n = s2.h.get n
    · have := k.chg n (Nat.lt_of_lt_of_le hn h.le) (by rw [← e]; exact he)
      exact ⟨this.1, by rw [e]; exact this.2.1, this.2.2⟩
    · have h1 := h.chg n hn e
      refine ⟨h1.1, h1.2.1, ?_, h1.2.2.2⟩
      by_cases e2 : s2.h.get n = s3.h.get n
      · rw [← e2]; exact h1.2.2.1
      · exact (k.chg n (Nat.lt_of_lt_of_le hn h.le) e2).2.2.1, fun hw => k.wf (h.wf hw)⟩
theorem ov_trans {c : Cx} {s1 s2 s3 : St} {τ : Mem} (h : StepOk c s1 s2) (k : StepOk c s2 s3) (hw : Wf s1) (ha : Agree c s1 τ) : ov s2 s3 (ov s1 s2 τ) = ov s1 s3 τ := by
  have hw2 := h.wf hw
  have hw3 := k.wf hw2
  have l1 := h.le
  have l2 := k.le
  symm
  apply ov_eq
  · intro n h1 h2
    unfold ov
    by_cases h3 : n < s2.nx
    · rw [if_neg (by omega)]
      by_cases e : s2.h.get n = s3.h.get n
      · rw [if_pos e, if_pos ⟨h1, h3⟩, e]
      · rw [if_neg e]
    · rw [if_pos (by omega)]
  · intro n h1 e
    unfold ov
    by_cases h3 : n < s1.nx
    · rw [if_neg (by omega)]
      by_cases e2 : s2.h.get n = s3.h.get n
      · rw [if_pos e2, if_neg (by omega)]
        rw [if_neg (by rw [e2]; exact e), e2]
      · rw [if_neg e2]
    · have h4 : s3.nx ≤ n := by omega
      exact absurd ((hw n (by omega)).trans (hw3 n h4).symm) e
  · intro n h1 e
    unfold ov
    by_cases h3 : n < s1.nx
    · rw [if_neg (by omega)]
      by_cases e2 : s2.h.get n = s3.h.get n
      · rw [if_pos e2, if_neg (by omega), if_pos (e.trans e2.symm)]
      · rw [if_neg e2]
        by_cases e1 : s1.h.get n = s2.h.get n
        · exact absurd (e1.symm.trans e) e2
        · have h5 := h.chg n h3 e1
          cases hg : s1.h.get n with
          | none => exact absurd hg h5.2.1
          | some b => rw [← e, hg, ha n b h5.1 hg]
    · have h4 : s3.nx ≤ n := by omega
      rw [if_neg (by omega)]
      have e2 : s2.h.get n = s3.h.get n := (hw2 n (by omega)).trans (hw3 n h4).symm
      rw [if_pos e2, if_neg (by omega)]
      have e1 : s1.h.get n = s2.h.get n := (hw n (by omega)).trans (hw2 n (by omega)).symm
      rw [if_pos e1]
theorem Agree.step {c : Cx} {s1 s2 : St} {τ : Mem} (h : StepOk c s1 s2) (hw : Wf s1) (ha : Agree c s1 τ) : Agree c s2 (ov s1 s2 τ) := by
  intro n b hn hb
  unfold ov
  have hw2 := h.wf hw
  by_cases h1 : s1.nx ≤ n ∧ n < s2.nx
  · rw [if_pos h1]; exact hb
  · rw [if_neg h1]
    by_cases e : s1.h.get n = s2.h.get n
    · rw [if_pos e]; exact ha n b hn (e.trans hb)
    · rw [if_neg e]; exact hb
theorem Fresh.left {ρ : Rho} {s1 s2 s3 : St} (h : Fresh ρ s1 s3) (k : s2.nx ≤ s3.nx) : Fresh ρ s1 s2 := fun n h1 h2 => h n h1 (by omega)
theorem Fresh.right {ρ ρ' : Rho} {s1 s2 s3 : St} (h : Fresh ρ s1 s3) (l : s1.nx ≤ s2.nx) (d : Dom ρ ρ' s1 s2) : Fresh ρ' s2 s3 := fun n h1 h2 => by
  cases e : ρ' n with
  | none => rfl
  | some r =>
    rcases d n r e with k | k
    · rw [h n (by omega) h2] at k; cases k
    · omega
theorem Dom.trans {ρ1 ρ2 ρ3 : Rho} {s1 s2 s3 : St} (h : Dom ρ1 ρ2 s1 s2) (k : Dom ρ2 ρ3 s2 s3) (l1 : s1.nx ≤ s2.nx) (l2 : s2.nx ≤ s3.nx) : Dom ρ1 ρ3 s1 s3 := fun n r e => by
  rcases k n r e with e | e
  · rcases h n r e with e | e
    · exact .inl e
    · exact .inr ⟨e.1, by omega⟩
  · exact .inr ⟨by omega, e.2⟩
theorem Dom.refl (ρ : Rho) (s s' : St) : Dom ρ ρ s s' := fun _ _ e => .inl e

/-! ### the model's memory -/
theorem heap_setCells_ne (b : Nat) : ∀ (vs : List Value) (o : Nat) (w : World) (k : Nat), k ≠ b → (w.setCells b o vs).heap[k]? = w.heap[k]?
  | [], _, _, _, _ => rfl
  | v :: vs, o, w, k, h => (heap_setCells_ne b vs (o + 1) _ k h).trans (Below.heap_setCell w ⟨b, o, none⟩ v k h)
theorem size_setCells' (b : Nat) : ∀ (vs : List Value) (o : Nat) (w : World), (w.setCells b o vs).heap.size = w.heap.size
  | [], _, _ => rfl
  | v :: vs, o, w => (size_setCells' b vs (o + 1) _).trans (by simp [World.setCell])
theorem heap_setCells_at (b : Nat) (ty : TypeId) (fr : Nat × Nat) : ∀ (vs : List Value) (o : Nat) (w : World) (arr : Array Value), w.heap[b]? = some (.cells arr ty fr) → o + vs.length ≤ arr.size →
    ∃ arr' : Array Value, (w.setCells b o vs).heap[b]? = some (.cells arr' ty fr) ∧ arr'.size = arr.size ∧ ∀ i, arr'[i]? = if o ≤ i ∧ i < o + vs.length then vs[i - o]? else arr[i]?
  | [], o, w, arr, h, _ => ⟨arr, h, rfl, fun i => by rw [if_neg (by simp)]⟩
  | v :: vs, o, w, arr, h, hl => by
    simp only [List.length_cons] at hl
    have h1 : (w.setCell ⟨b, o, none⟩ v).heap[b]? = some (.cells (arr.setIfInBounds o v) ty fr) := by
      simp only [World.setCell, Array.getElem?_modify]
      rw [if_pos trivial, h]
      simp
    obtain ⟨arr', h2, h3, h4⟩ := heap_setCells_at b ty fr vs (o + 1) _ _ h1 (by simp; omega)
    refine ⟨arr', h2, by simpa using h3, fun i => ?_⟩
    rw [h4 i]
    by_cases hi : o + 1 ≤ i ∧ i < o + 1 + vs.length
    · rw [if_pos hi, if_pos (by simp; omega)]
      have : i - o = (i - (o + 1)) + 1 := by omega
      rw [this]; simp
    · rw [if_neg hi]
      by_cases hio : i = o
      · subst hio
        rw [if_pos (by simp)]
        have : i < arr.size := by omega
        simp [this]
      · rw [if_neg (by simp; omega), Array.getElem?_setIfInBounds_ne (by omega)]
theorem below_setCells' {B0 b : Nat} (hb : B0 ≤ b) : ∀ (vs : List Value) (o : Nat) (w : World), Below B0 w (w.setCells b o vs)
  | [], _, _ => Below.refl _ _
  | v :: vs, o, _ => ((Below.refl _ _).setCell (p := ⟨b, o, none⟩) hb v).trans (below_setCells' hb vs (o + 1) _)

/-! ### the steps of both -/
section
variable {ρ : Rho} {B0 : Nat} {τ : Mem} {w w' : World}
/-- nothing has turned but what is no memory. -/
theorem Real.same (h : Real ρ B0 τ w) (hh : w'.heap = w.heap) : Real ρ B0 τ w' :=
  ⟨by rw [hh]; exact h.size, fun n b e => by
    obtain ⟨r, h1, h2, h3, h4⟩ := h.blk n b e
    exact ⟨r, h1, h2, by rw [hh]; exact h3, h4.congr (by rw [hh])⟩, h.inj⟩
/-- a name more. -/
theorem Real.add (h : Real ρ B0 τ w) {n : Nat} {r : R} {b : B} (hn : ρ n = none) (hB : B0 ≤ r.block) (hr' : r.block < w'.heap.size) (hs : w.heap.size ≤ w'.heap.size)
    (ha : ∀ m b q, τ m = some b → b.has → ρ m = some q → q.block ≠ r.block) (hk : ∀ k, k < w.heap.size → k ≠ r.block → w'.heap[k]? = w.heap[k]?) (hb : Blk (upd ρ n r) b r w') : Real (upd ρ n r) B0 (upd τ n b) w' := by
  have hle : ρ.le (upd ρ n r) := fun m q e => by
    by_cases hm : m = n
    · subst hm; rw [hn] at e; cases e
    · rw [upd_ne _ _ hm]; exact e
  have hz := h.size
  refine ⟨by omega, fun m b' e => ?_, fun m k b1 b2 r1 r2 e1 e2 l1 l2 hmk q1 q2 => ?_⟩
  · by_cases hm : m = n
    · subst hm
      rw [upd_same] at e
      injection e with e; subst e
      exact ⟨r, upd_same _ _ _, fun _ => hB, hr', hb⟩
    · rw [upd_ne _ _ hm] at e
      obtain ⟨q, h1, h2, h3, h4⟩ := h.blk m b' e
      refine ⟨q, by rw [upd_ne _ _ hm]; exact h1, h2, by omega, ?_⟩
      by_cases hg : b'.has
      · exact (h4.congr (hk _ h3 (ha m b' q e hg h1))).mono hle
      · cases b' with
        | gone => trivial
        | _ => exact absurd trivial hg
  · by_cases hm : m = n
    · subst hm
      have hk' : k ≠ m := fun e => hmk e.symm
      rw [upd_same] at q1; injection q1 with q1; subst q1
      rw [upd_ne _ _ hk'] at q2 e2
      exact fun e => ha k b2 r2 e2 l2 q2 e.symm
    · rw [upd_ne _ _ hm] at q1 e1
      by_cases hk' : k = n
      · subst hk'
        rw [upd_same] at q2; injection q2 with q2; subst q2
        exact ha m b1 r1 e1 l1.has q1
      · rw [upd_ne _ _ hk'] at q2 e2
        exact h.inj m k b1 b2 r1 r2 e1 e2 l1 l2 hmk q1 q2
/-- a new block. -/
theorem Real.new (h : Real ρ B0 τ w) {n : Nat} {r : R} {b : B} (hn : ρ n = none) (hr : w.heap.size ≤ r.block) (hr' : r.block < w'.heap.size)
    (hk : ∀ k, k < w.heap.size → w'.heap[k]? = w.heap[k]?) (hb : Blk (upd ρ n r) b r w') : Real (upd ρ n r) B0 (upd τ n b) w' :=
  h.add hn (Nat.le_trans h.size hr) hr' (by omega) (fun m b q e _ e' => by
    obtain ⟨q', h1, _, h3, _⟩ := h.blk m b e
    rw [h1] at e'; injection e' with e'; subst e'; omega) (fun k hk' _ => hk k hk') hb
/-- a block that turns. -/
theorem Real.set (h : Real ρ B0 τ w) {n : Nat} {r : R} {b b' : B} (hn : τ n = some b) (hl : b.live) (hr : ρ n = some r) (hs : w'.heap.size = w.heap.size)
    (hk : ∀ k, k ≠ r.block → w'.heap[k]? = w.heap[k]?) (hb : Blk ρ b' r w') : Real ρ B0 (upd τ n b') w' := by
  refine ⟨by rw [hs]; exact h.size, fun m b2 e => ?_, fun m k b1 b2 r1 r2 e1 e2 l1 l2 hmk q1 q2 => ?_⟩
  · by_cases hm : m = n
    · subst hm
      rw [upd_same] at e
      injection e with e; subst e
      obtain ⟨q, h1, h2, h3, h4⟩ := h.blk m b hn
      rw [hr] at h1; injection h1 with h1; subst h1
      exact ⟨r, hr, fun _ => h2 hl, by rw [hs]; exact h3, hb⟩
    · rw [upd_ne _ _ hm] at e
      obtain ⟨q, h1, h2, h3, h4⟩ := h.blk m b2 e
      refine ⟨q, h1, h2, by rw [hs]; exact h3, ?_⟩
      by_cases hg : b2.has
      · exact h4.congr (hk _ fun e' => h.inj n m b b2 r q hn e hl hg (fun e => hm e.symm) hr h1 e'.symm)
      · cases b2 with
        | gone => trivial
        | _ => exact absurd trivial hg
  · by_cases hm : m = n
    · subst hm
      have hk' : k ≠ m := fun e => hmk e.symm
      rw [upd_ne _ _ hk'] at e2
      exact h.inj m k b b2 r1 r2 hn e2 hl l2 hmk q1 q2
    · rw [upd_ne _ _ hm] at e1
      by_cases hk' : k = n
      · subst hk'
        exact h.inj m k b1 b r1 r2 e1 hn l1 hl.has hmk q1 q2
      · rw [upd_ne _ _ hk'] at e2
        exact h.inj m k b1 b2 r1 r2 e1 e2 l1 l2 hmk q1 q2
/-- a name of which nothing is left. -/
theorem Real.kill (h : Real ρ B0 τ w) {n : Nat} {b : B} (hn : τ n = some b) : Real ρ B0 (upd τ n .gone) w := by
  refine ⟨h.size, fun m b2 e => ?_, fun m k b1 b2 r1 r2 e1 e2 l1 l2 hmk q1 q2 => ?_⟩
  · by_cases hm : m = n
    · subst hm
      rw [upd_same] at e
      injection e with e; subst e
      obtain ⟨q, h1, h2, h3, h4⟩ := h.blk m b hn
      exact ⟨q, h1, fun l => l.elim, h3, trivial⟩
    · rw [upd_ne _ _ hm] at e
      exact h.blk m b2 e
  · by_cases hm : m = n
    · subst hm
      rw [upd_same] at e1
      injection e1 with e1; subst e1
      exact l1.elim
    · by_cases hk' : k = n
      · subst hk'
        rw [upd_same] at e2
        injection e2 with e2; subst e2
        exact l2.elim
      · rw [upd_ne _ _ hm] at e1
        rw [upd_ne _ _ hk'] at e2
        exact h.inj m k b1 b2 r1 r2 e1 e2 l1 l2 hmk q1 q2
end
end Go.Proofs.Ytenncnbaoejekaa.Ev

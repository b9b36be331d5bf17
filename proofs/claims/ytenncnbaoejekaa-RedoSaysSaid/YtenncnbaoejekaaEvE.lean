/-
  PLAIN: the evaluator's steps in memory, taken apart, beside the model's.
-/
import Derived.Test.YtenncnbaoejekaaEvD
namespace Go.Proofs.Ytenncnbaoejekaa.Ev
open Go.RowKit

section
variable {β : Type} {q : β} {c : Cx} {st : St}
theorem getB_inv {n : Nat} {k : B → Option β} (h : getB c st n k = some q) : ∃ b, c.ok n = true ∧ st.h.get n = some b ∧ k b = some q := by
  unfold getB at h
  split at h
  · cases h
  · rename_i hc
    split at h
    · cases h
    · rename_i b hb; exact ⟨b, hc, hb, h⟩
theorem getC_inv {n : Nat} {k : T V → Option β} (h : getC c st n k = some q) : ∃ ty sz t, c.ok n = true ∧ st.h.get n = some (.cs ty sz t) ∧ k t = some q := by
  obtain ⟨b, h1, h2, h3⟩ := getB_inv h
  split at h3
  · exact ⟨_, _, _, h1, h2, h3⟩
  · cases h3
theorem setB_inv {n : Nat} {b : B} {k : St → Option β} (h : setB c st n b k = some q) : c.wb ≤ n ∧ k ⟨st.nx, st.h.set n b⟩ = some q := by
  unfold setB at h
  split at h
  · cases h
  · rename_i hn
    rw [T.setK_eq] at h
    exact ⟨by simpa [Nat.ble_eq] using hn, h⟩
theorem newB_eq (b : B) (k : Nat → St → Option β) : newB st b k = k st.nx ⟨st.nx + 1, st.h.set st.nx b⟩ := by
  unfold newB; rw [T.setK_eq, fn_eq]
noncomputable def sets (l : List V) (i : Nat) (t : T V) : T V := match l with
  | [] => t
  | x :: l => sets l (i + 1) (t.set i x)
theorem setsK_eq : ∀ (l : List V) (i : Nat) (t : T V) (k : T V → β), setsK l i t k = k (sets l i t)
  | [], _, _, _ => rfl
  | x :: l, i, t, k => by
    have h : setsK (x :: l) i t k = t.setK i x fun t => fn (i + 1) fun i => setsK l i t k := rfl
    rw [h, T.setK_eq, fn_eq, setsK_eq]
    rfl
theorem get_sets : ∀ (l : List V) (i : Nat) (t : T V) (j : Nat), (sets l i t).get j = if i ≤ j ∧ j < i + l.length then l[j - i]? else t.get j
  | [], i, t, j => by rw [if_neg (by simp)]; rfl
  | x :: l, i, t, j => by
    show (sets l (i + 1) (t.set i x)).get j = _
    rw [get_sets l (i + 1)]
    by_cases h : i + 1 ≤ j ∧ j < i + 1 + l.length
    · rw [if_pos h, if_pos (by simp; omega)]
      have : j - i = (j - (i + 1)) + 1 := by omega
      rw [this]; simp
    · rw [if_neg h, T.get_set]
      by_cases hi : i = j
      · subst hi
        rw [if_pos rfl, if_pos (by simp)]; simp
      · rw [if_neg hi, if_neg (by simp; omega)]
theorem newC_eq (ty : TypeId) (cs : List V) (k : Nat → St → Option β) : newC st ty cs k = k st.nx ⟨st.nx + 1, st.h.set st.nx (.cs ty cs.length (sets cs 0 .lf))⟩ := by
  unfold newC; rw [setsK_eq, fn_eq, newB_eq]
theorem getsB_inv {t : T V} : ∀ {n i : Nat} {k : List V → Option β}, getsB t n i k = some q → ∃ l, k l = some q ∧ l.length = n ∧ ∀ j a, l[j]? = some a → t.get (i + j) = some a
  | 0, i, k, h => ⟨[], h, rfl, fun _ _ e => by simp at e⟩
  | n + 1, i, k, h => by
    have h' : (match t.get i with | none => none | some x => fn (i + 1) fun i => getsB t n i fun l => k (x :: l)) = some q := h
    split at h'
    · cases h'
    · rename_i x hx
      rw [fn_eq] at h'
      obtain ⟨l, h1, h2, h3⟩ := getsB_inv h'
      refine ⟨x :: l, h1, by simp [h2], fun j a e => ?_⟩
      cases j with
      | zero => simp at e; subst e; simpa using hx
      | succ j =>
        have := h3 j a (by simpa using e)
        rw [← this]; congr 1; omega
theorem putB_inv {n i : Nat} {cs : List V} {k : St → Option β} (h : putB c st n i cs k = some q) :
    ∃ ty sz t, c.ok n = true ∧ st.h.get n = some (.cs ty sz t) ∧ i + cs.length ≤ sz ∧ (c.wb ≤ n ∧ ty ≠ roT) ∧ k ⟨st.nx, st.h.set n (.cs ty sz (sets cs i t))⟩ = some q := by
  obtain ⟨b, h1, h2, h3⟩ := getB_inv h
  split at h3
  · rename_i ty sz t
    split at h3
    · rename_i hl hro
      rw [setsK_eq] at h3
      obtain ⟨h4, h5⟩ := setB_inv h3
      exact ⟨ty, sz, t, h1, h2, by simpa [Nat.ble_eq] using hl, ⟨h4, fun e => by subst e; simp at hro⟩, h5⟩
    · cases h3
  · cases h3
theorem stepOk_set {n : Nat} {b b' : B} (h1 : c.ok n = true) (h2 : st.h.get n = some b) (h3 : c.wb ≤ n) : StepOk c st ⟨st.nx, st.h.set n b'⟩ := by
  refine ⟨Nat.le_refl _, fun m _ e => ?_, fun hw m hm => ?_⟩
  · rw [T.get_set] at e ⊢
    by_cases hnm : n = m
    · subst hnm; exact ⟨h1, by rw [h2]; simp, by simp, h3⟩
    · rw [if_neg hnm] at e; exact absurd rfl e
  · show (st.h.set n b').get m = none
    have := hw m hm
    rw [T.get_set, if_neg (fun e => by subst e; rw [h2] at this; cases this), this]
theorem stepOk_new {b : B} : StepOk c st ⟨st.nx + 1, st.h.set st.nx b⟩ := by
  refine ⟨Nat.le_succ _, fun m hm e => ?_, fun hw m hm => ?_⟩
  · rw [T.get_set_ne _ _ (by omega)] at e; exact absurd rfl e
  · show (st.h.set st.nx b).get m = none
    have hm' : st.nx + 1 ≤ m := hm
    rw [T.get_set_ne _ _ (by omega)]; exact hw m (by omega)
theorem ov_set {τ : Mem} {n : Nat} {b b' : B} (ha : Agree c st τ) (h1 : c.ok n = true) (h2 : st.h.get n = some b) : ov st ⟨st.nx, st.h.set n b'⟩ τ = upd τ n b' := by
  apply ov_eq
  · intro m _ h; exact absurd h (by show ¬ m < st.nx; omega)
  · intro m _ e
    rw [T.get_set] at e ⊢
    by_cases hnm : n = m
    · subst hnm; rw [upd_same, if_pos rfl]
    · rw [if_neg hnm] at e; exact absurd rfl e
  · intro m _ e
    rw [T.get_set] at e
    by_cases hnm : n = m
    · subst hnm
      rw [if_pos rfl, h2] at e
      rw [upd_same, ha n b h1 h2, e]
    · rw [upd_ne _ _ (Ne.symm hnm)]
theorem ov_new {τ : Mem} {b : B} : ov st ⟨st.nx + 1, st.h.set st.nx b⟩ τ = upd τ st.nx b := by
  apply ov_eq
  · intro m h1 h2
    have : m = st.nx := by have h2' : m < st.nx + 1 := h2; omega
    subst this
    rw [upd_same]; simp
  · intro m h1 e
    have h1' : ¬ (st.nx ≤ m ∧ m < st.nx + 1) := h1
    rw [T.get_set_ne _ _ (by omega)] at e
    exact absurd rfl e
  · intro m h1 e
    have h1' : ¬ (st.nx ≤ m ∧ m < st.nx + 1) := h1
    rw [upd_ne _ _ (by omega)]
end
/-! ### reading -/
section
variable {ρ : Rho} {B0 : Nat} {τ : Mem} {w : World}
theorem Real.read (h : Real ρ B0 τ w) {n : Nat} {r : R} {ty : TypeId} {sz : Nat} {t : T V} (hn : τ n = some (.cs ty sz t)) (hr : ρ n = some r) {i : Nat} {l : List V} (hl : ∀ j a, l[j]? = some a → t.get (i + j) = some a) :
    l.all V.one = true ∧ (∀ j a, l[j]? = some a → i + j < sz) ∧ ∃ xs, RelL ρ l xs ∧ w.rangeAt r.block (r.base + i) xs := by
  obtain ⟨q, h1, h2, h3, h4⟩ := h.blk n _ hn
  rw [hr] at h1; injection h1 with h1; subst h1
  obtain ⟨ty', cells, fr, g1, g2, g3, g4, g5⟩ := h4
  have one : l.all V.one = true := by
    rw [List.all_eq_true]
    intro a ha
    obtain ⟨j, hj, rfl⟩ := List.getElem_of_mem ha
    exact (g5 _ _ (hl j _ (List.getElem?_eq_getElem hj))).2.1
  refine ⟨one, fun j a e => (g5 _ _ (hl j a e)).1, (List.range l.length).map (fun j => cells[r.base + (i + j)]?.getD undef), RelL.of_get (by simp) (fun j a e => ?_), fun j u e => ?_⟩
  · obtain ⟨_, _, x, hx, hrel⟩ := g5 _ _ (hl j a e)
    have hj : j < l.length := by
      rcases Nat.lt_or_ge j l.length with h | h
      · exact h
      · rw [List.getElem?_eq_none h] at e; cases e
    exact ⟨x, by simp [hj, hx], hrel⟩
  · have hj : j < l.length := by
      rcases Nat.lt_or_ge j l.length with h | h
      · exact h
      · rw [List.getElem?_eq_none (by simpa using h)] at e; cases e
    obtain ⟨_, _, x, hx, hrel⟩ := g5 _ _ (hl j _ (List.getElem?_eq_getElem hj))
    simp [hj, hx] at e
    subst e
    unfold World.cell?
    simp only [g1]
    simpa [Nat.add_assoc] using hx
theorem Real.there (h : Real ρ B0 τ w) {n : Nat} {r : R} {ty : TypeId} {sz : Nat} {t : T V} (hn : τ n = some (.cs ty sz t)) (hr : ρ n = some r) (hty : ty ≠ roT) {i m : Nat} (hm : i + m ≤ r.size) :
    w.there r.block (r.base + i) m := fun j hj => by
  obtain ⟨q, h1, h2, h3, h4⟩ := h.blk n _ hn
  rw [hr] at h1; injection h1 with h1; subst h1
  obtain ⟨ty', cells, fr, g1, g2, g3, g4, g5⟩ := h4
  have hlt : r.base + i + j < cells.size := by omega
  constructor
  · unfold World.cell?; simp only [g1]; simp [hlt]
  · unfold World.frozen?
    simp only [g1]
    have := (g4 hty).no hlt
    rw [Bool.eq_false_iff]
    intro e
    simp at e
    exact this e
theorem Blk.wrote {r : R} {ty : TypeId} {sz : Nat} {t : T V} (h : Blk ρ (.cs ty sz t) r w) {cs : List V} {xs : List Value} (hx : RelL ρ cs xs) (ho : cs.all V.one = true) {i : Nat} (hi : i + cs.length ≤ sz) :
    Blk ρ (.cs ty sz (sets cs i t)) r (w.setCells r.block (r.base + i) xs) := by
  obtain ⟨ty', cells, fr, g1, g2, g3, g4, g5⟩ := h
  have hlen := hx.length
  obtain ⟨arr', k1, k2, k3⟩ := heap_setCells_at r.block ty' fr xs (r.base + i) w cells g1 (by omega)
  refine ⟨ty', arr', fr, k1, by omega, g3, by rw [k2]; exact g4, fun j v hv => ?_⟩
  rw [get_sets] at hv
  rw [k3]
  by_cases hij : i ≤ j ∧ j < i + cs.length
  · rw [if_pos hij] at hv
    rw [if_pos (by omega)]
    obtain ⟨y, hy1, hy2⟩ := hx.get hv
    refine ⟨by omega, ?_, y, ?_, hy2⟩
    · exact (List.all_eq_true.1 ho) v (List.mem_of_getElem? hv)
    · rw [show r.base + j - (r.base + i) = j - i by omega]; exact hy1
  · rw [if_neg hij] at hv
    rw [if_neg (by omega)]
    exact g5 j v hv
theorem Blk.made {b : Nat} {ty : TypeId} {cs : List V} {xs : List Value} (hx : RelL ρ cs xs) (ho : cs.all V.one = true) (arr : Array Value) (fr : Nat × Nat) (hw : w.heap[b]? = some (.cells arr ty fr))
    (ha : ∀ (i : Nat) (u : Value), xs[i]? = some u → arr[i]? = some u) (hs : xs.length ≤ arr.size) (hf : FrOk fr arr.size) : Blk ρ (.cs ty cs.length (sets cs 0 .lf)) ⟨b, 0, arr.size⟩ w := by
  have hlen := hx.length
  refine ⟨_, arr, fr, hw, by simp, by simp only; omega, fun _ => hf, fun i v hv => ?_⟩
  rw [get_sets] at hv
  by_cases hi : 0 ≤ i ∧ i < 0 + cs.length
  · rw [if_pos hi] at hv
    obtain ⟨y, hy1, hy2⟩ := hx.get hv
    refine ⟨by omega, (List.all_eq_true.1 ho) v (List.mem_of_getElem? hv), y, ?_, by simpa using hy2⟩
    simp only [Nat.zero_add]
    exact ha _ _ (by simpa using hy1)
  · rw [if_neg hi] at hv
    simp at hv
end
/-! ### one operation -/
/-- what is asked of an operation: whatever comes behind -/
def OpOk (P : Program) (c : Cx) (st st' : St) (v : V) (e : Env) (o : Oper) : Prop :=
  ∀ (B0 : Nat) (ρ : Rho) (τ : Mem) (w : World) (a : Act), (∀ x, x ∈ o.op.operands.toList → TmpRel ρ e a x) → Agree c st τ → Real ρ B0 τ w → Fresh ρ st st' →
    ∀ (K : Act → World → Prop) (Q : Exit → Act → World → Prop), (∀ (ρ' : Rho) (v' : Value) (w' : World), ρ.le ρ' → Dom ρ ρ' st st' → Rel ρ' v v' → Real ρ' B0 (ov st st' τ) w' → Below B0 w w' → K (a.put o.dst v') w') → o.wp P a w K Q
theorem opOk_val {P : Program} {c : Cx} {st : St} {v : V} {e : Env} {o : Oper}
    (h : ∀ (B0 : Nat) (ρ : Rho) (τ : Mem) (w : World) (a : Act), (∀ x, x ∈ o.op.operands.toList → TmpRel ρ e a x) → Agree c st τ → Real ρ B0 τ w → ∃ v', Rel ρ v v' ∧ (execOp a.eval o).run P w = .ok (.value v') w) :
    StepOk c st st ∧ OpOk P c st st v e o :=
  ⟨.refl _ _, fun B0 ρ τ w a h1 h2 h3 _ K Q hK => by
    obtain ⟨v', h4, h5⟩ := h B0 ρ τ w a h1 h2 h3
    unfold Oper.wp
    rw [h5]
    exact hK ρ v' w (Rho.le_refl _) (Dom.refl _ _ _) h4 (by rw [ov_self]; exact h3) (Below.refl _ _)⟩
/-- a new row is made. -/
theorem opOk_new {P : Program} {c : Cx} {st : St} {v : V} {e : Env} {o : Oper} {ty : TypeId} {cs : List V}
    (h : ∀ (B0 : Nat) (ρ : Rho) (τ : Mem) (w : World) (a : Act), (∀ x, x ∈ o.op.operands.toList → TmpRel ρ e a x) → Agree c st τ → Real ρ B0 τ w →
      ∃ (v' : Value) (w' : World) (xs : List Value) (arr : Array Value) (fr : Nat × Nat), RelL ρ cs xs ∧ cs.all V.one = true ∧ (execOp a.eval o).run P w = .ok (.value v') w' ∧ w'.heap = w.heap.push (.cells arr ty fr) ∧ w'.os = w.os ∧ w'.tape = w.tape ∧ w'.output = w.output ∧
        (∀ (i : Nat) (u : Value), xs[i]? = some u → arr[i]? = some u) ∧ xs.length ≤ arr.size ∧ FrOk fr arr.size ∧ ∀ ρ' : Rho, ρ' st.nx = some ⟨w.heap.size, 0, arr.size⟩ → Rel ρ' v v') :
    StepOk c st ⟨st.nx + 1, st.h.set st.nx (.cs ty cs.length (sets cs 0 .lf))⟩ ∧ OpOk P c st ⟨st.nx + 1, st.h.set st.nx (.cs ty cs.length (sets cs 0 .lf))⟩ v e o :=
  ⟨stepOk_new, fun B0 ρ τ w a h1 h2 h3 hf K Q hK => by
    obtain ⟨v', w', xs, arr, fr, k1, k2, k3, k4, k5, k6, k7, k8, k9, k10, k11⟩ := h B0 ρ τ w a h1 h2 h3
    unfold Oper.wp
    rw [k3]
    have hfr : ρ st.nx = none := hf st.nx (Nat.le_refl _) (Nat.lt_succ_self _)
    have hle : ρ.le (upd ρ st.nx ⟨w.heap.size, 0, arr.size⟩) := fun m q e => by
      by_cases hm : m = st.nx
      · subst hm; rw [hfr] at e; cases e
      · rw [upd_ne _ _ hm]; exact e
    have hold : ∀ k, k < w.heap.size → w'.heap[k]? = w.heap[k]? := fun k hk => by rw [k4, Array.getElem?_push, if_neg (by omega)]
    refine hK (upd ρ st.nx ⟨w.heap.size, 0, arr.size⟩) v' w' hle (fun m q e => ?_) (k11 _ (upd_same _ _ _)) ?_ ?_
    · by_cases hm : m = st.nx
      · subst hm; exact .inr ⟨Nat.le_refl _, Nat.lt_succ_self _⟩
      · rw [upd_ne _ _ hm] at e; exact .inl e
    · rw [ov_new]
      refine h3.new hfr (Nat.le_refl _) (by rw [k4]; simp) hold ?_
      exact Blk.made (RelL.mono hle _ _ k1) k2 arr fr (by rw [k4]; simp) k8 k9 k10
    · exact ⟨k5, k6, k7, by rw [k4]; simp, fun k hk => hold k (Nat.lt_of_lt_of_le hk h3.size)⟩⟩
/-- cells are written. -/
theorem opOk_set {P : Program} {c : Cx} {st : St} {v : V} {e : Env} {o : Oper} {n i : Nat} {cs : List V} {ty : TypeId} {sz : Nat} {t : T V}
    (g1 : c.ok n = true) (g2 : st.h.get n = some (.cs ty sz t)) (g3 : i + cs.length ≤ sz) (g4 : c.wb ≤ n ∧ ty ≠ roT)
    (h : ∀ (B0 : Nat) (ρ : Rho) (τ : Mem) (w : World) (a : Act) (r : R), (∀ x, x ∈ o.op.operands.toList → TmpRel ρ e a x) → Agree c st τ → Real ρ B0 τ w → ρ n = some r → sz ≤ r.size →
      ∃ (v' : Value) (xs : List Value), RelL ρ cs xs ∧ cs.all V.one = true ∧ Rel ρ v v' ∧ ((execOp a.eval o).run P w = .ok (.value v') (w.setCells r.block (r.base + i) xs) ∨ ((execOp a.eval o).run P w = .ok .skip (w.setCells r.block (r.base + i) xs) ∧ v' = undef))) :
    StepOk c st ⟨st.nx, st.h.set n (.cs ty sz (sets cs i t))⟩ ∧ OpOk P c st ⟨st.nx, st.h.set n (.cs ty sz (sets cs i t))⟩ v e o :=
  ⟨stepOk_set g1 g2 g4.1, fun B0 ρ τ w a h1 h2 h3 hf K Q hK => by
    have hτ := h2 n _ g1 g2
    obtain ⟨r, r1, r2, r3, r4⟩ := h3.blk n _ hτ
    have hsz : sz ≤ r.size := by obtain ⟨_, _, _, _, _, x, _⟩ := r4; exact x
    obtain ⟨v', xs, k1, k2, k3, k4⟩ := h B0 ρ τ w a r h1 h2 h3 r1 hsz
    have hreal : Real ρ B0 (ov st ⟨st.nx, st.h.set n (.cs ty sz (sets cs i t))⟩ τ) (w.setCells r.block (r.base + i) xs) := by
      rw [ov_set h2 g1 g2]
      exact h3.set hτ g4.2 r1 (size_setCells' _ _ _ _) (heap_setCells_ne _ _ _ _) (r4.wrote k1 k2 g3)
    have hfin := hK ρ v' _ (Rho.le_refl _) (Dom.refl _ _ _) k3 hreal (below_setCells' (r2 g4.2) _ _ _)
    unfold Oper.wp
    rcases k4 with k4 | ⟨k4, rfl⟩
    · rw [k4]; exact hfin
    · rw [k4]; exact hfin⟩
end Go.Proofs.Ytenncnbaoejekaa.Ev

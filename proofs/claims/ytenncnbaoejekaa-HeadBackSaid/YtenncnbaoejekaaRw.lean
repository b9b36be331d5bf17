/-
  PLAIN: the evaluator over inputs that are not known: rows that are read, rows that grow.
-/
import Derived.Test.YtenncnbaoejekaaSz
namespace Go.Proofs.Ytenncnbaoejekaa.Ev
open Go.RowKit
noncomputable def infoOk (P : Program) (el z : Nat) : Bool := match P.info? el with
  | some i => Nat.beq i.size z && Nat.ble i.bytes 1024 && Nat.ble 1 z && (match i.zero with | some v => Nat.beq v.cells.size i.size | none => false)
  | none => false
theorem T.setP_setP {α : Type} (v w : α) : ∀ (p : List Bool) (t : T α), T.setP p v (T.setP p w t fun t => t) (fun t => t) = T.setP p v t fun t => t
  | [], t => by cases t <;> rfl
  | false :: p, .lf => by
    have h : ∀ u : α, T.setP (false :: p) u (.lf : T α) (fun t => t) = .nd .lf none (T.setP p u .lf fun t => t) := fun u => T.setP_eq u p .lf _
    have h2 : ∀ (u : α) (r : T α), T.setP (false :: p) u (.nd .lf none r) (fun t => t) = .nd .lf none (T.setP p u r fun t => t) := fun u r => T.setP_eq u p r _
    rw [h, h2, h, T.setP_setP v w p .lf]
  | false :: p, .nd l o r => by
    have h2 : ∀ (u : α) (r : T α), T.setP (false :: p) u (.nd l o r) (fun t => t) = .nd l o (T.setP p u r fun t => t) := fun u r => T.setP_eq u p r _
    rw [h2, h2, h2, T.setP_setP v w p r]
  | true :: p, .lf => by
    have h : ∀ u : α, T.setP (true :: p) u (.lf : T α) (fun t => t) = .nd (T.setP p u .lf fun t => t) none .lf := fun u => T.setP_eq u p .lf _
    have h2 : ∀ (u : α) (r : T α), T.setP (true :: p) u (.nd r none .lf) (fun t => t) = .nd (T.setP p u r fun t => t) none .lf := fun u r => T.setP_eq u p r _
    rw [h, h2, h, T.setP_setP v w p .lf]
  | true :: p, .nd l o r => by
    have h2 : ∀ (u : α) (l : T α), T.setP (true :: p) u (.nd l o r) (fun t => t) = .nd (T.setP p u l fun t => t) o r := fun u r => T.setP_eq u p r _
    rw [h2, h2, h2, T.setP_setP v w p l]
@[simp] theorem T.set_set {α : Type} (t : T α) (n : Nat) (v w : α) : (t.set n w).set n v = t.set n v := T.setP_setP v w _ t
/-- how much is left to a counter -/
noncomputable def muAt (t n : Nat) (e : Env) : Nat := match e.get t with
  | some (.c (.int _ k)) => n - k.toNat
  | _ => 0
theorem muAt_eq {t n : Nat} {e : Env} {i : IntKind} {k : Int} (h : e.get t = some (.int i k)) : muAt t n e = n - k.toNat := by simp [muAt, h]
theorem muAt_lt {t n : Nat} {e e' : Env} {i : IntKind} {j : Nat} (h : e.get t = some (.int i (j : Int))) (h' : e'.get t = some (.int i ((j + 1 : Nat) : Int))) (hj : j < n) : muAt t n e' < muAt t n e := by
  rw [muAt_eq h, muAt_eq h']
  omega
section
variable {P : Program} {c : Cx} {e : Env} {st : St} {β : Type}
theorem infoOk_small {el z : Nat} (h : infoOk P el z = true) {n : Nat} (hn : n ≤ 1073741824) : small P el n = true := by
  unfold infoOk at h
  unfold small
  split at h
  · rename_i i hi
    simp only [Bool.and_eq_true] at h
    obtain ⟨⟨⟨h1, h2⟩, h3⟩, h4⟩ := h
    have e1 := Nat.eq_of_beq_eq_true h1
    subst e1
    have hb : Nat.ble n 1073741824 = true := by rw [Nat.ble_eq]; exact hn
    rw [hi]
    simp only [hb, h2, h3]
    split at h4
    · rename_i v hv; simp only [hv]; exact h4
    · cases h4
  · cases h
theorem infoOk_sz {el z : Nat} (h : infoOk P el z = true) (k : Nat → Option β) : szOf P el k = k z := by
  unfold infoOk at h
  unfold szOf
  split at h
  · rename_i i hi
    simp only [Bool.and_eq_true] at h
    rw [hi]
    show k i.size = k z
    rw [Nat.eq_of_beq_eq_true h.1.1.1]
  · cases h
theorem infoOk_pos {el z : Nat} (h : infoOk P el z = true) : 1 ≤ z := by
  unfold infoOk at h
  split at h
  · simp only [Bool.and_eq_true] at h
    exact Nat.le_of_ble_eq_true h.1.2
  · cases h
theorem elemOf_ok {t el z : Nat} (hu : P.underlying t = some (.slice el)) (h : infoOk P el z = true) (k : TypeId → Nat → Option β) : elemOf P t k = k el z := by
  unfold elemOf
  rw [hu]
  exact infoOk_sz h _
/-- a row made by these calls, in a block of its own not below b -/
def OwnRow (b : Nat) (st : St) (x : V) (z n : Nat) (l : List V) : Prop := l.length = n * z ∧ ((x = .c (.slice none 0 0) ∧ n = 0) ∨ (∃ m ty t, x = .sg m 0 n z ∧ b ≤ m ∧ m < st.nx ∧ st.h.get m = some (.cs ty (n * z) t) ∧ ty ≠ roT ∧ ∀ j v, l[j]? = some v → t.get j = some v))
/-- a row that can be read: its elements' cells -/
def RdRow (st : St) (x : V) (z n : Nat) (l : List V) : Prop := l.length = n * z ∧ (((x = .c (.slice none 0 0) ∨ x = .e) ∧ n = 0) ∨ (∃ m o q ty sz t, x = .sl m o n q ∧ m < st.nx ∧ st.h.get m = some (.cs ty sz t) ∧ o + n * z ≤ sz ∧ ∀ j v, l[j]? = some v → t.get (o + j) = some v) ∨ (∃ m o ty sz t, x = .sg m o n z ∧ m < st.nx ∧ st.h.get m = some (.cs ty sz t) ∧ o + n * z ≤ sz ∧ ∀ j v, l[j]? = some v → t.get (o + j) = some v))
theorem OwnRow.rd {b : Nat} {x : V} {z n : Nat} {l : List V} (h : OwnRow b st x z n l) : RdRow st x z n l := by
  obtain ⟨h1, h2⟩ := h
  refine ⟨h1, ?_⟩
  rcases h2 with h2 | ⟨m, ty, t, rfl, _, h3, h4, _, h5⟩
  · exact .inl ⟨.inl h2.1, h2.2⟩
  · exact .inr (.inr ⟨m, 0, ty, _, t, rfl, h3, h4, by omega, fun j v hj => by rw [Nat.zero_add]; exact h5 j v hj⟩)
theorem RdRow.ext {st' : St} {x : V} {z n : Nat} {l : List V} (h : RdRow st x z n l) (k : Ext st.nx st st') : RdRow st' x z n l := by
  obtain ⟨h1, h2⟩ := h
  refine ⟨h1, ?_⟩
  have := k.le
  rcases h2 with h2 | ⟨m, o, q, ty, sz, t, rfl, h3, h4, h5⟩ | ⟨m, o, ty, sz, t, rfl, h3, h4, h5⟩
  · exact .inl h2
  · exact .inr (.inl ⟨m, o, q, ty, sz, t, rfl, by omega, by rw [k.keep m h3]; exact h4, h5⟩)
  · exact .inr (.inr ⟨m, o, ty, sz, t, rfl, by omega, by rw [k.keep m h3]; exact h4, h5⟩)
theorem RdRow.len {x : V} {z n : Nat} {l : List V} (h : RdRow st x z n l) (k : Nat → Option β) : lenA x k = k n := by
  obtain ⟨_, h2⟩ := h
  rcases h2 with ⟨rfl | rfl, rfl⟩ | ⟨m, o, q, ty, sz, t, rfl, _⟩ | ⟨m, o, ty, sz, t, rfl, _⟩ <;> rfl
/-- a row that lies below b stays -/
theorem RdRow.keep {b : Nat} {s0 : St} {x : V} {z n : Nat} {l : List V} (h : RdRow s0 x z n l) (hb : s0.nx ≤ b) (k : Ext b s0 st) : RdRow st x z n l := h.ext (k.mono hb)
theorem OwnRow.ext {b : Nat} {st' : St} {x : V} {z n : Nat} {l : List V} (h : OwnRow b st x z n l) (k : Ext st.nx st st') : OwnRow b st' x z n l := by
  obtain ⟨h1, h2⟩ := h
  refine ⟨h1, ?_⟩
  have := k.le
  rcases h2 with h2 | ⟨m, ty, t, rfl, h3, h4, h5, h6⟩
  · exact .inl h2
  · exact .inr ⟨m, ty, t, rfl, h3, by omega, by rw [k.keep m h4]; exact h5, h6⟩
theorem OwnRow.nil (b : Nat) (st : St) (z : Nat) : OwnRow b st (.c (.slice none 0 0)) z 0 [] := ⟨by simp, .inl ⟨rfl, rfl⟩⟩
theorem getsB_1 (t : T V) (i : Nat) (k : List V → Option β) : getsB t 1 i k = (t.get i).bind fun x => k [x] := by rw [getsB_succ]; rfl
theorem getsB_2 (t : T V) (i : Nat) (k : List V → Option β) : getsB t 2 i k = (t.get i).bind fun x => (t.get (i + 1)).bind fun y => k [x, y] := by
  rw [getsB_succ]; congr 1; funext x; rw [getsB_1]
theorem getsB_3 (t : T V) (i : Nat) (k : List V → Option β) : getsB t 3 i k = (t.get i).bind fun x => (t.get (i + 1)).bind fun y => (t.get (i + 1 + 1)).bind fun z => k [x, y, z] := by
  rw [getsB_succ]; congr 1; funext x; rw [getsB_2]
/-- len, of a row -/
noncomputable def lenS (st : St) (x : V) : Res := match x with
  | .s _ => none
  | x => lenA x fun n => some (.int .i64 (.ofNat n), st)
theorem RdRow.lenS {x : V} {z n : Nat} {l : List V} (h : RdRow st x z n l) (s : St) : lenS s x = some (.int .i64 (n : Int), s) := by
  obtain ⟨_, h2⟩ := h
  rcases h2 with ⟨rfl | rfl, rfl⟩ | ⟨m, o, q, ty, sz, t, rfl, _⟩ | ⟨m, o, ty, sz, t, rfl, _⟩ <;> rfl
theorem len_slice {t el : Nat} (hu : P.underlying t = some (.slice el)) (x : V) : builtinE P c .len [t] [x] st = lenS st x := by
  unfold builtinE
  simp only [hu]
  cases x <;> rfl
/-- a cell of a row -/
theorem RdRow.idx {t el z n : Nat} {x : V} {l : List V} (hu : P.underlying t = some (.slice el)) (hi : infoOk P el z = true) (h : RdRow st x z n l) {i : Nat} (hlt : i < n) :
    ∃ m o ty sz tr, (∀ k : V → Res, idxE P t x i k = k (.p m o)) ∧ m < st.nx ∧ st.h.get m = some (.cs ty sz tr) ∧ o + z ≤ sz ∧ ∀ j v, j < z → l[i * z + j]? = some v → tr.get (o + j) = some v := by
  have hz := infoOk_pos hi
  have hle : i * z + z ≤ n * z := by rw [← Nat.succ_mul]; exact Nat.mul_le_mul_right z hlt
  obtain ⟨h1, h2⟩ := h
  rcases h2 with ⟨_, rfl⟩ | ⟨m, o, q, ty, sz, tr, rfl, h3, h4, h5, h6⟩ | ⟨m, o, ty, sz, tr, rfl, h3, h4, h5, h6⟩
  · omega
  · refine ⟨m, o + i * z, ty, sz, tr, fun k => ?_, h3, h4, by omega, fun j v hj hv => ?_⟩
    · rw [idxE_sl hu (fun k => infoOk_sz hi k), if_pos hlt]
    · rw [Nat.add_assoc]; exact h6 _ _ hv
  · refine ⟨m, o + i * z, ty, sz, tr, fun k => ?_, h3, h4, by omega, fun j v hj hv => ?_⟩
    · rw [idxE_sg hu (fun k => infoOk_sz hi k), if_pos hlt]
    · rw [Nat.add_assoc]; exact h6 _ _ hv
/-- what stands behind an append -/
theorem Gd_append {b t t' el el' z n lx nt : Nat} {s x : V} {l new : List V} {Q : V × St → Prop} (hu : P.underlying t = some (.slice el)) (hk : P.underlying t' = some (.slice el')) (hi : infoOk P el z = true)
    (h : OwnRow b st s z n l) (hb : b ≤ st.nx) (hel : el ≠ roT) (hx : ∀ s', x ≠ .s s') (hl : ∀ k : Nat → Res, lenA x k = k lx) (hf : ∀ k : List V → Res, firsts ⟨false, [], 0, nt⟩ st z lx x k = k new) (hn : new.length = lx * z) (hmax : n + lx ≤ 1073741824)
    (hQ : ∀ s' st', OwnRow b st' s' z (n + lx) (l ++ new) → Ext b st st' → (∀ m, m < st.nx → (∀ o ln, s ≠ .sg m o ln z) → st'.h.get m = st.h.get m) → (s' = s ∨ ∃ ln, s' = .sg st.nx 0 ln z) → Q (s', st')) : Gd (builtinE P ⟨false, [], 0, nt⟩ .append [t, t'] [s, x] st) Q := by
  have hz := infoOk_pos hi
  have hls : ∀ k : Nat → Res, lenA s k = k n := h.rd.len
  have e1 : builtinE P ⟨false, [], 0, nt⟩ .append [t, t'] [s, x] st = appE ⟨false, [], 0, nt⟩ st el z n lx s new := by
    unfold builtinE
    simp only [elemOf_ok hu hi, hls, hk]
    cases x with
    | s s' => exact absurd rfl (hx s')
    | _ => simp only [hl, hf, infoOk_small hi hmax]
  rw [e1]
  obtain ⟨h1, h2⟩ := h
  have hlen : (l ++ new).length = (n + lx) * z := by rw [List.length_append, h1, hn, Nat.add_mul]
  unfold appE
  rw [fn_eq]
  rcases h2 with ⟨rfl, rfl⟩ | ⟨m, ty, tr, rfl, h3, h4, h5, h6, h7⟩
  · have hl0 : l = [] := List.eq_nil_of_length_eq_zero (by rw [h1]; simp)
    subst hl0
    cases lx with
    | zero =>
      have hn0 : new = [] := List.eq_nil_of_length_eq_zero (by rw [hn]; simp)
      subst hn0
      exact ⟨_, rfl, hQ _ _ ⟨by simp, .inl ⟨rfl, rfl⟩⟩ (Ext.refl _ _) (fun _ _ _ => rfl) (.inl rfl)⟩
    | succ k =>
      have e2 : growE ⟨false, [], 0, nt⟩ st el z 0 (0 + (k + 1)) (.c (.slice none 0 0)) new = some (.sg st.nx 0 (0 + (k + 1)) z, ⟨st.nx + 1, st.h.set st.nx (.cs el new.length (sets new 0 .lf))⟩) := by
        have : growE ⟨false, [], 0, nt⟩ st el z 0 (0 + (k + 1)) (.c (.slice none 0 0)) new = newC st el ([] ++ new) fun n st => some (.sg n 0 (0 + (k + 1)) z, st) := rfl
        rw [this, newC_is]
        rfl
      refine ⟨_, e2, hQ _ _ ⟨hlen, .inr ⟨st.nx, el, sets new 0 .lf, rfl, hb, Nat.lt_succ_self _, ?_, hel, fun j v hj => ?_⟩⟩ ((Ext.refl b st).new hb _) (fun m hm _ => ?_) (.inr ⟨_, rfl⟩)⟩
      · show (st.h.set st.nx _).get st.nx = _
        rw [T.get_set_same, hn, Nat.zero_add]
      · rw [get_sets]
        have hlt : j < new.length := by
          rcases Nat.lt_or_ge j new.length with h | h
          · exact h
          · rw [List.nil_append, List.getElem?_eq_none h] at hj; cases hj
        rw [if_pos (by omega)]
        exact hj
      · exact T.get_set_ne _ _ (by omega)
  · have hro : Nat.beq ty roT = false := by
      cases h : Nat.beq ty roT with
      | false => rfl
      | true => exact absurd (Nat.eq_of_beq_eq_true h) h6
    have hzz : Nat.beq z z = true := Nat.beq_refl z
    simp only [hzz]
    rw [getB_get m _ _ rfl h5]
    simp only [hro]
    cases lx with
    | zero =>
      have hn0 : new = [] := List.eq_nil_of_length_eq_zero (by rw [hn]; simp)
      subst hn0
      have hble : Nat.ble (0 + (n + 0) * z) (n * z) = true := by rw [Nat.ble_eq]; simp
      simp only [hble, fn_eq]
      rw [putB_eq, h5]
      have hc : 0 + n * z + ([] : List V).length ≤ n * z ∧ ty ≠ roT ∧ 0 ≤ m := ⟨by simp, h6, Nat.zero_le _⟩
      simp only [ok_top, inF_nil, Bool.not_false, cond_true, Option.bind_some, csK_cs, if_pos hc]
      refine ⟨_, rfl, hQ _ _ ⟨hlen, .inr ⟨m, ty, tr, rfl, h3, h4, ?_, h6, fun j v hj => ?_⟩⟩ ((Ext.refl b st).set h3 h4 _) (fun m' hm hne => ?_) (.inl rfl)⟩
      · show (st.h.set m _).get m = _
        rw [T.get_set_same]
        rfl
      · rw [List.append_nil] at hj; exact h7 j v hj
      · exact T.get_set_ne _ _ (fun e => by subst e; exact hne _ _ rfl)
    | succ k =>
      have hble : Nat.ble (0 + (n + (k + 1)) * z) (n * z) = false := by
        cases h : Nat.ble (0 + (n + (k + 1)) * z) (n * z) with
        | false => rfl
        | true =>
          rw [Nat.ble_eq] at h
          have : (n + (k + 1)) * z = n * z + (k + 1) * z := Nat.add_mul ..
          have h2 : 1 * 1 ≤ (k + 1) * z := Nat.mul_le_mul (by omega) hz
          omega
      have hbeq : Nat.beq (0 + n * z) (n * z) = true := by rw [Nat.zero_add]; exact Nat.beq_refl _
      simp only [hble, hbeq, setB_eq, Nat.zero_le, if_pos]
      rw [setsK_eq, fn_eq, newB_is]
      refine ⟨_, rfl, hQ _ _ ⟨hlen, .inr ⟨st.nx, el, sets new (n * z) tr, rfl, hb, Nat.lt_succ_self _, ?_, hel, fun j v hj => ?_⟩⟩ (((Ext.refl b st).set h3 h4 _).new hb _) (fun m' hm hne => ?_) (.inr ⟨_, rfl⟩)⟩
      · show ((st.h.set m .gone).set st.nx _).get st.nx = _
        rw [T.get_set_same, hn, Nat.add_mul n (k + 1) z]
      · rw [get_sets]
        rcases Nat.lt_or_ge j l.length with hj1 | hj1
        · rw [if_neg (by omega)]
          rw [List.getElem?_append_left hj1] at hj
          exact h7 j v hj
        · rw [List.getElem?_append_right hj1] at hj
          have hlt : j - l.length < new.length := by
            rcases Nat.lt_or_ge (j - l.length) new.length with h | h
            · exact h
            · rw [List.getElem?_eq_none h] at hj; cases hj
          rw [if_pos (by omega), ← h1]
          exact hj
      · show ((st.h.set m .gone).set st.nx _).get m' = _
        rw [T.get_set_ne _ _ (by omega), T.get_set_ne _ _ (fun e => by subst e; exact hne _ _ rfl)]
/-! ### stores, built rows -/
theorem storeK_g (t : TypeId) (n i : Nat) (l : List V) : storeK P c st t n i (.g l) = szOf P t fun z => if l.length = z then putB c st n i l fun st => some (.u, st) else none := by
  have h0 : storeK P c st t n i (.g l) = (szOf P t fun z => match Nat.beq l.length z with | true => putB c st n i l fun st => (some (V.u, st) : Res) | false => none) := rfl
  rw [h0]
  congr 1
  funext z
  by_cases h : l.length = z
  · subst h; simp
  · have : Nat.beq l.length z = false := by
      cases hb : Nat.beq l.length z with
      | false => rfl
      | true => exact absurd (Nat.eq_of_beq_eq_true hb) h
    simp [this, h]
theorem storeK_1 {v : V} (hv : v.one = true) (t : TypeId) (n i : Nat) : storeK P c st t n i v = szOf P t fun z => if 1 = z then putB c st n i [v] fun st => some (.u, st) else none := by
  have h1 : storeK P c st t n i v = (szOf P t fun z => match Nat.beq ([v] : List V).length z with | true => putB c st n i [v] fun st => some (.u, st) | false => none) := by
    cases v <;> first | rfl | cases hv
  rw [h1]
  congr 1
  funext z
  by_cases h : 1 = z
  · subst h; simp
  · have : Nat.beq 1 z = false := by
      cases hb : Nat.beq 1 z with
      | false => rfl
      | true => exact absurd (Nat.eq_of_beq_eq_true hb) h
    simp [this, h]
@[simp] theorem storeK_c (v : Value) (t : TypeId) (n i : Nat) : storeK P c st t n i (.c v) = szOf P t fun z => if 1 = z then putB c st n i [.c v] fun st => some (.u, st) else none := storeK_1 rfl t n i
@[simp] theorem storeK_p (a b : Nat) (t : TypeId) (n i : Nat) : storeK P c st t n i (.p a b) = szOf P t fun z => if 1 = z then putB c st n i [.p a b] fun st => some (.u, st) else none := storeK_1 rfl t n i
@[simp] theorem storeK_sl (a b l q : Nat) (t : TypeId) (n i : Nat) : storeK P c st t n i (.sl a b l q) = szOf P t fun z => if 1 = z then putB c st n i [.sl a b l q] fun st => some (.u, st) else none := storeK_1 rfl t n i
@[simp] theorem storeK_sg (a b l q : Nat) (t : TypeId) (n i : Nat) : storeK P c st t n i (.sg a b l q) = szOf P t fun z => if 1 = z then putB c st n i [.sg a b l q] fun st => some (.u, st) else none := storeK_1 rfl t n i
/-- a value that lies in one cell -/
theorem RdRow.one {x : V} {z n : Nat} {l : List V} (h : RdRow st x z n l) : x.one = true := by
  obtain ⟨_, h2⟩ := h
  rcases h2 with ⟨rfl | rfl, rfl⟩ | ⟨m, o, q, ty, sz, t, rfl, _⟩ | ⟨m, o, ty, sz, t, rfl, _⟩ <;> rfl
/-- a literal row of one element: the operation's answer -/
theorem evOp_build1 {F : CallF} {d : Option Nat} {t ty el z : Nat} {p : String} {af : Array Edge} {g : Option (Nat × Bool)} {x : Operand} {Q : V × St → Prop} {cs zs : List V} {v : V}
    (hu : ∀ k : TypeId → Nat → Res, Ev.elemOf P t k = k el z) (hz : ∀ k : List V → Res, zero P el k = k zs) (hzl : zs.length = z) (hz1 : z ≤ 16777216) (hv : opv e x = some v) (hc : ∀ k : List V → Res, cellsOf v k = k cs) (hcl : cs.length = z)
    (hQ : Q (.sl st.nx 0 1 1, ⟨st.nx + 1, st.h.set st.nx (.cs el z (sets cs 0 .lf))⟩)) : Gd (evOp P F c e st ⟨d, .buildSlice t 1 #[(0, x)], ty, p, af, g⟩) Q := by
  have hopd : ∀ k : V → Res, opd e x k = k v := fun k => by
    have : opd e x k = (opv e x).bind k := by rw [opd_bind]; rfl
    rw [this, hv]; rfl
  have h1 : evOp P F c e st ⟨d, .buildSlice t 1 #[(0, x)], ty, p, af, g⟩ = Ev.elemOf P t fun el z => zero P el fun zs => opd e x fun v => (match Nat.beq zs.length z, Nat.ble (1 * z) 16777216 with
    | true, true => partsK (fun i => some (i * z, z)) [(0, x)] [v] (rep zs 1) fun l => newC st el l fun n st => (some (.sl n 0 1 1, st) : Res)
    | _, _ => none) := rfl
  rw [h1, hu, hz, hopd]
  have b1 : Nat.beq zs.length z = true := by rw [hzl]; exact Nat.beq_refl z
  have b2 : Nat.ble (1 * z) 16777216 = true := by rw [Nat.ble_eq]; omega
  simp only [b1, b2]
  have h2 : partsK (fun i => some (i * z, z)) [(0, x)] [v] (rep zs 1) (fun l => newC st el l fun n st => (some (.sl n 0 1 1, st) : Res)) = cellsOf v fun cs => (match Nat.beq cs.length z with
      | true => splice (0 * z) cs (rep zs 1) fun l => newC st el l fun n st => (some (.sl n 0 1 1, st) : Res)
      | false => none) := rfl
  rw [h2, hc]
  have b3 : Nat.beq cs.length z = true := by rw [hcl]; exact Nat.beq_refl z
  simp only [b3]
  have hrep : rep zs 1 = zs ++ [] := rfl
  have h3 : splice (0 * z) cs (rep zs 1) (fun l => newC st el l fun n st => (some (.sl n 0 1 1, st) : Res)) = newC st el cs fun n st => some (.sl n 0 1 1, st) := by
    unfold splice
    have b4 : Nat.ble (0 * z + cs.length) (rep zs 1).length = true := by rw [Nat.ble_eq, hrep]; simp [hcl, hzl]
    simp only [b4]
    have : (rep zs 1).take (0 * z) ++ (cs ++ (rep zs 1).drop (0 * z + cs.length)) = cs := by
      rw [hrep]; simp [hcl, hzl]
    rw [this]
  rw [h3, newC_is, hcl]
  exact ⟨_, rfl, hQ⟩
@[simp] theorem resOf_nil (k : List V → Option (V × St)) : resOf P c e st [] k = k [] := rfl
@[simp] theorem resOf_tmp (t : Nat) (l : List ResultVar) (k : List V → Option (V × St)) : resOf P c e st (.tmp t :: l) k = (e.get t).bind fun x => resOf P c e st l fun r => k (x :: r) := by
  have h : resOf P c e st (.tmp t :: l) k = (match e.get t with
      | some x => resOf P c e st l fun r => k (x :: r)
      | _ => none) := rfl
  rw [h]
  cases e.get t <;> rfl
@[simp] theorem firsts_sl (z n m o l q : Nat) (k : List V → Option β) : firsts c st z n (.sl m o l q) k = if n ≤ l then getC c st m fun t => getsB t (n * z) o k else none := by
  unfold firsts
  by_cases h : n ≤ l
  · have : Nat.ble n l = true := by rw [Nat.ble_eq]; exact h
    simp [this, h]
  · have : Nat.ble n l = false := by
      cases hb : Nat.ble n l with
      | false => rfl
      | true => rw [Nat.ble_eq] at hb; exact absurd hb h
    simp [this, h]
theorem wrap_in {x : Int} (h1 : -9223372036854775808 ≤ x) (h2 : x ≤ 9223372036854775807) : IntKind.i64.wrap x = x := by
  rw [← wr_eq]
  show ws 18446744073709551616 9223372036854775808 x = x
  rw [ws_eq _ _ (by decide)]
  split <;> omega
theorem wrap_nat {n : Nat} (h : n < 9223372036854775807) : IntKind.i64.wrap ((n : Int) + 1) = ((n + 1 : Nat) : Int) := by
  rw [wrap_in (by omega) (by omega)]; omega
/-! ### regions that draw -/
noncomputable def ldC (v : Option V) (c : Cx) (l : List (Nat × Nat)) (nx : Nat) : Cx := match v with
  | some v => (match blkOf v with
    | some m => ⟨c.all, (0, m) :: (m + 1, nx) :: l, nx, c.nt⟩
    | none => ⟨true, [], nx, c.nt⟩)
  | none => ⟨true, [], nx, c.nt⟩
@[simp] theorem ldC_p (m o : Nat) (c : Cx) (l : List (Nat × Nat)) (nx : Nat) : ldC (some (.p m o)) c l nx = ⟨c.all, (0, m) :: (m + 1, nx) :: l, nx, c.nt⟩ := rfl
@[simp] theorem cxOf_load (d : Option Nat) (t ty : TypeId) (q : Nat) (p : String) (af : Array Edge) (g : Option (Nat × Bool)) (ops : List Oper) (i nx : Nat) (rs : List (Nat × Nat × Nat)) : cxOf c ops ⟨d, .load t (.tmp q), ty, p, af, g⟩ i rs nx e = ldC (e.get q) c (forb (befOf ops i) rs c.l) nx := by
  have h : cxOf c ops ⟨d, .load t (.tmp q), ty, p, af, g⟩ i rs nx e = (match e.get q with
      | some v => (match blkOf v with
        | some m => ⟨c.all, (0, m) :: (m + 1, nx) :: forb (befOf ops i) rs c.l, nx, c.nt⟩
        | none => ⟨true, [], nx, c.nt⟩)
      | none => ⟨true, [], nx, c.nt⟩) := rfl
  rw [h]
  cases e.get q <;> rfl
theorem cxOf_store {d : Option Nat} {t ty : TypeId} {x y : Operand} {p : String} {af : Array Edge} {g : Option (Nat × Bool)} {ops : List Oper} {i nx : Nat} {rs : List (Nat × Nat × Nat)} (h : mayW ops i = true) : cxOf c ops ⟨d, .store t x y, ty, p, af, g⟩ i rs nx e = ⟨c.all, forb (befOf ops i) rs c.l, c.wb, c.nt⟩ := by
  have h0 : cxOf c ops ⟨d, .store t x y, ty, p, af, g⟩ i rs nx e = (match mayW ops i with
      | true => ⟨c.all, forb (befOf ops i) rs c.l, c.wb, c.nt⟩
      | false => (match looseFor ops e i ⟨d, .store t x y, ty, p, af, g⟩ with
        | some l => ⟨c.all, l ++ forb (befOf ops i) rs c.l, c.wb, c.nt⟩
        | none => ⟨c.all, forb (befOf ops i) rs c.l, nx, c.nt⟩)) := rfl
  rw [h0, h]
@[simp] theorem forb_nil (b : Nat) (l : List (Nat × Nat)) : forb b [] l = l := rfl
theorem inF_cons (a b n : Nat) (l : List (Nat × Nat)) : inF ((a, b) :: l) n = if a ≤ n ∧ n < b then true else inF l n := by
  show (match Nat.ble a n with | true => (match Nat.blt n b with | true => true | false => inF l n) | false => inF l n) = _
  by_cases h1 : a ≤ n
  · have h1' : Nat.ble a n = true := by rw [Nat.ble_eq]; exact h1
    by_cases h2 : n < b
    · have h2' : Nat.blt n b = true := by rw [Nat.blt_eq]; exact h2
      simp [h1', h2', h1, h2]
    · have h2' : Nat.blt n b = false := by
        cases h : Nat.blt n b with
        | false => rfl
        | true => rw [Nat.blt_eq] at h; exact absurd h h2
      simp [h1', h2', h2]
  · have h1' : Nat.ble a n = false := by
      cases h : Nat.ble a n with
      | false => rfl
      | true => rw [Nat.ble_eq] at h; exact absurd h h1
    simp [h1', h1]
@[simp] theorem inF_own (m nx : Nat) : inF [(0, m), (m + 1, nx)] m = false := by
  rw [inF_cons, inF_cons, if_neg (by omega), if_neg (by omega)]; rfl
theorem Gd_cx {F : CallF} {ops : List Oper} {o : Oper} {i nx : Nat} {rs : List (Nat × Nat × Nat)} {Q : V × St → Prop} {c' : Cx} (h : cxOf c ops o i rs nx e = c') (k : Gd (evOp P F c' e st o) Q) : Gd (evOp P F (cxOf c ops o i rs nx e) e st o) Q := by rw [h]; exact k
theorem Gd_cxB {ops : List Oper} {o : Oper} {i nx : Nat} {rs : List (Nat × Nat × Nat)} {bt : Builtin} {ts : List TypeId} {args : List V} {Q : V × St → Prop} {c' : Cx} (h : cxOf c ops o i rs nx e = c') (k : Gd (builtinE P c' bt ts args st) Q) : Gd (builtinE P (cxOf c ops o i rs nx e) bt ts args st) Q := by rw [h]; exact k
@[simp] theorem rsOf_new (rs : List (Nat × Nat × Nat)) (i a : Nat) : rsOf rs i a (a + 1) = (i, a, a + 1) :: rs := by
  have : Nat.beq a (a + 1) = false := by
    cases h : Nat.beq a (a + 1) with
    | false => rfl
    | true => have := Nat.eq_of_beq_eq_true h; omega
  simp [rsOf, this]
/-! ### built values -/
noncomputable def bldK (P : Program) (t : TypeId) (parts : List (Nat × Operand)) (vs zs : List V) (st : St) : Res := match P.underlying t with
  | some (.struct fs) => partsK (fun i => match lget fs.toList i with | some f => (match P.info? f.type with | some ti => some (f.offset, ti.size) | none => none) | none => none) parts vs zs fun l => forceL l fun l => (match fs.toList.all fun f => (P.info? f.type).isSome with | true => some (.g l, st) | false => none)
  | some (.array _ el) => szOf P el fun z => partsK (fun i => some (i * z, z)) parts vs zs fun l => forceL l fun l => some (.g l, st)
  | _ => none
@[simp] theorem evOp_build {F : CallF} (d : Option Nat) (t ty : TypeId) (parts : Array (Nat × Operand)) (p : String) (af : Array Edge) (g : Option (Nat × Bool)) : evOp P F c e st ⟨d, .build t parts, ty, p, af, g⟩ = zero P t fun zs => opds e (parts.toList.map fun x => x.2) fun vs => bldK P t parts.toList vs zs st := rfl
theorem Gd_by {α : Type} {r : Option α} {a : α} {Q : α → Prop} (h : r = some a) (k : Q a) : Gd r Q := ⟨a, h, k⟩
/-! ### the lesser, the greater -/
theorem evOp_min {F : CallF} (d : Option Nat) (ty t1 t2 : TypeId) (x y : Operand) (p : String) (af : Array Edge) (g : Option (Nat × Bool)) : evOp P F c e st ⟨d, .call ⟨.builtin .min, #[x, y], #[t1, t2]⟩, ty, p, af, g⟩ = opds e [x, y] fun args => pick1 P .min [t1, t2] ty args st := rfl
theorem evOp_max {F : CallF} (d : Option Nat) (ty t1 t2 : TypeId) (x y : Operand) (p : String) (af : Array Edge) (g : Option (Nat × Bool)) : evOp P F c e st ⟨d, .call ⟨.builtin .max, #[x, y], #[t1, t2]⟩, ty, p, af, g⟩ = opds e [x, y] fun args => pick1 P .max [t1, t2] ty args st := rfl
/-! ### parts of rows -/
theorem sliceE_hi {t el z : Nat} (hu : P.underlying t = some (.slice el)) (hi : infoOk P el z = true) {x : Operand} {k : Nat} {i : IntKind} (hv : opv e x = some (.int i (k : Int))) (q o n : Nat) (hk : k ≤ n) (kk : V → Res) : sliceE P e t (.sg q o n z) none (some x) kk = kk (.sg q o k z) := by
  have hopd : ∀ f : V → Res, opd e x f = f (.int i (k : Int)) := fun f => by
    have : opd e x f = (opv e x).bind f := by rw [opd_bind]; rfl
    rw [this, hv]; rfl
  unfold sliceE
  rw [hu]
  simp only [infoOk_sz hi]
  have h1 : ∀ f : Nat → Res, bnd e n (some x) f = f k := fun f => by
    show opd e x (fun v => asNat v f) = f k
    rw [hopd]; rfl
  have h2 : ∀ f : Nat → Res, bnd e 0 none f = f 0 := fun f => rfl
  rw [h1, h2]
  have b1 : Nat.ble 0 k = true := by rw [Nat.ble_eq]; omega
  have b2 : Nat.ble k n = true := by rw [Nat.ble_eq]; exact hk
  have b3 : Nat.beq z z = true := Nat.beq_refl z
  have b4 : (Nat.beq 0 k && !Nat.beq 0 0) = false := by simp
  simp only [b1, b2, b3, b4, fn_eq]
  simp
theorem sliceE_lo {t el z : Nat} (hu : P.underlying t = some (.slice el)) (hi : infoOk P el z = true) {x : Operand} {k : Nat} {i : IntKind} (hv : opv e x = some (.int i (k : Int))) (q o n : Nat) (hk : k ≤ n) (kk : V → Res) : sliceE P e t (.sg q o n z) (some x) none kk = kk (if k = n ∧ k ≠ 0 then .e else .sg q (o + k * z) (n - k) z) := by
  have hopd : ∀ f : V → Res, opd e x f = f (.int i (k : Int)) := fun f => by
    have : opd e x f = (opv e x).bind f := by rw [opd_bind]; rfl
    rw [this, hv]; rfl
  unfold sliceE
  rw [hu]
  simp only [infoOk_sz hi]
  have h1 : ∀ f : Nat → Res, bnd e n none f = f n := fun f => rfl
  have h2 : ∀ f : Nat → Res, bnd e 0 (some x) f = f k := fun f => by
    show opd e x (fun v => asNat v f) = f k
    rw [hopd]; rfl
  rw [h1, h2]
  have b1 : Nat.ble k n = true := by rw [Nat.ble_eq]; exact hk
  have b2 : Nat.ble n n = true := by rw [Nat.ble_eq]; exact Nat.le_refl _
  have b3 : Nat.beq z z = true := Nat.beq_refl z
  simp only [b1, b2, b3]
  by_cases h : k = n ∧ k ≠ 0
  · have b4 : (Nat.beq k n && !Nat.beq k 0) = true := by
      obtain ⟨rfl, h0⟩ := h
      cases k with
      | zero => exact absurd rfl h0
      | succ k => rw [Nat.beq_refl]; rfl
    simp only [b4, if_pos h]
  · have b4 : (Nat.beq k n && !Nat.beq k 0) = false := by
      rw [Bool.eq_false_iff]
      intro hb
      simp only [Bool.and_eq_true] at hb
      refine h ⟨Nat.eq_of_beq_eq_true hb.1, fun e => ?_⟩
      subst e
      have := hb.2
      cases this
    simp only [b4, if_neg h, fn_eq]
theorem sliceE_nil_hi {t el z : Nat} (hu : P.underlying t = some (.slice el)) (hi : infoOk P el z = true) {x : Operand} {i : IntKind} (hv : opv e x = some (.int i ((0 : Nat) : Int))) (kk : V → Res) : sliceE P e t (.c (.slice none 0 0)) none (some x) kk = kk (.c (.slice none 0 0)) := by
  have hopd : ∀ f : V → Res, opd e x f = f (.int i ((0 : Nat) : Int)) := fun f => by
    have : opd e x f = (opv e x).bind f := by rw [opd_bind]; rfl
    rw [this, hv]; rfl
  unfold sliceE
  rw [hu]
  simp only [infoOk_sz hi]
  show opd e x (fun v => asNat v fun h => bnd e 0 none fun l => _) = _
  rw [hopd]
  rfl
theorem sliceE_nil_lo {t el z : Nat} (hu : P.underlying t = some (.slice el)) (hi : infoOk P el z = true) {x : Operand} {i : IntKind} (hv : opv e x = some (.int i ((0 : Nat) : Int))) (kk : V → Res) : sliceE P e t (.c (.slice none 0 0)) (some x) none kk = kk (.c (.slice none 0 0)) := by
  have hopd : ∀ f : V → Res, opd e x f = f (.int i ((0 : Nat) : Int)) := fun f => by
    have : opd e x f = (opv e x).bind f := by rw [opd_bind]; rfl
    rw [this, hv]; rfl
  unfold sliceE
  rw [hu]
  simp only [infoOk_sz hi]
  show opd e x (fun v => asNat v fun l => _) = _
  rw [hopd]
  rfl
/-- the first ones of a row -/
theorem Gd_slice_hi {b t el z n k : Nat} {i : IntKind} {y : V} {l : List V} {x : Operand} {Q : V × St → Prop} (hu : P.underlying t = some (.slice el)) (hi : infoOk P el z = true) (h : OwnRow b st y z n l) (hv : opv e x = some (.int i (k : Int))) (hk : k ≤ n)
    (hQ : ∀ y', RdRow st y' z k (l.take (k * z)) → (∀ q o l z, y' = .sg q o l z → ∃ o l, y = .sg q o l z) → Q (y', st)) : Gd (sliceK P c e st t y none (some x)) Q := by
  have hz := infoOk_pos hi
  obtain ⟨h1, h2⟩ := h
  have hle : k * z ≤ n * z := Nat.mul_le_mul_right z hk
  unfold sliceK
  rcases h2 with ⟨rfl, rfl⟩ | ⟨m, ty, tr, rfl, h3, h4, h5, h6, h7⟩
  · obtain rfl : k = 0 := by omega
    rw [sliceE_nil_hi hu hi hv]
    exact ⟨_, rfl, hQ _ ⟨by simp, .inl ⟨.inl rfl, rfl⟩⟩ (fun q o l z e => by cases e)⟩
  · rw [sliceE_hi hu hi hv _ _ _ hk]
    refine ⟨_, rfl, hQ _ ⟨by rw [List.length_take]; omega, .inr (.inr ⟨m, 0, ty, n * z, tr, rfl, h4, h5, by omega, fun j v hj => ?_⟩)⟩ (fun q o l z e => ?_)⟩
    · rw [Nat.zero_add]
      rw [List.getElem?_take] at hj
      split at hj
      · exact h7 j v hj
      · cases hj
    · injection e with e1 e2 e3 e4
      subst e1 e4
      exact ⟨_, _, rfl⟩
/-- the last ones of a row -/
theorem Gd_slice_lo {b t el z n k : Nat} {i : IntKind} {y : V} {l : List V} {x : Operand} {Q : V × St → Prop} (hu : P.underlying t = some (.slice el)) (hi : infoOk P el z = true) (h : OwnRow b st y z n l) (hv : opv e x = some (.int i (k : Int))) (hk : k ≤ n)
    (hQ : ∀ y', RdRow st y' z (n - k) (l.drop (k * z)) → (∀ q o l z, y' = .sg q o l z → ∃ o l, y = .sg q o l z) → Q (y', st)) : Gd (sliceK P c e st t y (some x) none) Q := by
  have hz := infoOk_pos hi
  obtain ⟨h1, h2⟩ := h
  have hle : k * z ≤ n * z := Nat.mul_le_mul_right z hk
  have hsub : (n - k) * z = n * z - k * z := Nat.sub_mul ..
  unfold sliceK
  rcases h2 with ⟨rfl, rfl⟩ | ⟨m, ty, tr, rfl, h3, h4, h5, h6, h7⟩
  · obtain rfl : k = 0 := by omega
    rw [sliceE_nil_lo hu hi hv]
    exact ⟨_, rfl, hQ _ ⟨by rw [List.length_drop]; omega, .inl ⟨.inl rfl, rfl⟩⟩ (fun q o l z e => by cases e)⟩
  · rw [sliceE_lo hu hi hv _ _ _ hk]
    by_cases hkn : k = n ∧ k ≠ 0
    · rw [if_pos hkn]
      obtain ⟨rfl, _⟩ := hkn
      exact ⟨_, rfl, hQ _ ⟨by rw [List.length_drop]; omega, .inl ⟨.inr rfl, by omega⟩⟩ (fun q o l z e => by cases e)⟩
    · rw [if_neg hkn]
      refine ⟨_, rfl, hQ _ ⟨by rw [List.length_drop]; omega, .inr (.inr ⟨m, 0 + k * z, ty, n * z, tr, rfl, h4, h5, by omega, fun j v hj => ?_⟩)⟩ (fun q o l z e => ?_)⟩
      · rw [List.getElem?_drop] at hj
        rw [Nat.zero_add]
        exact h7 _ v hj
      · injection e with e1 e2 e3 e4
        subst e1 e4
        exact ⟨_, _, rfl⟩
def cutV (y : V) (k : Nat) : V := match y with
  | .sg q o _ z => .sg q o k z
  | y => y
theorem OwnRow.cut {b z n k : Nat} {y : V} {l : List V} (h : OwnRow b st y z n l) (hk : k ≤ n) : RdRow st (cutV y k) z k (l.take (k * z)) := by
  obtain ⟨h1, h2⟩ := h
  have hle : k * z ≤ n * z := Nat.mul_le_mul_right z hk
  refine ⟨by rw [List.length_take]; omega, ?_⟩
  rcases h2 with ⟨rfl, rfl⟩ | ⟨m, ty, tr, rfl, h3, h4, h5, h6, h7⟩
  · exact .inl ⟨.inl rfl, by omega⟩
  · refine .inr (.inr ⟨m, 0, ty, n * z, tr, rfl, h4, h5, by omega, fun j v hj => ?_⟩)
    rw [Nat.zero_add]
    rw [List.getElem?_take] at hj
    split at hj
    · exact h7 j v hj
    · cases hj
theorem Gd_cut {b t el z n k : Nat} {i : IntKind} {y : V} {l : List V} {x : Operand} {Q : V × St → Prop} (hu : P.underlying t = some (.slice el)) (hi : infoOk P el z = true) (h : OwnRow b st y z n l) (hv : opv e x = some (.int i (k : Int))) (hk : k ≤ n) (hQ : Q (cutV y k, st)) : Gd (sliceK P c e st t y none (some x)) Q := by
  obtain ⟨h1, h2⟩ := h
  unfold sliceK
  rcases h2 with ⟨rfl, rfl⟩ | ⟨m, ty, tr, rfl, _⟩
  · obtain rfl : k = 0 := by omega
    rw [sliceE_nil_hi hu hi hv]
    exact ⟨_, rfl, hQ⟩
  · rw [sliceE_hi hu hi hv _ _ _ hk]
    exact ⟨_, rfl, hQ⟩
theorem RdRow.firsts {wb nt z n : Nat} {x : V} {l : List V} (h : RdRow st x z n l) (k : List V → Option β) : firsts ⟨false, [], wb, nt⟩ st z n x k = k l := by
  obtain ⟨h1, h2⟩ := h
  rcases h2 with ⟨hx, rfl⟩ | ⟨m, o, q, ty, sz, t, rfl, _, h4, _, h6⟩ | ⟨m, o, ty, sz, t, rfl, _, h4, _, h6⟩
  · have hl : l = [] := List.eq_nil_of_length_eq_zero (by rw [h1]; simp)
    subst hl
    rcases hx with rfl | rfl <;> rfl
  · rw [firsts_sl, if_pos (Nat.le_refl _), getC_eq, h4]
    simp only [ok_top, inF_nil, Bool.not_false, cond_true, Option.bind_some, csK_cs]
    rw [← h1]
    exact getsB_list h6 k
  · have e1 : Ev.firsts ⟨false, [], wb, nt⟩ st z n (.sg m o n z) k = (match Nat.ble n n with | true => getC ⟨false, [], wb, nt⟩ st m fun t => getsB t (n * z) o k | false => none) := rfl
    have e2 : Nat.ble n n = true := by rw [Nat.ble_eq]; exact Nat.le_refl _
    rw [e1, e2]
    simp only
    rw [getC_eq, h4]
    simp only [ok_top, inF_nil, Bool.not_false, cond_true, Option.bind_some, csK_cs]
    rw [← h1]
    exact getsB_list h6 k
theorem RdRow.notS {z n : Nat} {x : V} {l : List V} (h : RdRow st x z n l) (s : List Nat) : x ≠ .s s := fun e => by
  subst e
  obtain ⟨_, h2⟩ := h
  rcases h2 with ⟨hx | hx, _⟩ | ⟨m, o, q, ty, sz, t, hx, _⟩ | ⟨m, o, ty, sz, t, hx, _⟩ <;> cases hx
end
end Go.Proofs.Ytenncnbaoejekaa.Ev

/-
  PLAIN: rows that are made; a row of words that is all its block's: written, cut.
-/
import Derived.Test.YtcjddojcfdeflaaRb
set_option linter.unusedSimpArgs false
namespace Go.Proofs.Ytcjddojcfdeflaa
open Go.RowKit Ev
theorem Gd_make {P : Program} {c : Cx} {e : Env} {st : St} {F : CallF} {d : Option Nat} {t ty el z n q : Nat} {p : String} {af : Array Edge} {g : Option (Nat × Bool)} {l cp : Operand} {i i' : IntKind} {zs : List V} {Q : V × St → Prop}
    (hu : ∀ k : TypeId → Nat → Res, Ev.elemOf P t k = k el z) (hi : infoOk P el z = true) (hz : ∀ k : List V → Res, zero P el k = k zs) (hl : opv e l = some (.int i (n : Int))) (hc : opv e cp = some (.int i' (q : Int))) (h1 : n ≤ q) (h2 : q ≤ 1073741824)
    (hQ : Q (.sl st.nx 0 n q, ⟨st.nx + 1, st.h.set st.nx (.cs el (rep zs q).length (sets (rep zs q) 0 .lf))⟩)) : Gd (evOp P F c e st ⟨d, .makeSlice t l cp, ty, p, af, g⟩) Q := by
  have e1 : evOp P F c e st ⟨d, .makeSlice t l cp, ty, p, af, g⟩ = opd e l fun l => opd e cp fun cp => asNat l fun l => asNat cp fun cp => Ev.elemOf P t fun el _ => (match Nat.ble l cp, small P el cp with
    | true, true => zero P el fun z => newC st el (rep z cp) fun n st => some (.sl n 0 l cp, st)
    | _, _ => none) := rfl
  have b1 : Nat.ble n q = true := by rw [Nat.ble_eq]; exact h1
  have b2 : small P el q = true := infoOk_small hi h2
  rw [e1, opd_bind, show opd e l some = opv e l from rfl, hl]
  simp only [Option.bind_some]
  rw [opd_bind, show opd e cp some = opv e cp from rfl, hc]
  simp only [Option.bind_some, asNat_cast, hu, b1, b2, hz, newC_is]
  exact ⟨_, rfl, hQ⟩
/-- a row of words that was made: all its block -/
def SlRow (b : Nat) (st : St) (x : V) (n : Nat) (L : List (BitVec 64)) : Prop := L.length = n ∧ ∃ m ty t, x = .sl m 0 n n ∧ b ≤ m ∧ m < st.nx ∧ st.h.get m = some (.cs ty n t) ∧ ty ≠ roT ∧ ∀ j v, L[j]? = some v → t.get j = some (wd v)
theorem SlRow.app {b n : Nat} {st : St} {x : V} {L : List (BitVec 64)} (h : SlRow b st x n L) : AppRow b st x 1 n (wv L) := by
  obtain ⟨h1, m, ty, t, rfl, h2, h3, h4, h5, h6⟩ := h
  refine .inr ⟨by simp [h1], m, ty, t, rfl, h2, h3, by rw [Nat.mul_one]; exact h4, h5, fun j v hj => ?_⟩
  unfold wv at hj
  rw [List.getElem?_map] at hj
  cases hq : L[j]? with
  | none => rw [hq] at hj; cases hj
  | some w => rw [hq] at hj; injection hj with hj; subst hj; exact h6 j w hq
theorem SlRow.rd {b n : Nat} {st : St} {x : V} {L : List (BitVec 64)} (h : SlRow b st x n L) : RdRow st x 1 n (wv L) := h.app.rd
theorem SlRow.ext {b n : Nat} {st st' : St} {x : V} {L : List (BitVec 64)} (h : SlRow b st x n L) (k : Ext st.nx st st') : SlRow b st' x n L := by
  obtain ⟨h1, m, ty, t, rfl, h2, h3, h4, h5⟩ := h
  exact ⟨h1, m, ty, t, rfl, h2, Nat.lt_of_lt_of_le h3 k.le, (k.keep _ h3).trans h4, h5⟩
theorem SlRow.put {b n i : Nat} {st : St} {x : V} {L : List (BitVec 64)} (h : SlRow b st x n L) (hi : i < n) : ∃ m ty t, x = .sl m 0 n n ∧ b ≤ m ∧ m < st.nx ∧ st.h.get m = some (.cs ty n t) ∧ ty ≠ roT ∧ (∀ j v, L[j]? = some v → t.get j = some (wd v)) ∧
    ∀ v, SlRow b ⟨st.nx, st.h.set m (.cs ty n (t.set i (wd v)))⟩ x n (L.set i v) := by
  obtain ⟨h1, m, ty, t, rfl, h2, h3, h4, h5, h6⟩ := h
  refine ⟨m, ty, t, rfl, h2, h3, h4, h5, h6, fun v => ⟨by simp [h1], m, ty, t.set i (wd v), rfl, h2, h3, by simp, h5, fun j w hj => ?_⟩⟩
  rw [T.get_set]
  by_cases hij : i = j
  · subst hij
    rw [List.getElem?_set_self (by omega)] at hj
    injection hj with hj; subst hj
    rw [if_pos rfl]
  · rw [List.getElem?_set_ne hij] at hj
    rw [if_neg hij]
    exact h6 j w hj
theorem rep_one (z : V) : ∀ n, rep [z] n = List.replicate n z
  | 0 => rfl
  | n + 1 => by show [z] ++ rep [z] n = _; rw [rep_one z n]; rfl
theorem SlRow.made {b n : Nat} {st : St} {el : TypeId} (hb : b ≤ st.nx) (hel : el ≠ roT) : SlRow b ⟨st.nx + 1, st.h.set st.nx (.cs el (rep [V.int .u64 0] n).length (sets (rep [V.int .u64 0] n) 0 .lf))⟩ (.sl st.nx 0 n n) n (List.replicate n 0#64) := by
  have hl : (rep [V.int .u64 0] n).length = n := by rw [rep_one]; simp
  refine ⟨by simp, st.nx, el, sets (rep [V.int .u64 0] n) 0 .lf, rfl, hb, Nat.lt_succ_self _, ?_, hel, fun j v hj => ?_⟩
  · rw [hl]; exact T.get_set_same _ _ _
  · have hjn : j < n := by have := lt_of_get hj; simpa using this
    rw [List.getElem?_replicate, if_pos hjn] at hj
    injection hj with hj; subst hj
    rw [get_sets, if_pos ⟨Nat.zero_le _, by rw [hl]; omega⟩, rep_one, Nat.sub_zero, List.getElem?_replicate, if_pos hjn]
    rfl
section
variable {P : Program} {c : Cx} {e : Env} {st : St}
theorem sliceE_hiS {t el z : Nat} (hu : P.underlying t = some (.slice el)) (hi : infoOk P el z = true) {x : Operand} {k : Nat} {i : IntKind} (hv : opv e x = some (.int i (k : Int))) (q o n cp : Nat) (hk : k ≤ cp) (kk : V → Res) : sliceE P e t (.sl q o n cp) none (some x) kk = kk (.sl q o k cp) := by
  have hopd : ∀ f : V → Res, opd e x f = f (.int i (k : Int)) := fun f => by
    have : opd e x f = (opv e x).bind f := by rw [opd_bind]; rfl
    rw [this, hv]; rfl
  unfold sliceE
  rw [hu]
  simp only [infoOk_sz hi]
  have h1 : ∀ f : Nat → Res, bnd e n (some x) f = f k := fun f => by
    show opd e x (fun v => asNat v f) = f k
    rw [hopd]; rfl
  have h2 : ∀ f : Nat → Res, bnd e 0 none f = f 0 := fun f => rfl
  rw [h1, h2]
  have b1 : Nat.ble 0 k = true := by rw [Nat.ble_eq]; omega
  have b2 : Nat.ble k cp = true := by rw [Nat.ble_eq]; exact hk
  simp only [b1, b2, fn_eq]
  cases Nat.beq cp 0 <;> simp
theorem sliceE_loS {t el z : Nat} (hu : P.underlying t = some (.slice el)) (hi : infoOk P el z = true) {x : Operand} {k : Nat} {i : IntKind} (hv : opv e x = some (.int i (k : Int))) (q o n cp : Nat) (hk : k ≤ n) (hn : n ≤ cp) (hlt : k < cp) (kk : V → Res) : sliceE P e t (.sl q o n cp) (some x) none kk = kk (.sl q (o + k * z) (n - k) (cp - k)) := by
  have hopd : ∀ f : V → Res, opd e x f = f (.int i (k : Int)) := fun f => by
    have : opd e x f = (opv e x).bind f := by rw [opd_bind]; rfl
    rw [this, hv]; rfl
  unfold sliceE
  rw [hu]
  simp only [infoOk_sz hi]
  have h1 : ∀ f : Nat → Res, bnd e n none f = f n := fun f => rfl
  have h2 : ∀ f : Nat → Res, bnd e 0 (some x) f = f k := fun f => by
    show opd e x (fun v => asNat v f) = f k
    rw [hopd]; rfl
  rw [h1, h2]
  have b1 : Nat.ble k n = true := by rw [Nat.ble_eq]; exact hk
  have b2 : Nat.ble n cp = true := by rw [Nat.ble_eq]; exact hn
  have b3 : Nat.beq cp k = false := by
    rw [Bool.eq_false_iff]
    intro h
    have := Nat.eq_of_beq_eq_true h
    omega
  simp only [b1, b2, b3, fn_eq]
/-- the first k of a made row -/
theorem Gd_headS {b t el n k : Nat} {i : IntKind} {y : V} {L : List (BitVec 64)} {x : Operand} {Q : V × St → Prop} (hu : P.underlying t = some (.slice el)) (hi : infoOk P el 1 = true) (h : SlRow b st y n L) (hv : opv e x = some (.int i (k : Int))) (hk : k ≤ n)
    (hQ : ∀ v, RdRow st v 1 k (wv (L.take k)) → Q (v, st)) : Gd (sliceK P c e st t y none (some x)) Q := by
  have hr := h.rd
  obtain ⟨h1, m, ty, tr, rfl, h2, h3, h4, h5, h6⟩ := h
  unfold sliceK
  have := sliceE_hiS (P := P) hu hi hv m 0 n n hk (fun a => some (a, st))
  rw [this]
  refine ⟨_, rfl, hQ _ ⟨by simp [h1]; omega, .inr (.inl ⟨m, 0, n, ty, n, tr, rfl, h3, h4, by omega, fun j v hj => ?_⟩)⟩⟩
  unfold wv at hj
  rw [List.getElem?_map] at hj
  cases hq : (L.take k)[j]? with
  | none => rw [hq] at hj; cases hj
  | some w =>
    rw [hq] at hj; injection hj with hj; subst hj
    rw [Nat.zero_add]
    have hjk : j < k := by have := lt_of_get hq; simp at this; omega
    rw [List.getElem?_take, if_pos hjk] at hq
    exact h6 j w hq
/-- what is behind the first k of a made row -/
theorem Gd_tailS {b t el n k : Nat} {i : IntKind} {y : V} {L : List (BitVec 64)} {x : Operand} {Q : V × St → Prop} (hu : P.underlying t = some (.slice el)) (hi : infoOk P el 1 = true) (h : SlRow b st y n L) (hv : opv e x = some (.int i (k : Int))) (hk : k < n)
    (hQ : ∀ v, RdRow st v 1 (n - k) (wv (L.drop k)) → Q (v, st)) : Gd (sliceK P c e st t y (some x) none) Q := by
  obtain ⟨h1, m, ty, tr, rfl, h2, h3, h4, h5, h6⟩ := h
  unfold sliceK
  have := sliceE_loS (P := P) hu hi hv m 0 n n (by omega) (Nat.le_refl _) hk (fun a => some (a, st))
  rw [this]
  refine ⟨_, rfl, hQ _ ⟨by simp [h1], .inr (.inl ⟨m, 0 + k * 1, n - k, ty, n, tr, rfl, h3, h4, by omega, fun j v hj => ?_⟩)⟩⟩
  unfold wv at hj
  rw [List.getElem?_map] at hj
  cases hq : (L.drop k)[j]? with
  | none => rw [hq] at hj; cases hj
  | some w =>
    rw [hq] at hj; injection hj with hj; subst hj
    rw [List.getElem?_drop] at hq
    have := h6 _ w hq
    rw [show 0 + k * 1 + j = k + j by omega]
    exact this
end
end Go.Proofs.Ytcjddojcfdeflaa

/-
  PLAIN: the middle of a row.
-/
import Derived.Test.YtcjddojcfdeflaaSc
set_option linter.unusedSimpArgs false
namespace Go.Proofs.Ytcjddojcfdeflaa
open Go.RowKit Ev
def CapOk (x : V) : Prop := ∀ m o l q, x = .sl m o l q → l ≤ q
section
variable {P : Program} {c : Cx} {e : Env} {st : St}
theorem bnd_at {n k : Nat} {i : IntKind} {x : Operand} (hv : opv e x = some (.int i (k : Int))) (f : Nat → Res) : bnd e n (some x) f = f k := by
  have hopd : ∀ f : V → Res, opd e x f = f (.int i (k : Int)) := fun f => by
    have : opd e x f = (opv e x).bind f := by rw [opd_bind]; rfl
    rw [this, hv]; rfl
  show opd e x (fun v => asNat v f) = f k
  rw [hopd]; rfl
theorem sliceE_midS {t el z : Nat} (hu : P.underlying t = some (.slice el)) (hi : infoOk P el z = true) {x x2 : Operand} {k k2 : Nat} {i i2 : IntKind} (hv : opv e x = some (.int i (k : Int))) (hv2 : opv e x2 = some (.int i2 (k2 : Int))) (q o n cp : Nat) (hk : k < k2) (hk2 : k2 ≤ cp) (kk : V → Res) : sliceE P e t (.sl q o n cp) (some x) (some x2) kk = kk (.sl q (o + k * z) (k2 - k) (cp - k)) := by
  unfold sliceE
  rw [hu]
  simp only [infoOk_sz hi]
  rw [bnd_at hv2, bnd_at hv]
  have b1 : Nat.ble k k2 = true := by rw [Nat.ble_eq]; omega
  have b2 : Nat.ble k2 cp = true := by rw [Nat.ble_eq]; exact hk2
  have b3 : Nat.beq cp k = false := by
    rw [Bool.eq_false_iff]
    intro h
    have := Nat.eq_of_beq_eq_true h
    omega
  simp only [b1, b2, b3, fn_eq]
theorem sliceE_midG {t el z : Nat} (hu : P.underlying t = some (.slice el)) (hi : infoOk P el z = true) {x x2 : Operand} {k k2 : Nat} {i i2 : IntKind} (hv : opv e x = some (.int i (k : Int))) (hv2 : opv e x2 = some (.int i2 (k2 : Int))) (q o n : Nat) (hk : k < k2) (hk2 : k2 ≤ n) (kk : V → Res) : sliceE P e t (.sg q o n z) (some x) (some x2) kk = kk (.sg q (o + k * z) (k2 - k) z) := by
  unfold sliceE
  rw [hu]
  simp only [infoOk_sz hi]
  rw [bnd_at hv2, bnd_at hv]
  have b1 : Nat.ble k k2 = true := by rw [Nat.ble_eq]; omega
  have b2 : Nat.ble k2 n = true := by rw [Nat.ble_eq]; exact hk2
  have b4 : Nat.beq z z = true := by simp
  have b3 : Nat.beq k k2 = false := by
    rw [Bool.eq_false_iff]
    intro h
    have := Nat.eq_of_beq_eq_true h
    omega
  simp only [b1, b2, b3, b4, fn_eq, Bool.false_and]
/-- some of a row -/
theorem Gd_midR {t el n k k2 : Nat} {i i2 : IntKind} {y : V} {L : List (BitVec 64)} {x x2 : Operand} {Q : V × St → Prop} (hu : P.underlying t = some (.slice el)) (hi : infoOk P el 1 = true) (h : RdRow st y 1 n (wv L)) (hcap : CapOk y) (hv : opv e x = some (.int i (k : Int))) (hv2 : opv e x2 = some (.int i2 (k2 : Int))) (hk : k < k2) (hk2 : k2 ≤ n)
    (hQ : ∀ v, (∀ s, RdRow s y 1 n (wv L) → RdRow s v 1 (k2 - k) (wv ((L.drop k).take (k2 - k)))) → Q (v, st)) : Gd (sliceK P c e st t y (some x) (some x2)) Q := by
  have hwt : wv ((L.drop k).take (k2 - k)) = ((wv L).drop k).take (k2 - k) := by unfold wv; rw [List.map_take, List.map_drop]
  have hL : L.length = n := by have := h.1; simpa using this
  have hlen : (wv ((L.drop k).take (k2 - k))).length = (k2 - k) * 1 := by simp; omega
  have get : ∀ j v, (wv ((L.drop k).take (k2 - k)))[j]? = some v → (wv L)[k + j]? = some v := fun j v hj => by
    have hjk : j < k2 - k := by have := lt_of_get hj; omega
    rw [hwt, List.getElem?_take, if_pos hjk, List.getElem?_drop] at hj
    exact hj
  unfold sliceK
  rcases h.2 with ⟨_, rfl⟩ | ⟨m, o, q, ty, sz, tr, rfl, h3, h4, h5, h6⟩ | ⟨m, o, ty, sz, tr, rfl, h3, h4, h5, h6⟩
  · omega
  · have hq := hcap m o n q rfl
    rw [sliceE_midS hu hi hv hv2 m o n q hk (by omega) (fun a => some (a, st))]
    refine ⟨_, rfl, hQ _ fun s hs => ?_⟩
    rcases hs.2 with ⟨e, _⟩ | ⟨m', o', q', ty', sz', tr', e, h3', h4', h5', h6'⟩ | ⟨m', o', ty', sz', tr', e, h3', h4', h5', h6'⟩
    · omega
    · injection e with e1 e2 e3 e4
      subst e1 e2 e4
      exact ⟨hlen, .inr (.inl ⟨m, o + k * 1, q - k, ty', sz', tr', rfl, h3', h4', by omega, fun j v hj => by rw [show o + k * 1 + j = o + (k + j) by omega]; exact h6' _ v (get j v hj)⟩)⟩
    · cases e
  · rw [sliceE_midG hu hi hv hv2 m o n hk hk2 (fun a => some (a, st))]
    refine ⟨_, rfl, hQ _ fun s hs => ?_⟩
    rcases hs.2 with ⟨e, _⟩ | ⟨m', o', q', ty', sz', tr', e, h3', h4', h5', h6'⟩ | ⟨m', o', ty', sz', tr', e, h3', h4', h5', h6'⟩
    · omega
    · cases e
    · injection e with e1 e2 e3 e4
      subst e1 e2
      exact ⟨hlen, .inr (.inr ⟨m, o + k * 1, ty', sz', tr', rfl, h3', h4', by omega, fun j v hj => by rw [show o + k * 1 + j = o + (k + j) by omega]; exact h6' _ v (get j v hj)⟩)⟩
theorem sliceE_hiZ {t el z : Nat} (hu : P.underlying t = some (.slice el)) (hi : infoOk P el z = true) {x : Operand} {k : Nat} {i : IntKind} (hv : opv e x = some (.int i (k : Int))) (q o n : Nat) (hk : k ≤ n) (kk : V → Res) : sliceE P e t (.sg q o n z) none (some x) kk = kk (.sg q (o + 0 * z) k z) := by
  unfold sliceE
  rw [hu]
  simp only [infoOk_sz hi]
  have h2 : ∀ f : Nat → Res, bnd e 0 none f = f 0 := fun f => rfl
  rw [bnd_at hv, h2]
  have b1 : Nat.ble 0 k = true := by rw [Nat.ble_eq]; omega
  have b2 : Nat.ble k n = true := by rw [Nat.ble_eq]; exact hk
  have b4 : Nat.beq z z = true := by simp
  have b3 : (Nat.beq 0 k && !Nat.beq 0 0) = false := by simp
  simp only [b1, b2, b3, b4, fn_eq]
  rfl
/-- the first of a row, of any cells; perhaps none -/
theorem Gd_headZ {t el z n k : Nat} {i : IntKind} {y : V} {l : List V} {x : Operand} {Q : V × St → Prop} (hu : P.underlying t = some (.slice el)) (hi : infoOk P el z = true) (h : RdRow st y z n l) (hcap : CapOk y) (hv : opv e x = some (.int i (k : Int))) (hk : k < n)
    (hQ : ∀ v, (∀ s, RdRow s y z n l → RdRow s v z k (l.take (k * z))) → Q (v, st)) : Gd (sliceK P c e st t y none (some x)) Q := by
  have hle : k * z ≤ n * z := Nat.mul_le_mul_right z (by omega)
  have hlen : (l.take (k * z)).length = k * z := by rw [List.length_take, h.1]; omega
  have get : ∀ j v, (l.take (k * z))[j]? = some v → l[j]? = some v := fun j v hj => by
    have hjk : j < k * z := by have := lt_of_get hj; omega
    rw [List.getElem?_take, if_pos hjk] at hj
    exact hj
  unfold sliceK
  rcases h.2 with ⟨_, rfl⟩ | ⟨m, o, q, ty, sz, tr, rfl, h3, h4, h5, h6⟩ | ⟨m, o, ty, sz, tr, rfl, h3, h4, h5, h6⟩
  · omega
  · have hq := hcap m o n q rfl
    rw [sliceE_hiS hu hi hv m o n q (by omega) (fun a => some (a, st))]
    refine ⟨_, rfl, hQ _ fun s hs => ?_⟩
    rcases hs.2 with ⟨e, _⟩ | ⟨m', o', q', ty', sz', tr', e, h3', h4', h5', h6'⟩ | ⟨m', o', ty', sz', tr', e, h3', h4', h5', h6'⟩
    · omega
    · injection e with e1 e2 e3 e4
      subst e1 e2 e4
      exact ⟨hlen, .inr (.inl ⟨m, o, q, ty', sz', tr', rfl, h3', h4', by omega, fun j v hj => h6' _ v (get j v hj)⟩)⟩
    · cases e
  · rw [sliceE_hiZ hu hi hv m o n (by omega) (fun a => some (a, st))]
    refine ⟨_, rfl, hQ _ fun s hs => ?_⟩
    rcases hs.2 with ⟨e, _⟩ | ⟨m', o', q', ty', sz', tr', e, h3', h4', h5', h6'⟩ | ⟨m', o', ty', sz', tr', e, h3', h4', h5', h6'⟩
    · omega
    · cases e
    · injection e with e1 e2 e3 e4
      subst e1 e2
      exact ⟨hlen, .inr (.inr ⟨m, o + 0 * z, ty', sz', tr', rfl, h3', h4', by omega, fun j v hj => by rw [Nat.zero_mul, Nat.add_zero]; exact h6' _ v (get j v hj)⟩)⟩
end
end Go.Proofs.Ytcjddojcfdeflaa

/-
  PLAIN: rows built of words; appends to them.
-/
import Derived.Test.YtcjddojcfdeflaaSb
set_option linter.unusedSimpArgs false
namespace Go.Proofs.Ytcjddojcfdeflaa
open Go.RowKit Ev
def ixs : Nat → List Operand → List (Nat × Operand)
  | _, [] => []
  | k, x :: xs => (k, x) :: ixs (k + 1) xs
theorem partsK_ixs {β : Type} {kk : List V → Option β} : ∀ (xs : List Operand) (vs : List V) (k : Nat) (t : List V), xs.length = vs.length → (∀ v ∈ vs, v.one = true) → t.length = k + vs.length → partsK (fun i => some (i * 1, 1)) (ixs k xs) vs t kk = kk (t.take k ++ vs)
  | [], [], k, t, _, _, ht => by
    rw [show ixs k [] = [] from rfl, partsK_nil, List.append_nil, List.take_of_length_le (by simp at ht; omega)]
  | x :: xs, v :: vs, k, t, hl, ho, ht => by
    have hk : k < t.length := by rw [ht]; simp
    rw [show ixs k (x :: xs) = (k, x) :: ixs (k + 1) xs from rfl, partsK_one (off := k) (by simp) (ho v (by simp)) hk, partsK_ixs xs vs (k + 1) _ (by simpa using hl) (fun w hw => ho w (by simp [hw])) (by simp [ht]; omega)]
    congr 1
    rw [List.take_add_one, List.take_set, List.set_eq_of_length_le (by simp; omega), List.getElem?_set_self hk]
    simp
  | [], _ :: _, _, _, h, _, _ => by simp at h
  | _ :: _, [], _, _, h, _, _ => by simp at h
theorem Gd_buildW {P : Program} {c : Cx} {e : Env} {st : St} {F : CallF} {d : Option Nat} {t ty el len : Nat} {p : String} {af : Array Edge} {g : Option (Nat × Bool)} {parts : Array (Nat × Operand)} {vs : List V} {z0 : V} {Q : V × St → Prop}
    (hu : ∀ k : TypeId → Nat → Res, Ev.elemOf P t k = k el 1) (hz : ∀ k : List V → Res, zero P el k = k [z0]) (hp : parts.toList = ixs 0 (parts.toList.map fun x => x.2)) (hv : opvs e (parts.toList.map fun x => x.2) = some vs) (hone : ∀ v ∈ vs, v.one = true)
    (hl : parts.toList.length = vs.length) (hn : vs.length = len) (hmax : len ≤ 16777216) (hQ : Q (.sl st.nx 0 len len, ⟨st.nx + 1, st.h.set st.nx (.cs el len (sets vs 0 .lf))⟩)) : Gd (evOp P F c e st ⟨d, .buildSlice t len parts, ty, p, af, g⟩) Q := by
  have h1 : evOp P F c e st ⟨d, .buildSlice t len parts, ty, p, af, g⟩ = Ev.elemOf P t fun el z => zero P el fun zs => opds e (parts.toList.map fun x => x.2) fun vs => (match Nat.beq zs.length z, Nat.ble (len * z) 16777216 with
    | true, true => partsK (fun i => some (i * z, z)) parts.toList vs (rep zs len) fun l => newC st el l fun n st => (some (.sl n 0 len len, st) : Res)
    | _, _ => none) := rfl
  have hv' : ∀ k : List V → Res, opds e (parts.toList.map fun x => x.2) k = k vs := fun k => by
    have h : opds e (parts.toList.map fun x => x.2) some = some vs := hv
    rw [opds_bind, h]; rfl
  rw [h1, hu, hz, hv']
  have b1 : Nat.beq [z0].length 1 = true := rfl
  have b2 : Nat.ble (len * 1) 16777216 = true := by rw [Nat.ble_eq]; omega
  simp only [b1, b2]
  have hrep : ∀ n, (rep [z0] n).length = n := fun n => by
    induction n with
    | zero => rfl
    | succ n ih => show ([z0] ++ rep [z0] n).length = _; simp [ih]
  rw [hp, partsK_ixs _ vs 0 _ (by simpa using hl) hone (by rw [hrep]; omega), List.take_zero, List.nil_append, newC_is, hn]
  exact ⟨_, rfl, hQ⟩
/-- a row of one's own that is all its block's, whichever way it was made -/
def AppRow (b : Nat) (st : St) (x : V) (z n : Nat) (l : List V) : Prop := OwnRow b st x z n l ∨ (l.length = n * z ∧ ∃ m ty t, x = .sl m 0 n n ∧ b ≤ m ∧ m < st.nx ∧ st.h.get m = some (.cs ty (n * z) t) ∧ ty ≠ roT ∧ ∀ j v, l[j]? = some v → t.get j = some v)
theorem AppRow.rd {b : Nat} {st : St} {x : V} {z n : Nat} {l : List V} (h : AppRow b st x z n l) : RdRow st x z n l := by
  rcases h with h | ⟨h1, m, ty, t, rfl, _, h3, h4, _, h5⟩
  · exact h.rd
  · exact ⟨h1, .inr (.inl ⟨m, 0, n, ty, _, t, rfl, h3, h4, by omega, fun j v hj => by rw [Nat.zero_add]; exact h5 j v hj⟩)⟩
theorem AppRow.ext {b : Nat} {st st' : St} {x : V} {z n : Nat} {l : List V} (h : AppRow b st x z n l) (k : Ext st.nx st st') : AppRow b st' x z n l := by
  rcases h with h | ⟨h1, m, ty, t, rfl, h2, h3, h4, h5⟩
  · exact .inl (h.ext k)
  · exact .inr ⟨h1, m, ty, t, rfl, h2, Nat.lt_of_lt_of_le h3 k.le, (k.keep _ h3).trans h4, h5⟩
theorem AppRow.from {b : Nat} {st : St} {x : V} {z n : Nat} {l : List V} (h : AppRow b st x z n l) : RowFrom b x := by
  rcases h with ⟨_, h | ⟨m, ty, t, rfl, h2, _⟩⟩ | ⟨_, m, ty, t, rfl, h2, _⟩
  · obtain ⟨rfl, _⟩ := h
    exact ⟨fun _ _ _ _ e => (by cases e), fun _ _ _ _ e => by cases e⟩
  · exact ⟨fun _ _ _ _ e => (by cases e; exact h2), fun _ _ _ _ e => by cases e⟩
  · exact ⟨fun _ _ _ _ e => (by cases e), fun _ _ _ _ e => (by cases e; exact h2)⟩
theorem AppRow.built {b n : Nat} {st : St} {el : TypeId} {vs : List V} (hb : b ≤ st.nx) (hel : el ≠ roT) (hn : vs.length = n) : AppRow b ⟨st.nx + 1, st.h.set st.nx (.cs el n (sets vs 0 .lf))⟩ (.sl st.nx 0 n n) 1 n vs := by
  refine .inr ⟨by omega, st.nx, el, sets vs 0 .lf, rfl, hb, Nat.lt_succ_self _, by rw [Nat.mul_one]; exact T.get_set_same _ _ _, hel, fun j v hj => ?_⟩
  have := lt_of_get hj
  rw [get_sets, if_pos ⟨Nat.zero_le _, by omega⟩]
  simpa using hj
theorem Gd_appendA {P : Program} {st : St} {b t t' el el' z n lx nt : Nat} {s x : V} {l new : List V} {Q : V × St → Prop} (hu : P.underlying t = some (.slice el)) (hk : P.underlying t' = some (.slice el')) (hi : infoOk P el z = true)
    (h : AppRow b st s z n l) (hb : b ≤ st.nx) (hel : el ≠ roT) (hx : ∀ s', x ≠ .s s') (hl : ∀ k : Nat → Res, lenA x k = k lx) (hf : ∀ k : List V → Res, firsts ⟨false, [], 0, nt⟩ st z lx x k = k new) (hn : new.length = lx * z) (hmax : n + lx ≤ 1073741824) (hpos : 0 < lx)
    (hQ : ∀ s' st', OwnRow b st' s' z (n + lx) (l ++ new) → Ext b st st' → Q (s', st')) : Gd (builtinE P ⟨false, [], 0, nt⟩ .append [t, t'] [s, x] st) Q := by
  rcases h with h | ⟨h1, m, ty, tr, rfl, h2, h3, h4, h5, h6⟩
  · exact Gd_append hu hk hi h hb hel hx hl hf hn hmax fun s' st' a b _ _ => hQ s' st' a b
  · have hr : RdRow st (.sl m 0 n n) z n l := ⟨h1, .inr (.inl ⟨m, 0, n, ty, _, tr, rfl, h3, h4, by omega, fun j v hj => by rw [Nat.zero_add]; exact h6 j v hj⟩)⟩
    have e1 : builtinE P ⟨false, [], 0, nt⟩ .append [t, t'] [.sl m 0 n n, x] st = appE ⟨false, [], 0, nt⟩ st el z n lx (.sl m 0 n n) new := by
      unfold builtinE
      simp only [elemOf_ok hu hi, lenA_sl, hk]
      cases x with
      | s s' => exact absurd rfl (hx s')
      | _ => simp only [hl, hf, infoOk_small hi hmax]
    rw [e1]
    unfold appE
    rw [fn_eq]
    have hble : Nat.ble (n + lx) n = false := by
      cases h : Nat.ble (n + lx) n with
      | false => rfl
      | true => rw [Nat.ble_eq] at h; omega
    simp only [hble]
    unfold growE
    rw [hr.firsts, newC_is]
    have hlen : (l ++ new).length = (n + lx) * z := by rw [List.length_append, h1, hn, Nat.add_mul]
    refine ⟨_, rfl, hQ _ _ ⟨hlen, .inr ⟨st.nx, el, sets (l ++ new) 0 .lf, rfl, hb, Nat.lt_succ_self _, ?_, hel, fun j v hj => ?_⟩⟩ ((Ext.refl b st).new hb _)⟩
    · rw [← hlen]; exact T.get_set_same _ _ _
    · have := lt_of_get hj
      rw [get_sets, if_pos ⟨Nat.zero_le _, by omega⟩]
      simpa using hj
/-- an element of a row of one's own is written, later -/
theorem Ev.OwnRow.put2 {b n i : Nat} {st : St} {x : V} {l : List V} (h : OwnRow b st x 1 n l) (hi : i < n) : ∃ m ty t, x = .sg m 0 n 1 ∧ b ≤ m ∧ m < st.nx ∧ st.h.get m = some (.cs ty n t) ∧ ty ≠ roT ∧ (∀ j v, l[j]? = some v → t.get j = some v) ∧
    ∀ st' : St, m < st'.nx → ∀ v, OwnRow b ⟨st'.nx, st'.h.set m (.cs ty n (t.set i v))⟩ x 1 n (l.set i v) := by
  obtain ⟨h1, h2⟩ := h
  rcases h2 with ⟨_, rfl⟩ | ⟨m, ty, t, rfl, h3, h4, h5, h6, h7⟩
  · omega
  · rw [Nat.mul_one] at h1 h5
    refine ⟨m, ty, t, rfl, h3, h4, h5, h6, h7, fun st' hm v => ⟨by simp [h1], .inr ⟨m, ty, t.set i v, rfl, h3, hm, by simp, h6, fun j w hj => ?_⟩⟩⟩
    rw [T.get_set]
    by_cases hij : i = j
    · subst hij
      rw [List.getElem?_set_self (by omega)] at hj
      injection hj with hj; subst hj
      rw [if_pos rfl]
    · rw [List.getElem?_set_ne hij] at hj
      rw [if_neg hij]
      exact h7 j w hj
end Go.Proofs.Ytcjddojcfdeflaa

/-
  PLAIN: what the evaluator's values stand for; its steps taken apart.
-/
import Derived.Test.YtenncnbaoejekaaEvB
namespace Go.Proofs.Ytenncnbaoejekaa.Ev

/-- where a name's cells stand: block, first cell, how many -/
structure R where
  block : Nat
  base : Nat
  size : Nat
abbrev Rho := Nat → Option R
def Rho.le (ρ ρ' : Rho) : Prop := ∀ n r, ρ n = some r → ρ' n = some r
theorem Rho.le_refl (ρ : Rho) : ρ.le ρ := fun _ _ h => h
theorem Rho.le.trans {a b c : Rho} (h : a.le b) (k : b.le c) : a.le c := fun n r e => k n r (h n r e)

mutual
def Rel (ρ : Rho) : V → Value → Prop
  | .c v, x => x = v ∧ v.oneCell' = true
  | .s l, x => x = .string ⟨⟨l.map UInt8.ofNat⟩⟩ ∧ ∀ b, b ∈ l → b < 256
  | .p n o, x => ∃ r, ρ n = some r ∧ x = .pointer (some ⟨r.block, r.base + o, none⟩)
  | .sl n o len cap, x => ∃ r, ρ n = some r ∧ x = .slice (some ⟨r.block, r.base + o, none⟩) len cap
  | .sg n o len z, x => ∃ r, ρ n = some r ∧ 0 < z ∧ len ≤ (r.size - o) / z ∧ x = .slice (some ⟨r.block, r.base + o, none⟩) len ((r.size - o) / z)
  | .e, x => ∃ a c, x = .slice (some a) 0 c
  | .m n, x => ∃ r, ρ n = some r ∧ x = .map (some r.block)
  | .f fn a b, x => ∃ a' b', x = .func fn ⟨a'⟩ ⟨b'⟩ ∧ RelL ρ a a' ∧ RelL ρ b b'
  | .g l, x => ∃ l', x = .agg ⟨l'⟩ ∧ RelL ρ l l' ∧ l.all V.one = true
  | .t l, x => ∃ l', x = .tuple ⟨l'⟩ ∧ RelL ρ l l'
def RelL (ρ : Rho) : List V → List Value → Prop
  | [], l => l = []
  | v :: vs, l => ∃ x xs, l = x :: xs ∧ Rel ρ v x ∧ RelL ρ vs xs
end
mutual
theorem Rel.mono {ρ ρ' : Rho} (hρ : ρ.le ρ') : ∀ (v : V) (x : Value), Rel ρ v x → Rel ρ' v x
  | .c _, _, h => by simpa [Rel] using h
  | .s _, _, h => by simpa [Rel] using h
  | .p .., _, h => by simp only [Rel] at h ⊢; obtain ⟨r, h1, h2⟩ := h; exact ⟨r, hρ _ _ h1, h2⟩
  | .sl .., _, h => by simp only [Rel] at h ⊢; obtain ⟨r, h1, h2⟩ := h; exact ⟨r, hρ _ _ h1, h2⟩
  | .sg .., _, h => by simp only [Rel] at h ⊢; obtain ⟨r, h1, h2⟩ := h; exact ⟨r, hρ _ _ h1, h2⟩
  | .e, _, h => by simpa [Rel] using h
  | .m .., _, h => by simp only [Rel] at h ⊢; obtain ⟨r, h1, h2⟩ := h; exact ⟨r, hρ _ _ h1, h2⟩
  | .f fn a b, _, h => by
    simp only [Rel] at h ⊢
    obtain ⟨a', b', h1, h2, h3⟩ := h
    exact ⟨a', b', h1, RelL.mono hρ a a' h2, RelL.mono hρ b b' h3⟩
  | .g l, _, h => by
    simp only [Rel] at h ⊢
    obtain ⟨l', h1, h2, h3⟩ := h
    exact ⟨l', h1, RelL.mono hρ l l' h2, h3⟩
  | .t l, _, h => by
    simp only [Rel] at h ⊢
    obtain ⟨l', h1, h2⟩ := h
    exact ⟨l', h1, RelL.mono hρ l l' h2⟩
theorem RelL.mono {ρ ρ' : Rho} (hρ : ρ.le ρ') : ∀ (v : List V) (x : List Value), RelL ρ v x → RelL ρ' v x
  | [], _, h => by simpa [RelL] using h
  | v :: vs, _, h => by
    simp only [RelL] at h ⊢
    obtain ⟨x, xs, h1, h2, h3⟩ := h
    exact ⟨x, xs, h1, Rel.mono hρ v x h2, RelL.mono hρ vs xs h3⟩
end
section
variable {ρ : Rho}
theorem RelL.length : ∀ {v : List V} {x : List Value}, RelL ρ v x → x.length = v.length
  | [], _, h => by simp only [RelL] at h; simp [h]
  | _ :: _, _, h => by simp only [RelL] at h; obtain ⟨x, xs, rfl, _, h3⟩ := h; simp [RelL.length h3]
theorem RelL.nil : RelL ρ [] [] := by simp [RelL]
theorem RelL.cons {v : V} {x : Value} {vs : List V} {xs : List Value} (h : Rel ρ v x) (k : RelL ρ vs xs) : RelL ρ (v :: vs) (x :: xs) := by
  simp only [RelL]; exact ⟨x, xs, rfl, h, k⟩
theorem RelL.append : ∀ {v u : List V} {x y : List Value}, RelL ρ v x → RelL ρ u y → RelL ρ (v ++ u) (x ++ y)
  | [], _, _, _, h, k => by simp only [RelL] at h; subst h; exact k
  | _ :: _, _, _, _, h, k => by
    simp only [RelL] at h
    obtain ⟨x, xs, rfl, h2, h3⟩ := h
    exact .cons h2 (RelL.append h3 k)
theorem RelL.take : ∀ {v : List V} {x : List Value} (n : Nat), RelL ρ v x → RelL ρ (v.take n) (x.take n)
  | _, _, 0, _ => by simp [RelL]
  | [], _, _ + 1, h => by simp only [RelL] at h; subst h; simp [RelL]
  | _ :: _, _, n + 1, h => by
    simp only [RelL] at h
    obtain ⟨x, xs, rfl, h2, h3⟩ := h
    exact .cons h2 (RelL.take n h3)
theorem RelL.drop : ∀ {v : List V} {x : List Value} (n : Nat), RelL ρ v x → RelL ρ (v.drop n) (x.drop n)
  | _, _, 0, h => by simpa using h
  | [], _, _ + 1, h => by simp only [RelL] at h; subst h; simp [RelL]
  | _ :: _, _, n + 1, h => by
    simp only [RelL] at h
    obtain ⟨x, xs, rfl, h2, h3⟩ := h
    exact RelL.drop n h3
theorem RelL.get : ∀ {v : List V} {x : List Value} {i : Nat} {a : V}, RelL ρ v x → v[i]? = some a → ∃ y, x[i]? = some y ∧ Rel ρ a y
  | [], _, _, _, _, e => by simp at e
  | _ :: _, _, 0, _, h, e => by
    simp only [RelL] at h
    obtain ⟨x, xs, rfl, h2, h3⟩ := h
    simp at e; subst e
    exact ⟨x, by simp, h2⟩
  | _ :: _, _, i + 1, _, h, e => by
    simp only [RelL] at h
    obtain ⟨x, xs, rfl, h2, h3⟩ := h
    obtain ⟨y, h4, h5⟩ := RelL.get (i := i) h3 (by simpa using e)
    exact ⟨y, by simpa using h4, h5⟩
theorem RelL.of_get : ∀ {v : List V} {x : List Value}, x.length = v.length → (∀ (i : Nat) (a : V), v[i]? = some a → ∃ y, x[i]? = some y ∧ Rel ρ a y) → RelL ρ v x
  | [], [], _, _ => .nil
  | [], _ :: _, h, _ => by simp at h
  | _ :: _, [], h, _ => by simp at h
  | a :: v, y :: x, h, k => by
    refine .cons ?_ (RelL.of_get (by simpa using h) fun i b hb => ?_)
    · obtain ⟨z, h1, h2⟩ := k 0 a (by simp)
      simp at h1; subst h1; exact h2
    · obtain ⟨z, h1, h2⟩ := k (i + 1) b (by simpa using hb)
      exact ⟨z, by simpa using h1, h2⟩
theorem Rel.oneCell {v : V} {x : Value} (h : Rel ρ v x) (ho : v.one = true) : x.oneCell' = true := by
  cases v <;> simp only [Rel] at h
  case c => obtain ⟨rfl, h⟩ := h; exact h
  case s => obtain ⟨rfl, _⟩ := h; rfl
  case p => obtain ⟨_, _, rfl⟩ := h; rfl
  case sl => obtain ⟨_, _, rfl⟩ := h; rfl
  case sg => obtain ⟨_, _, _, _, rfl⟩ := h; rfl
  case e => obtain ⟨_, _, rfl⟩ := h; rfl
  case m => obtain ⟨_, _, rfl⟩ := h; rfl
  case f => obtain ⟨_, _, rfl, _⟩ := h; rfl
  case g => simp [V.one] at ho
  case t => simp [V.one] at ho
theorem RelL.oneCell : ∀ {v : List V} {x : List Value}, RelL ρ v x → v.all V.one = true → ∀ y, y ∈ x → y.oneCell' = true
  | [], _, h, _, y, hy => by simp only [RelL] at h; subst h; cases hy
  | _ :: _, _, h, ho, y, hy => by
    simp only [RelL] at h
    obtain ⟨x, xs, rfl, h2, h3⟩ := h
    simp only [List.all_cons, Bool.and_eq_true] at ho
    cases hy with
    | head => exact h2.oneCell ho.1
    | tail _ hy => exact h3.oneCell ho.2 y hy
theorem rel_u : Rel ρ .u undef := by simp only [Rel]; exact ⟨[], rfl, .nil⟩
theorem rel_int (k : IntKind) (n : Int) : Rel ρ (.int k n) (.int k n) := by simp [Rel, Value.oneCell']
theorem rel_bool (b : Bool) : Rel ρ (.bool b) (.bool b) := by simp [Rel, Value.oneCell']
end
/-! ### constants -/
section
variable {β : Type} {r : β}
theorem fA_inv {v : Value} {k : V → Option β} (h : fA v k = some r) : ∃ a, k a = some r ∧ a.one = true ∧ ∀ ρ, Rel ρ a v := by
  unfold fA at h
  split at h
  · rw [fi_eq] at h; exact ⟨_, h, rfl, fun ρ => rel_int _ _⟩
  · rw [fb_eq] at h; exact ⟨_, h, rfl, fun ρ => rel_bool _⟩
  · rename_i b
    rw [fl_eq] at h
    refine ⟨_, h, rfl, fun ρ => ?_⟩
    simp only [Rel, bytes]
    constructor
    · congr 1
      cases b with
      | mk d => cases d with
        | mk l =>
          congr 2
          have : ∀ l : List UInt8, l = (l.map fun x => x.toNat).map UInt8.ofNat := fun l => by
            induction l with
            | nil => rfl
            | cons a l ih => simp [← ih]
          exact this l
    · intro x hx
      obtain ⟨y, _, rfl⟩ := List.mem_map.1 hx
      exact y.toNat_lt
  all_goals first
    | (exact ⟨_, h, rfl, fun ρ => by simp [Rel, Value.oneCell']⟩)
    | (cases h)
theorem fAs_inv : ∀ {l : List Value} {k : List V → Option β}, fAs l k = some r → ∃ as, k as = some r ∧ as.all V.one = true ∧ ∀ ρ, RelL ρ as l
  | [], k, h => ⟨[], h, rfl, fun _ => .nil⟩
  | v :: l, k, h => by
    have h' : fA v (fun x => fAs l fun l => k (x :: l)) = some r := h
    obtain ⟨a, h1, h2, h3⟩ := fA_inv h'
    obtain ⟨as, h4, h5, h6⟩ := fAs_inv h1
    exact ⟨a :: as, h4, by simp [h2, h5], fun ρ => .cons (h3 ρ) (h6 ρ)⟩
theorem ofV_inv {v : Value} {k : V → Option β} (h : ofV v k = some r) : ∃ a, k a = some r ∧ ∀ ρ, Rel ρ a v := by
  unfold ofV at h
  split at h
  · rename_i cs
    obtain ⟨as, h1, h2, h3⟩ := fAs_inv h
    refine ⟨_, h1, fun ρ => ?_⟩
    simp only [Rel]
    exact ⟨cs.toList, by simp, h3 ρ, h2⟩
  · exact ⟨_, h, fun ρ => rel_u⟩
  · obtain ⟨a, h1, _, h3⟩ := fA_inv h
    exact ⟨a, h1, h3⟩
end
/-! ### operands -/
def TmpRel (ρ : Rho) (e : Env) (a : Act) (x : Operand) : Prop := ∀ t, x = .tmp t → Rel ρ ((e.get t).getD .u) (a.tmps.getD t undef)
section
variable {β : Type} {r : β} {e : Env}
theorem opd_inv {x : Operand} {k : V → Option β} (h : opd e x k = some r) : ∃ v, k v = some r ∧ ∀ (ρ : Rho) (a : Act), TmpRel ρ e a x → Rel ρ v (a.eval x) := by
  unfold opd at h
  split at h
  · rename_i t
    split at h
    · rename_i v hv
      exact ⟨v, h, fun ρ a ha => by have := ha t rfl; rw [hv] at this; exact this⟩
    · rename_i hv
      exact ⟨.u, h, fun ρ a ha => by have := ha t rfl; rw [hv] at this; exact this⟩
  · obtain ⟨v, h1, h2⟩ := ofV_inv h
    exact ⟨v, h1, fun ρ a _ => h2 ρ⟩
  · refine ⟨_, h, fun ρ a _ => ?_⟩
    simp only [Rel]
    exact ⟨[], [], rfl, .nil, .nil⟩
  · cases h
theorem opds_inv : ∀ {l : List Operand} {k : List V → Option β}, opds e l k = some r → ∃ vs, k vs = some r ∧ ∀ (ρ : Rho) (a : Act), (∀ x, x ∈ l → TmpRel ρ e a x) → RelL ρ vs (l.map a.eval)
  | [], k, h => ⟨[], h, fun _ _ _ => .nil⟩
  | x :: l, k, h => by
    have h' : opd e x (fun v => opds e l fun l => k (v :: l)) = some r := h
    obtain ⟨v, h1, h2⟩ := opd_inv h'
    obtain ⟨vs, h3, h4⟩ := opds_inv h1
    exact ⟨v :: vs, h3, fun ρ a ha => .cons (h2 ρ a (ha x (by simp))) (h4 ρ a fun y hy => ha y (by simp [hy]))⟩
theorem asNat_inv {v : V} {k : Nat → Option β} (h : asNat v k = some r) : ∃ i n, v = .c (.int i (.ofNat n)) ∧ k n = some r := by
  unfold asNat at h
  split at h
  · exact ⟨_, _, rfl, h⟩
  · cases h
theorem cellsOf_inv {v : V} {k : List V → Option β} (h : cellsOf v k = some r) : ∃ cs, k cs = some r ∧ ∀ (ρ : Rho) (x : Value), Rel ρ v x → RelL ρ cs x.cells.toList ∧ cs.all V.one = true := by
  unfold cellsOf at h
  split at h
  · cases h
  · refine ⟨_, h, fun ρ x hx => ?_⟩
    simp only [Rel] at hx
    obtain ⟨l', rfl, h1, h2⟩ := hx
    exact ⟨h1, h2⟩
  · rename_i h1 h2
    refine ⟨_, h, fun ρ x hx => ?_⟩
    have ho : v.one = true := by
      cases v <;> first | rfl | (exact absurd rfl (h2 _)) | (exact absurd rfl (h1 _))
    have hc : x.cells = #[x] := by
      have := hx.oneCell ho
      cases x <;> first | rfl | (simp [Value.oneCell'] at this)
    rw [hc]
    exact ⟨.cons hx .nil, by simp [ho]⟩
theorem szOf_inv {P : Program} {t : TypeId} {k : Nat → Option β} (h : szOf P t k = some r) : ∃ i, P.info? t = some i ∧ k i.size = some r := by
  unfold szOf at h
  split at h
  · cases h
  · rename_i i hi; exact ⟨i, hi, h⟩
theorem elemOf_inv {P : Program} {t : TypeId} {k : TypeId → Nat → Option β} (h : elemOf P t k = some r) : ∃ el i, P.underlying t = some (.slice el) ∧ P.info? el = some i ∧ k el i.size = some r := by
  unfold elemOf at h
  split at h
  · rename_i el hel
    obtain ⟨i, h1, h2⟩ := szOf_inv h
    exact ⟨el, i, hel, h1, h2⟩
  · cases h
theorem zero_inv {P : Program} {t : TypeId} {k : List V → Option β} (h : zero P t k = some r) : ∃ i z cs, P.info? t = some i ∧ i.zero = some z ∧ k cs = some r ∧ cs.all V.one = true ∧ ∀ ρ, RelL ρ cs z.cells.toList := by
  unfold zero at h
  split at h
  · cases h
  · rename_i i hi
    split at h
    · cases h
    · rename_i z hz
      obtain ⟨cs, h1, h2, h3⟩ := fAs_inv h
      exact ⟨i, z, cs, hi, hz, h1, h2, h3⟩
theorem bnd_inv {d : Nat} {x : Option Operand} {k : Nat → Option β} (h : bnd e d x k = some r) : ∃ n, k n = some r ∧ ((x = none ∧ n = d) ∨ ∃ o, x = some o ∧ ∃ i, ∀ (ρ : Rho) (a : Act), TmpRel ρ e a o → a.eval o = .int i (.ofNat n)) := by
  unfold bnd at h
  split at h
  · exact ⟨d, h, .inl ⟨rfl, rfl⟩⟩
  · rename_i o
    obtain ⟨v, h1, h2⟩ := opd_inv h
    obtain ⟨i, n, rfl, h3⟩ := asNat_inv h1
    refine ⟨n, h3, .inr ⟨o, rfl, i, fun ρ a ha => ?_⟩⟩
    have := h2 ρ a ha
    simp only [Rel] at this
    exact this.1
end
end Go.Proofs.Ytenncnbaoejekaa.Ev

/-
  PLAIN: rules for rewriting that any program's walks use.
-/
import Derived.Test.YtenncnbaoejekaaWd
set_option linter.unusedSimpArgs false
namespace Go.Proofs.Ytenncnbaoejekaa
open Go.RowKit Ev
theorem Ev.OwnRow.setOther {b : Nat} {st : St} {x : V} {z n : Nat} {l : List V} (h : OwnRow b st x z n l) {k : Nat} (hk : ∀ o l z, x ≠ .sg k o l z) (w : B) : OwnRow b ⟨st.nx, st.h.set k w⟩ x z n l := by
  obtain ⟨g1, g2⟩ := h
  refine ⟨g1, ?_⟩
  rcases g2 with g2 | ⟨q, ty, tr, rfl, g3, g4, g5, g6⟩
  · exact .inl g2
  · exact .inr ⟨q, ty, tr, rfl, g3, g4, by rw [show (⟨st.nx, st.h.set k w⟩ : St).h.get q = (st.h.set k w).get q from rfl, T.get_set_ne _ _ (fun e => hk _ _ _ (by rw [e]))]; exact g5, g6⟩
theorem lt_of_get {α : Type} {l : List α} {i : Nat} {v : α} (h : l[i]? = some v) : i < l.length := by
  rcases Nat.lt_or_ge i l.length with h1 | h1
  · exact h1
  · rw [List.getElem?_eq_none h1] at h; cases h
theorem Ev.OwnRow.nilRow {b : Nat} {st : St} {z : Nat} : OwnRow b st (.c (.slice none 0 0)) z 0 [] := ⟨by simp, .inl ⟨rfl, rfl⟩⟩
theorem min_i64 (P : Program) (a b : Int) (ty : TypeId) (st : St) (ts : List TypeId) : pick1 P .min ts ty [.int .i64 a, .int .i64 b] st = some (.int .i64 (if b < a then b else a), st) := by
  have h : pureRun P (Builtin.min_ ⟨ts⟩ ty ⟨[.int .i64 a, .int .i64 b]⟩) = some (.int .i64 (if b < a then b else a)) := rfl
  have h2 : pick1 P .min ts ty [.int .i64 a, .int .i64 b] st = pu P (Builtin.min_ ⟨ts⟩ ty ⟨[.int .i64 a, .int .i64 b]⟩) (ret st) := rfl
  rw [h2]
  unfold pu
  rw [h]
  simp [ofV, fA, ret]
theorem max_i64 (P : Program) (a b : Int) (ty : TypeId) (st : St) (ts : List TypeId) : pick1 P .max ts ty [.int .i64 a, .int .i64 b] st = some (.int .i64 (if b > a then b else a), st) := by
  have h : pureRun P (Builtin.max_ ⟨ts⟩ ty ⟨[.int .i64 a, .int .i64 b]⟩) = some (.int .i64 (if b > a then b else a)) := rfl
  have h2 : pick1 P .max ts ty [.int .i64 a, .int .i64 b] st = pu P (Builtin.max_ ⟨ts⟩ ty ⟨[.int .i64 a, .int .i64 b]⟩) (ret st) := rfl
  rw [h2]
  unfold pu
  rw [h]
  simp [ofV, fA, ret]
theorem forb_rsOf {b i x y : Nat} {l : List (Nat × Nat)} (h : Nat.testBit b i = true) : forb b (rsOf [] i x y) l = l := by
  unfold rsOf
  cases Nat.beq x y
  · show (match Nat.testBit b i with | true => l | false => (x, y) :: l) = l
    rw [h]
  · rfl
theorem slice_arr {P : Program} {e : Env} {t len el z : Nat} {β : Type} (hu : P.underlying t = some (.array len el)) (hz : ∀ k : Nat → Option β, szOf P el k = k z) (n o : Nat) (k : V → Option β) : sliceE P e t (.p n o) none none k = k (.sl n o len len) := by
  unfold sliceE
  rw [hu]
  simp only [hz]
  have h1 : ∀ f : Nat → Option β, bnd e len none f = f len := fun f => rfl
  have h2 : ∀ f : Nat → Option β, bnd e 0 none f = f 0 := fun f => rfl
  rw [h1, h2]
  have b2 : Nat.ble len len = true := by rw [Nat.ble_eq]; exact Nat.le_refl _
  have b1 : Nat.ble 0 len = true := by rw [Nat.ble_eq]; exact Nat.zero_le _
  simp only [b1, b2]
  cases hb : Nat.beq len 0 <;> simp [fn_eq]
theorem Gd_slice_arr {P : Program} {c : Cx} {st : St} {e : Env} {t len el z : Nat} {Q : V × St → Prop} (hu : P.underlying t = some (.array len el)) (hz : ∀ k : Nat → Res, szOf P el k = k z) (n o : Nat) (hQ : Q (.sl n o len len, st)) : Gd (sliceK P c e st t (.p n o) none none) Q := by
  unfold sliceK
  rw [slice_arr hu hz]
  exact ⟨_, rfl, hQ⟩
theorem copy_nil {P : Program} {c : Cx} {st : St} {t t' el z : Nat} (hu : P.underlying t = some (.slice el)) (hi : infoOk P el z = true) (m o l q : Nat) : builtinE P c .copy [t, t'] [.sl m o l q, .c (.slice none 0 0)] st = putB c st m o [] fun st => some (.int .i64 0, st) := by
  unfold builtinE
  simp only [elemOf_ok hu hi]
  rfl
theorem Gd_cxC {P : Program} {c c' : Cx} {ops : List Oper} {o : Oper} {i nx : Nat} {rs : List (Nat × Nat × Nat)} {e : Env} {st : St} {f : Nat} {args : List V} {R : V × St → Prop} (h : cxOf c ops o i rs nx e = c') (k : Gd (callL P c' f args st) R) : Gd (callL P (cxOf c ops o i rs nx e) f args st) R := by rw [h]; exact k
theorem take_fall {α : Type} (O : List α) (keep : Int) : O.take (max 0 (min keep O.length)).toNat = O.take keep.toNat := by
  by_cases h : keep ≤ O.length
  · congr 1; omega
  · rw [List.take_of_length_le (by omega), List.take_of_length_le (by omega)]
def isNil (v : V) : Bool := match v with
  | .c (.slice none 0 0) => true
  | _ => false
theorem eql_nil {P : Program} {t el z n : Nat} {v : V} {l : List V} {st : St} (hu : P.underlying t = some (.slice el)) (h : RdRow st v z n l) (s : St) (x y : Operand) : binE P s .eql t x y v (.c (.slice none 0 0)) = some (.bool (isNil v), s) := by
  obtain ⟨_, h2⟩ := h
  rcases h2 with ⟨rfl | rfl, _⟩ | ⟨m, o, q, ty, sz, tr, rfl, _⟩ | ⟨m, o, ty, sz, tr, rfl, _⟩ <;> simp [binE, hu, nilQ, isNil]
theorem neq_nil {P : Program} {t el z n : Nat} {v : V} {l : List V} {st : St} (hu : P.underlying t = some (.slice el)) (h : RdRow st v z n l) (s : St) (x y : Operand) : binE P s .neq t x y v (.c (.slice none 0 0)) = some (.bool (!isNil v), s) := by
  obtain ⟨_, h2⟩ := h
  rcases h2 with ⟨rfl | rfl, _⟩ | ⟨m, o, q, ty, sz, tr, rfl, _⟩ | ⟨m, o, ty, sz, tr, rfl, _⟩ <;> simp [binE, hu, nilQ, isNil]
theorem isNil_len {z n : Nat} {v : V} {l : List V} {st : St} (h : RdRow st v z n l) (hn : isNil v = true) : v = .c (.slice none 0 0) ∧ n = 0 := by
  obtain ⟨_, h2⟩ := h
  rcases h2 with ⟨rfl | rfl, h3⟩ | ⟨m, o, q, ty, sz, tr, rfl, _⟩ | ⟨m, o, ty, sz, tr, rfl, _⟩
  · exact ⟨rfl, h3⟩
  · cases hn
  · cases hn
  · cases hn
/-- a row of none, not nil -/
theorem evOp_build0 {P : Program} {c : Cx} {e : Env} {st : St} {F : CallF} {d : Option Nat} {t ty el z : Nat} {p : String} {af : Array Edge} {g : Option (Nat × Bool)} {zs : List V}
    (hu : ∀ k : TypeId → Nat → Res, Ev.elemOf P t k = k el z) (hz : ∀ k : List V → Res, zero P el k = k zs) (hzl : zs.length = z) : evOp P F c e st ⟨d, .buildSlice t 0 #[], ty, p, af, g⟩ = some (.sl st.nx 0 0 0, ⟨st.nx + 1, st.h.set st.nx (.cs el 0 .lf)⟩) := by
  have h1 : evOp P F c e st ⟨d, .buildSlice t 0 #[], ty, p, af, g⟩ = Ev.elemOf P t fun el z => zero P el fun zs => (match Nat.beq zs.length z, Nat.ble (0 * z) 16777216 with
    | true, true => partsK (fun i => some (i * z, z)) [] [] (rep zs 0) fun l => newC st el l fun n st => (some (.sl n 0 0 0, st) : Res)
    | _, _ => none) := rfl
  rw [h1, hu, hz]
  have b1 : Nat.beq zs.length z = true := by rw [hzl]; exact Nat.beq_refl z
  have b2 : Nat.ble (0 * z) 16777216 = true := by rw [Nat.ble_eq]; omega
  simp only [b1, b2]
  have h2 : partsK (fun i => some (i * z, z)) [] [] (rep zs 0) (fun l => newC st el l fun n st => (some (.sl n 0 0 0, st) : Res)) = newC st el [] fun n st => some (.sl n 0 0 0, st) := rfl
  rw [h2, newC_is]
  rfl
theorem Gd_append0 {P : Program} {st : St} {t t' el el' z m lx nt : Nat} {x : V} {new : List V} {Q : V × St → Prop} (hu : P.underlying t = some (.slice el)) (hk : P.underlying t' = some (.slice el')) (hi : infoOk P el z = true) (hel : el ≠ roT)
    (hm : st.h.get m = some (.cs el 0 .lf)) (hx : ∀ s', x ≠ .s s') (hl : ∀ k : Nat → Res, lenA x k = k lx) (hf : ∀ k : List V → Res, firsts ⟨false, [], 0, nt⟩ st z lx x k = k new) (hn : new.length = lx * z) (hmax : lx ≤ 1073741824)
    (h0 : lx = 0 → Q (.sl m 0 0 0, ⟨st.nx, st.h.set m (.cs el 0 .lf)⟩)) (h1 : 0 < lx → Q (.sg st.nx 0 lx z, ⟨st.nx + 1, st.h.set st.nx (.cs el new.length (sets new 0 .lf))⟩)) : Gd (builtinE P ⟨false, [], 0, nt⟩ .append [t, t'] [.sl m 0 0 0, x] st) Q := by
  have e1 : builtinE P ⟨false, [], 0, nt⟩ .append [t, t'] [.sl m 0 0 0, x] st = appE ⟨false, [], 0, nt⟩ st el z 0 lx (.sl m 0 0 0) new := by
    have hsm : small P el (0 + lx) = true := infoOk_small hi (by omega)
    unfold builtinE
    simp only [elemOf_ok hu hi, hk, lenA_sl]
    cases x with
    | s s' => exact absurd rfl (hx s')
    | _ => simp only [hl, hf, hsm]
  rw [e1]
  unfold appE
  simp only [fn_eq, Nat.zero_add]
  by_cases hz : lx = 0
  · subst hz
    have hnew : new = [] := List.length_eq_zero_iff.1 (by omega)
    subst hnew
    simp [putB_eq, hm, hel, sets]
    exact h0 rfl
  · have hb : Nat.ble lx 0 = false := by
      cases h : Nat.ble lx 0 with
      | false => rfl
      | true => rw [Nat.ble_eq] at h; omega
    simp only [hb]
    unfold growE
    simp [getC_eq, hm, getsB_zero, newC_is]
    exact h1 (by omega)
/-- an element of a row of one's own is written -/
theorem Ev.OwnRow.put {b n i : Nat} {st : St} {x : V} {l : List V} (h : OwnRow b st x 1 n l) (hi : i < n) : ∃ m ty t, x = .sg m 0 n 1 ∧ b ≤ m ∧ m < st.nx ∧ st.h.get m = some (.cs ty n t) ∧ ty ≠ roT ∧ (∀ j v, l[j]? = some v → t.get j = some v) ∧
    ∀ v, OwnRow b ⟨st.nx, st.h.set m (.cs ty n (t.set i v))⟩ x 1 n (l.set i v) := by
  obtain ⟨h1, h2⟩ := h
  rcases h2 with ⟨_, rfl⟩ | ⟨m, ty, t, rfl, h3, h4, h5, h6, h7⟩
  · omega
  · rw [Nat.mul_one] at h1 h5
    refine ⟨m, ty, t, rfl, h3, h4, h5, h6, h7, fun v => ⟨by simp [h1], .inr ⟨m, ty, t.set i v, rfl, h3, h4, by simp, h6, fun j w hj => ?_⟩⟩⟩
    rw [T.get_set]
    by_cases hij : i = j
    · subst hij
      rw [List.getElem?_set_self (by omega)] at hj
      injection hj with hj; subst hj
      rw [if_pos rfl]
    · rw [List.getElem?_set_ne hij] at hj
      rw [if_neg hij]
      exact h7 j w hj
/-- a row's block is none below b -/
def RowFrom (b : Nat) (y : V) : Prop := (∀ k o l z, y = .sg k o l z → b ≤ k) ∧ (∀ k o l q, y = .sl k o l q → b ≤ k)
theorem RowFrom.mono {b c : Nat} {y : V} (h : RowFrom b y) (k : c ≤ b) : RowFrom c y := ⟨fun _ _ _ _ e => Nat.le_trans k (h.1 _ _ _ _ e), fun _ _ _ _ e => Nat.le_trans k (h.2 _ _ _ _ e)⟩
theorem Ev.RdRow.setOther {st : St} {x : V} {z n : Nat} {l : List V} (h : RdRow st x z n l) {k : Nat} (h1 : ∀ o l z, x ≠ .sg k o l z) (h2 : ∀ o l q, x ≠ .sl k o l q) (w : B) : RdRow ⟨st.nx, st.h.set k w⟩ x z n l := by
  obtain ⟨g1, g2⟩ := h
  refine ⟨g1, ?_⟩
  rcases g2 with g2 | ⟨m, o, q, ty, sz, t, rfl, g3, g4, g5, g6⟩ | ⟨m, o, ty, sz, t, rfl, g3, g4, g5, g6⟩
  · exact .inl g2
  · exact .inr (.inl ⟨m, o, q, ty, sz, t, rfl, g3, (T.get_set_ne _ _ (fun e => h2 _ _ _ (by rw [e]))).trans g4, g5, g6⟩)
  · exact .inr (.inr ⟨m, o, ty, sz, t, rfl, g3, (T.get_set_ne _ _ (fun e => h1 _ _ _ (by rw [e]))).trans g4, g5, g6⟩)
theorem Ev.RdRow.lt_of {st : St} {x : V} {z n : Nat} {l : List V} (h : RdRow st x z n l) : (∀ k o l z, x = .sg k o l z → k < st.nx) ∧ (∀ k o l q, x = .sl k o l q → k < st.nx) := by
  obtain ⟨_, g2⟩ := h
  rcases g2 with ⟨rfl | rfl, _⟩ | ⟨m, o, q, ty, sz, t, rfl, g3, _⟩ | ⟨m, o, ty, sz, t, rfl, g3, _⟩
  · exact ⟨fun _ _ _ _ e => (by cases e), fun _ _ _ _ e => by cases e⟩
  · exact ⟨fun _ _ _ _ e => (by cases e), fun _ _ _ _ e => by cases e⟩
  · exact ⟨fun _ _ _ _ e => (by cases e), fun _ _ _ _ e => by cases e; exact g3⟩
  · exact ⟨fun _ _ _ _ e => (by cases e; exact g3), fun _ _ _ _ e => by cases e⟩
/-- two ways that meet again -/
theorem condK_join {P : Program} {M : Mach P} {c : Cx} {e : Env} {st : St} {v : Option V} {a b : Code} {Q : X × Env × St → Prop} (Q' : X × Env × St → Prop) (h : condK M c v a b e st Q') (k : ∀ r, Q' r → Q r) : condK M c v a b e st Q := by
  unfold condK at h ⊢
  refine h.mono fun v hv => ?_
  unfold boolK at hv ⊢
  split at hv
  · exact hv.mono k
  · exact hv.mono k
  · exact hv.elim
@[simp] theorem one_c (v : Value) : (V.c v).one = true := Eq.symm (Eq.symm rfl)
@[simp] theorem one_p (a b : Nat) : (V.p a b).one = true := Eq.symm (Eq.symm rfl)
@[simp] theorem one_s (l : List Nat) : (V.s l).one = true := Eq.symm (Eq.symm rfl)
@[simp] theorem one_sl (a b c d : Nat) : (V.sl a b c d).one = true := Eq.symm (Eq.symm rfl)
@[simp] theorem one_sg (a b c d : Nat) : (V.sg a b c d).one = true := Eq.symm (Eq.symm rfl)
@[simp] theorem one_e : V.one .e = true := Eq.symm (Eq.symm rfl)
@[simp] theorem one_m (n : Nat) : (V.m n).one = true := Eq.symm (Eq.symm rfl)
theorem Gd_append_nil {P : Program} {st : St} {fl : List (Nat × Nat)} {wb b t t' el el' z lx nt : Nat} {x : V} {new : List V} {Q : V × St → Prop} (hu : P.underlying t = some (.slice el)) (hk : P.underlying t' = some (.slice el')) (hi : infoOk P el z = true)
    (hb : b ≤ st.nx) (hel : el ≠ roT) (hx : ∀ s', x ≠ .s s') (hl : ∀ k : Nat → Res, lenA x k = k lx) (hf : ∀ k : List V → Res, firsts ⟨false, fl, wb, nt⟩ st z lx x k = k new) (hn : new.length = lx * z) (hmax : lx ≤ 1073741824)
    (hQ : ∀ s' st', OwnRow b st' s' z lx new → Ext st.nx st st' → (∀ q o l, s' ≠ .sl q o l z) → Q (s', st')) : Gd (builtinE P ⟨false, fl, wb, nt⟩ .append [t, t'] [.c (.slice none 0 0), x] st) Q := by
  have e1 : builtinE P ⟨false, fl, wb, nt⟩ .append [t, t'] [.c (.slice none 0 0), x] st = appE ⟨false, fl, wb, nt⟩ st el z 0 lx (.c (.slice none 0 0)) new := by
    have hsm : small P el (0 + lx) = true := infoOk_small hi (by omega)
    unfold builtinE
    simp only [elemOf_ok hu hi, hk, lenA_nil]
    cases x with
    | s s' => exact absurd rfl (hx s')
    | _ => simp only [hl, hf, hsm]
  rw [e1]
  unfold appE
  rw [fn_eq]
  cases lx with
  | zero =>
    have hn0 : new = [] := List.eq_nil_of_length_eq_zero (by rw [hn]; simp)
    subst hn0
    exact ⟨_, rfl, hQ _ _ ⟨by simp, .inl ⟨rfl, rfl⟩⟩ (Ext.refl _ _) (fun _ _ _ e => by cases e)⟩
  | succ k =>
    have e2 : growE ⟨false, fl, wb, nt⟩ st el z 0 (0 + (k + 1)) (.c (.slice none 0 0)) new = some (.sg st.nx 0 (k + 1) z, ⟨st.nx + 1, st.h.set st.nx (.cs el new.length (sets new 0 .lf))⟩) := by
      have : growE ⟨false, fl, wb, nt⟩ st el z 0 (0 + (k + 1)) (.c (.slice none 0 0)) new = newC st el ([] ++ new) fun n st => some (.sg n 0 (0 + (k + 1)) z, st) := rfl
      rw [this, newC_is, Nat.zero_add]
      rfl
    refine ⟨_, e2, hQ _ _ ⟨hn, .inr ⟨st.nx, el, sets new 0 .lf, rfl, hb, Nat.lt_succ_self _, ?_, hel, fun j v hj => ?_⟩⟩ ((Ext.refl _ st).new (Nat.le_refl _) _) (fun _ _ _ e => by cases e)⟩
    · show (st.h.set st.nx _).get st.nx = _
      rw [T.get_set_same, hn]
    · have hlt := lt_of_get hj
      rw [get_sets, if_pos (by omega)]
      exact hj
noncomputable def gapAt (t : Nat) (n : Int) (e : Env) : Nat := match e.get t with
  | some (.c (.int _ k)) => (n - k).toNat
  | _ => 0
theorem gapAt_lt {t : Nat} {n : Int} {e e' : Env} {k k' : Int} {i : IntKind} (h : e.get t = some (.int i k)) (h' : e'.get t = some (.int i k')) (hlt : k < n) (hk : k < k') : gapAt t n e' < gapAt t n e := by
  simp only [gapAt, h, h']; omega
/-! ### calls beside loads in a region whose order is drawn -/
theorem inF_forb {b i x y m : Nat} {l : List (Nat × Nat)} (h : inF l m = false) (hm : m < x) : inF (forb b (rsOf [] i x y) l) m = false := by
  unfold rsOf
  cases Nat.beq x y
  · show inF (match Nat.testBit b i with | true => l | false => (x, y) :: l) m = false
    cases Nat.testBit b i
    · show inF ((x, y) :: l) m = false
      rw [inF_cons, if_neg (by omega)]; exact h
    · exact h
  · exact h
theorem inF_ld {b i x y m nx : Nat} (hm : m < x) : inF ((0, m) :: (m + 1, nx) :: forb b (rsOf [] i x y) []) m = false := by
  rw [inF_cons, if_neg (by omega), inF_cons, if_neg (by omega)]
  exact inF_forb rfl hm
theorem inF_ldF {b i x y m nx : Nat} {fl : List (Nat × Nat)} (hf : inF fl m = false) (hm : m < x) : inF ((0, m) :: (m + 1, nx) :: forb b (rsOf [] i x y) fl) m = false := by
  rw [inF_cons, if_neg (by omega), inF_cons, if_neg (by omega)]
  exact inF_forb hf hm
theorem inF_ownF {m nx : Nat} {fl : List (Nat × Nat)} (hf : inF fl m = false) : inF ((0, m) :: (m + 1, nx) :: fl) m = false := by
  rw [inF_cons, if_neg (by omega), inF_cons, if_neg (by omega)]
  exact hf
theorem inF_app {l k : List (Nat × Nat)} {n : Nat} (h1 : inF l n = false) (h2 : inF k n = false) : inF (l ++ k) n = false := by
  induction l with
  | nil => exact h2
  | cons x l ih =>
    obtain ⟨a, b⟩ := x
    rw [inF_cons] at h1
    rw [List.cons_append, inF_cons]
    split at h1
    · cases h1
    · rename_i hn
      rw [if_neg hn]; exact ih h1
theorem cxOf_call {c : Cx} {e : Env} {d : Option Nat} {cl : Call} {ty : TypeId} {p : String} {af : Array Edge} {g : Option (Nat × Bool)} {ops : List Oper} {i nx : Nat} {rs : List (Nat × Nat × Nat)} (ht : touches (.call cl) = true) (h : mayW ops i = true) : cxOf c ops ⟨d, .call cl, ty, p, af, g⟩ i rs nx e = ⟨c.all, forb (befOf ops i) rs c.l, c.wb, c.nt⟩ := by
  have h0 : cxOf c ops ⟨d, .call cl, ty, p, af, g⟩ i rs nx e = (match touches (.call cl) with
      | false => ⟨true, [], c.wb, c.nt⟩
      | true => (match mayW ops i with
        | true => ⟨c.all, forb (befOf ops i) rs c.l, c.wb, c.nt⟩
        | false => (match looseFor ops e i ⟨d, .call cl, ty, p, af, g⟩ with
          | some l => ⟨c.all, l ++ forb (befOf ops i) rs c.l, c.wb, c.nt⟩
          | none => ⟨c.all, forb (befOf ops i) rs c.l, nx, c.nt⟩))) := rfl
  rw [h0, ht, h]
theorem Gd_appendL {P : Program} {st : St} {fl : List (Nat × Nat)} {b t t' el el' z n lx nt : Nat} {s x : V} {l new : List V} {Q : V × St → Prop} (hu : P.underlying t = some (.slice el)) (hk : P.underlying t' = some (.slice el')) (hi : infoOk P el z = true)
    (h : OwnRow b st s z n l) (hfl : ∀ m o ln, s = .sg m o ln z → inF fl m = false) (hb : b ≤ st.nx) (hel : el ≠ roT) (hx : ∀ s', x ≠ .s s') (hl : ∀ k : Nat → Res, lenA x k = k lx) (hf : ∀ k : List V → Res, firsts ⟨false, fl, 0, nt⟩ st z lx x k = k new) (hn : new.length = lx * z) (hmax : n + lx ≤ 1073741824)
    (hQ : ∀ s' st', OwnRow b st' s' z (n + lx) (l ++ new) → Ext b st st' → (∀ m, m < st.nx → (∀ o ln, s ≠ .sg m o ln z) → st'.h.get m = st.h.get m) → (s' = s ∨ ∃ ln, s' = .sg st.nx 0 ln z) → Q (s', st')) : Gd (builtinE P ⟨false, fl, 0, nt⟩ .append [t, t'] [s, x] st) Q := by
  have hz := infoOk_pos hi
  have hls : ∀ k : Nat → Res, lenA s k = k n := h.rd.len
  have e1 : builtinE P ⟨false, fl, 0, nt⟩ .append [t, t'] [s, x] st = appE ⟨false, fl, 0, nt⟩ st el z n lx s new := by
    unfold builtinE
    simp only [elemOf_ok hu hi, hls, hk]
    cases x with
    | s s' => exact absurd rfl (hx s')
    | _ => simp only [hl, hf, infoOk_small hi hmax]
  rw [e1]
  obtain ⟨h1, h2⟩ := h
  have hlen : (l ++ new).length = (n + lx) * z := by rw [List.length_append, h1, hn, Nat.add_mul]
  unfold appE
  rw [fn_eq]
  rcases h2 with ⟨rfl, rfl⟩ | ⟨m, ty, tr, rfl, h3, h4, h5, h6, h7⟩
  · have hl0 : l = [] := List.eq_nil_of_length_eq_zero (by rw [h1]; simp)
    subst hl0
    cases lx with
    | zero =>
      have hn0 : new = [] := List.eq_nil_of_length_eq_zero (by rw [hn]; simp)
      subst hn0
      exact ⟨_, rfl, hQ _ _ ⟨by simp, .inl ⟨rfl, rfl⟩⟩ (Ext.refl _ _) (fun _ _ _ => rfl) (.inl rfl)⟩
    | succ k =>
      have e2 : growE ⟨false, fl, 0, nt⟩ st el z 0 (0 + (k + 1)) (.c (.slice none 0 0)) new = some (.sg st.nx 0 (0 + (k + 1)) z, ⟨st.nx + 1, st.h.set st.nx (.cs el new.length (sets new 0 .lf))⟩) := by
        have : growE ⟨false, fl, 0, nt⟩ st el z 0 (0 + (k + 1)) (.c (.slice none 0 0)) new = newC st el ([] ++ new) fun n st => some (.sg n 0 (0 + (k + 1)) z, st) := rfl
        rw [this, newC_is]
        rfl
      refine ⟨_, e2, hQ _ _ ⟨hlen, .inr ⟨st.nx, el, sets new 0 .lf, rfl, hb, Nat.lt_succ_self _, ?_, hel, fun j v hj => ?_⟩⟩ ((Ext.refl b st).new hb _) (fun m hm _ => ?_) (.inr ⟨_, rfl⟩)⟩
      · show (st.h.set st.nx _).get st.nx = _
        rw [T.get_set_same, hn, Nat.zero_add]
      · rw [get_sets]
        have hlt : j < new.length := by
          rcases Nat.lt_or_ge j new.length with h | h
          · exact h
          · rw [List.nil_append, List.getElem?_eq_none h] at hj; cases hj
        rw [if_pos (by omega)]
        exact hj
      · exact T.get_set_ne _ _ (by omega)
  · have hro : Nat.beq ty roT = false := by
      cases h : Nat.beq ty roT with
      | false => rfl
      | true => exact absurd (Nat.eq_of_beq_eq_true h) h6
    have hzz : Nat.beq z z = true := Nat.beq_refl z
    simp only [hzz]
    have hin := hfl m _ _ rfl
    rw [getB_get m _ _ (by simp [hin]) h5]
    simp only [hro]
    cases lx with
    | zero =>
      have hn0 : new = [] := List.eq_nil_of_length_eq_zero (by rw [hn]; simp)
      subst hn0
      have hble : Nat.ble (0 + (n + 0) * z) (n * z) = true := by rw [Nat.ble_eq]; simp
      simp only [hble, fn_eq]
      rw [putB_eq, h5]
      have hc : 0 + n * z + ([] : List V).length ≤ n * z ∧ ty ≠ roT ∧ 0 ≤ m := ⟨by simp, h6, Nat.zero_le _⟩
      simp only [ok_top, hin, Bool.not_false, cond_true, Option.bind_some, csK_cs, if_pos hc]
      refine ⟨_, rfl, hQ _ _ ⟨hlen, .inr ⟨m, ty, tr, rfl, h3, h4, ?_, h6, fun j v hj => ?_⟩⟩ ((Ext.refl b st).set h3 h4 _) (fun m' hm hne => ?_) (.inl rfl)⟩
      · show (st.h.set m _).get m = _
        rw [T.get_set_same]
        rfl
      · rw [List.append_nil] at hj; exact h7 j v hj
      · exact T.get_set_ne _ _ (fun e => by subst e; exact hne _ _ rfl)
    | succ k =>
      have hble : Nat.ble (0 + (n + (k + 1)) * z) (n * z) = false := by
        cases h : Nat.ble (0 + (n + (k + 1)) * z) (n * z) with
        | false => rfl
        | true =>
          rw [Nat.ble_eq] at h
          have : (n + (k + 1)) * z = n * z + (k + 1) * z := Nat.add_mul ..
          have h2 : 1 * 1 ≤ (k + 1) * z := Nat.mul_le_mul (by omega) hz
          omega
      have hbeq : Nat.beq (0 + n * z) (n * z) = true := by rw [Nat.zero_add]; exact Nat.beq_refl _
      simp only [hble, hbeq, setB_eq, Nat.zero_le, if_pos]
      rw [setsK_eq, fn_eq, newB_is]
      refine ⟨_, rfl, hQ _ _ ⟨hlen, .inr ⟨st.nx, el, sets new (n * z) tr, rfl, hb, Nat.lt_succ_self _, ?_, hel, fun j v hj => ?_⟩⟩ (((Ext.refl b st).set h3 h4 _).new hb _) (fun m' hm hne => ?_) (.inr ⟨_, rfl⟩)⟩
      · show ((st.h.set m .gone).set st.nx _).get st.nx = _
        rw [T.get_set_same, hn, Nat.add_mul n (k + 1) z]
      · rw [get_sets]
        rcases Nat.lt_or_ge j l.length with hj1 | hj1
        · rw [if_neg (by omega)]
          rw [List.getElem?_append_left hj1] at hj
          exact h7 j v hj
        · rw [List.getElem?_append_right hj1] at hj
          have hlt : j - l.length < new.length := by
            rcases Nat.lt_or_ge (j - l.length) new.length with h | h
            · exact h
            · rw [List.getElem?_eq_none h] at hj; cases hj
          rw [if_pos (by omega), ← h1]
          exact hj
      · show ((st.h.set m .gone).set st.nx _).get m' = _
        rw [T.get_set_ne _ _ (by omega), T.get_set_ne _ _ (fun e => by subst e; exact hne _ _ rfl)]
theorem noClash {e : Env} {l : List (Nat × Nat)} : ∀ {args : List Operand}, (∀ x ∈ args, clashes e l x = false) → lr false (fun x _ r => match clashes e l x with | true => true | false => r) args = false
  | [], _ => rfl
  | x :: args, h => by
    have h1 := h x (by simp)
    show (match clashes e l x with | true => true | false => lr false (fun x _ r => match clashes e l x with | true => true | false => r) args) = false
    rw [h1]
    exact noClash fun y hy => h y (by simp [hy])
/-- a call beside loads that may come behind it: what they read may not be touched -/
theorem cxOf_callL {c : Cx} {e : Env} {d : Option Nat} {cl : Call} {ty : TypeId} {p : String} {af : Array Edge} {g : Option (Nat × Bool)} {ops : List Oper} {i nx : Nat} {rs : List (Nat × Nat × Nat)} (l : List (Nat × Nat)) (ht : touches (.call cl) = true) (hm : mayW ops i = false) (hl : looseW ops e i = some l) (hc : ∀ x ∈ cl.args.toList, clashes e l x = false) :
    cxOf c ops ⟨d, .call cl, ty, p, af, g⟩ i rs nx e = ⟨c.all, l ++ forb (befOf ops i) rs c.l, c.wb, c.nt⟩ := by
  have h0 : cxOf c ops ⟨d, .call cl, ty, p, af, g⟩ i rs nx e = (match touches (.call cl) with
      | false => ⟨true, [], c.wb, c.nt⟩
      | true => (match mayW ops i with
        | true => ⟨c.all, forb (befOf ops i) rs c.l, c.wb, c.nt⟩
        | false => (match (match looseW ops e i with
            | none => none
            | some l => (match lr false (fun x _ r => match clashes e l x with | true => true | false => r) cl.args.toList with
              | true => none
              | false => some l)) with
          | some l => ⟨c.all, l ++ forb (befOf ops i) rs c.l, c.wb, c.nt⟩
          | none => ⟨c.all, forb (befOf ops i) rs c.l, nx, c.nt⟩))) := rfl
  rw [h0, ht, hm, hl]
  simp only [noClash hc]
noncomputable def seenG (ops : List Oper) (e : Nat → Option V) (i j q : Nat) : Option V := match Nat.blt j i with
  | true => e q
  | false => (match writer ops q with
    | none => e q
    | some ok => (match ok.op with
      | .fieldAddr _ (.tmp r) _ => (match writer ops r with
        | none => e r
        | some _ => none)
      | _ => none))
noncomputable def looseG (ops : List Oper) (e : Nat → Option V) (i : Nat) : Option (List (Nat × Nat)) := lr (β := Nat → Option (List (Nat × Nat))) (fun _ => some []) (fun o _ ih j => match Nat.beq i j with
  | true => ih (j + 1)
  | false => (match touches o.op with
    | false => ih (j + 1)
    | true => (match ordered ops i j with
      | true => ih (j + 1)
      | false => (match plainLd o.op with
        | some q => (match firm ops j q, seenG ops e i j q with
          | true, some v => (match ih (j + 1) with
            | some l => (match blkOf v with
              | some m => some ((m, m + 1) :: l)
              | none => some l)
            | none => none)
          | _, _ => none)
        | none => none)))) ops 0
theorem looseW_G (ops : List Oper) (e : Env) (i : Nat) : looseW ops e i = looseG ops (fun t => e.get t) i := rfl
/-- one slot is known -/
theorem looseW_at {ops : List Oper} {e : Env} {i : Nat} {l : List (Nat × Nat)} (t : Nat) (v : V) (h : e.get t = some v) (hl : looseG ops (fun x => match Nat.beq x t with | true => some v | false => e.get x) i = some l) : looseW ops e i = some l := by
  rw [looseW_G, ← hl]
  congr 1
  funext x
  cases hx : Nat.beq x t with
  | true =>
    have := Nat.eq_of_beq_eq_true hx
    subst this
    exact h
  | false => rfl
/-- a call beside loads of what is not known: nothing old may be written -/
theorem cxOf_callN {c : Cx} {e : Env} {d : Option Nat} {cl : Call} {ty : TypeId} {p : String} {af : Array Edge} {g : Option (Nat × Bool)} {ops : List Oper} {i nx : Nat} {rs : List (Nat × Nat × Nat)} (ht : touches (.call cl) = true) (hm : mayW ops i = false) (hl : looseW ops e i = none) :
    cxOf c ops ⟨d, .call cl, ty, p, af, g⟩ i rs nx e = ⟨c.all, forb (befOf ops i) rs c.l, nx, c.nt⟩ := by
  have h0 : cxOf c ops ⟨d, .call cl, ty, p, af, g⟩ i rs nx e = (match touches (.call cl) with
      | false => ⟨true, [], c.wb, c.nt⟩
      | true => (match mayW ops i with
        | true => ⟨c.all, forb (befOf ops i) rs c.l, c.wb, c.nt⟩
        | false => (match (match looseW ops e i with
            | none => none
            | some l => (match lr false (fun x _ r => match clashes e l x with | true => true | false => r) cl.args.toList with
              | true => none
              | false => some l)) with
          | some l => ⟨c.all, l ++ forb (befOf ops i) rs c.l, c.wb, c.nt⟩
          | none => ⟨c.all, forb (befOf ops i) rs c.l, nx, c.nt⟩))) := rfl
  rw [h0, ht, hm, hl]
theorem forb_rsOf2 {b i j x y u v : Nat} {l : List (Nat × Nat)} (h : Nat.testBit b i = true) (h2 : Nat.testBit b j = true) : forb b (rsOf (rsOf [] i x y) j u v) l = l := by
  unfold rsOf
  cases Nat.beq u v
  · show (match Nat.testBit b j with | true => forb b (rsOf [] i x y) l | false => (u, v) :: forb b (rsOf [] i x y) l) = l
    rw [h2]
    exact forb_rsOf h
  · exact forb_rsOf h
/-- two slots are known -/
theorem looseW_at2 {ops : List Oper} {e : Env} {i : Nat} {l : List (Nat × Nat)} (t t' : Nat) (v v' : V) (h : e.get t = some v) (h' : e.get t' = some v') (hl : looseG ops (fun x => match Nat.beq x t with | true => some v | false => (match Nat.beq x t' with | true => some v' | false => e.get x)) i = some l) : looseW ops e i = some l := by
  rw [looseW_G, ← hl]
  congr 1
  funext x
  cases hx : Nat.beq x t with
  | true =>
    have := Nat.eq_of_beq_eq_true hx
    subst this
    exact h
  | false =>
    cases hx' : Nat.beq x t' with
    | true =>
      have := Nat.eq_of_beq_eq_true hx'
      subst this
      exact h'
    | false => rfl
/-- three slots are known -/
theorem looseW_at3 {ops : List Oper} {e : Env} {i : Nat} {l : List (Nat × Nat)} (t t' t'' : Nat) (v v' v'' : V) (h : e.get t = some v) (h' : e.get t' = some v') (h'' : e.get t'' = some v'') (hl : looseG ops (fun x => match Nat.beq x t with | true => some v | false => (match Nat.beq x t' with | true => some v' | false => (match Nat.beq x t'' with | true => some v'' | false => e.get x))) i = some l) : looseW ops e i = some l := by
  rw [looseW_G, ← hl]
  congr 1
  funext x
  cases hx : Nat.beq x t with
  | true =>
    have := Nat.eq_of_beq_eq_true hx
    subst this
    exact h
  | false =>
    cases hx' : Nat.beq x t' with
    | true =>
      have := Nat.eq_of_beq_eq_true hx'
      subst this
      exact h'
    | false =>
      cases hx2 : Nat.beq x t'' with
      | true =>
        have := Nat.eq_of_beq_eq_true hx2
        subst this
        exact h''
      | false => rfl
@[simp] theorem blkOf_wd (b : BitVec 64) : blkOf (wd b) = none := rfl
@[simp] theorem blkOf_c (v : Value) : blkOf (.c v) = none := rfl
@[simp] theorem blkOf_p (m o : Nat) : blkOf (.p m o) = some m := rfl
theorem clashes_tmp (e : Env) (l : List (Nat × Nat)) (t : Nat) : clashes e l (.tmp t) = ((e.get t).bind blkOf).elim false (inF l) := by
  have h : clashes e l (.tmp t) = (match e.get t with
    | some v => (match blkOf v with
      | some m => inF l m
      | none => false)
    | none => false) := rfl
  rw [h]
  cases e.get t with
  | none => rfl
  | some v => cases h2 : blkOf v <;> simp [h2]
/-! ### built structs -/
noncomputable def structOk (P : Program) (t : TypeId) (offs : List (Nat × Nat)) : Bool := match P.underlying t with
  | some (.struct fs) => (fs.toList.all fun f => (P.info? f.type).isSome) && (fs.toList.map (fun f => (f.offset, ((P.info? f.type).map (·.size)).getD 0)) == offs)
  | _ => false
theorem bldK_ok {P : Program} {t : TypeId} {offs : List (Nat × Nat)} (h : structOk P t offs = true) (parts : List (Nat × Operand)) (vs zs : List V) (st : St) : bldK P t parts vs zs st = partsK (fun i => offs[i]?) parts vs zs fun l => some (.g l, st) := by
  unfold structOk at h
  unfold bldK
  cases hu : P.underlying t with
  | none => rw [hu] at h; cases h
  | some d =>
    rw [hu] at h
    cases d with
    | struct fs =>
      simp only [Bool.and_eq_true] at h
      obtain ⟨h1, h2⟩ := h
      have h3 : fs.toList.map (fun f => (f.offset, ((P.info? f.type).map (·.size)).getD 0)) = offs := by simpa using h2
      simp only [h1, forceL_eq]
      congr 1
      funext i
      rw [← h3, lget_eq, List.getElem?_map]
      cases hi : fs.toList[i]? with
      | none => rfl
      | some f =>
        have h4 : (P.info? f.type).isSome = true := List.all_eq_true.1 h1 f (List.mem_of_getElem? hi)
        cases hf : P.info? f.type with
        | none => rw [hf] at h4; cases h4
        | some ti => simp [hf]
    | _ => cases h
theorem partsK_nil {β : Type} (at_ : Nat → Option (Nat × Nat)) (vs t : List V) (k : List V → Option β) : partsK at_ [] vs t k = k t := rfl
theorem partsK_cells {β : Type} {at_ : Nat → Option (Nat × Nat)} {i off z : Nat} {x : Operand} {l : List (Nat × Operand)} {v : V} {vs t cs : List V} {k : List V → Option β} (h : at_ i = some (off, z)) (hc : ∀ k : List V → Option β, cellsOf v k = k cs) (hl : cs.length = z) (ht : off + z ≤ t.length) : partsK at_ ((i, x) :: l) (v :: vs) t k = partsK at_ l vs (t.take off ++ (cs ++ t.drop (off + z))) k := by
  have h1 : partsK at_ ((i, x) :: l) (v :: vs) t k = cellsOf v fun cs => (match at_ i with
    | some (i, z) => (match Nat.beq cs.length z with
      | true => splice i cs t fun t => partsK at_ l vs t k
      | false => none)
    | none => none) := rfl
  rw [h1, hc, h]
  subst hl
  have b1 : Nat.beq cs.length cs.length = true := Nat.beq_refl _
  simp only [b1]
  unfold splice
  have b2 : Nat.ble (off + cs.length) t.length = true := by rw [Nat.ble_eq]; exact ht
  simp only [b2]
theorem cellsOf_one {β : Type} {v : V} (h : v.one = true) (k : List V → Option β) : cellsOf v k = k [v] := by cases v <;> first | rfl | cases h
theorem partsK_one {β : Type} {at_ : Nat → Option (Nat × Nat)} {i off : Nat} {x : Operand} {l : List (Nat × Operand)} {v : V} {vs t : List V} {k : List V → Option β} (h : at_ i = some (off, 1)) (hv : v.one = true) (ht : off < t.length) : partsK at_ ((i, x) :: l) (v :: vs) t k = partsK at_ l vs (t.set off v) k := by
  rw [partsK_cells h (cellsOf_one hv) rfl ht, List.set_eq_take_append_cons_drop, if_pos ht]
  rfl
def cellK (o : Option V) (f : Nat → Nat → Res) : Res := match o with
  | some (.p n i) => f n i
  | _ => none
@[simp] theorem cellK_p (n i : Nat) (f : Nat → Nat → Res) : cellK (some (.p n i)) f = f n i := rfl
@[simp] theorem resOf_cell {P : Program} {c : Cx} {e : Env} {st : St} (t ty : Nat) (l : List ResultVar) (k : List V → Option (V × St)) : resOf P c e st (.cell t ty :: l) k = cellK (e.get t) fun n i => loadE P c st ty n i fun w => resOf P c e st l fun r => k (w :: r) := by
  have h : resOf P c e st (.cell t ty :: l) k = (match e.get t with
    | some (.p n i) => loadE P c st ty n i fun w => resOf P c e st l fun r => k (w :: r)
    | _ => none) := rfl
  rw [h]
  cases e.get t with
  | none => rfl
  | some v => cases v <;> rfl
theorem conv_int {P : Program} {c : Cx} {st : St} {src dst : TypeId} {k k' : IntKind} (h1 : (P.underlying src).isSome = true) (h2 : P.underlying dst = some (.int k)) (n : Int) : convE P c st src dst (.c (.int k' n)) = some (.int k (k.wrap n), st) := by
  unfold convE
  cases h : P.underlying src with
  | none => rw [h] at h1; cases h1
  | some d => simp [h2, wr_eq]
@[simp] theorem conv_toW {P : Program} {c : Cx} {st : St} {src dst : TypeId} {k' : IntKind} (h1 : (P.underlying src).isSome = true) (h2 : P.underlying dst = some (.int .u64)) (n : Int) : convE P c st src dst (.c (.int k' n)) = some (wd (BitVec.ofInt 64 n), st) := by
  rw [conv_int h1 h2, wrapZ]
  unfold wd
  rw [BitVec.toNat_ofInt]
  congr 3
  omega
@[simp] theorem conv_ofW {P : Program} {c : Cx} {st : St} {src dst : TypeId} (h1 : (P.underlying src).isSome = true) (h2 : P.underlying dst = some (.int .i64)) (b : BitVec 64) : convE P c st src dst (wd b) = some (.int .i64 b.toInt, st) := by
  unfold wd
  rw [conv_int h1 h2]
  congr 3
  rw [BitVec.toInt_eq_toNat_cond]
  have := b.isLt
  simp only [IntKind.wrap, IntKind.signed, IntKind.bits]
  simp
  split <;> split <;> omega
end Go.Proofs.Ytenncnbaoejekaa

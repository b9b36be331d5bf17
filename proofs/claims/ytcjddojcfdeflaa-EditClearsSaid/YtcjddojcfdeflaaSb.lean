/-
  PLAIN: Fix, Sy, Sz, Rw, Bw, In, Open, Opn3, Opn1, Wd, Gn, in one text.
-/
import Derived.Test.YtcjddojcfdeflaaEc
import Derived.Deep.SlicePairs
import Derived.Deep.Slices
namespace Go.Proofs.Ytcjddojcfdeflaa.Ev
open Go.RowKit
theorem tyM_ro (ty : Nat) {el : Nat} (h : el ≠ roT) : tyM ty el ≠ roT := by
  unfold tyM
  cases Nat.beq ty el with
  | true => exact h
  | false => show unT ≠ roT; decide

/-- one step of the evaluator, over what is known of shorter ones, and of calls -/
noncomputable def stepF (P : Program) (F : CallF) (ih : CodeF) : CodeF := fun cx c e st =>
  match c with
  | .skip => some (.n, e, st)
  | .label _ => some (.n, e, st)
  | .region _ ops d => (match d with
    | true => (match regOk ops.toList with
      | true => (match evDraw P F cx ops.toList ops.toList 0 [] e st with
        | none => none
        | some (e, st) => some (.n, e, st))
      | false => none)
    | false => (match evOps P F cx ops.toList ops.toList e st with
      | none => none
      | some (e, st) => some (.n, e, st)))
  | .seq a b => (match ih cx a e st with
    | some (.n, e, st) => ih cx b e st
    | r => r)
  | .cond x a b => opd e x fun v => (match v with
    | .c (.bool true) => ih cx a e st
    | .c (.bool false) => ih cx b e st
    | _ => none)
  | .block i b => (match ih cx b e st with
    | some (.ex j, e, st) => (match Nat.beq j i with | true => some (.n, e, st) | false => some (.ex j, e, st))
    | r => r)
  | .loop b => (match ih cx b e st with
    | some (.n, e, st) => ih cx (.loop b) e st
    | r => r)
  | .scope b => ih cx b e st
  | .exit i => some (.ex i, e, st)
  | .ret => some (.ret, e, st)
  | _ => none
section
variable {P : Program}
theorem step_F (ih : CodeF) : step P ih = stepF P (callOf P ih) ih := rfl
theorem evG_succ {F : CallF} (n : Nat) : evG P F (n + 1) = stepF P F (evG P F n) := rfl
/-- a step is asked of finitely much -/
theorem stepF_lim {F : Nat → CodeF} {G : CodeF} {FF : Nat → CallF} {GG : CallF} (K : Chain FF GG) (hm : ∀ n m, n ≤ m → Le (F n) (F m)) (hl : ∀ cx c e st r, G cx c e st = some r → ∃ n, F n cx c e st = some r) {cx : Cx} {c : Code} {e : Env} {st : St} {r : X × Env × St} (h : stepF P GG G cx c e st = some r) :
    ∃ n, ∀ m, n ≤ m → stepF P (FF m) (F m) cx c e st = some r := by
  have hl' : ∀ {cx c e st r}, G cx c e st = some r → ∃ n, ∀ m, n ≤ m → F m cx c e st = some r := fun h => by
    obtain ⟨n, hn⟩ := hl _ _ _ _ _ h
    exact ⟨n, fun m hnm => hm n m hnm _ _ _ _ _ hn⟩
  cases c with
  | skip => exact ⟨0, fun _ _ => h⟩
  | label l => exact ⟨0, fun _ _ => h⟩
  | exit i => exact ⟨0, fun _ _ => h⟩
  | ret => exact ⟨0, fun _ _ => h⟩
  | region id ops d =>
    cases d with
    | false =>
      simp only [stepF] at h ⊢
      split at h
      · cases h
      · rename_i e1 st1 h1
        obtain ⟨n, hn⟩ := evOps_lim K h1
        exact ⟨n, fun m hnm => by rw [hn m hnm]; exact h⟩
    | true =>
      simp only [stepF] at h ⊢
      split at h
      · rename_i hreg
        split at h
        · cases h
        · rename_i e1 st1 h1
          obtain ⟨n, hn⟩ := evDraw_lim K h1
          exact ⟨n, fun m hnm => by rw [hn m hnm]; exact h⟩
      · cases h
  | seq a b =>
    simp only [stepF] at h ⊢
    split at h
    · rename_i e1 st1 h1
      obtain ⟨n1, hn1⟩ := hl' h1
      obtain ⟨n2, hn2⟩ := hl' h
      refine ⟨max n1 n2, fun m hnm => ?_⟩
      rw [hn1 m (by omega)]
      exact hn2 m (by omega)
    · rename_i hne
      obtain ⟨n1, hn1⟩ := hl' h
      refine ⟨n1, fun m hnm => ?_⟩
      rw [hn1 m hnm]
      obtain ⟨x, e1, st1⟩ := r
      cases x with
      | n => exact (hne _ _ h).elim
      | _ => rfl
  | cond x a b =>
    simp only [stepF] at h ⊢
    obtain ⟨v, h1, h2⟩ := opd_get h
    split at h1
    · obtain ⟨n, hn⟩ := hl' h1
      exact ⟨n, fun m hnm => h2 _ (hn m hnm)⟩
    · obtain ⟨n, hn⟩ := hl' h1
      exact ⟨n, fun m hnm => h2 _ (hn m hnm)⟩
    · cases h1
  | block i b =>
    simp only [stepF] at h ⊢
    split at h
    · rename_i j e1 st1 h1
      obtain ⟨n, hn⟩ := hl' h1
      exact ⟨n, fun m hnm => by rw [hn m hnm]; exact h⟩
    · rename_i hne
      obtain ⟨n, hn⟩ := hl' h
      refine ⟨n, fun m hnm => ?_⟩
      rw [hn m hnm]
      obtain ⟨x, e1, st1⟩ := r
      cases x with
      | ex j => exact (hne _ _ _ h).elim
      | _ => rfl
  | loop b =>
    simp only [stepF] at h ⊢
    split at h
    · rename_i e1 st1 h1
      obtain ⟨n1, hn1⟩ := hl' h1
      obtain ⟨n2, hn2⟩ := hl' h
      refine ⟨max n1 n2, fun m hnm => ?_⟩
      rw [hn1 m (by omega)]
      exact hn2 m (by omega)
    · rename_i hne
      obtain ⟨n1, hn1⟩ := hl' h
      refine ⟨n1, fun m hnm => ?_⟩
      rw [hn1 m hnm]
      obtain ⟨x, e1, st1⟩ := r
      cases x with
      | n => exact (hne _ _ h).elim
      | _ => rfl
  | rangeFunc f ps as b => cases h
  | scope b =>
    obtain ⟨n, hn⟩ := hl' h
    exact ⟨n, fun m hnm => hn m hnm⟩
  | goto l => cases h
  | refuse y => cases h
theorem chain_const (F : CallF) : Chain (fun _ => F) F := ⟨fun _ _ _ _ _ _ _ _ h => h, fun _ _ _ _ _ h => ⟨0, h⟩⟩
theorem stepF_mono {FF : CallF} {F G : CodeF} (h : Le F G) : Le (stepF P FF F) (stepF P FF G) := by
  intro cx c e st r hr
  obtain ⟨n, hn⟩ := stepF_lim (chain_const FF) (F := fun n => match n with | 0 => F | _ + 1 => G) (G := F) (fun n m hnm => by
    cases n with
    | zero => cases m with
      | zero => exact fun _ _ _ _ _ h => h
      | succ m => exact h
    | succ n => cases m with
      | zero => omega
      | succ m => exact fun _ _ _ _ _ h => h) (fun cx c e st r h => ⟨0, h⟩) hr
  exact hn (n + 1) (by omega)
theorem evG_le {F : CallF} : ∀ n, Le (evG P F n) (evG P F (n + 1))
  | 0 => fun _ _ _ _ _ h => by cases h
  | n + 1 => by rw [evG_succ, evG_succ]; exact stepF_mono (evG_le n)
theorem evG_mono {F : CallF} {n m : Nat} (h : n ≤ m) : Le (evG P F n) (evG P F m) := by
  induction m with
  | zero => obtain rfl : n = 0 := by omega
            exact fun _ _ _ _ _ h => h
  | succ m ih =>
    by_cases e : n = m + 1
    · subst e; exact fun _ _ _ _ _ h => h
    · exact fun cx c e st r h' => evG_le m _ _ _ _ _ (ih (by omega) _ _ _ _ _ h')
/-- the evaluator, whatever the count -/
noncomputable def evF (P : Program) (F : CallF) : CodeF := open Classical in fun cx c e st => if h : ∃ r n, evG P F n cx c e st = some r then some (Classical.choose h) else none
theorem evF_some {F : CallF} {cx : Cx} {c : Code} {e : Env} {st : St} {r : X × Env × St} : evF P F cx c e st = some r ↔ ∃ n, evG P F n cx c e st = some r := by
  unfold evF
  constructor
  · intro h
    split at h
    · rename_i hx
      injection h with h
      subst h
      exact Classical.choose_spec hx
    · cases h
  · rintro ⟨n, hn⟩
    have hx : ∃ r n, evG P F n cx c e st = some r := ⟨r, n, hn⟩
    rw [dif_pos hx]
    obtain ⟨m, hm⟩ := Classical.choose_spec hx
    have h1 := evG_mono (Nat.le_max_left n m) _ _ _ _ _ hn
    have h2 := evG_mono (Nat.le_max_right n m) _ _ _ _ _ hm
    rw [h1] at h2
    exact h2.symm
theorem evF_eq {F : CallF} : evF P F = stepF P F (evF P F) := by
  funext cx c e st
  apply Option.ext
  intro r
  constructor
  · intro h
    obtain ⟨n, hn⟩ := evF_some.1 h
    cases n with
    | zero => cases hn
    | succ n =>
      rw [evG_succ] at hn
      exact stepF_mono (fun _ _ _ _ _ h => evF_some.2 ⟨n, h⟩) _ _ _ _ _ hn
  · intro h
    obtain ⟨n, hn⟩ := stepF_lim (chain_const F) (F := evG P F) (fun n m => evG_mono) (fun _ _ _ _ _ h => evF_some.1 h) h
    exact evF_some.2 ⟨n + 1, hn n (Nat.le_refl _)⟩
theorem evF_sound (hn : namesOk P = true) (hm : P.follows .mixedOrders = true) {F : CallF} (h : CallSound P F ∧ HasBody P F) : CodeSound P (evF P F) := by
  intro c code e st x e' st' h'
  obtain ⟨n, h'⟩ := evF_some.1 h'
  exact evG_sound hn hm h n c code e st x e' st' h'
/-- calls, and the code that is run over them -/
structure Mach (P : Program) where
  F : CallF
  E : CodeF
  fix : E = stepF P F E
noncomputable def callee (P : Program) : Mach P := ⟨callL P, evL P, evL_eq⟩
noncomputable def over (P : Program) (F : CallF) : Mach P := ⟨F, evF P F, evF_eq⟩
end
end Go.Proofs.Ytcjddojcfdeflaa.Ev
namespace Go.Proofs.Ytcjddojcfdeflaa.Ev
open Go.RowKit

/-- there is an answer, and Q holds of it -/
def Gd {α : Type} (r : Option α) (Q : α → Prop) : Prop := ∃ a, r = some a ∧ Q a
section
variable {α : Type} {Q Q' : α → Prop} {r r' : Option α}
@[congr] theorem Gd_congr (h : r = r') : Gd r Q = Gd r' Q := by rw [h]
@[simp] theorem Gd_some (a : α) : Gd (some a) Q = Q a := by
  apply propext
  constructor
  · rintro ⟨b, h, k⟩; injection h with h; subst h; exact k
  · exact fun h => ⟨a, rfl, h⟩
@[simp] theorem Gd_none : Gd (none : Option α) Q = False := by
  apply propext
  constructor
  · rintro ⟨b, h, _⟩; cases h
  · exact False.elim
theorem Gd.mono (h : Gd r Q) (k : ∀ a, Q a → Q' a) : Gd r Q' := by
  obtain ⟨a, h1, h2⟩ := h; exact ⟨a, h1, k a h2⟩
@[simp] theorem Gd_cond (b : Bool) (x y : Option α) : Gd (bif b then x else y) Q = ((b = true → Gd x Q) ∧ (b = false → Gd y Q)) := by
  cases b <;> simp
end
section
variable {P : Program} {M : Mach P} {F : CallF} {c : Cx} {e : Env} {st : St} {β : Type}
/-! ### code -/
def seqK (R : Env → St → Prop) (Q : X × Env × St → Prop) : X × Env × St → Prop
  | (.n, e, st) => R e st
  | r => Q r
@[simp] theorem seqK_n (R : Env → St → Prop) (Q : X × Env × St → Prop) (e : Env) (st : St) : seqK R Q (.n, e, st) = R e st := rfl
@[simp] theorem seqK_ex (R : Env → St → Prop) (Q : X × Env × St → Prop) (i : Nat) (e : Env) (st : St) : seqK R Q (.ex i, e, st) = Q (.ex i, e, st) := rfl
@[simp] theorem seqK_ret (R : Env → St → Prop) (Q : X × Env × St → Prop) (e : Env) (st : St) : seqK R Q (.ret, e, st) = Q (.ret, e, st) := rfl
def blockK (i : Nat) (Q : X × Env × St → Prop) : X × Env × St → Prop
  | (.ex j, e, st) => if j = i then Q (.n, e, st) else Q (.ex j, e, st)
  | r => Q r
@[simp] theorem blockK_n (i : Nat) (Q : X × Env × St → Prop) (e : Env) (st : St) : blockK i Q (.n, e, st) = Q (.n, e, st) := rfl
@[simp] theorem blockK_ex (i j : Nat) (Q : X × Env × St → Prop) (e : Env) (st : St) : blockK i Q (.ex j, e, st) = if j = i then Q (.n, e, st) else Q (.ex j, e, st) := rfl
@[simp] theorem blockK_ret (i : Nat) (Q : X × Env × St → Prop) (e : Env) (st : St) : blockK i Q (.ret, e, st) = Q (.ret, e, st) := rfl
variable {Q : X × Env × St → Prop}
theorem evL_at (code : Code) : M.E c code e st = stepF P M.F M.E c code e st :=
  congrFun (congrFun (congrFun (congrFun M.fix c) code) e) st
/-- what comes behind, without binders, so that rewriting stops where it is stuck -/
def seqC (M : Mach P) (c : Cx) (b : Code) (Q : X × Env × St → Prop) : X × Env × St → Prop := seqK (fun e st => Gd (M.E c b e st) Q) Q
@[simp] theorem seqC_n (b : Code) (Q : X × Env × St → Prop) : seqC M c b Q (.n, e, st) = Gd (M.E c b e st) Q := rfl
@[simp] theorem seqC_ex (b : Code) (Q : X × Env × St → Prop) (i : Nat) : seqC M c b Q (.ex i, e, st) = Q (.ex i, e, st) := rfl
@[simp] theorem seqC_ret (b : Code) (Q : X × Env × St → Prop) : seqC M c b Q (.ret, e, st) = Q (.ret, e, st) := rfl
@[simp] theorem Gd_seq (a b : Code) : Gd (M.E c (.seq a b) e st) Q = Gd (M.E c a e st) (seqC M c b Q) := by
  show _ = Gd (M.E c a e st) (seqK (fun e st => Gd (M.E c b e st) Q) Q)
  rw [evL_at]
  simp only [stepF]
  cases h : M.E c a e st with
  | none => simp
  | some r =>
    obtain ⟨x, e1, st1⟩ := r
    cases x <;> simp
@[simp] theorem Gd_skip : Gd (M.E c .skip e st) Q = Q (.n, e, st) := by rw [evL_at]; simp [stepF]
@[simp] theorem Gd_exit (i : Nat) : Gd (M.E c (.exit i) e st) Q = Q (.ex i, e, st) := by rw [evL_at]; simp [stepF]
@[simp] theorem Gd_scope (b : Code) : Gd (M.E c (.scope b) e st) Q = Gd (M.E c b e st) Q := by rw [evL_at]; simp [stepF]
@[simp] theorem Gd_label (l : Nat) : Gd (M.E c (.label l) e st) Q = Q (.n, e, st) := by rw [evL_at]; simp [stepF]
@[simp] theorem Gd_ret : Gd (M.E c .ret e st) Q = Q (.ret, e, st) := by rw [evL_at]; simp [stepF]
@[simp] theorem Gd_block (i : Nat) (b : Code) : Gd (M.E c (.block i b) e st) Q = Gd (M.E c b e st) (blockK i Q) := by
  rw [evL_at]
  simp only [stepF]
  cases h : M.E c b e st with
  | none => simp
  | some r =>
    obtain ⟨x, e1, st1⟩ := r
    cases x with
    | n => simp
    | ret => simp
    | ex j =>
      simp only [nbeq, Gd_some, blockK_ex]
      by_cases hj : j = i
      · simp [hj]
      · simp [hj]
def boolK (v : V) (p q : Prop) : Prop := match v with
  | .c (.bool true) => p
  | .c (.bool false) => q
  | _ => False
@[simp] theorem boolK_bool (b : Bool) (p q : Prop) : boolK (.c (.bool b)) p q = ((b = true → p) ∧ (b = false → q)) := by cases b <;> simp [boolK]
theorem fA_bind {β : Type} (v : Value) (k : V → Option β) : fA v k = (fA v some).bind k := by
  unfold fA
  split <;> simp
theorem fAs_bind {β : Type} : ∀ (l : List Value) (k : List V → Option β), fAs l k = (fAs l some).bind k
  | [], _ => rfl
  | v :: l, k => by
    have h : ∀ {γ : Type} (k : List V → Option γ), fAs (v :: l) k = fA v (fun x => fAs l fun l => k (x :: l)) := fun _ => rfl
    rw [h k, h some, fA_bind, fA_bind (k := fun x => fAs l fun l => some (x :: l))]
    cases fA v some with
    | none => rfl
    | some x =>
      simp only [Option.bind_some]
      rw [fAs_bind l fun l => k (x :: l), fAs_bind l fun l => some (x :: l)]
      cases fAs l some <;> rfl
theorem ofV_bind {β : Type} (v : Value) (k : V → Option β) : ofV v k = (ofV v some).bind k := by
  unfold ofV
  split
  · rename_i cs
    rw [fAs_bind, fAs_bind (k := fun l => some (V.g l))]
    cases fAs cs.toList some <;> rfl
  · rfl
  · exact fA_bind _ _
theorem opd_bind {β : Type} (x : Operand) (k : V → Option β) : opd e x k = (opd e x some).bind k := by
  unfold opd
  split
  · split <;> rfl
  · exact ofV_bind _ _
  · rfl
  · rfl
theorem opds_bind {β : Type} : ∀ (l : List Operand) (k : List V → Option β), opds e l k = (opds e l some).bind k
  | [], _ => rfl
  | x :: l, k => by
    have h : ∀ {γ : Type} (k : List V → Option γ), opds e (x :: l) k = opd e x (fun v => opds e l fun l => k (v :: l)) := fun _ => rfl
    rw [h k, h some, opd_bind, opd_bind (k := fun v => opds e l fun l => some (v :: l))]
    cases opd e x some with
    | none => rfl
    | some v =>
      simp only [Option.bind_some]
      rw [opds_bind l fun l => k (v :: l), opds_bind l fun l => some (v :: l)]
      cases opds e l some <;> rfl
theorem Gd_bind {α β : Type} (r : Option α) (k : α → Option β) (Q : β → Prop) : Gd (r.bind k) Q = Gd r fun a => Gd (k a) Q := by cases r <;> simp
/-- what an operand stands for -/
noncomputable def opv (e : Env) (x : Operand) : Option V := opd e x some
noncomputable def opvs (e : Env) (l : List Operand) : Option (List V) := opds e l some
@[simp] theorem Gd_opd {β : Type} (x : Operand) (k : V → Option β) (Q : β → Prop) : Gd (opd e x k) Q = Gd (opv e x) fun v => Gd (k v) Q := by
  rw [opd_bind, Gd_bind]; rfl
@[simp] theorem Gd_opds {β : Type} (l : List Operand) (k : List V → Option β) (Q : β → Prop) : Gd (opds e l k) Q = Gd (opvs e l) fun v => Gd (k v) Q := by
  rw [opds_bind, Gd_bind]; rfl
@[simp] theorem opv_tmp (t : Nat) : opv e (.tmp t) = some ((e.get t).getD .u) := by
  simp only [opv, opd]; cases T.get e t <;> rfl
@[simp] theorem opv_func (f : Nat) : opv e (.func f) = some (.f (.func f) [] []) := rfl
@[simp] theorem opv_int (i : IntKind) (n : Int) : opv e (.const (.int i n)) = some (.int i n) := by simp [opv, opd, ofV, fA]
@[simp] theorem opv_bool (b : Bool) : opv e (.const (.bool b)) = some (.bool b) := by simp [opv, opd, ofV, fA]
@[simp] theorem opv_str (b : ByteArray) : opv e (.const (.string b)) = some (.s (bytes b)) := by simp [opv, opd, ofV, fA]
@[simp] theorem opv_nilp : opv e (.const (.pointer none)) = some (.c (.pointer none)) := rfl
@[simp] theorem opv_nils : opv e (.const (.slice none 0 0)) = some (.c (.slice none 0 0)) := rfl
@[simp] theorem opvs_nil : opvs e [] = some [] := rfl
@[simp] theorem opvs_cons (x : Operand) (l : List Operand) : opvs e (x :: l) = (opv e x).bind fun v => (opvs e l).map (v :: ·) := by
  have h : opds e (x :: l) some = opd e x (fun v => opds e l fun l => some (v :: l)) := rfl
  unfold opvs
  rw [h, opd_bind]
  congr 1
  funext v
  rw [opds_bind]
  cases opds e l some <;> rfl
def condK (M : Mach P) (c : Cx) (v : Option V) (a b : Code) (e : Env) (st : St) (Q : X × Env × St → Prop) : Prop := Gd v fun v => boolK v (Gd (M.E c a e st) Q) (Gd (M.E c b e st) Q)
@[simp] theorem condK_t (a b : Code) (Q : X × Env × St → Prop) : condK M c (some (.c (.bool true))) a b e st Q = Gd (M.E c a e st) Q := by simp [condK, boolK]
@[simp] theorem condK_f (a b : Code) (Q : X × Env × St → Prop) : condK M c (some (.c (.bool false))) a b e st Q = Gd (M.E c b e st) Q := by simp [condK, boolK]
theorem condK_split {q : Bool} {a b : Code} {Q : X × Env × St → Prop} (h1 : q = true → Gd (M.E c a e st) Q) (h2 : q = false → Gd (M.E c b e st) Q) : condK M c (some (.c (.bool q))) a b e st Q := by
  cases q <;> simp [h1, h2]
@[simp] theorem Gd_if (x : Operand) (a b : Code) : Gd (M.E c (.cond x a b) e st) Q = condK M c (opv e x) a b e st Q := by
  unfold condK
  rw [evL_at]
  simp only [stepF, Gd_opd]
  cases opv e x with
  | none => simp
  | some v =>
    simp only [Gd_some]
    unfold boolK
    split <;> simp
def regK (Q : X × Env × St → Prop) : Env × St → Prop := fun r => Q (.n, r.1, r.2)
@[simp] theorem regK_app (Q : X × Env × St → Prop) : regK Q (e, st) = Q (.n, e, st) := rfl
@[simp] theorem Gd_region (id : Nat) (ops : Array Oper) : Gd (M.E c (.region id ops false) e st) Q = Gd (evOps P M.F c ops.toList ops.toList e st) (regK Q) := by
  show _ = Gd (evOps P M.F c ops.toList ops.toList e st) fun r => Q (.n, r.1, r.2)
  rw [evL_at]
  simp only [stepF]
  show Gd (match evOps P M.F c ops.toList ops.toList e st with | none => none | some (e, st) => some (X.n, e, st)) Q = _
  cases evOps P M.F c ops.toList ops.toList e st <;> simp
@[simp] theorem Gd_draw (id : Nat) (ops : Array Oper) : Gd (M.E c (.region id ops true) e st) Q = (regOk ops.toList = true ∧ Gd (evDraw P M.F c ops.toList ops.toList 0 [] e st) (regK Q)) := by
  show _ = (regOk ops.toList = true ∧ Gd (evDraw P M.F c ops.toList ops.toList 0 [] e st) fun r => Q (.n, r.1, r.2))
  rw [evL_at]
  simp only [stepF]
  show Gd (match regOk ops.toList with | true => (match evDraw P M.F c ops.toList ops.toList 0 [] e st with | none => none | some (e, st) => some (X.n, e, st)) | false => none) Q = _
  cases regOk ops.toList with
  | false => simp
  | true => cases evDraw P M.F c ops.toList ops.toList 0 [] e st <;> simp
/-! ### regions -/
def putG (nt : Nat) (e : Env) (d : Option Nat) (v : V) (k : Env → Prop) : Prop := match d with
  | none => k e
  | some t => t < nt ∧ k (e.set t v)
@[simp] theorem putG_none (nt : Nat) (v : V) (k : Env → Prop) : putG nt e none v k = k e := rfl
@[simp] theorem putG_some (nt t : Nat) (v : V) (k : Env → Prop) : putG nt e (some t) v k = (t < nt ∧ k (e.set t v)) := rfl
theorem Gd_putK {β : Type} (d : Option Nat) (v : V) (k : Env → Option β) (Q : β → Prop) : Gd (putK c e d v k) Q = putG c.nt e d v fun e => Gd (k e) Q := by
  cases d with
  | none => rfl
  | some t =>
    simp only [putK, putG_some, T.setK_eq]
    by_cases h : t < c.nt
    · have : Nat.blt t c.nt = true := by rw [Nat.blt_eq]; exact h
      simp [this, h]
    · have : Nat.blt t c.nt = false := by
        cases hb : Nat.blt t c.nt with
        | false => rfl
        | true => rw [Nat.blt_eq] at hb; exact absurd hb h
      simp [this, h]
variable {R : Env × St → Prop}
@[simp] theorem Gd_ops_nil (ops : List Oper) : Gd (evOps P F c ops [] e st) R = R (e, st) := by
  show Gd (some (e, st)) R = _
  simp
def opsK (P : Program) (F : CallF) (c : Cx) (ops : List Oper) (d : Option Nat) (l : List Oper) (e : Env) (R : Env × St → Prop) : V × St → Prop := fun r => putG c.nt e d r.1 fun e => Gd (evOps P F c ops l e r.2) R
@[simp] theorem opsK_some (ops l : List Oper) (t : Nat) (v : V) : opsK P F c ops (some t) l e R (v, st) = (t < c.nt ∧ Gd (evOps P F c ops l (e.set t v) st) R) := rfl
@[simp] theorem opsK_none (ops l : List Oper) (v : V) : opsK P F c ops none l e R (v, st) = Gd (evOps P F c ops l e st) R := rfl
def opsW (w : Bool) (P : Program) (F : CallF) (c : Cx) (ops : List Oper) (o : Oper) (l : List Oper) (e : Env) (st : St) (R : Env × St → Prop) : Prop :=
  ((w = true → Gd (evOp P F c e st o) (opsK P F c ops o.dst l e R)) ∧ (w = false → opsK P F c ops o.dst l e R (.u, st)))
@[simp] theorem opsW_t (ops : List Oper) (o : Oper) (l : List Oper) : opsW true P F c ops o l e st R = Gd (evOp P F c e st o) (opsK P F c ops o.dst l e R) := by simp [opsW]
@[simp] theorem opsW_f (ops : List Oper) (o : Oper) (l : List Oper) : opsW false P F c ops o l e st R = opsK P F c ops o.dst l e R (.u, st) := by simp [opsW]
theorem opsW_split {w : Bool} {ops : List Oper} {o : Oper} {l : List Oper} (h1 : w = true → opsW true P F c ops o l e st R) (h2 : w = false → opsW false P F c ops o l e st R) : opsW w P F c ops o l e st R := by
  cases w <;> simp_all
theorem Gd_ops_cons' (ops : List Oper) (o : Oper) (l : List Oper) : Gd (evOps P F c ops (o :: l) e st) R =
    ((wants e ops o = true → Gd (evOp P F c e st o) fun r => putG c.nt e o.dst r.1 fun e => Gd (evOps P F c ops l e r.2) R) ∧ (wants e ops o = false → putG c.nt e o.dst .u fun e => Gd (evOps P F c ops l e st) R)) := by
  rw [evOps_cons]
  cases wants e ops o with
  | false => simp [Gd_putK]
  | true =>
    cases evOp P F c e st o with
    | none => simp
    | some r => simp [Gd_putK]
@[simp] theorem Gd_ops_cons (ops : List Oper) (o : Oper) (l : List Oper) : Gd (evOps P F c ops (o :: l) e st) R = opsW (wants e ops o) P F c ops o l e st R := Gd_ops_cons' ops o l
@[simp] theorem Gd_draw_nil (ops : List Oper) (i : Nat) (rs : List (Nat × Nat × Nat)) : Gd (evDraw P F c ops [] i rs e st) R = R (e, st) := by
  show Gd (some (e, st)) R = _
  simp
def drwK (P : Program) (F : CallF) (c : Cx) (ops : List Oper) (d : Option Nat) (l : List Oper) (i : Nat) (rs : List (Nat × Nat × Nat)) (nx : Nat) (e : Env) (R : Env × St → Prop) : V × St → Prop := fun r => putG c.nt e d r.1 fun e => Gd (evDraw P F c ops l (i + 1) (rsOf rs i nx r.2.nx) e r.2) R
@[simp] theorem drwK_some (ops l : List Oper) (t i nx : Nat) (rs : List (Nat × Nat × Nat)) (v : V) : drwK P F c ops (some t) l i rs nx e R (v, st) = (t < c.nt ∧ Gd (evDraw P F c ops l (i + 1) (rsOf rs i nx st.nx) (e.set t v) st) R) := rfl
@[simp] theorem drwK_none (ops l : List Oper) (i nx : Nat) (rs : List (Nat × Nat × Nat)) (v : V) : drwK P F c ops none l i rs nx e R (v, st) = Gd (evDraw P F c ops l (i + 1) (rsOf rs i nx st.nx) e st) R := rfl
def drwW (w : Bool) (P : Program) (F : CallF) (c : Cx) (ops : List Oper) (o : Oper) (l : List Oper) (i : Nat) (rs : List (Nat × Nat × Nat)) (e : Env) (st : St) (R : Env × St → Prop) : Prop :=
  ((w = true → Gd (evOp P F (cxOf c ops o i rs st e) e st o) (drwK P F c ops o.dst l i rs st.nx e R)) ∧ (w = false → drwK P F c ops o.dst l i rs st.nx e R (.u, st)))
@[simp] theorem drwW_t (ops : List Oper) (o : Oper) (l : List Oper) (i : Nat) (rs : List (Nat × Nat × Nat)) : drwW true P F c ops o l i rs e st R = Gd (evOp P F (cxOf c ops o i rs st e) e st o) (drwK P F c ops o.dst l i rs st.nx e R) := by simp [drwW]
@[simp] theorem drwW_f (ops : List Oper) (o : Oper) (l : List Oper) (i : Nat) (rs : List (Nat × Nat × Nat)) : drwW false P F c ops o l i rs e st R = drwK P F c ops o.dst l i rs st.nx e R (.u, st) := by simp [drwW]
theorem Gd_draw_cons' (ops : List Oper) (o : Oper) (l : List Oper) (i : Nat) (rs : List (Nat × Nat × Nat)) : Gd (evDraw P F c ops (o :: l) i rs e st) R =
    ((wants e ops o = true → Gd (evOp P F (cxOf c ops o i rs st e) e st o) fun r => putG c.nt e o.dst r.1 fun e => Gd (evDraw P F c ops l (i + 1) (rsOf rs i st.nx r.2.nx) e r.2) R) ∧ (wants e ops o = false → putG c.nt e o.dst .u fun e => Gd (evDraw P F c ops l (i + 1) rs e st) R)) := by
  rw [evDraw_cons]
  cases wants e ops o with
  | false => simp [Gd_putK]
  | true =>
    cases evOp P F (cxOf c ops o i rs st e) e st o with
    | none => simp
    | some r => simp [Gd_putK]
@[simp] theorem Gd_draw_cons (ops : List Oper) (o : Oper) (l : List Oper) (i : Nat) (rs : List (Nat × Nat × Nat)) : Gd (evDraw P F c ops (o :: l) i rs e st) R = drwW (wants e ops o) P F c ops o l i rs e st R := by
  rw [Gd_draw_cons']
  cases wants e ops o with
  | false => simp only [drwW_f, Bool.false_eq_true, false_implies, true_and, forall_const]; unfold drwK; simp [rsOf]
  | true => simp only [drwW_t, true_implies, Bool.true_eq_false, false_implies, and_true]; rfl
@[simp] theorem rsOf_same (rs : List (Nat × Nat × Nat)) (i a : Nat) : rsOf rs i a a = rs := by simp [rsOf]
@[simp] theorem wants_none (ops : List Oper) (d : Option Nat) (op : Op) (ty : TypeId) (p : String) (af : Array Edge) : wants e ops ⟨d, op, ty, p, af, none⟩ = true := rfl
def wantK (w : Bool) (v : Option V) : Bool := match v with
  | some (.c (.bool b)) => b == w
  | _ => false
@[simp] theorem wantK_bool (w b : Bool) : wantK w (some (.c (.bool b))) = (b == w) := rfl
@[simp] theorem wants_some (ops : List Oper) (d : Option Nat) (op : Op) (ty : TypeId) (p : String) (af : Array Edge) (j : Nat) (w : Bool) :
    wants e ops ⟨d, op, ty, p, af, some (j, w)⟩ = wantK w ((ops[j]?).bind fun o => o.dst.bind fun t => e.get t) := by
  unfold wants wantK
  simp only [lget_eq]
  cases ops[j]? with
  | none => rfl
  | some oj =>
    cases hd : oj.dst with
    | none => simp [hd]
    | some t =>
      simp only [Option.bind_some, hd]
      cases T.get e t with
      | none => rfl
      | some v =>
        cases v with
        | c v => cases v with
          | bool b => cases b <;> cases w <;> rfl
          | _ => rfl
        | _ => rfl
/-! ### operations -/
section
variable {d : Option Nat} {ty : TypeId} {p : String} {af : Array Edge} {g : Option (Nat × Bool)}
@[simp] theorem evOp_move (x : Operand) : evOp P F c e st ⟨d, .move x, ty, p, af, g⟩ = opd e x fun v => some (v, st) := rfl
@[simp] theorem evOp_assign (x : Operand) : evOp P F c e st ⟨d, .assign x, ty, p, af, g⟩ = opd e x fun v => some (v, st) := rfl
def pickK (x : V) (a b : Res) : Res := match x with
  | .c (.bool true) => a
  | .c (.bool false) => b
  | _ => none
@[simp] theorem pickK_bool (x : Bool) (a b : Res) : pickK (.c (.bool x)) a b = bif x then a else b := by cases x <;> rfl
@[simp] theorem evOp_pick (x a b : Operand) : evOp P F c e st ⟨d, .pick x a b, ty, p, af, g⟩ = opd e x fun x => pickK x (opd e a fun v => some (v, st)) (opd e b fun v => some (v, st)) := rfl
def ptrK (v : V) (k : Nat → Nat → Res) : Res := match v with
  | .p n i => k n i
  | _ => none
@[simp] theorem ptrK_p (n i : Nat) (k : Nat → Nat → Res) : ptrK (.p n i) k = k n i := rfl
@[simp] theorem evOp_nilCheck (x : Operand) : evOp P F c e st ⟨d, .nilCheck x, ty, p, af, g⟩ = opd e x fun v => ptrK v fun n i => some (.p n i, st) := rfl
def tupK (v : V) (i : Nat) (k : V → Res) : Res := match v with
  | .t l => (match l[i]? with | some w => k w | none => none)
  | _ => none
@[simp] theorem tupK_t (l : List V) (i : Nat) (k : V → Res) : tupK (.t l) i k = (match l[i]? with | some w => k w | none => none) := rfl
@[simp] theorem evOp_extract (x : Operand) (i : Nat) : evOp P F c e st ⟨d, .extract x i, ty, p, af, g⟩ = opd e x fun v => tupK v i fun w => some (w, st) := by
  have h : evOp P F c e st ⟨d, .extract x i, ty, p, af, g⟩ = opd e x fun v => (match v with
    | .t l => (match lget l i with | some w => some (w, st) | none => none)
    | _ => none) := rfl
  rw [h]
  congr 1
  funext v
  cases v <;> first | rfl | (simp only [lget_eq, tupK_t])
@[simp] theorem evOp_alloc (t : TypeId) : evOp P F c e st ⟨d, .alloc t, ty, p, af, g⟩ = zero P t fun cs => newC st t cs fun n st => some (.p n 0, st) := rfl
@[simp] theorem evOp_box (t : TypeId) (x : Operand) : evOp P F c e st ⟨d, .box t x, ty, p, af, g⟩ = opd e x fun v => cellsOf v fun cs => newC st t cs fun n st => some (.p n 0, st) := rfl
@[simp] theorem evOp_load (t : TypeId) (x : Operand) : evOp P F c e st ⟨d, .load t x, ty, p, af, g⟩ = opd e x fun v => ptrK v fun n i => loadE P c st t n i fun w => some (w, st) := rfl
noncomputable def storeK (P : Program) (c : Cx) (st : St) (t : TypeId) (n i : Nat) (v : V) : Res := cellsOf v fun cs => szOf P t fun z => (match Nat.beq cs.length z with
      | true => putB c st n i cs fun st => some (.u, st)
      | false => none)
@[simp] theorem evOp_store (t : TypeId) (x y : Operand) : evOp P F c e st ⟨d, .store t x y, ty, p, af, g⟩ = opd e x fun v => ptrK v fun n i => opd e y fun v => storeK P c st t n i v := rfl
noncomputable def fieldK (P : Program) (t : TypeId) (f : Nat) (k : Nat → Nat → Res) : Res := match P.underlying t with
  | some (.struct fs) => (match fs.toList[f]? with
    | some f => szOf P f.type fun z => k z f.offset
    | none => none)
  | _ => none
@[simp] theorem evOp_fieldAddr (t : TypeId) (x : Operand) (f : Nat) : evOp P F c e st ⟨d, .fieldAddr t x f, ty, p, af, g⟩ = opd e x fun v => ptrK v fun n i => fieldK P t f fun z off => (match z with
    | 0 => none
    | _ => some (.p n (i + off), st)) := by
  have h : evOp P F c e st ⟨d, .fieldAddr t x f, ty, p, af, g⟩ = opd e x fun v => (match v with
    | .p n i => (match P.underlying t with
      | some (.struct fs) => (match lget fs.toList f with
        | some f => szOf P f.type fun z => (match z with
          | 0 => none
          | _ => fn (i + f.offset) fun i => some (.p n i, st))
        | none => none)
      | _ => none)
    | _ => none) := rfl
  rw [h]
  congr 1
  funext v
  cases v <;> first | rfl | skip
  simp only [ptrK_p, fieldK, lget_eq, fn_eq]
@[simp] theorem evOp_indexAddr (t : TypeId) (x ix : Operand) : evOp P F c e st ⟨d, .indexAddr t x ix, ty, p, af, g⟩ = opd e x fun v => opd e ix fun i => asNat i fun i => idxE P t v i fun a => some (a, st) := rfl
noncomputable def sliceK (P : Program) (c : Cx) (e : Env) (st : St) (t : TypeId) (v : V) (lo hi : Option Operand) : Res := match sliceE P e t v lo hi (fun a => (some (a, st) : Res)) with
    | some r => some r
    | none => sliceG P c st e t v lo hi
@[simp] theorem evOp_slice (t : TypeId) (x : Operand) (lo hi : Option Operand) : evOp P F c e st ⟨d, .slice t x lo hi none, ty, p, af, g⟩ = opd e x fun v => sliceK P c e st t v lo hi := rfl
@[simp] theorem evOp_binOp (bo : BinOp) (t yt : TypeId) (x y : Operand) : evOp P F c e st ⟨d, .binOp bo t x y yt, ty, p, af, g⟩ = opd e x fun a => opd e y fun b => binE P st bo t x y a b := rfl
noncomputable def unK (P : Program) (st : St) (op : UnOp) (v : V) : Res := match op, v with
    | .not, .c (.bool b) => fb (!b) fun b => some (.bool b, st)
    | op, v => (match valA v with
      | some v => pu P (Op.unary op v) (ret st)
      | none => none)
@[simp] theorem unK_not (b : Bool) : unK P st .not (.c (.bool b)) = some (.bool !b, st) := by simp [unK]
@[simp] theorem evOp_unOp (uo : UnOp) (t : TypeId) (x : Operand) : evOp P F c e st ⟨d, .unOp uo t x, ty, p, af, g⟩ = opd e x fun v => unK P st uo v := rfl
@[simp] theorem evOp_convert (a b : TypeId) (x : Operand) : evOp P F c e st ⟨d, .convert a b x, ty, p, af, g⟩ = opd e x fun v => convE P c st a b v := rfl
noncomputable def fldK (P : Program) (t : TypeId) (f : Nat) (v : V) (k : V → Res) : Res := match v, P.underlying t with
    | .g l, some (.struct fs) => (match lget fs.toList f with
      | none => none
      | some f => partE P f.type l f.offset k)
    | _, _ => none
@[simp] theorem evOp_field (t : TypeId) (x : Operand) (f : Nat) : evOp P F c e st ⟨d, .field t x f, ty, p, af, g⟩ = opd e x fun v => fldK P t f v fun v => some (v, st) := rfl
theorem evOp_call {f : Nat} (hx : ext? P f = none) (args : Array Operand) (ats : Array TypeId) : evOp P F c e st ⟨d, .call ⟨.value (.func f), args, ats⟩, ty, p, af, g⟩ = opds e args.toList fun args => F c f args st := by
  have h : evOp P F c e st ⟨d, .call ⟨.value (.func f), args, ats⟩, ty, p, af, g⟩ = opds e args.toList fun args => opd e (.func f) fun f => (match f with
      | .f (.func f) first caps => (match ext? P f with
        | some g => (match extE P g (first ++ args ++ caps) st with | some r => some r | none => extS P c f (first ++ args ++ caps) st)
        | none => F c f (first ++ args ++ caps) st)
      | _ => none) := rfl
  rw [h]
  congr 1
  funext args
  simp [opd, hx]
noncomputable def extR (P : Program) (c : Cx) (f : Nat) (g0 : Array Value → Sem Value) (args : List V) (st : St) : Res := match extE P g0 args st with | some r => some r | none => extS P c f args st
theorem extR_some {P : Program} {c : Cx} {f : Nat} {g0 : Array Value → Sem Value} {args : List V} {st : St} {r : V × St} (h : extE P g0 args st = some r) : extR P c f g0 args st = some r := by unfold extR; rw [h]
theorem extR_none {P : Program} {c : Cx} {f : Nat} {g0 : Array Value → Sem Value} {args : List V} {st : St} (h : extE P g0 args st = none) : extR P c f g0 args st = extS P c f args st := by unfold extR; rw [h]
theorem evOp_ext {f : Nat} {g0 : Array Value → Sem Value} (hx : ext? P f = some g0) (args : Array Operand) (ats : Array TypeId) : evOp P F c e st ⟨d, .call ⟨.value (.func f), args, ats⟩, ty, p, af, g⟩ = opds e args.toList fun args => extR P c f g0 args st := by
  have h : evOp P F c e st ⟨d, .call ⟨.value (.func f), args, ats⟩, ty, p, af, g⟩ = opds e args.toList fun args => opd e (.func f) fun f => (match f with
      | .f (.func f) first caps => (match ext? P f with
        | some g => (match extE P g (first ++ args ++ caps) st with | some r => some r | none => extS P c f (first ++ args ++ caps) st)
        | none => F c f (first ++ args ++ caps) st)
      | _ => none) := rfl
  rw [h]
  congr 1
  funext args
  simp [opd, hx, extR]
theorem evOp_bi (b : Builtin) (h1 : b ≠ .min) (h2 : b ≠ .max) (args : Array Operand) (ats : Array TypeId) : evOp P F c e st ⟨d, .call ⟨.builtin b, args, ats⟩, ty, p, af, g⟩ = opds e args.toList fun args => builtinE P c b ats.toList args st := by
  cases b <;> first | rfl | exact absurd rfl h1 | exact absurd rfl h2
@[simp] theorem evOp_len (args : Array Operand) (ats : Array TypeId) : evOp P F c e st ⟨d, .call ⟨.builtin .len, args, ats⟩, ty, p, af, g⟩ = opds e args.toList fun args => builtinE P c .len ats.toList args st := rfl
@[simp] theorem evOp_append (args : Array Operand) (ats : Array TypeId) : evOp P F c e st ⟨d, .call ⟨.builtin .append, args, ats⟩, ty, p, af, g⟩ = opds e args.toList fun args => builtinE P c .append ats.toList args st := rfl
@[simp] theorem evOp_copy (args : Array Operand) (ats : Array TypeId) : evOp P F c e st ⟨d, .call ⟨.builtin .copy, args, ats⟩, ty, p, af, g⟩ = opds e args.toList fun args => builtinE P c .copy ats.toList args st := rfl
end
/-! ### numbers -/
section
variable {t : TypeId} {x y : Operand} {k : IntKind} {a b : Int}
@[simp] theorem bin_add : binE P st .add t x y (.c (.int k a)) (.c (.int k b)) = some (.int k (k.wrap (a + b)), st) := by cases k <;> simp [binE, eqKd, binI, wr_eq, ofV, fA, ret]
@[simp] theorem bin_sub : binE P st .sub t x y (.c (.int k a)) (.c (.int k b)) = some (.int k (k.wrap (a - b)), st) := by cases k <;> simp [binE, eqKd, binI, wr_eq, ofV, fA, ret] <;> rfl
@[simp] theorem bin_mul : binE P st .mul t x y (.c (.int k a)) (.c (.int k b)) = some (.int k (k.wrap (a * b)), st) := by cases k <;> simp [binE, eqKd, binI, wr_eq, ofV, fA, ret]
@[simp] theorem bin_quo : binE P st .quo t x y (.c (.int k a)) (.c (.int k b)) = if b = 0 then none else some (.int k (k.wrap (a.tdiv b)), st) := by
  by_cases h : b = 0
  · subst h; cases k <;> simp [binE, eqKd, binI, eqI_eq]
  · have hb : (b == 0) = false := by simpa using h
    cases k <;> simp [binE, eqKd, binI, wr_eq, ofV, fA, ret, eqI_eq, h, hb]
@[simp] theorem bin_rem : binE P st .rem t x y (.c (.int k a)) (.c (.int k b)) = if b = 0 then none else some (.int k (a.tmod b), st) := by
  by_cases h : b = 0
  · subst h; cases k <;> simp [binE, eqKd, binI, eqI_eq]
  · have hb : (b == 0) = false := by simpa using h
    cases k <;> simp [binE, eqKd, binI, ofV, fA, ret, eqI_eq, h, hb]
@[simp] theorem bin_lss : binE P st .lss t x y (.c (.int k a)) (.c (.int k b)) = some (.bool (decide (a < b)), st) := by cases k <;> simp [binE, eqKd, binI, ltI_eq, ofV, fA, ret]
@[simp] theorem bin_leq : binE P st .leq t x y (.c (.int k a)) (.c (.int k b)) = some (.bool (decide (a ≤ b)), st) := by
  have h : (!decide (b < a)) = decide (a ≤ b) := by by_cases h : b < a <;> simp [h] <;> omega
  cases k <;> simp [binE, eqKd, binI, ltI_eq, ofV, fA, ret, h]
@[simp] theorem bin_gtr : binE P st .gtr t x y (.c (.int k a)) (.c (.int k b)) = some (.bool (decide (b < a)), st) := by cases k <;> simp [binE, eqKd, binI, ltI_eq, ofV, fA, ret]
@[simp] theorem bin_geq : binE P st .geq t x y (.c (.int k a)) (.c (.int k b)) = some (.bool (decide (b ≤ a)), st) := by
  have h : (!decide (a < b)) = decide (b ≤ a) := by by_cases h : a < b <;> simp [h] <;> omega
  cases k <;> simp [binE, eqKd, binI, ltI_eq, ofV, fA, ret, h]
@[simp] theorem bin_eql : binE P st .eql t x y (.c (.int k a)) (.c (.int k b)) = some (.bool (decide (a = b)), st) := by cases k <;> simp [binE, eqKd, binI, eqI_eq, ofV, fA, ret] <;> rfl
@[simp] theorem bin_neq : binE P st .neq t x y (.c (.int k a)) (.c (.int k b)) = some (.bool (!decide (a = b)), st) := by cases k <;> simp [binE, eqKd, binI, eqI_eq, ofV, fA, ret] <;> rfl
end
/-! ### memory -/
@[simp] theorem ok_top (l : List (Nat × Nat)) (wb nt n : Nat) : Cx.ok ⟨false, l, wb, nt⟩ n = !inF l n := rfl
@[simp] theorem inF_nil (n : Nat) : inF [] n = false := rfl
theorem getB_get {β : Type} (n : Nat) (k : B → Option β) (b : B) (h1 : c.ok n = true) (h2 : st.h.get n = some b) : getB c st n k = k b := by
  simp [getB, h1, h2]
theorem getB_eq {β : Type} (n : Nat) (k : B → Option β) : getB c st n k = bif c.ok n then (st.h.get n).bind k else none := by
  unfold getB
  cases c.ok n with
  | false => rfl
  | true => cases st.h.get n <;> rfl
theorem setB_eq {β : Type} (n : Nat) (b : B) (k : St → Option β) : setB c st n b k = if c.wb ≤ n then k ⟨st.nx, st.h.set n b⟩ else none := by
  unfold setB
  by_cases h : c.wb ≤ n
  · have : Nat.ble c.wb n = true := by rw [Nat.ble_eq]; exact h
    simp [this, h]
  · have : Nat.ble c.wb n = false := by
      cases hb : Nat.ble c.wb n with
      | false => rfl
      | true => rw [Nat.ble_eq] at hb; exact absurd hb h
    simp [this, h]
end
end Go.Proofs.Ytcjddojcfdeflaa.Ev
namespace Go.Proofs.Ytcjddojcfdeflaa.Ev
open Go.RowKit
section
variable {P : Program} {F : CallF} {c : Cx} {e : Env} {st : St} {β : Type}
@[simp] theorem asNat_cast (i : IntKind) (n : Nat) (k : Nat → Option β) : asNat (.c (.int i (n : Int))) k = k n := rfl
@[simp] theorem asNat_lit (i : IntKind) (n : Nat) (k : Nat → Option β) : asNat (.c (.int i (OfNat.ofNat n))) k = k n := rfl
@[simp] theorem asNat_0 (i : IntKind) (k : Nat → Option β) : asNat (.c (.int i 0)) k = k 0 := rfl
@[simp] theorem asNat_1 (i : IntKind) (k : Nat → Option β) : asNat (.c (.int i 1)) k = k 1 := rfl
theorem asNat_of {i : IntKind} {x : Int} (h : 0 ≤ x) (k : Nat → Option β) : asNat (.c (.int i x)) k = k x.toNat := by
  obtain ⟨n, rfl⟩ := Int.eq_ofNat_of_zero_le h
  rfl
/-! ### blocks -/
def csK (b : B) (k : TypeId → Nat → T V → Option β) : Option β := match b with
  | .cs ty sz t => k ty sz t
  | _ => none
@[simp] theorem csK_cs (ty sz : Nat) (t : T V) (k : TypeId → Nat → T V → Option β) : csK (.cs ty sz t) k = k ty sz t := rfl
theorem getC_eq (n : Nat) (k : T V → Option β) : getC c st n k = bif c.ok n then (st.h.get n).bind fun b => csK b fun _ _ t => k t else none := by
  unfold getC
  rw [getB_eq]
  cases c.ok n with
  | false => rfl
  | true =>
    cases st.h.get n with
    | none => rfl
    | some b => cases b <;> rfl
def aggK (a : Option Bool) (x y : Option β) : Option β := match a with
  | some true => x
  | some false => y
  | none => none
@[simp] theorem aggK_t (x y : Option β) : aggK (some true) x y = x := rfl
@[simp] theorem aggK_f (x y : Option β) : aggK (some false) x y = y := rfl
theorem loadE_eq (t : TypeId) (n i : Nat) (k : V → Option β) : loadE P c st t n i k = getC c st n fun b => aggK (agg? P t) (szOf P t fun z => getsB b z i fun l => k (.g l)) ((b.get i).bind k) := by
  unfold loadE
  congr 1
  funext b
  cases agg? P t with
  | none => rfl
  | some a => cases a with
    | true => rfl
    | false => cases h : T.get b i <;> rfl
theorem getsB_zero (t : T V) (i : Nat) (k : List V → Option β) : getsB t 0 i k = k [] := rfl
theorem getsB_succ (t : T V) (n i : Nat) (k : List V → Option β) : getsB t (n + 1) i k = (t.get i).bind fun x => getsB t n (i + 1) fun l => k (x :: l) := by
  have h : getsB t (n + 1) i k = (match t.get i with | none => none | some x => fn (i + 1) fun i => getsB t n i fun l => k (x :: l)) := rfl
  rw [h]
  cases t.get i with
  | none => rfl
  | some x => simp
/-- so many cells, told by a list -/
theorem getsB_list {t : T V} : ∀ {l : List V} {i : Nat}, (∀ j x, l[j]? = some x → t.get (i + j) = some x) → ∀ k : List V → Option β, getsB t l.length i k = k l
  | [], _, _, _ => rfl
  | x :: l, i, h, k => by
    show getsB t (l.length + 1) i k = _
    rw [getsB_succ, show t.get i = some x from h 0 x rfl]
    exact getsB_list (fun j y hj => by have := h (j + 1) y hj; rwa [show i + (j + 1) = i + 1 + j by omega] at this) _
theorem putB_eq (n i : Nat) (cs : List V) (k : St → Option β) : putB c st n i cs k = bif c.ok n then (st.h.get n).bind fun b => csK b fun ty sz t => (if i + cs.length ≤ sz ∧ ty ≠ roT ∧ c.wb ≤ n then k ⟨st.nx, st.h.set n (.cs ty sz (sets cs i t))⟩ else none) else none := by
  unfold putB
  rw [getB_eq]
  cases c.ok n with
  | false => rfl
  | true =>
    cases st.h.get n with
    | none => rfl
    | some b => cases b with
      | cs ty sz t =>
        simp only [Option.bind_some, cond_true, csK_cs]
        by_cases h1 : i + cs.length ≤ sz
        · have h1' : Nat.ble (i + cs.length) sz = true := by rw [Nat.ble_eq]; exact h1
          by_cases h2 : ty = roT
          · have h2' : Nat.beq ty roT = true := by subst h2; rfl
            simp [h1', h2]
          · have h2' : Nat.beq ty roT = false := by
              cases h : Nat.beq ty roT with
              | false => rfl
              | true => exact absurd (Nat.eq_of_beq_eq_true h) h2
            simp only [h1', h2', setsK_eq, setB_eq]
            by_cases h3 : c.wb ≤ n <;> simp [h1, h2, h3]
        · have h1' : Nat.ble (i + cs.length) sz = false := by
            cases h : Nat.ble (i + cs.length) sz with
            | false => rfl
            | true => rw [Nat.ble_eq] at h; exact absurd h h1
          simp [h1', h1]
      | _ => rfl
theorem newC_is (ty : TypeId) (cs : List V) (k : Nat → St → Option β) : newC st ty cs k = k st.nx ⟨st.nx + 1, st.h.set st.nx (.cs ty cs.length (sets cs 0 .lf))⟩ := newC_eq ..
theorem newB_is (b : B) (k : Nat → St → Option β) : newB st b k = k st.nx ⟨st.nx + 1, st.h.set st.nx b⟩ := newB_eq ..
/-! ### types -/
theorem szOf_is {t : TypeId} {i : TypeInfo} (h : P.info? t = some i) (k : Nat → Option β) : szOf P t k = k i.size := by simp [szOf, h]
theorem elemOf_is {t el : TypeId} {i : TypeInfo} (h : P.underlying t = some (.slice el)) (hi : P.info? el = some i) (k : TypeId → Nat → Option β) : elemOf P t k = k el i.size := by simp [elemOf, h, szOf_is hi]
/-! ### rows -/
theorem idxE_sl {t el : TypeId} {z : Nat} (h : P.underlying t = some (.slice el)) (hz : ∀ k : Nat → Option β, szOf P el k = k z) (m o len cap i : Nat) (k : V → Option β) : idxE P t (.sl m o len cap) i k = if i < len then k (.p m (o + i * z)) else none := by
  unfold idxE
  rw [h]
  simp only [hz, fn_eq]
  by_cases hi : i < len
  · have : Nat.blt i len = true := by rw [Nat.blt_eq]; exact hi
    simp [this, hi]
  · have : Nat.blt i len = false := by
      cases hb : Nat.blt i len with
      | false => rfl
      | true => rw [Nat.blt_eq] at hb; exact absurd hb hi
    simp [this, hi]
theorem idxE_sg {t el : TypeId} {z : Nat} (h : P.underlying t = some (.slice el)) (hz : ∀ k : Nat → Option β, szOf P el k = k z) (m o len w i : Nat) (k : V → Option β) : idxE P t (.sg m o len w) i k = if i < len then k (.p m (o + i * z)) else none := by
  unfold idxE
  rw [h]
  simp only [hz, fn_eq]
  by_cases hi : i < len
  · have : Nat.blt i len = true := by rw [Nat.blt_eq]; exact hi
    simp [this, hi]
  · have : Nat.blt i len = false := by
      cases hb : Nat.blt i len with
      | false => rfl
      | true => rw [Nat.blt_eq] at hb; exact absurd hb hi
    simp [this, hi]
theorem idxE_arr {t el : TypeId} {n z : Nat} (h : P.underlying t = some (.array n el)) (hz : ∀ k : Nat → Option β, szOf P el k = k z) (m o i : Nat) (k : V → Option β) : idxE P t (.p m o) i k = if i < n then k (.p m (o + i * z)) else none := by
  unfold idxE
  rw [h]
  simp only [hz, fn_eq]
  by_cases hi : i < n
  · have : Nat.blt i n = true := by rw [Nat.blt_eq]; exact hi
    simp [this, hi]
  · have : Nat.blt i n = false := by
      cases hb : Nat.blt i n with
      | false => rfl
      | true => rw [Nat.blt_eq] at hb; exact absurd hb hi
    simp [this, hi]
@[simp] theorem lenA_nil (k : Nat → Option β) : lenA (.c (.slice none 0 0)) k = k 0 := rfl
@[simp] theorem lenA_sl (m o l q : Nat) (k : Nat → Option β) : lenA (.sl m o l q) k = k l := rfl
@[simp] theorem lenA_sg (m o l q : Nat) (k : Nat → Option β) : lenA (.sg m o l q) k = k l := rfl
@[simp] theorem lenA_e (k : Nat → Option β) : lenA .e k = k 0 := rfl
@[simp] theorem lenA_s (l : List Nat) (k : Nat → Option β) : lenA (.s l) k = k l.length := by simp [lenA]
/-! ### calls -/
def packR (st : St) (l : List V) : Res := match l with
  | [x] => some (x, st)
  | l => some (.t l, st)
@[simp] theorem packR_1 (x : V) : packR st [x] = some (x, st) := rfl
@[simp] theorem packR_0 : packR st [] = some (.t [], st) := rfl
@[simp] theorem packR_2 (x y : V) (l : List V) : packR st (x :: y :: l) = some (.t (x :: y :: l), st) := rfl
def retK (P : Program) (c : Cx) (fn : Func) (Q : V × St → Prop) : X × Env × St → Prop
  | (.ex _, _, _) => False
  | (_, e, st) => Gd (resOf P c e st fn.results.toList (packR st)) Q
@[simp] theorem retK_n (fn : Func) (Q : V × St → Prop) : retK P c fn Q (.n, e, st) = Gd (resOf P c e st fn.results.toList (packR st)) Q := rfl
@[simp] theorem retK_ret (fn : Func) (Q : V × St → Prop) : retK P c fn Q (.ret, e, st) = Gd (resOf P c e st fn.results.toList (packR st)) Q := rfl
@[simp] theorem retK_ex (fn : Func) (Q : V × St → Prop) (i : Nat) : retK P c fn Q (.ex i, e, st) = False := rfl
theorem Gd_callOf {F : CodeF} {f : Nat} {fn : Func} {code : Code} (hf : P.funcs[f]? = some fn) (hb : fn.body = some code) (args : List V) (Q : V × St → Prop) :
    Gd (callOf P F c f args st) Q = Gd (F ⟨c.all, c.l, c.wb, fn.ntmps⟩ code (sets args 0 .lf) st) (retK P c fn Q) := by
  unfold callOf
  rw [lget_eq, Array.getElem?_toList, hf]
  simp only [hb, initE_eq]
  cases h : F ⟨c.all, c.l, c.wb, fn.ntmps⟩ code (sets args 0 .lf) st with
  | none => simp
  | some r =>
    obtain ⟨x, e1, st1⟩ := r
    cases x with
    | ex i => simp
    | n =>
      simp only [Gd_some, retK_n]
      congr 2
    | ret =>
      simp only [Gd_some, retK_ret]
      congr 2
theorem Gd_callL {f : Nat} {fn : Func} {code : Code} (hf : P.funcs[f]? = some fn) (hb : fn.body = some code) (args : List V) (Q : V × St → Prop) :
    Gd (callL P c f args st) Q = Gd ((callee P).E ⟨c.all, c.l, c.wb, fn.ntmps⟩ code (sets args 0 .lf) st) (retK P c fn Q) := Gd_callOf hf hb args Q
/-- a loop: what holds ahead of each round; what grows less -/
theorem Gd_loop {M : Mach P} (I : Env → St → Prop) (μ : Env → St → Nat) {b : Code} {Q : X × Env × St → Prop} (h0 : I e st)
    (h : ∀ e st, I e st → Gd (M.E c b e st) (seqK (fun e' st' => I e' st' ∧ μ e' st' < μ e st) Q)) : Gd (M.E c (.loop b) e st) Q := by
  have key : ∀ n e st, μ e st = n → I e st → Gd (M.E c (.loop b) e st) Q := by
    intro n
    induction n using Nat.strongRecOn with
    | _ n ih =>
      intro e st hn hI
      obtain ⟨⟨x, e1, st1⟩, h1, h2⟩ := h e st hI
      rw [evL_at]
      simp only [stepF]
      rw [h1]
      cases x with
      | n =>
        obtain ⟨hI1, hlt⟩ := h2
        exact ih (μ e1 st1) (hn ▸ hlt) e1 st1 rfl hI1
      | ex i => exact ⟨_, rfl, h2⟩
      | ret => exact ⟨_, rfl, h2⟩
  exact key _ e st rfl h0
/-! ### what stays -/
/-- all below b is as it was; more may be there -/
structure Ext (b : Nat) (st st' : St) : Prop where
  le : st.nx ≤ st'.nx
  wf : Wf st → Wf st'
  keep : ∀ n, n < b → st'.h.get n = st.h.get n
theorem Ext.refl (b : Nat) (st : St) : Ext b st st := ⟨Nat.le_refl _, fun h => h, fun _ _ => rfl⟩
theorem Ext.trans {b : Nat} {s1 s2 s3 : St} (h : Ext b s1 s2) (k : Ext b s2 s3) : Ext b s1 s3 := ⟨Nat.le_trans h.le k.le, fun w => k.wf (h.wf w), fun n hn => (k.keep n hn).trans (h.keep n hn)⟩
theorem Ext.mono {b b' : Nat} {s1 s2 : St} (h : Ext b s1 s2) (k : b' ≤ b) : Ext b' s1 s2 := ⟨h.le, h.wf, fun n hn => h.keep n (Nat.lt_of_lt_of_le hn k)⟩
theorem Ext.new {b : Nat} {s1 s2 : St} (h : Ext b s1 s2) (hb : b ≤ s2.nx) (x : B) : Ext b s1 ⟨s2.nx + 1, s2.h.set s2.nx x⟩ :=
  ⟨Nat.le_trans h.le (Nat.le_succ _), fun w n hn => by
    have hn' : s2.nx + 1 ≤ n := hn
    show (s2.h.set s2.nx x).get n = none
    rw [T.get_set_ne _ _ (by omega)]
    exact h.wf w n (by omega), fun n hn => by
    show (s2.h.set s2.nx x).get n = _
    rw [T.get_set_ne _ _ (by omega)]
    exact h.keep n hn⟩
theorem Ext.set {b : Nat} {s1 s2 : St} (h : Ext b s1 s2) {m : Nat} (hm : b ≤ m) (hlt : m < s2.nx) (x : B) : Ext b s1 ⟨s2.nx, s2.h.set m x⟩ :=
  ⟨h.le, fun w n hn => by
    have hn' : s2.nx ≤ n := hn
    show (s2.h.set m x).get n = none
    rw [T.get_set_ne _ _ (by omega)]
    exact h.wf w n (by omega), fun n hn => by
    show (s2.h.set m x).get n = _
    rw [T.get_set_ne _ _ (by omega)]
    exact h.keep n hn⟩
end
end Go.Proofs.Ytcjddojcfdeflaa.Ev
namespace Go.Proofs.Ytcjddojcfdeflaa.Ev
open Go.RowKit
noncomputable def infoOk (P : Program) (el z : Nat) : Bool := match P.info? el with
  | some i => Nat.beq i.size z && Nat.ble i.bytes 1024 && Nat.ble 1 z && (match i.zero with | some v => Nat.beq v.cells.size i.size | none => false)
  | none => false
theorem T.setP_setP {α : Type} (v w : α) : ∀ (p : List Bool) (t : T α), T.setP p v (T.setP p w t fun t => t) (fun t => t) = T.setP p v t fun t => t
  | [], t => by cases t <;> rfl
  | false :: p, .lf => by
    have h : ∀ u : α, T.setP (false :: p) u (.lf : T α) (fun t => t) = .nd .lf none (T.setP p u .lf fun t => t) := fun u => T.setP_eq u p .lf _
    have h2 : ∀ (u : α) (r : T α), T.setP (false :: p) u (.nd .lf none r) (fun t => t) = .nd .lf none (T.setP p u r fun t => t) := fun u r => T.setP_eq u p r _
    rw [h, h2, h, T.setP_setP v w p .lf]
  | false :: p, .nd l o r => by
    have h2 : ∀ (u : α) (r : T α), T.setP (false :: p) u (.nd l o r) (fun t => t) = .nd l o (T.setP p u r fun t => t) := fun u r => T.setP_eq u p r _
    rw [h2, h2, h2, T.setP_setP v w p r]
  | true :: p, .lf => by
    have h : ∀ u : α, T.setP (true :: p) u (.lf : T α) (fun t => t) = .nd (T.setP p u .lf fun t => t) none .lf := fun u => T.setP_eq u p .lf _
    have h2 : ∀ (u : α) (r : T α), T.setP (true :: p) u (.nd r none .lf) (fun t => t) = .nd (T.setP p u r fun t => t) none .lf := fun u r => T.setP_eq u p r _
    rw [h, h2, h, T.setP_setP v w p .lf]
  | true :: p, .nd l o r => by
    have h2 : ∀ (u : α) (l : T α), T.setP (true :: p) u (.nd l o r) (fun t => t) = .nd (T.setP p u l fun t => t) o r := fun u r => T.setP_eq u p r _
    rw [h2, h2, h2, T.setP_setP v w p l]
@[simp] theorem T.set_set {α : Type} (t : T α) (n : Nat) (v w : α) : (t.set n w).set n v = t.set n v := T.setP_setP v w _ t
/-- how much is left to a counter -/
noncomputable def muAt (t n : Nat) (e : Env) : Nat := match e.get t with
  | some (.c (.int _ k)) => n - k.toNat
  | _ => 0
theorem muAt_eq {t n : Nat} {e : Env} {i : IntKind} {k : Int} (h : e.get t = some (.int i k)) : muAt t n e = n - k.toNat := by simp [muAt, h]
theorem muAt_lt {t n : Nat} {e e' : Env} {i : IntKind} {j : Nat} (h : e.get t = some (.int i (j : Int))) (h' : e'.get t = some (.int i ((j + 1 : Nat) : Int))) (hj : j < n) : muAt t n e' < muAt t n e := by
  rw [muAt_eq h, muAt_eq h']
  omega
section
variable {P : Program} {c : Cx} {e : Env} {st : St} {β : Type}
theorem infoOk_small {el z : Nat} (h : infoOk P el z = true) {n : Nat} (hn : n ≤ 1073741824) : small P el n = true := by
  unfold infoOk at h
  unfold small
  split at h
  · rename_i i hi
    simp only [Bool.and_eq_true] at h
    obtain ⟨⟨⟨h1, h2⟩, h3⟩, h4⟩ := h
    have e1 := Nat.eq_of_beq_eq_true h1
    subst e1
    have hb : Nat.ble n 1073741824 = true := by rw [Nat.ble_eq]; exact hn
    rw [hi]
    simp only [hb, h2, h3]
    split at h4
    · rename_i v hv; simp only [hv]; exact h4
    · cases h4
  · cases h
theorem infoOk_sz {el z : Nat} (h : infoOk P el z = true) (k : Nat → Option β) : szOf P el k = k z := by
  unfold infoOk at h
  unfold szOf
  split at h
  · rename_i i hi
    simp only [Bool.and_eq_true] at h
    rw [hi]
    show k i.size = k z
    rw [Nat.eq_of_beq_eq_true h.1.1.1]
  · cases h
theorem infoOk_pos {el z : Nat} (h : infoOk P el z = true) : 1 ≤ z := by
  unfold infoOk at h
  split at h
  · simp only [Bool.and_eq_true] at h
    exact Nat.le_of_ble_eq_true h.1.2
  · cases h
theorem elemOf_ok {t el z : Nat} (hu : P.underlying t = some (.slice el)) (h : infoOk P el z = true) (k : TypeId → Nat → Option β) : elemOf P t k = k el z := by
  unfold elemOf
  rw [hu]
  exact infoOk_sz h _
/-- a row made by these calls, in a block of its own not below b -/
def OwnRow (b : Nat) (st : St) (x : V) (z n : Nat) (l : List V) : Prop := l.length = n * z ∧ ((x = .c (.slice none 0 0) ∧ n = 0) ∨ (∃ m ty t, x = .sg m 0 n z ∧ b ≤ m ∧ m < st.nx ∧ st.h.get m = some (.cs ty (n * z) t) ∧ ty ≠ roT ∧ ∀ j v, l[j]? = some v → t.get j = some v))
/-- a row that can be read: its elements' cells -/
def RdRow (st : St) (x : V) (z n : Nat) (l : List V) : Prop := l.length = n * z ∧ (((x = .c (.slice none 0 0) ∨ x = .e) ∧ n = 0) ∨ (∃ m o q ty sz t, x = .sl m o n q ∧ m < st.nx ∧ st.h.get m = some (.cs ty sz t) ∧ o + n * z ≤ sz ∧ ∀ j v, l[j]? = some v → t.get (o + j) = some v) ∨ (∃ m o ty sz t, x = .sg m o n z ∧ m < st.nx ∧ st.h.get m = some (.cs ty sz t) ∧ o + n * z ≤ sz ∧ ∀ j v, l[j]? = some v → t.get (o + j) = some v))
theorem OwnRow.rd {b : Nat} {x : V} {z n : Nat} {l : List V} (h : OwnRow b st x z n l) : RdRow st x z n l := by
  obtain ⟨h1, h2⟩ := h
  refine ⟨h1, ?_⟩
  rcases h2 with h2 | ⟨m, ty, t, rfl, _, h3, h4, _, h5⟩
  · exact .inl ⟨.inl h2.1, h2.2⟩
  · exact .inr (.inr ⟨m, 0, ty, _, t, rfl, h3, h4, by omega, fun j v hj => by rw [Nat.zero_add]; exact h5 j v hj⟩)
theorem RdRow.ext {st' : St} {x : V} {z n : Nat} {l : List V} (h : RdRow st x z n l) (k : Ext st.nx st st') : RdRow st' x z n l := by
  obtain ⟨h1, h2⟩ := h
  refine ⟨h1, ?_⟩
  have := k.le
  rcases h2 with h2 | ⟨m, o, q, ty, sz, t, rfl, h3, h4, h5⟩ | ⟨m, o, ty, sz, t, rfl, h3, h4, h5⟩
  · exact .inl h2
  · exact .inr (.inl ⟨m, o, q, ty, sz, t, rfl, by omega, by rw [k.keep m h3]; exact h4, h5⟩)
  · exact .inr (.inr ⟨m, o, ty, sz, t, rfl, by omega, by rw [k.keep m h3]; exact h4, h5⟩)
theorem RdRow.len {x : V} {z n : Nat} {l : List V} (h : RdRow st x z n l) (k : Nat → Option β) : lenA x k = k n := by
  obtain ⟨_, h2⟩ := h
  rcases h2 with ⟨rfl | rfl, rfl⟩ | ⟨m, o, q, ty, sz, t, rfl, _⟩ | ⟨m, o, ty, sz, t, rfl, _⟩ <;> rfl
/-- a row that lies below b stays -/
theorem RdRow.keep {b : Nat} {s0 : St} {x : V} {z n : Nat} {l : List V} (h : RdRow s0 x z n l) (hb : s0.nx ≤ b) (k : Ext b s0 st) : RdRow st x z n l := h.ext (k.mono hb)
theorem OwnRow.ext {b : Nat} {st' : St} {x : V} {z n : Nat} {l : List V} (h : OwnRow b st x z n l) (k : Ext st.nx st st') : OwnRow b st' x z n l := by
  obtain ⟨h1, h2⟩ := h
  refine ⟨h1, ?_⟩
  have := k.le
  rcases h2 with h2 | ⟨m, ty, t, rfl, h3, h4, h5, h6⟩
  · exact .inl h2
  · exact .inr ⟨m, ty, t, rfl, h3, by omega, by rw [k.keep m h4]; exact h5, h6⟩
theorem OwnRow.nil (b : Nat) (st : St) (z : Nat) : OwnRow b st (.c (.slice none 0 0)) z 0 [] := ⟨by simp, .inl ⟨rfl, rfl⟩⟩
theorem getsB_1 (t : T V) (i : Nat) (k : List V → Option β) : getsB t 1 i k = (t.get i).bind fun x => k [x] := by rw [getsB_succ]; rfl
theorem getsB_2 (t : T V) (i : Nat) (k : List V → Option β) : getsB t 2 i k = (t.get i).bind fun x => (t.get (i + 1)).bind fun y => k [x, y] := by
  rw [getsB_succ]; congr 1; funext x; rw [getsB_1]
theorem getsB_3 (t : T V) (i : Nat) (k : List V → Option β) : getsB t 3 i k = (t.get i).bind fun x => (t.get (i + 1)).bind fun y => (t.get (i + 1 + 1)).bind fun z => k [x, y, z] := by
  rw [getsB_succ]; congr 1; funext x; rw [getsB_2]
/-- len, of a row -/
noncomputable def lenS (st : St) (x : V) : Res := match x with
  | .s _ => none
  | x => lenA x fun n => some (.int .i64 (.ofNat n), st)
theorem RdRow.lenS {x : V} {z n : Nat} {l : List V} (h : RdRow st x z n l) (s : St) : lenS s x = some (.int .i64 (n : Int), s) := by
  obtain ⟨_, h2⟩ := h
  rcases h2 with ⟨rfl | rfl, rfl⟩ | ⟨m, o, q, ty, sz, t, rfl, _⟩ | ⟨m, o, ty, sz, t, rfl, _⟩ <;> rfl
theorem len_slice {t el : Nat} (hu : P.underlying t = some (.slice el)) (x : V) : builtinE P c .len [t] [x] st = lenS st x := by
  unfold builtinE
  simp only [hu]
  cases x <;> rfl
/-- a cell of a row -/
theorem RdRow.idx {t el z n : Nat} {x : V} {l : List V} (hu : P.underlying t = some (.slice el)) (hi : infoOk P el z = true) (h : RdRow st x z n l) {i : Nat} (hlt : i < n) :
    ∃ m o ty sz tr, (∀ k : V → Res, idxE P t x i k = k (.p m o)) ∧ m < st.nx ∧ st.h.get m = some (.cs ty sz tr) ∧ o + z ≤ sz ∧ ∀ j v, j < z → l[i * z + j]? = some v → tr.get (o + j) = some v := by
  have hz := infoOk_pos hi
  have hle : i * z + z ≤ n * z := by rw [← Nat.succ_mul]; exact Nat.mul_le_mul_right z hlt
  obtain ⟨h1, h2⟩ := h
  rcases h2 with ⟨_, rfl⟩ | ⟨m, o, q, ty, sz, tr, rfl, h3, h4, h5, h6⟩ | ⟨m, o, ty, sz, tr, rfl, h3, h4, h5, h6⟩
  · omega
  · refine ⟨m, o + i * z, ty, sz, tr, fun k => ?_, h3, h4, by omega, fun j v hj hv => ?_⟩
    · rw [idxE_sl hu (fun k => infoOk_sz hi k), if_pos hlt]
    · rw [Nat.add_assoc]; exact h6 _ _ hv
  · refine ⟨m, o + i * z, ty, sz, tr, fun k => ?_, h3, h4, by omega, fun j v hj hv => ?_⟩
    · rw [idxE_sg hu (fun k => infoOk_sz hi k), if_pos hlt]
    · rw [Nat.add_assoc]; exact h6 _ _ hv
/-- what stands behind an append -/
theorem Gd_seqJ {M : Mach P} {a b : Code} {Q : X × Env × St → Prop} (J : X × Env × St → Prop) (h : Gd (M.E c a e st) J) (k : ∀ r, J r → seqC M c b Q r) : Gd (M.E c (.seq a b) e st) Q := by
  rw [Gd_seq]; exact Gd.mono h k
/-- behind a statement that goes on -/
def JE (P : Env → St → Prop) (r : X × Env × St) : Prop := ∃ (e : Env) (s : St), r = (.n, e, s) ∧ P e s
theorem Gd_appE {b el z n lx nt : Nat} {s : V} {l new : List V} {Q : V × St → Prop} (hi : infoOk P el z = true)
    (h : OwnRow b st s z n l) (hb : b ≤ st.nx) (hel : el ≠ roT) (hn : new.length = lx * z)
    (hQ : ∀ s' st', OwnRow b st' s' z (n + lx) (l ++ new) → Ext b st st' → (∀ m, m < st.nx → (∀ o ln, s ≠ .sg m o ln z) → st'.h.get m = st.h.get m) → (s' = s ∨ ∃ ln, s' = .sg st.nx 0 ln z) → Q (s', st')) : Gd (appE ⟨false, [], 0, nt⟩ st el z n lx s new) Q := by
  have hz := infoOk_pos hi
  obtain ⟨h1, h2⟩ := h
  have hlen : (l ++ new).length = (n + lx) * z := by rw [List.length_append, h1, hn, Nat.add_mul]
  unfold appE
  rw [fn_eq]
  rcases h2 with ⟨rfl, rfl⟩ | ⟨m, ty, tr, rfl, h3, h4, h5, h6, h7⟩
  · have hl0 : l = [] := List.eq_nil_of_length_eq_zero (by rw [h1]; simp)
    subst hl0
    cases lx with
    | zero =>
      have hn0 : new = [] := List.eq_nil_of_length_eq_zero (by rw [hn]; simp)
      subst hn0
      exact ⟨_, rfl, hQ _ _ ⟨by simp, .inl ⟨rfl, rfl⟩⟩ (Ext.refl _ _) (fun _ _ _ => rfl) (.inl rfl)⟩
    | succ k =>
      have e2 : growE ⟨false, [], 0, nt⟩ st el z 0 (0 + (k + 1)) (.c (.slice none 0 0)) new = some (.sg st.nx 0 (0 + (k + 1)) z, ⟨st.nx + 1, st.h.set st.nx (.cs el new.length (sets new 0 .lf))⟩) := by
        have : growE ⟨false, [], 0, nt⟩ st el z 0 (0 + (k + 1)) (.c (.slice none 0 0)) new = newC st el ([] ++ new) fun n st => some (.sg n 0 (0 + (k + 1)) z, st) := rfl
        rw [this, newC_is]
        rfl
      refine ⟨_, e2, hQ _ _ ⟨hlen, .inr ⟨st.nx, el, sets new 0 .lf, rfl, hb, Nat.lt_succ_self _, ?_, hel, fun j v hj => ?_⟩⟩ ((Ext.refl b st).new hb _) (fun m hm _ => ?_) (.inr ⟨_, rfl⟩)⟩
      · show (st.h.set st.nx _).get st.nx = _
        rw [T.get_set_same, hn, Nat.zero_add]
      · rw [get_sets]
        have hlt : j < new.length := by
          rcases Nat.lt_or_ge j new.length with h | h
          · exact h
          · rw [List.nil_append, List.getElem?_eq_none h] at hj; cases hj
        rw [if_pos (by omega)]
        exact hj
      · exact T.get_set_ne _ _ (by omega)
  · have hro : Nat.beq ty roT = false := by
      cases h : Nat.beq ty roT with
      | false => rfl
      | true => exact absurd (Nat.eq_of_beq_eq_true h) h6
    have hzz : Nat.beq z z = true := Nat.beq_refl z
    simp only [hzz]
    rw [getB_get m _ _ rfl h5]
    simp only [hro]
    cases lx with
    | zero =>
      have hn0 : new = [] := List.eq_nil_of_length_eq_zero (by rw [hn]; simp)
      subst hn0
      have hble : Nat.ble (0 + (n + 0) * z) (n * z) = true := by rw [Nat.ble_eq]; simp
      simp only [hble, fn_eq]
      rw [putB_eq, h5]
      have hc : 0 + n * z + ([] : List V).length ≤ n * z ∧ ty ≠ roT ∧ 0 ≤ m := ⟨by simp, h6, Nat.zero_le _⟩
      simp only [ok_top, inF_nil, Bool.not_false, cond_true, Option.bind_some, csK_cs, if_pos hc]
      refine ⟨_, rfl, hQ _ _ ⟨hlen, .inr ⟨m, ty, tr, rfl, h3, h4, ?_, h6, fun j v hj => ?_⟩⟩ ((Ext.refl b st).set h3 h4 _) (fun m' hm hne => ?_) (.inl rfl)⟩
      · show (st.h.set m _).get m = _
        rw [T.get_set_same]
        rfl
      · rw [List.append_nil] at hj; exact h7 j v hj
      · exact T.get_set_ne _ _ (fun e => by subst e; exact hne _ _ rfl)
    | succ k =>
      have hble : Nat.ble (0 + (n + (k + 1)) * z) (n * z) = false := by
        cases h : Nat.ble (0 + (n + (k + 1)) * z) (n * z) with
        | false => rfl
        | true =>
          rw [Nat.ble_eq] at h
          have : (n + (k + 1)) * z = n * z + (k + 1) * z := Nat.add_mul ..
          have h2 : 1 * 1 ≤ (k + 1) * z := Nat.mul_le_mul (by omega) hz
          omega
      have hbeq : Nat.beq (0 + n * z) (n * z) = true := by rw [Nat.zero_add]; exact Nat.beq_refl _
      simp only [hble, hbeq, setB_eq, Nat.zero_le, if_pos]
      rw [setsK_eq, fn_eq, fn_eq, newB_is]
      refine ⟨_, rfl, hQ _ _ ⟨hlen, .inr ⟨st.nx, tyM ty el, sets new (n * z) tr, rfl, hb, Nat.lt_succ_self _, ?_, tyM_ro ty hel, fun j v hj => ?_⟩⟩ (((Ext.refl b st).set h3 h4 _).new hb _) (fun m' hm hne => ?_) (.inr ⟨_, rfl⟩)⟩
      · show ((st.h.set m .gone).set st.nx _).get st.nx = _
        rw [T.get_set_same, hn, Nat.add_mul n (k + 1) z]
      · rw [get_sets]
        rcases Nat.lt_or_ge j l.length with hj1 | hj1
        · rw [if_neg (by omega)]
          rw [List.getElem?_append_left hj1] at hj
          exact h7 j v hj
        · rw [List.getElem?_append_right hj1] at hj
          have hlt : j - l.length < new.length := by
            rcases Nat.lt_or_ge (j - l.length) new.length with h | h
            · exact h
            · rw [List.getElem?_eq_none h] at hj; cases hj
          rw [if_pos (by omega), ← h1]
          exact hj
      · show ((st.h.set m .gone).set st.nx _).get m' = _
        rw [T.get_set_ne _ _ (by omega), T.get_set_ne _ _ (fun e => by subst e; exact hne _ _ rfl)]
/-! ### stores, built rows -/
theorem Gd_append {b t t' el el' z n lx nt : Nat} {s x : V} {l new : List V} {Q : V × St → Prop} (hu : P.underlying t = some (.slice el)) (hk : P.underlying t' = some (.slice el')) (hi : infoOk P el z = true)
    (h : OwnRow b st s z n l) (hb : b ≤ st.nx) (hel : el ≠ roT) (hx : ∀ s', x ≠ .s s') (hl : ∀ k : Nat → Res, lenA x k = k lx) (hf : ∀ k : List V → Res, firsts ⟨false, [], 0, nt⟩ st z lx x k = k new) (hn : new.length = lx * z) (hmax : n + lx ≤ 1073741824)
    (hQ : ∀ s' st', OwnRow b st' s' z (n + lx) (l ++ new) → Ext b st st' → (∀ m, m < st.nx → (∀ o ln, s ≠ .sg m o ln z) → st'.h.get m = st.h.get m) → (s' = s ∨ ∃ ln, s' = .sg st.nx 0 ln z) → Q (s', st')) : Gd (builtinE P ⟨false, [], 0, nt⟩ .append [t, t'] [s, x] st) Q := by
  have hls : ∀ k : Nat → Res, lenA s k = k n := h.rd.len
  have e1 : builtinE P ⟨false, [], 0, nt⟩ .append [t, t'] [s, x] st = appE ⟨false, [], 0, nt⟩ st el z n lx s new := by
    unfold builtinE
    simp only [elemOf_ok hu hi, hls, hk]
    cases x with
    | s s' => exact absurd rfl (hx s')
    | _ => simp only [hl, hf, infoOk_small hi hmax]
  rw [e1]
  exact Gd_appE hi h hb hel hn hQ
theorem Gd_appendMk {b t t' el z n m nt : Nat} {k : IntKind} {s : V} {l zs : List V} {Q : V × St → Prop} (hu : P.underlying t = some (.slice el)) (hk : P.underlying t' = some (.int k)) (hi : infoOk P el z = true) (hzs : ∀ kk : List V → Res, zero P el kk = kk zs) (hzl : zs.length = z)
    (h : OwnRow b st s z n l) (hpos : 0 < n) (hb : b ≤ st.nx) (hel : el ≠ roT) (hmax : n + m ≤ 1073741824)
    (hQ : ∀ s' st', OwnRow b st' s' z (n + m) (l ++ rep zs m) → Ext b st st' → (∀ q, q < st.nx → (∀ o ln, s ≠ .sg q o ln z) → st'.h.get q = st.h.get q) → (s' = s ∨ ∃ ln, s' = .sg st.nx 0 ln z) → Q (s', st')) : Gd (builtinE P ⟨false, [], 0, nt⟩ .append [t, t'] [s, .c (.int .i64 (m : Int))] st) Q := by
  have hls : ∀ k : Nat → Res, lenA s k = k n := h.rd.len
  have e1 : builtinE P ⟨false, [], 0, nt⟩ .append [t, t'] [s, .c (.int .i64 (Int.ofNat m))] st = appE ⟨false, [], 0, nt⟩ st el z n m s (rep zs m) := by
    rcases h.2 with ⟨_, h2⟩ | ⟨q, ty, tr, rfl, _⟩
    · omega
    · unfold builtinE
      simp only [elemOf_ok hu hi, hls, hk, hzs, infoOk_small hi hmax]
  show Gd (builtinE P ⟨false, [], 0, nt⟩ .append [t, t'] [s, .c (.int .i64 (Int.ofNat m))] st) Q
  rw [e1]
  exact Gd_appE hi h hb hel (by rw [rep_length, hzl]) hQ
theorem storeK_g (t : TypeId) (n i : Nat) (l : List V) : storeK P c st t n i (.g l) = szOf P t fun z => if l.length = z then putB c st n i l fun st => some (.u, st) else none := by
  have h0 : storeK P c st t n i (.g l) = (szOf P t fun z => match Nat.beq l.length z with | true => putB c st n i l fun st => (some (V.u, st) : Res) | false => none) := rfl
  rw [h0]
  congr 1
  funext z
  by_cases h : l.length = z
  · subst h; simp
  · have : Nat.beq l.length z = false := by
      cases hb : Nat.beq l.length z with
      | false => rfl
      | true => exact absurd (Nat.eq_of_beq_eq_true hb) h
    simp [this, h]
theorem storeK_1 {v : V} (hv : v.one = true) (t : TypeId) (n i : Nat) : storeK P c st t n i v = szOf P t fun z => if 1 = z then putB c st n i [v] fun st => some (.u, st) else none := by
  have h1 : storeK P c st t n i v = (szOf P t fun z => match Nat.beq ([v] : List V).length z with | true => putB c st n i [v] fun st => some (.u, st) | false => none) := by
    cases v <;> first | rfl | cases hv
  rw [h1]
  congr 1
  funext z
  by_cases h : 1 = z
  · subst h; simp
  · have : Nat.beq 1 z = false := by
      cases hb : Nat.beq 1 z with
      | false => rfl
      | true => exact absurd (Nat.eq_of_beq_eq_true hb) h
    simp [this, h]
@[simp] theorem storeK_c (v : Value) (t : TypeId) (n i : Nat) : storeK P c st t n i (.c v) = szOf P t fun z => if 1 = z then putB c st n i [.c v] fun st => some (.u, st) else none := storeK_1 rfl t n i
@[simp] theorem storeK_p (a b : Nat) (t : TypeId) (n i : Nat) : storeK P c st t n i (.p a b) = szOf P t fun z => if 1 = z then putB c st n i [.p a b] fun st => some (.u, st) else none := storeK_1 rfl t n i
@[simp] theorem storeK_sl (a b l q : Nat) (t : TypeId) (n i : Nat) : storeK P c st t n i (.sl a b l q) = szOf P t fun z => if 1 = z then putB c st n i [.sl a b l q] fun st => some (.u, st) else none := storeK_1 rfl t n i
@[simp] theorem storeK_sg (a b l q : Nat) (t : TypeId) (n i : Nat) : storeK P c st t n i (.sg a b l q) = szOf P t fun z => if 1 = z then putB c st n i [.sg a b l q] fun st => some (.u, st) else none := storeK_1 rfl t n i
/-- a value that lies in one cell -/
theorem RdRow.one {x : V} {z n : Nat} {l : List V} (h : RdRow st x z n l) : x.one = true := by
  obtain ⟨_, h2⟩ := h
  rcases h2 with ⟨rfl | rfl, rfl⟩ | ⟨m, o, q, ty, sz, t, rfl, _⟩ | ⟨m, o, ty, sz, t, rfl, _⟩ <;> rfl
/-- a literal row of one element: the operation's answer -/
theorem evOp_build1 {F : CallF} {d : Option Nat} {t ty el z : Nat} {p : String} {af : Array Edge} {g : Option (Nat × Bool)} {x : Operand} {Q : V × St → Prop} {cs zs : List V} {v : V}
    (hu : ∀ k : TypeId → Nat → Res, Ev.elemOf P t k = k el z) (hz : ∀ k : List V → Res, zero P el k = k zs) (hzl : zs.length = z) (hz1 : z ≤ 16777216) (hv : opv e x = some v) (hc : ∀ k : List V → Res, cellsOf v k = k cs) (hcl : cs.length = z)
    (hQ : Q (.sl st.nx 0 1 1, ⟨st.nx + 1, st.h.set st.nx (.cs el z (sets cs 0 .lf))⟩)) : Gd (evOp P F c e st ⟨d, .buildSlice t 1 #[(0, x)], ty, p, af, g⟩) Q := by
  have hopd : ∀ k : V → Res, opd e x k = k v := fun k => by
    have : opd e x k = (opv e x).bind k := by rw [opd_bind]; rfl
    rw [this, hv]; rfl
  have h1 : evOp P F c e st ⟨d, .buildSlice t 1 #[(0, x)], ty, p, af, g⟩ = Ev.elemOf P t fun el z => zero P el fun zs => opd e x fun v => (match Nat.beq zs.length z, Nat.ble (1 * z) 16777216 with
    | true, true => partsK (fun i => some (i * z, z)) [(0, x)] [v] (rep zs 1) fun l => newC st el l fun n st => (some (.sl n 0 1 1, st) : Res)
    | _, _ => none) := rfl
  rw [h1, hu, hz, hopd]
  have b1 : Nat.beq zs.length z = true := by rw [hzl]; exact Nat.beq_refl z
  have b2 : Nat.ble (1 * z) 16777216 = true := by rw [Nat.ble_eq]; omega
  simp only [b1, b2]
  have h2 : partsK (fun i => some (i * z, z)) [(0, x)] [v] (rep zs 1) (fun l => newC st el l fun n st => (some (.sl n 0 1 1, st) : Res)) = cellsOf v fun cs => (match Nat.beq cs.length z with
      | true => splice (0 * z) cs (rep zs 1) fun l => newC st el l fun n st => (some (.sl n 0 1 1, st) : Res)
      | false => none) := rfl
  rw [h2, hc]
  have b3 : Nat.beq cs.length z = true := by rw [hcl]; exact Nat.beq_refl z
  simp only [b3]
  have hrep : rep zs 1 = zs ++ [] := rfl
  have h3 : splice (0 * z) cs (rep zs 1) (fun l => newC st el l fun n st => (some (.sl n 0 1 1, st) : Res)) = newC st el cs fun n st => some (.sl n 0 1 1, st) := by
    unfold splice
    have b4 : Nat.ble (0 * z + cs.length) (rep zs 1).length = true := by rw [Nat.ble_eq, hrep]; simp [hcl, hzl]
    simp only [b4]
    have : (rep zs 1).take (0 * z) ++ (cs ++ (rep zs 1).drop (0 * z + cs.length)) = cs := by
      rw [hrep]; simp [hcl, hzl]
    rw [this]
  rw [h3, newC_is, hcl]
  exact ⟨_, rfl, hQ⟩
@[simp] theorem resOf_nil (k : List V → Option (V × St)) : resOf P c e st [] k = k [] := rfl
@[simp] theorem resOf_tmp (t : Nat) (l : List ResultVar) (k : List V → Option (V × St)) : resOf P c e st (.tmp t :: l) k = (e.get t).bind fun x => resOf P c e st l fun r => k (x :: r) := by
  have h : resOf P c e st (.tmp t :: l) k = (match e.get t with
      | some x => resOf P c e st l fun r => k (x :: r)
      | _ => none) := rfl
  rw [h]
  cases e.get t <;> rfl
@[simp] theorem firsts_sl (z n m o l q : Nat) (k : List V → Option β) : firsts c st z n (.sl m o l q) k = if n ≤ l then getC c st m fun t => getsB t (n * z) o k else none := by
  unfold firsts
  by_cases h : n ≤ l
  · have : Nat.ble n l = true := by rw [Nat.ble_eq]; exact h
    simp [this, h]
  · have : Nat.ble n l = false := by
      cases hb : Nat.ble n l with
      | false => rfl
      | true => rw [Nat.ble_eq] at hb; exact absurd hb h
    simp [this, h]
theorem wrap_in {x : Int} (h1 : -9223372036854775808 ≤ x) (h2 : x ≤ 9223372036854775807) : IntKind.i64.wrap x = x := by
  rw [← wr_eq]
  show ws 18446744073709551616 9223372036854775808 x = x
  rw [ws_eq _ _ (by decide)]
  split <;> omega
theorem wrap_nat {n : Nat} (h : n < 9223372036854775807) : IntKind.i64.wrap ((n : Int) + 1) = ((n + 1 : Nat) : Int) := by
  rw [wrap_in (by omega) (by omega)]; omega
/-! ### regions that draw -/
noncomputable def ldC (v : Option V) (c : Cx) (l : List (Nat × Nat)) (nx : Nat) : Cx := match v with
  | some v => (match blkOf v with
    | some m => ⟨c.all, (0, m) :: (m + 1, nx) :: l, nx, c.nt⟩
    | none => ⟨true, [], nx, c.nt⟩)
  | none => ⟨true, [], nx, c.nt⟩
@[simp] theorem ldC_p (m o : Nat) (c : Cx) (l : List (Nat × Nat)) (nx : Nat) : ldC (some (.p m o)) c l nx = ⟨c.all, (0, m) :: (m + 1, nx) :: l, nx, c.nt⟩ := rfl
@[simp] theorem cxOf_load (d : Option Nat) (t ty : TypeId) (q : Nat) (p : String) (af : Array Edge) (g : Option (Nat × Bool)) (ops : List Oper) (i : Nat) (s0 : St) (rs : List (Nat × Nat × Nat)) : cxOf c ops ⟨d, .load t (.tmp q), ty, p, af, g⟩ i rs s0 e = ldC (e.get q) c (forb (befOf ops i) rs c.l) s0.nx := by
  have h : cxOf c ops ⟨d, .load t (.tmp q), ty, p, af, g⟩ i rs s0 e = (match e.get q with
      | some v => (match blkOf v with
        | some m => ⟨c.all, (0, m) :: (m + 1, s0.nx) :: forb (befOf ops i) rs c.l, s0.nx, c.nt⟩
        | none => ⟨true, [], s0.nx, c.nt⟩)
      | none => ⟨true, [], s0.nx, c.nt⟩) := rfl
  rw [h]
  cases e.get q <;> rfl
theorem cxOf_store {d : Option Nat} {t ty : TypeId} {x y : Operand} {p : String} {af : Array Edge} {g : Option (Nat × Bool)} {ops : List Oper} {i : Nat} {s0 : St} {rs : List (Nat × Nat × Nat)} (h : mayW ops i = true) : cxOf c ops ⟨d, .store t x y, ty, p, af, g⟩ i rs s0 e = ⟨c.all, forb (befOf ops i) rs c.l, c.wb, c.nt⟩ := by
  have h0 : cxOf c ops ⟨d, .store t x y, ty, p, af, g⟩ i rs s0 e = (match mayW ops i with
      | true => ⟨c.all, forb (befOf ops i) rs c.l, c.wb, c.nt⟩
      | false => (match looseFor ops s0.h e i ⟨d, .store t x y, ty, p, af, g⟩ with
        | some l => ⟨c.all, l ++ forb (befOf ops i) rs c.l, c.wb, c.nt⟩
        | none => ⟨c.all, forb (befOf ops i) rs c.l, s0.nx, c.nt⟩)) := rfl
  rw [h0, h]
@[simp] theorem forb_nil (b : Nat) (l : List (Nat × Nat)) : forb b [] l = l := rfl
theorem inF_cons (a b n : Nat) (l : List (Nat × Nat)) : inF ((a, b) :: l) n = if a ≤ n ∧ n < b then true else inF l n := by
  show (match Nat.ble a n with | true => (match Nat.blt n b with | true => true | false => inF l n) | false => inF l n) = _
  by_cases h1 : a ≤ n
  · have h1' : Nat.ble a n = true := by rw [Nat.ble_eq]; exact h1
    by_cases h2 : n < b
    · have h2' : Nat.blt n b = true := by rw [Nat.blt_eq]; exact h2
      simp [h1', h2', h1, h2]
    · have h2' : Nat.blt n b = false := by
        cases h : Nat.blt n b with
        | false => rfl
        | true => rw [Nat.blt_eq] at h; exact absurd h h2
      simp [h1', h2', h2]
  · have h1' : Nat.ble a n = false := by
      cases h : Nat.ble a n with
      | false => rfl
      | true => rw [Nat.ble_eq] at h; exact absurd h h1
    simp [h1', h1]
@[simp] theorem inF_own (m nx : Nat) : inF [(0, m), (m + 1, nx)] m = false := by
  rw [inF_cons, inF_cons, if_neg (by omega), if_neg (by omega)]; rfl
theorem Gd_cx {F : CallF} {ops : List Oper} {o : Oper} {i : Nat} {s0 : St} {rs : List (Nat × Nat × Nat)} {Q : V × St → Prop} {c' : Cx} (h : cxOf c ops o i rs s0 e = c') (k : Gd (evOp P F c' e st o) Q) : Gd (evOp P F (cxOf c ops o i rs s0 e) e st o) Q := by rw [h]; exact k
theorem Gd_cxB {ops : List Oper} {o : Oper} {i : Nat} {s0 : St} {rs : List (Nat × Nat × Nat)} {bt : Builtin} {ts : List TypeId} {args : List V} {Q : V × St → Prop} {c' : Cx} (h : cxOf c ops o i rs s0 e = c') (k : Gd (builtinE P c' bt ts args st) Q) : Gd (builtinE P (cxOf c ops o i rs s0 e) bt ts args st) Q := by rw [h]; exact k
@[simp] theorem rsOf_new (rs : List (Nat × Nat × Nat)) (i a : Nat) : rsOf rs i a (a + 1) = (i, a, a + 1) :: rs := by
  have : Nat.beq a (a + 1) = false := by
    cases h : Nat.beq a (a + 1) with
    | false => rfl
    | true => have := Nat.eq_of_beq_eq_true h; omega
  simp [rsOf, this]
/-! ### built values -/
noncomputable def bldK (P : Program) (t : TypeId) (parts : List (Nat × Operand)) (vs zs : List V) (st : St) : Res := match P.underlying t with
  | some (.struct fs) => partsK (fun i => match lget fs.toList i with | some f => (match P.info? f.type with | some ti => some (f.offset, ti.size) | none => none) | none => none) parts vs zs fun l => forceL l fun l => (match fs.toList.all fun f => (P.info? f.type).isSome with | true => some (.g l, st) | false => none)
  | some (.array _ el) => szOf P el fun z => partsK (fun i => some (i * z, z)) parts vs zs fun l => forceL l fun l => some (.g l, st)
  | _ => none
@[simp] theorem evOp_build {F : CallF} (d : Option Nat) (t ty : TypeId) (parts : Array (Nat × Operand)) (p : String) (af : Array Edge) (g : Option (Nat × Bool)) : evOp P F c e st ⟨d, .build t parts, ty, p, af, g⟩ = zero P t fun zs => opds e (parts.toList.map fun x => x.2) fun vs => bldK P t parts.toList vs zs st := rfl
theorem Gd_by {α : Type} {r : Option α} {a : α} {Q : α → Prop} (h : r = some a) (k : Q a) : Gd r Q := ⟨a, h, k⟩
/-! ### the lesser, the greater -/
theorem evOp_min {F : CallF} (d : Option Nat) (ty t1 t2 : TypeId) (x y : Operand) (p : String) (af : Array Edge) (g : Option (Nat × Bool)) : evOp P F c e st ⟨d, .call ⟨.builtin .min, #[x, y], #[t1, t2]⟩, ty, p, af, g⟩ = opds e [x, y] fun args => pick1 P .min [t1, t2] ty args st := rfl
theorem evOp_max {F : CallF} (d : Option Nat) (ty t1 t2 : TypeId) (x y : Operand) (p : String) (af : Array Edge) (g : Option (Nat × Bool)) : evOp P F c e st ⟨d, .call ⟨.builtin .max, #[x, y], #[t1, t2]⟩, ty, p, af, g⟩ = opds e [x, y] fun args => pick1 P .max [t1, t2] ty args st := rfl
/-! ### parts of rows -/
theorem sliceE_hi {t el z : Nat} (hu : P.underlying t = some (.slice el)) (hi : infoOk P el z = true) {x : Operand} {k : Nat} {i : IntKind} (hv : opv e x = some (.int i (k : Int))) (q o n : Nat) (hk : k ≤ n) (kk : V → Res) : sliceE P e t (.sg q o n z) none (some x) kk = kk (.sg q o k z) := by
  have hopd : ∀ f : V → Res, opd e x f = f (.int i (k : Int)) := fun f => by
    have : opd e x f = (opv e x).bind f := by rw [opd_bind]; rfl
    rw [this, hv]; rfl
  unfold sliceE
  rw [hu]
  simp only [infoOk_sz hi]
  have h1 : ∀ f : Nat → Res, bnd e n (some x) f = f k := fun f => by
    show opd e x (fun v => asNat v f) = f k
    rw [hopd]; rfl
  have h2 : ∀ f : Nat → Res, bnd e 0 none f = f 0 := fun f => rfl
  rw [h1, h2]
  have b1 : Nat.ble 0 k = true := by rw [Nat.ble_eq]; omega
  have b2 : Nat.ble k n = true := by rw [Nat.ble_eq]; exact hk
  have b3 : Nat.beq z z = true := Nat.beq_refl z
  have b4 : (Nat.beq 0 k && !Nat.beq 0 0) = false := by simp
  simp only [b1, b2, b3, b4, fn_eq]
  simp
theorem sliceE_lo {t el z : Nat} (hu : P.underlying t = some (.slice el)) (hi : infoOk P el z = true) {x : Operand} {k : Nat} {i : IntKind} (hv : opv e x = some (.int i (k : Int))) (q o n : Nat) (hk : k ≤ n) (kk : V → Res) : sliceE P e t (.sg q o n z) (some x) none kk = kk (if k = n ∧ k ≠ 0 then .e else .sg q (o + k * z) (n - k) z) := by
  have hopd : ∀ f : V → Res, opd e x f = f (.int i (k : Int)) := fun f => by
    have : opd e x f = (opv e x).bind f := by rw [opd_bind]; rfl
    rw [this, hv]; rfl
  unfold sliceE
  rw [hu]
  simp only [infoOk_sz hi]
  have h1 : ∀ f : Nat → Res, bnd e n none f = f n := fun f => rfl
  have h2 : ∀ f : Nat → Res, bnd e 0 (some x) f = f k := fun f => by
    show opd e x (fun v => asNat v f) = f k
    rw [hopd]; rfl
  rw [h1, h2]
  have b1 : Nat.ble k n = true := by rw [Nat.ble_eq]; exact hk
  have b2 : Nat.ble n n = true := by rw [Nat.ble_eq]; exact Nat.le_refl _
  have b3 : Nat.beq z z = true := Nat.beq_refl z
  simp only [b1, b2, b3]
  by_cases h : k = n ∧ k ≠ 0
  · have b4 : (Nat.beq k n && !Nat.beq k 0) = true := by
      obtain ⟨rfl, h0⟩ := h
      cases k with
      | zero => exact absurd rfl h0
      | succ k => rw [Nat.beq_refl]; rfl
    simp only [b4, if_pos h]
  · have b4 : (Nat.beq k n && !Nat.beq k 0) = false := by
      rw [Bool.eq_false_iff]
      intro hb
      simp only [Bool.and_eq_true] at hb
      refine h ⟨Nat.eq_of_beq_eq_true hb.1, fun e => ?_⟩
      subst e
      have := hb.2
      cases this
    simp only [b4, if_neg h, fn_eq]
theorem sliceE_nil_hi {t el z : Nat} (hu : P.underlying t = some (.slice el)) (hi : infoOk P el z = true) {x : Operand} {i : IntKind} (hv : opv e x = some (.int i ((0 : Nat) : Int))) (kk : V → Res) : sliceE P e t (.c (.slice none 0 0)) none (some x) kk = kk (.c (.slice none 0 0)) := by
  have hopd : ∀ f : V → Res, opd e x f = f (.int i ((0 : Nat) : Int)) := fun f => by
    have : opd e x f = (opv e x).bind f := by rw [opd_bind]; rfl
    rw [this, hv]; rfl
  unfold sliceE
  rw [hu]
  simp only [infoOk_sz hi]
  show opd e x (fun v => asNat v fun h => bnd e 0 none fun l => _) = _
  rw [hopd]
  rfl
theorem sliceE_nil_lo {t el z : Nat} (hu : P.underlying t = some (.slice el)) (hi : infoOk P el z = true) {x : Operand} {i : IntKind} (hv : opv e x = some (.int i ((0 : Nat) : Int))) (kk : V → Res) : sliceE P e t (.c (.slice none 0 0)) (some x) none kk = kk (.c (.slice none 0 0)) := by
  have hopd : ∀ f : V → Res, opd e x f = f (.int i ((0 : Nat) : Int)) := fun f => by
    have : opd e x f = (opv e x).bind f := by rw [opd_bind]; rfl
    rw [this, hv]; rfl
  unfold sliceE
  rw [hu]
  simp only [infoOk_sz hi]
  show opd e x (fun v => asNat v fun l => _) = _
  rw [hopd]
  rfl
/-- the first ones of a row -/
theorem Gd_slice_hi {b t el z n k : Nat} {i : IntKind} {y : V} {l : List V} {x : Operand} {Q : V × St → Prop} (hu : P.underlying t = some (.slice el)) (hi : infoOk P el z = true) (h : OwnRow b st y z n l) (hv : opv e x = some (.int i (k : Int))) (hk : k ≤ n)
    (hQ : ∀ y', RdRow st y' z k (l.take (k * z)) → (∀ q o l z, y' = .sg q o l z → ∃ o l, y = .sg q o l z) → Q (y', st)) : Gd (sliceK P c e st t y none (some x)) Q := by
  have hz := infoOk_pos hi
  obtain ⟨h1, h2⟩ := h
  have hle : k * z ≤ n * z := Nat.mul_le_mul_right z hk
  unfold sliceK
  rcases h2 with ⟨rfl, rfl⟩ | ⟨m, ty, tr, rfl, h3, h4, h5, h6, h7⟩
  · obtain rfl : k = 0 := by omega
    rw [sliceE_nil_hi hu hi hv]
    exact ⟨_, rfl, hQ _ ⟨by simp, .inl ⟨.inl rfl, rfl⟩⟩ (fun q o l z e => by cases e)⟩
  · rw [sliceE_hi hu hi hv _ _ _ hk]
    refine ⟨_, rfl, hQ _ ⟨by rw [List.length_take]; omega, .inr (.inr ⟨m, 0, ty, n * z, tr, rfl, h4, h5, by omega, fun j v hj => ?_⟩)⟩ (fun q o l z e => ?_)⟩
    · rw [Nat.zero_add]
      rw [List.getElem?_take] at hj
      split at hj
      · exact h7 j v hj
      · cases hj
    · injection e with e1 e2 e3 e4
      subst e1 e4
      exact ⟨_, _, rfl⟩
/-- the last ones of a row -/
theorem Gd_slice_lo {b t el z n k : Nat} {i : IntKind} {y : V} {l : List V} {x : Operand} {Q : V × St → Prop} (hu : P.underlying t = some (.slice el)) (hi : infoOk P el z = true) (h : OwnRow b st y z n l) (hv : opv e x = some (.int i (k : Int))) (hk : k ≤ n)
    (hQ : ∀ y', RdRow st y' z (n - k) (l.drop (k * z)) → (∀ q o l z, y' = .sg q o l z → ∃ o l, y = .sg q o l z) → Q (y', st)) : Gd (sliceK P c e st t y (some x) none) Q := by
  have hz := infoOk_pos hi
  obtain ⟨h1, h2⟩ := h
  have hle : k * z ≤ n * z := Nat.mul_le_mul_right z hk
  have hsub : (n - k) * z = n * z - k * z := Nat.sub_mul ..
  unfold sliceK
  rcases h2 with ⟨rfl, rfl⟩ | ⟨m, ty, tr, rfl, h3, h4, h5, h6, h7⟩
  · obtain rfl : k = 0 := by omega
    rw [sliceE_nil_lo hu hi hv]
    exact ⟨_, rfl, hQ _ ⟨by rw [List.length_drop]; omega, .inl ⟨.inl rfl, rfl⟩⟩ (fun q o l z e => by cases e)⟩
  · rw [sliceE_lo hu hi hv _ _ _ hk]
    by_cases hkn : k = n ∧ k ≠ 0
    · rw [if_pos hkn]
      obtain ⟨rfl, _⟩ := hkn
      exact ⟨_, rfl, hQ _ ⟨by rw [List.length_drop]; omega, .inl ⟨.inr rfl, by omega⟩⟩ (fun q o l z e => by cases e)⟩
    · rw [if_neg hkn]
      refine ⟨_, rfl, hQ _ ⟨by rw [List.length_drop]; omega, .inr (.inr ⟨m, 0 + k * z, ty, n * z, tr, rfl, h4, h5, by omega, fun j v hj => ?_⟩)⟩ (fun q o l z e => ?_)⟩
      · rw [List.getElem?_drop] at hj
        rw [Nat.zero_add]
        exact h7 _ v hj
      · injection e with e1 e2 e3 e4
        subst e1 e4
        exact ⟨_, _, rfl⟩
def cutV (y : V) (k : Nat) : V := match y with
  | .sg q o _ z => .sg q o k z
  | y => y
theorem OwnRow.cut {b z n k : Nat} {y : V} {l : List V} (h : OwnRow b st y z n l) (hk : k ≤ n) : RdRow st (cutV y k) z k (l.take (k * z)) := by
  obtain ⟨h1, h2⟩ := h
  have hle : k * z ≤ n * z := Nat.mul_le_mul_right z hk
  refine ⟨by rw [List.length_take]; omega, ?_⟩
  rcases h2 with ⟨rfl, rfl⟩ | ⟨m, ty, tr, rfl, h3, h4, h5, h6, h7⟩
  · exact .inl ⟨.inl rfl, by omega⟩
  · refine .inr (.inr ⟨m, 0, ty, n * z, tr, rfl, h4, h5, by omega, fun j v hj => ?_⟩)
    rw [Nat.zero_add]
    rw [List.getElem?_take] at hj
    split at hj
    · exact h7 j v hj
    · cases hj
theorem Gd_cut {b t el z n k : Nat} {i : IntKind} {y : V} {l : List V} {x : Operand} {Q : V × St → Prop} (hu : P.underlying t = some (.slice el)) (hi : infoOk P el z = true) (h : OwnRow b st y z n l) (hv : opv e x = some (.int i (k : Int))) (hk : k ≤ n) (hQ : Q (cutV y k, st)) : Gd (sliceK P c e st t y none (some x)) Q := by
  obtain ⟨h1, h2⟩ := h
  unfold sliceK
  rcases h2 with ⟨rfl, rfl⟩ | ⟨m, ty, tr, rfl, _⟩
  · obtain rfl : k = 0 := by omega
    rw [sliceE_nil_hi hu hi hv]
    exact ⟨_, rfl, hQ⟩
  · rw [sliceE_hi hu hi hv _ _ _ hk]
    exact ⟨_, rfl, hQ⟩
theorem RdRow.firsts {wb nt z n : Nat} {x : V} {l : List V} (h : RdRow st x z n l) (k : List V → Option β) : firsts ⟨false, [], wb, nt⟩ st z n x k = k l := by
  obtain ⟨h1, h2⟩ := h
  rcases h2 with ⟨hx, rfl⟩ | ⟨m, o, q, ty, sz, t, rfl, _, h4, _, h6⟩ | ⟨m, o, ty, sz, t, rfl, _, h4, _, h6⟩
  · have hl : l = [] := List.eq_nil_of_length_eq_zero (by rw [h1]; simp)
    subst hl
    rcases hx with rfl | rfl <;> rfl
  · rw [firsts_sl, if_pos (Nat.le_refl _), getC_eq, h4]
    simp only [ok_top, inF_nil, Bool.not_false, cond_true, Option.bind_some, csK_cs]
    rw [← h1]
    exact getsB_list h6 k
  · have e1 : Ev.firsts ⟨false, [], wb, nt⟩ st z n (.sg m o n z) k = (match Nat.ble n n with | true => getC ⟨false, [], wb, nt⟩ st m fun t => getsB t (n * z) o k | false => none) := rfl
    have e2 : Nat.ble n n = true := by rw [Nat.ble_eq]; exact Nat.le_refl _
    rw [e1, e2]
    simp only
    rw [getC_eq, h4]
    simp only [ok_top, inF_nil, Bool.not_false, cond_true, Option.bind_some, csK_cs]
    rw [← h1]
    exact getsB_list h6 k
theorem RdRow.notS {z n : Nat} {x : V} {l : List V} (h : RdRow st x z n l) (s : List Nat) : x ≠ .s s := fun e => by
  subst e
  obtain ⟨_, h2⟩ := h
  rcases h2 with ⟨hx | hx, _⟩ | ⟨m, o, q, ty, sz, t, hx, _⟩ | ⟨m, o, ty, sz, t, hx, _⟩ <;> cases hx
end
end Go.Proofs.Ytcjddojcfdeflaa.Ev
namespace Go.Proofs.Ytcjddojcfdeflaa.Ev
open Go.RowKit
section
variable {P : Program} {st : St} {t : TypeId} {x y : Operand} {k k' : IntKind} {a b : Nat}
@[simp] theorem bin_and : binE P st .and t x y (.c (.int k (a : Int))) (.c (.int k (b : Int))) = some (.int k (k.wrap ((a &&& b : Nat) : Int)), st) := by
  have h : binI .and k (a : Int) (b : Int) = some (.int k (k.wrap ((a &&& b : Nat) : Int))) := by
    show some (Value.int k (wr k _)) = _
    rw [wr_eq]; rfl
  cases k <;> simp [binE, eqKd, h, ofV, fA, ret]
@[simp] theorem bin_or : binE P st .or t x y (.c (.int k (a : Int))) (.c (.int k (b : Int))) = some (.int k (k.wrap ((a ||| b : Nat) : Int)), st) := by
  have h : binI .or k (a : Int) (b : Int) = some (.int k (k.wrap ((a ||| b : Nat) : Int))) := by
    show some (Value.int k (wr k _)) = _
    rw [wr_eq]; rfl
  cases k <;> simp [binE, eqKd, h, ofV, fA, ret]
@[simp] theorem bin_xor : binE P st .xor t x y (.c (.int k (a : Int))) (.c (.int k (b : Int))) = some (.int k (k.wrap ((a ^^^ b : Nat) : Int)), st) := by
  have h : binI .xor k (a : Int) (b : Int) = some (.int k (k.wrap ((a ^^^ b : Nat) : Int))) := by
    show some (Value.int k (wr k _)) = _
    rw [wr_eq]; rfl
  cases k <;> simp [binE, eqKd, h, ofV, fA, ret]
@[simp] theorem bin_andNot : binE P st .andNot t x y (.c (.int k (a : Int))) (.c (.int k (b : Int))) = some (.int k (k.wrap ((a ^^^ (a &&& b) : Nat) : Int)), st) := by
  have h : binI .andNot k (a : Int) (b : Int) = some (.int k (k.wrap ((a ^^^ (a &&& b) : Nat) : Int))) := by
    show some (Value.int k (wr k _)) = _
    rw [wr_eq]; rfl
  cases k <;> simp [binE, eqKd, h, ofV, fA, ret]
@[simp] theorem bin_shl : binE P st .shl t x y (.c (.int k (a : Int))) (.c (.int k' (b : Int))) = some (.int k (k.wrap ((a <<< min b (kbits k) : Nat) : Int)), st) := by
  have h : shI .shl k (a : Int) (b : Int) = some (.int k (k.wrap ((a <<< min b (kbits k) : Nat) : Int))) := by
    show some (Value.int k (wr k _)) = _
    rw [wr_eq]; rfl
  cases k <;> simp [binE, h, ofV, fA, ret]
@[simp] theorem bin_shr : binE P st .shr t x y (.c (.int k (a : Int))) (.c (.int k' (b : Int))) = some (.int k ((a >>> min b (kbits k) : Nat) : Int), st) := by
  have h : shI .shr k (a : Int) (b : Int) = some (.int k ((a >>> min b (kbits k) : Nat) : Int)) := rfl
  cases k <;> simp [binE, h, ofV, fA, ret]
@[simp] theorem kbits_u64 : kbits .u64 = 64 := rfl
theorem wrap_u {n : Nat} (h : n < 18446744073709551616) : IntKind.u64.wrap (n : Int) = (n : Int) := by
  simp only [IntKind.wrap, IntKind.signed, IntKind.bits]
  simp; omega
theorem land_lt {a b : Nat} (h : a < 18446744073709551616) : a &&& b < 18446744073709551616 := Nat.lt_of_le_of_lt Nat.and_le_left h
theorem lor_lt {a b : Nat} (h : a < 18446744073709551616) (k : b < 18446744073709551616) : a ||| b < 18446744073709551616 := Nat.or_lt_two_pow (n := 64) h k
theorem lxor_lt {a b : Nat} (h : a < 18446744073709551616) (k : b < 18446744073709551616) : a ^^^ b < 18446744073709551616 := Nat.xor_lt_two_pow (n := 64) h k
theorem one_shl {r : Nat} (h : r < 64) : 1 <<< r < 18446744073709551616 := by
  rw [Nat.one_shiftLeft]
  exact Nat.pow_lt_pow_right (a := 2) (by decide) (n := 64) h
end
end Go.Proofs.Ytcjddojcfdeflaa.Ev
namespace Go.Proofs.Ytcjddojcfdeflaa.Ev
open Go.RowKit

/-- a row that came in: its elements' cells -/
def InRow (w : World) (x : Value) (z n : Nat) (l : List V) : Prop := l.length = n * z ∧ ((x = .slice none 0 0 ∧ n = 0) ∨ (n = 0 ∧ ∃ a c, x = .slice (some a) 0 c) ∨
  ∃ b off c cells ty fr, x = .slice (some ⟨b, off, none⟩) n c ∧ w.heap[b]? = some (.cells cells ty fr) ∧ off + n * z ≤ cells.size ∧ ∀ j v, l[j]? = some v → v.one = true ∧ ∃ y, cells[off + j]? = some y ∧ ∀ ρ, Rel ρ v y)
/-- the memory that a law begins with -/
structure Begin (w : World) (st : St) (ρ : Rho) : Prop where
  wf : Wf st
  still : ∀ n b, st.h.get n = some b → ¬ b.live
  real : Real ρ w.heap.size (fun n => st.h.get n) w
  fresh : ∀ n, st.nx ≤ n → ρ n = none
theorem Begin.zero (w : World) (hk : Kept w.heap.size w := by first | assumption | exact fun _ h => absurd h List.not_mem_nil) : Begin w ⟨0, .lf⟩ (fun _ => none) :=
  ⟨wf_zero, fun n b h => by simp at h, ⟨Nat.le_refl _, fun n b h => by simp at h, fun n m b b' r r' h => by simp at h, hk⟩, fun _ _ => rfl⟩
theorem Begin.row {w : World} {st : St} {ρ : Rho} (hb : Begin w st ρ) {x : Value} {z n : Nat} {l : List V} (h : InRow w x z n l) :
    ∃ st' ρ' v, Begin w st' ρ' ∧ ρ.le ρ' ∧ Rel ρ' v x ∧ Ext st.nx st st' ∧ RdRow st' v z n l := by
  obtain ⟨h1, h2⟩ := h
  rcases h2 with ⟨rfl, rfl⟩ | ⟨rfl, a, c, rfl⟩ | ⟨b, off, c, cells, ty, fr, rfl, h3, h4, h5⟩
  · exact ⟨st, ρ, .c (.slice none 0 0), hb, Rho.le_refl _, by simp [Rel, Value.oneCell'], Ext.refl _ _, h1, .inl ⟨.inl rfl, rfl⟩⟩
  · exact ⟨st, ρ, .e, hb, Rho.le_refl _, by simp only [Rel]; exact ⟨a, c, rfl⟩, Ext.refl _ _, h1, .inl ⟨.inr rfl, rfl⟩⟩
  · have hfr : ρ st.nx = none := hb.fresh _ (Nat.le_refl _)
    have hle : ρ.le (upd ρ st.nx ⟨b, off, cells.size - off⟩) := fun m q e => by
      by_cases hm : m = st.nx
      · subst hm; rw [hfr] at e; cases e
      · rw [upd_ne _ _ hm]; exact e
    have hext := (Ext.refl st.nx st).new (Nat.le_refl _) (.cs roT (n * z) (sets l 0 .lf))
    have hlt : b < w.heap.size := by
      rcases Nat.lt_or_ge b w.heap.size with h | h
      · exact h
      · rw [Array.getElem?_eq_none h] at h3; cases h3
    have hcell : ∀ j v, (sets l 0 (.lf : T V)).get j = some v → l[j]? = some v ∧ j < n * z := fun j v hv => by
      rw [get_sets] at hv
      by_cases hj : 0 ≤ j ∧ j < 0 + l.length
      · rw [if_pos hj] at hv; exact ⟨hv, by omega⟩
      · rw [if_neg hj] at hv; simp at hv
    refine ⟨⟨st.nx + 1, st.h.set st.nx (.cs roT (n * z) (sets l 0 .lf))⟩, upd ρ st.nx ⟨b, off, cells.size - off⟩, .sl st.nx 0 n c, ⟨hext.wf hb.wf, fun m b' hm => ?_, ⟨Nat.le_refl _, fun m b' hm => ?_, fun m m' b' b'' r r' hm _ hl => ?_, hb.real.kept⟩, fun m hm => ?_⟩, hle, ?_, hext, h1, .inr (.inl ⟨st.nx, 0, c, roT, n * z, sets l 0 .lf, rfl, Nat.lt_succ_self _, T.get_set_same _ _ _, by omega, fun j v hj => ?_⟩)⟩
    · have hm' : (st.h.set st.nx (.cs roT (n * z) (sets l 0 .lf))).get m = some b' := hm
      rw [T.get_set] at hm'
      split at hm'
      · injection hm' with hm'; subst hm'; exact fun h => h rfl
      · exact hb.still m b' hm'
    · have hm' : (st.h.set st.nx (.cs roT (n * z) (sets l 0 .lf))).get m = some b' := hm
      rw [T.get_set] at hm'
      split at hm'
      · rename_i e
        injection hm' with hm'; subst hm' e
        refine ⟨_, upd_same _ _ _, fun h => absurd rfl h, hlt, ty, cells, fr, h3, by simp only; omega, by simp only; omega, fun h => absurd rfl h, fun j v hv => ?_⟩
        obtain ⟨k1, k2⟩ := hcell j v hv
        obtain ⟨k3, y, k4, k5⟩ := h5 j v k1
        exact ⟨k2, k3, y, k4, k5 _⟩
      · rename_i e
        obtain ⟨r, k1, k2, k3, k4⟩ := hb.real.blk m b' hm'
        exact ⟨r, by rw [upd_ne _ _ (fun e' => e e'.symm)]; exact k1, k2, k3, k4.mono hle⟩
    · have hm' : (st.h.set st.nx (.cs roT (n * z) (sets l 0 .lf))).get m = some b' := hm
      rw [T.get_set] at hm'
      split at hm'
      · injection hm' with hm'; subst hm'; exact absurd rfl hl
      · exact absurd hl (hb.still m b' hm')
    · have hm' : st.nx + 1 ≤ m := hm
      rw [upd_ne _ _ (by omega)]
      exact hb.fresh m (by omega)
    · simp only [Rel]; exact ⟨_, upd_same _ _ _, rfl⟩
    · rw [Nat.zero_add, get_sets]
      have : j < l.length := by
        rcases Nat.lt_or_ge j l.length with h | h
        · exact h
        · rw [List.getElem?_eq_none h] at hj; cases hj
      rw [if_pos (by omega)]
      exact hj
section
variable {P : Program}
theorem law_calls {C : CallF} (hC : CallSound P C) {w : World} {st : St} {ρ : Rho} (hb : Begin w st ρ) {f : Nat} {args : List V} {vs : List Value} (hr : RelL ρ args vs) (h : Gd (C ⟨false, [], 0, 0⟩ f args st) fun r => r.1 = .bool true) :
    Calls P f ⟨vs⟩ w fun e w' => e = .returned (.bool true) ∧ Below w.heap.size w w' := by
  obtain ⟨⟨v, st1⟩, h1, h2⟩ := h
  simp only at h2
  subst h2
  refine (hC _ _ _ _ _ _ h1 hb.wf).2 w.heap.size ρ (fun n => st.h.get n) w vs hr (fun n b _ h => h) hb.real (fun n h1 _ => hb.fresh n h1) _ fun ρ' v' w' _ _ k3 _ k5 => ?_
  simp only [Rel] at k3
  obtain ⟨rfl, _⟩ := k3
  exact ⟨rfl, k5⟩
/-- one closed function is known to answer true; all others are run -/
noncomputable def oracF (base : CallF) (fa : Nat) : CallF := fun c f args st => match Nat.beq f fa, args with
  | true, [] => some (.c (.bool true), st)
  | _, args => base c f args st
@[simp] theorem oracF_same (base : CallF) (fa : Nat) (c : Cx) (st : St) : oracF base fa c fa [] st = some (.bool true, st) := by
  unfold oracF; rw [Nat.beq_refl]
theorem oracF_cons (base : CallF) (fa : Nat) (c : Cx) (f : Nat) (v : V) (l : List V) (st : St) : oracF base fa c f (v :: l) st = base c f (v :: l) st := by
  unfold oracF; cases Nat.beq f fa <;> rfl
theorem oracF_ne (base : CallF) {fa f : Nat} (h : Nat.beq f fa = false) (c : Cx) (l : List V) (st : St) : oracF base fa c f l st = base c f l st := by
  unfold oracF; rw [h]
theorem oracF_sound {base : CallF} (hb : CallSound P base ∧ HasBody P base) {fa : Nat} {fn : Func} {b : Code} (hf : P.funcs[fa]? = some fn) (hbd : fn.body = some b) (ha : ∀ w, Calls P fa #[] w fun e w' => e = .returned (.bool true) ∧ Below w.heap.size w w') :
    CallSound P (oracF base fa) ∧ HasBody P (oracF base fa) := by
  constructor
  · intro c f args st v st' h hwf
    unfold oracF at h
    split at h
    · rename_i he
      have he' : f = fa := by simpa [nbeq] using he
      subst he'
      obtain ⟨rfl, rfl⟩ := some_inv h
      refine ⟨.refl _ _, fun B0 ρ τ w vs hvs hag hre hfr R hR => ?_⟩
      simp only [RelL] at hvs
      subst hvs
      refine (ha w).mono fun e w' ⟨h1, h2⟩ => ?_
      subst h1
      have hsz := h2.size
      refine hR ρ _ w' (Rho.le_refl _) (Dom.refl _ _ _) (rel_bool _) ?_ (Below.weak h2 hre.size)
      rw [ov_self]
      refine ⟨Nat.le_trans hre.size hsz, fun n b hb' => ?_, hre.inj, hre.kept.of fun k hk => h2.block k (Nat.lt_of_lt_of_le hk hre.size)⟩
      obtain ⟨r, k1, k2, k3, k4⟩ := hre.blk n b hb'
      exact ⟨r, k1, k2, Nat.lt_of_lt_of_le k3 hsz, k4.congr (h2.block r.block k3)⟩
    · exact hb.1 _ _ _ _ _ _ h hwf
  · intro c f args st r h
    unfold oracF at h
    split at h
    · rename_i he
      have he' : f = fa := by simpa [nbeq] using he
      subst he'
      exact ⟨fn, b, hf, hbd⟩
    · exact hb.2 _ _ _ _ _ h
/-- as above, where what is pinned holds -/
theorem oracF_soundK {base : CallF} (hb : CallSound P base ∧ HasBody P base) {fa : Nat} {fn : Func} {b : Code} (hf : P.funcs[fa]? = some fn) (hbd : fn.body = some b) (ha : ∀ w, Kept w.heap.size w → Calls P fa #[] w fun e w' => e = .returned (.bool true) ∧ Below w.heap.size w w') :
    CallSound P (oracF base fa) ∧ HasBody P (oracF base fa) := by
  constructor
  · intro c f args st v st' h hwf
    unfold oracF at h
    split at h
    · rename_i he
      have he' : f = fa := by simpa [nbeq] using he
      subst he'
      obtain ⟨rfl, rfl⟩ := some_inv h
      refine ⟨.refl _ _, fun B0 ρ τ w vs hvs hag hre hfr R hR => ?_⟩
      simp only [RelL] at hvs
      subst hvs
      refine (ha w (hre.kept.up hre.size)).mono fun e w' ⟨h1, h2⟩ => ?_
      subst h1
      have hsz := h2.size
      refine hR ρ _ w' (Rho.le_refl _) (Dom.refl _ _ _) (rel_bool _) ?_ (Below.weak h2 hre.size)
      rw [ov_self]
      refine ⟨Nat.le_trans hre.size hsz, fun n b hb' => ?_, hre.inj, hre.kept.of fun k hk => h2.block k (Nat.lt_of_lt_of_le hk hre.size)⟩
      obtain ⟨r, k1, k2, k3, k4⟩ := hre.blk n b hb'
      exact ⟨r, k1, k2, Nat.lt_of_lt_of_le k3 hsz, k4.congr (h2.block r.block k3)⟩
    · exact hb.1 _ _ _ _ _ _ h hwf
  · intro c f args st r h
    unfold oracF at h
    split at h
    · rename_i he
      have he' : f = fa := by simpa [nbeq] using he
      subst he'
      exact ⟨fn, b, hf, hbd⟩
    · exact hb.2 _ _ _ _ _ h
theorem callL_both (hn : namesOk P = true) (hm : P.follows .mixedOrders = true) : CallSound P (callL P) ∧ HasBody P (callL P) := ⟨callL_sound hn hm, callOf_body⟩
/-- the law itself is run over these -/
noncomputable def lawC (P : Program) (fa : Nat) : CallF := callOf P (evF P (oracF (callL P) fa))
theorem lawC_sound (hn : namesOk P = true) (hm : P.follows .mixedOrders = true) {fa : Nat} {fn : Func} {b : Code} (hf : P.funcs[fa]? = some fn) (hbd : fn.body = some b) (ha : ∀ w, Calls P fa #[] w fun e w' => e = .returned (.bool true) ∧ Below w.heap.size w w') : CallSound P (lawC P fa) :=
  callOf_sound (evF_sound hn hm (oracF_sound (callL_both hn hm) hf hbd ha))
theorem Gd_lawC {c : Cx} {st : St} {fa f : Nat} {fn : Func} {code : Code} (hf : P.funcs[f]? = some fn) (hb : fn.body = some code) (args : List V) (Q : V × St → Prop) :
    Gd (lawC P fa c f args st) Q = Gd ((Ev.over P (oracF (callL P) fa)).E ⟨c.all, c.l, c.wb, fn.ntmps⟩ code (sets args 0 .lf) st) (retK P c fn Q) := Gd_callOf hf hb args Q
@[simp] theorem over_F (F : CallF) : (Ev.over P F).F = F := rfl
@[simp] theorem callee_F : (callee P).F = callL P := rfl
end
end Go.Proofs.Ytcjddojcfdeflaa.Ev
namespace Go.Proofs.Ytcjddojcfdeflaa.Ev
open Go.RowKit Go.ChangeShapes Go.WideShapes Go.Deep

theorem inRow_cells {w : World} {a : Addr} {c n z : Nat} {l : List V} (Y : Nat → Value) (hl : l.length = n * z) (hz : 1 ≤ z) (h : ∀ j, j < n * z → w.cell? (a.add j) = some (Y j)) (hr : ∀ j v, l[j]? = some v → v.one = true ∧ ∀ ρ, Rel ρ v (Y j)) : InRow w (.slice (some a) n c) z n l := by
  refine ⟨hl, .inr ?_⟩
  by_cases hn : n = 0
  · subst hn; exact .inl ⟨rfl, a, c, rfl⟩
  · have h1 : 1 * 1 ≤ n * z := Nat.mul_le_mul (by omega) hz
    have h0 := h 0 (by omega)
    obtain ⟨b, off, spot⟩ := a
    have hspot : spot = none := by simpa [Addr.add] using World.cell?_spot h0
    subst hspot
    have hcell : ∀ j, (⟨b, off, none⟩ : Addr).add j = ⟨b, off + j, none⟩ := fun j => by
      by_cases hj : j = 0
      · subst hj; simp [Addr.add]
      · simp [Addr.add, hj]
    have hh : ∃ cells ty fr, w.heap[b]? = some (.cells cells ty fr) := by
      rw [hcell] at h0
      unfold World.cell? at h0
      simp only at h0
      split at h0
      · rename_i cells ty fr hb; exact ⟨cells, ty, fr, hb⟩
      · cases h0
    obtain ⟨cells, ty, fr, hb⟩ := hh
    have hget : ∀ j, j < n * z → cells[off + j]? = some (Y j) := fun j hj => by
      have := h j hj
      rw [hcell] at this
      unfold World.cell? at this
      simpa [hb] using this
    refine .inr ⟨b, off, c, cells, ty, fr, rfl, hb, ?_, fun j v hj => ?_⟩
    · have h2 := hget (n * z - 1) (by omega)
      rcases Nat.lt_or_ge (off + (n * z - 1)) cells.size with h3 | h3
      · omega
      · rw [Array.getElem?_eq_none h3] at h2; cases h2
    · have hlt : j < l.length := by
        rcases Nat.lt_or_ge j l.length with h3 | h3
        · exact h3
        · rw [List.getElem?_eq_none h3] at hj; cases hj
      obtain ⟨k1, k2⟩ := hr j v hj
      exact ⟨k1, _, hget j (by omega), k2⟩
/-- rows of two whole numbers -/
def pairs (L : List (Int × Int)) : List V := L.flatMap fun r => [.int .i64 r.1, .int .i64 r.2]
theorem pairs_get : ∀ (L : List (Int × Int)) (j : Nat) (v : V), (pairs L)[j]? = some v → ∃ r, L[j / 2]? = some r ∧ v = if j % 2 = 0 then .int .i64 r.1 else .int .i64 r.2
  | [], j, v, h => by simp [pairs] at h
  | r :: L, 0, v, h => by
    have h' : some (V.int .i64 r.1) = some v := h
    injection h' with h'; subst h'
    exact ⟨r, rfl, rfl⟩
  | r :: L, 1, v, h => by
    have h' : some (V.int .i64 r.2) = some v := h
    injection h' with h'; subst h'
    exact ⟨r, rfl, rfl⟩
  | r :: L, j + 2, v, h => by
    obtain ⟨q, h1, h2⟩ := pairs_get L j v h
    refine ⟨q, ?_, ?_⟩
    · rw [show (j + 2) / 2 = j / 2 + 1 by omega]; simpa using h1
    · rw [show (j + 2) % 2 = j % 2 by omega]; exact h2
theorem pairs_length (L : List (Int × Int)) : (pairs L).length = L.length * 2 := by
  induction L with
  | nil => rfl
  | cons r L ih =>
    have : (pairs (r :: L)).length = (pairs L).length + 2 := by simp [pairs]
    rw [this, ih, List.length_cons]; omega
theorem rel_i64 (ρ : Rho) (n : Int) : Rel ρ (.int .i64 n) (.int .i64 n) := by simp [Rel, Value.oneCell']
theorem in_pairs {H : Type} {enc : TypeId × Value → H} {P : Program} {w : World} {spare : Nat → Bool} {held : Bool} {t e : TypeId} {f0 f1 : Field} {fuel : Nat} {a : Option Addr} {len c : Nat} {x : DataW H × List MemPlace} (ht : P.underlying t = some (.slice e)) (he : P.underlying e = some (.struct #[f0, f1]))
    (ce : P.cellsOf e = 2) (o0 : f0.offset = 0) (o1 : f1.offset = 1) (c0 : P.cellsOf f0.type = 1) (c1 : P.cellsOf f1.type = 1) (i0 : P.underlying f0.type = some (.int .i64)) (i1 : P.underlying f1.type = some (.int .i64))
    (h : DataW.trod enc P w 0 spare held fuel t [.slice a len c] = some x) : ∃ L : List (Int × Int), L.length = len ∧ InRow w (.slice a len c) 2 L.length (pairs L) ∧ ∀ r ∈ L, (Lit.int .i64 r.1).wf = true ∧ (Lit.int .i64 r.2).wf = true := by
  rcases open_slice_pairs ht he ce o0 o1 c0 c1 h with ⟨hcs, _⟩ | ⟨a', len', cap, m, n, V0, V1, D0, D1, P0, P1, hcs, _, hl, _, hm, _, hx⟩
  · injection hcs with hcs; injection hcs with e1 e2 e3; subst e1 e2 e3
    exact ⟨[], rfl, ⟨rfl, .inl ⟨rfl, rfl⟩⟩, fun r hr => by simp at hr⟩
  · injection hcs with hcs; injection hcs with e1 e2 e3; subst e1 e2 e3
    have hlm : len ≤ m := by rw [hm]; split <;> omega
    have each : ∀ i, i < len → ∃ q : Int × Int, V0 i = .int .i64 q.1 ∧ V1 i = .int .i64 q.2 ∧ (Lit.int .i64 q.1).wf = true ∧ (Lit.int .i64 q.2).wf = true := fun i hi => by
      obtain ⟨_, _, h3, h4⟩ := hx i (by omega)
      obtain ⟨n0, k1, _, k2⟩ := DataW.trod_int i0 h3
      obtain ⟨n1, k3, _, k4⟩ := DataW.trod_int i1 h4
      injection k1 with k1
      injection k3 with k3
      exact ⟨(n0, n1), k1, k3, k2, k4⟩
    obtain ⟨q, hq⟩ := choose_lt each
    have hL : ((List.range len).map q).length = len := by simp
    have hget : ∀ j r, ((List.range len).map q)[j]? = some r → j < len ∧ r = q j := fun j r hj => by
      rw [List.getElem?_map] at hj
      cases hr : (List.range len)[j]? with
      | none => rw [hr] at hj; cases hj
      | some k =>
        rw [hr] at hj
        obtain ⟨h1, h2⟩ := List.getElem?_eq_some_iff.1 hr
        simp at h1 h2 hj
        subst h2
        exact ⟨h1, hj.symm⟩
    refine ⟨(List.range len).map q, hL, ?_, fun r hr => ?_⟩
    · rw [hL]
      refine inRow_cells (fun j => if j % 2 = 0 then V0 (j / 2) else V1 (j / 2)) (by rw [pairs_length, hL]) (by omega) (fun j hj => ?_) fun j v hj => ?_
      · obtain ⟨h1, h2, _⟩ := hx (j / 2) (by omega)
        by_cases hp : j % 2 = 0
        · rw [if_pos hp]
          rw [show j / 2 * 2 = j by omega] at h1
          exact h1
        · rw [if_neg hp]
          rw [show j / 2 * 2 + 1 = j by omega] at h2
          exact h2
      · obtain ⟨r, h1, h2⟩ := pairs_get _ j v hj
        obtain ⟨h3, rfl⟩ := hget _ _ h1
        obtain ⟨k1, k2, _⟩ := hq _ h3
        by_cases hp : j % 2 = 0
        · rw [if_pos hp] at h2
          subst h2
          exact ⟨rfl, fun ρ => by simp only [if_pos hp]; rw [k1]; exact rel_i64 _ _⟩
        · rw [if_neg hp] at h2
          subst h2
          exact ⟨rfl, fun ρ => by simp only [if_neg hp]; rw [k2]; exact rel_i64 _ _⟩
    · obtain ⟨j, hj, rfl⟩ := List.getElem_of_mem hr
      obtain ⟨h1, h2⟩ := hget j _ (List.getElem?_eq_getElem hj)
      rw [h2]
      exact ⟨(hq _ h1).2.2.1, (hq _ h1).2.2.2⟩
end Go.Proofs.Ytcjddojcfdeflaa.Ev
namespace Go.Proofs.Ytcjddojcfdeflaa.Ev
open Go.RowKit Go.ChangeShapes Go.WideShapes Go.Deep
/-- rows of two whole numbers and a word -/
def triples (L : List (Int × Int × Int)) : List V := L.flatMap fun r => [.int .i64 r.1, .int .i64 r.2.1, .int .u64 r.2.2]
theorem triples_length (L : List (Int × Int × Int)) : (triples L).length = L.length * 3 := by
  induction L with
  | nil => rfl
  | cons r L ih =>
    have : (triples (r :: L)).length = (triples L).length + 3 := by simp [triples]
    rw [this, ih, List.length_cons]; omega
def tri (r : Int × Int × Int) (j : Nat) : V := if j = 0 then .int .i64 r.1 else if j = 1 then .int .i64 r.2.1 else .int .u64 r.2.2
theorem triples_get : ∀ (L : List (Int × Int × Int)) (j : Nat) (v : V), (triples L)[j]? = some v → ∃ r, L[j / 3]? = some r ∧ v = tri r (j % 3)
  | [], j, v, h => by simp [triples] at h
  | r :: L, 0, v, h => by
    have h' : some (V.int .i64 r.1) = some v := h
    injection h' with h'; subst h'
    exact ⟨r, rfl, rfl⟩
  | r :: L, 1, v, h => by
    have h' : some (V.int .i64 r.2.1) = some v := h
    injection h' with h'; subst h'
    exact ⟨r, rfl, rfl⟩
  | r :: L, 2, v, h => by
    have h' : some (V.int .u64 r.2.2) = some v := h
    injection h' with h'; subst h'
    exact ⟨r, rfl, rfl⟩
  | r :: L, j + 3, v, h => by
    obtain ⟨q, h1, h2⟩ := triples_get L j v h
    refine ⟨q, ?_, ?_⟩
    · rw [show (j + 3) / 3 = j / 3 + 1 by omega]; simpa using h1
    · rw [show (j + 3) % 3 = j % 3 by omega]; exact h2
theorem triples_at : ∀ (L : List (Int × Int × Int)) (i : Nat) (r : Int × Int × Int), L[i]? = some r → (triples L)[i * 3 + 0]? = some (.int .i64 r.1) ∧ (triples L)[i * 3 + 1]? = some (.int .i64 r.2.1) ∧ (triples L)[i * 3 + 2]? = some (.int .u64 r.2.2)
  | [], i, r, h => by simp at h
  | q :: L, 0, r, h => by simp at h; subst h; exact ⟨rfl, rfl, rfl⟩
  | q :: L, i + 1, r, h => by
    have := triples_at L i r (by simpa using h)
    rw [show triples (q :: L) = .int .i64 q.1 :: .int .i64 q.2.1 :: .int .u64 q.2.2 :: triples L from rfl, show (i + 1) * 3 + 0 = i * 3 + 0 + 1 + 1 + 1 by omega, show (i + 1) * 3 + 1 = i * 3 + 1 + 1 + 1 + 1 by omega, show (i + 1) * 3 + 2 = i * 3 + 2 + 1 + 1 + 1 by omega]
    exact this
def triV (r : Int × Int × Int) (j : Nat) : Value := if j = 0 then .int .i64 r.1 else if j = 1 then .int .i64 r.2.1 else .int .u64 r.2.2
theorem tri_one (r : Int × Int × Int) (j : Nat) : (tri r j).one = true ∧ ∀ ρ, Rel ρ (tri r j) (triV r j) := by
  unfold tri triV
  by_cases h0 : j = 0
  · simp only [if_pos h0]; exact ⟨rfl, fun ρ => by simp [Rel, Value.oneCell']⟩
  · by_cases h1 : j = 1
    · simp only [if_neg h0, if_pos h1]; exact ⟨rfl, fun ρ => by simp [Rel, Value.oneCell']⟩
    · simp only [if_neg h0, if_neg h1]; exact ⟨rfl, fun ρ => by simp [Rel, Value.oneCell']⟩
theorem in_triples {H : Type} {enc : TypeId × Value → H} {P : Program} {w : World} {spare : Nat → Bool} {held : Bool} {t e : TypeId} {f0 f1 f2 : Field} {fuel : Nat} {a : Option Addr} {len c : Nat} {x : DataW H × List MemPlace} (ht : P.underlying t = some (.slice e)) (he : P.underlying e = some (.struct #[f0, f1, f2]))
    (ce : P.cellsOf e = 3) (o0 : f0.offset = 0) (o1 : f1.offset = 1) (o2 : f2.offset = 2) (c0 : P.cellsOf f0.type = 1) (c1 : P.cellsOf f1.type = 1) (c2 : P.cellsOf f2.type = 1) (i0 : P.underlying f0.type = some (.int .i64)) (i1 : P.underlying f1.type = some (.int .i64)) (i2 : P.underlying f2.type = some (.int .u64))
    (h : DataW.trod enc P w 0 spare held fuel t [.slice a len c] = some x) : ∃ L : List (Int × Int × Int), L.length = len ∧ InRow w (.slice a len c) 3 L.length (triples L) ∧ ∀ r ∈ L, (Lit.int .i64 r.1).wf = true ∧ (Lit.int .i64 r.2.1).wf = true ∧ (Lit.int .u64 r.2.2).wf = true := by
  rcases open_slice ht h with ⟨hcs, _⟩ | ⟨a', len', cap, m, n, D, Pl, hcs, _, hl, _, hm, _, hx⟩
  · injection hcs with hcs; injection hcs with e1 e2 e3; subst e1 e2 e3
    exact ⟨[], rfl, ⟨rfl, .inl ⟨rfl, rfl⟩⟩, fun r hr => by simp at hr⟩
  · injection hcs with hcs; injection hcs with e1 e2 e3; subst e1 e2 e3
    have hlm : len ≤ m := by rw [hm]; split <;> omega
    have each : ∀ i, i < len → ∃ q : Int × Int × Int, (∀ j, j < 3 → w.cell? (a'.add (i * 3 + j)) = some (triV q j)) ∧ (Lit.int .i64 q.1).wf = true ∧ (Lit.int .i64 q.2.1).wf = true ∧ (Lit.int .u64 q.2.2).wf = true := fun i hi => by
      obtain ⟨cs', h1, h2⟩ := hx i (by omega)
      rw [ce] at h1
      obtain ⟨_, hlen, hcell⟩ := World.cells?_some h1
      obtain ⟨xs, k, hk, hxy, _, hxl, hf⟩ := DataW.trod_struct he h2
      match xs, hxl, cs', hlen with
      | [y0, y1, y2], _, [v0, v1, v2], _ =>
        have g0 := hf 0 f0 rfl
        have g1 := hf 1 f1 rfl
        have g2 := hf 2 f2 rfl
        simp [o0, o1, o2, c0, c1, c2] at g0 g1 g2
        have d0 := hcell 0 (by omega)
        have d1 := hcell 1 (by omega)
        have d2 := hcell 2 (by omega)
        rw [add_add] at d0 d1 d2
        obtain ⟨n0, k1, _, w0⟩ := DataW.trod_int i0 g0
        obtain ⟨n1, k3, _, w1⟩ := DataW.trod_int i1 g1
        obtain ⟨n2, k5, _, w2⟩ := DataW.trod_int i2 g2
        injection k1 with k1
        injection k3 with k3
        injection k5 with k5
        subst k1 k3 k5
        refine ⟨(n0, n1, n2), fun j hj => ?_, w0, w1, w2⟩
        rcases (by omega : j = 0 ∨ j = 1 ∨ j = 2) with rfl | rfl | rfl
        · simpa [triV] using d0
        · simpa [triV] using d1
        · simpa [triV] using d2
    obtain ⟨q, hq⟩ := choose_lt each
    have hL : ((List.range len).map q).length = len := by simp
    have hget : ∀ j r, ((List.range len).map q)[j]? = some r → j < len ∧ r = q j := fun j r hj => by
      rw [List.getElem?_map] at hj
      cases hr : (List.range len)[j]? with
      | none => rw [hr] at hj; cases hj
      | some k =>
        rw [hr] at hj
        obtain ⟨h1, h2⟩ := List.getElem?_eq_some_iff.1 hr
        simp at h1 h2 hj
        subst h2
        exact ⟨h1, hj.symm⟩
    refine ⟨(List.range len).map q, hL, ?_, fun r hr => ?_⟩
    · rw [hL]
      refine inRow_cells (fun j => triV (q (j / 3)) (j % 3)) (by rw [triples_length, hL]) (by omega) (fun j hj => ?_) fun j v hj => ?_
      · have h1 := (hq (j / 3) (by omega)).1 (j % 3) (by omega)
        rw [show j / 3 * 3 + j % 3 = j by omega] at h1
        exact h1
      · obtain ⟨r, h1, h2⟩ := triples_get _ j v hj
        obtain ⟨h3, rfl⟩ := hget _ _ h1
        subst h2
        exact tri_one _ _
    · obtain ⟨j, hj, rfl⟩ := List.getElem_of_mem hr
      obtain ⟨h1, h2⟩ := hget j _ (List.getElem?_eq_getElem hj)
      rw [h2]
      exact (hq _ h1).2
end Go.Proofs.Ytcjddojcfdeflaa.Ev
namespace Go.Proofs.Ytcjddojcfdeflaa.Ev
open Go.RowKit Go.ChangeShapes Go.WideShapes Go.Deep
theorem in_ints {H : Type} {enc : TypeId × Value → H} {P : Program} {w : World} {spare : Nat → Bool} {held : Bool} {t e : TypeId} {kd : IntKind} {fuel : Nat} {a : Option Addr} {len c : Nat} {x : DataW H × List MemPlace} (ht : P.underlying t = some (.slice e)) (he : P.underlying e = some (.int kd))
    (ce : P.cellsOf e = 1)
    (h : DataW.trod enc P w 0 spare held fuel t [.slice a len c] = some x) : ∃ L : List Int, L.length = len ∧ InRow w (.slice a len c) 1 L.length (L.map fun v => .int kd v) ∧ ∀ r ∈ L, (Lit.int kd r).wf = true := by
  rcases open_slice ht h with ⟨hcs, _⟩ | ⟨a', len', cap, m, n, D, Pl, hcs, _, hl, _, hm, _, hx⟩
  · injection hcs with hcs; injection hcs with e1 e2 e3; subst e1 e2 e3
    exact ⟨[], rfl, ⟨rfl, .inl ⟨rfl, rfl⟩⟩, fun r hr => by simp at hr⟩
  · injection hcs with hcs; injection hcs with e1 e2 e3; subst e1 e2 e3
    have hlm : len ≤ m := by rw [hm]; split <;> omega
    have each : ∀ i, i < len → ∃ q : Int, w.cell? (a'.add i) = some (.int kd q) ∧ (Lit.int kd q).wf = true := fun i hi => by
      obtain ⟨cs', h1, h2⟩ := hx i (by omega)
      rw [ce] at h1
      obtain ⟨_, hlen, hcell⟩ := World.cells?_some h1
      match cs', hlen with
      | [v0], _ =>
        have d0 := hcell 0 (by omega)
        rw [add_add] at d0
        obtain ⟨n0, k1, _, w0⟩ := DataW.trod_int he h2
        injection k1 with k1
        subst k1
        exact ⟨n0, by simpa using d0, w0⟩
    obtain ⟨q, hq⟩ := choose_lt each
    have hL : ((List.range len).map q).length = len := by simp
    have hget : ∀ j r, ((List.range len).map q)[j]? = some r → j < len ∧ r = q j := fun j r hj => by
      rw [List.getElem?_map] at hj
      cases hr : (List.range len)[j]? with
      | none => rw [hr] at hj; cases hj
      | some k =>
        rw [hr] at hj
        obtain ⟨h1, h2⟩ := List.getElem?_eq_some_iff.1 hr
        simp at h1 h2 hj
        subst h2
        exact ⟨h1, hj.symm⟩
    refine ⟨(List.range len).map q, hL, ?_, fun r hr => ?_⟩
    · rw [hL]
      refine inRow_cells (fun j => .int kd (q j)) (by rw [List.length_map, hL, Nat.mul_one]) (by omega) (fun j hj => ?_) fun j v hj => ?_
      · exact (hq j (by omega)).1
      · rw [List.getElem?_map] at hj
        cases hr : ((List.range len).map q)[j]? with
        | none => rw [hr] at hj; cases hj
        | some r =>
          rw [hr] at hj
          injection hj with hj; subst hj
          obtain ⟨_, rfl⟩ := hget _ _ hr
          exact ⟨rfl, fun ρ => by simp [Rel, Value.oneCell']⟩
    · obtain ⟨j, hj, rfl⟩ := List.getElem_of_mem hr
      obtain ⟨h1, h2⟩ := hget j _ (List.getElem?_eq_getElem hj)
      rw [h2]
      exact (hq _ h1).2
theorem i64_bd {r : Int} (h : (Lit.int .i64 r).wf = true) : -9223372036854775808 ≤ r ∧ r ≤ 9223372036854775807 := by
  have h' : IntKind.i64.min ≤ r ∧ r ≤ IntKind.i64.max := by simpa [Lit.wf] using h
  have e1 : IntKind.i64.min = -9223372036854775808 := by decide
  have e2 : IntKind.i64.max = 9223372036854775807 := by decide
  rwa [e1, e2] at h'
/-- a word is a number below 2^64 -/
theorem u64_nat {r : Int} (h : (Lit.int .u64 r).wf = true) : ∃ n : Nat, r = n ∧ n < 18446744073709551616 := by
  have h' : IntKind.u64.min ≤ r ∧ r ≤ IntKind.u64.max := by simpa [Lit.wf] using h
  have e1 : IntKind.u64.min = 0 := by decide
  have e2 : IntKind.u64.max = 18446744073709551615 := by decide
  rw [e1, e2] at h'
  exact ⟨r.toNat, by omega, by omega⟩
end Go.Proofs.Ytcjddojcfdeflaa.Ev
namespace Go.Proofs.Ytcjddojcfdeflaa.Ev
open Go.RowKit
def wd (b : BitVec 64) : V := .int .u64 (b.toNat : Int)
@[simp] theorem wd_one (b : BitVec 64) : (wd b).one = true := Eq.symm (Eq.symm rfl)
@[simp] theorem wd_inj (a b : BitVec 64) : (wd a = wd b) = (a = b) := by
  apply propext
  constructor
  · intro h
    unfold wd at h
    injection h with h; injection h with _ h
    exact BitVec.eq_of_toNat_eq (by omega)
  · rintro rfl; rfl
section
variable {P : Program} {c : Cx} {e : Env} {st : St} {t : TypeId} {x y : Operand} {a b : BitVec 64} {β : Type}
@[simp] theorem cellsOf_wd (k : List V → Option β) : cellsOf (wd a) k = k [wd a] := rfl
@[simp] theorem storeK_wd (n i : Nat) : storeK P c st t n i (wd a) = szOf P t fun z => if 1 = z then putB c st n i [wd a] fun st => some (.u, st) else none := storeK_1 rfl t n i
theorem wd_lit {n : Int} (h1 : 0 ≤ n) (h2 : n < 18446744073709551616) : V.int .u64 n = wd (BitVec.ofInt 64 n) := by
  unfold wd
  rw [BitVec.toNat_ofInt, show ((2 ^ 64 : Nat) : Int) = 18446744073709551616 from rfl, Int.emod_eq_of_lt h1 h2]
  congr 2
  omega
theorem wd_0 : V.int .u64 0 = wd 0#64 := rfl
@[simp high] theorem opv_u64 (n : Int) (h1 : 0 ≤ n) (h2 : n < 18446744073709551616) : opv e (.const (.int .u64 n)) = some (wd (BitVec.ofInt 64 n)) := by
  rw [opv_int, wd_lit h1 h2]
theorem wrapZ (z : Int) : IntKind.u64.wrap z = z % 18446744073709551616 := by
  simp [IntKind.wrap, IntKind.signed, IntKind.bits]
theorem wrapN (n : Nat) : IntKind.u64.wrap (n : Int) = ((n % 18446744073709551616 : Nat) : Int) := by
  simp only [IntKind.wrap, IntKind.signed, IntKind.bits]
  simp
@[simp] theorem wd_and : binE P st .and t x y (wd a) (wd b) = some (wd (a &&& b), st) := by
  unfold wd; rw [bin_and, ← BitVec.toNat_and, wrap_u (BitVec.isLt _)]
@[simp] theorem wd_or : binE P st .or t x y (wd a) (wd b) = some (wd (a ||| b), st) := by
  unfold wd; rw [bin_or, ← BitVec.toNat_or, wrap_u (BitVec.isLt _)]
@[simp] theorem wd_xor : binE P st .xor t x y (wd a) (wd b) = some (wd (a ^^^ b), st) := by
  unfold wd; rw [bin_xor, ← BitVec.toNat_xor, wrap_u (BitVec.isLt _)]
@[simp] theorem wd_andNot : binE P st .andNot t x y (wd a) (wd b) = some (wd (a &&& ~~~b), st) := by
  have h : a &&& ~~~b = a ^^^ (a &&& b) := by
    ext i hi
    simp
    cases a[i] <;> cases b[i] <;> rfl
  rw [h]
  unfold wd; rw [bin_andNot, ← BitVec.toNat_and, ← BitVec.toNat_xor, wrap_u (BitVec.isLt _)]
@[simp] theorem wd_add : binE P st .add t x y (wd a) (wd b) = some (wd (a + b), st) := by
  unfold wd; rw [bin_add, BitVec.toNat_add, ← Int.natCast_add, wrapN]
@[simp] theorem wd_sub : binE P st .sub t x y (wd a) (wd b) = some (wd (a - b), st) := by
  unfold wd
  have h : IntKind.u64.wrap ((a.toNat : Int) - (b.toNat : Int)) = (((a - b).toNat : Nat) : Int) := by
    rw [wrapZ, BitVec.toNat_sub]
    have ha := a.isLt
    have hb := b.isLt
    omega
  rw [bin_sub, h]
@[simp] theorem wd_mul : binE P st .mul t x y (wd a) (wd b) = some (wd (a * b), st) := by
  unfold wd; rw [bin_mul, BitVec.toNat_mul, ← Int.natCast_mul, wrapN]
@[simp] theorem wd_eql : binE P st .eql t x y (wd a) (wd b) = some (.bool (decide (a = b)), st) := by
  unfold wd; rw [bin_eql]
  have : ((a.toNat : Int) = (b.toNat : Int)) = (a = b) := by
    apply propext
    exact ⟨fun h => BitVec.eq_of_toNat_eq (by omega), fun h => by rw [h]⟩
  simp only [this]
@[simp] theorem wd_neq : binE P st .neq t x y (wd a) (wd b) = some (.bool (!decide (a = b)), st) := by
  unfold wd; rw [bin_neq]
  have : ((a.toNat : Int) = (b.toNat : Int)) = (a = b) := by
    apply propext
    exact ⟨fun h => BitVec.eq_of_toNat_eq (by omega), fun h => by rw [h]⟩
  simp only [this]
@[simp] theorem wd_lss : binE P st .lss t x y (wd a) (wd b) = some (.bool (decide (a < b)), st) := by
  unfold wd; rw [bin_lss]
  have : ((a.toNat : Int) < (b.toNat : Int)) = (a < b) := by rw [BitVec.lt_def]; exact propext Int.ofNat_lt
  simp only [this]
@[simp] theorem wd_gtr : binE P st .gtr t x y (wd a) (wd b) = some (.bool (decide (b < a)), st) := by
  unfold wd; rw [bin_gtr]
  have : ((b.toNat : Int) < (a.toNat : Int)) = (b < a) := by rw [BitVec.lt_def]; exact propext Int.ofNat_lt
  simp only [this]
@[simp] theorem wd_leq : binE P st .leq t x y (wd a) (wd b) = some (.bool (decide (a ≤ b)), st) := by
  unfold wd; rw [bin_leq]
  have : ((a.toNat : Int) ≤ (b.toNat : Int)) = (a ≤ b) := by rw [BitVec.le_def]; exact propext Int.ofNat_le
  simp only [this]
@[simp] theorem wd_geq : binE P st .geq t x y (wd a) (wd b) = some (.bool (decide (b ≤ a)), st) := by
  unfold wd; rw [bin_geq]
  have : ((b.toNat : Int) ≤ (a.toNat : Int)) = (b ≤ a) := by rw [BitVec.le_def]; exact propext Int.ofNat_le
  simp only [this]
theorem shl_big {n k : Nat} (h : 64 ≤ k) : n <<< k % 2 ^ 64 = 0 := by
  rw [Nat.shiftLeft_eq, show 2 ^ k = 2 ^ 64 * 2 ^ (k - 64) by rw [← Nat.pow_add]; congr 1; omega, ← Nat.mul_assoc, Nat.mul_comm n, Nat.mul_assoc]
  exact Nat.mul_mod_right _ _
theorem shr_big {n k : Nat} (hn : n < 2 ^ 64) (h : 64 ≤ k) : n >>> k = 0 := by
  rw [Nat.shiftRight_eq_div_pow]
  exact Nat.div_eq_of_lt (Nat.lt_of_lt_of_le hn (Nat.pow_le_pow_right (by decide) h))
theorem shlN (n : Nat) (k : IntKind) : binE P st .shl t x y (wd a) (.c (.int k (n : Int))) = some (wd (a <<< n), st) := by
  unfold wd
  have h : a.toNat <<< min n 64 % 18446744073709551616 = (a <<< n).toNat := by
    rw [BitVec.toNat_shiftLeft]
    by_cases h : n ≤ 64
    · rw [Nat.min_eq_left h]
    · rw [Nat.min_eq_right (by omega), show (18446744073709551616 : Nat) = 2 ^ 64 from rfl, shl_big (Nat.le_refl 64), shl_big (by omega)]
  rw [bin_shl, kbits_u64, wrapN, h]
theorem shrN (n : Nat) (k : IntKind) : binE P st .shr t x y (wd a) (.c (.int k (n : Int))) = some (wd (a >>> n), st) := by
  unfold wd
  have h : a.toNat >>> min n 64 = (a >>> n).toNat := by
    rw [BitVec.toNat_ushiftRight]
    by_cases h : n ≤ 64
    · rw [Nat.min_eq_left h]
    · rw [Nat.min_eq_right (by omega), shr_big a.isLt (Nat.le_refl 64), shr_big a.isLt (by omega)]
  rw [bin_shr, kbits_u64, h]
@[simp] theorem wd_shl {n : Int} (h : 0 ≤ n) (k : IntKind) : binE P st .shl t x y (wd a) (.c (.int k n)) = some (wd (a <<< n.toNat), st) := by
  obtain ⟨m, rfl⟩ := Int.eq_ofNat_of_zero_le h
  exact shlN m k
@[simp] theorem wd_shr {n : Int} (h : 0 ≤ n) (k : IntKind) : binE P st .shr t x y (wd a) (.c (.int k n)) = some (wd (a >>> n.toNat), st) := by
  obtain ⟨m, rfl⟩ := Int.eq_ofNat_of_zero_le h
  exact shrN m k
@[simp] theorem wd_shlW : binE P st .shl t x y (wd a) (wd b) = some (wd (a <<< b.toNat), st) := shlN b.toNat .u64
@[simp] theorem wd_shrW : binE P st .shr t x y (wd a) (wd b) = some (wd (a >>> b.toNat), st) := shrN b.toNat .u64
end
/-- rows of words -/
def wv (L : List (BitVec 64)) : List V := L.map wd
@[simp] theorem wv_length (L : List (BitVec 64)) : (wv L).length = L.length := by simp [wv]
theorem wv_get {L : List (BitVec 64)} {i : Nat} {w : BitVec 64} (h : L[i]? = some w) : (wv L)[i]? = some (wd w) := by simp [wv, h]
theorem wv_app (L K : List (BitVec 64)) : wv (L ++ K) = wv L ++ wv K := by simp [wv]
theorem wv_of {L : List Int} (h : ∀ r ∈ L, (Lit.int .u64 r).wf = true) : ∃ K : List (BitVec 64), K.length = L.length ∧ L.map (fun v => V.int .u64 v) = wv K := by
  refine ⟨L.map (BitVec.ofInt 64), by simp, ?_⟩
  unfold wv
  rw [List.map_map]
  refine List.map_congr_left fun r hr => ?_
  obtain ⟨n, rfl, hn⟩ := u64_nat (h r hr)
  exact wd_lit (by omega) (by omega)
end Go.Proofs.Ytcjddojcfdeflaa.Ev
set_option linter.unusedSimpArgs false
namespace Go.Proofs.Ytcjddojcfdeflaa
open Go.RowKit Ev
theorem Ev.OwnRow.setOther {b : Nat} {st : St} {x : V} {z n : Nat} {l : List V} (h : OwnRow b st x z n l) {k : Nat} (hk : ∀ o l z, x ≠ .sg k o l z) (w : B) : OwnRow b ⟨st.nx, st.h.set k w⟩ x z n l := by
  obtain ⟨g1, g2⟩ := h
  refine ⟨g1, ?_⟩
  rcases g2 with g2 | ⟨q, ty, tr, rfl, g3, g4, g5, g6⟩
  · exact .inl g2
  · exact .inr ⟨q, ty, tr, rfl, g3, g4, by rw [show (⟨st.nx, st.h.set k w⟩ : St).h.get q = (st.h.set k w).get q from rfl, T.get_set_ne _ _ (fun e => hk _ _ _ (by rw [e]))]; exact g5, g6⟩
theorem lt_of_get {α : Type} {l : List α} {i : Nat} {v : α} (h : l[i]? = some v) : i < l.length := by
  rcases Nat.lt_or_ge i l.length with h1 | h1
  · exact h1
  · rw [List.getElem?_eq_none h1] at h; cases h
theorem Ev.OwnRow.nilRow {b : Nat} {st : St} {z : Nat} : OwnRow b st (.c (.slice none 0 0)) z 0 [] := ⟨by simp, .inl ⟨rfl, rfl⟩⟩
theorem min_i64 (P : Program) (a b : Int) (ty : TypeId) (st : St) (ts : List TypeId) : pick1 P .min ts ty [.int .i64 a, .int .i64 b] st = some (.int .i64 (if b < a then b else a), st) := by
  have h : pureRun P (Builtin.min_ ⟨ts⟩ ty ⟨[.int .i64 a, .int .i64 b]⟩) = some (.int .i64 (if b < a then b else a)) := rfl
  have h2 : pick1 P .min ts ty [.int .i64 a, .int .i64 b] st = pu P (Builtin.min_ ⟨ts⟩ ty ⟨[.int .i64 a, .int .i64 b]⟩) (ret st) := rfl
  rw [h2]
  unfold pu
  rw [h]
  simp [ofV, fA, ret]
theorem max_i64 (P : Program) (a b : Int) (ty : TypeId) (st : St) (ts : List TypeId) : pick1 P .max ts ty [.int .i64 a, .int .i64 b] st = some (.int .i64 (if b > a then b else a), st) := by
  have h : pureRun P (Builtin.max_ ⟨ts⟩ ty ⟨[.int .i64 a, .int .i64 b]⟩) = some (.int .i64 (if b > a then b else a)) := rfl
  have h2 : pick1 P .max ts ty [.int .i64 a, .int .i64 b] st = pu P (Builtin.max_ ⟨ts⟩ ty ⟨[.int .i64 a, .int .i64 b]⟩) (ret st) := rfl
  rw [h2]
  unfold pu
  rw [h]
  simp [ofV, fA, ret]
theorem forb_rsOf {b i x y : Nat} {l : List (Nat × Nat)} (h : Nat.testBit b i = true) : forb b (rsOf [] i x y) l = l := by
  unfold rsOf
  cases Nat.beq x y
  · show (match Nat.testBit b i with | true => l | false => (x, y) :: l) = l
    rw [h]
  · rfl
theorem slice_arr {P : Program} {e : Env} {t len el z : Nat} {β : Type} (hu : P.underlying t = some (.array len el)) (hz : ∀ k : Nat → Option β, szOf P el k = k z) (n o : Nat) (k : V → Option β) : sliceE P e t (.p n o) none none k = k (.sl n o len len) := by
  unfold sliceE
  rw [hu]
  simp only [hz]
  have h1 : ∀ f : Nat → Option β, bnd e len none f = f len := fun f => rfl
  have h2 : ∀ f : Nat → Option β, bnd e 0 none f = f 0 := fun f => rfl
  rw [h1, h2]
  have b2 : Nat.ble len len = true := by rw [Nat.ble_eq]; exact Nat.le_refl _
  have b1 : Nat.ble 0 len = true := by rw [Nat.ble_eq]; exact Nat.zero_le _
  simp only [b1, b2]
  cases hb : Nat.beq len 0 <;> simp [fn_eq]
theorem Gd_slice_arr {P : Program} {c : Cx} {st : St} {e : Env} {t len el z : Nat} {Q : V × St → Prop} (hu : P.underlying t = some (.array len el)) (hz : ∀ k : Nat → Res, szOf P el k = k z) (n o : Nat) (hQ : Q (.sl n o len len, st)) : Gd (sliceK P c e st t (.p n o) none none) Q := by
  unfold sliceK
  rw [slice_arr hu hz]
  exact ⟨_, rfl, hQ⟩
theorem copy_nil {P : Program} {c : Cx} {st : St} {t t' el z : Nat} (hu : P.underlying t = some (.slice el)) (hi : infoOk P el z = true) (m o l q : Nat) : builtinE P c .copy [t, t'] [.sl m o l q, .c (.slice none 0 0)] st = putB c st m o [] fun st => some (.int .i64 0, st) := by
  unfold builtinE
  simp only [elemOf_ok hu hi]
  rfl
theorem Gd_cxC {P : Program} {c c' : Cx} {ops : List Oper} {o : Oper} {i : Nat} {s0 : St} {rs : List (Nat × Nat × Nat)} {e : Env} {st : St} {f : Nat} {args : List V} {R : V × St → Prop} (h : cxOf c ops o i rs s0 e = c') (k : Gd (callL P c' f args st) R) : Gd (callL P (cxOf c ops o i rs s0 e) f args st) R := by rw [h]; exact k
theorem take_fall {α : Type} (O : List α) (keep : Int) : O.take (max 0 (min keep O.length)).toNat = O.take keep.toNat := by
  by_cases h : keep ≤ O.length
  · congr 1; omega
  · rw [List.take_of_length_le (by omega), List.take_of_length_le (by omega)]
def isNil (v : V) : Bool := match v with
  | .c (.slice none 0 0) => true
  | _ => false
theorem eql_nil {P : Program} {t el z n : Nat} {v : V} {l : List V} {st : St} (hu : P.underlying t = some (.slice el)) (h : RdRow st v z n l) (s : St) (x y : Operand) : binE P s .eql t x y v (.c (.slice none 0 0)) = some (.bool (isNil v), s) := by
  obtain ⟨_, h2⟩ := h
  rcases h2 with ⟨rfl | rfl, _⟩ | ⟨m, o, q, ty, sz, tr, rfl, _⟩ | ⟨m, o, ty, sz, tr, rfl, _⟩ <;> simp [binE, hu, nilQ, isNil]
theorem neq_nil {P : Program} {t el z n : Nat} {v : V} {l : List V} {st : St} (hu : P.underlying t = some (.slice el)) (h : RdRow st v z n l) (s : St) (x y : Operand) : binE P s .neq t x y v (.c (.slice none 0 0)) = some (.bool (!isNil v), s) := by
  obtain ⟨_, h2⟩ := h
  rcases h2 with ⟨rfl | rfl, _⟩ | ⟨m, o, q, ty, sz, tr, rfl, _⟩ | ⟨m, o, ty, sz, tr, rfl, _⟩ <;> simp [binE, hu, nilQ, isNil]
theorem isNil_len {z n : Nat} {v : V} {l : List V} {st : St} (h : RdRow st v z n l) (hn : isNil v = true) : v = .c (.slice none 0 0) ∧ n = 0 := by
  obtain ⟨_, h2⟩ := h
  rcases h2 with ⟨rfl | rfl, h3⟩ | ⟨m, o, q, ty, sz, tr, rfl, _⟩ | ⟨m, o, ty, sz, tr, rfl, _⟩
  · exact ⟨rfl, h3⟩
  · cases hn
  · cases hn
  · cases hn
/-- a row of none, not nil -/
theorem evOp_build0 {P : Program} {c : Cx} {e : Env} {st : St} {F : CallF} {d : Option Nat} {t ty el z : Nat} {p : String} {af : Array Edge} {g : Option (Nat × Bool)} {zs : List V}
    (hu : ∀ k : TypeId → Nat → Res, Ev.elemOf P t k = k el z) (hz : ∀ k : List V → Res, zero P el k = k zs) (hzl : zs.length = z) : evOp P F c e st ⟨d, .buildSlice t 0 #[], ty, p, af, g⟩ = some (.sl st.nx 0 0 0, ⟨st.nx + 1, st.h.set st.nx (.cs el 0 .lf)⟩) := by
  have h1 : evOp P F c e st ⟨d, .buildSlice t 0 #[], ty, p, af, g⟩ = Ev.elemOf P t fun el z => zero P el fun zs => (match Nat.beq zs.length z, Nat.ble (0 * z) 16777216 with
    | true, true => partsK (fun i => some (i * z, z)) [] [] (rep zs 0) fun l => newC st el l fun n st => (some (.sl n 0 0 0, st) : Res)
    | _, _ => none) := rfl
  rw [h1, hu, hz]
  have b1 : Nat.beq zs.length z = true := by rw [hzl]; exact Nat.beq_refl z
  have b2 : Nat.ble (0 * z) 16777216 = true := by rw [Nat.ble_eq]; omega
  simp only [b1, b2]
  have h2 : partsK (fun i => some (i * z, z)) [] [] (rep zs 0) (fun l => newC st el l fun n st => (some (.sl n 0 0 0, st) : Res)) = newC st el [] fun n st => some (.sl n 0 0 0, st) := rfl
  rw [h2, newC_is]
  rfl
theorem Gd_append0 {P : Program} {st : St} {t t' el el' z m lx nt : Nat} {x : V} {new : List V} {Q : V × St → Prop} (hu : P.underlying t = some (.slice el)) (hk : P.underlying t' = some (.slice el')) (hi : infoOk P el z = true) (hel : el ≠ roT)
    (hm : st.h.get m = some (.cs el 0 .lf)) (hx : ∀ s', x ≠ .s s') (hl : ∀ k : Nat → Res, lenA x k = k lx) (hf : ∀ k : List V → Res, firsts ⟨false, [], 0, nt⟩ st z lx x k = k new) (hn : new.length = lx * z) (hmax : lx ≤ 1073741824)
    (h0 : lx = 0 → Q (.sl m 0 0 0, ⟨st.nx, st.h.set m (.cs el 0 .lf)⟩)) (h1 : 0 < lx → Q (.sg st.nx 0 lx z, ⟨st.nx + 1, st.h.set st.nx (.cs el new.length (sets new 0 .lf))⟩)) : Gd (builtinE P ⟨false, [], 0, nt⟩ .append [t, t'] [.sl m 0 0 0, x] st) Q := by
  have e1 : builtinE P ⟨false, [], 0, nt⟩ .append [t, t'] [.sl m 0 0 0, x] st = appE ⟨false, [], 0, nt⟩ st el z 0 lx (.sl m 0 0 0) new := by
    have hsm : small P el (0 + lx) = true := infoOk_small hi (by omega)
    unfold builtinE
    simp only [elemOf_ok hu hi, hk, lenA_sl]
    cases x with
    | s s' => exact absurd rfl (hx s')
    | _ => simp only [hl, hf, hsm]
  rw [e1]
  unfold appE
  simp only [fn_eq, Nat.zero_add]
  by_cases hz : lx = 0
  · subst hz
    have hnew : new = [] := List.length_eq_zero_iff.1 (by omega)
    subst hnew
    simp [putB_eq, hm, hel, sets]
    exact h0 rfl
  · have hb : Nat.ble lx 0 = false := by
      cases h : Nat.ble lx 0 with
      | false => rfl
      | true => rw [Nat.ble_eq] at h; omega
    simp only [hb]
    unfold growE
    simp [getC_eq, hm, getsB_zero, newC_is]
    exact h1 (by omega)
/-- an element of a row of one's own is written -/
theorem Ev.OwnRow.put {b n i : Nat} {st : St} {x : V} {l : List V} (h : OwnRow b st x 1 n l) (hi : i < n) : ∃ m ty t, x = .sg m 0 n 1 ∧ b ≤ m ∧ m < st.nx ∧ st.h.get m = some (.cs ty n t) ∧ ty ≠ roT ∧ (∀ j v, l[j]? = some v → t.get j = some v) ∧
    ∀ v, OwnRow b ⟨st.nx, st.h.set m (.cs ty n (t.set i v))⟩ x 1 n (l.set i v) := by
  obtain ⟨h1, h2⟩ := h
  rcases h2 with ⟨_, rfl⟩ | ⟨m, ty, t, rfl, h3, h4, h5, h6, h7⟩
  · omega
  · rw [Nat.mul_one] at h1 h5
    refine ⟨m, ty, t, rfl, h3, h4, h5, h6, h7, fun v => ⟨by simp [h1], .inr ⟨m, ty, t.set i v, rfl, h3, h4, by simp, h6, fun j w hj => ?_⟩⟩⟩
    rw [T.get_set]
    by_cases hij : i = j
    · subst hij
      rw [List.getElem?_set_self (by omega)] at hj
      injection hj with hj; subst hj
      rw [if_pos rfl]
    · rw [List.getElem?_set_ne hij] at hj
      rw [if_neg hij]
      exact h7 j w hj
/-- a row's block is none below b -/
def RowFrom (b : Nat) (y : V) : Prop := (∀ k o l z, y = .sg k o l z → b ≤ k) ∧ (∀ k o l q, y = .sl k o l q → b ≤ k)
theorem RowFrom.mono {b c : Nat} {y : V} (h : RowFrom b y) (k : c ≤ b) : RowFrom c y := ⟨fun _ _ _ _ e => Nat.le_trans k (h.1 _ _ _ _ e), fun _ _ _ _ e => Nat.le_trans k (h.2 _ _ _ _ e)⟩
theorem Ev.RdRow.setOther {st : St} {x : V} {z n : Nat} {l : List V} (h : RdRow st x z n l) {k : Nat} (h1 : ∀ o l z, x ≠ .sg k o l z) (h2 : ∀ o l q, x ≠ .sl k o l q) (w : B) : RdRow ⟨st.nx, st.h.set k w⟩ x z n l := by
  obtain ⟨g1, g2⟩ := h
  refine ⟨g1, ?_⟩
  rcases g2 with g2 | ⟨m, o, q, ty, sz, t, rfl, g3, g4, g5, g6⟩ | ⟨m, o, ty, sz, t, rfl, g3, g4, g5, g6⟩
  · exact .inl g2
  · exact .inr (.inl ⟨m, o, q, ty, sz, t, rfl, g3, (T.get_set_ne _ _ (fun e => h2 _ _ _ (by rw [e]))).trans g4, g5, g6⟩)
  · exact .inr (.inr ⟨m, o, ty, sz, t, rfl, g3, (T.get_set_ne _ _ (fun e => h1 _ _ _ (by rw [e]))).trans g4, g5, g6⟩)
theorem Ev.RdRow.lt_of {st : St} {x : V} {z n : Nat} {l : List V} (h : RdRow st x z n l) : (∀ k o l z, x = .sg k o l z → k < st.nx) ∧ (∀ k o l q, x = .sl k o l q → k < st.nx) := by
  obtain ⟨_, g2⟩ := h
  rcases g2 with ⟨rfl | rfl, _⟩ | ⟨m, o, q, ty, sz, t, rfl, g3, _⟩ | ⟨m, o, ty, sz, t, rfl, g3, _⟩
  · exact ⟨fun _ _ _ _ e => (by cases e), fun _ _ _ _ e => by cases e⟩
  · exact ⟨fun _ _ _ _ e => (by cases e), fun _ _ _ _ e => by cases e⟩
  · exact ⟨fun _ _ _ _ e => (by cases e), fun _ _ _ _ e => by cases e; exact g3⟩
  · exact ⟨fun _ _ _ _ e => (by cases e; exact g3), fun _ _ _ _ e => by cases e⟩
/-- two ways that meet again -/
theorem condK_join {P : Program} {M : Mach P} {c : Cx} {e : Env} {st : St} {v : Option V} {a b : Code} {Q : X × Env × St → Prop} (Q' : X × Env × St → Prop) (h : condK M c v a b e st Q') (k : ∀ r, Q' r → Q r) : condK M c v a b e st Q := by
  unfold condK at h ⊢
  refine h.mono fun v hv => ?_
  unfold boolK at hv ⊢
  split at hv
  · exact hv.mono k
  · exact hv.mono k
  · exact hv.elim
@[simp] theorem one_c (v : Value) : (V.c v).one = true := Eq.symm (Eq.symm rfl)
@[simp] theorem one_p (a b : Nat) : (V.p a b).one = true := Eq.symm (Eq.symm rfl)
@[simp] theorem one_s (l : List Nat) : (V.s l).one = true := Eq.symm (Eq.symm rfl)
@[simp] theorem one_sl (a b c d : Nat) : (V.sl a b c d).one = true := Eq.symm (Eq.symm rfl)
@[simp] theorem one_sg (a b c d : Nat) : (V.sg a b c d).one = true := Eq.symm (Eq.symm rfl)
@[simp] theorem one_e : V.one .e = true := Eq.symm (Eq.symm rfl)
@[simp] theorem one_m (n : Nat) : (V.m n).one = true := Eq.symm (Eq.symm rfl)
theorem Gd_append_nil {P : Program} {st : St} {fl : List (Nat × Nat)} {wb b t t' el el' z lx nt : Nat} {x : V} {new : List V} {Q : V × St → Prop} (hu : P.underlying t = some (.slice el)) (hk : P.underlying t' = some (.slice el')) (hi : infoOk P el z = true)
    (hb : b ≤ st.nx) (hel : el ≠ roT) (hx : ∀ s', x ≠ .s s') (hl : ∀ k : Nat → Res, lenA x k = k lx) (hf : ∀ k : List V → Res, firsts ⟨false, fl, wb, nt⟩ st z lx x k = k new) (hn : new.length = lx * z) (hmax : lx ≤ 1073741824)
    (hQ : ∀ s' st', OwnRow b st' s' z lx new → Ext st.nx st st' → (∀ q o l, s' ≠ .sl q o l z) → Q (s', st')) : Gd (builtinE P ⟨false, fl, wb, nt⟩ .append [t, t'] [.c (.slice none 0 0), x] st) Q := by
  have e1 : builtinE P ⟨false, fl, wb, nt⟩ .append [t, t'] [.c (.slice none 0 0), x] st = appE ⟨false, fl, wb, nt⟩ st el z 0 lx (.c (.slice none 0 0)) new := by
    have hsm : small P el (0 + lx) = true := infoOk_small hi (by omega)
    unfold builtinE
    simp only [elemOf_ok hu hi, hk, lenA_nil]
    cases x with
    | s s' => exact absurd rfl (hx s')
    | _ => simp only [hl, hf, hsm]
  rw [e1]
  unfold appE
  rw [fn_eq]
  cases lx with
  | zero =>
    have hn0 : new = [] := List.eq_nil_of_length_eq_zero (by rw [hn]; simp)
    subst hn0
    exact ⟨_, rfl, hQ _ _ ⟨by simp, .inl ⟨rfl, rfl⟩⟩ (Ext.refl _ _) (fun _ _ _ e => by cases e)⟩
  | succ k =>
    have e2 : growE ⟨false, fl, wb, nt⟩ st el z 0 (0 + (k + 1)) (.c (.slice none 0 0)) new = some (.sg st.nx 0 (k + 1) z, ⟨st.nx + 1, st.h.set st.nx (.cs el new.length (sets new 0 .lf))⟩) := by
      have : growE ⟨false, fl, wb, nt⟩ st el z 0 (0 + (k + 1)) (.c (.slice none 0 0)) new = newC st el ([] ++ new) fun n st => some (.sg n 0 (0 + (k + 1)) z, st) := rfl
      rw [this, newC_is, Nat.zero_add]
      rfl
    refine ⟨_, e2, hQ _ _ ⟨hn, .inr ⟨st.nx, el, sets new 0 .lf, rfl, hb, Nat.lt_succ_self _, ?_, hel, fun j v hj => ?_⟩⟩ ((Ext.refl _ st).new (Nat.le_refl _) _) (fun _ _ _ e => by cases e)⟩
    · show (st.h.set st.nx _).get st.nx = _
      rw [T.get_set_same, hn]
    · have hlt := lt_of_get hj
      rw [get_sets, if_pos (by omega)]
      exact hj
noncomputable def gapAt (t : Nat) (n : Int) (e : Env) : Nat := match e.get t with
  | some (.c (.int _ k)) => (n - k).toNat
  | _ => 0
theorem gapAt_lt {t : Nat} {n : Int} {e e' : Env} {k k' : Int} {i : IntKind} (h : e.get t = some (.int i k)) (h' : e'.get t = some (.int i k')) (hlt : k < n) (hk : k < k') : gapAt t n e' < gapAt t n e := by
  simp only [gapAt, h, h']; omega
/-! ### calls beside loads in a region whose order is drawn -/
theorem inF_forb {b i x y m : Nat} {l : List (Nat × Nat)} (h : inF l m = false) (hm : m < x) : inF (forb b (rsOf [] i x y) l) m = false := by
  unfold rsOf
  cases Nat.beq x y
  · show inF (match Nat.testBit b i with | true => l | false => (x, y) :: l) m = false
    cases Nat.testBit b i
    · show inF ((x, y) :: l) m = false
      rw [inF_cons, if_neg (by omega)]; exact h
    · exact h
  · exact h
theorem inF_ld {b i x y m nx : Nat} (hm : m < x) : inF ((0, m) :: (m + 1, nx) :: forb b (rsOf [] i x y) []) m = false := by
  rw [inF_cons, if_neg (by omega), inF_cons, if_neg (by omega)]
  exact inF_forb rfl hm
theorem inF_ldF {b i x y m nx : Nat} {fl : List (Nat × Nat)} (hf : inF fl m = false) (hm : m < x) : inF ((0, m) :: (m + 1, nx) :: forb b (rsOf [] i x y) fl) m = false := by
  rw [inF_cons, if_neg (by omega), inF_cons, if_neg (by omega)]
  exact inF_forb hf hm
theorem inF_ownF {m nx : Nat} {fl : List (Nat × Nat)} (hf : inF fl m = false) : inF ((0, m) :: (m + 1, nx) :: fl) m = false := by
  rw [inF_cons, if_neg (by omega), inF_cons, if_neg (by omega)]
  exact hf
theorem inF_app {l k : List (Nat × Nat)} {n : Nat} (h1 : inF l n = false) (h2 : inF k n = false) : inF (l ++ k) n = false := by
  induction l with
  | nil => exact h2
  | cons x l ih =>
    obtain ⟨a, b⟩ := x
    rw [inF_cons] at h1
    rw [List.cons_append, inF_cons]
    split at h1
    · cases h1
    · rename_i hn
      rw [if_neg hn]; exact ih h1
theorem cxOf_call {c : Cx} {e : Env} {d : Option Nat} {cl : Call} {ty : TypeId} {p : String} {af : Array Edge} {g : Option (Nat × Bool)} {ops : List Oper} {i : Nat} {s0 : St} {rs : List (Nat × Nat × Nat)} (ht : touches (.call cl) = true) (h : mayW ops i = true) : cxOf c ops ⟨d, .call cl, ty, p, af, g⟩ i rs s0 e = ⟨c.all, forb (befOf ops i) rs c.l, c.wb, c.nt⟩ := by
  have h0 : cxOf c ops ⟨d, .call cl, ty, p, af, g⟩ i rs s0 e = (match touches (.call cl) with
      | false => ⟨true, [], c.wb, c.nt⟩
      | true => (match mayW ops i with
        | true => ⟨c.all, forb (befOf ops i) rs c.l, c.wb, c.nt⟩
        | false => (match looseFor ops s0.h e i ⟨d, .call cl, ty, p, af, g⟩ with
          | some l => ⟨c.all, l ++ forb (befOf ops i) rs c.l, c.wb, c.nt⟩
          | none => ⟨c.all, forb (befOf ops i) rs c.l, s0.nx, c.nt⟩))) := rfl
  rw [h0, ht, h]
theorem Gd_appendL {P : Program} {st : St} {fl : List (Nat × Nat)} {b t t' el el' z n lx nt : Nat} {s x : V} {l new : List V} {Q : V × St → Prop} (hu : P.underlying t = some (.slice el)) (hk : P.underlying t' = some (.slice el')) (hi : infoOk P el z = true)
    (h : OwnRow b st s z n l) (hfl : ∀ m o ln, s = .sg m o ln z → inF fl m = false) (hb : b ≤ st.nx) (hel : el ≠ roT) (hx : ∀ s', x ≠ .s s') (hl : ∀ k : Nat → Res, lenA x k = k lx) (hf : ∀ k : List V → Res, firsts ⟨false, fl, 0, nt⟩ st z lx x k = k new) (hn : new.length = lx * z) (hmax : n + lx ≤ 1073741824)
    (hQ : ∀ s' st', OwnRow b st' s' z (n + lx) (l ++ new) → Ext b st st' → (∀ m, m < st.nx → (∀ o ln, s ≠ .sg m o ln z) → st'.h.get m = st.h.get m) → (s' = s ∨ ∃ ln, s' = .sg st.nx 0 ln z) → Q (s', st')) : Gd (builtinE P ⟨false, fl, 0, nt⟩ .append [t, t'] [s, x] st) Q := by
  have hz := infoOk_pos hi
  have hls : ∀ k : Nat → Res, lenA s k = k n := h.rd.len
  have e1 : builtinE P ⟨false, fl, 0, nt⟩ .append [t, t'] [s, x] st = appE ⟨false, fl, 0, nt⟩ st el z n lx s new := by
    unfold builtinE
    simp only [elemOf_ok hu hi, hls, hk]
    cases x with
    | s s' => exact absurd rfl (hx s')
    | _ => simp only [hl, hf, infoOk_small hi hmax]
  rw [e1]
  obtain ⟨h1, h2⟩ := h
  have hlen : (l ++ new).length = (n + lx) * z := by rw [List.length_append, h1, hn, Nat.add_mul]
  unfold appE
  rw [fn_eq]
  rcases h2 with ⟨rfl, rfl⟩ | ⟨m, ty, tr, rfl, h3, h4, h5, h6, h7⟩
  · have hl0 : l = [] := List.eq_nil_of_length_eq_zero (by rw [h1]; simp)
    subst hl0
    cases lx with
    | zero =>
      have hn0 : new = [] := List.eq_nil_of_length_eq_zero (by rw [hn]; simp)
      subst hn0
      exact ⟨_, rfl, hQ _ _ ⟨by simp, .inl ⟨rfl, rfl⟩⟩ (Ext.refl _ _) (fun _ _ _ => rfl) (.inl rfl)⟩
    | succ k =>
      have e2 : growE ⟨false, fl, 0, nt⟩ st el z 0 (0 + (k + 1)) (.c (.slice none 0 0)) new = some (.sg st.nx 0 (0 + (k + 1)) z, ⟨st.nx + 1, st.h.set st.nx (.cs el new.length (sets new 0 .lf))⟩) := by
        have : growE ⟨false, fl, 0, nt⟩ st el z 0 (0 + (k + 1)) (.c (.slice none 0 0)) new = newC st el ([] ++ new) fun n st => some (.sg n 0 (0 + (k + 1)) z, st) := rfl
        rw [this, newC_is]
        rfl
      refine ⟨_, e2, hQ _ _ ⟨hlen, .inr ⟨st.nx, el, sets new 0 .lf, rfl, hb, Nat.lt_succ_self _, ?_, hel, fun j v hj => ?_⟩⟩ ((Ext.refl b st).new hb _) (fun m hm _ => ?_) (.inr ⟨_, rfl⟩)⟩
      · show (st.h.set st.nx _).get st.nx = _
        rw [T.get_set_same, hn, Nat.zero_add]
      · rw [get_sets]
        have hlt : j < new.length := by
          rcases Nat.lt_or_ge j new.length with h | h
          · exact h
          · rw [List.nil_append, List.getElem?_eq_none h] at hj; cases hj
        rw [if_pos (by omega)]
        exact hj
      · exact T.get_set_ne _ _ (by omega)
  · have hro : Nat.beq ty roT = false := by
      cases h : Nat.beq ty roT with
      | false => rfl
      | true => exact absurd (Nat.eq_of_beq_eq_true h) h6
    have hzz : Nat.beq z z = true := Nat.beq_refl z
    simp only [hzz]
    have hin := hfl m _ _ rfl
    rw [getB_get m _ _ (by simp [hin]) h5]
    simp only [hro]
    cases lx with
    | zero =>
      have hn0 : new = [] := List.eq_nil_of_length_eq_zero (by rw [hn]; simp)
      subst hn0
      have hble : Nat.ble (0 + (n + 0) * z) (n * z) = true := by rw [Nat.ble_eq]; simp
      simp only [hble, fn_eq]
      rw [putB_eq, h5]
      have hc : 0 + n * z + ([] : List V).length ≤ n * z ∧ ty ≠ roT ∧ 0 ≤ m := ⟨by simp, h6, Nat.zero_le _⟩
      simp only [ok_top, hin, Bool.not_false, cond_true, Option.bind_some, csK_cs, if_pos hc]
      refine ⟨_, rfl, hQ _ _ ⟨hlen, .inr ⟨m, ty, tr, rfl, h3, h4, ?_, h6, fun j v hj => ?_⟩⟩ ((Ext.refl b st).set h3 h4 _) (fun m' hm hne => ?_) (.inl rfl)⟩
      · show (st.h.set m _).get m = _
        rw [T.get_set_same]
        rfl
      · rw [List.append_nil] at hj; exact h7 j v hj
      · exact T.get_set_ne _ _ (fun e => by subst e; exact hne _ _ rfl)
    | succ k =>
      have hble : Nat.ble (0 + (n + (k + 1)) * z) (n * z) = false := by
        cases h : Nat.ble (0 + (n + (k + 1)) * z) (n * z) with
        | false => rfl
        | true =>
          rw [Nat.ble_eq] at h
          have : (n + (k + 1)) * z = n * z + (k + 1) * z := Nat.add_mul ..
          have h2 : 1 * 1 ≤ (k + 1) * z := Nat.mul_le_mul (by omega) hz
          omega
      have hbeq : Nat.beq (0 + n * z) (n * z) = true := by rw [Nat.zero_add]; exact Nat.beq_refl _
      simp only [hble, hbeq, setB_eq, Nat.zero_le, if_pos]
      rw [setsK_eq, fn_eq, fn_eq, newB_is]
      refine ⟨_, rfl, hQ _ _ ⟨hlen, .inr ⟨st.nx, tyM ty el, sets new (n * z) tr, rfl, hb, Nat.lt_succ_self _, ?_, tyM_ro ty hel, fun j v hj => ?_⟩⟩ (((Ext.refl b st).set h3 h4 _).new hb _) (fun m' hm hne => ?_) (.inr ⟨_, rfl⟩)⟩
      · show ((st.h.set m .gone).set st.nx _).get st.nx = _
        rw [T.get_set_same, hn, Nat.add_mul n (k + 1) z]
      · rw [get_sets]
        rcases Nat.lt_or_ge j l.length with hj1 | hj1
        · rw [if_neg (by omega)]
          rw [List.getElem?_append_left hj1] at hj
          exact h7 j v hj
        · rw [List.getElem?_append_right hj1] at hj
          have hlt : j - l.length < new.length := by
            rcases Nat.lt_or_ge (j - l.length) new.length with h | h
            · exact h
            · rw [List.getElem?_eq_none h] at hj; cases hj
          rw [if_pos (by omega), ← h1]
          exact hj
      · show ((st.h.set m .gone).set st.nx _).get m' = _
        rw [T.get_set_ne _ _ (by omega), T.get_set_ne _ _ (fun e => by subst e; exact hne _ _ rfl)]
theorem noClash {e : Env} {l : List (Nat × Nat)} : ∀ {args : List Operand}, (∀ x ∈ args, clashes e l x = false) → lr false (fun x _ r => match clashes e l x with | true => true | false => r) args = false
  | [], _ => rfl
  | x :: args, h => by
    have h1 := h x (by simp)
    show (match clashes e l x with | true => true | false => lr false (fun x _ r => match clashes e l x with | true => true | false => r) args) = false
    rw [h1]
    exact noClash fun y hy => h y (by simp [hy])
theorem clashes_tmp' (e : Env) (l : List (Nat × Nat)) (t : Nat) : clashes e l (.tmp t) = ((e.get t).bind blkOf).elim false (inF l) := by
  have h : clashes e l (.tmp t) = (match e.get t with
    | some v => (match blkOf v with
      | some m => inF l m
      | none => false)
    | none => false) := rfl
  rw [h]
  cases e.get t with
  | none => rfl
  | some v => cases h2 : blkOf v <;> simp [h2]
/-! ### built structs -/
theorem alive_nil (h : T B) : alive h [] = [] := rfl
theorem alive_cons (h : T B) (p : Nat × Nat) (l : List (Nat × Nat)) : alive h (p :: l) = if isRo h p.1 = true then alive h l else p :: alive h l := by
  have e : alive h (p :: l) = (match isRo h p.1 with | true => alive h l | false => p :: alive h l) := rfl
  rw [e]
  cases isRo h p.1 <;> simp
theorem isRo_cs {h : T B} {m ty sz : Nat} {t : T V} (k : h.get m = some (.cs ty sz t)) : isRo h m = decide (ty = roT) := by
  unfold isRo; rw [k]; exact nbeq ..
theorem alive_ro {h : T B} : ∀ {l : List (Nat × Nat)}, (∀ p ∈ l, isRo h p.1 = true) → alive h l = []
  | [], _ => rfl
  | p :: l, k => by rw [alive_cons, if_pos (k p (List.mem_cons_self ..))]; exact alive_ro fun q hq => k q (List.mem_cons_of_mem _ hq)
theorem alive_own {h : T B} : ∀ {l : List (Nat × Nat)}, (∀ p ∈ l, isRo h p.1 = false) → alive h l = l
  | [], _ => rfl
  | p :: l, k => by rw [alive_cons, if_neg (by rw [k p (List.mem_cons_self ..)]; simp), alive_own fun q hq => k q (List.mem_cons_of_mem _ hq)]
/-- a call beside loads that may come behind it: what they read may not be touched -/
theorem cxOf_callA {c : Cx} {e : Env} {s0 : St} {d : Option Nat} {cl : Call} {ty : TypeId} {p : String} {af : Array Edge} {g : Option (Nat × Bool)} {ops : List Oper} {i : Nat} {rs : List (Nat × Nat × Nat)} (l0 l : List (Nat × Nat)) (ht : touches (.call cl) = true) (hm : mayW ops i = false) (hl : looseW ops e i = some l0) (ha : alive s0.h l0 = l) (hc : ∀ x ∈ cl.args.toList, clashes e l x = false) :
    cxOf c ops ⟨d, .call cl, ty, p, af, g⟩ i rs s0 e = ⟨c.all, l ++ forb (befOf ops i) rs c.l, c.wb, c.nt⟩ := by
  have h0 : cxOf c ops ⟨d, .call cl, ty, p, af, g⟩ i rs s0 e = (match touches (.call cl) with
      | false => ⟨true, [], c.wb, c.nt⟩
      | true => (match mayW ops i with
        | true => ⟨c.all, forb (befOf ops i) rs c.l, c.wb, c.nt⟩
        | false => (match (match looseW ops e i with
            | none => none
            | some l => (match lr false (fun x _ r => match clashes e (alive s0.h l) x with | true => true | false => r) cl.args.toList with
              | true => none
              | false => some (alive s0.h l))) with
          | some l => ⟨c.all, l ++ forb (befOf ops i) rs c.l, c.wb, c.nt⟩
          | none => ⟨c.all, forb (befOf ops i) rs c.l, s0.nx, c.nt⟩))) := rfl
  rw [h0, ht, hm, hl]
  simp only [ha, noClash hc]
/-- a call beside loads of what can't change -/
theorem cxOf_callRo {c : Cx} {e : Env} {s0 : St} {d : Option Nat} {cl : Call} {ty : TypeId} {p : String} {af : Array Edge} {g : Option (Nat × Bool)} {ops : List Oper} {i : Nat} {rs : List (Nat × Nat × Nat)} (l0 : List (Nat × Nat)) (ht : touches (.call cl) = true) (hm : mayW ops i = false) (hl : looseW ops e i = some l0) (ha : ∀ p ∈ l0, isRo s0.h p.1 = true) :
    cxOf c ops ⟨d, .call cl, ty, p, af, g⟩ i rs s0 e = ⟨c.all, forb (befOf ops i) rs c.l, c.wb, c.nt⟩ := by
  rw [cxOf_callA l0 [] ht hm hl (alive_ro ha) (fun x _ => by cases x with
    | tmp t => rw [clashes_tmp']; cases (e.get t).bind blkOf <;> rfl
    | _ => rfl)]
  rfl
theorem cxOf_callL {c : Cx} {e : Env} {s0 : St} {d : Option Nat} {cl : Call} {ty : TypeId} {p : String} {af : Array Edge} {g : Option (Nat × Bool)} {ops : List Oper} {i : Nat} {rs : List (Nat × Nat × Nat)} (l : List (Nat × Nat)) (ht : touches (.call cl) = true) (hm : mayW ops i = false) (hl : looseW ops e i = some l) (hc : ∀ x ∈ cl.args.toList, clashes e l x = false) (ha : ∀ p ∈ l, isRo s0.h p.1 = false) :
    cxOf c ops ⟨d, .call cl, ty, p, af, g⟩ i rs s0 e = ⟨c.all, l ++ forb (befOf ops i) rs c.l, c.wb, c.nt⟩ := cxOf_callA l l ht hm hl (alive_own ha) hc
noncomputable def seenG (ops : List Oper) (e : Nat → Option V) (i j q : Nat) : Option V := match Nat.blt j i with
  | true => e q
  | false => seenR ops e 8 q
noncomputable def looseG (ops : List Oper) (e : Nat → Option V) (i : Nat) : Option (List (Nat × Nat)) := lr (β := Nat → Option (List (Nat × Nat))) (fun _ => some []) (fun o _ ih j => match Nat.beq i j with
  | true => ih (j + 1)
  | false => (match touches o.op with
    | false => ih (j + 1)
    | true => (match ordered ops i j with
      | true => ih (j + 1)
      | false => (match plainLd o.op with
        | some q => (match firm ops j q, seenG ops e i j q with
          | true, some v => (match ih (j + 1) with
            | some l => (match blkOf v with
              | some m => some ((m, m + 1) :: l)
              | none => some l)
            | none => none)
          | _, _ => none)
        | none => none)))) ops 0
theorem looseW_G (ops : List Oper) (e : Env) (i : Nat) : looseW ops e i = looseG ops (fun t => e.get t) i := rfl
/-- one slot is known -/
theorem looseW_at {ops : List Oper} {e : Env} {i : Nat} {l : List (Nat × Nat)} (t : Nat) (v : V) (h : e.get t = some v) (hl : looseG ops (fun x => match Nat.beq x t with | true => some v | false => e.get x) i = some l) : looseW ops e i = some l := by
  rw [looseW_G, ← hl]
  congr 1
  funext x
  cases hx : Nat.beq x t with
  | true =>
    have := Nat.eq_of_beq_eq_true hx
    subst this
    exact h
  | false => rfl
theorem forb_rsOf2 {b i j x y u v : Nat} {l : List (Nat × Nat)} (h : Nat.testBit b i = true) (h2 : Nat.testBit b j = true) : forb b (rsOf (rsOf [] i x y) j u v) l = l := by
  unfold rsOf
  cases Nat.beq u v
  · show (match Nat.testBit b j with | true => forb b (rsOf [] i x y) l | false => (u, v) :: forb b (rsOf [] i x y) l) = l
    rw [h2]
    exact forb_rsOf h
  · exact forb_rsOf h
/-- two slots are known -/
theorem looseW_at2 {ops : List Oper} {e : Env} {i : Nat} {l : List (Nat × Nat)} (t t' : Nat) (v v' : V) (h : e.get t = some v) (h' : e.get t' = some v') (hl : looseG ops (fun x => match Nat.beq x t with | true => some v | false => (match Nat.beq x t' with | true => some v' | false => e.get x)) i = some l) : looseW ops e i = some l := by
  rw [looseW_G, ← hl]
  congr 1
  funext x
  cases hx : Nat.beq x t with
  | true =>
    have := Nat.eq_of_beq_eq_true hx
    subst this
    exact h
  | false =>
    cases hx' : Nat.beq x t' with
    | true =>
      have := Nat.eq_of_beq_eq_true hx'
      subst this
      exact h'
    | false => rfl
/-- three slots are known -/
theorem looseW_at3 {ops : List Oper} {e : Env} {i : Nat} {l : List (Nat × Nat)} (t t' t'' : Nat) (v v' v'' : V) (h : e.get t = some v) (h' : e.get t' = some v') (h'' : e.get t'' = some v'') (hl : looseG ops (fun x => match Nat.beq x t with | true => some v | false => (match Nat.beq x t' with | true => some v' | false => (match Nat.beq x t'' with | true => some v'' | false => e.get x))) i = some l) : looseW ops e i = some l := by
  rw [looseW_G, ← hl]
  congr 1
  funext x
  cases hx : Nat.beq x t with
  | true =>
    have := Nat.eq_of_beq_eq_true hx
    subst this
    exact h
  | false =>
    cases hx' : Nat.beq x t' with
    | true =>
      have := Nat.eq_of_beq_eq_true hx'
      subst this
      exact h'
    | false =>
      cases hx2 : Nat.beq x t'' with
      | true =>
        have := Nat.eq_of_beq_eq_true hx2
        subst this
        exact h''
      | false => rfl
@[simp] theorem blkOf_wd (b : BitVec 64) : blkOf (wd b) = none := rfl
@[simp] theorem blkOf_c (v : Value) : blkOf (.c v) = none := rfl
@[simp] theorem blkOf_p (m o : Nat) : blkOf (.p m o) = some m := rfl
theorem clashes_tmp (e : Env) (l : List (Nat × Nat)) (t : Nat) : clashes e l (.tmp t) = ((e.get t).bind blkOf).elim false (inF l) := by
  have h : clashes e l (.tmp t) = (match e.get t with
    | some v => (match blkOf v with
      | some m => inF l m
      | none => false)
    | none => false) := rfl
  rw [h]
  cases e.get t with
  | none => rfl
  | some v => cases h2 : blkOf v <;> simp [h2]
/-! ### built structs -/
noncomputable def structOk (P : Program) (t : TypeId) (offs : List (Nat × Nat)) : Bool := match P.underlying t with
  | some (.struct fs) => (fs.toList.all fun f => (P.info? f.type).isSome) && (fs.toList.map (fun f => (f.offset, ((P.info? f.type).map (·.size)).getD 0)) == offs)
  | _ => false
theorem bldK_ok {P : Program} {t : TypeId} {offs : List (Nat × Nat)} (h : structOk P t offs = true) (parts : List (Nat × Operand)) (vs zs : List V) (st : St) : bldK P t parts vs zs st = partsK (fun i => offs[i]?) parts vs zs fun l => some (.g l, st) := by
  unfold structOk at h
  unfold bldK
  cases hu : P.underlying t with
  | none => rw [hu] at h; cases h
  | some d =>
    rw [hu] at h
    cases d with
    | struct fs =>
      simp only [Bool.and_eq_true] at h
      obtain ⟨h1, h2⟩ := h
      have h3 : fs.toList.map (fun f => (f.offset, ((P.info? f.type).map (·.size)).getD 0)) = offs := by simpa using h2
      simp only [h1, forceL_eq]
      congr 1
      funext i
      rw [← h3, lget_eq, List.getElem?_map]
      cases hi : fs.toList[i]? with
      | none => rfl
      | some f =>
        have h4 : (P.info? f.type).isSome = true := List.all_eq_true.1 h1 f (List.mem_of_getElem? hi)
        cases hf : P.info? f.type with
        | none => rw [hf] at h4; cases h4
        | some ti => simp [hf]
    | _ => cases h
theorem partsK_nil {β : Type} (at_ : Nat → Option (Nat × Nat)) (vs t : List V) (k : List V → Option β) : partsK at_ [] vs t k = k t := rfl
theorem partsK_cells {β : Type} {at_ : Nat → Option (Nat × Nat)} {i off z : Nat} {x : Operand} {l : List (Nat × Operand)} {v : V} {vs t cs : List V} {k : List V → Option β} (h : at_ i = some (off, z)) (hc : ∀ k : List V → Option β, cellsOf v k = k cs) (hl : cs.length = z) (ht : off + z ≤ t.length) : partsK at_ ((i, x) :: l) (v :: vs) t k = partsK at_ l vs (t.take off ++ (cs ++ t.drop (off + z))) k := by
  have h1 : partsK at_ ((i, x) :: l) (v :: vs) t k = cellsOf v fun cs => (match at_ i with
    | some (i, z) => (match Nat.beq cs.length z with
      | true => splice i cs t fun t => partsK at_ l vs t k
      | false => none)
    | none => none) := rfl
  rw [h1, hc, h]
  subst hl
  have b1 : Nat.beq cs.length cs.length = true := Nat.beq_refl _
  simp only [b1]
  unfold splice
  have b2 : Nat.ble (off + cs.length) t.length = true := by rw [Nat.ble_eq]; exact ht
  simp only [b2]
theorem cellsOf_one {β : Type} {v : V} (h : v.one = true) (k : List V → Option β) : cellsOf v k = k [v] := by cases v <;> first | rfl | cases h
theorem partsK_one {β : Type} {at_ : Nat → Option (Nat × Nat)} {i off : Nat} {x : Operand} {l : List (Nat × Operand)} {v : V} {vs t : List V} {k : List V → Option β} (h : at_ i = some (off, 1)) (hv : v.one = true) (ht : off < t.length) : partsK at_ ((i, x) :: l) (v :: vs) t k = partsK at_ l vs (t.set off v) k := by
  rw [partsK_cells h (cellsOf_one hv) rfl ht, List.set_eq_take_append_cons_drop, if_pos ht]
  rfl
def cellK (o : Option V) (f : Nat → Nat → Res) : Res := match o with
  | some (.p n i) => f n i
  | _ => none
@[simp] theorem cellK_p (n i : Nat) (f : Nat → Nat → Res) : cellK (some (.p n i)) f = f n i := rfl
@[simp] theorem resOf_cell {P : Program} {c : Cx} {e : Env} {st : St} (t ty : Nat) (l : List ResultVar) (k : List V → Option (V × St)) : resOf P c e st (.cell t ty :: l) k = cellK (e.get t) fun n i => loadE P c st ty n i fun w => resOf P c e st l fun r => k (w :: r) := by
  have h : resOf P c e st (.cell t ty :: l) k = (match e.get t with
    | some (.p n i) => loadE P c st ty n i fun w => resOf P c e st l fun r => k (w :: r)
    | _ => none) := rfl
  rw [h]
  cases e.get t with
  | none => rfl
  | some v => cases v <;> rfl
theorem conv_int {P : Program} {c : Cx} {st : St} {src dst : TypeId} {k k' : IntKind} (h1 : (P.underlying src).isSome = true) (h2 : P.underlying dst = some (.int k)) (n : Int) : convE P c st src dst (.c (.int k' n)) = some (.int k (k.wrap n), st) := by
  unfold convE
  cases h : P.underlying src with
  | none => rw [h] at h1; cases h1
  | some d => simp [h2, wr_eq]
@[simp] theorem conv_toW {P : Program} {c : Cx} {st : St} {src dst : TypeId} {k' : IntKind} (h1 : (P.underlying src).isSome = true) (h2 : P.underlying dst = some (.int .u64)) (n : Int) : convE P c st src dst (.c (.int k' n)) = some (wd (BitVec.ofInt 64 n), st) := by
  rw [conv_int h1 h2, wrapZ]
  unfold wd
  rw [BitVec.toNat_ofInt]
  congr 3
  omega
@[simp] theorem conv_ofW {P : Program} {c : Cx} {st : St} {src dst : TypeId} (h1 : (P.underlying src).isSome = true) (h2 : P.underlying dst = some (.int .i64)) (b : BitVec 64) : convE P c st src dst (wd b) = some (.int .i64 b.toInt, st) := by
  unfold wd
  rw [conv_int h1 h2]
  congr 3
  rw [BitVec.toInt_eq_toNat_cond]
  have := b.isLt
  simp only [IntKind.wrap, IntKind.signed, IntKind.bits]
  simp
  split <;> split <;> omega
end Go.Proofs.Ytcjddojcfdeflaa

/-
  PLAIN: the evaluator over inputs that are not known: what it comes to, by rewriting.
-/
import Derived.Test.YtenncnbaoejekaaFix
namespace Go.Proofs.Ytenncnbaoejekaa.Ev
open Go.RowKit

/-- there is an answer, and Q holds of it -/
def Gd {α : Type} (r : Option α) (Q : α → Prop) : Prop := ∃ a, r = some a ∧ Q a
section
variable {α : Type} {Q Q' : α → Prop} {r r' : Option α}
@[congr] theorem Gd_congr (h : r = r') : Gd r Q = Gd r' Q := by rw [h]
@[simp] theorem Gd_some (a : α) : Gd (some a) Q = Q a := by
  apply propext
  constructor
  · rintro ⟨b, h, k⟩; injection h with h; subst h; exact k
  · exact fun h => ⟨a, rfl, h⟩
@[simp] theorem Gd_none : Gd (none : Option α) Q = False := by
  apply propext
  constructor
  · rintro ⟨b, h, _⟩; cases h
  · exact False.elim
theorem Gd.mono (h : Gd r Q) (k : ∀ a, Q a → Q' a) : Gd r Q' := by
  obtain ⟨a, h1, h2⟩ := h; exact ⟨a, h1, k a h2⟩
@[simp] theorem Gd_cond (b : Bool) (x y : Option α) : Gd (bif b then x else y) Q = ((b = true → Gd x Q) ∧ (b = false → Gd y Q)) := by
  cases b <;> simp
end
section
variable {P : Program} {M : Mach P} {F : CallF} {c : Cx} {e : Env} {st : St} {β : Type}
/-! ### code -/
def seqK (R : Env → St → Prop) (Q : X × Env × St → Prop) : X × Env × St → Prop
  | (.n, e, st) => R e st
  | r => Q r
@[simp] theorem seqK_n (R : Env → St → Prop) (Q : X × Env × St → Prop) (e : Env) (st : St) : seqK R Q (.n, e, st) = R e st := rfl
@[simp] theorem seqK_ex (R : Env → St → Prop) (Q : X × Env × St → Prop) (i : Nat) (e : Env) (st : St) : seqK R Q (.ex i, e, st) = Q (.ex i, e, st) := rfl
@[simp] theorem seqK_ret (R : Env → St → Prop) (Q : X × Env × St → Prop) (e : Env) (st : St) : seqK R Q (.ret, e, st) = Q (.ret, e, st) := rfl
def blockK (i : Nat) (Q : X × Env × St → Prop) : X × Env × St → Prop
  | (.ex j, e, st) => if j = i then Q (.n, e, st) else Q (.ex j, e, st)
  | r => Q r
@[simp] theorem blockK_n (i : Nat) (Q : X × Env × St → Prop) (e : Env) (st : St) : blockK i Q (.n, e, st) = Q (.n, e, st) := rfl
@[simp] theorem blockK_ex (i j : Nat) (Q : X × Env × St → Prop) (e : Env) (st : St) : blockK i Q (.ex j, e, st) = if j = i then Q (.n, e, st) else Q (.ex j, e, st) := rfl
@[simp] theorem blockK_ret (i : Nat) (Q : X × Env × St → Prop) (e : Env) (st : St) : blockK i Q (.ret, e, st) = Q (.ret, e, st) := rfl
variable {Q : X × Env × St → Prop}
theorem evL_at (code : Code) : M.E c code e st = stepF P M.F M.E c code e st :=
  congrFun (congrFun (congrFun (congrFun M.fix c) code) e) st
/-- what comes behind, without binders, so that rewriting stops where it is stuck -/
def seqC (M : Mach P) (c : Cx) (b : Code) (Q : X × Env × St → Prop) : X × Env × St → Prop := seqK (fun e st => Gd (M.E c b e st) Q) Q
@[simp] theorem seqC_n (b : Code) (Q : X × Env × St → Prop) : seqC M c b Q (.n, e, st) = Gd (M.E c b e st) Q := rfl
@[simp] theorem seqC_ex (b : Code) (Q : X × Env × St → Prop) (i : Nat) : seqC M c b Q (.ex i, e, st) = Q (.ex i, e, st) := rfl
@[simp] theorem seqC_ret (b : Code) (Q : X × Env × St → Prop) : seqC M c b Q (.ret, e, st) = Q (.ret, e, st) := rfl
@[simp] theorem Gd_seq (a b : Code) : Gd (M.E c (.seq a b) e st) Q = Gd (M.E c a e st) (seqC M c b Q) := by
  show _ = Gd (M.E c a e st) (seqK (fun e st => Gd (M.E c b e st) Q) Q)
  rw [evL_at]
  simp only [stepF]
  cases h : M.E c a e st with
  | none => simp
  | some r =>
    obtain ⟨x, e1, st1⟩ := r
    cases x <;> simp
@[simp] theorem Gd_skip : Gd (M.E c .skip e st) Q = Q (.n, e, st) := by rw [evL_at]; simp [stepF]
@[simp] theorem Gd_exit (i : Nat) : Gd (M.E c (.exit i) e st) Q = Q (.ex i, e, st) := by rw [evL_at]; simp [stepF]
@[simp] theorem Gd_ret : Gd (M.E c .ret e st) Q = Q (.ret, e, st) := by rw [evL_at]; simp [stepF]
@[simp] theorem Gd_block (i : Nat) (b : Code) : Gd (M.E c (.block i b) e st) Q = Gd (M.E c b e st) (blockK i Q) := by
  rw [evL_at]
  simp only [stepF]
  cases h : M.E c b e st with
  | none => simp
  | some r =>
    obtain ⟨x, e1, st1⟩ := r
    cases x with
    | n => simp
    | ret => simp
    | ex j =>
      simp only [nbeq, Gd_some, blockK_ex]
      by_cases hj : j = i
      · simp [hj]
      · simp [hj]
def boolK (v : V) (p q : Prop) : Prop := match v with
  | .c (.bool true) => p
  | .c (.bool false) => q
  | _ => False
@[simp] theorem boolK_bool (b : Bool) (p q : Prop) : boolK (.c (.bool b)) p q = ((b = true → p) ∧ (b = false → q)) := by cases b <;> simp [boolK]
theorem fA_bind {β : Type} (v : Value) (k : V → Option β) : fA v k = (fA v some).bind k := by
  unfold fA
  split <;> simp
theorem fAs_bind {β : Type} : ∀ (l : List Value) (k : List V → Option β), fAs l k = (fAs l some).bind k
  | [], _ => rfl
  | v :: l, k => by
    have h : ∀ {γ : Type} (k : List V → Option γ), fAs (v :: l) k = fA v (fun x => fAs l fun l => k (x :: l)) := fun _ => rfl
    rw [h k, h some, fA_bind, fA_bind (k := fun x => fAs l fun l => some (x :: l))]
    cases fA v some with
    | none => rfl
    | some x =>
      simp only [Option.bind_some]
      rw [fAs_bind l fun l => k (x :: l), fAs_bind l fun l => some (x :: l)]
      cases fAs l some <;> rfl
theorem ofV_bind {β : Type} (v : Value) (k : V → Option β) : ofV v k = (ofV v some).bind k := by
  unfold ofV
  split
  · rename_i cs
    rw [fAs_bind, fAs_bind (k := fun l => some (V.g l))]
    cases fAs cs.toList some <;> rfl
  · rfl
  · exact fA_bind _ _
theorem opd_bind {β : Type} (x : Operand) (k : V → Option β) : opd e x k = (opd e x some).bind k := by
  unfold opd
  split
  · split <;> rfl
  · exact ofV_bind _ _
  · rfl
  · rfl
theorem opds_bind {β : Type} : ∀ (l : List Operand) (k : List V → Option β), opds e l k = (opds e l some).bind k
  | [], _ => rfl
  | x :: l, k => by
    have h : ∀ {γ : Type} (k : List V → Option γ), opds e (x :: l) k = opd e x (fun v => opds e l fun l => k (v :: l)) := fun _ => rfl
    rw [h k, h some, opd_bind, opd_bind (k := fun v => opds e l fun l => some (v :: l))]
    cases opd e x some with
    | none => rfl
    | some v =>
      simp only [Option.bind_some]
      rw [opds_bind l fun l => k (v :: l), opds_bind l fun l => some (v :: l)]
      cases opds e l some <;> rfl
theorem Gd_bind {α β : Type} (r : Option α) (k : α → Option β) (Q : β → Prop) : Gd (r.bind k) Q = Gd r fun a => Gd (k a) Q := by cases r <;> simp
/-- what an operand stands for -/
noncomputable def opv (e : Env) (x : Operand) : Option V := opd e x some
noncomputable def opvs (e : Env) (l : List Operand) : Option (List V) := opds e l some
@[simp] theorem Gd_opd {β : Type} (x : Operand) (k : V → Option β) (Q : β → Prop) : Gd (opd e x k) Q = Gd (opv e x) fun v => Gd (k v) Q := by
  rw [opd_bind, Gd_bind]; rfl
@[simp] theorem Gd_opds {β : Type} (l : List Operand) (k : List V → Option β) (Q : β → Prop) : Gd (opds e l k) Q = Gd (opvs e l) fun v => Gd (k v) Q := by
  rw [opds_bind, Gd_bind]; rfl
@[simp] theorem opv_tmp (t : Nat) : opv e (.tmp t) = some ((e.get t).getD .u) := by
  simp only [opv, opd]; cases T.get e t <;> rfl
@[simp] theorem opv_func (f : Nat) : opv e (.func f) = some (.f (.func f) [] []) := rfl
@[simp] theorem opv_int (i : IntKind) (n : Int) : opv e (.const (.int i n)) = some (.int i n) := by simp [opv, opd, ofV, fA]
@[simp] theorem opv_bool (b : Bool) : opv e (.const (.bool b)) = some (.bool b) := by simp [opv, opd, ofV, fA]
@[simp] theorem opv_str (b : ByteArray) : opv e (.const (.string b)) = some (.s (bytes b)) := by simp [opv, opd, ofV, fA]
@[simp] theorem opv_nilp : opv e (.const (.pointer none)) = some (.c (.pointer none)) := rfl
@[simp] theorem opv_nils : opv e (.const (.slice none 0 0)) = some (.c (.slice none 0 0)) := rfl
@[simp] theorem opvs_nil : opvs e [] = some [] := rfl
@[simp] theorem opvs_cons (x : Operand) (l : List Operand) : opvs e (x :: l) = (opv e x).bind fun v => (opvs e l).map (v :: ·) := by
  have h : opds e (x :: l) some = opd e x (fun v => opds e l fun l => some (v :: l)) := rfl
  unfold opvs
  rw [h, opd_bind]
  congr 1
  funext v
  rw [opds_bind]
  cases opds e l some <;> rfl
def condK (M : Mach P) (c : Cx) (v : Option V) (a b : Code) (e : Env) (st : St) (Q : X × Env × St → Prop) : Prop := Gd v fun v => boolK v (Gd (M.E c a e st) Q) (Gd (M.E c b e st) Q)
@[simp] theorem condK_t (a b : Code) (Q : X × Env × St → Prop) : condK M c (some (.c (.bool true))) a b e st Q = Gd (M.E c a e st) Q := by simp [condK, boolK]
@[simp] theorem condK_f (a b : Code) (Q : X × Env × St → Prop) : condK M c (some (.c (.bool false))) a b e st Q = Gd (M.E c b e st) Q := by simp [condK, boolK]
theorem condK_split {q : Bool} {a b : Code} {Q : X × Env × St → Prop} (h1 : q = true → Gd (M.E c a e st) Q) (h2 : q = false → Gd (M.E c b e st) Q) : condK M c (some (.c (.bool q))) a b e st Q := by
  cases q <;> simp [h1, h2]
@[simp] theorem Gd_if (x : Operand) (a b : Code) : Gd (M.E c (.cond x a b) e st) Q = condK M c (opv e x) a b e st Q := by
  unfold condK
  rw [evL_at]
  simp only [stepF, Gd_opd]
  cases opv e x with
  | none => simp
  | some v =>
    simp only [Gd_some]
    unfold boolK
    split <;> simp
def regK (Q : X × Env × St → Prop) : Env × St → Prop := fun r => Q (.n, r.1, r.2)
@[simp] theorem regK_app (Q : X × Env × St → Prop) : regK Q (e, st) = Q (.n, e, st) := rfl
@[simp] theorem Gd_region (id : Nat) (ops : Array Oper) : Gd (M.E c (.region id ops false) e st) Q = Gd (evOps P M.F c ops.toList ops.toList e st) (regK Q) := by
  show _ = Gd (evOps P M.F c ops.toList ops.toList e st) fun r => Q (.n, r.1, r.2)
  rw [evL_at]
  simp only [stepF]
  show Gd (match evOps P M.F c ops.toList ops.toList e st with | none => none | some (e, st) => some (X.n, e, st)) Q = _
  cases evOps P M.F c ops.toList ops.toList e st <;> simp
@[simp] theorem Gd_draw (id : Nat) (ops : Array Oper) : Gd (M.E c (.region id ops true) e st) Q = (regOk ops.toList = true ∧ Gd (evDraw P M.F c ops.toList ops.toList 0 [] e st) (regK Q)) := by
  show _ = (regOk ops.toList = true ∧ Gd (evDraw P M.F c ops.toList ops.toList 0 [] e st) fun r => Q (.n, r.1, r.2))
  rw [evL_at]
  simp only [stepF]
  show Gd (match regOk ops.toList with | true => (match evDraw P M.F c ops.toList ops.toList 0 [] e st with | none => none | some (e, st) => some (X.n, e, st)) | false => none) Q = _
  cases regOk ops.toList with
  | false => simp
  | true => cases evDraw P M.F c ops.toList ops.toList 0 [] e st <;> simp
/-! ### regions -/
def putG (nt : Nat) (e : Env) (d : Option Nat) (v : V) (k : Env → Prop) : Prop := match d with
  | none => k e
  | some t => t < nt ∧ k (e.set t v)
@[simp] theorem putG_none (nt : Nat) (v : V) (k : Env → Prop) : putG nt e none v k = k e := rfl
@[simp] theorem putG_some (nt t : Nat) (v : V) (k : Env → Prop) : putG nt e (some t) v k = (t < nt ∧ k (e.set t v)) := rfl
theorem Gd_putK {β : Type} (d : Option Nat) (v : V) (k : Env → Option β) (Q : β → Prop) : Gd (putK c e d v k) Q = putG c.nt e d v fun e => Gd (k e) Q := by
  cases d with
  | none => rfl
  | some t =>
    simp only [putK, putG_some, T.setK_eq]
    by_cases h : t < c.nt
    · have : Nat.blt t c.nt = true := by rw [Nat.blt_eq]; exact h
      simp [this, h]
    · have : Nat.blt t c.nt = false := by
        cases hb : Nat.blt t c.nt with
        | false => rfl
        | true => rw [Nat.blt_eq] at hb; exact absurd hb h
      simp [this, h]
variable {R : Env × St → Prop}
@[simp] theorem Gd_ops_nil (ops : List Oper) : Gd (evOps P F c ops [] e st) R = R (e, st) := by
  show Gd (some (e, st)) R = _
  simp
def opsK (P : Program) (F : CallF) (c : Cx) (ops : List Oper) (d : Option Nat) (l : List Oper) (e : Env) (R : Env × St → Prop) : V × St → Prop := fun r => putG c.nt e d r.1 fun e => Gd (evOps P F c ops l e r.2) R
@[simp] theorem opsK_some (ops l : List Oper) (t : Nat) (v : V) : opsK P F c ops (some t) l e R (v, st) = (t < c.nt ∧ Gd (evOps P F c ops l (e.set t v) st) R) := rfl
@[simp] theorem opsK_none (ops l : List Oper) (v : V) : opsK P F c ops none l e R (v, st) = Gd (evOps P F c ops l e st) R := rfl
def opsW (w : Bool) (P : Program) (F : CallF) (c : Cx) (ops : List Oper) (o : Oper) (l : List Oper) (e : Env) (st : St) (R : Env × St → Prop) : Prop :=
  ((w = true → Gd (evOp P F c e st o) (opsK P F c ops o.dst l e R)) ∧ (w = false → opsK P F c ops o.dst l e R (.u, st)))
@[simp] theorem opsW_t (ops : List Oper) (o : Oper) (l : List Oper) : opsW true P F c ops o l e st R = Gd (evOp P F c e st o) (opsK P F c ops o.dst l e R) := by simp [opsW]
@[simp] theorem opsW_f (ops : List Oper) (o : Oper) (l : List Oper) : opsW false P F c ops o l e st R = opsK P F c ops o.dst l e R (.u, st) := by simp [opsW]
theorem opsW_split {w : Bool} {ops : List Oper} {o : Oper} {l : List Oper} (h1 : w = true → opsW true P F c ops o l e st R) (h2 : w = false → opsW false P F c ops o l e st R) : opsW w P F c ops o l e st R := by
  cases w <;> simp_all
theorem Gd_ops_cons' (ops : List Oper) (o : Oper) (l : List Oper) : Gd (evOps P F c ops (o :: l) e st) R =
    ((wants e ops o = true → Gd (evOp P F c e st o) fun r => putG c.nt e o.dst r.1 fun e => Gd (evOps P F c ops l e r.2) R) ∧ (wants e ops o = false → putG c.nt e o.dst .u fun e => Gd (evOps P F c ops l e st) R)) := by
  rw [evOps_cons]
  cases wants e ops o with
  | false => simp [Gd_putK]
  | true =>
    cases evOp P F c e st o with
    | none => simp
    | some r => simp [Gd_putK]
@[simp] theorem Gd_ops_cons (ops : List Oper) (o : Oper) (l : List Oper) : Gd (evOps P F c ops (o :: l) e st) R = opsW (wants e ops o) P F c ops o l e st R := Gd_ops_cons' ops o l
@[simp] theorem Gd_draw_nil (ops : List Oper) (i : Nat) (rs : List (Nat × Nat × Nat)) : Gd (evDraw P F c ops [] i rs e st) R = R (e, st) := by
  show Gd (some (e, st)) R = _
  simp
def drwK (P : Program) (F : CallF) (c : Cx) (ops : List Oper) (d : Option Nat) (l : List Oper) (i : Nat) (rs : List (Nat × Nat × Nat)) (nx : Nat) (e : Env) (R : Env × St → Prop) : V × St → Prop := fun r => putG c.nt e d r.1 fun e => Gd (evDraw P F c ops l (i + 1) (rsOf rs i nx r.2.nx) e r.2) R
@[simp] theorem drwK_some (ops l : List Oper) (t i nx : Nat) (rs : List (Nat × Nat × Nat)) (v : V) : drwK P F c ops (some t) l i rs nx e R (v, st) = (t < c.nt ∧ Gd (evDraw P F c ops l (i + 1) (rsOf rs i nx st.nx) (e.set t v) st) R) := rfl
@[simp] theorem drwK_none (ops l : List Oper) (i nx : Nat) (rs : List (Nat × Nat × Nat)) (v : V) : drwK P F c ops none l i rs nx e R (v, st) = Gd (evDraw P F c ops l (i + 1) (rsOf rs i nx st.nx) e st) R := rfl
def drwW (w : Bool) (P : Program) (F : CallF) (c : Cx) (ops : List Oper) (o : Oper) (l : List Oper) (i : Nat) (rs : List (Nat × Nat × Nat)) (e : Env) (st : St) (R : Env × St → Prop) : Prop :=
  ((w = true → Gd (evOp P F (cxOf c ops o i rs st.nx e) e st o) (drwK P F c ops o.dst l i rs st.nx e R)) ∧ (w = false → drwK P F c ops o.dst l i rs st.nx e R (.u, st)))
@[simp] theorem drwW_t (ops : List Oper) (o : Oper) (l : List Oper) (i : Nat) (rs : List (Nat × Nat × Nat)) : drwW true P F c ops o l i rs e st R = Gd (evOp P F (cxOf c ops o i rs st.nx e) e st o) (drwK P F c ops o.dst l i rs st.nx e R) := by simp [drwW]
@[simp] theorem drwW_f (ops : List Oper) (o : Oper) (l : List Oper) (i : Nat) (rs : List (Nat × Nat × Nat)) : drwW false P F c ops o l i rs e st R = drwK P F c ops o.dst l i rs st.nx e R (.u, st) := by simp [drwW]
theorem Gd_draw_cons' (ops : List Oper) (o : Oper) (l : List Oper) (i : Nat) (rs : List (Nat × Nat × Nat)) : Gd (evDraw P F c ops (o :: l) i rs e st) R =
    ((wants e ops o = true → Gd (evOp P F (cxOf c ops o i rs st.nx e) e st o) fun r => putG c.nt e o.dst r.1 fun e => Gd (evDraw P F c ops l (i + 1) (rsOf rs i st.nx r.2.nx) e r.2) R) ∧ (wants e ops o = false → putG c.nt e o.dst .u fun e => Gd (evDraw P F c ops l (i + 1) rs e st) R)) := by
  rw [evDraw_cons]
  cases wants e ops o with
  | false => simp [Gd_putK]
  | true =>
    cases evOp P F (cxOf c ops o i rs st.nx e) e st o with
    | none => simp
    | some r => simp [Gd_putK]
@[simp] theorem Gd_draw_cons (ops : List Oper) (o : Oper) (l : List Oper) (i : Nat) (rs : List (Nat × Nat × Nat)) : Gd (evDraw P F c ops (o :: l) i rs e st) R = drwW (wants e ops o) P F c ops o l i rs e st R := by
  rw [Gd_draw_cons']
  cases wants e ops o with
  | false => simp only [drwW_f, Bool.false_eq_true, false_implies, true_and, forall_const]; unfold drwK; simp [rsOf]
  | true => simp only [drwW_t, true_implies, Bool.true_eq_false, false_implies, and_true]; rfl
@[simp] theorem rsOf_same (rs : List (Nat × Nat × Nat)) (i a : Nat) : rsOf rs i a a = rs := by simp [rsOf]
@[simp] theorem wants_none (ops : List Oper) (d : Option Nat) (op : Op) (ty : TypeId) (p : String) (af : Array Edge) : wants e ops ⟨d, op, ty, p, af, none⟩ = true := rfl
def wantK (w : Bool) (v : Option V) : Bool := match v with
  | some (.c (.bool b)) => b == w
  | _ => false
@[simp] theorem wantK_bool (w b : Bool) : wantK w (some (.c (.bool b))) = (b == w) := rfl
@[simp] theorem wants_some (ops : List Oper) (d : Option Nat) (op : Op) (ty : TypeId) (p : String) (af : Array Edge) (j : Nat) (w : Bool) :
    wants e ops ⟨d, op, ty, p, af, some (j, w)⟩ = wantK w ((ops[j]?).bind fun o => o.dst.bind fun t => e.get t) := by
  unfold wants wantK
  simp only [lget_eq]
  cases ops[j]? with
  | none => rfl
  | some oj =>
    cases hd : oj.dst with
    | none => simp [hd]
    | some t =>
      simp only [Option.bind_some, hd]
      cases T.get e t with
      | none => rfl
      | some v =>
        cases v with
        | c v => cases v with
          | bool b => cases b <;> cases w <;> rfl
          | _ => rfl
        | _ => rfl
/-! ### operations -/
section
variable {d : Option Nat} {ty : TypeId} {p : String} {af : Array Edge} {g : Option (Nat × Bool)}
@[simp] theorem evOp_move (x : Operand) : evOp P F c e st ⟨d, .move x, ty, p, af, g⟩ = opd e x fun v => some (v, st) := rfl
@[simp] theorem evOp_assign (x : Operand) : evOp P F c e st ⟨d, .assign x, ty, p, af, g⟩ = opd e x fun v => some (v, st) := rfl
def pickK (x : V) (a b : Res) : Res := match x with
  | .c (.bool true) => a
  | .c (.bool false) => b
  | _ => none
@[simp] theorem pickK_bool (x : Bool) (a b : Res) : pickK (.c (.bool x)) a b = bif x then a else b := by cases x <;> rfl
@[simp] theorem evOp_pick (x a b : Operand) : evOp P F c e st ⟨d, .pick x a b, ty, p, af, g⟩ = opd e x fun x => pickK x (opd e a fun v => some (v, st)) (opd e b fun v => some (v, st)) := rfl
def ptrK (v : V) (k : Nat → Nat → Res) : Res := match v with
  | .p n i => k n i
  | _ => none
@[simp] theorem ptrK_p (n i : Nat) (k : Nat → Nat → Res) : ptrK (.p n i) k = k n i := rfl
@[simp] theorem evOp_nilCheck (x : Operand) : evOp P F c e st ⟨d, .nilCheck x, ty, p, af, g⟩ = opd e x fun v => ptrK v fun n i => some (.p n i, st) := rfl
def tupK (v : V) (i : Nat) (k : V → Res) : Res := match v with
  | .t l => (match l[i]? with | some w => k w | none => none)
  | _ => none
@[simp] theorem tupK_t (l : List V) (i : Nat) (k : V → Res) : tupK (.t l) i k = (match l[i]? with | some w => k w | none => none) := rfl
@[simp] theorem evOp_extract (x : Operand) (i : Nat) : evOp P F c e st ⟨d, .extract x i, ty, p, af, g⟩ = opd e x fun v => tupK v i fun w => some (w, st) := by
  have h : evOp P F c e st ⟨d, .extract x i, ty, p, af, g⟩ = opd e x fun v => (match v with
    | .t l => (match lget l i with | some w => some (w, st) | none => none)
    | _ => none) := rfl
  rw [h]
  congr 1
  funext v
  cases v <;> first | rfl | (simp only [lget_eq, tupK_t])
@[simp] theorem evOp_alloc (t : TypeId) : evOp P F c e st ⟨d, .alloc t, ty, p, af, g⟩ = zero P t fun cs => newC st t cs fun n st => some (.p n 0, st) := rfl
@[simp] theorem evOp_box (t : TypeId) (x : Operand) : evOp P F c e st ⟨d, .box t x, ty, p, af, g⟩ = opd e x fun v => cellsOf v fun cs => newC st t cs fun n st => some (.p n 0, st) := rfl
@[simp] theorem evOp_load (t : TypeId) (x : Operand) : evOp P F c e st ⟨d, .load t x, ty, p, af, g⟩ = opd e x fun v => ptrK v fun n i => loadE P c st t n i fun w => some (w, st) := rfl
noncomputable def storeK (P : Program) (c : Cx) (st : St) (t : TypeId) (n i : Nat) (v : V) : Res := cellsOf v fun cs => szOf P t fun z => (match Nat.beq cs.length z with
      | true => putB c st n i cs fun st => some (.u, st)
      | false => none)
@[simp] theorem evOp_store (t : TypeId) (x y : Operand) : evOp P F c e st ⟨d, .store t x y, ty, p, af, g⟩ = opd e x fun v => ptrK v fun n i => opd e y fun v => storeK P c st t n i v := rfl
noncomputable def fieldK (P : Program) (t : TypeId) (f : Nat) (k : Nat → Nat → Res) : Res := match P.underlying t with
  | some (.struct fs) => (match fs.toList[f]? with
    | some f => szOf P f.type fun z => k z f.offset
    | none => none)
  | _ => none
@[simp] theorem evOp_fieldAddr (t : TypeId) (x : Operand) (f : Nat) : evOp P F c e st ⟨d, .fieldAddr t x f, ty, p, af, g⟩ = opd e x fun v => ptrK v fun n i => fieldK P t f fun z off => (match z with
    | 0 => none
    | _ => some (.p n (i + off), st)) := by
  have h : evOp P F c e st ⟨d, .fieldAddr t x f, ty, p, af, g⟩ = opd e x fun v => (match v with
    | .p n i => (match P.underlying t with
      | some (.struct fs) => (match lget fs.toList f with
        | some f => szOf P f.type fun z => (match z with
          | 0 => none
          | _ => fn (i + f.offset) fun i => some (.p n i, st))
        | none => none)
      | _ => none)
    | _ => none) := rfl
  rw [h]
  congr 1
  funext v
  cases v <;> first | rfl | skip
  simp only [ptrK_p, fieldK, lget_eq, fn_eq]
@[simp] theorem evOp_indexAddr (t : TypeId) (x ix : Operand) : evOp P F c e st ⟨d, .indexAddr t x ix, ty, p, af, g⟩ = opd e x fun v => opd e ix fun i => asNat i fun i => idxE P t v i fun a => some (a, st) := rfl
noncomputable def sliceK (P : Program) (c : Cx) (e : Env) (st : St) (t : TypeId) (v : V) (lo hi : Option Operand) : Res := match sliceE P e t v lo hi (fun a => (some (a, st) : Res)) with
    | some r => some r
    | none => sliceG P c st e t v lo hi
@[simp] theorem evOp_slice (t : TypeId) (x : Operand) (lo hi : Option Operand) : evOp P F c e st ⟨d, .slice t x lo hi none, ty, p, af, g⟩ = opd e x fun v => sliceK P c e st t v lo hi := rfl
@[simp] theorem evOp_binOp (bo : BinOp) (t yt : TypeId) (x y : Operand) : evOp P F c e st ⟨d, .binOp bo t x y yt, ty, p, af, g⟩ = opd e x fun a => opd e y fun b => binE P st bo t x y a b := rfl
noncomputable def unK (P : Program) (st : St) (op : UnOp) (v : V) : Res := match op, v with
    | .not, .c (.bool b) => fb (!b) fun b => some (.bool b, st)
    | op, v => (match valA v with
      | some v => pu P (Op.unary op v) (ret st)
      | none => none)
@[simp] theorem unK_not (b : Bool) : unK P st .not (.c (.bool b)) = some (.bool !b, st) := by simp [unK]
@[simp] theorem evOp_unOp (uo : UnOp) (t : TypeId) (x : Operand) : evOp P F c e st ⟨d, .unOp uo t x, ty, p, af, g⟩ = opd e x fun v => unK P st uo v := rfl
@[simp] theorem evOp_convert (a b : TypeId) (x : Operand) : evOp P F c e st ⟨d, .convert a b x, ty, p, af, g⟩ = opd e x fun v => convE P c st a b v := rfl
noncomputable def fldK (P : Program) (t : TypeId) (f : Nat) (v : V) (k : V → Res) : Res := match v, P.underlying t with
    | .g l, some (.struct fs) => (match lget fs.toList f with
      | none => none
      | some f => partE P f.type l f.offset k)
    | _, _ => none
@[simp] theorem evOp_field (t : TypeId) (x : Operand) (f : Nat) : evOp P F c e st ⟨d, .field t x f, ty, p, af, g⟩ = opd e x fun v => fldK P t f v fun v => some (v, st) := rfl
theorem evOp_call {f : Nat} (hx : ext? P f = none) (args : Array Operand) (ats : Array TypeId) : evOp P F c e st ⟨d, .call ⟨.value (.func f), args, ats⟩, ty, p, af, g⟩ = opds e args.toList fun args => F c f args st := by
  have h : evOp P F c e st ⟨d, .call ⟨.value (.func f), args, ats⟩, ty, p, af, g⟩ = opds e args.toList fun args => opd e (.func f) fun f => (match f with
      | .f (.func f) first caps => (match ext? P f with
        | some g => extE P g (first ++ args ++ caps) st
        | none => F c f (first ++ args ++ caps) st)
      | _ => none) := rfl
  rw [h]
  congr 1
  funext args
  simp [opd, hx]
@[simp] theorem evOp_len (args : Array Operand) (ats : Array TypeId) : evOp P F c e st ⟨d, .call ⟨.builtin .len, args, ats⟩, ty, p, af, g⟩ = opds e args.toList fun args => builtinE P c .len ats.toList args st := rfl
@[simp] theorem evOp_append (args : Array Operand) (ats : Array TypeId) : evOp P F c e st ⟨d, .call ⟨.builtin .append, args, ats⟩, ty, p, af, g⟩ = opds e args.toList fun args => builtinE P c .append ats.toList args st := rfl
@[simp] theorem evOp_copy (args : Array Operand) (ats : Array TypeId) : evOp P F c e st ⟨d, .call ⟨.builtin .copy, args, ats⟩, ty, p, af, g⟩ = opds e args.toList fun args => builtinE P c .copy ats.toList args st := rfl
end
/-! ### numbers -/
section
variable {t : TypeId} {x y : Operand} {k : IntKind} {a b : Int}
@[simp] theorem bin_add : binE P st .add t x y (.c (.int k a)) (.c (.int k b)) = some (.int k (k.wrap (a + b)), st) := by cases k <;> simp [binE, eqKd, binI, wr_eq, ofV, fA, ret]
@[simp] theorem bin_sub : binE P st .sub t x y (.c (.int k a)) (.c (.int k b)) = some (.int k (k.wrap (a - b)), st) := by cases k <;> simp [binE, eqKd, binI, wr_eq, ofV, fA, ret] <;> rfl
@[simp] theorem bin_mul : binE P st .mul t x y (.c (.int k a)) (.c (.int k b)) = some (.int k (k.wrap (a * b)), st) := by cases k <;> simp [binE, eqKd, binI, wr_eq, ofV, fA, ret]
@[simp] theorem bin_quo : binE P st .quo t x y (.c (.int k a)) (.c (.int k b)) = if b = 0 then none else some (.int k (k.wrap (a.tdiv b)), st) := by
  by_cases h : b = 0
  · subst h; cases k <;> simp [binE, eqKd, binI, eqI_eq]
  · have hb : (b == 0) = false := by simpa using h
    cases k <;> simp [binE, eqKd, binI, wr_eq, ofV, fA, ret, eqI_eq, h, hb]
@[simp] theorem bin_rem : binE P st .rem t x y (.c (.int k a)) (.c (.int k b)) = if b = 0 then none else some (.int k (a.tmod b), st) := by
  by_cases h : b = 0
  · subst h; cases k <;> simp [binE, eqKd, binI, eqI_eq]
  · have hb : (b == 0) = false := by simpa using h
    cases k <;> simp [binE, eqKd, binI, ofV, fA, ret, eqI_eq, h, hb]
@[simp] theorem bin_lss : binE P st .lss t x y (.c (.int k a)) (.c (.int k b)) = some (.bool (decide (a < b)), st) := by cases k <;> simp [binE, eqKd, binI, ltI_eq, ofV, fA, ret]
@[simp] theorem bin_leq : binE P st .leq t x y (.c (.int k a)) (.c (.int k b)) = some (.bool (decide (a ≤ b)), st) := by
  have h : (!decide (b < a)) = decide (a ≤ b) := by by_cases h : b < a <;> simp [h] <;> omega
  cases k <;> simp [binE, eqKd, binI, ltI_eq, ofV, fA, ret, h]
@[simp] theorem bin_gtr : binE P st .gtr t x y (.c (.int k a)) (.c (.int k b)) = some (.bool (decide (b < a)), st) := by cases k <;> simp [binE, eqKd, binI, ltI_eq, ofV, fA, ret]
@[simp] theorem bin_geq : binE P st .geq t x y (.c (.int k a)) (.c (.int k b)) = some (.bool (decide (b ≤ a)), st) := by
  have h : (!decide (a < b)) = decide (b ≤ a) := by by_cases h : a < b <;> simp [h] <;> omega
  cases k <;> simp [binE, eqKd, binI, ltI_eq, ofV, fA, ret, h]
@[simp] theorem bin_eql : binE P st .eql t x y (.c (.int k a)) (.c (.int k b)) = some (.bool (decide (a = b)), st) := by cases k <;> simp [binE, eqKd, binI, eqI_eq, ofV, fA, ret] <;> rfl
@[simp] theorem bin_neq : binE P st .neq t x y (.c (.int k a)) (.c (.int k b)) = some (.bool (!decide (a = b)), st) := by cases k <;> simp [binE, eqKd, binI, eqI_eq, ofV, fA, ret] <;> rfl
end
/-! ### memory -/
@[simp] theorem ok_top (l : List (Nat × Nat)) (wb nt n : Nat) : Cx.ok ⟨false, l, wb, nt⟩ n = !inF l n := rfl
@[simp] theorem inF_nil (n : Nat) : inF [] n = false := rfl
theorem getB_get {β : Type} (n : Nat) (k : B → Option β) (b : B) (h1 : c.ok n = true) (h2 : st.h.get n = some b) : getB c st n k = k b := by
  simp [getB, h1, h2]
theorem getB_eq {β : Type} (n : Nat) (k : B → Option β) : getB c st n k = bif c.ok n then (st.h.get n).bind k else none := by
  unfold getB
  cases c.ok n with
  | false => rfl
  | true => cases st.h.get n <;> rfl
theorem setB_eq {β : Type} (n : Nat) (b : B) (k : St → Option β) : setB c st n b k = if c.wb ≤ n then k ⟨st.nx, st.h.set n b⟩ else none := by
  unfold setB
  by_cases h : c.wb ≤ n
  · have : Nat.ble c.wb n = true := by rw [Nat.ble_eq]; exact h
    simp [this, h]
  · have : Nat.ble c.wb n = false := by
      cases hb : Nat.ble c.wb n with
      | false => rfl
      | true => rw [Nat.ble_eq] at hb; exact absurd hb h
    simp [this, h]
end
end Go.Proofs.Ytenncnbaoejekaa.Ev

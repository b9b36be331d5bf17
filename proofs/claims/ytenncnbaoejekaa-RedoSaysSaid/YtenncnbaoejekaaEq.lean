/-
  PLAIN: the evaluator once more, laid out for the kernel's speed: small bodies, constants as arms; it is the same.
-/
import Derived.Test.YtenncnbaoejekaaEvV
namespace Go.Proofs.Ytenncnbaoejekaa.Ev
open Go.RowKit

abbrev Alt := TypeId → Program → CallF → Cx → Env → St → Res
noncomputable def q_none : Alt := fun _ _ _ _ _ _ => none
noncomputable def cV (v : Value) : Option V := ofV v some
noncomputable def qT {β : Type} (k : V → Option β) (o : Option V) : Option β := Option.rec (motive := fun _ => Option β) (k .u) k o
noncomputable def qO {β : Type} (k : V → Option β) (o : Option V) : Option β := Option.rec (motive := fun _ => Option β) none k o
noncomputable def qd {β : Type} (e : Env) (k : V → Option β) (x : Operand) : Option β := Operand.rec (motive := fun _ => Option β) (fun t => qT k (T.getP (pth t) e)) (fun v => qO k (cV v)) (fun _ => none) (fun f => k (.f (.func f) [] [])) x
/-! values -/
noncomputable def vC {R : Type} (f : Value → R) (d : R) (v : V) : R := V.casesOn (motive_1 := fun _ => R) v f (fun _ => d) (fun _ _ => d) (fun _ _ _ _ => d) (fun _ _ _ _ => d) d (fun _ => d) (fun _ _ _ => d) (fun _ => d) (fun _ => d)
noncomputable def vI {R : Type} (f : IntKind → Int → R) (d : R) (v : Value) : R := Value.casesOn (motive_1 := fun _ => R) v (fun _ => d) f (fun _ _ => d) (fun _ _ _ => d) (fun _ => d) (fun _ => d) (fun _ _ _ => d) (fun _ => d) (fun _ => d) (fun _ _ _ => d) d (fun _ _ => d) d (fun _ => d) (fun _ => d)
noncomputable def qB (st : St) (b : Bool) : Res := Bool.rec (motive := fun _ => Res) (some (.bool false, st)) (some (.bool true, st)) b
noncomputable def qI (st : St) (k : IntKind) (n : Int) : Res := fi n fun n => some (.int k n, st)
noncomputable def kN (k : IntKind) : Nat := IntKind.rec (motive := fun _ => Nat) 0 1 2 3 4 5 6 7 k
abbrev Bo := IntKind → Int → Int → St → Res → Res
noncomputable def b_add : Bo := fun k a b st _ => qI st k (wr k (Int.add a b))
noncomputable def b_sub : Bo := fun k a b st _ => qI st k (wr k (Int.sub a b))
noncomputable def b_mul : Bo := fun k a b st _ => qI st k (wr k (Int.mul a b))
noncomputable def b_eql : Bo := fun _ a b st _ => qB st (eqI a b)
noncomputable def b_neq : Bo := fun _ a b st _ => qB st (!eqI a b)
noncomputable def b_lss : Bo := fun _ a b st _ => qB st (ltI a b)
noncomputable def b_leq : Bo := fun _ a b st _ => qB st (!ltI b a)
noncomputable def b_gtr : Bo := fun _ a b st _ => qB st (ltI b a)
noncomputable def b_geq : Bo := fun _ a b st _ => qB st (!ltI a b)
noncomputable def b_oth : Bo := fun _ _ _ _ d => d
noncomputable def bo (op : BinOp) : Bo := BinOp.rec (motive := fun _ => Bo) b_add b_sub b_mul b_oth b_oth b_oth b_oth b_oth b_oth b_oth b_oth b_eql b_neq b_lss b_leq b_gtr b_geq op
noncomputable def qbK (d : Res) (op : BinOp) (st : St) (k : IntKind) (a : Int) (k' : IntKind) (b : Int) : Res := Bool.rec (motive := fun _ => Res) d (bo op k a b st d) (Nat.beq (kN k) (kN k'))
noncomputable def qbin (P : Program) (st : St) (op : BinOp) (t : TypeId) (x y : Operand) (a b : V) : Res := vC (fun va => vI (fun k i => vC (fun vb => vI (fun k' j => qbK (binE P st op t x y a b) op st k i k' j) (binE P st op t x y a b) vb) (binE P st op t x y a b) b) (binE P st op t x y a b) va) (binE P st op t x y a b) a
/-! operations -/
noncomputable def q_move (x : Operand) : Alt := fun _ _ _ _ e st => qd e (ret st) x
noncomputable def q_pick (x a b : Operand) : Alt := fun t P call c e st => evOp P call c e st ⟨none, .pick x a b, t, "", #[], none⟩
noncomputable def q_alloc (el : TypeId) : Alt := fun _ P _ _ _ st => zero P el fun cs => newC st el cs fun n st => some (.p n 0, st)
noncomputable def q_box (t : TypeId) (x : Operand) : Alt := fun _ _ _ _ e st => qd e (fun v => cellsOf v fun cs => newC st t cs fun n st => some (.p n 0, st)) x
noncomputable def q_build (a : TypeId) (p : Array (Nat × Operand)) : Alt := fun t P call c e st => evOp P call c e st ⟨none, .build a p, t, "", #[], none⟩
noncomputable def q_buildSlice (a : TypeId) (n : Nat) (p : Array (Nat × Operand)) : Alt := fun t P call c e st => evOp P call c e st ⟨none, .buildSlice a n p, t, "", #[], none⟩
noncomputable def vP {R : Type} (f : Nat → Nat → R) (d : R) (v : V) : R := V.casesOn (motive_1 := fun _ => R) v (fun _ => d) (fun _ => d) f (fun _ _ _ _ => d) (fun _ _ _ _ => d) d (fun _ => d) (fun _ _ _ => d) (fun _ => d) (fun _ => d)
noncomputable def qL (P : Program) (c : Cx) (st : St) (t : TypeId) (n i : Nat) : Res := loadE P c st t n i fun w => some (w, st)
noncomputable def q_load (t : TypeId) (x : Operand) : Alt := fun _ P _ c e st => qd e (vP (qL P c st t) none) x
noncomputable def qS3 (c : Cx) (st : St) (n i : Nat) (cs : List V) (z : Nat) : Res := Bool.rec (motive := fun _ => Res) none (putB c st n i cs fun st => some (.u, st)) (Nat.beq cs.length z)
noncomputable def qS2 (P : Program) (c : Cx) (st : St) (t : TypeId) (n i : Nat) (v : V) : Res := cellsOf v fun cs => szOf P t (qS3 c st n i cs)
noncomputable def qS1 (P : Program) (c : Cx) (e : Env) (st : St) (t : TypeId) (y : Operand) (n i : Nat) : Res := qd e (qS2 P c st t n i) y
noncomputable def q_store (t : TypeId) (x y : Operand) : Alt := fun _ P _ c e st => qd e (vP (qS1 P c e st t y) none) x
noncomputable def q_nilCheck (x : Operand) : Alt := fun _ _ _ _ e st => qd e (vP (fun n o => some (.p n o, st)) none) x
noncomputable def q_binOp (op : BinOp) (t : TypeId) (x y : Operand) (_ : TypeId) : Alt := fun _ P _ _ e st => qd e (fun a => qd e (qbin P st op t x y a) y) x
noncomputable def q_unOp (a : UnOp) (t : TypeId) (x : Operand) : Alt := fun ty P call c e st => evOp P call c e st ⟨none, .unOp a t x, ty, "", #[], none⟩
noncomputable def q_convert (a b : TypeId) (x : Operand) : Alt := fun _ P _ c e st => qd e (convE P c st a b) x
noncomputable def q_makeFunc (f : Fn) (a b : Array Operand) : Alt := fun t P call c e st => evOp P call c e st ⟨none, .makeFunc f a b, t, "", #[], none⟩
noncomputable def q_makeSlice (a : TypeId) (x y : Operand) : Alt := fun t P call c e st => evOp P call c e st ⟨none, .makeSlice a x y, t, "", #[], none⟩
noncomputable def q_slice (a : TypeId) (x : Operand) (l h m : Option Operand) : Alt := fun t P call c e st => evOp P call c e st ⟨none, .slice a x l h m, t, "", #[], none⟩
noncomputable def q_fieldAddr (a : TypeId) (x : Operand) (n : Nat) : Alt := fun t P call c e st => evOp P call c e st ⟨none, .fieldAddr a x n, t, "", #[], none⟩
noncomputable def q_field (a : TypeId) (x : Operand) (n : Nat) : Alt := fun t P call c e st => evOp P call c e st ⟨none, .field a x n, t, "", #[], none⟩
noncomputable def q_indexAddr (t : TypeId) (x ix : Operand) : Alt := fun _ P _ _ e st => qd e (fun v => qd e (fun i => asNat i fun i => idxE P t v i fun a => some (a, st)) ix) x
noncomputable def q_index (a : TypeId) (x y : Operand) : Alt := fun t P call c e st => evOp P call c e st ⟨none, .index a x y, t, "", #[], none⟩
noncomputable def q_insert (a : TypeId) (x y z : Operand) : Alt := fun t P call c e st => evOp P call c e st ⟨none, .insert a x y z, t, "", #[], none⟩
noncomputable def q_makeMap (a : TypeId) (x : Option Operand) : Alt := fun t P call c e st => evOp P call c e st ⟨none, .makeMap a x, t, "", #[], none⟩
noncomputable def q_lookup (a : TypeId) (x y : Operand) (b : Bool) : Alt := fun t P call c e st => evOp P call c e st ⟨none, .lookup a x y b, t, "", #[], none⟩
noncomputable def q_mapUpdate (a : TypeId) (x y z : Operand) : Alt := fun t P call c e st => evOp P call c e st ⟨none, .mapUpdate a x y z, t, "", #[], none⟩
noncomputable def q_mapEntry (a : TypeId) (x y : Operand) : Alt := fun t P call c e st => evOp P call c e st ⟨none, .mapEntry a x y, t, "", #[], none⟩
noncomputable def q_entryStore (a : TypeId) (x y z : Operand) : Alt := fun t P call c e st => evOp P call c e st ⟨none, .entryStore a x y z, t, "", #[], none⟩
noncomputable def q_range (a : TypeId) (x : Operand) : Alt := fun t P call c e st => evOp P call c e st ⟨none, .range a x, t, "", #[], none⟩
noncomputable def q_next (x : Operand) (b : Bool) : Alt := fun t P call c e st => evOp P call c e st ⟨none, .next x b, t, "", #[], none⟩
noncomputable def q_extract (x : Operand) (n : Nat) : Alt := fun t P call c e st => evOp P call c e st ⟨none, .extract x n, t, "", #[], none⟩
noncomputable def q_call (cl : Call) : Alt := fun t P call c e st => evOp P call c e st ⟨none, .call cl, t, "", #[], none⟩
noncomputable def qTab (op : Op) : Alt := Op.rec (motive := fun _ => Alt) q_move q_move q_pick q_alloc q_box q_build q_buildSlice q_insert q_load q_store (fun _ => q_none) (fun _ => q_none) q_nilCheck q_binOp q_unOp q_convert
  (fun _ _ => q_none) (fun _ _ => q_none) q_makeFunc q_makeMap (fun _ _ => q_none) q_makeSlice q_slice q_fieldAddr q_field q_indexAddr q_index q_lookup q_mapUpdate q_mapEntry q_entryStore q_range q_next (fun _ => q_none) (fun _ _ _ _ => q_none) q_extract q_call
  (fun _ => q_none) (fun _ => q_none) (fun _ => q_none) (fun _ _ => q_none) (fun _ _ _ => q_none) (fun _ _ => q_none) op
noncomputable def evOpQ (P : Program) (call : CallF) (c : Cx) (e : Env) (st : St) (o : Oper) : Res := qTab o.op o.type P call c e st
section
variable {P : Program} {call : CallF} {c : Cx} {e : Env} {st : St}
theorem fA_bind' {β : Type} (v : Value) (k : V → Option β) : fA v k = (fA v some).bind k := by
  unfold fA
  split <;> simp
theorem fAs_bind' {β : Type} : ∀ (l : List Value) (k : List V → Option β), fAs l k = (fAs l some).bind k
  | [], _ => rfl
  | v :: l, k => by
    have h : ∀ {γ : Type} (k : List V → Option γ), fAs (v :: l) k = fA v (fun x => fAs l fun l => k (x :: l)) := fun _ => rfl
    rw [h k, h some, fA_bind', fA_bind' (k := fun x => fAs l fun l => some (x :: l))]
    cases fA v some with
    | none => rfl
    | some x =>
      simp only [Option.bind_some]
      rw [fAs_bind' l fun l => k (x :: l), fAs_bind' l fun l => some (x :: l)]
      cases fAs l some <;> rfl
theorem ofV_bind' {β : Type} (v : Value) (k : V → Option β) : ofV v k = (ofV v some).bind k := by
  unfold ofV
  split
  · rename_i cs
    rw [fAs_bind', fAs_bind' (k := fun l => some (V.g l))]
    cases fAs cs.toList some <;> rfl
  · rfl
  · exact fA_bind' _ _
theorem qd_eq {β : Type} (k : V → Option β) (x : Operand) : qd e k x = opd e x k := by
  cases x with
  | tmp t => show qT k (T.get e t) = (match T.get e t with | some v => k v | none => k .u); cases T.get e t <;> rfl
  | const v => show qO k (cV v) = ofV v k; rw [ofV_bind']; unfold cV; cases ofV v some <;> rfl
  | global g => rfl
  | func f => rfl
theorem qB_eq (b : Bool) : qB st b = fb b (fun b => some (.bool b, st)) := by cases b <;> rfl
theorem kN_eq (k k' : IntKind) : Nat.beq (kN k) (kN k') = eqKd k k' := by cases k <;> cases k' <;> rfl
theorem qbK_eq (op : BinOp) (t : TypeId) (x y : Operand) (k k' : IntKind) (a b : Int) : qbK (binE P st op t x y (.c (.int k a)) (.c (.int k' b))) op st k a k' b = binE P st op t x y (.c (.int k a)) (.c (.int k' b)) := by
  unfold qbK
  rw [kN_eq]
  cases h : eqKd k k' with
  | false => rfl
  | true =>
    show bo op k a b st _ = _
    cases op <;> first
      | rfl
      | (simp only [bo, b_add, b_sub, b_mul, b_eql, b_neq, b_lss, b_leq, b_gtr, b_geq, binE, h, binI, qI, qB_eq, ofV, fA, ret]; done)
      | (simp only [bo, b_add, b_sub, b_mul, b_eql, b_neq, b_lss, b_leq, b_gtr, b_geq, binE, h, binI, qI, qB_eq, ofV, fA]; rfl)
theorem qbin_eq (op : BinOp) (t : TypeId) (x y : Operand) (a b : V) : qbin P st op t x y a b = binE P st op t x y a b := by
  cases a with
  | c va => cases va with
    | int k i => cases b with
      | c vb => cases vb with
        | int k' j => exact qbK_eq op t x y k k' i j
        | _ => rfl
      | _ => rfl
    | _ => rfl
  | _ => rfl
theorem vP_eq {R : Type} (f : Nat → Nat → R) (d : R) (v : V) : vP f d v = (match v with | .p n i => f n i | _ => d) := by cases v <;> rfl
theorem evOpQ_eq (o : Oper) : evOpQ P call c e st o = evOp P call c e st o := by
  obtain ⟨d, op, t, p, af, g⟩ := o
  cases op with
  | move x => exact qd_eq _ _
  | assign x => exact qd_eq _ _
  | box t x => exact qd_eq _ _
  | load t x =>
    show qd e _ x = opd e x _
    rw [qd_eq]; congr 1; funext v; cases v <;> rfl
  | store t x y =>
    show qd e _ x = opd e x _
    rw [qd_eq]; congr 1; funext v
    cases v with
    | p n i =>
      show qd e _ y = opd e y _
      rw [qd_eq]; congr 1; funext v
      show cellsOf v _ = cellsOf v _
      congr 1; funext cs
      show szOf P t _ = szOf P t _
      congr 1; funext z
      show qS3 c st n i cs z = _
      unfold qS3
      cases Nat.beq cs.length z <;> rfl
    | _ => rfl
  | nilCheck x =>
    show qd e _ x = opd e x _
    rw [qd_eq]; congr 1; funext v; cases v <;> rfl
  | binOp op t x y yt =>
    show qd e _ x = opd e x _
    rw [qd_eq]; congr 1; funext a
    rw [qd_eq]; congr 1; funext b
    exact qbin_eq ..
  | convert a b x => exact qd_eq _ _
  | indexAddr t x ix =>
    show qd e _ x = opd e x _
    rw [qd_eq]; congr 1; funext a
    rw [qd_eq]
  | _ => rfl
end
/-! regions, code -/
noncomputable def putQ {β : Type} (nt : Nat) (e : Env) (v : V) (k : Env → Option β) (d : Option Nat) : Option β := Option.rec (motive := fun _ => Option β) (k e) (fun t => Bool.rec (motive := fun _ => Option β) none (T.setP (pth t) v e k) (Nat.ble (Nat.succ t) nt)) d
theorem putQ_eq {β : Type} {c : Cx} {e : Env} (d : Option Nat) (v : V) (k : Env → Option β) : putQ c.nt e v k d = putK c e d v k := by
  cases d with
  | none => rfl
  | some t =>
    show Bool.rec (motive := fun _ => Option β) none (T.setP (pth t) v e k) (Nat.blt t c.nt) = (match Nat.blt t c.nt with | true => e.setK t v k | false => none)
    cases Nat.blt t c.nt <;> rfl
noncomputable def qWant (e : Env) (ops : List Oper) (o : Oper) : Bool := Option.rec (motive := fun _ => Bool) true (fun _ => wants e ops o) o.guard
noncomputable def q2 (c : Cx) (e : Env) (o : Oper) (ih : Env → St → Option (Env × St)) (r : Res) : Option (Env × St) := Option.rec (motive := fun _ => Option (Env × St)) none (fun p => Prod.rec (motive := fun _ => Option (Env × St)) (fun v st => putQ c.nt e v (fun e => ih e st) o.dst) p) r
noncomputable def q1 (P : Program) (call : CallF) (c : Cx) (ops : List Oper) (o : Oper) (ih : Env → St → Option (Env × St)) (e : Env) (st : St) : Option (Env × St) := Bool.rec (motive := fun _ => Option (Env × St)) (putQ c.nt e .u (fun e => ih e st) o.dst) (q2 c e o ih (evOpQ P call c e st o)) (qWant e ops o)
noncomputable def evOpsQ (P : Program) (call : CallF) (c : Cx) (ops : List Oper) (l : List Oper) : Env → St → Option (Env × St) := lr (fun e st => some (e, st)) (fun o _ ih e st => q1 P call c ops o ih e st) l
abbrev DF := Nat → List (Nat × Nat × Nat) → Env → St → Option (Env × St)
noncomputable def d2 (c : Cx) (e : Env) (o : Oper) (nx i : Nat) (rs : List (Nat × Nat × Nat)) (ih : DF) (r : Res) : Option (Env × St) := Option.rec (motive := fun _ => Option (Env × St)) none (fun p => Prod.rec (motive := fun _ => Option (Env × St)) (fun v st' => putQ c.nt e v (fun e => fn (i + 1) fun i' => ih i' (match Nat.beq nx st'.nx with | true => rs | false => (i, nx, st'.nx) :: rs) e st') o.dst) p) r
noncomputable def d1 (P : Program) (call : CallF) (c : Cx) (ops : List Oper) (o : Oper) (ih : DF) (i : Nat) (rs : List (Nat × Nat × Nat)) (e : Env) (st : St) : Option (Env × St) := Bool.rec (motive := fun _ => Option (Env × St)) (putQ c.nt e .u (fun e => fn (i + 1) fun i' => ih i' rs e st) o.dst) (d2 c e o st.nx i rs ih (evOpQ P call (cxOf c ops o i rs st.nx e) e st o)) (qWant e ops o)
noncomputable def evDrawQ (P : Program) (call : CallF) (c : Cx) (ops : List Oper) (l : List Oper) : DF := lr (fun _ _ e st => some (e, st)) (fun o _ ih i rs e st => d1 P call c ops o ih i rs e st) l
abbrev CRes := Option (X × Env × St)
abbrev CAlt := Program → CodeF → Cx → Env → St → CRes
noncomputable def c_none : CAlt := fun _ _ _ _ _ => none
noncomputable def c_skip : CAlt := fun _ _ _ e st => some (.n, e, st)
noncomputable def cr1 (r : Option (Env × St)) : CRes := Option.rec (motive := fun _ => CRes) none (fun p => Prod.rec (motive := fun _ => CRes) (fun e st => some (.n, e, st)) p) r
noncomputable def c_region (_ : Nat) (ops : Array Oper) (d : Bool) : CAlt := fun P ih cx e st => Bool.rec (motive := fun _ => CRes) (cr1 (evOpsQ P (callOf P ih) cx ops.toList ops.toList e st)) (Bool.rec (motive := fun _ => CRes) none (cr1 (evDrawQ P (callOf P ih) cx ops.toList ops.toList 0 [] e st)) (regOk ops.toList)) d
noncomputable def cs1 (ih : CodeF) (cx : Cx) (b : Code) (r : CRes) : CRes := match r with
  | some (.n, e, st) => ih cx b e st
  | r => r
noncomputable def c_seq (a b : Code) : CAlt := fun _ ih cx e st => cs1 ih cx b (ih cx a e st)
noncomputable def ci1 (p q : CRes) (v : V) : CRes := match v with
  | .c (.bool true) => p
  | .c (.bool false) => q
  | _ => none
noncomputable def c_cond (x : Operand) (a b : Code) : CAlt := fun _ ih cx e st => qd e (ci1 (ih cx a e st) (ih cx b e st)) x
noncomputable def cb1 (i : Nat) (r : CRes) : CRes := match r with
  | some (.ex j, e, st) => (match Nat.beq j i with | true => some (.n, e, st) | false => some (.ex j, e, st))
  | r => r
noncomputable def c_block (i : Nat) (b : Code) : CAlt := fun _ ih cx e st => cb1 i (ih cx b e st)
noncomputable def c_loop (b : Code) : CAlt := fun _ ih cx e st => cs1 ih cx (.loop b) (ih cx b e st)
noncomputable def c_exit (i : Nat) : CAlt := fun _ _ _ e st => some (.ex i, e, st)
noncomputable def c_ret : CAlt := fun _ _ _ e st => some (.ret, e, st)
noncomputable def cTab (c : Code) : CAlt := Code.casesOn (motive := fun _ => CAlt) c c_skip c_region c_seq c_cond c_block c_loop (fun _ _ _ _ => c_none) c_exit (fun _ => c_none) (fun _ => c_skip) (fun _ => c_none) c_ret (fun _ => c_none)
noncomputable def evQ (P : Program) (n : Nat) : CodeF := nr (fun _ _ _ _ => none) (fun _ ih cx c e st => cTab c P ih cx e st) n
noncomputable def runQ (P : Program) (fuel f : Nat) (args : List V) : Option (V × St) := callOf P (evQ P fuel) ⟨false, [], 0, 0⟩ f args ⟨0, .lf⟩
noncomputable def yesQ (P : Program) (fuel f : Nat) : Bool := match runQ P fuel f [] with
  | some (.c (.bool true), _) => true
  | _ => false
section
variable {P : Program} {call : CallF} {c : Cx} {e : Env} {st : St}
theorem qWant_eq (ops : List Oper) (o : Oper) : qWant e ops o = wants e ops o := by
  unfold qWant wants
  cases o.guard <;> rfl
theorem evOpsQ_eq (ops : List Oper) : ∀ (l : List Oper) (e : Env) (st : St), evOpsQ P call c ops l e st = evOps P call c ops l e st
  | [], _, _ => rfl
  | o :: l, e, st => by
    have ih := evOpsQ_eq ops l
    have h1 : evOpsQ P call c ops (o :: l) e st = q1 P call c ops o (evOpsQ P call c ops l) e st := rfl
    have h2 : evOps P call c ops (o :: l) e st = (match wants e ops o with
      | true => match evOp P call c e st o with
        | none => none
        | some (v, st) => putK c e o.dst v fun e => evOps P call c ops l e st
      | false => putK c e o.dst .u fun e => evOps P call c ops l e st) := rfl
    have ih' : evOpsQ P call c ops l = evOps P call c ops l := funext fun e => funext fun st => ih e st
    rw [h1, h2]
    unfold q1
    rw [qWant_eq, evOpQ_eq, ih']
    cases wants e ops o with
    | false => exact putQ_eq _ _ _
    | true => cases evOp P call c e st o with
      | none => rfl
      | some p => obtain ⟨v, st⟩ := p; exact putQ_eq (c := c) (e := e) o.dst v fun e => evOps P call c ops l e st
theorem evDrawQ_eq (ops : List Oper) : ∀ (l : List Oper) (i : Nat) (rs : List (Nat × Nat × Nat)) (e : Env) (st : St), evDrawQ P call c ops l i rs e st = evDraw P call c ops l i rs e st
  | [], _, _, _, _ => rfl
  | o :: l, i, rs, e, st => by
    have ih := evDrawQ_eq ops l
    have h1 : evDrawQ P call c ops (o :: l) i rs e st = d1 P call c ops o (evDrawQ P call c ops l) i rs e st := rfl
    have h2 : evDraw P call c ops (o :: l) i rs e st = (match wants e ops o with
      | true => match evOp P call (cxOf c ops o i rs st.nx e) e st o with
        | none => none
        | some (v, st') => putK c e o.dst v fun e => fn (i + 1) fun i' => evDraw P call c ops l i' (match Nat.beq st.nx st'.nx with | true => rs | false => (i, st.nx, st'.nx) :: rs) e st'
      | false => putK c e o.dst .u fun e => fn (i + 1) fun i' => evDraw P call c ops l i' rs e st) := rfl
    have ih' : evDrawQ P call c ops l = evDraw P call c ops l := funext fun i => funext fun rs => funext fun e => funext fun st => ih i rs e st
    rw [h1, h2]
    unfold d1
    rw [qWant_eq, evOpQ_eq, ih']
    cases wants e ops o with
    | false => exact putQ_eq _ _ _
    | true => cases evOp P call (cxOf c ops o i rs st.nx e) e st o with
      | none => rfl
      | some p => obtain ⟨v, st'⟩ := p; exact putQ_eq (c := c) (e := e) o.dst v fun e => fn (i + 1) fun i' => evDraw P call c ops l i' (match Nat.beq st.nx st'.nx with | true => rs | false => (i, st.nx, st'.nx) :: rs) e st'
theorem evQ_eq : ∀ n, evQ P n = ev P n
  | 0 => rfl
  | n + 1 => by
    have ih := evQ_eq n
    funext cx c e st
    have h1 : evQ P (n + 1) cx c e st = cTab c P (evQ P n) cx e st := rfl
    rw [h1, ih]
    cases c with
    | region id ops d =>
      cases d with
      | false =>
        show cr1 (evOpsQ P (callOf P (ev P n)) cx ops.toList ops.toList e st) = (match evOps P (callOf P (ev P n)) cx ops.toList ops.toList e st with
          | none => none
          | some (e, st) => some (X.n, e, st))
        rw [evOpsQ_eq]
        cases evOps P (callOf P (ev P n)) cx ops.toList ops.toList e st with
        | none => rfl
        | some p => obtain ⟨e, st⟩ := p; rfl
      | true =>
        show Bool.rec (motive := fun _ => CRes) none (cr1 (evDrawQ P (callOf P (ev P n)) cx ops.toList ops.toList 0 [] e st)) (regOk ops.toList) = (match regOk ops.toList with
          | true => (match evDraw P (callOf P (ev P n)) cx ops.toList ops.toList 0 [] e st with
            | none => none
            | some (e, st) => some (X.n, e, st))
          | false => none)
        rw [evDrawQ_eq]
        cases regOk ops.toList with
        | false => rfl
        | true => cases evDraw P (callOf P (ev P n)) cx ops.toList ops.toList 0 [] e st with
          | none => rfl
          | some p => obtain ⟨e, st⟩ := p; rfl
    | cond x a b => exact qd_eq _ _
    | _ => rfl
theorem yesQ_eq (fuel f : Nat) : yesQ P fuel f = yes P fuel f := by
  unfold yesQ yes runQ run
  rw [evQ_eq]; rfl
theorem yesQ_ok {P : Program} (hn : namesOk P = true) (hm : P.follows .mixedOrders = true) {fuel f : Nat} (h : yesQ P fuel f = true) (w : World) :
    Calls P f #[] w fun e w' => e = .returned (.bool true) ∧ Below w.heap.size w w' := yes_ok hn hm (by rw [← yesQ_eq]; exact h) w
end
end Go.Proofs.Ytenncnbaoejekaa.Ev

/-
  PLAIN: structs of whole numbers compared.
-/
import Derived.Test.YtcjddojcfdeflaaSb
set_option linter.unusedSimpArgs false
namespace Go.Proofs.Ytcjddojcfdeflaa.Ev
open Go.RowKit
theorem pr_bind {α β : Type} {P : Program} : ∀ {s : Sem α} {a : α} {f : α → Sem β}, pureRun P s = some a → pureRun P (s >>= f) = pureRun P (f a)
  | .pure _, _, _, h => by simp only [pureRun] at h; injection h with h; subst h; rfl
  | .program k, _, _, h => by simp only [pureRun] at h; exact pr_bind (s := k P) h
  | .mark _ k, _, _, h => by simp only [pureRun] at h; exact pr_bind (s := k) h
  | .load .., _, _, h => by simp [pureRun] at h
  | .store .., _, _, h => by simp [pureRun] at h
  | .new .., _, _, h => by simp [pureRun] at h
  | .shape .., _, _, h => by simp [pureRun] at h
  | .freeze .., _, _, h => by simp [pureRun] at h
  | .frozen .., _, _, h => by simp [pureRun] at h
  | .getObj .., _, _, h => by simp [pureRun] at h
  | .setObj .., _, _, h => by simp [pureRun] at h
  | .choose .., _, _, h => by simp [pureRun] at h
  | .sys .., _, _, h => by simp [pureRun] at h
  | .halt .., _, _, h => by simp [pureRun] at h
theorem pr_pure {α : Type} {P : Program} (a : α) : pureRun P (pure a : Sem α) = some a := rfl
theorem pr_prog {α : Type} {P : Program} (f : Program → Sem α) : pureRun P (program >>= f) = pureRun P (f P) := rfl
theorem pr_underlying {P : Program} {t : TypeId} {d : TypeDesc} (h : P.underlying t = some d) : pureRun P (Go.underlying t) = some d := by
  show pureRun P (match P.underlying t with | some d => pure d | none => stuck "no such type") = _
  rw [h]; rfl
theorem pr_int {P : Program} (d : Nat) {t : TypeId} {k : IntKind} (a b : Int) (h : P.underlying t = some (.int k)) : pureRun P (Op.equalIn (d + 1) t (.int k a) (.int k b)) = some (a == b) := by
  unfold Op.equalIn
  rw [pr_bind (pr_underlying h)]
  simp [pr_pure]
/-- a field of two structs compared -/
def FieldEq (P : Program) (d : Nat) (xs ys : Array Value) (f : Field) (r : Bool) : Prop := f.name ≠ "_" ∧ ∃ a b, pureRun P (part f.type xs f.offset) = some a ∧ pureRun P (part f.type ys f.offset) = some b ∧ pureRun P (Op.equalIn d f.type a b) = some r
inductive FieldsEq (P : Program) (d : Nat) (xs ys : Array Value) : List Field → List Bool → Prop
  | nil : FieldsEq P d xs ys [] []
  | cons {f : Field} {r : Bool} {l : List Field} {bs : List Bool} : FieldEq P d xs ys f r → FieldsEq P d xs ys l bs → FieldsEq P d xs ys (f :: l) (r :: bs)
theorem pr_loop {P : Program} {d : Nat} {xs ys : Array Value} : ∀ {l : List Field} {bs : List Bool}, FieldsEq P d xs ys l bs → pureRun P (forIn (m := Sem) l ((none : Option Bool), ()) fun f _ =>
      if f.name ≠ "_" then do
        let a ← part f.type xs f.offset
        let b ← part f.type ys f.offset
        let r ← Op.equalIn d f.type a b
        if (!r) = true then pure (ForInStep.done (some false, ()))
          else pure (ForInStep.yield (none, ()))
      else pure (ForInStep.yield (none, ()))) = some (if bs.all id then (none, ()) else (some false, ()))
  | [], _, h => by cases h; rfl
  | f :: l, _, h => by
    cases h with
    | @cons _ r _ bs h1 h2 =>
      obtain ⟨hn, a, b, ha, hb, hr⟩ := h1
      rw [List.forIn_cons]
      cases r with
      | true =>
        rw [pr_bind (a := ForInStep.yield ((none : Option Bool), ())) (by simp only [if_pos hn]; rw [pr_bind ha, pr_bind hb, pr_bind hr]; rfl)]
        have := pr_loop h2
        simpa using this
      | false =>
        rw [pr_bind (a := ForInStep.done (some false, ())) (by simp only [if_pos hn]; rw [pr_bind ha, pr_bind hb, pr_bind hr]; rfl)]
        simp [pr_pure]
theorem pr_struct {P : Program} (d : Nat) {t : TypeId} {fs : Array Field} {xs ys : Array Value} {bs : List Bool} (h : P.underlying t = some (.struct fs)) (hs : P.stoodInHeld t = false) (hf : FieldsEq P d xs ys fs.toList bs) : pureRun P (Op.equalIn (d + 1) t (.agg xs) (.agg ys)) = some (bs.all id) := by
  unfold Op.equalIn
  rw [pr_bind (pr_underlying h)]
  simp only [pr_prog, hs]
  rw [← Array.forIn_toList]
  show pureRun P (forIn (m := Sem) fs.toList ((none : Option Bool), ()) _ >>= _) = _
  rw [pr_bind (pr_loop hf)]
  cases bs.all id <;> rfl
theorem FieldEq.int {P : Program} {d : Nat} {xs ys : Array Value} {f : Field} {k : IntKind} {a b : Int} (hn : f.name ≠ "_") (hu : P.underlying f.type = some (.int k)) (hx : xs[f.offset]? = some (.int k a)) (hy : ys[f.offset]? = some (.int k b)) : FieldEq P (d + 1) xs ys f (a == b) := by
  have hp : ∀ (cs : Array Value) v, cs[f.offset]? = some v → pureRun P (part f.type cs f.offset) = some v := fun cs v hv => by
    unfold part isAgg
    rw [pr_bind (a := false) (by rw [pr_bind (pr_underlying hu)]; rfl)]
    simp only [hv]
    rfl
  exact ⟨hn, _, _, hp xs _ hx, hp ys _ hy, pr_int d a b hu⟩
theorem FieldEq.agg {P : Program} {d n : Nat} {xs ys : Array Value} {f : Field} {gs : Array Field} {r : Bool} (hn : f.name ≠ "_") (hu : P.underlying f.type = some (.struct gs)) (hz : pureRun P (sizeOf f.type) = some n)
    (hr : pureRun P (Op.equalIn d f.type (.agg (xs.extract f.offset (f.offset + n))) (.agg (ys.extract f.offset (f.offset + n)))) = some r) : FieldEq P d xs ys f r := by
  have hp : ∀ (cs : Array Value), pureRun P (part f.type cs f.offset) = some (.agg (cs.extract f.offset (f.offset + n))) := fun cs => by
    unfold part isAgg
    rw [pr_bind (a := true) (by rw [pr_bind (pr_underlying hu)]; rfl)]
    simp only [if_true]
    rw [pr_bind hz]; rfl
  exact ⟨hn, _, _, hp xs, hp ys, hr⟩
theorem pr_guard {P : Program} {t : TypeId} {op : BinOp} {x y : Operand} {xs ys : Array Value} (h : P.eqGuardType P.depth t = false) (ho : op = .eql ∨ op = .neq) : pureRun P (eqGuard op t x y (.agg xs) (.agg ys)) = some () := by
  rcases ho with rfl | rfl
  · unfold eqGuard
    show pureRun P (program >>= fun p => program >>= fun q => if (!p.eqGuardType q.depth t) = true then pure () else _) = _
    rw [pr_prog, pr_prog]
    simp only [h]
    rfl
  · unfold eqGuard
    show pureRun P (program >>= fun p => program >>= fun q => if (!p.eqGuardType q.depth t) = true then pure () else _) = _
    rw [pr_prog, pr_prog]
    simp only [h]
    rfl
theorem eql_struct {P : Program} {st : St} {t : TypeId} {x y : Operand} {l l' : List V} {xs ys : List Value} {fs : Array Field} {bs : List Bool} (h : P.underlying t = some (.struct fs)) (hs : P.stoodInHeld t = false) (hg : P.eqGuardType P.depth t = false) (hx : valsA l = some xs) (hy : valsA l' = some ys)
    (hf : FieldsEq P 9999 ⟨xs⟩ ⟨ys⟩ fs.toList bs) : binE P st .eql t x y (.g l) (.g l') = some (.bool (bs.all id), st) := by
  unfold binE
  simp only [h, nilQ, valV, hx, hy]
  unfold pu
  rw [pr_bind (pr_guard hg (.inl rfl))]
  have : pureRun P (binOp .eql t (.agg ⟨xs⟩) (.agg ⟨ys⟩)) = some (Value.bool (bs.all id)) := by
    unfold binOp
    show pureRun P (Op.equalIn 10000 t (.agg ⟨xs⟩) (.agg ⟨ys⟩) >>= fun b => pure (Value.bool b)) = _
    rw [pr_bind (pr_struct 9999 h hs hf)]; rfl
  rw [this]
  cases bs.all id <;> rfl
theorem neq_struct {P : Program} {st : St} {t : TypeId} {x y : Operand} {l l' : List V} {xs ys : List Value} {fs : Array Field} {bs : List Bool} (h : P.underlying t = some (.struct fs)) (hs : P.stoodInHeld t = false) (hg : P.eqGuardType P.depth t = false) (hx : valsA l = some xs) (hy : valsA l' = some ys)
    (hf : FieldsEq P 9999 ⟨xs⟩ ⟨ys⟩ fs.toList bs) : binE P st .neq t x y (.g l) (.g l') = some (.bool (!bs.all id), st) := by
  unfold binE
  simp only [h, nilQ, valV, hx, hy]
  unfold pu
  rw [pr_bind (pr_guard hg (.inr rfl))]
  have : pureRun P (binOp .neq t (.agg ⟨xs⟩) (.agg ⟨ys⟩)) = some (Value.bool (!bs.all id)) := by
    unfold binOp
    show pureRun P (Op.equalIn 10000 t (.agg ⟨xs⟩) (.agg ⟨ys⟩) >>= fun b => pure (Value.bool (!b))) = _
    rw [pr_bind (pr_struct 9999 h hs hf)]; rfl
  rw [this]
  cases bs.all id <;> rfl
end Go.Proofs.Ytcjddojcfdeflaa.Ev

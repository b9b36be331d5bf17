/-
  PLAIN: each operation of the evaluator is the model's: parts, functions, operators, conversions.
-/
import Derived.Test.YtenncnbaoejekaaEvH
import Derived.Laws.BytesString
import Derived.Laws.OwnMore
namespace Go.Proofs.Ytenncnbaoejekaa.Ev
open Go.RowKit

theorem pureRun_ok {α : Type} {P : Program} : ∀ {s : Sem α} {a : α}, pureRun P s = some a → ∀ w, s.run P w = .ok a w
  | .pure _, _, h, w => by simp only [pureRun] at h; injection h with h; subst h; rfl
  | .program k, _, h, w => by simp only [pureRun] at h; exact pureRun_ok (s := k P) h w
  | .mark _ k, _, h, w => by simp only [pureRun] at h; exact pureRun_ok (s := k) h w
  | .load .., _, h, _ => by simp [pureRun] at h
  | .store .., _, h, _ => by simp [pureRun] at h
  | .new .., _, h, _ => by simp [pureRun] at h
  | .shape .., _, h, _ => by simp [pureRun] at h
  | .freeze .., _, h, _ => by simp [pureRun] at h
  | .frozen .., _, h, _ => by simp [pureRun] at h
  | .getObj .., _, h, _ => by simp [pureRun] at h
  | .setObj .., _, h, _ => by simp [pureRun] at h
  | .choose .., _, h, _ => by simp [pureRun] at h
  | .sys .., _, h, _ => by simp [pureRun] at h
  | .halt .., _, h, _ => by simp [pureRun] at h
section
variable {ρ : Rho}
theorem valA_rel {v : V} {y a : Value} (h : valA v = some a) (hr : Rel ρ v y) : y = a := by
  cases v <;> simp only [valA] at h <;> try (cases h; done)
  case c => injection h with h; subst h; simp only [Rel] at hr; exact hr.1
  case s => injection h with h; subst h; simp only [Rel] at hr; exact hr.1
theorem valsA_rel : ∀ {l : List V} {ys as : List Value}, valsA l = some as → RelL ρ l ys → ys = as
  | [], _, _, h, hr => by
    simp only [RelL] at hr
    have h' : (some [] : Option (List Value)) = some _ := h
    injection h' with h'; subst h' hr; rfl
  | x :: l, _, _, h, hr => by
    simp only [RelL] at hr
    obtain ⟨y, ys, rfl, h1, h2⟩ := hr
    have h' : (match valA x with | none => none | some v => match valsA l with | none => none | some l => some (v :: l)) = some _ := h
    split at h'
    · cases h'
    · rename_i v hv
      split at h'
      · cases h'
      · rename_i l' hl
        injection h' with h'
        rw [← h', valA_rel hv h1, valsA_rel hl h2]
theorem valV_rel {v : V} {y a : Value} (h : valV v = some a) (hr : Rel ρ v y) : y = a := by
  unfold valV at h
  split at h
  · split at h
    · cases h
    · rename_i l hl
      injection h with h; subst h
      simp only [Rel] at hr
      obtain ⟨l', rfl, h1, _⟩ := hr
      rw [valsA_rel hl h1]
  · exact valA_rel h hr
end
section
variable {P : Program} {c : Cx} {st st' : St} {v : V} {e : Env} {o : Oper}
theorem pu_inv {β : Type} {q : β} {s : Sem Value} {k : V → Option β} (h : pu P s k = some q) : ∃ v y, k v = some q ∧ (∀ ρ, Rel ρ v y) ∧ ∀ w, s.run P w = .ok y w := by
  unfold pu at h
  split at h
  · rename_i y hy
    obtain ⟨v, h1, h2⟩ := ofV_inv h
    exact ⟨v, y, h1, h2, pureRun_ok hy⟩
  · cases h
theorem part_ok {β : Type} {q : β} {t : TypeId} {l : List V} {i : Nat} {k : V → Option β} (h : partE P t l i k = some q) :
    ∃ x, k x = some q ∧ ∀ (ρ : Rho) (l' : List Value) (w : World), RelL ρ l l' → l.all V.one = true → ∃ y, Rel ρ x y ∧ (part t ⟨l'⟩ i).run P w = .ok y w := by
  unfold partE at h
  split at h
  · rename_i ha
    obtain ⟨ti, h1, h2⟩ := szOf_inv h
    refine ⟨_, h2, fun ρ l' w hr ho => ⟨.agg ⟨(l'.drop i).take ti.size⟩, ?_, ?_⟩⟩
    · simp only [Rel]; exact ⟨_, rfl, RelL.take _ (RelL.drop _ hr), all_take (all_drop ho _) _⟩
    · simp only [part, Sem.run_bind, (agg_inv ha w).1, Result.andThen_ok, if_true, run_sizeOf' h1, Sem.run_pure]
      congr 2
      apply Array.ext'
      simp [Nat.add_sub_cancel_left]
  · rename_i ha
    split at h
    · rename_i x hx
      refine ⟨x, h, fun ρ l' w hr _ => ?_⟩
      rw [lget_eq] at hx
      obtain ⟨y, hy1, hy2⟩ := hr.get hx
      refine ⟨y, hy2, ?_⟩
      simp [part, (agg_inv ha w).1, hy1]
    · cases h
  · cases h
theorem ok_field {t : TypeId} {x : Operand} {f : Nat} (ho : o.op = .field t x f) (h : (opd e x fun v => (match v, P.underlying t with
    | .g l, some (.struct fs) => (match lget fs.toList f with
      | none => none
      | some f => partE P f.type l f.offset fun v => (some (v, st) : Res))
    | _, _ => none)) = some (v, st')) : StepOk c st st' ∧ OpOk P c st st' v e o := by
  obtain ⟨v0, h1, h2⟩ := opd_inv h
  split at h1
  · rename_i l fs hu
    split at h1
    · cases h1
    · rename_i fd hfd
      obtain ⟨y, h3, h4⟩ := part_ok h1
      obtain ⟨rfl, rfl⟩ := some_inv h3
      refine opOk_val fun B0 ρ τ w a hx _ _ => ?_
      have hv := h2 ρ a (hx x (by simp [ho, Op.operands]))
      simp only [Rel] at hv
      obtain ⟨l', hv, hl, hone⟩ := hv
      obtain ⟨u, k1, k2⟩ := h4 ρ l' w hl hone
      refine ⟨u, k1, ?_⟩
      rw [lget_eq] at hfd
      have hfd' : fs[f]? = some fd := by simpa using hfd
      simp [execOp, ho, hv, Instr.field, run_underlying' hu, hfd', asAgg, k2]
  · cases h1
theorem ok_index {t : TypeId} {x ix : Operand} (ho : o.op = .index t x ix) (h : (opd e x fun v => opd e ix fun i => asNat i fun i => (match P.underlying t, v with
    | some .string, .s l => (match lget l i with
      | some b => (some (.int .u8 (.ofNat b), st) : Res)
      | none => none)
    | some (.array len el), .g l => (match Nat.blt i len with
      | true => szOf P el fun z => fn (i * z) fun o => partE P el l o fun v => some (v, st)
      | false => none)
    | _, _ => none)) = some (v, st')) : StepOk c st st' ∧ OpOk P c st st' v e o := by
  obtain ⟨v0, h1, h2⟩ := opd_inv h
  obtain ⟨v1, h3, h4⟩ := opd_inv h1
  obtain ⟨k, i, rfl, h5⟩ := asNat_inv h3
  split at h5
  · rename_i l hu
    split at h5
    · rename_i b hb
      obtain ⟨rfl, rfl⟩ := some_inv h5
      refine opOk_val fun B0 ρ τ w a hx _ _ => ⟨.int .u8 (Int.ofNat b), rel_num' _ _, ?_⟩
      have hv := h2 ρ a (hx x (by simp [ho, Op.operands]))
      have hi' := rel_num (h4 ρ a (hx ix (by simp [ho, Op.operands])))
      simp only [Rel] at hv
      obtain ⟨hv, hlt⟩ := hv
      rw [lget_eq] at hb
      have hmem : b ∈ l := List.mem_of_getElem? hb
      have h256 := hlt b hmem
      have hlen : i < l.length := by
        rcases Nat.lt_or_ge i l.length with h | h
        · exact h
        · rw [List.getElem?_eq_none h] at hb; cases hb
      have hget : (⟨⟨l.map UInt8.ofNat⟩⟩ : ByteArray)[i]? = some (UInt8.ofNat b) := by
        have hsz : i < (⟨⟨l.map UInt8.ofNat⟩⟩ : ByteArray).size := by simpa [ByteArray.size] using hlen
        rw [getElem?_pos (⟨⟨l.map UInt8.ofNat⟩⟩ : ByteArray) i hsz]
        congr 1
        show (l.map UInt8.ofNat)[i]'(by simpa using hlen) = _
        rw [List.getElem?_eq_getElem hlen] at hb
        injection hb with hb
        simp [hb]
      simp [execOp, ho, hv, hi', Instr.index, asIntOf, run_underlying' hu, hget]
      omega
    · cases h5
  · rename_i len el l hu
    split at h5
    · rename_i hi
      obtain ⟨ti, h6, h7⟩ := szOf_inv h5
      rw [fn_eq] at h7
      obtain ⟨y, h8, h9⟩ := part_ok h7
      obtain ⟨rfl, rfl⟩ := some_inv h8
      refine opOk_val fun B0 ρ τ w a hx _ _ => ?_
      have hv := h2 ρ a (hx x (by simp [ho, Op.operands]))
      have hi' := rel_num (h4 ρ a (hx ix (by simp [ho, Op.operands])))
      simp only [Rel] at hv
      obtain ⟨l', hv, hl, hone⟩ := hv
      obtain ⟨u, k1, k2⟩ := h9 ρ l' w hl hone
      refine ⟨u, k1, ?_⟩
      have hlt : i < len := by simpa [Nat.blt_eq] using hi
      simp [execOp, ho, hv, hi', Instr.index, asIntOf, run_underlying' hu, hlt, run_sizeOf' h6, k2]
    · cases h5
  · cases h5
where rel_num' {ρ : Rho} (k : IntKind) (n : Int) : Rel ρ (.int k n) (.int k n) := rel_int k n
theorem ok_makeFunc {f : Fn} {first caps : Array Operand} (ho : o.op = .makeFunc f first caps) (h : (opds e first.toList fun a => opds e caps.toList fun b => (some (.f f a b, st) : Res)) = some (v, st')) :
    StepOk c st st' ∧ OpOk P c st st' v e o := by
  obtain ⟨va, h1, h2⟩ := opds_inv h
  obtain ⟨vb, h3, h4⟩ := opds_inv h1
  obtain ⟨rfl, rfl⟩ := some_inv h3
  refine opOk_val fun B0 ρ τ w a hx _ _ => ⟨.func f (first.map a.eval) (caps.map a.eval), ?_, ?_⟩
  · simp only [Rel]
    refine ⟨first.toList.map a.eval, caps.toList.map a.eval, by rw [← Array.toList_map, ← Array.toList_map], h2 ρ a fun y hy => hx y (by simp only [ho, Op.operands]; simp at hy ⊢; exact .inl hy), h4 ρ a fun y hy => hx y (by simp only [ho, Op.operands]; simp at hy ⊢; exact .inr hy)⟩
  · simp [execOp, ho, Instr.makeFunc]
theorem ok_unOp {op : UnOp} {t : TypeId} {x : Operand} (ho : o.op = .unOp op t x) (h : (opd e x fun v => (match op, v with
    | .not, .c (.bool b) => fb (!b) fun b => (some (.bool b, st) : Res)
    | op, v => (match valA v with
      | some v => pu P (Op.unary op v) (ret st)
      | none => none))) = some (v, st')) : StepOk c st st' ∧ OpOk P c st st' v e o := by
  obtain ⟨v0, h1, h2⟩ := opd_inv h
  split at h1
  · rw [fb_eq] at h1
    obtain ⟨rfl, rfl⟩ := some_inv h1
    refine opOk_val fun B0 ρ τ w a hx _ _ => ⟨_, rel_bool _, ?_⟩
    have hv := rel_true (h2 ρ a (hx x (by simp [ho, Op.operands])))
    simp [execOp, ho, hv, Op.unary]
  · split at h1
    · rename_i y hy
      obtain ⟨u, z, h3, h4, h5⟩ := pu_inv h1
      obtain ⟨rfl, rfl⟩ := ret_inv h3
      refine opOk_val fun B0 ρ τ w a hx _ _ => ⟨z, h4 ρ, ?_⟩
      have hv := valA_rel hy (h2 ρ a (hx x (by simp [ho, Op.operands])))
      simp [execOp, ho, hv, h5]
    · cases h1
end
end Go.Proofs.Ytenncnbaoejekaa.Ev

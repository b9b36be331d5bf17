/-
  PLAIN: each operation of the evaluator is the model's: a string's iterator.
-/
import Derived.Test.YtenncnbaoejekaaEvN
import Derived.Laws.RangeString
import Derived.Lib.OthersKept
namespace Go.Proofs.Ytenncnbaoejekaa.Ev
open Go.RowKit

section
variable {P : Program} {c : Cx} {st st' : St} {v : V} {e : Env} {o : Oper}
theorem ok_range {t : TypeId} {x : Operand} (ho : o.op = .range t x) (h : (opd e x fun v => (match P.underlying t, v with
    | some .string, .s l => newB st (.it l 0) fun n st => (some (.p n 0, st) : Res)
    | _, _ => none)) = some (v, st')) : StepOk c st st' ∧ OpOk P c st st' v e o := by
  obtain ⟨v0, h1, h2⟩ := opd_inv h
  have mx : x ∈ o.op.operands.toList := by simp [ho, Op.operands]
  split at h1
  · rename_i l hu
    rw [newB_eq] at h1
    obtain ⟨rfl, rfl⟩ := some_inv h1
    refine opOk_newB fun B0 ρ τ w a hx _ _ => ?_
    have hr := h2 ρ a (hx x mx)
    simp only [Rel] at hr
    refine ⟨.pointer (some ⟨w.heap.size, 0, none⟩), w.alloc (.stringIter ⟨⟨l.map UInt8.ofNat⟩⟩ 0), 0, ?_, by rw [show (w.alloc (.stringIter ⟨⟨l.map UInt8.ofNat⟩⟩ 0)).heap = w.heap.push (.stringIter ⟨⟨l.map UInt8.ofNat⟩⟩ 0) from rfl, Array.size_push], fun k hk => Below.heap_alloc w _ k hk, rfl, rfl, rfl, fun ρ' _ hρ => ⟨⟨?_, rfl, hr.2⟩, ?_⟩⟩
    · simp only [execOp, ho, hr.1, Instr.range, Sem.run_bind, run_underlying' hu, Result.andThen_ok, Sem.run_pure, run_newObj]
      rfl
    · show (w.heap.push (.stringIter ⟨⟨l.map UInt8.ofNat⟩⟩ 0))[w.heap.size]? = _
      simp
    · simp only [Rel]; exact ⟨_, hρ, rfl⟩
  · cases h1
theorem ok_next {x : Operand} (ho : o.op = .next x true) (h : (opd e x fun v => (match v with
    | .p n 0 => getB c st n fun b => (match b with
      | .it l pos => (match lget l pos with
        | none => (some (.t [.bool false], st) : Res)
        | some b => (match Nat.blt b 128 with
          | true => fn (pos + 1) fun q => setB c st n (.it l q) fun st => some (.t [.bool true, .int .i64 (.ofNat pos), .int .i32 (.ofNat b)], st)
          | false => none))
      | _ => none)
    | _ => none)) = some (v, st')) : StepOk c st st' ∧ OpOk P c st st' v e o := by
  obtain ⟨v0, h1, h2⟩ := opd_inv h
  have mx : x ∈ o.op.operands.toList := by simp [ho, Op.operands]
  have hat : ∀ (ρ : Rho) (a : Act) (r : R) (n : Nat), (∀ x, x ∈ o.op.operands.toList → TmpRel ρ e a x) → (∀ (ρ : Rho) (a : Act), TmpRel ρ e a x → Rel ρ (.p n 0) (a.eval x)) → ρ n = some r → r.base = 0 → a.eval x = .pointer (some ⟨r.block, 0, none⟩) := fun ρ a r n hx h2 hr hb => by
    have := h2 ρ a (hx x mx)
    simp only [Rel] at this
    obtain ⟨r', e1, e2⟩ := this
    rw [hr] at e1; injection e1 with e1; subst e1
    rw [e2, hb]
  split at h1
  · rename_i n
    obtain ⟨b, g1, g2, g3⟩ := getB_inv h1
    split at g3
    · rename_i l pos
      have hsz : (⟨⟨l.map UInt8.ofNat⟩⟩ : ByteArray).size = l.length := by simp [ByteArray.size]
      rw [lget_eq] at g3
      split at g3
      · rename_i hp
        obtain ⟨rfl, rfl⟩ := some_inv g3
        refine opOk_val fun B0 ρ τ w a hx hag hre => ⟨.tuple #[.bool false], ?_, ?_⟩
        · simp only [Rel]; exact ⟨_, rfl, .cons (rel_bool _) .nil⟩
        · obtain ⟨r, r1, _, _, r4⟩ := hre.blk n _ (hag n _ g1 g2)
          obtain ⟨q1, q2, _⟩ := r4
          simp only [execOp, ho, hat ρ a r n hx h2 r1 q2, Sem.run_bind]
          rw [Lib.run_next_end_at w r.block _ pos o.type q1 (by rw [hsz]; simpa using hp)]
          rfl
      · rename_i b0 hp
        split at g3
        · rename_i hb
          rw [fn_eq] at g3
          obtain ⟨g4, g5⟩ := setB_inv g3
          obtain ⟨rfl, rfl⟩ := some_inv g5
          have hlt : pos < l.length := by
            rcases Nat.lt_or_ge pos l.length with h | h
            · exact h
            · rw [List.getElem?_eq_none h] at hp; cases hp
          have hb' : b0 < 128 := by simpa [Nat.blt_eq] using hb
          refine opOk_setB g1 g2 trivial g4 fun B0 ρ τ w a r hx hag hre hr hblk hlt' => ?_
          obtain ⟨q1, q2, q3⟩ := hblk
          have hby : ((⟨⟨l.map UInt8.ofNat⟩⟩ : ByteArray)[pos]'(by rw [hsz]; exact hlt)).toNat = b0 := by
            have e1 : ((⟨⟨l.map UInt8.ofNat⟩⟩ : ByteArray)[pos]'(by rw [hsz]; exact hlt)) = UInt8.ofNat l[pos] := by
              show (⟨l.map UInt8.ofNat⟩ : Array UInt8)[pos]'_ = _
              simp
            have e2 : l[pos] = b0 := by rw [List.getElem?_eq_getElem hlt] at hp; injection hp
            rw [e1, e2]
            simp; omega
          refine ⟨.tuple #[.bool true, .int .i64 (Int.ofNat pos), .int .i32 (Int.ofNat b0)], w.iterAt r.block ⟨⟨l.map UInt8.ofNat⟩⟩ (pos + 1), ?_, Lib.iterAt_size _ _ _ _, fun k hk => Lib.iterAt_other w r.block k _ _ hk, rfl, rfl, rfl, ⟨Lib.iterAt_heap w r.block _ pos _ q1, q2, q3⟩, ?_⟩
          · simp only [execOp, ho, hat ρ a r n hx h2 hr q2, Sem.run_bind]
            rw [Lib.run_next_ascii_at w r.block _ pos o.type q1 (by rw [hsz]; exact hlt) (by rw [hby]; exact hb'), hby]
            rfl
          · simp only [Rel]; exact ⟨_, rfl, .cons (rel_bool _) (.cons (rel_int _ _) (.cons (rel_int _ _) .nil))⟩
        · cases g3
    · cases g3
  · cases h1
end
end Go.Proofs.Ytenncnbaoejekaa.Ev

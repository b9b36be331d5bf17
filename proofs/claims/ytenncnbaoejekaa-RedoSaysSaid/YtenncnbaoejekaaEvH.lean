/-
  PLAIN: each operation of the evaluator is the model's: slices of slices and texts, fields, elements, functions.
-/
import Derived.Test.YtenncnbaoejekaaEvG
import Derived.Lib.Strings
namespace Go.Proofs.Ytenncnbaoejekaa.Ev
open Go.RowKit

theorem ba_eq {x : ByteArray} {l : List UInt8} (h : x.data.toList = l) : x = ⟨⟨l⟩⟩ := by
  cases x with
  | mk d => cases d with
    | mk m => simp at h; subst h; rfl
theorem nbeq (a b : Nat) : Nat.beq a b = decide (a = b) := by rw [Bool.eq_iff_iff]; simp [Nat.beq_eq]
section
variable {P : Program} {c : Cx} {st st' : St} {v : V} {e : Env} {o : Oper}
/-- a bound's value -/
def Bd (d n : Nat) (x : Option Value) : Prop := (x = none ∧ n = d) ∨ ∃ i, x = some (.int i (Int.ofNat n))
theorem bnd_bd {β : Type} {q : β} {d : Nat} {x : Option Operand} {k : Nat → Option β} (h : bnd e d x k = some q) : ∃ n, k n = some q ∧ ∀ (ρ : Rho) (a : Act), (∀ y, x = some y → TmpRel ρ e a y) → Bd d n (x.map a.eval) := by
  obtain ⟨n, h1, h2⟩ := bnd_inv h
  refine ⟨n, h1, fun ρ a ha => ?_⟩
  rcases h2 with ⟨rfl, rfl⟩ | ⟨y, rfl, i, h3⟩
  · exact .inl ⟨rfl, rfl⟩
  · exact .inr ⟨i, by rw [Option.map_some, h3 ρ a (ha y rfl)]⟩
theorem sliceBounds_ok {b : Bool} {len cap l h : Nat} {lo hi : Option Value} (h1 : Bd len h hi) (h2 : Bd 0 l lo) (h3 : l ≤ h) (h4 : h ≤ cap) (w : World) :
    (Instr.sliceBounds b len cap lo hi none).run P w = .ok (l, h, cap) w := by
  rcases h1 with ⟨rfl, rfl⟩ | ⟨i, rfl⟩ <;> rcases h2 with ⟨rfl, rfl⟩ | ⟨j, rfl⟩ <;>
    simp [Instr.sliceBounds, Instr.sliceBound, asIntOf, h3, h4]
theorem slice_ops {t : TypeId} {x : Operand} {lo hi : Option Operand} : (x ∈ (Op.slice t x lo hi none).operands.toList) ∧ (∀ y, lo = some y → y ∈ (Op.slice t x lo hi none).operands.toList) ∧ (∀ y, hi = some y → y ∈ (Op.slice t x lo hi none).operands.toList) := by
  refine ⟨by simp [Op.operands], fun y h => ?_, fun y h => ?_⟩
  · subst h; simp [Op.operands]
  · subst h; simp [Op.operands]
theorem ok_slice0 {t : TypeId} {x : Operand} {lo hi : Option Operand} {v0 : V} (ho : o.op = .slice t x lo hi none) (h2 : ∀ (ρ : Rho) (a : Act), TmpRel ρ e a x → Rel ρ v0 (a.eval x)) (h1 : sliceE P e t v0 lo hi (fun a => (some (a, st) : Res)) = some (v, st')) :
    StepOk c st st' ∧ OpOk P c st st' v e o := by
  obtain ⟨m1, m2, m3⟩ := slice_ops (t := t) (x := x) (lo := lo) (hi := hi)
  unfold sliceE at h1
  split at h1
  · rename_i s hu
    rw [fn_eq] at h1
    obtain ⟨hh, h3, h4⟩ := bnd_bd h1
    obtain ⟨l, h5, h6⟩ := bnd_bd h3
    split at h5
    · rename_i g1 g2
      rw [fl_eq] at h5
      obtain ⟨rfl, rfl⟩ := some_inv h5
      refine opOk_val fun B0 ρ τ w a hx _ _ => ?_
      rw [ho] at hx
      have hv := h2 ρ a (hx x m1)
      simp only [Rel] at hv
      obtain ⟨hv, hb⟩ := hv
      have k1 := h4 ρ a fun y hy => hx y (m3 y hy)
      have k2 := h6 ρ a fun y hy => hx y (m2 y hy)
      have hlh : l ≤ hh := by simpa [Nat.ble_eq] using g1
      have hhn : hh ≤ s.length := by simpa [Nat.ble_eq] using g2
      have hsz : (⟨⟨s.map UInt8.ofNat⟩⟩ : ByteArray).size = s.length := by simp [ByteArray.size]
      refine ⟨.string ((⟨⟨s.map UInt8.ofNat⟩⟩ : ByteArray).extract l hh), ?_, ?_⟩
      · simp only [Rel]
        refine ⟨?_, fun b hb' => hb b (List.mem_of_mem_take (List.mem_of_mem_drop hb'))⟩
        congr 1
        apply ba_eq
        rw [Lib.extract_data, List.map_drop, List.map_take, List.drop_take]
      · have := sliceBounds_ok (P := P) (b := false) k1 k2 hlh hhn w
        simp only [execOp, ho, Sem.run_bind, Instr.sliceAt, run_underlying' hu, Result.andThen_ok, hv, Instr.slice, hsz, Option.map_none]
        simp [this]
    · cases h5
  · rename_i el hu
    obtain ⟨ti, h7, h8⟩ := szOf_inv h1
    obtain ⟨hh, h3, h4⟩ := bnd_bd h8
    obtain ⟨l, h5, h6⟩ := bnd_bd h3
    split at h5
    · obtain ⟨rfl, rfl⟩ := some_inv h5
      refine opOk_val fun B0 ρ τ w a hx _ _ => ?_
      rw [ho] at hx
      have hv := h2 ρ a (hx x m1)
      refine ⟨_, hv, ?_⟩
      simp only [Rel] at hv
      obtain ⟨hv, hb⟩ := hv
      have k1 := h4 ρ a fun y hy => hx y (m3 y hy)
      have k2 := h6 ρ a fun y hy => hx y (m2 y hy)
      have := sliceBounds_ok (P := P) (b := true) (cap := 0) k1 k2 (Nat.le_refl _) (Nat.le_refl _) w
      simp only [execOp, ho, Sem.run_bind, Instr.sliceAt, run_underlying' hu, Result.andThen_ok, hv, Instr.slice, Option.map_none, this, run_sizeOf' h7]
      simp
    · cases h5
  · rename_i el n o' len cap hu
    obtain ⟨ti, h7, h8⟩ := szOf_inv h1
    obtain ⟨hh, h3, h4⟩ := bnd_bd h8
    obtain ⟨l, h5, h6⟩ := bnd_bd h3
    split at h5
    · rename_i g1 g2
      simp only [fn_eq] at h5
      obtain ⟨rfl, rfl⟩ := some_inv h5
      refine opOk_val fun B0 ρ τ w a hx _ _ => ?_
      rw [ho] at hx
      have hv := h2 ρ a (hx x m1)
      simp only [Rel] at hv
      obtain ⟨r, hr, hv⟩ := hv
      have k1 := h4 ρ a fun y hy => hx y (m3 y hy)
      have k2 := h6 ρ a fun y hy => hx y (m2 y hy)
      have hlh : l ≤ hh := by simpa [Nat.ble_eq] using g1
      have hhn : hh ≤ cap := by simpa [Nat.ble_eq] using g2
      have := sliceBounds_ok (P := P) (b := true) k1 k2 hlh hhn w
      refine ⟨.slice (if cap = l then some ⟨r.block, r.base + o', none⟩ else some ⟨r.block, r.base + o' + l * ti.size, none⟩) (hh - l) (cap - l), ?_, ?_⟩
      · simp only [Rel]
        refine ⟨r, hr, ?_⟩
        by_cases hc : cap = l
        · have : Nat.beq cap l = true := by simpa [Nat.beq_eq] using hc
          rw [if_pos hc, this]
        · have : Nat.beq cap l = false := by rw [Bool.eq_false_iff]; simpa [Nat.beq_eq] using hc
          rw [if_neg hc, this]; simp [Nat.add_assoc]
      · simp only [execOp, ho, Sem.run_bind, Instr.sliceAt, run_underlying' hu, Result.andThen_ok, hv, Instr.slice, Option.map_none, this, run_sizeOf' h7]
        simp [add_off]
    · cases h5
  · rename_i el n o' len z' hu
    obtain ⟨ti, h7, h8⟩ := szOf_inv h1
    obtain ⟨hh, h3, h4⟩ := bnd_bd h8
    obtain ⟨l, h5, h6⟩ := bnd_bd h3
    split at h5
    · rename_i g1 g2 g3
      have hlh : l ≤ hh := by simpa [Nat.ble_eq] using g1
      have hhn : hh ≤ len := by simpa [Nat.ble_eq] using g2
      have hz : ti.size = z' := by simpa [Nat.beq_eq] using g3
      have key : ∀ (ρ : Rho) (a : Act) (w : World), (∀ x, x ∈ o.op.operands.toList → TmpRel ρ e a x) → ∃ r, ρ n = some r ∧ 0 < z' ∧ len ≤ (r.size - o') / z' ∧
          (execOp a.eval o).run P w = .ok (.value (.slice (some (if (r.size - o') / z' = l then ⟨r.block, r.base + o', none⟩ else ⟨r.block, r.base + o' + l * z', none⟩)) (hh - l) ((r.size - o') / z' - l))) w := fun ρ a w hx => by
        rw [ho] at hx
        have hv := h2 ρ a (hx x m1)
        simp only [Rel] at hv
        obtain ⟨r, hr, hz0, hle, hv⟩ := hv
        have k1 := h4 ρ a fun y hy => hx y (m3 y hy)
        have k2 := h6 ρ a fun y hy => hx y (m2 y hy)
        have := sliceBounds_ok (P := P) (b := true) k1 k2 hlh (Nat.le_trans hhn hle) w
        refine ⟨r, hr, hz0, hle, ?_⟩
        simp only [execOp, ho, Sem.run_bind, Instr.sliceAt, run_underlying' hu, Result.andThen_ok, hv, Instr.slice, Option.map_none, this, run_sizeOf' h7, hz]
        simp only [Option.map_some, add_off, Sem.run_pure, Result.andThen_ok]
        congr 3
        split <;> rfl
      split at h5
      · rename_i g4
        obtain ⟨rfl, rfl⟩ := some_inv h5
        refine opOk_val fun B0 ρ τ w a hx _ _ => ?_
        obtain ⟨r, hr, hz0, hle, hrun⟩ := key ρ a w hx
        refine ⟨_, ?_, hrun⟩
        have : l = hh ∧ ¬ l = 0 := by simpa [nbeq] using g4
        simp only [Rel]
        exact ⟨_, _, by rw [show hh - l = 0 by omega]⟩
      · rename_i g4
        simp only [fn_eq] at h5
        obtain ⟨rfl, rfl⟩ := some_inv h5
        refine opOk_val fun B0 ρ τ w a hx _ _ => ?_
        obtain ⟨r, hr, hz0, hle, hrun⟩ := key ρ a w hx
        refine ⟨_, ?_, hrun⟩
        simp only [Rel]
        rw [hz]
        have hdiv : (r.size - (o' + l * z')) / z' = (r.size - o') / z' - l := by
          rw [Nat.sub_add_eq, Nat.mul_comm, Nat.sub_mul_div]
        refine ⟨r, hr, hz0, by rw [hdiv]; omega, ?_⟩
        rw [hdiv]
        by_cases hl0 : l = 0
        · subst hl0; simp
        · have hne : l ≠ hh := fun e => by
            have : l = hh → l = 0 := by simpa [nbeq] using g4
            exact hl0 (this e)
          rw [if_neg (by omega)]
          simp [Nat.add_assoc]
    · cases h5
  · rename_i len el n o' hu
    obtain ⟨ti, h7, h8⟩ := szOf_inv h1
    obtain ⟨hh, h3, h4⟩ := bnd_bd h8
    obtain ⟨l, h5, h6⟩ := bnd_bd h3
    split at h5
    · rename_i g1 g2
      simp only [fn_eq] at h5
      obtain ⟨rfl, rfl⟩ := some_inv h5
      refine opOk_val fun B0 ρ τ w a hx _ _ => ?_
      rw [ho] at hx
      have hv := h2 ρ a (hx x m1)
      simp only [Rel] at hv
      obtain ⟨r, hr, hv⟩ := hv
      have k1 := h4 ρ a fun y hy => hx y (m3 y hy)
      have k2 := h6 ρ a fun y hy => hx y (m2 y hy)
      have hlh : l ≤ hh := by simpa [Nat.ble_eq] using g1
      have hhn : hh ≤ len := by simpa [Nat.ble_eq] using g2
      have := sliceBounds_ok (P := P) (b := false) k1 k2 hlh hhn w
      refine ⟨.slice (some (if len = l then ⟨r.block, r.base + o', none⟩ else ⟨r.block, r.base + o' + l * ti.size, none⟩)) (hh - l) (len - l), ?_, ?_⟩
      · simp only [Rel]
        refine ⟨r, hr, ?_⟩
        by_cases hc : len = l
        · have : Nat.beq len l = true := by simpa [Nat.beq_eq] using hc
          rw [if_pos hc, this]
        · have : Nat.beq len l = false := by rw [Bool.eq_false_iff]; simpa [Nat.beq_eq] using hc
          rw [if_neg hc, this]; simp [Nat.add_assoc]
      · simp only [execOp, ho, Sem.run_bind, Instr.sliceAt, run_underlying' hu, Result.andThen_ok, hv, Instr.sureAddr, Sem.run_pure, Option.map_none, this, run_sizeOf' h7]
        simp [add_off]
    · cases h5
  · cases h1
end
end Go.Proofs.Ytenncnbaoejekaa.Ev

/-
  PLAIN: each operation of the evaluator is the model's: len, append, copy, conversions.
-/
import Derived.Test.YtenncnbaoejekaaEvJ
namespace Go.Proofs.Ytenncnbaoejekaa.Ev
open Go.RowKit

section
variable {P : Program} {c : Cx} {st st' : St} {v : V} {e : Env} {o : Oper}
theorem lenA_inv {β : Type} {q : β} {x : V} {k : Nat → Option β} (h : lenA x k = some q) : ∃ n, k n = some q ∧ ∀ (ρ : Rho) (y : Value), Rel ρ x y → ∀ w, (Builtin.lenOf y).run P w = .ok n w := by
  unfold lenA at h
  split at h
  · exact ⟨0, h, fun ρ y hy w => by simp only [Rel] at hy; obtain ⟨rfl, _⟩ := hy; simp [Builtin.lenOf]⟩
  · exact ⟨_, h, fun ρ y hy w => by simp only [Rel] at hy; obtain ⟨r, _, rfl⟩ := hy; simp [Builtin.lenOf]⟩
  · exact ⟨_, h, fun ρ y hy w => by simp only [Rel] at hy; obtain ⟨r, _, _, _, rfl⟩ := hy; simp [Builtin.lenOf]⟩
  · exact ⟨0, h, fun ρ y hy w => by simp only [Rel] at hy; obtain ⟨a, cc, rfl⟩ := hy; simp [Builtin.lenOf]⟩
  · rw [fn_eq] at h
    exact ⟨_, h, fun ρ y hy w => by simp only [Rel] at hy; obtain ⟨rfl, _⟩ := hy; simp [Builtin.lenOf, ByteArray.size]⟩
  · cases h
/-- cells that are read as a whole -/
theorem firsts_inv {β : Type} {q : β} {z n : Nat} {x : V} {k : List V → Option β} (h : firsts c st z n x k = some q) :
    ∃ l, k l = some q ∧ l.length = n * z ∧ ∀ (B0 : Nat) (ρ : Rho) (τ : Mem) (w : World) (y : Value), Agree c st τ → Real ρ B0 τ w → Rel ρ x y →
      ∃ xs : List Value, RelL ρ l xs ∧ l.all V.one = true ∧ ∀ w' : World, w'.heap = w.heap → (Builtin.firstCells z n y).run P w' = .ok xs.toArray w' := by
  unfold firsts at h
  split at h
  · split at h
    · exact ⟨[], h, by simp, fun B0 ρ τ w y _ _ hy => ⟨[], .nil, rfl, fun w' _ => by simp only [Rel] at hy; obtain ⟨rfl, _⟩ := hy; simp [Builtin.firstCells]⟩⟩
    · cases h
  · split at h
    · exact ⟨[], h, by simp, fun B0 ρ τ w y _ _ hy => ⟨[], .nil, rfl, fun w' _ => by simp only [Rel] at hy; obtain ⟨a, cc, rfl⟩ := hy; simp [Builtin.firstCells, loadCells, loadCellsFrom]⟩⟩
    · cases h
  · rename_i m i l cap
    split at h
    · obtain ⟨ty, sz, t, h1, h2, h3⟩ := getC_inv h
      obtain ⟨ls, h4, h5, h6⟩ := getsB_inv h3
      refine ⟨ls, h4, h5, fun B0 ρ τ w y hag hre hy => ?_⟩
      simp only [Rel] at hy
      obtain ⟨r, hr, rfl⟩ := hy
      obtain ⟨k1, _, xs, k2, k3⟩ := hre.read (hag m _ h1 h2) hr h6
      refine ⟨xs, k2, k1, fun w' hw' => ?_⟩
      exact run_firstCells_some w' z n ⟨r.block, r.base + i, none⟩ l cap xs (by rw [k2.length, h5]) (fun j u hu => by
        rw [add_off]
        have := k3 j u hu
        unfold World.cell? at this ⊢
        rw [hw']; exact this)
    · cases h
  · rename_i m i l z'
    split at h
    · obtain ⟨ty, sz, t, h1, h2, h3⟩ := getC_inv h
      obtain ⟨ls, h4, h5, h6⟩ := getsB_inv h3
      refine ⟨ls, h4, h5, fun B0 ρ τ w y hag hre hy => ?_⟩
      simp only [Rel] at hy
      obtain ⟨r, hr, _, _, rfl⟩ := hy
      obtain ⟨k1, _, xs, k2, k3⟩ := hre.read (hag m _ h1 h2) hr h6
      refine ⟨xs, k2, k1, fun w' hw' => ?_⟩
      exact run_firstCells_some w' z n ⟨r.block, r.base + i, none⟩ l _ xs (by rw [k2.length, h5]) (fun j u hu => by
        rw [add_off]
        have := k3 j u hu
        unfold World.cell? at this ⊢
        rw [hw']; exact this)
    · cases h
  · rename_i l
    split at h
    · rename_i hz hn
      have hz' : z = 1 := by simpa [nbeq] using hz
      have hn' : n ≤ l.length := by simpa [Nat.ble_eq] using hn
      subst hz'
      refine ⟨_, h, by simp; omega, fun B0 ρ τ w y hag hre hy => ?_⟩
      simp only [Rel] at hy
      obtain ⟨rfl, hb⟩ := hy
      refine ⟨(l.take n).map fun x => .int .u8 (Int.ofNat x), ?_, ?_, fun w' _ => ?_⟩
      · refine RelL.of_get (by simp) fun i a ha => ?_
        simp only [List.getElem?_map, Option.map_eq_some_iff] at ha ⊢
        obtain ⟨x, hx, rfl⟩ := ha
        exact ⟨_, ⟨x, hx, rfl⟩, rel_int _ _⟩
      · rw [List.all_eq_true]
        intro a ha
        obtain ⟨x, _, rfl⟩ := List.mem_map.1 ha
        rfl
      · simp only [Builtin.firstCells, Sem.run_pure]
        congr 1
        apply Array.ext'
        rw [Array.toList_map, Lib.extract_data]
        simp only [List.drop_zero, Nat.sub_zero, List.map_map, ← List.map_take]
        apply List.map_congr_left
        intro x hx
        have := hb x (List.mem_of_mem_take hx)
        simp [Nat.mod_eq_of_lt this]
    · cases h
  · cases h
theorem src_of {z n : Nat} {tx : TypeId} {l : List V} {ρ : Rho} {w : World} {y : Value} {xs : List Value} (hk : (∃ e', P.underlying tx = some (.slice e')) ∨ P.underlying tx = some .string)
    (hl : ∀ w, (Builtin.lenOf y).run P w = .ok n w) (hlen : l.length = n * z) (hr : RelL ρ l xs) (ho : l.all V.one = true) (hc : ∀ w' : World, w'.heap = w.heap → (Builtin.firstCells z n y).run P w' = .ok xs.toArray w') : Src P z tx y n xs w :=
  ⟨hk, hl, hc w rfl, hc w.drew rfl, by rw [hr.length, hlen], hr.oneCell ho⟩
/-- a call of a builtin -/
theorem run_builtin {b : Builtin} {cl : Call} (ho : o.op = .call cl) (hb : cl.callee = .builtin b) (a : Act) (w : World) :
    (execOp a.eval o).run P w = (builtin b cl.argTypes o.type (cl.args.map fun | .const _ => true | _ => false) (cl.args.map a.eval)).run P w := by
  simp only [execOp, ho, resolve, hb, Sem.run_bind, Sem.run_pure, Result.andThen_ok, invoke]
  rfl
theorem call_ops {cl : Call} {b : Builtin} (hb : cl.callee = .builtin b) : ∀ x, x ∈ cl.args.toList → x ∈ (Op.call cl).operands.toList := fun x hx => by
  simp only [Op.operands, Call.operands, hb]; simpa using hx
theorem arr1 {α : Type} {a : Array α} {x : α} (h : a.toList = [x]) : a = #[x] := by cases a; simp_all
theorem arr2 {α : Type} {a : Array α} {x y : α} (h : a.toList = [x, y]) : a = #[x, y] := by cases a; simp_all
theorem relL1 {ρ : Rho} {x : V} {l : List Value} (h : RelL ρ [x] l) : ∃ y, l = [y] ∧ Rel ρ x y := by
  simp only [RelL] at h; obtain ⟨y, ys, rfl, h1, rfl⟩ := h; exact ⟨y, rfl, h1⟩
theorem relL2 {ρ : Rho} {x x' : V} {l : List Value} (h : RelL ρ [x, x'] l) : ∃ y y', l = [y, y'] ∧ Rel ρ x y ∧ Rel ρ x' y' := by
  simp only [RelL] at h; obtain ⟨y, ys, rfl, h1, y', ys', rfl, h2, rfl⟩ := h; exact ⟨y, y', rfl, h1, h2⟩
theorem ok_len {cl : Call} {t : TypeId} {x : V} (ho : o.op = .call cl) (hb : cl.callee = .builtin .len) (ht : cl.argTypes.toList = [t])
    (h : (match P.underlying t with
    | some (.array n _) => (some (.int .i64 (.ofNat n), st) : Res)
    | some (.pointer a) => (match P.underlying a with | some (.array n _) => some (.int .i64 (.ofNat n), st) | _ => none)
    | some .string => (match x with | .s l => fn l.length fun n => some (.int .i64 (.ofNat n), st) | _ => none)
    | some (.slice _) => (match x with | .s _ => none | _ => lenA x fun n => some (.int .i64 (.ofNat n), st))
    | _ => none) = some (v, st'))
    (hx : ∀ (ρ : Rho) (a : Act), (∀ y, y ∈ cl.args.toList → TmpRel ρ e a y) → RelL ρ [x] (cl.args.toList.map a.eval)) : StepOk c st st' ∧ OpOk P c st st' v e o := by
  have step : ∀ n : Nat, (∀ (ρ : Rho) (a : Act) (w : World) (y : Value), Rel ρ x y → (Builtin.len_ #[t] o.type #[y]).run P w = .ok (.int .i64 (Int.ofNat n)) w) → StepOk c st st ∧ OpOk P c st st (.int .i64 (.ofNat n)) e o := fun n hn =>
    opOk_val fun B0 ρ τ w a hxx _ _ => ⟨_, rel_int _ _, by
      rw [ho] at hxx
      obtain ⟨y, hy, hr⟩ := relL1 (hx ρ a fun y hy => hxx y (call_ops hb y hy))
      have e1 : cl.args.map a.eval = #[y] := arr1 (by rw [Array.toList_map]; exact hy)
      rw [run_builtin ho hb, e1, arr1 ht]
      simp [builtin, hn ρ a w y hr]⟩
  split at h
  · rename_i n _ hu
    obtain ⟨rfl, rfl⟩ := some_inv h
    exact step n fun ρ a w y _ => by simp [Builtin.len_, run_underlying' hu, goInt]
  · rename_i a0 hu
    split at h
    · rename_i n _ hu2
      obtain ⟨rfl, rfl⟩ := some_inv h
      exact step n fun ρ a w y _ => by simp [Builtin.len_, run_underlying' hu, run_underlying' hu2, goInt]
    · cases h
  · rename_i hu
    split at h
    · rename_i l
      rw [fn_eq] at h
      obtain ⟨rfl, rfl⟩ := some_inv h
      exact step _ fun ρ a w y hy => by
        simp only [Rel] at hy; obtain ⟨rfl, _⟩ := hy
        have hs : (⟨⟨l.map UInt8.ofNat⟩⟩ : ByteArray).size = l.length := by simp [ByteArray.size]
        simp [Builtin.len_, run_underlying' hu, goInt, hs]
    · cases h
  · rename_i el hu
    cases x with
    | s l => cases h
    | c u =>
      simp only [lenA] at h
      split at h
      · rename_i hc
        injection hc with hc
        subst hc
        obtain ⟨rfl, rfl⟩ := some_inv h
        exact step 0 fun ρ a w y hy => by simp only [Rel] at hy; obtain ⟨rfl, _⟩ := hy; simp [Builtin.len_, run_underlying' hu, goInt]
      all_goals first | (cases h; done) | (rename_i hc; cases hc; done)
    | sl n i l cp =>
      simp only [lenA] at h
      obtain ⟨rfl, rfl⟩ := some_inv h
      exact step _ fun ρ a w y hy => by simp only [Rel] at hy; obtain ⟨r, _, rfl⟩ := hy; simp [Builtin.len_, run_underlying' hu, goInt]
    | sg n i l z =>
      simp only [lenA] at h
      obtain ⟨rfl, rfl⟩ := some_inv h
      exact step _ fun ρ a w y hy => by simp only [Rel] at hy; obtain ⟨r, _, _, _, rfl⟩ := hy; simp [Builtin.len_, run_underlying' hu, goInt]
    | e =>
      simp only [lenA] at h
      obtain ⟨rfl, rfl⟩ := some_inv h
      exact step 0 fun ρ a w y hy => by simp only [Rel] at hy; obtain ⟨b, cc, rfl⟩ := hy; simp [Builtin.len_, run_underlying' hu, goInt]
    | p n i => cases h
    | m n => cases h
    | f a b d => cases h
    | g l => cases h
    | t l => cases h
  · cases h
theorem ok_pick1 {cl : Call} {b : Builtin} {args : List V} (ho : o.op = .call cl) (hb : cl.callee = .builtin b)
    (hx : ∀ (ρ : Rho) (a : Act), (∀ y, y ∈ cl.args.toList → TmpRel ρ e a y) → RelL ρ args (cl.args.toList.map a.eval))
    (h : pick1 P b cl.argTypes.toList o.type args st = some (v, st')) : StepOk c st st' ∧ OpOk P c st st' v e o := by
  unfold pick1 at h
  split at h
  · cases h
  · rename_i vs hvs
    have harg : ∀ (ρ : Rho) (a : Act), (∀ x, x ∈ o.op.operands.toList → TmpRel ρ e a x) → cl.args.map a.eval = ⟨vs⟩ := fun ρ a hxx => by
      rw [ho] at hxx
      have := valsA_rel hvs (hx ρ a fun y hy => hxx y (call_ops hb y hy))
      rw [← this, ← Array.toList_map]
    split at h
    · obtain ⟨u, z, h3, h4, h5⟩ := pu_inv h
      obtain ⟨rfl, rfl⟩ := ret_inv h3
      refine opOk_val fun B0 ρ τ w a hxx _ _ => ⟨z, h4 ρ, ?_⟩
      have h5' := h5 w
      rw [run_builtin ho hb, harg ρ a hxx]
      simp only [Array.toArray_toList] at h5'
      simp only [builtin, Sem.run_bind]
      rw [h5']; rfl
    · obtain ⟨u, z, h3, h4, h5⟩ := pu_inv h
      obtain ⟨rfl, rfl⟩ := ret_inv h3
      refine opOk_val fun B0 ρ τ w a hxx _ _ => ⟨z, h4 ρ, ?_⟩
      have h5' := h5 w
      rw [run_builtin ho hb, harg ρ a hxx]
      simp only [Array.toArray_toList] at h5'
      simp only [builtin, Sem.run_bind]
      rw [h5']; rfl
    · cases h
end
end Go.Proofs.Ytenncnbaoejekaa.Ev

/-
  PLAIN: each operation of the evaluator is the model's: values, cells.
-/
import Derived.Test.YtenncnbaoejekaaEvE
namespace Go.Proofs.Ytenncnbaoejekaa.Ev
open Go.RowKit

section
variable {P : Program} {c : Cx} {st st' : St} {v : V} {e : Env} {o : Oper}

theorem ret_inv {v0 : V} (h : ret st v0 = some (v, st')) : v0 = v ∧ st = st' := by
  unfold ret at h; injection h with h; injection h with h1 h2; exact ⟨h1, h2⟩
theorem some_inv {v0 : V} {s0 : St} (h : (some (v0, s0) : Res) = some (v, st')) : v0 = v ∧ s0 = st' := by
  injection h with h; injection h with h1 h2; exact ⟨h1, h2⟩
theorem run_underlying' {t : TypeId} {d : TypeDesc} (h : P.underlying t = some d) (w : World) : (underlying t).run P w = .ok d w := by
  simp [underlying, h]
theorem run_typeInfo' {t : TypeId} {i : TypeInfo} (h : P.info? t = some i) (w : World) : (typeInfo t).run P w = .ok i w := by
  simp [typeInfo, h]
theorem run_sizeOf' {t : TypeId} {i : TypeInfo} (h : P.info? t = some i) (w : World) : (sizeOf t).run P w = .ok i.size w := by
  simp [sizeOf, run_typeInfo' h]
theorem run_zeroValue' {t : TypeId} {i : TypeInfo} {z : Value} (h : P.info? t = some i) (hz : i.zero = some z) (w : World) : (zeroValue t).run P w = .ok z w := by
  simp [zeroValue, run_typeInfo' h, hz]
theorem agg_inv {t : TypeId} {b : Bool} (h : agg? P t = some b) (w : World) : (isAgg t).run P w = .ok b w ∧ ∃ d, P.underlying t = some d ∧ d.isRow = b := by
  unfold agg? at h
  split at h
  · rename_i hu; injection h with h; subst h; simp [isAgg, run_underlying' hu, hu, TypeDesc.isRow]
  · rename_i hu; injection h with h; subst h; simp [isAgg, run_underlying' hu, hu, TypeDesc.isRow]
  · rename_i d h1 h2 hu
    injection h with h; subst h
    constructor
    · simp only [isAgg, Sem.run_bind, run_underlying' hu, Result.andThen_ok]
      cases d <;> first | rfl | (exact (h1 _ rfl).elim) | (exact (h2 _ _ rfl).elim)
    · refine ⟨d, hu, ?_⟩
      cases d <;> first | rfl | (exact (h1 _ rfl).elim) | (exact (h2 _ _ rfl).elim)
  · cases h

theorem ok_move {x : Operand} (ho : o.op = .move x ∨ o.op = .assign x) (h : opd e x (ret st) = some (v, st')) : StepOk c st st' ∧ OpOk P c st st' v e o := by
  obtain ⟨v0, h1, h2⟩ := opd_inv h
  obtain ⟨rfl, rfl⟩ := ret_inv h1
  refine opOk_val fun B0 ρ τ w a hx _ _ => ⟨_, h2 ρ a (hx x (by rcases ho with ho | ho <;> simp [ho, Op.operands])), ?_⟩
  rcases ho with ho | ho <;> simp [execOp, ho]
theorem rel_true {ρ : Rho} {b : Bool} {x : Value} (h : Rel ρ (.bool b) x) : x = .bool b := by
  simp only [Rel] at h; exact h.1
theorem rel_num {ρ : Rho} {k : IntKind} {n : Int} {x : Value} (h : Rel ρ (.int k n) x) : x = .int k n := by
  simp only [Rel] at h; exact h.1
theorem ok_pick {x y z : Operand} (ho : o.op = .pick x y z) (h : (opd e x fun x => (match x with
    | .c (.bool true) => opd e y (ret st)
    | .c (.bool false) => opd e z (ret st)
    | _ => none)) = some (v, st')) : StepOk c st st' ∧ OpOk P c st st' v e o := by
  obtain ⟨v0, h1, h2⟩ := opd_inv h
  split at h1
  · obtain ⟨v1, h3, h4⟩ := opd_inv h1
    obtain ⟨rfl, rfl⟩ := ret_inv h3
    refine opOk_val fun B0 ρ τ w a hx _ _ => ⟨_, h4 ρ a (hx y (by simp [ho, Op.operands])), ?_⟩
    have := rel_true (h2 ρ a (hx x (by simp [ho, Op.operands])))
    simp [execOp, ho, this, asBool]
  · obtain ⟨v1, h3, h4⟩ := opd_inv h1
    obtain ⟨rfl, rfl⟩ := ret_inv h3
    refine opOk_val fun B0 ρ τ w a hx _ _ => ⟨_, h4 ρ a (hx z (by simp [ho, Op.operands])), ?_⟩
    have := rel_true (h2 ρ a (hx x (by simp [ho, Op.operands])))
    simp [execOp, ho, this, asBool]
  · cases h1
theorem ok_nilCheck {x : Operand} (ho : o.op = .nilCheck x) (h : (opd e x fun v => (match v with
    | .p n i => (some (.p n i, st) : Res)
    | _ => none)) = some (v, st')) : StepOk c st st' ∧ OpOk P c st st' v e o := by
  obtain ⟨v0, h1, h2⟩ := opd_inv h
  split at h1
  · rename_i n i
    obtain ⟨rfl, rfl⟩ := some_inv h1
    refine opOk_val fun B0 ρ τ w a hx _ _ => ?_
    have hr := h2 ρ a (hx x (by simp [ho, Op.operands]))
    have hr' := hr
    simp only [Rel] at hr
    obtain ⟨r, _, hv⟩ := hr
    refine ⟨_, hr', ?_⟩
    rw [hv]
    simp [execOp, ho, hv]
  · cases h1
theorem ok_extract {x : Operand} {ix : Nat} (ho : o.op = .extract x ix) (h : (opd e x fun v => (match v with
    | .t l => (match lget l ix with | some w => (some (w, st) : Res) | none => none)
    | _ => none)) = some (v, st')) : StepOk c st st' ∧ OpOk P c st st' v e o := by
  obtain ⟨v0, h1, h2⟩ := opd_inv h
  split at h1
  · rename_i l
    split at h1
    · rename_i y hy
      obtain ⟨rfl, rfl⟩ := some_inv h1
      refine opOk_val fun B0 ρ τ w a hx _ _ => ?_
      have hr := h2 ρ a (hx x (by simp [ho, Op.operands]))
      simp only [Rel] at hr
      obtain ⟨l', hv, hl⟩ := hr
      rw [lget_eq] at hy
      obtain ⟨u, hu1, hu2⟩ := hl.get hy
      refine ⟨u, hu2, ?_⟩
      simp [execOp, ho, hv, Instr.extract, hu1]
    · cases h1
  · cases h1
theorem ok_alloc {t : TypeId} (ho : o.op = .alloc t) (h : (zero P t fun cs => newC st t cs fun n st => (some (.p n 0, st) : Res)) = some (v, st')) :
    StepOk c st st' ∧ OpOk P c st st' v e o := by
  obtain ⟨i, z, cs, h1, h2, h3, h4, h5⟩ := zero_inv h
  rw [newC_eq] at h3
  obtain ⟨rfl, rfl⟩ := some_inv h3
  refine opOk_new fun B0 ρ τ w a hx _ _ => ⟨.pointer (some ⟨w.heap.size, 0, none⟩), { w with heap := w.heap.push (.cells z.cells t) }, z.cells.toList, z.cells, (0, 0), h5 ρ, h4, ?_, rfl, rfl, rfl, rfl, fun i u hu => by simpa using hu, by simp, .inl rfl, fun ρ' hρ => ?_⟩
  · simp [execOp, ho, Instr.alloc, run_zeroValue' h1 h2, newVar, newRow]
  · simp only [Rel]; exact ⟨_, hρ, rfl⟩
theorem ok_box {t : TypeId} {x : Operand} (ho : o.op = .box t x) (h : (opd e x fun v => cellsOf v fun cs => newC st t cs fun n st => (some (.p n 0, st) : Res)) = some (v, st')) :
    StepOk c st st' ∧ OpOk P c st st' v e o := by
  obtain ⟨v0, h1, h2⟩ := opd_inv h
  obtain ⟨cs, h3, h4⟩ := cellsOf_inv h1
  rw [newC_eq] at h3
  obtain ⟨rfl, rfl⟩ := some_inv h3
  refine opOk_new fun B0 ρ τ w a hx _ _ => ⟨.pointer (some ⟨w.heap.size, 0, none⟩), { w with heap := w.heap.push (.cells (a.eval x).cells t) }, (a.eval x).cells.toList, (a.eval x).cells, (0, 0),
    (h4 ρ _ (h2 ρ a (hx x (by simp [ho, Op.operands])))).1, (h4 ρ _ (h2 ρ a (hx x (by simp [ho, Op.operands])))).2, ?_, rfl, rfl, rfl, rfl, fun i u hu => by simpa using hu, by simp, .inl rfl, fun ρ' hρ => ?_⟩
  · simp [execOp, ho, Instr.box, newVar, newRow]
  · simp only [Rel]; exact ⟨_, hρ, rfl⟩
/-- a variable that is read -/
theorem load_ok {t : TypeId} {n i : Nat} {β : Type} {q : β} {k : V → Option β} (h : loadE P c st t n i k = some q) :
    ∃ x, k x = some q ∧ ∀ (B0 : Nat) (ρ : Rho) (τ : Mem) (w : World) (r : R), Agree c st τ → Real ρ B0 τ w → ρ n = some r → ∃ y, Rel ρ x y ∧ (loadVar t ⟨r.block, r.base + i, none⟩).run P w = .ok y w := by
  unfold loadE at h
  obtain ⟨ty, sz, tr, h1, h2, h3⟩ := getC_inv h
  split at h3
  · rename_i ha
    obtain ⟨ti, h4, h5⟩ := szOf_inv h3
    obtain ⟨l, h6, h7, h8⟩ := getsB_inv h5
    refine ⟨_, h6, fun B0 ρ τ w r hag hre hr => ?_⟩
    obtain ⟨k1, _, xs, k2, k3⟩ := hre.read (hag n _ h1 h2) hr h8
    obtain ⟨_, d, k4, k5⟩ := agg_inv ha w
    refine ⟨.agg ⟨xs⟩, ?_, ?_⟩
    · simp only [Rel]; exact ⟨xs, rfl, k2, k1⟩
    · have := run_loadVar_mid (P := P) w r.block (r.base + i) t xs d k3 k4 k5 (by rw [h4]; simp [k2.length, h7])
      simpa using this
  · rename_i ha
    split at h3
    · rename_i x hx
      refine ⟨x, h3, fun B0 ρ τ w r hag hre hr => ?_⟩
      obtain ⟨k1, _, xs, k2, k3⟩ := hre.read (l := [x]) (hag n _ h1 h2) hr (i := i) (fun j a e => by
        cases j with
        | zero => simp at e; subst e; simpa using hx
        | succ j => simp at e)
      simp only [RelL] at k2
      obtain ⟨y, ys, rfl, k4, _⟩ := k2
      have hc := k3 0 y (by simp)
      simp at hc
      refine ⟨y, k4, ?_⟩
      simp [loadVar, (agg_inv ha w).1, hc]
    · cases h3
  · cases h3
theorem ok_load {t : TypeId} {x : Operand} (ho : o.op = .load t x) (h : (opd e x fun v => (match v with
    | .p n i => loadE P c st t n i fun w => (some (w, st) : Res)
    | _ => none)) = some (v, st')) : StepOk c st st' ∧ OpOk P c st st' v e o := by
  obtain ⟨v0, h1, h2⟩ := opd_inv h
  split at h1
  · rename_i n i
    obtain ⟨y, h3, h4⟩ := load_ok h1
    obtain ⟨rfl, rfl⟩ := some_inv h3
    refine opOk_val fun B0 ρ τ w a hx hag hre => ?_
    have hr := h2 ρ a (hx x (by simp [ho, Op.operands]))
    simp only [Rel] at hr
    obtain ⟨r, hr1, hv⟩ := hr
    obtain ⟨u, k1, k2⟩ := h4 B0 ρ τ w r hag hre hr1
    refine ⟨u, k1, ?_⟩
    simp [execOp, ho, hv, Instr.loadAt, Instr.sureAddr, k2]
  · cases h1
theorem run_storeVar' {t : TypeId} {i : TypeInfo} (w : World) (b o : Nat) (y : Value) (hi : P.info? t = some i) (hs : y.cells.size = i.size) (ht : w.there b o y.cells.size) (h1 : ∀ u, u ∈ y.cells.toList → u.oneCell' = true) :
    (storeVar t ⟨b, o, none⟩ y).run P w = .ok () (w.setCells b o y.cells.toList) := by
  have := run_storeCells_cells (P := P) b o y.cells.toList 0 w (fun j hj => by simpa using (ht j (by simpa using hj)).1) (fun j hj => by simpa using (ht j (by simpa using hj)).2) h1
  simp only [Nat.add_zero] at this
  simp [storeVar, run_sizeOf' hi, hs, this]
theorem ok_store {t : TypeId} {x y : Operand} (ho : o.op = .store t x y) (h : (opd e x fun v => (match v with
    | .p n i => opd e y fun v => cellsOf v fun cs => szOf P t fun z => (match Nat.beq cs.length z with
      | true => putB c st n i cs fun st => (some (.u, st) : Res)
      | false => none)
    | _ => none)) = some (v, st')) : StepOk c st st' ∧ OpOk P c st st' v e o := by
  obtain ⟨v0, h1, h2⟩ := opd_inv h
  split at h1
  · rename_i n i
    obtain ⟨v1, h3, h4⟩ := opd_inv h1
    obtain ⟨cs, h5, h6⟩ := cellsOf_inv h3
    obtain ⟨ti, h7, h8⟩ := szOf_inv h5
    split at h8
    · rename_i hz
      obtain ⟨ty, sz, tr, g1, g2, g3, g4, g5⟩ := putB_inv h8
      obtain ⟨rfl, rfl⟩ := some_inv g5
      refine opOk_set g1 g2 g3 g4 fun B0 ρ τ w a r hx hag hre hr hsz => ?_
      have hv := h2 ρ a (hx x (by simp [ho, Op.operands]))
      simp only [Rel] at hv
      obtain ⟨r', hr', hv⟩ := hv
      rw [hr] at hr'; injection hr' with hr'; subst hr'
      have hy := h4 ρ a (hx y (by simp [ho, Op.operands]))
      obtain ⟨k1, k2⟩ := h6 ρ _ hy
      have hlen := k1.length
      have hzz : cs.length = ti.size := by simpa [Nat.beq_eq] using hz
      refine ⟨undef, (a.eval y).cells.toList, k1, k2, rel_u, .inr ⟨?_, rfl⟩⟩
      have := run_storeVar' (P := P) (t := t) w r.block (r.base + i) (a.eval y) h7 (by simp at hlen; omega) (hre.there (hag n _ g1 g2) hr g4.2 (by simp at hlen; omega)) (k1.oneCell k2)
      simp [execOp, ho, hv, Instr.storeAt, Instr.sureAddr, this]
    · cases h8
  · cases h1
theorem add_off (b o n : Nat) : (⟨b, o, none⟩ : Addr).add n = ⟨b, o + n, none⟩ := Addr.add_mid b o n
theorem ok_fieldAddr {t : TypeId} {x : Operand} {f : Nat} (ho : o.op = .fieldAddr t x f) (h : (opd e x fun v => (match v with
    | .p n i => (match P.underlying t with
      | some (.struct fs) => (match lget fs.toList f with
        | some f => szOf P f.type fun z => (match z with
          | 0 => none
          | _ => fn (i + f.offset) fun i => (some (.p n i, st) : Res))
        | none => none)
      | _ => none)
    | _ => none)) = some (v, st')) : StepOk c st st' ∧ OpOk P c st st' v e o := by
  obtain ⟨v0, h1, h2⟩ := opd_inv h
  split at h1
  · rename_i n i
    split at h1
    · rename_i fs hfs
      split at h1
      · rename_i fd hfd
        obtain ⟨ti, h3, h4⟩ := szOf_inv h1
        split at h4
        · cases h4
        · rename_i hz
          rw [fn_eq] at h4
          obtain ⟨rfl, rfl⟩ := some_inv h4
          refine opOk_val fun B0 ρ τ w a hx _ _ => ?_
          have hv := h2 ρ a (hx x (by simp [ho, Op.operands]))
          simp only [Rel] at hv
          obtain ⟨r, hr, hv⟩ := hv
          rw [lget_eq] at hfd
          have hfd' : fs[f]? = some fd := by simpa using hfd
          refine ⟨.pointer (some ⟨r.block, r.base + (i + fd.offset), none⟩), by simp only [Rel]; exact ⟨r, hr, rfl⟩, ?_⟩
          have hz' : ¬ ti.size = 0 := hz
          simp [execOp, ho, hv, Instr.fieldAt, run_underlying' hfs, hfd', Instr.sureAddr, fieldPlace, run_sizeOf' h3, hz', add_off, Nat.add_assoc]
      · cases h1
    · cases h1
  · cases h1
end
end Go.Proofs.Ytenncnbaoejekaa.Ev

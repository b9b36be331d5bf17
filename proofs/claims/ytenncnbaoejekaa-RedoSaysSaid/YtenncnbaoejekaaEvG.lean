/-
  PLAIN: each operation of the evaluator is the model's: structs, arrays, slices.
-/
import Derived.Test.YtenncnbaoejekaaEvF
import Derived.Laws.MakeOwn
import Derived.Laws.Tables
import Derived.Great.BuildSlice
import Derived.ChangeMaps3
namespace Go.Proofs.Ytenncnbaoejekaa.Ev
open Go.RowKit

section
variable {ρ : Rho}
theorem rep_all {l : List V} (h : l.all V.one = true) (n : Nat) : (rep l n).all V.one = true := by
  induction n with
  | zero => rfl
  | succ n ih =>
    show (l ++ rep l n).all V.one = true
    rw [List.all_append, h, ih]; rfl
theorem rep_length (l : List V) (n : Nat) : (rep l n).length = n * l.length := by
  induction n with
  | zero => simp [rep]
  | succ n ih =>
    show (l ++ rep l n).length = _
    rw [List.length_append, ih, Nat.succ_mul, Nat.add_comm]
theorem rep_rel {l : List V} {zc : Array Value} (h : RelL ρ l zc.toList) (n : Nat) : RelL ρ (rep l n) ((List.range (n * zc.size)).map fun i => zc[i % zc.size]!) := by
  induction n with
  | zero => simp [rep, RelL]
  | succ n ih =>
    show RelL ρ (l ++ rep l n) _
    rw [Nat.succ_mul, Nat.add_comm, List.range_add, List.map_append]
    refine RelL.append ?_ ?_
    · have : ((List.range zc.size).map fun i => zc[i % zc.size]!) = zc.toList := by
        apply List.ext_getElem
        · simp
        · intro i h1 h2
          simp at h1
          simp [Nat.mod_eq_of_lt h1, h1]
      rw [this]; exact h
    · rw [List.map_map]
      have : ((fun i => zc[i % zc.size]!) ∘ fun x => zc.size + x) = fun i => zc[i % zc.size]! := by
        funext i; simp
      rw [this]; exact ih
theorem rep_rel_arr {l : List V} {zc : Array Value} (h : RelL ρ l zc.toList) (n m : Nat) (hm : m = n * zc.size) : RelL ρ (rep l n) ((Array.range m).map fun i => zc[i % zc.size]!).toList := by
  subst hm
  have := rep_rel h n
  simpa using this
/-- a part that is laid -/
theorem fold_set (off : Nat) : ∀ (vs : List Value) (j : Nat) (cells : Array Value), off + j + vs.length ≤ cells.size →
    ((vs.zipIdx j).foldl (fun (cs : Array Value) (x : Value × Nat) => cs.setIfInBounds (off + x.2) x.1) cells).toList = cells.toList.take (off + j) ++ (vs ++ cells.toList.drop (off + j + vs.length))
  | [], j, cells, _ => by simp
  | v :: vs, j, cells, h => by
    simp only [List.zipIdx_cons, List.foldl_cons]
    simp only [List.length_cons] at h
    rw [fold_set off vs (j + 1) _ (by simp; omega)]
    have hlt : off + j < cells.toList.length := by simp; omega
    rw [Array.toList_setIfInBounds]
    have e1 : (cells.toList.set (off + j) v).take (off + (j + 1)) = cells.toList.take (off + j) ++ [v] := by
      rw [show off + (j + 1) = (off + j) + 1 by omega, List.take_succ_eq_append_getElem (by simpa using hlt)]
      simp [List.take_set_of_le (Nat.le_refl _)]
    have e2 : (cells.toList.set (off + j) v).drop (off + (j + 1) + vs.length) = cells.toList.drop (off + j + (v :: vs).length) := by
      rw [List.drop_set_of_lt (by omega)]
      congr 1; simp; omega
    rw [e1, e2]; simp
theorem splice_inv {β : Type} {q : β} {i : Nat} {cs l : List V} {k : List V → Option β} (h : splice i cs l k = some q) : i + cs.length ≤ l.length ∧ k (l.take i ++ (cs ++ l.drop (i + cs.length))) = some q := by
  unfold splice at h
  split at h
  · rename_i hl; exact ⟨by simpa [Nat.ble_eq] using hl, h⟩
  · cases h
theorem forceL_eq {β : Type} : ∀ (l : List V) (k : List V → β), forceL l k = k l
  | [], _ => rfl
  | x :: l, k => (forceL_eq l fun l => k (x :: l))
theorem all_take {l : List V} (h : l.all V.one = true) (n : Nat) : (l.take n).all V.one = true := by
  rw [List.all_eq_true] at h ⊢
  exact fun x hx => h x (List.mem_of_mem_take hx)
theorem all_drop {l : List V} (h : l.all V.one = true) (n : Nat) : (l.drop n).all V.one = true := by
  rw [List.all_eq_true] at h ⊢
  exact fun x hx => h x (List.mem_of_mem_drop hx)
/-- the parts of a literal -/
theorem partsK_inv {β : Type} {q : β} {at_ : Nat → Option (Nat × Nat)} : ∀ {l : List (Nat × Operand)} {vs t : List V} {k : List V → Option β}, partsK at_ l vs t k = some q →
    ∃ l', k l' = some q ∧ l'.length = t.length ∧ ∀ (ρ : Rho) (a : Act) (cells : Array Value), RelL ρ vs (l.map fun x => a.eval x.2) → RelL ρ t cells.toList → t.all V.one = true →
      ∃ cells', Instr.fill at_ cells (l.map fun x => (x.1, a.eval x.2)) = some cells' ∧ RelL ρ l' cells'.toList ∧ l'.all V.one = true
  | [], vs, t, k, h => ⟨t, h, rfl, fun ρ a cells _ h2 h3 => ⟨cells, rfl, h2, h3⟩⟩
  | x :: l, [], t, k, h => by cases h
  | x :: l, v :: vs, t, k, h => by
    have h' : (cellsOf v fun cs => match at_ x.1 with
      | some (i, z) => (match Nat.beq cs.length z with
        | true => splice i cs t fun t => partsK at_ l vs t k
        | false => none)
      | none => none) = some q := h
    obtain ⟨cs, h1, h2⟩ := cellsOf_inv h'
    split at h1
    · rename_i i z hat
      split at h1
      · rename_i hz
        obtain ⟨h3, h4⟩ := splice_inv h1
        obtain ⟨l', h5, h6, h7⟩ := partsK_inv h4
        have hz' : cs.length = z := by simpa [Nat.beq_eq] using hz
        refine ⟨l', h5, by rw [h6]; simp; omega, fun ρ a cells g1 g2 g3 => ?_⟩
        simp only [List.map_cons, RelL] at g1
        obtain ⟨y, ys, e, g4, g5⟩ := g1
        injection e with e1 e2
        subst e1 e2
        obtain ⟨g6, g7⟩ := h2 ρ _ g4
        have hl := g6.length
        have hl2 := g2.length
        simp at hl hl2
        have hfold := fold_set i (a.eval x.2).cells.toList 0 cells (by simp; omega)
        simp only [Nat.add_zero] at hfold
        obtain ⟨cells', k1, k2, k3⟩ := h7 ρ a ((a.eval x.2).cells.zipIdx.foldl (fun cs (c, j) => cs.setIfInBounds (i + j) c) cells) g5 (by
          rw [← Array.foldl_toList, Array.toList_zipIdx, hfold]
          have e : i + (a.eval x.2).cells.toList.length = i + cs.length := by simp; omega
          rw [e]
          exact RelL.append (RelL.take _ g2) (RelL.append g6 (RelL.drop _ g2))) (by
          rw [List.all_append, List.all_append, all_take g3, g7, all_drop g3]; rfl)
        refine ⟨cells', ?_, k2, k3⟩
        simp only [List.map_cons, Instr.fill, hat]
        rw [if_neg (by simp; omega)]
        exact k1
      · cases h1
    · cases h1
end
section
variable {P : Program} {c : Cx} {st st' : St} {v : V} {e : Env} {o : Oper}
theorem ok_indexAddr {t : TypeId} {x ix : Operand} (ho : o.op = .indexAddr t x ix) (h : (opd e x fun v => opd e ix fun i => asNat i fun i => idxE P t v i fun a => (some (a, st) : Res)) = some (v, st')) :
    StepOk c st st' ∧ OpOk P c st st' v e o := by
  obtain ⟨v0, h1, h2⟩ := opd_inv h
  obtain ⟨v1, h3, h4⟩ := opd_inv h1
  obtain ⟨k, i, rfl, h5⟩ := asNat_inv h3
  unfold idxE at h5
  split at h5
  · rename_i len el n o' hu
    split at h5
    · rename_i hi
      obtain ⟨ti, h6, h7⟩ := szOf_inv h5
      rw [fn_eq] at h7
      obtain ⟨rfl, rfl⟩ := some_inv h7
      refine opOk_val fun B0 ρ τ w a hx _ _ => ?_
      have hv := h2 ρ a (hx x (by simp [ho, Op.operands]))
      have hi' := rel_num (h4 ρ a (hx ix (by simp [ho, Op.operands])))
      simp only [Rel] at hv
      obtain ⟨r, hr, hv⟩ := hv
      refine ⟨.pointer (some ⟨r.block, r.base + (o' + i * ti.size), none⟩), by simp only [Rel]; exact ⟨r, hr, rfl⟩, ?_⟩
      have hlt : i < len := by simpa [Nat.blt_eq] using hi
      simp [execOp, ho, hv, hi', Instr.indexAt, asIntOf, run_underlying' hu, Instr.sureAddr, hlt, run_sizeOf' h6, add_off, Nat.add_assoc]
    · cases h5
  · rename_i el n o' len cp hu
    split at h5
    · rename_i hi
      obtain ⟨ti, h6, h7⟩ := szOf_inv h5
      rw [fn_eq] at h7
      obtain ⟨rfl, rfl⟩ := some_inv h7
      refine opOk_val fun B0 ρ τ w a hx _ _ => ?_
      have hv := h2 ρ a (hx x (by simp [ho, Op.operands]))
      have hi' := rel_num (h4 ρ a (hx ix (by simp [ho, Op.operands])))
      simp only [Rel] at hv
      obtain ⟨r, hr, hv⟩ := hv
      refine ⟨.pointer (some ⟨r.block, r.base + (o' + i * ti.size), none⟩), by simp only [Rel]; exact ⟨r, hr, rfl⟩, ?_⟩
      have hlt : i < len := by simpa [Nat.blt_eq] using hi
      simp [execOp, ho, hv, hi', Instr.indexAt, asIntOf, run_underlying' hu, hlt, run_sizeOf' h6, add_off, Nat.add_assoc]
    · cases h5
  · rename_i el n o' len z hu
    split at h5
    · rename_i hi
      obtain ⟨ti, h6, h7⟩ := szOf_inv h5
      rw [fn_eq] at h7
      obtain ⟨rfl, rfl⟩ := some_inv h7
      refine opOk_val fun B0 ρ τ w a hx _ _ => ?_
      have hv := h2 ρ a (hx x (by simp [ho, Op.operands]))
      have hi' := rel_num (h4 ρ a (hx ix (by simp [ho, Op.operands])))
      simp only [Rel] at hv
      obtain ⟨r, hr, _, _, hv⟩ := hv
      refine ⟨.pointer (some ⟨r.block, r.base + (o' + i * ti.size), none⟩), by simp only [Rel]; exact ⟨r, hr, rfl⟩, ?_⟩
      have hlt : i < len := by simpa [Nat.blt_eq] using hi
      simp [execOp, ho, hv, hi', Instr.indexAt, asIntOf, run_underlying' hu, hlt, run_sizeOf' h6, add_off, Nat.add_assoc]
    · cases h5
  · cases h5
theorem parts_ops {ps : Array (Nat × Operand)} : ∀ x, x ∈ (ps.toList.map fun x => x.2) → x ∈ ((ps.toList.map (·.2)).toArray).toList := fun x h => by simpa using h
theorem ok_buildSlice {t : TypeId} {len : Nat} {parts : Array (Nat × Operand)} (ho : o.op = .buildSlice t len parts)
    (h : (elemOf P t fun el z => zero P el fun zs => opds e (parts.toList.map fun x => x.2) fun vs => (match Nat.beq zs.length z, Nat.ble (len * z) 16777216 with
    | true, true => partsK (fun i => some (i * z, z)) parts.toList vs (rep zs len) fun l => newC st el l fun n st => (some (.sl n 0 len len, st) : Res)
    | _, _ => none)) = some (v, st')) : StepOk c st st' ∧ OpOk P c st st' v e o := by
  obtain ⟨el, i, h1, h2, h3⟩ := elemOf_inv h
  obtain ⟨i', z, zs, h4, h5, h6, h7, h8⟩ := zero_inv h3
  rw [h2] at h4; injection h4 with h4; subst h4
  obtain ⟨vs, h9, h10⟩ := opds_inv h6
  split at h9
  · rename_i hz hl
    have hz' : zs.length = i.size := by simpa [Nat.beq_eq] using hz
    have hl' : len * i.size ≤ 16777216 := by simpa [Nat.ble_eq] using hl
    obtain ⟨l, g1, g2, g3⟩ := partsK_inv h9
    rw [newC_eq] at g1
    obtain ⟨rfl, rfl⟩ := some_inv g1
    refine opOk_new fun B0 ρ τ w a hx _ _ => ?_
    have hzl := (h8 ρ).length
    simp at hzl
    have hzs : z.cells.size = i.size := by omega
    obtain ⟨cells', k1, k2, k3⟩ := g3 ρ a ((Array.range (len * i.size)).map fun j => z.cells[j % z.cells.size]!) (by
      have := h10 ρ a (fun x hx' => hx x (by simp only [ho, Op.operands]; exact parts_ops x hx'))
      rw [List.map_map] at this; exact this) (rep_rel_arr (h8 ρ) len _ (by rw [hzs])) (rep_all h7 len)
    refine ⟨.slice (some ⟨w.heap.size, 0, none⟩) len len, { w with heap := w.heap.push (.cells cells' el) }, cells'.toList, cells', (0, 0), k2, k3, ?_, rfl, rfl, rfl, rfl, fun i u hu => by simpa using hu, by simp, .inl rfl, fun ρ' hρ => by simp only [Rel]; exact ⟨_, hρ, rfl⟩⟩
    have k1' : Instr.fill (fun j => some (j * i.size, i.size)) ((Array.range (len * i.size)).map fun j => z.cells[j % z.cells.size]!) (parts.toList.map fun x => (x.1, a.eval x.2)) = some cells' := k1
    by_cases h0 : len * i.size = 0
    · rw [h0] at k1'
      simp only [Array.range_zero', List.map_toArray] at k1'
      have k1'' : Instr.fill (fun j => some (j * i.size, i.size)) #[] (parts.toList.map fun x => (x.1, a.eval x.2)) = some cells' := by
        rw [← k1']; simp
      simp [execOp, ho, Instr.buildSlice, run_underlying' h1, run_sizeOf' h2, h0, Array.range_zero', k1'', newRow]
    · have : ¬ 16777216 < len * i.size := by omega
      simp [execOp, ho, Instr.buildSlice, run_underlying' h1, run_sizeOf' h2, run_zeroValue' h2 h5, h0, this, k1', newRow]
  · cases h9
theorem ok_build {t : TypeId} {parts : Array (Nat × Operand)} (ho : o.op = .build t parts)
    (h : (zero P t fun zs => opds e (parts.toList.map fun x => x.2) fun vs => (match P.underlying t with
    | some (.struct fs) => partsK (fun i => match lget fs.toList i with | some f => (match P.info? f.type with | some ti => some (f.offset, ti.size) | none => none) | none => none) parts.toList vs zs fun l => forceL l fun l => (match fs.toList.all fun f => (P.info? f.type).isSome with | true => (some (.g l, st) : Res) | false => none)
    | some (.array _ el) => szOf P el fun z => partsK (fun i => some (i * z, z)) parts.toList vs zs fun l => forceL l fun l => some (.g l, st)
    | _ => none)) = some (v, st')) : StepOk c st st' ∧ OpOk P c st st' v e o := by
  obtain ⟨i, z, zs, h4, h5, h6, h7, h8⟩ := zero_inv h
  obtain ⟨vs, h9, h10⟩ := opds_inv h6
  split at h9
  · rename_i fs hu
    obtain ⟨l, g1, g2, g3⟩ := partsK_inv h9
    rw [forceL_eq] at g1
    split at g1
    · rename_i hall
      obtain ⟨rfl, rfl⟩ := some_inv g1
      refine opOk_val fun B0 ρ τ w a hx _ _ => ?_
      obtain ⟨cells', k1, k2, k3⟩ := g3 ρ a z.cells (by
        have := h10 ρ a (fun x hx' => hx x (by simp only [ho, Op.operands]; exact parts_ops x hx'))
        rw [List.map_map] at this; exact this) (h8 ρ) h7
      refine ⟨.agg cells', by simp only [Rel]; exact ⟨cells'.toList, by simp, k2, k3⟩, ?_⟩
      have hm : fs.toList.mapM (fun f => (P.info? f.type).map fun i => (f.offset, i.size)) = some (fs.toList.map fun f => ((P.info? f.type).map fun i => (f.offset, i.size)).getD (0, 0)) :=
        Go.ChangeMaps.mapM_total (0, 0) fun f hf => by
          have := (List.all_eq_true.1 hall) f hf
          obtain ⟨ti, hti⟩ := Option.isSome_iff_exists.1 this
          exact ⟨_, by rw [hti]; rfl⟩
      have hp : (fun i => match lget fs.toList i with | some f => (match P.info? f.type with | some ti => some (f.offset, ti.size) | none => none) | none => none) = fun i => ((fs.toList.map fun f => ((P.info? f.type).map fun i => (f.offset, i.size)).getD (0, 0)).toArray[i]? : Option (Nat × Nat)) := by
        funext j
        rw [lget_eq]
        cases hj : fs.toList[j]? with
        | none =>
          have : fs.size ≤ j := by
            have := List.getElem?_eq_none_iff.1 hj
            simpa using this
          simp [this]
        | some f =>
          have hf : f ∈ fs.toList := List.mem_of_getElem? hj
          obtain ⟨ti, hti⟩ := Option.isSome_iff_exists.1 ((List.all_eq_true.1 hall) f hf)
          have hj' : fs[j]? = some f := by simpa using hj
          simp [hti, hj']
      rw [hp] at k1
      have hb : P.built t (parts.map fun (i, x) => (i, a.eval x)).toList = some cells' := by
        unfold Program.built
        simp only [h4, hu, h5, hm]
        rw [Array.toList_map]
        exact k1
      simp only [execOp, ho, Sem.run_bind, run_build w t _ cells' hb, Result.andThen_ok, Sem.run_pure]
    · cases g1
  · rename_i len el hu
    obtain ⟨ti, h11, h12⟩ := szOf_inv h9
    obtain ⟨l, g1, g2, g3⟩ := partsK_inv h12
    rw [forceL_eq] at g1
    obtain ⟨rfl, rfl⟩ := some_inv g1
    refine opOk_val fun B0 ρ τ w a hx _ _ => ?_
    obtain ⟨cells', k1, k2, k3⟩ := g3 ρ a z.cells (by
      have := h10 ρ a (fun x hx' => hx x (by simp only [ho, Op.operands]; exact parts_ops x hx'))
      rw [List.map_map] at this; exact this) (h8 ρ) h7
    refine ⟨.agg cells', by simp only [Rel]; exact ⟨cells'.toList, by simp, k2, k3⟩, ?_⟩
    have hb : P.built t (parts.map fun (i, x) => (i, a.eval x)).toList = some cells' := by
      unfold Program.built
      simp only [h4, hu, h5, h11]
      rw [Array.toList_map]
      exact k1
    simp only [execOp, ho, Sem.run_bind, run_build w t _ cells' hb, Result.andThen_ok, Sem.run_pure]
  · cases h9
theorem small_inv {el n : Nat} (h : small P el n = true) : ∃ i z, P.info? el = some i ∧ i.zero = some z ∧ n ≤ 1073741824 ∧ i.bytes ≤ 1024 ∧ 1 ≤ i.size ∧ z.cells.size = i.size := by
  unfold small at h
  split at h
  · cases h
  · rename_i i hi
    split at h
    · rename_i z a1 a2 a3 hz
      exact ⟨i, z, hi, hz, by simpa [Nat.ble_eq] using a1, by simpa [Nat.ble_eq] using a2, by simpa [Nat.ble_eq] using a3, by simpa [Nat.beq_eq] using h⟩
    · cases h
theorem ok_makeSlice {t : TypeId} {x y : Operand} (ho : o.op = .makeSlice t x y)
    (h : (opd e x fun l => opd e y fun cp => asNat l fun l => asNat cp fun cp => elemOf P t fun el _ => (match Nat.ble l cp, small P el cp with
    | true, true => zero P el fun z => newC st el (rep z cp) fun n st => (some (.sl n 0 l cp, st) : Res)
    | _, _ => none)) = some (v, st')) : StepOk c st st' ∧ OpOk P c st st' v e o := by
  obtain ⟨v0, h1, h2⟩ := opd_inv h
  obtain ⟨v1, h3, h4⟩ := opd_inv h1
  obtain ⟨kl, l, rfl, h5⟩ := asNat_inv h3
  obtain ⟨kc, cp, rfl, h6⟩ := asNat_inv h5
  obtain ⟨el, i, h7, h8, h9⟩ := elemOf_inv h6
  split at h9
  · rename_i hlc hs
    obtain ⟨i', z', s1, s2, s3, s4, s5, s6⟩ := small_inv hs
    obtain ⟨i'', z, zs, h10, h11, h12, h13, h14⟩ := zero_inv h9
    rw [h8] at s1 h10; injection s1 with s1; injection h10 with h10; subst s1 h10
    rw [s2] at h11; injection h11 with h11; subst h11
    rw [newC_eq] at h12
    obtain ⟨rfl, rfl⟩ := some_inv h12
    have hlc' : l ≤ cp := by simpa [Nat.ble_eq] using hlc
    refine opOk_new fun B0 ρ τ w a hx _ _ => ?_
    have e1 := rel_num (h2 ρ a (hx x (by simp [ho, Op.operands])))
    have e2 := rel_num (h4 ρ a (hx y (by simp [ho, Op.operands])))
    have hb : ((i.bytes : Int) * (cp : Int)) ≤ 281474976710656 := by
      have : i.bytes * cp ≤ 1024 * 1073741824 := Nat.mul_le_mul s4 s3
      have h' : ((i.bytes * cp : Nat) : Int) ≤ 281474976710656 := by omega
      rwa [Int.natCast_mul] at h'
    have hr := run_make (P := P) w t el i z' h7 h8 s2 kl kc (l : Int) (cp : Int) (by omega) (by omega) hb (by omega)
    simp only [Int.toNat_natCast] at hr
    refine ⟨.slice (some ⟨w.heap.size, 0, none⟩) l cp, w.alloc (.cells (madeCells z'.cells (cp * i.size)) el), (madeCells z'.cells (cp * i.size)).toList, madeCells z'.cells (cp * i.size), (0, 0), ?_, rep_all h13 cp, ?_, rfl, rfl, rfl, rfl, fun i u hu => by simpa using hu, by simp, .inl rfl, fun ρ' hρ => ?_⟩
    · exact rep_rel_arr (h14 ρ) cp _ (by rw [s6])
    · simp only [execOp, ho, e1, e2, Sem.run_bind]
      have : (Instr.makeSlice t (.int kl (Int.ofNat l)) (.int kc (Int.ofNat cp))).run P w = _ := hr
      rw [this]; rfl
    · simp only [Rel]; exact ⟨_, hρ, by simp⟩
  · cases h9
end
end Go.Proofs.Ytenncnbaoejekaa.Ev

/-
  PLAIN: each operation of the evaluator is the model's: conversions; all of them.
-/
import Derived.Test.YtenncnbaoejekaaEvM
namespace Go.Proofs.Ytenncnbaoejekaa.Ev
open Go.RowKit

section
variable {P : Program} {c : Cx} {st st' : St} {v : V} {e : Env} {o : Oper}
theorem bytesOfAs_inv {β : Type} {q : β} : ∀ {l : List V} {k : List Nat → Option β}, bytesOfAs l k = some q →
    ∃ ns, k ns = some q ∧ (∀ n, n ∈ ns → n < 256) ∧ ∀ (ρ : Rho) (xs : List Value), RelL ρ l xs → xs = (ns.map Int.ofNat).map (Value.int .u8)
  | [], k, h => ⟨[], h, by simp, fun ρ xs hx => by simp only [RelL] at hx; simp [hx]⟩
  | x :: l, k, h => by
    have h' : (match (generalizing := false) x with | .c (.int .u8 (.ofNat n)) => (match Nat.blt n 256 with | true => bytesOfAs l fun r => k (n :: r) | false => none) | _ => none) = some q := h
    split at h'
    · rename_i n
      split at h'
      · rename_i hn
        obtain ⟨ns, h1, h2, h3⟩ := bytesOfAs_inv h'
        refine ⟨n :: ns, h1, fun m hm => ?_, fun ρ xs hx => ?_⟩
        · rcases List.mem_cons.1 hm with rfl | hm
          · simpa [Nat.blt_eq] using hn
          · exact h2 m hm
        · simp only [RelL] at hx
          obtain ⟨y, ys, rfl, k1, k2⟩ := hx
          rw [rel_num k1, h3 ρ ys k2]; rfl
      · cases h'
    · cases h'
theorem foldl_push : ∀ (ns : List Nat) (b : ByteArray), (ns.map Int.ofNat).foldl (fun r n => r.push (UInt8.ofNat n.toNat)) b = ⟨⟨b.data.toList ++ ns.map UInt8.ofNat⟩⟩
  | [], b => by simp only [List.map_nil, List.foldl_nil, List.append_nil]
  | n :: ns, b => by
    simp only [List.map_cons, List.foldl_cons]
    rw [foldl_push ns]
    congr 2
    have : (b.push (UInt8.ofNat (Int.ofNat n).toNat)).data.toList = b.data.toList ++ [UInt8.ofNat n] := by
      show (b.data.push _).toList = _
      simp
    rw [this]; simp
theorem sliceV_rel {ρ : Rho} {x : V} {y : Value} (h : sliceV x = true) (hr : Rel ρ x y) : ∃ a l cp, y = .slice a l cp := by
  unfold sliceV at h
  split at h
  · simp only [Rel] at hr; exact ⟨_, _, _, hr.1⟩
  · simp only [Rel] at hr; obtain ⟨r, _, rfl⟩ := hr; exact ⟨_, _, _, rfl⟩
  · simp only [Rel] at hr; obtain ⟨r, _, _, _, rfl⟩ := hr; exact ⟨_, _, _, rfl⟩
  · simp only [Rel] at hr; obtain ⟨a, cc, rfl⟩ := hr; exact ⟨_, _, _, rfl⟩
  · cases h
/-- a new block of any kind -/
theorem opOk_newB {b : B}
    (h : ∀ (B0 : Nat) (ρ : Rho) (τ : Mem) (w : World) (a : Act), (∀ x, x ∈ o.op.operands.toList → TmpRel ρ e a x) → Agree c st τ → Real ρ B0 τ w →
      ∃ (v' : Value) (w' : World) (sz : Nat), (execOp a.eval o).run P w = .ok (.value v') w' ∧ w'.heap.size = w.heap.size + 1 ∧ (∀ k, k < w.heap.size → w'.heap[k]? = w.heap[k]?) ∧ w'.os = w.os ∧ w'.tape = w.tape ∧ w'.output = w.output ∧
        (∀ ρ' : Rho, ρ.le ρ' → ρ' st.nx = some ⟨w.heap.size, 0, sz⟩ → Blk ρ' b ⟨w.heap.size, 0, sz⟩ w' ∧ Rel ρ' v v')) :
    StepOk c st ⟨st.nx + 1, st.h.set st.nx b⟩ ∧ OpOk P c st ⟨st.nx + 1, st.h.set st.nx b⟩ v e o :=
  ⟨stepOk_new, fun B0 ρ τ w a h1 h2 h3 hf K Q hK => by
    obtain ⟨v', w', sz, k3, k4, hold, k5, k6, k7, k8⟩ := h B0 ρ τ w a h1 h2 h3
    unfold Oper.wp
    rw [k3]
    have hfr : ρ st.nx = none := hf st.nx (Nat.le_refl _) (Nat.lt_succ_self _)
    have hle : ρ.le (upd ρ st.nx ⟨w.heap.size, 0, sz⟩) := fun m q e => by
      by_cases hm : m = st.nx
      · subst hm; rw [hfr] at e; cases e
      · rw [upd_ne _ _ hm]; exact e
    obtain ⟨k9, k10⟩ := k8 _ hle (upd_same _ _ _)
    refine hK (upd ρ st.nx ⟨w.heap.size, 0, sz⟩) v' w' hle (fun m q e => ?_) k10 ?_ ?_
    · by_cases hm : m = st.nx
      · subst hm; exact .inr ⟨Nat.le_refl _, Nat.lt_succ_self _⟩
      · rw [upd_ne _ _ hm] at e; exact .inl e
    · rw [ov_new]
      exact h3.new hfr (Nat.le_refl _) (by rw [k4]; simp) hold k9
    · exact ⟨k5, k6, k7, by rw [k4]; omega, fun k hk => hold k (Nat.lt_of_lt_of_le hk h3.size)⟩⟩
/-- a block of any kind turns -/
theorem opOk_setB {n : Nat} {b b' : B} (g1 : c.ok n = true) (g2 : st.h.get n = some b) (gl : b.live) (g4 : c.wb ≤ n)
    (h : ∀ (B0 : Nat) (ρ : Rho) (τ : Mem) (w : World) (a : Act) (r : R), (∀ x, x ∈ o.op.operands.toList → TmpRel ρ e a x) → Agree c st τ → Real ρ B0 τ w → ρ n = some r → Blk ρ b r w → r.block < w.heap.size →
      ∃ (v' : Value) (w' : World), (execOp a.eval o).run P w = .ok (.value v') w' ∧ w'.heap.size = w.heap.size ∧ (∀ k, k ≠ r.block → w'.heap[k]? = w.heap[k]?) ∧ w'.os = w.os ∧ w'.tape = w.tape ∧ w'.output = w.output ∧ Blk ρ b' r w' ∧ Rel ρ v v') :
    StepOk c st ⟨st.nx, st.h.set n b'⟩ ∧ OpOk P c st ⟨st.nx, st.h.set n b'⟩ v e o :=
  ⟨stepOk_set g1 g2 g4, fun B0 ρ τ w a h1 h2 h3 hf K Q hK => by
    have hτ := h2 n _ g1 g2
    obtain ⟨r, r1, r2, r3, r4⟩ := h3.blk n _ hτ
    obtain ⟨v', w', k1, k2, k3, k4, k5, k6, k7, k8⟩ := h B0 ρ τ w a r h1 h2 h3 r1 r4 r3
    have hreal : Real ρ B0 (ov st ⟨st.nx, st.h.set n b'⟩ τ) w' := by
      rw [ov_set h2 g1 g2]
      exact h3.set hτ gl r1 k2 k3 k7
    unfold Oper.wp
    rw [k1]
    exact hK ρ v' _ (Rho.le_refl _) (Dom.refl _ _ _) k8 hreal ⟨k4, k5, k6, by rw [k2]; exact Nat.le_refl _, fun k hk => k3 k (by have := r2 gl; omega)⟩⟩
theorem run_freeze_end {w : World} {b : Nat} {cells : Array Value} {ty : TypeId} {fr : Nat × Nat} (h : w.heap[b]? = some (.cells cells ty fr)) (hf : FrOk fr cells.size) (off : Nat) :
    ∃ (w' : World) (fr' : Nat × Nat), (markStringish ⟨b, off, none⟩).run P w = .ok () w' ∧ w'.heap.size = w.heap.size ∧ (∀ k, k ≠ b → w'.heap[k]? = w.heap[k]?) ∧ w'.heap[b]? = some (.cells cells ty fr') ∧ FrOk fr' cells.size ∧ w'.os = w.os ∧ w'.tape = w.tape ∧ w'.output = w.output := by
  have hsh : w.shape? b = some (ty, cells.size) := by simp [World.shape?, h]
  have hone : ¬ (1 = 0) := by decide
  refine ⟨w.freeze ⟨b, cells.size, none⟩ 1, (if fr.1 == fr.2 then (cells.size, cells.size + 1) else (min fr.1 cells.size, max fr.2 (cells.size + 1))), ?_, ?_, ?_, ?_, ?_, ?_, ?_, ?_⟩
  · simp only [markStringish, Sem.run_bind, run_shape, hsh, Result.andThen_ok, run_freeze]
  · simp [World.freeze]
  · intro k hk
    simp only [World.freeze, hone, if_false, Array.getElem?_modify]
    rw [if_neg (fun e => hk e.symm)]
  · simp only [World.freeze, hone, if_false, Array.getElem?_modify, if_true, h, Option.map_some]
  · unfold FrOk at hf ⊢
    by_cases he : fr.1 == fr.2
    · rw [if_pos he]; right; simp
    · rw [if_neg he]
      have hne : fr.1 ≠ fr.2 := by simpa using he
      right; simp only; omega
  · simp [World.freeze]
  · simp [World.freeze]
  · simp [World.freeze]
theorem ok_convert {src dst : TypeId} {x : Operand} (ho : o.op = .convert src dst x) (h : (opd e x fun v => convE P c st src dst v) = some (v, st')) : StepOk c st st' ∧ OpOk P c st st' v e o := by
  obtain ⟨v0, h1, h2⟩ := opd_inv h
  have mx : x ∈ o.op.operands.toList := by simp [ho, Op.operands]
  have hex : ∀ (a : Act) (w w' : World) (u : Value), (convert src dst (a.eval x)).run P w = .ok u w' → (execOp a.eval o).run P w = .ok (.value u) w' := fun a w w' u hu => by
    simp [execOp, ho, hu]
  unfold convE at h1
  split at h1
  · rename_i d1 k _ n hu1 hu2
    rw [fi_eq, wr_eq] at h1
    obtain ⟨rfl, rfl⟩ := some_inv h1
    refine opOk_val fun B0 ρ τ w a hx _ _ => ⟨_, rel_int _ _, hex a w w _ ?_⟩
    rw [rel_num (h2 ρ a (hx x mx))]
    simp only [convert, Sem.run_bind, run_underlying' hu1, run_underlying' hu2, Result.andThen_ok]
    rfl
  · rename_i d1 l hu1 hu2
    obtain ⟨rfl, rfl⟩ := some_inv h1
    refine opOk_val fun B0 ρ τ w a hx _ _ => ?_
    have hr := h2 ρ a (hx x mx)
    refine ⟨_, hr, hex a w w _ ?_⟩
    simp only [Rel] at hr
    rw [hr.1]
    simp only [convert, Sem.run_bind, run_underlying' hu1, run_underlying' hu2, Result.andThen_ok]
    cases d1 <;> rfl
  · rename_i d1 el l hu1 hu2
    split at h1
    · rename_i hel
      split at h1
      · rename_i hsm
        obtain ⟨i', z, s1, s2, s3, s4, s5, s6⟩ := small_inv hsm
        rw [newC_eq, fn_eq] at h1
        obtain ⟨rfl, rfl⟩ := some_inv h1
        refine opOk_new fun B0 ρ τ w a hx _ _ => ?_
        have hr := h2 ρ a (hx x mx)
        simp only [Rel] at hr
        obtain ⟨hv, hb⟩ := hr
        have hsz : (⟨⟨l.map UInt8.ofNat⟩⟩ : ByteArray).size = l.length := by simp [ByteArray.size]
        have hge := grownCap_ge w l.length 0 el
        let gc := grownCap w l.length 0 el
        let arr : Array Value := ((⟨⟨l.map UInt8.ofNat⟩⟩ : ByteArray).data.map fun b => Value.int .u8 b.toNat) ++ Array.replicate (gc - l.length) (.int .u8 0)
        have harr : arr.size = gc := by
          simp only [arr, Array.size_append, Array.size_map, Array.size_replicate, List.size_toArray, List.length_map]
          omega
        refine ⟨.slice (some ⟨w.heap.size, 0, none⟩) l.length gc, { w with drawn := w.drawn + 1, heap := w.heap.push (.cells arr el (arr.size, arr.size + 1)) }, l.map fun x => .int .u8 (Int.ofNat x), arr, (arr.size, arr.size + 1), ?_, ?_, hex a w _ _ ?_, rfl, rfl, rfl, rfl, ?_, ?_, ?_, ?_⟩
        · refine RelL.of_get (by simp) fun j u hu => ?_
          simp only [List.getElem?_map, Option.map_eq_some_iff] at hu ⊢
          obtain ⟨y, hy, rfl⟩ := hu
          exact ⟨_, ⟨y, hy, rfl⟩, rel_int _ _⟩
        · rw [List.all_eq_true]
          intro u hu
          obtain ⟨y, _, rfl⟩ := List.mem_map.1 hu
          rfl
        · rw [hv]
          have hf : (Question.appendCap l.length 0 el).forced = false := rfl
          have e1 : (Conv.stringToBytes el ⟨⟨l.map UInt8.ofNat⟩⟩).run P w = .ok (.slice (some ⟨w.heap.size, 0, none⟩) l.length gc) { w with drawn := w.drawn + 1, heap := w.heap.push (.cells arr el (arr.size, arr.size + 1)) } := by
            simp only [Conv.stringToBytes, Sem.run_bind, run_choose, hsz, hf, Bool.false_eq_true, if_false, Result.andThen_ok, newRow, run_newObj, Sem.run_pure, markStringish, run_shape]
            have hsh : World.shape? { w with drawn := w.drawn + 1, heap := w.heap.push (.cells arr el) } w.heap.size = some (el, arr.size) := by
              simp [World.shape?]
            have hfr : World.freeze { w with drawn := w.drawn + 1, heap := w.heap.push (.cells arr el) } { block := w.heap.size, off := arr.size } 1 = { w with drawn := w.drawn + 1, heap := w.heap.push (.cells arr el (arr.size, arr.size + 1)) } := by
              unfold World.freeze
              rw [if_neg (by decide)]
              congr 1
              apply Array.ext_getElem?
              intro j
              rw [Array.getElem?_modify]
              by_cases hj : w.heap.size = j
              · subst hj; simp
              · rw [if_neg hj, Array.getElem?_push, Array.getElem?_push, if_neg (by omega), if_neg (by omega)]
            have : (⟨⟨l.map UInt8.ofNat⟩⟩ : ByteArray).data.map (fun b => Value.int .u8 b.toNat) ++ Array.replicate ((Question.appendCap l.length 0 el).cut (w.tape w.drawn (.appendCap l.length 0 el)) - l.length) (.int .u8 0) = arr := rfl
            rw [this, hsh]
            simp only [run_freeze, Result.andThen_ok, hfr]
            rfl
          simp only [convert, Sem.run_bind, run_underlying' hu1, run_underlying' hu2, Result.andThen_ok]
          cases d1 <;> simp only [run_underlying' hel, Result.andThen_ok, e1]
        · intro j u hu
          simp only [List.getElem?_map, Option.map_eq_some_iff] at hu
          obtain ⟨y, hy, rfl⟩ := hu
          have hlt : j < l.length := by
            rcases Nat.lt_or_ge j l.length with h | h
            · exact h
            · rw [List.getElem?_eq_none h] at hy; cases hy
          simp only [arr]
          rw [Array.getElem?_append_left (by simpa using hlt)]
          have h256 := hb y (List.mem_of_getElem? hy)
          simp [hy, Nat.mod_eq_of_lt h256]
        · simp only [List.length_map, harr]; exact hge
        · exact .inr (Nat.le_refl _)
        · intro ρ' hρ
          simp only [Rel]
          exact ⟨_, hρ, by omega, by simp [harr]; exact hge, by simp [harr]⟩
      · cases h1
    · cases h1
  · rename_i el n o' len cap hu1 hu2
    split at h1
    · rename_i hel
      split at h1
      · rename_i hsd
        obtain ⟨b, g1, g2, g3⟩ := getB_inv h1
        split at g3
        · rename_i ty sz t
          split at g3
          · cases g3
          · rename_i hro
            obtain ⟨g4, g5⟩ := setB_inv g3
            obtain ⟨rfl, rfl⟩ := some_inv g5
            have hsd' : src = dst := by simpa [nbeq] using hsd
            refine opOk_setB g1 g2 (show ty ≠ roT from fun e => by subst e; simp at hro) g4 fun B0 ρ τ w a r hx hag hre hr hblk hlt => ?_
            obtain ⟨ty', cells, fr, c1, c2, c3, c4, c5⟩ := hblk
            have hv := h2 ρ a (hx x mx)
            simp only [Rel] at hv
            obtain ⟨r', hr', hv⟩ := hv
            rw [hr] at hr'; injection hr' with hr'; subst hr'
            obtain ⟨w', fr', k1, k2, k3, k4, k5, k6, k7, k8⟩ := run_freeze_end (P := P) c1 (c4 (show ty ≠ roT from fun e => by subst e; simp at hro)) (r.base + o')
            refine ⟨.slice (some ⟨r.block, r.base + o', none⟩) len cap, w', hex a w w' _ ?_, k2, k3, k6, k7, k8, ⟨ty', cells, fr', k4, c2, c3, fun _ => k5, c5⟩, by simp only [Rel]; exact ⟨r, hr, rfl⟩⟩
            rw [hv]
            subst hsd'
            have hee := hu1.symm.trans hu2
            injection hee with hee
            injection hee with hee
            subst hee
            simp only [convert, Sem.run_bind, run_underlying' hu1, run_underlying' hel, Result.andThen_ok, beq_self_eq_true, k1, Sem.run_pure]
        · cases g3
      · cases h1
    · cases h1
  · rename_i el hu1 hu2 hns
    split at h1
    · rename_i hel
      split at h1
      · rename_i hsl
        obtain ⟨len, h3, h4⟩ := lenA_inv (P := P) h1
        obtain ⟨l, h5, h6, h7⟩ := firsts_inv (P := P) h3
        obtain ⟨ns, h8, h9, h10⟩ := bytesOfAs_inv h5
        obtain ⟨rfl, rfl⟩ := some_inv h8
        refine opOk_val fun B0 ρ τ w a hx hag hre => ⟨.string ⟨⟨ns.map UInt8.ofNat⟩⟩, by simp only [Rel]; exact ⟨trivial, h9⟩, hex a w w _ ?_⟩
        have hr := h2 ρ a (hx x mx)
        obtain ⟨xs, k1, k2, k3⟩ := h7 B0 ρ τ w _ hag hre hr
        have hxs := h10 ρ xs k1
        have hl := h4 ρ _ hr w
        have hc := k3 w rfl
        obtain ⟨b, m, cp, hy⟩ := sliceV_rel hsl hr
        rw [hy] at hl hc ⊢
        have hm : m = len := by simpa [Builtin.lenOf] using hl
        subst hm
        cases b with
        | none =>
          have : xs = [] := by
            simp only [Builtin.firstCells, Sem.run_pure] at hc
            injection hc with hc
            have := congrArg Array.toList hc
            simpa using this.symm
          subst this
          have hns : ns = [] := by
            cases ns with
            | nil => rfl
            | cons n ns => simp at hxs
          subst hns
          simp only [convert, Sem.run_bind, run_underlying' hu1, run_underlying' hu2, run_underlying' hel, Result.andThen_ok, Conv.bytesToString, Sem.run_pure]
          rfl
        | some b =>
          have hld : (loadCells b m).run P w = .ok ((ns.map Int.ofNat).map (Value.int .u8)).toArray w := by
            simp only [Builtin.firstCells, Nat.mul_one] at hc
            rw [hc, hxs]
          have := run_bytesToString w b m cp (ns.map Int.ofNat) hld
          rw [foldl_push] at this
          have e1 : (convert src dst (.slice (some b) m cp)).run P w = ((underlying el).run P w).andThen fun d w' => (match d with
              | .int .u8 => Conv.bytesToString (.slice (some b) m cp)
              | .int .i32 => Conv.runesToString (.slice (some b) m cp)
              | _ => stuck "x").run P w' := by
            simp only [convert, Sem.run_bind, run_underlying' hu1, run_underlying' hu2, run_underlying' hel, Result.andThen_ok]
          rw [e1, run_underlying' hel, Result.andThen_ok]
          exact this
      · cases h1
    · cases h1
  · cases h1
end
end Go.Proofs.Ytenncnbaoejekaa.Ev

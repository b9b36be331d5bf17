/-
  PLAIN: each operation of the evaluator is the model's: maps; slices with three indexes; rows made zero.
-/
import Derived.Test.YtenncnbaoejekaaEvX
import Derived.MapKept
namespace Go.Proofs.Ytenncnbaoejekaa.Ev
open Go.RowKit
open Go.MapKept (IsKey run_setObj_map run_checkKey run_findKey run_keyThatStays heap_set bytes_beq)

section
variable {ρ : Rho}
theorem MRel.length : ∀ {l : List MEnt} {es : List MapEntry}, MRel ρ l es → es.length = l.length
  | [], [], _ => rfl
  | _ :: _, _ :: _, h => by simp [MRel.length h.2]
  | [], _ :: _, h => h.elim
  | _ :: _, [], h => h.elim
theorem MRel.modify {f : MEnt → MEnt} {g : MapEntry → MapEntry} (hf : ∀ x y, RelE ρ x y → RelE ρ (f x) (g y)) : ∀ {l : List MEnt} {es : List MapEntry} (i : Nat), MRel ρ l es → MRel ρ (l.modify i f) (es.modify i g)
  | [], [], i, _ => by cases i <;> exact trivial
  | x :: l, y :: es, 0, h => by
    show MRel ρ (f x :: l) (g y :: es)
    exact ⟨hf x y h.1, h.2⟩
  | x :: l, y :: es, i + 1, h => by
    show MRel ρ (x :: l.modify i f) (y :: es.modify i g)
    exact ⟨h.1, MRel.modify hf i h.2⟩
  | [], _ :: _, _, h => h.elim
  | _ :: _, [], _, h => h.elim
theorem MRel.erase : ∀ {l : List MEnt} {es : List MapEntry} (i : Nat), MRel ρ l es → MRel ρ (l.eraseIdx i) (es.eraseIdx i)
  | [], [], _, _ => trivial
  | _ :: _, _ :: _, 0, h => h.2
  | x :: l, y :: es, i + 1, h => by
    show MRel ρ (x :: l.eraseIdx i) (y :: es.eraseIdx i)
    exact ⟨h.1, MRel.erase i h.2⟩
  | [], _ :: _, _, h => h.elim
  | _ :: _, [], _, h => h.elim
theorem MRel.push {x : MEnt} {y : MapEntry} (hx : RelE ρ x y) : ∀ {l : List MEnt} {es : List MapEntry}, MRel ρ l es → MRel ρ (l ++ [x]) (es ++ [y])
  | [], [], _ => ⟨hx, trivial⟩
  | _ :: _, _ :: _, h => ⟨h.1, MRel.push hx h.2⟩
  | [], _ :: _, h => h.elim
  | _ :: _, [], h => h.elim
theorem keyOk_isKey {d : TypeDesc} {k : V} {kv : Value} (h : keyOk d k = true) (hr : Rel ρ k kv) : IsKey d kv := by
  unfold keyOk at h
  split at h
  · simp only [Rel] at hr
    obtain ⟨rfl, _⟩ := hr
    exact (eqKd_eq h).symm
  · simp only [Rel] at hr
    obtain ⟨rfl, _⟩ := hr
    trivial
  · cases h
theorem ba_beq (a b : List UInt8) : ((⟨⟨a⟩⟩ : ByteArray) == ⟨⟨b⟩⟩) = (a == b) := by
  rw [Bool.eq_iff_iff, bytes_beq, beq_iff_eq]
  constructor
  · intro h; injection h with h; injection h
  · rintro rfl; rfl
/-- keys alike? -/
theorem keyEq_ok {d : TypeDesc} {k x : V} {kv xv : Value} {b : Bool} (hk : keyOk d k = true) (h : keyEq k x = some b) (h1 : Rel ρ k kv) (h2 : Rel ρ x xv) : Instr.sameNow d kv xv = some b ∧ (b = true → xv = kv) := by
  unfold keyEq at h
  split at h
  · rename_i k1 a k2 a'
    simp only [Rel] at h1 h2
    obtain ⟨rfl, _⟩ := h1
    obtain ⟨rfl, _⟩ := h2
    split at h
    · rename_i hkd
      injection h with h
      have hkd' : k1 = k2 := eqKd_eq hkd
      subst hkd'
      unfold keyOk at hk
      split at hk
      · rw [eqI_eq] at h
        subst h
        refine ⟨by simp [Instr.sameNow], fun e => ?_⟩
        have : a = a' := by simpa using e
        rw [this]
      · rename_i e; cases e
      · cases hk
    · cases h
  · simp only [Rel] at h1 h2
    obtain ⟨rfl, g1⟩ := h1
    obtain ⟨rfl, g2⟩ := h2
    injection h with h
    unfold keyOk at hk
    split at hk
    · rename_i e; cases e
    · have e1 := map_inj _ _ g1 g2
      rw [eqL_eq] at h
      subst h
      refine ⟨by simp only [Instr.sameNow, ba_beq, e1], fun e => ?_⟩
      rw [decide_eq_true_eq] at e
      rw [e]
    · cases hk
  · cases h
/-- what is found -/
theorem mfind_ok {d : TypeDesc} {k : V} {kv : Value} (hk : keyOk d k = true) (h1 : Rel ρ k kv) : ∀ {l : List MEnt} {es : List MapEntry} {i : Nat} {a : Option (Nat × V × Nat)}, MRel ρ l es → mfind k l i = some a →
    (a = none → Instr.findNow d kv es i = some none) ∧ ∀ y, a = some y → ∃ e, i ≤ y.1 ∧ es[y.1 - i]? = some e ∧ Instr.findNow d kv es i = some (some (y.1, e.val)) ∧ Rel ρ y.2.1 e.val ∧ e.born = y.2.2 ∧ e.key = kv
  | [], [], i, a, _, h => by
    have h' : (some none : Option (Option (Nat × V × Nat))) = some a := h
    injection h' with h'; subst h'
    exact ⟨fun _ => rfl, fun y h => by cases h⟩
  | x :: l, y :: es, i, a, hm, h => by
    have h' : (match keyEq k x.1 with
      | none => none
      | some true => some (some (i, x.2.1, x.2.2))
      | some false => mfind k l (i + 1)) = some a := h
    split at h'
    · cases h'
    · rename_i he
      injection h' with h'
      obtain ⟨s1, s2⟩ := keyEq_ok hk he h1 hm.1.1
      refine ⟨fun h => (by rw [← h'] at h; cases h), fun z hz => ?_⟩
      rw [← h'] at hz
      injection hz with hz; subst hz
      exact ⟨y, Nat.le_refl _, by simp, by simp [Instr.findNow, s1], hm.1.2.1, hm.1.2.2, s2 rfl⟩
    · rename_i he
      obtain ⟨s1, _⟩ := keyEq_ok hk he h1 hm.1.1
      obtain ⟨k1, k2⟩ := mfind_ok hk h1 hm.2 h'
      have e1 : Instr.findNow d kv (y :: es) i = Instr.findNow d kv es (i + 1) := by simp [Instr.findNow, s1]
      refine ⟨fun h => by rw [e1]; exact k1 h, fun z hz => ?_⟩
      obtain ⟨e, q1, q2, q3, q4⟩ := k2 z hz
      refine ⟨e, by omega, ?_, by rw [e1]; exact q3, q4⟩
      rw [show z.1 - i = (z.1 - (i + 1)) + 1 by omega]
      simpa using q2
  | [], _ :: _, _, _, h, _ => h.elim
  | _ :: _, [], _, _, h, _ => h.elim
end
section
variable {P : Program} {c : Cx} {st st' : St} {v : V} {e : Env} {o : Oper}
/-- a block turns; no value -/
theorem opOk_setS {n : Nat} {b b' : B} (g1 : c.ok n = true) (g2 : st.h.get n = some b) (gl : b.live) (g4 : c.wb ≤ n)
    (h : ∀ (B0 : Nat) (ρ : Rho) (τ : Mem) (w : World) (a : Act) (r : R), (∀ x, x ∈ o.op.operands.toList → TmpRel ρ e a x) → Agree c st τ → Real ρ B0 τ w → ρ n = some r → Blk ρ b r w → r.block < w.heap.size →
      ∃ (w' : World), (execOp a.eval o).run P w = .ok .skip w' ∧ w'.heap.size = w.heap.size ∧ (∀ k, k ≠ r.block → w'.heap[k]? = w.heap[k]?) ∧ w'.os = w.os ∧ w'.tape = w.tape ∧ w'.output = w.output ∧ Blk ρ b' r w') :
    StepOk c st ⟨st.nx, st.h.set n b'⟩ ∧ OpOk P c st ⟨st.nx, st.h.set n b'⟩ .u e o :=
  ⟨stepOk_set g1 g2 g4, fun B0 ρ τ w a h1 h2 h3 hf K Q hK => by
    have hτ := h2 n _ g1 g2
    obtain ⟨r, r1, r2, r3, r4⟩ := h3.blk n _ hτ
    obtain ⟨w', k1, k2, k3, k4, k5, k6, k7⟩ := h B0 ρ τ w a r h1 h2 h3 r1 r4 r3
    have hreal : Real ρ B0 (ov st ⟨st.nx, st.h.set n b'⟩ τ) w' := by
      rw [ov_set h2 g1 g2]
      exact h3.set hτ gl r1 k2 k3 k7
    have hfin := hK ρ undef w' (Rho.le_refl _) (Dom.refl _ _ _) rel_u hreal ⟨k4, k5, k6, by rw [k2]; exact Nat.le_refl _, fun k hk => k3 k (by have := r2 gl; omega)⟩
    unfold Oper.wp
    rw [k1]
    exact hfin⟩
theorem mapT_inv {β : Type} {q : β} {t : TypeId} {x : V} {k : TypeId → Option β} (h : mapT P t x k = some q) : ∃ kt el d, P.underlying t = some (.map kt el) ∧ P.underlying kt = some d ∧ keyOk d x = true ∧ k el = some q := by
  unfold mapT at h
  split at h
  · rename_i kt el hu
    split at h
    · rename_i d hd
      split at h
      · rename_i hk; exact ⟨kt, el, d, hu, hd, by simpa using hk, h⟩
      · cases h
    · cases h
  · cases h
theorem getM_inv {β : Type} {q : β} {m : V} {k : Nat → List MEnt → Nat → Option β} (h : getM c st m k = some q) : ∃ n l clock, m = .m n ∧ c.ok n = true ∧ st.h.get n = some (.mp l clock) ∧ k n l clock = some q := by
  unfold getM at h
  split at h
  · obtain ⟨b, h1, h2, h3⟩ := getB_inv h
    split at h3
    · exact ⟨_, _, _, rfl, h1, h2, h3⟩
    · cases h3
  · cases h
theorem zeroV_inv {t : TypeId} {k : V → Res} {q : V × St} (h : zeroV P t k = some q) : ∃ z y, k z = some q ∧ (∀ ρ, Rel ρ z y) ∧ ∀ w, (zeroValue t).run P w = .ok y w := by
  unfold zeroV at h
  split at h
  · cases h
  · rename_i i hi
    split at h
    · cases h
    · rename_i y hy
      obtain ⟨z, h1, h2⟩ := ofV_inv h
      exact ⟨z, y, h1, h2, fun w => by simp [zeroValue, typeInfo, hi, hy]⟩
theorem rel_m {ρ : Rho} {n : Nat} {x : Value} {r : R} (h : Rel ρ (.m n) x) (hr : ρ n = some r) : x = .map (some r.block) := by
  simp only [Rel] at h
  obtain ⟨r', h1, rfl⟩ := h
  rw [hr] at h1; injection h1 with h1; subst h1; rfl
theorem ok_makeMap {t : TypeId} (ho : o.op = .makeMap t none) (h : (match P.underlying t with | some (.map _ _) => newB st (.mp [] 0) fun n st => (some (.m n, st) : Res) | _ => none) = some (v, st')) : StepOk c st st' ∧ OpOk P c st st' v e o := by
  split at h
  · rw [newB_eq] at h
    obtain ⟨rfl, rfl⟩ := some_inv h
    refine opOk_newB fun B0 ρ τ w a _ _ _ => ⟨.map (some w.heap.size), w.alloc (.map #[] 0), 0, ?_, by rw [show (w.alloc (.map #[] 0)).heap = w.heap.push (.map #[] 0) from rfl, Array.size_push], fun k hk => Below.heap_alloc w _ k hk, rfl, rfl, rfl, fun ρ' _ hρ => ⟨⟨#[], ?_, trivial⟩, ?_⟩⟩
    · simp [execOp, ho, Instr.makeMap, Result.andThen]
    · show (w.heap.push (.map #[] 0))[w.heap.size]? = _
      simp
    · simp only [Rel]; exact ⟨_, hρ, rfl⟩
  · cases h
theorem ok_lookup {t : TypeId} {x ix : Operand} {ok : Bool} (ho : o.op = .lookup t x ix ok) (h : (opd e x fun m => opd e ix fun k => lookE P c st t m k ok) = some (v, st')) : StepOk c st st' ∧ OpOk P c st st' v e o := by
  obtain ⟨vm, h1, h2⟩ := opd_inv h
  obtain ⟨vk, h3, h4⟩ := opd_inv h1
  have mx : x ∈ o.op.operands.toList := by simp [ho, Op.operands]
  have mi : ix ∈ o.op.operands.toList := by simp [ho, Op.operands]
  unfold lookE at h3
  obtain ⟨kt, el, d, hu, hd, hk, h5⟩ := mapT_inv h3
  have fin : ∀ (y : V) (b : Bool), lookV ok st y b = some (v, st') → st' = st ∧ ∀ ρ yv, Rel ρ y yv → Rel ρ v (if ok then .tuple #[yv, .bool b] else yv) := fun y b hl => by
    unfold lookV at hl
    split at hl
    · obtain ⟨rfl, rfl⟩ := some_inv hl
      refine ⟨rfl, fun ρ yv hy => ?_⟩
      simp only [Rel, if_true]
      exact ⟨_, rfl, .cons hy (.cons (rel_bool _) .nil)⟩
    · obtain ⟨rfl, rfl⟩ := some_inv hl
      exact ⟨rfl, fun ρ yv hy => by simpa using hy⟩
  split at h5
  · obtain ⟨z, y, k1, k2, k3⟩ := zeroV_inv h5
    obtain ⟨rfl, k4⟩ := fin z false k1
    refine opOk_val fun B0 ρ τ w a hx _ _ => ⟨_, k4 ρ y (k2 ρ), ?_⟩
    have hm := h2 ρ a (hx x mx)
    have hkv := h4 ρ a (hx ix mi)
    simp only [Rel] at hm
    obtain ⟨hm, _⟩ := hm
    have hik := keyOk_isKey hk hkv
    simp only [execOp, ho, hm, Instr.lookup, Sem.run_bind, run_underlying' hu, Result.andThen_ok, Sem.run_pure, run_checkKey hd hik _ 9999, run_findKey hd (show Instr.findNow d (a.eval ix) (#[] : Array MapEntry).toList 0 = some none from rfl), k3 w]
  · rename_i hnm
    obtain ⟨n, l, clock, rfl, g1, g2, g3⟩ := getM_inv h5
    split at g3
    · cases g3
    · rename_i hf
      obtain ⟨z, y, k1, k2, k3⟩ := zeroV_inv g3
      obtain ⟨rfl, k4⟩ := fin z false k1
      refine opOk_val fun B0 ρ τ w a hx hag hre => ⟨_, k4 ρ y (k2 ρ), ?_⟩
      obtain ⟨r, r1, _, _, es, r2, r3⟩ := hre.blk n _ (hag n _ g1 g2)
      have hm := rel_m (h2 ρ a (hx x mx)) r1
      have hkv := h4 ρ a (hx ix mi)
      have hik := keyOk_isKey hk hkv
      have hfn := (mfind_ok hk hkv r3 hf).1 rfl
      simp only [execOp, ho, hm, Instr.lookup, Sem.run_bind, run_underlying' hu, Result.andThen_ok, Sem.run_pure, MapKept.run_getObj_map r2, run_checkKey hd hik _ 9999, run_findKey hd hfn, k3 w]
    · rename_i y hf
      obtain ⟨rfl, k4⟩ := fin _ true g3
      refine opOk_val fun B0 ρ τ w a hx hag hre => ?_
      obtain ⟨r, r1, _, _, es, r2, r3⟩ := hre.blk n _ (hag n _ g1 g2)
      have hm := rel_m (h2 ρ a (hx x mx)) r1
      have hkv := h4 ρ a (hx ix mi)
      have hik := keyOk_isKey hk hkv
      obtain ⟨en, _, _, hfn, q4, _⟩ := (mfind_ok hk hkv r3 hf).2 y rfl
      refine ⟨_, k4 ρ _ q4, ?_⟩
      simp only [execOp, ho, hm, Instr.lookup, Sem.run_bind, run_underlying' hu, Result.andThen_ok, Sem.run_pure, MapKept.run_getObj_map r2, run_checkKey hd hik _ 9999, run_findKey hd hfn]
/-- what a map is behind a write -/
theorem map_set {ρ : Rho} {w : World} {r : R} {es es' : Array MapEntry} {l' : List MEnt} {clock clock' : Nat} (hb : w.heap[r.block]? = some (.map es clock)) (hm : MRel ρ l' es'.toList) :
    ({ w with heap := w.heap.setIfInBounds r.block (.map es' clock') } : World).heap.size = w.heap.size ∧ (∀ k, k ≠ r.block → ({ w with heap := w.heap.setIfInBounds r.block (.map es' clock') } : World).heap[k]? = w.heap[k]?) ∧
      Blk ρ (.mp l' clock') r { w with heap := w.heap.setIfInBounds r.block (.map es' clock') } :=
  ⟨by simp, fun k hk => (heap_set hb).2 k hk, es', (heap_set hb).1, hm⟩
theorem ok_mput {t : TypeId} {m k x : Operand} (ho : o.op = .mapUpdate t m k x ∨ o.op = .insert t m k x) (h : (opd e m fun m => opd e k fun k => opd e x fun x => mputE P c st t m k x) = some (v, st')) : StepOk c st st' ∧ OpOk P c st st' v e o := by
  obtain ⟨vm, h1, h2⟩ := opd_inv h
  obtain ⟨vk, h3, h4⟩ := opd_inv h1
  obtain ⟨vx, h5, h6⟩ := opd_inv h3
  have mm : m ∈ o.op.operands.toList := by rcases ho with ho | ho <;> simp [ho, Op.operands]
  have mk : k ∈ o.op.operands.toList := by rcases ho with ho | ho <;> simp [ho, Op.operands]
  have mx : x ∈ o.op.operands.toList := by rcases ho with ho | ho <;> simp [ho, Op.operands]
  unfold mputE at h5
  obtain ⟨kt, el, d, hu, hd, hk, h7⟩ := mapT_inv h5
  obtain ⟨n, l, clock, rfl, g1, g2, g3⟩ := getM_inv h7
  have hex : ∀ (a : Act) (w w' : World), (Instr.mapUpdate t (a.eval m) (a.eval k) (a.eval x)).run P w = .ok () w' → (execOp a.eval o).run P w = .ok .skip w' := fun a w w' hu => by
    rcases ho with ho | ho <;> simp [execOp, ho, hu]
  split at g3
  · cases g3
  · rename_i hf
    rw [fn_eq] at g3
    obtain ⟨g4, g5⟩ := setB_inv g3
    obtain ⟨rfl, rfl⟩ := some_inv g5
    refine opOk_setS g1 g2 trivial g4 fun B0 ρ τ w a r hx hag hre hr hblk hlt => ?_
    obtain ⟨es, r2, r3⟩ := hblk
    have hm := rel_m (h2 ρ a (hx m mm)) hr
    have hkv := h4 ρ a (hx k mk)
    have hxv := h6 ρ a (hx x mx)
    have hik := keyOk_isKey hk hkv
    have hfn := (mfind_ok hk hkv r3 hf).1 rfl
    obtain ⟨s1, s2, s3⟩ := map_set (ρ := ρ) (r := r) (l' := l ++ [(vk, vx, clock)]) (es' := es.push { key := a.eval k, val := a.eval x, born := clock }) (clock' := clock + 1) r2 (by
      rw [Array.toList_push]; exact MRel.push ⟨hkv, hxv, rfl⟩ r3)
    refine ⟨_, hex a w _ ?_, s1, s2, rfl, rfl, rfl, s3⟩
    rw [hm]
    simp only [Instr.mapUpdate, Sem.run_bind, run_underlying' hu, Result.andThen_ok, MapKept.run_getObj_map r2, run_checkKey hd hik _ 9999, run_findKey hd hfn, run_setObj_map _ r2]
  · rename_i y hf
    obtain ⟨g4, g5⟩ := setB_inv g3
    obtain ⟨rfl, rfl⟩ := some_inv g5
    refine opOk_setS g1 g2 trivial g4 fun B0 ρ τ w a r hx hag hre hr hblk hlt => ?_
    obtain ⟨es, r2, r3⟩ := hblk
    have hm := rel_m (h2 ρ a (hx m mm)) hr
    have hkv := h4 ρ a (hx k mk)
    have hxv := h6 ρ a (hx x mx)
    have hik := keyOk_isKey hk hkv
    obtain ⟨en, _, q2, hfn, q4, q5, q6⟩ := (mfind_ok hk hkv r3 hf).2 y rfl
    have q2' : es[y.1]? = some en := by simpa using q2
    obtain ⟨s1, s2, s3⟩ := map_set (ρ := ρ) (r := r) (l' := l.modify y.1 fun e => (vk, vx, e.2.2)) (es' := es.modify y.1 fun e => { e with key := a.eval k, val := a.eval x }) (clock' := clock) r2 (by
      rw [Array.toList_modify]; exact MRel.modify (f := fun e => (vk, vx, e.2.2)) (g := fun e => { e with key := a.eval k, val := a.eval x }) (fun _ _ h => ⟨hkv, hxv, h.2.2⟩) _ r3)
    refine ⟨_, hex a w _ ?_, s1, s2, rfl, rfl, rfl, s3⟩
    rw [hm]
    simp only [Instr.mapUpdate, Sem.run_bind, run_underlying' hu, Result.andThen_ok, MapKept.run_getObj_map r2, run_checkKey hd hik _ 9999, run_findKey hd hfn, q2', Option.map_some, Option.getD_some, q6, run_keyThatStays hik, run_setObj_map _ r2]
theorem ok_ment {t : TypeId} {m k : Operand} (ho : o.op = .mapEntry t m k) (h : (opd e m fun m => opd e k fun k => mentE P c st t m k) = some (v, st')) : StepOk c st st' ∧ OpOk P c st st' v e o := by
  obtain ⟨vm, h1, h2⟩ := opd_inv h
  obtain ⟨vk, h3, h4⟩ := opd_inv h1
  have mm : m ∈ o.op.operands.toList := by simp [ho, Op.operands]
  have mk : k ∈ o.op.operands.toList := by simp [ho, Op.operands]
  unfold mentE at h3
  obtain ⟨kt, el, d, hu, hd, hk, h7⟩ := mapT_inv h3
  obtain ⟨n, l, clock, rfl, g1, g2, g3⟩ := getM_inv h7
  have hex : ∀ (a : Act) (w w' : World) (u : Value), (Instr.mapEntry t (a.eval m) (a.eval k)).run P w = .ok u w' → (execOp a.eval o).run P w = .ok (.value u) w' := fun a w w' u hu => by
    simp [execOp, ho, hu]
  split at g3
  · cases g3
  · rename_i hf
    obtain ⟨z, zy, z1, z2, z3⟩ := zeroV_inv g3
    rw [fn_eq] at z1
    obtain ⟨g4, g5⟩ := setB_inv z1
    obtain ⟨rfl, rfl⟩ := some_inv g5
    refine opOk_setB g1 g2 trivial g4 fun B0 ρ τ w a r hx hag hre hr hblk hlt => ?_
    obtain ⟨es, r2, r3⟩ := hblk
    have hm := rel_m (h2 ρ a (hx m mm)) hr
    have hkv := h4 ρ a (hx k mk)
    have hik := keyOk_isKey hk hkv
    have hfn := (mfind_ok hk hkv r3 hf).1 rfl
    obtain ⟨s1, s2, s3⟩ := map_set (ρ := ρ) (r := r) (l' := l ++ [(vk, z, clock)]) (es' := es.push { key := a.eval k, val := zy, born := clock }) (clock' := clock + 1) r2 (by
      rw [Array.toList_push]; exact MRel.push ⟨hkv, z2 ρ, rfl⟩ r3)
    refine ⟨.tuple #[zy, goInt clock], _, hex a w _ _ ?_, s1, s2, rfl, rfl, rfl, s3, ?_⟩
    · rw [hm]
      simp only [Instr.mapEntry, Sem.run_bind, run_underlying' hu, Result.andThen_ok, MapKept.run_getObj_map r2, run_checkKey hd hik _ 9999, run_findKey hd hfn, z3 w, run_setObj_map _ r2, Sem.run_pure]
    · simp only [Rel]
      exact ⟨_, rfl, .cons (z2 ρ) (.cons (rel_int _ _) .nil)⟩
  · rename_i y hf
    obtain ⟨g4, g5⟩ := setB_inv g3
    obtain ⟨rfl, rfl⟩ := some_inv g5
    refine opOk_setB g1 g2 trivial g4 fun B0 ρ τ w a r hx hag hre hr hblk hlt => ?_
    obtain ⟨es, r2, r3⟩ := hblk
    have hm := rel_m (h2 ρ a (hx m mm)) hr
    have hkv := h4 ρ a (hx k mk)
    have hik := keyOk_isKey hk hkv
    obtain ⟨en, _, q2, hfn, q4, q5, q6⟩ := (mfind_ok hk hkv r3 hf).2 y rfl
    have q2' : es[y.1]? = some en := by simpa using q2
    obtain ⟨s1, s2, s3⟩ := map_set (ρ := ρ) (r := r) (l' := l.modify y.1 fun e => (vk, e.2.1, e.2.2)) (es' := es.modify y.1 fun e => { e with key := a.eval k }) (clock' := clock) r2 (by
      rw [Array.toList_modify]; exact MRel.modify (f := fun e => (vk, e.2.1, e.2.2)) (g := fun e => { e with key := a.eval k }) (fun _ _ h => ⟨hkv, h.2.1, h.2.2⟩) _ r3)
    refine ⟨.tuple #[en.val, goInt y.2.2], _, hex a w _ _ ?_, s1, s2, rfl, rfl, rfl, s3, ?_⟩
    · rw [hm]
      simp only [Instr.mapEntry, Sem.run_bind, run_underlying' hu, Result.andThen_ok, MapKept.run_getObj_map r2, run_checkKey hd hik _ 9999, run_findKey hd hfn, q2', Option.map_some, Option.getD_some, q5, q6, run_keyThatStays hik, run_setObj_map _ r2, Sem.run_pure]
    · simp only [Rel]
      exact ⟨_, rfl, .cons q4 (.cons (rel_int _ _) .nil)⟩
theorem mborn_ok {ρ : Rho} {n : Nat} : ∀ {l : List MEnt} {es : List MapEntry} {i j : Nat}, MRel ρ l es → mborn n l i = some j → ∃ q, i ≤ j ∧ es.findIdx? (fun e => (e.born : Int) == (n : Int)) = some q ∧ j = i + q
  | [], [], i, j, _, h => by
    have h' : (none : Option Nat) = some j := h
    cases h'
  | x :: l, y :: es, i, j, hm, h => by
    have h' : (match Nat.beq x.2.2 n with | true => some i | false => mborn n l (i + 1)) = some j := h
    have hb := hm.1.2.2
    split at h'
    · rename_i he
      injection h' with h'; subst h'
      refine ⟨0, Nat.le_refl _, ?_, by simp⟩
      have : x.2.2 = n := by simpa [nbeq] using he
      rw [List.findIdx?_cons]
      simp [hb, this]
    · rename_i he
      obtain ⟨q, k1, k2, k3⟩ := mborn_ok hm.2 h'
      refine ⟨q + 1, by omega, ?_, by omega⟩
      have : ¬ x.2.2 = n := by
        intro e
        rw [nbeq] at he
        simp [e] at he
      rw [List.findIdx?_cons]
      have hne : ¬ ((y.born : Int) = (n : Int)) := by rw [hb]; omega
      simp [hne, k2]
  | [], _ :: _, _, _, h, _ => h.elim
  | _ :: _, [], _, _, h, _ => h.elim
theorem ok_msto {t : TypeId} {m s x : Operand} (ho : o.op = .entryStore t m s x) (h : (opd e m fun m => opd e s fun s => opd e x fun x => mstoE c st m s x) = some (v, st')) : StepOk c st st' ∧ OpOk P c st st' v e o := by
  obtain ⟨vm, h1, h2⟩ := opd_inv h
  obtain ⟨vs, h3, h4⟩ := opd_inv h1
  obtain ⟨vx, h5, h6⟩ := opd_inv h3
  have mm : m ∈ o.op.operands.toList := by simp [ho, Op.operands]
  have ms : s ∈ o.op.operands.toList := by simp [ho, Op.operands]
  have mx : x ∈ o.op.operands.toList := by simp [ho, Op.operands]
  unfold mstoE at h5
  obtain ⟨ik, b, rfl, h7⟩ := asNat_inv h5
  obtain ⟨n, l, clock, rfl, g1, g2, g3⟩ := getM_inv h7
  split at g3
  · cases g3
  · rename_i i hf
    obtain ⟨g4, g5⟩ := setB_inv g3
    obtain ⟨rfl, rfl⟩ := some_inv g5
    refine opOk_setS g1 g2 trivial g4 fun B0 ρ τ w a r hx hag hre hr hblk hlt => ?_
    obtain ⟨es, r2, r3⟩ := hblk
    have hm := rel_m (h2 ρ a (hx m mm)) hr
    have hsv := h4 ρ a (hx s ms)
    simp only [Rel] at hsv
    have hxv := h6 ρ a (hx x mx)
    obtain ⟨q, _, q2, q3⟩ := mborn_ok r3 hf
    have hq : i = q := by omega
    subst hq
    have q2' : es.findIdx? (fun e => (e.born : Int) == (b : Int)) = some i := by rw [← Array.toArray_toList (xs := es), List.findIdx?_toArray]; exact q2
    obtain ⟨s1, s2, s3⟩ := map_set (ρ := ρ) (r := r) (l' := l.modify i fun e => (e.1, vx, e.2.2)) (es' := es.modify i fun e => { e with val := a.eval x }) (clock' := clock) r2 (by
      rw [Array.toList_modify]; exact MRel.modify (f := fun e => (e.1, vx, e.2.2)) (g := fun e => { e with val := a.eval x }) (fun _ _ h => ⟨h.1, hxv, h.2.2⟩) _ r3)
    refine ⟨_, ?_, s1, s2, rfl, rfl, rfl, s3⟩
    simp only [execOp, ho, hm, hsv.1, Instr.entryStore, Sem.run_bind, Result.andThen_ok, MapKept.run_getObj_map r2, Go.asInt, asIntOf, Sem.run_pure]
    show (Sem.run P (match es.findIdx? (fun e => (e.born : Int) == (b : Int)) with
      | some i => setObj r.block (.map (es.modify i fun e => { e with val := a.eval x }) clock)
      | none => unsupported (.noEntry "instr/MapEntry.the entry is gone")) w).andThen _ = _
    rw [q2']
    simp only [run_setObj_map _ r2, Result.andThen_ok]
theorem ok_mdel {cl : Call} {t t' : TypeId} {m x : V} (ho : o.op = .call cl) (hb : cl.callee = .builtin .delete) (ht : cl.argTypes.toList = [t, t'])
    (hx : ∀ (ρ : Rho) (a : Act), (∀ y, y ∈ cl.args.toList → TmpRel ρ e a y) → RelL ρ [m, x] (cl.args.toList.map a.eval))
    (h : mdelE P c st t m x = some (v, st')) : StepOk c st st' ∧ OpOk P c st st' v e o := by
  unfold mdelE at h
  obtain ⟨kt, el, d, hu, hd, hk, h5⟩ := mapT_inv h
  have args : ∀ (ρ : Rho) (a : Act) (w : World), (∀ x, x ∈ o.op.operands.toList → TmpRel ρ e a x) → ∃ y y', Rel ρ m y ∧ Rel ρ x y' ∧ (execOp a.eval o).run P w = ((Builtin.delete_ #[t, t'] o.type #[y, y']).run P w).andThen (fun u w' => .ok (.value u) w') := fun ρ a w hxx => by
    rw [ho] at hxx
    obtain ⟨y, y', hy, r1, r2⟩ := relL2 (hx ρ a fun y hy => hxx y (call_ops hb y hy))
    have e1 : cl.args.map a.eval = #[y, y'] := arr2 (by rw [Array.toList_map]; exact hy)
    refine ⟨y, y', r1, r2, ?_⟩
    rw [run_builtin ho hb, e1, arr2 ht]
    simp [builtin]
  split at h5
  · obtain ⟨rfl, rfl⟩ := some_inv h5
    refine opOk_val fun B0 ρ τ w a hxx _ _ => ⟨undef, rel_u, ?_⟩
    obtain ⟨y, y', r1, r2, hrun⟩ := args ρ a w hxx
    simp only [Rel] at r1
    obtain ⟨rfl, _⟩ := r1
    have hik := keyOk_isKey hk r2
    rw [hrun]
    simp only [Builtin.delete_, List.getElem?_toArray, List.getElem?_cons_zero, List.getElem?_cons_succ, Sem.run_bind, run_underlying' hu, Result.andThen_ok, Sem.run_pure, run_checkKey hd hik _ 9999]
    rfl
  · obtain ⟨n, l, clock, rfl, g1, g2, g3⟩ := getM_inv h5
    split at g3
    · cases g3
    · rename_i hf
      obtain ⟨rfl, rfl⟩ := some_inv g3
      refine opOk_val fun B0 ρ τ w a hxx hag hre => ⟨undef, rel_u, ?_⟩
      obtain ⟨y, y', r1, r2, hrun⟩ := args ρ a w hxx
      obtain ⟨r, k1, _, _, es, k2, k3⟩ := hre.blk n _ (hag n _ g1 g2)
      have hm := rel_m r1 k1
      subst hm
      have hik := keyOk_isKey hk r2
      have hfn := (mfind_ok hk r2 k3 hf).1 rfl
      have hsame : ({ w with heap := w.heap.setIfInBounds r.block (.map es clock) } : World) = w := by
        have : w.heap.setIfInBounds r.block (.map es clock) = w.heap := by
          apply Array.ext_getElem?
          intro j
          by_cases hj : j = r.block
          · subst hj; rw [(heap_set k2).1, k2]
          · rw [(heap_set k2).2 j hj]
        rw [this]
      rw [hrun]
      simp only [Builtin.delete_, List.getElem?_toArray, List.getElem?_cons_zero, List.getElem?_cons_succ, Sem.run_bind, run_underlying' hu, Result.andThen_ok, Sem.run_pure, MapKept.run_getObj_map k2, run_checkKey hd hik _ 9999, run_findKey hd hfn, run_setObj_map _ k2, hsame]
      rfl
    · rename_i y0 hf
      obtain ⟨g4, g5⟩ := setB_inv g3
      obtain ⟨rfl, rfl⟩ := some_inv g5
      refine opOk_setB g1 g2 trivial g4 fun B0 ρ τ w a r hxx hag hre hr hblk hlt => ?_
      obtain ⟨es, k2, k3⟩ := hblk
      obtain ⟨y, y', r1, r2, hrun⟩ := args ρ a w hxx
      have hm := rel_m r1 hr
      subst hm
      have hik := keyOk_isKey hk r2
      obtain ⟨en, _, q2, hfn, q4, q5, q6⟩ := (mfind_ok hk r2 k3 hf).2 y0 rfl
      obtain ⟨s1, s2, s3⟩ := map_set (ρ := ρ) (r := r) (l' := l.eraseIdx y0.1) (es' := es.eraseIdxIfInBounds y0.1) (clock' := clock) k2 (by
        rw [Array.toList_eraseIdxIfInBounds]; exact MRel.erase _ k3)
      refine ⟨undef, _, ?_, s1, s2, rfl, rfl, rfl, s3, rel_u⟩
      rw [hrun]
      simp only [Builtin.delete_, List.getElem?_toArray, List.getElem?_cons_zero, List.getElem?_cons_succ, Sem.run_bind, run_underlying' hu, Result.andThen_ok, Sem.run_pure, MapKept.run_getObj_map k2, run_checkKey hd hik _ 9999, run_findKey hd hfn, run_setObj_map _ k2]
      rfl
theorem sliceBounds3_ok {len cap l h m : Nat} {lo hi mx : Option Value} (h0 : ∃ i, mx = some (.int i (Int.ofNat m))) (h1 : ∃ i, hi = some (.int i (Int.ofNat h))) (h2 : Bd 0 l lo) (h3 : l ≤ h) (h4 : h ≤ m) (h5 : m ≤ cap) (w : World) :
    (Instr.sliceBounds true len cap lo hi mx).run P w = .ok (l, h, m) w := by
  obtain ⟨i, rfl⟩ := h0
  obtain ⟨i', rfl⟩ := h1
  rcases h2 with ⟨rfl, rfl⟩ | ⟨j, rfl⟩ <;>
    simp [Instr.sliceBounds, Instr.sliceBound, asIntOf, h3, h4, h5]
theorem ok_slice3 {t : TypeId} {x mx : Operand} {lo hi : Option Operand} (ho : o.op = .slice t x lo hi (some mx)) (h : (opd e x fun v => slice3E P e t v lo hi mx fun a => (some (a, st) : Res)) = some (v, st')) :
    StepOk c st st' ∧ OpOk P c st st' v e o := by
  obtain ⟨v0, h1, h2⟩ := opd_inv h
  have m1 : x ∈ (Op.slice t x lo hi (some mx)).operands.toList := by simp [Op.operands]
  have m2 : ∀ y, lo = some y → y ∈ (Op.slice t x lo hi (some mx)).operands.toList := fun y h => by subst h; simp [Op.operands]
  have m3 : ∀ y, hi = some y → y ∈ (Op.slice t x lo hi (some mx)).operands.toList := fun y h => by subst h; simp [Op.operands]
  have m4 : mx ∈ (Op.slice t x lo hi (some mx)).operands.toList := by simp [Op.operands]
  have one : ∀ {n : Nat} {y : Option Value}, Bd 0 n y → y ≠ none → ∃ i, y = some (.int i (Int.ofNat n)) := fun hb hn => by
    rcases hb with ⟨e, _⟩ | h
    · exact absurd e hn
    · exact h
  unfold slice3E at h1
  split at h1
  · rename_i el n o' _ cap hi' hu
    obtain ⟨ti, h7, h8⟩ := szOf_inv h1
    obtain ⟨m, b1, b2⟩ := bnd_bd h8
    obtain ⟨hh, b3, b4⟩ := bnd_bd b1
    obtain ⟨l, b5, b6⟩ := bnd_bd b3
    split at b5
    · rename_i g1 g2 g3
      simp only [fn_eq] at b5
      obtain ⟨rfl, rfl⟩ := some_inv b5
      refine opOk_val fun B0 ρ τ w a hx _ _ => ?_
      rw [ho] at hx
      have hv := h2 ρ a (hx x m1)
      simp only [Rel] at hv
      obtain ⟨r, hr, hv⟩ := hv
      have k0 := one (b2 ρ a fun y hy => by injection hy with hy; subst hy; exact hx _ m4) (by simp)
      have k1 := one (b4 ρ a fun y hy => hx y (m3 y hy)) (by simp)
      have k2 := b6 ρ a fun y hy => hx y (m2 y hy)
      have q1 : l ≤ hh := by simpa [Nat.ble_eq] using g1
      have q2 : hh ≤ m := by simpa [Nat.ble_eq] using g2
      have q3 : m ≤ cap := by simpa [Nat.ble_eq] using g3
      have := fun len => sliceBounds3_ok (P := P) (len := len) k0 k1 k2 q1 q2 q3 w
      refine ⟨.slice (if m = l then some ⟨r.block, r.base + o', none⟩ else some ⟨r.block, r.base + o' + l * ti.size, none⟩) (hh - l) (m - l), ?_, ?_⟩
      · simp only [Rel]
        refine ⟨r, hr, ?_⟩
        by_cases hc : m = l
        · have : Nat.beq m l = true := by simpa [Nat.beq_eq] using hc
          rw [if_pos hc, this]
        · have : Nat.beq m l = false := by rw [Bool.eq_false_iff]; simpa [Nat.beq_eq] using hc
          rw [if_neg hc, this]; simp [Nat.add_assoc]
      · simp only [execOp, ho, Sem.run_bind, Instr.sliceAt, run_underlying' hu, Result.andThen_ok, hv, Instr.slice, this, run_sizeOf' h7]
        simp [add_off]
    · cases b5
  · rename_i el n o' len z' hi' hu
    obtain ⟨ti, h7, h8⟩ := szOf_inv h1
    obtain ⟨m, b1, b2⟩ := bnd_bd h8
    obtain ⟨hh, b3, b4⟩ := bnd_bd b1
    obtain ⟨l, b5, b6⟩ := bnd_bd b3
    split at b5
    · rename_i g1 g2 g3 g4
      simp only [fn_eq] at b5
      obtain ⟨rfl, rfl⟩ := some_inv b5
      refine opOk_val fun B0 ρ τ w a hx _ _ => ?_
      rw [ho] at hx
      have hv := h2 ρ a (hx x m1)
      simp only [Rel] at hv
      obtain ⟨r, hr, hz0, hle, hv⟩ := hv
      have k0 := one (b2 ρ a fun y hy => by injection hy with hy; subst hy; exact hx _ m4) (by simp)
      have k1 := one (b4 ρ a fun y hy => hx y (m3 y hy)) (by simp)
      have k2 := b6 ρ a fun y hy => hx y (m2 y hy)
      have q1 : l ≤ hh := by simpa [Nat.ble_eq] using g1
      have q2 : hh ≤ m := by simpa [Nat.ble_eq] using g2
      have q3 : m ≤ len := by simpa [Nat.ble_eq] using g3
      have := fun len => sliceBounds3_ok (P := P) (len := len) k0 k1 k2 q1 q2 (Nat.le_trans q3 hle) w
      refine ⟨.slice (if m = l then some ⟨r.block, r.base + o', none⟩ else some ⟨r.block, r.base + o' + l * ti.size, none⟩) (hh - l) (m - l), ?_, ?_⟩
      · simp only [Rel]
        refine ⟨r, hr, ?_⟩
        by_cases hc : m = l
        · have : Nat.beq m l = true := by simpa [Nat.beq_eq] using hc
          rw [if_pos hc, this]
        · have : Nat.beq m l = false := by rw [Bool.eq_false_iff]; simpa [Nat.beq_eq] using hc
          rw [if_neg hc, this]; simp [Nat.add_assoc]
      · simp only [execOp, ho, Sem.run_bind, Instr.sliceAt, run_underlying' hu, Result.andThen_ok, hv, Instr.slice, this, run_sizeOf' h7]
        simp [add_off]
    · cases b5
  · rename_i el hi' hu
    obtain ⟨ti, h7, h8⟩ := szOf_inv h1
    obtain ⟨m, b1, b2⟩ := bnd_bd h8
    obtain ⟨hh, b3, b4⟩ := bnd_bd b1
    obtain ⟨l, b5, b6⟩ := bnd_bd b3
    split at b5
    · obtain ⟨rfl, rfl⟩ := some_inv b5
      refine opOk_val fun B0 ρ τ w a hx _ _ => ?_
      rw [ho] at hx
      have hv := h2 ρ a (hx x m1)
      refine ⟨_, hv, ?_⟩
      simp only [Rel] at hv
      obtain ⟨hv, _⟩ := hv
      have k0 := one (b2 ρ a fun y hy => by injection hy with hy; subst hy; exact hx _ m4) (by simp)
      have k1 := one (b4 ρ a fun y hy => hx y (m3 y hy)) (by simp)
      have k2 := b6 ρ a fun y hy => hx y (m2 y hy)
      have := sliceBounds3_ok (P := P) (len := 0) k0 k1 k2 (Nat.le_refl _) (Nat.le_refl _) (Nat.le_refl _) w
      simp only [execOp, ho, Sem.run_bind, Instr.sliceAt, run_underlying' hu, Result.andThen_ok, hv, Instr.slice, this, run_sizeOf' h7]
      simp
    · cases b5
  · cases h1
theorem ok_clear {cl : Call} {t : TypeId} {x : V} (ho : o.op = .call cl) (hb : cl.callee = .builtin .clear) (ht : cl.argTypes.toList = [t])
    (hx : ∀ (ρ : Rho) (a : Act), (∀ y, y ∈ cl.args.toList → TmpRel ρ e a y) → RelL ρ [x] (cl.args.toList.map a.eval))
    (h : clearE P c st t x = some (v, st')) : StepOk c st st' ∧ OpOk P c st st' v e o := by
  have args : ∀ (ρ : Rho) (a : Act) (w : World), (∀ x, x ∈ o.op.operands.toList → TmpRel ρ e a x) → ∃ y, Rel ρ x y ∧ (execOp a.eval o).run P w = ((Builtin.clear_ #[t] o.type #[y]).run P w).andThen (fun u w' => .ok (.value u) w') := fun ρ a w hxx => by
    rw [ho] at hxx
    obtain ⟨y, hy, r1⟩ := relL1 (hx ρ a fun y hy => hxx y (call_ops hb y hy))
    have e1 : cl.args.map a.eval = #[y] := arr1 (by rw [Array.toList_map]; exact hy)
    refine ⟨y, r1, ?_⟩
    rw [run_builtin ho hb, e1, arr1 ht]
    simp [builtin]
  have main : ∀ (n o' len : Nat), (∀ (ρ : Rho) (y : Value) (r : R), Rel ρ x y → ρ n = some r → ∃ cap, y = .slice (some ⟨r.block, r.base + o', none⟩) len cap) → (elemOf P t fun el _ => zero P el fun zs => putB c st n o' (rep zs len) fun st => (some (.t [], st) : Res)) = some (v, st') → StepOk c st st' ∧ OpOk P c st st' v e o := fun n o' len hy h => by
    obtain ⟨el, i, hu, hi, h1⟩ := elemOf_inv h
    obtain ⟨i2, z, cs, z1, z2, z3, z4, z5⟩ := zero_inv h1
    rw [hi] at z1; injection z1 with z1; subst z1
    obtain ⟨ty, sz, tr, g1, g2, g3, g4, g5⟩ := putB_inv z3
    obtain ⟨rfl, rfl⟩ := some_inv g5
    refine opOk_set g1 g2 g3 g4 fun B0 ρ τ w a r hxx hag hre hr hsz => ?_
    obtain ⟨y, r1, hrun⟩ := args ρ a w hxx
    obtain ⟨cap, rfl⟩ := hy ρ y r r1 hr
    have k1 : RelL ρ (rep cs len) (Builtin.zeroCells z.cells len).toList := rep_rel_arr (z5 ρ) len _ rfl
    have k2 := rep_all z4 len
    have hlen := k1.length
    have hth := hre.there (hag n _ g1 g2) hr g4.2 (i := o') (m := (rep cs len).length) (by omega)
    have hst := run_storeCells_cells (P := P) r.block (r.base + o') (Builtin.zeroCells z.cells len).toList 0 w (fun j hj => by simpa using (hth j (by omega)).1) (fun j hj => by simpa using (hth j (by omega)).2) (k1.oneCell k2)
    simp only [Nat.add_zero] at hst
    refine ⟨undef, _, k1, k2, rel_u, .inl ?_⟩
    rw [hrun]
    have hz : (zeroValue el).run P w = .ok z w := by simp [zeroValue, typeInfo, hi, z2]
    cases len with
    | zero =>
      simp only [Builtin.clear_, List.getElem?_toArray, List.getElem?_cons_zero, Sem.run_bind, run_underlying' hu, Result.andThen_ok, Sem.run_pure]
      simp [Builtin.zeroCells]
      exact ⟨rfl, rfl⟩
    | succ len =>
      simp only [Builtin.clear_, List.getElem?_toArray, List.getElem?_cons_zero, Sem.run_bind, run_underlying' hu, Result.andThen_ok, Sem.run_pure, hz, hst]
      rfl
  unfold clearE at h
  split at h
  · obtain ⟨el, i, hu, hi, h1⟩ := elemOf_inv h
    obtain ⟨rfl, rfl⟩ := some_inv h1
    refine opOk_val fun B0 ρ τ w a hxx _ _ => ⟨undef, rel_u, ?_⟩
    obtain ⟨y, r1, hrun⟩ := args ρ a w hxx
    simp only [Rel] at r1
    obtain ⟨rfl, _⟩ := r1
    rw [hrun]
    simp only [Builtin.clear_, List.getElem?_toArray, List.getElem?_cons_zero, Sem.run_bind, run_underlying' hu, Result.andThen_ok, Sem.run_pure]
    rfl
  · rename_i n o' len cap
    refine main n o' len (fun ρ y r h1 h2 => ?_) h
    simp only [Rel] at h1
    obtain ⟨r', h3, rfl⟩ := h1
    rw [h2] at h3; injection h3 with h3; subst h3
    exact ⟨_, rfl⟩
  · rename_i n o' len z'
    refine main n o' len (fun ρ y r h1 h2 => ?_) h
    simp only [Rel] at h1
    obtain ⟨r', h3, _, _, rfl⟩ := h1
    rw [h2] at h3; injection h3 with h3; subst h3
    exact ⟨_, rfl⟩
  · cases h
theorem ok_slice {t : TypeId} {x : Operand} {lo hi : Option Operand} (ho : o.op = .slice t x lo hi none) (h : (opd e x fun v => (match sliceE P e t v lo hi (fun a => (some (a, st) : Res)) with
    | some r => some r
    | none => sliceG P c st e t v lo hi)) = some (v, st')) : StepOk c st st' ∧ OpOk P c st st' v e o := by
  obtain ⟨v0, h1, h2⟩ := opd_inv h
  split at h1
  · rename_i q hq
    rw [h1] at hq
    exact ok_slice0 ho h2 hq
  · unfold sliceG at h1
    obtain ⟨m1, m2, m3⟩ := slice_ops (t := t) (x := x) (lo := lo) (hi := hi)
    split at h1
    · rename_i el n o' len z' hu _
      obtain ⟨ti, h7, h8⟩ := szOf_inv h1
      obtain ⟨b, g1, g2, g3⟩ := getB_inv h8
      split at g3
      · rename_i ty sz tr
        obtain ⟨hh, h3, h4⟩ := bnd_bd g3
        obtain ⟨l, h5, h6⟩ := bnd_bd h3
        split at h5
        · rename_i q1 q2 q3 q4
          simp only [fn_eq] at h5
          obtain ⟨rfl, rfl⟩ := some_inv h5
          have hlh : l ≤ hh := by simpa [Nat.ble_eq] using q1
          have hsz : o' + hh * ti.size ≤ sz := by simpa [Nat.ble_eq] using q2
          have hz : ti.size = z' := by simpa [Nat.beq_eq] using q3
          refine opOk_val fun B0 ρ τ w a hx hag hre => ?_
          obtain ⟨r0, e1, _, _, _, _, _, _, _, e2, _⟩ := hre.blk n _ (hag n _ g1 g2)
          rw [ho] at hx
          have hv := h2 ρ a (hx x m1)
          simp only [Rel] at hv
          obtain ⟨r, hr, hz0, hle, hv⟩ := hv
          rw [hr] at e1; injection e1 with e1; subst e1
          have hcap : hh ≤ (r.size - o') / z' := by
            rw [Nat.le_div_iff_mul_le hz0, ← hz]; omega
          have k1 := h4 ρ a fun y hy => hx y (m3 y hy)
          have k2 := h6 ρ a fun y hy => hx y (m2 y hy)
          have := sliceBounds_ok (P := P) (b := true) k1 k2 hlh hcap w
          refine ⟨.slice (some (if (r.size - o') / z' = l then ⟨r.block, r.base + o', none⟩ else ⟨r.block, r.base + o' + l * z', none⟩)) (hh - l) ((r.size - o') / z' - l), ?_, ?_⟩
          · simp only [Rel]
            rw [hz]
            have hdiv : (r.size - (o' + l * z')) / z' = (r.size - o') / z' - l := by
              rw [Nat.sub_add_eq, Nat.mul_comm, Nat.sub_mul_div]
            refine ⟨r, hr, hz0, by rw [hdiv]; omega, ?_⟩
            rw [hdiv]
            by_cases hl0 : l = 0
            · subst hl0; simp
            · have hne : l ≠ hh := fun e => by
                have : l = hh → l = 0 := by simpa [nbeq] using q4
                exact hl0 (this e)
              rw [if_neg (by omega)]
              simp [Nat.add_assoc]
          · simp only [execOp, ho, Sem.run_bind, Instr.sliceAt, run_underlying' hu, Result.andThen_ok, hv, Instr.slice, Option.map_none, this, run_sizeOf' h7, hz]
            simp only [Option.map_some, add_off, Sem.run_pure, Result.andThen_ok]
            congr 3
            split <;> rfl
        · cases h5
      · cases g3
    · rename_i el hu _
      obtain ⟨ti, h7, h8⟩ := szOf_inv h1
      obtain ⟨hh, h3, h4⟩ := bnd_bd h8
      obtain ⟨l, h5, h6⟩ := bnd_bd h3
      split at h5
      · obtain ⟨rfl, rfl⟩ := some_inv h5
        refine opOk_val fun B0 ρ τ w a hx _ _ => ?_
        rw [ho] at hx
        have hv := h2 ρ a (hx x m1)
        simp only [Rel] at hv
        obtain ⟨ad, c0, hv⟩ := hv
        have k1 := h4 ρ a fun y hy => hx y (m3 y hy)
        have k2 := h6 ρ a fun y hy => hx y (m2 y hy)
        have := sliceBounds_ok (P := P) (b := true) k1 k2 (Nat.le_refl 0) (Nat.zero_le c0) w
        refine ⟨.slice (some (if c0 = 0 then ad else ad.add (0 * ti.size))) (0 - 0) (c0 - 0), ?_, ?_⟩
        · simp only [Rel]; exact ⟨_, _, rfl⟩
        · simp only [execOp, ho, Sem.run_bind, Instr.sliceAt, run_underlying' hu, Result.andThen_ok, hv, Instr.slice, Option.map_none, this, run_sizeOf' h7]
          simp only [Option.map_some, Sem.run_pure, Result.andThen_ok]
          congr 3
          split <;> rfl
      · cases h5
    · cases h1
end
end Go.Proofs.Ytenncnbaoejekaa.Ev

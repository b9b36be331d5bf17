/-
  PLAIN: the evaluator over inputs: rows that came in; a law's calls.
-/
import Derived.Test.YtenncnbaoejekaaRw
namespace Go.Proofs.Ytenncnbaoejekaa.Ev
open Go.RowKit

/-- a row that came in: its elements' cells -/
def InRow (w : World) (x : Value) (z n : Nat) (l : List V) : Prop := l.length = n * z ∧ ((x = .slice none 0 0 ∧ n = 0) ∨ (n = 0 ∧ ∃ a c, x = .slice (some a) 0 c) ∨
  ∃ b off c cells ty fr, x = .slice (some ⟨b, off, none⟩) n c ∧ w.heap[b]? = some (.cells cells ty fr) ∧ off + n * z ≤ cells.size ∧ ∀ j v, l[j]? = some v → v.one = true ∧ ∃ y, cells[off + j]? = some y ∧ ∀ ρ, Rel ρ v y)
/-- the memory that a law begins with -/
structure Begin (w : World) (st : St) (ρ : Rho) : Prop where
  wf : Wf st
  still : ∀ n b, st.h.get n = some b → ¬ b.live
  real : Real ρ w.heap.size (fun n => st.h.get n) w
  fresh : ∀ n, st.nx ≤ n → ρ n = none
theorem Begin.zero (w : World) : Begin w ⟨0, .lf⟩ (fun _ => none) :=
  ⟨wf_zero, fun n b h => by simp at h, ⟨Nat.le_refl _, fun n b h => by simp at h, fun n m b b' r r' h => by simp at h⟩, fun _ _ => rfl⟩
theorem Begin.row {w : World} {st : St} {ρ : Rho} (hb : Begin w st ρ) {x : Value} {z n : Nat} {l : List V} (h : InRow w x z n l) :
    ∃ st' ρ' v, Begin w st' ρ' ∧ ρ.le ρ' ∧ Rel ρ' v x ∧ Ext st.nx st st' ∧ RdRow st' v z n l := by
  obtain ⟨h1, h2⟩ := h
  rcases h2 with ⟨rfl, rfl⟩ | ⟨rfl, a, c, rfl⟩ | ⟨b, off, c, cells, ty, fr, rfl, h3, h4, h5⟩
  · exact ⟨st, ρ, .c (.slice none 0 0), hb, Rho.le_refl _, by simp [Rel, Value.oneCell'], Ext.refl _ _, h1, .inl ⟨.inl rfl, rfl⟩⟩
  · exact ⟨st, ρ, .e, hb, Rho.le_refl _, by simp only [Rel]; exact ⟨a, c, rfl⟩, Ext.refl _ _, h1, .inl ⟨.inr rfl, rfl⟩⟩
  · have hfr : ρ st.nx = none := hb.fresh _ (Nat.le_refl _)
    have hle : ρ.le (upd ρ st.nx ⟨b, off, cells.size - off⟩) := fun m q e => by
      by_cases hm : m = st.nx
      · subst hm; rw [hfr] at e; cases e
      · rw [upd_ne _ _ hm]; exact e
    have hext := (Ext.refl st.nx st).new (Nat.le_refl _) (.cs roT (n * z) (sets l 0 .lf))
    have hlt : b < w.heap.size := by
      rcases Nat.lt_or_ge b w.heap.size with h | h
      · exact h
      · rw [Array.getElem?_eq_none h] at h3; cases h3
    have hcell : ∀ j v, (sets l 0 (.lf : T V)).get j = some v → l[j]? = some v ∧ j < n * z := fun j v hv => by
      rw [get_sets] at hv
      by_cases hj : 0 ≤ j ∧ j < 0 + l.length
      · rw [if_pos hj] at hv; exact ⟨hv, by omega⟩
      · rw [if_neg hj] at hv; simp at hv
    refine ⟨⟨st.nx + 1, st.h.set st.nx (.cs roT (n * z) (sets l 0 .lf))⟩, upd ρ st.nx ⟨b, off, cells.size - off⟩, .sl st.nx 0 n c, ⟨hext.wf hb.wf, fun m b' hm => ?_, ⟨Nat.le_refl _, fun m b' hm => ?_, fun m m' b' b'' r r' hm _ hl => ?_⟩, fun m hm => ?_⟩, hle, ?_, hext, h1, .inr (.inl ⟨st.nx, 0, c, roT, n * z, sets l 0 .lf, rfl, Nat.lt_succ_self _, T.get_set_same _ _ _, by omega, fun j v hj => ?_⟩)⟩
    · have hm' : (st.h.set st.nx (.cs roT (n * z) (sets l 0 .lf))).get m = some b' := hm
      rw [T.get_set] at hm'
      split at hm'
      · injection hm' with hm'; subst hm'; exact fun h => h rfl
      · exact hb.still m b' hm'
    · have hm' : (st.h.set st.nx (.cs roT (n * z) (sets l 0 .lf))).get m = some b' := hm
      rw [T.get_set] at hm'
      split at hm'
      · rename_i e
        injection hm' with hm'; subst hm' e
        refine ⟨_, upd_same _ _ _, fun h => absurd rfl h, hlt, ty, cells, fr, h3, by simp only; omega, by simp only; omega, fun h => absurd rfl h, fun j v hv => ?_⟩
        obtain ⟨k1, k2⟩ := hcell j v hv
        obtain ⟨k3, y, k4, k5⟩ := h5 j v k1
        exact ⟨k2, k3, y, k4, k5 _⟩
      · rename_i e
        obtain ⟨r, k1, k2, k3, k4⟩ := hb.real.blk m b' hm'
        exact ⟨r, by rw [upd_ne _ _ (fun e' => e e'.symm)]; exact k1, k2, k3, k4.mono hle⟩
    · have hm' : (st.h.set st.nx (.cs roT (n * z) (sets l 0 .lf))).get m = some b' := hm
      rw [T.get_set] at hm'
      split at hm'
      · injection hm' with hm'; subst hm'; exact absurd rfl hl
      · exact absurd hl (hb.still m b' hm')
    · have hm' : st.nx + 1 ≤ m := hm
      rw [upd_ne _ _ (by omega)]
      exact hb.fresh m (by omega)
    · simp only [Rel]; exact ⟨_, upd_same _ _ _, rfl⟩
    · rw [Nat.zero_add, get_sets]
      have : j < l.length := by
        rcases Nat.lt_or_ge j l.length with h | h
        · exact h
        · rw [List.getElem?_eq_none h] at hj; cases hj
      rw [if_pos (by omega)]
      exact hj
section
variable {P : Program}
theorem law_calls {C : CallF} (hC : CallSound P C) {w : World} {st : St} {ρ : Rho} (hb : Begin w st ρ) {f : Nat} {args : List V} {vs : List Value} (hr : RelL ρ args vs) (h : Gd (C ⟨false, [], 0, 0⟩ f args st) fun r => r.1 = .bool true) :
    Calls P f ⟨vs⟩ w fun e w' => e = .returned (.bool true) ∧ Below w.heap.size w w' := by
  obtain ⟨⟨v, st1⟩, h1, h2⟩ := h
  simp only at h2
  subst h2
  refine (hC _ _ _ _ _ _ h1 hb.wf).2 w.heap.size ρ (fun n => st.h.get n) w vs hr (fun n b _ h => h) hb.real (fun n h1 _ => hb.fresh n h1) _ fun ρ' v' w' _ _ k3 _ k5 => ?_
  simp only [Rel] at k3
  obtain ⟨rfl, _⟩ := k3
  exact ⟨rfl, k5⟩
/-- one closed function is known to answer true; all others are run -/
noncomputable def oracF (base : CallF) (fa : Nat) : CallF := fun c f args st => match Nat.beq f fa, args with
  | true, [] => some (.c (.bool true), st)
  | _, args => base c f args st
@[simp] theorem oracF_same (base : CallF) (fa : Nat) (c : Cx) (st : St) : oracF base fa c fa [] st = some (.bool true, st) := by
  unfold oracF; rw [Nat.beq_refl]
theorem oracF_cons (base : CallF) (fa : Nat) (c : Cx) (f : Nat) (v : V) (l : List V) (st : St) : oracF base fa c f (v :: l) st = base c f (v :: l) st := by
  unfold oracF; cases Nat.beq f fa <;> rfl
theorem oracF_ne (base : CallF) {fa f : Nat} (h : Nat.beq f fa = false) (c : Cx) (l : List V) (st : St) : oracF base fa c f l st = base c f l st := by
  unfold oracF; rw [h]
theorem oracF_sound {base : CallF} (hb : CallSound P base ∧ HasBody P base) {fa : Nat} {fn : Func} {b : Code} (hf : P.funcs[fa]? = some fn) (hbd : fn.body = some b) (ha : ∀ w, Calls P fa #[] w fun e w' => e = .returned (.bool true) ∧ Below w.heap.size w w') :
    CallSound P (oracF base fa) ∧ HasBody P (oracF base fa) := by
  constructor
  · intro c f args st v st' h hwf
    unfold oracF at h
    split at h
    · rename_i he
      have he' : f = fa := by simpa [nbeq] using he
      subst he'
      obtain ⟨rfl, rfl⟩ := some_inv h
      refine ⟨.refl _ _, fun B0 ρ τ w vs hvs hag hre hfr R hR => ?_⟩
      simp only [RelL] at hvs
      subst hvs
      refine (ha w).mono fun e w' ⟨h1, h2⟩ => ?_
      subst h1
      have hsz := h2.size
      refine hR ρ _ w' (Rho.le_refl _) (Dom.refl _ _ _) (rel_bool _) ?_ (Below.weak h2 hre.size)
      rw [ov_self]
      refine ⟨Nat.le_trans hre.size hsz, fun n b hb' => ?_, hre.inj⟩
      obtain ⟨r, k1, k2, k3, k4⟩ := hre.blk n b hb'
      exact ⟨r, k1, k2, Nat.lt_of_lt_of_le k3 hsz, k4.congr (h2.block r.block k3)⟩
    · exact hb.1 _ _ _ _ _ _ h hwf
  · intro c f args st r h
    unfold oracF at h
    split at h
    · rename_i he
      have he' : f = fa := by simpa [nbeq] using he
      subst he'
      exact ⟨fn, b, hf, hbd⟩
    · exact hb.2 _ _ _ _ _ h
theorem callL_both (hn : namesOk P = true) (hm : P.follows .mixedOrders = true) : CallSound P (callL P) ∧ HasBody P (callL P) := ⟨callL_sound hn hm, callOf_body⟩
/-- the law itself is run over these -/
noncomputable def lawC (P : Program) (fa : Nat) : CallF := callOf P (evF P (oracF (callL P) fa))
theorem lawC_sound (hn : namesOk P = true) (hm : P.follows .mixedOrders = true) {fa : Nat} {fn : Func} {b : Code} (hf : P.funcs[fa]? = some fn) (hbd : fn.body = some b) (ha : ∀ w, Calls P fa #[] w fun e w' => e = .returned (.bool true) ∧ Below w.heap.size w w') : CallSound P (lawC P fa) :=
  callOf_sound (evF_sound hn hm (oracF_sound (callL_both hn hm) hf hbd ha))
theorem Gd_lawC {c : Cx} {st : St} {fa f : Nat} {fn : Func} {code : Code} (hf : P.funcs[f]? = some fn) (hb : fn.body = some code) (args : List V) (Q : V × St → Prop) :
    Gd (lawC P fa c f args st) Q = Gd ((Ev.over P (oracF (callL P) fa)).E ⟨c.all, c.l, c.wb, fn.ntmps⟩ code (sets args 0 .lf) st) (retK P c fn Q) := Gd_callOf hf hb args Q
@[simp] theorem over_F (F : CallF) : (Ev.over P F).F = F := rfl
@[simp] theorem callee_F : (callee P).F = callL P := rfl
end
end Go.Proofs.Ytenncnbaoejekaa.Ev

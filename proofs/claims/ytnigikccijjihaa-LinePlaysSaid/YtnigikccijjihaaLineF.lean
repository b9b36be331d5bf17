/-
  Contracts of package line, where some blocks may not be touched.
-/
import Derived.Test.YtnigikccijjihaaNewL
set_option linter.unusedSimpArgs false
namespace Go.Proofs.Ytnigikccijjihaa
open Go.RowKit Ev
theorem there_F (st : St) (fl : List (Nat × Nat)) (a : Int) (nt : Nat) : Gd (callL Try.prog ⟨false, fl, 0, nt⟩ 124 [.int .i64 a] st) fun r => r = (.bool (decide (0 ≤ a ∧ a < 8)), st) := by
  rw [Gd_callL Try.func124 rfl]
  by_cases h1 : 0 ≤ a
  · by_cases h2 : a < 8
    · simp [sets, T.get_set, h1, h2]
    · simp [sets, T.get_set, h1, h2]
  · simp [sets, T.get_set, h1]
theorem open_F (st : St) (fl : List (Nat × Nat)) (n : Nat) (y : V) (m : LM) (h : LineAt st n y m) (hfl : inF fl n = false) (nt : Nat) :
    Gd (callL Try.prog ⟨false, fl, 0, nt⟩ 50 [.p n 0] st) fun r => r = (.int .i64 (m.O.length : Int), st) := by
  obtain ⟨t, h1, _, _, h4, _⟩ := h.blk
  rw [Gd_callL Try.func50 rfl]
  simp [sets, T.get_set, loadE_eq, getC_eq, h1, h4, hfl, h.row.rd.lenS]
set_option maxHeartbeats 1000000 in
theorem store_F' (st : St) (fl : List (Nat × Nat)) (n : Nat) (y : V) (m : LM) (h : LineAt st n y m) (hfl : ∀ k, Ow n y k → inF fl k = false) (hfn : ∀ k, st.nx ≤ k → inF fl k = false) (a : Int) (v : BitVec 64) (nt : Nat) (hO : m.O.length < 1000) :
    Gd (callL Try.prog ⟨false, fl, 0, nt⟩ 42 [.p n 0, .int .i64 a, wd v] st) fun r => r.1 = .bool (decide (0 ≤ a ∧ a < 8)) ∧ ∃ y', LineAt r.2 n y' (m.store a v) ∧ Kept n y st r.2 ∧ ∀ k, Ow n y' k → Ow n y k ∨ st.nx ≤ k := by
  obtain ⟨t, h1, h2, h3, h4, h5⟩ := h.blk
  have f1 := hfl n (.inl rfl)
  have f2 := hfn st.nx (Nat.le_refl _)
  rw [Gd_callL Try.func42 rfl]
  simp [evOp_call, sets, T.get_set]
  refine Gd.mono (there_F st fl a _) ?_
  rintro _ rfl
  by_cases hin : 0 ≤ a ∧ a < 8
  · obtain ⟨b, rfl⟩ := Int.eq_ofNat_of_zero_le hin.1
    have hb : b < 8 := by omega
    have e16 : ¬ 8 + b = 16 := by omega
    have e17 : ¬ 8 + b = 17 := by omega
    have e18 : 8 + b ≤ 17 := by omega
    simp [T.get_set, f1, hin, hb, loadE_eq, getC_eq, h1, putB_eq, roT, sets, h4, e16, e17, e18]
    have hv8 : ∀ i w, (m.N.set b v)[i]? = some w → (t.set (8 + b) (wd v)).get (8 + i) = some (wd w) := fun i w hw => by
      rw [T.get_set]
      by_cases hi : b = i
      · subst hi
        rw [List.getElem?_set_self (by have := h.ln; omega)] at hw
        injection hw with hw; subst hw
        rw [if_pos rfl]
      · rw [List.getElem?_set_ne hi] at hw
        rw [if_neg (by omega)]
        exact h3 i w hw
    have hs8 : ∀ i w, m.S[i]? = some w → (t.set (8 + b) (wd v)).get i = some (wd w) := fun i w hw => by
      rw [T.get_set_ne _ _ (by have := lt_of_get hw; have := h.ls; omega)]
      exact h2 i w hw
    have hN8 : (m.N.set b v).length = 8 := by rw [List.length_set]; exact h.ln
    have hu := h.upd (S' := m.S) (N' := m.N.set b v) (F' := m.F) (t' := t.set (8 + b) (wd v)) h.ls hN8 hs8 hv8 (by rw [T.get_set_ne _ _ e16]; exact h4) (by rw [T.get_set_ne _ _ e17]; exact h5)
    refine evOp_build1 (v := .g [.int .i64 b, wd v]) (cs := [.int .i64 b, wd v]) (fun k => el155 k) (fun k => ze160 k) rfl (by omega) (by simp [T.get_set]) (fun k => rfl) rfl ?_
    simp [T.get_set]
    refine Gd_appendL un155 un155 io160 (n := m.O.length) (lx := 1) (new := [.int .i64 b, wd v]) (hu.1.row.ext ((Ext.refl _ _).new (Nat.le_refl _) _)) (fun m o ln e => hfl m (.inr ⟨o, ln, 2, e⟩)) (Nat.zero_le _) (by decide) (fun s' h => by cases h) (fun k => rfl) (fun k => by simp [f2, getC_eq, getsB_2, T.get_set, sets]) rfl (by omega) ?_
    intro s' st' ho he hk hs'
    have hone : s'.one = true := ho.rd.one
    have hnn : n < st.nx := h.lt
    have hne : ¬ st.nx = n := by omega
    have hap : ∀ o l z, s' ≠ .sg n o l z := fun o l z e => by
      rcases hs' with e1 | ⟨ln, e1⟩
      · rw [e1] at e; exact h.apart o l z e
      · rw [e1] at e; injection e with e; simp only at e; omega
    have hle : st.nx + 1 ≤ st'.nx := he.le
    have hg : st'.h.get n = some (.cs 157 18 (t.set (8 + b) (wd v))) := by
      rw [hk n (by show n < st.nx + 1; omega) (fun o ln => h.apart o ln 2)]
      show ((st.h.set n _).set st.nx _).get n = _
      rw [T.get_set_ne _ _ hne, T.get_set_same]
    simp [T.get_set, storeK_1 hone, f1, putB_eq, hg, roT, sets]
    have hst : m.store (b : Int) v = { m with N := m.N.set b v, O := m.O ++ [((b : Int), v)] } := by unfold LM.store; rw [if_pos hin]; rfl
    rw [hst]
    have hwf0 : Wf st → Wf st' := fun w => he.wf (((Ext.refl 0 _).new (Nat.zero_le _) _).wf (hu.2.wf w))
    refine ⟨s', ⟨h.ls, hN8, by show n < st'.nx; omega, hap, by simp; omega, fun r hr => ?_, ⟨_, T.get_set_same _ _ _, fun i w hw => ?_, fun i w hw => ?_, T.get_set_same _ _ _, ?_⟩, ?_⟩, ⟨by show st.nx ≤ st'.nx; omega, fun w => ?_, fun k hk1 hk2 => ?_⟩, fun k hk1 => ?_⟩
    · have hr' : r ∈ m.O ++ [((b : Int), v)] := hr
      rcases List.mem_append.1 hr' with hr | hr
      · exact h.oks r hr
      · simp at hr; subst hr; exact ⟨by simp, by simp; omega⟩
    · have hw' : m.S[i]? = some w := hw
      rw [T.get_set_ne _ _ (by have := lt_of_get hw'; have := h.ls; omega)]
      exact hs8 i w hw
    · have hw' : (m.N.set b v)[i]? = some w := hw
      rw [T.get_set_ne _ _ (by have := lt_of_get hw'; omega)]
      exact hv8 i w hw
    · rw [T.get_set_ne _ _ (by omega), T.get_set_ne _ _ e17]; exact h5
    · show OwnRow 0 _ s' 2 (m.O ++ [((b : Int), v)]).length (ocells (m.O ++ [((b : Int), v)]))
      rw [ocells_app, List.length_append]
      exact OwnRow.setOther ho hap _
    · exact ((Ext.refl 0 st').set (Nat.zero_le _) (by omega) _).wf (hwf0 w)
    · show (st'.h.set n _).get k = _
      rw [T.get_set_ne _ _ (fun e => hk2 (.inl e.symm)), hk k (by show k < st.nx + 1; omega) (fun o ln e => hk2 (.inr ⟨o, ln, 2, e⟩))]
      show ((st.h.set n _).set st.nx _).get k = _
      rw [T.get_set_ne _ _ (by omega), T.get_set_ne _ _ (fun e => hk2 (.inl e.symm))]
    · rcases hk1 with e | ⟨o, l, z, e⟩
      · exact .inl (.inl e)
      · rcases hs' with e1 | ⟨ln, e1⟩
        · rw [e1] at e; exact .inl (.inr ⟨o, l, z, e⟩)
        · rw [e1] at e; injection e with e; simp only at e; exact .inr (by omega)
  · have hd : decide (0 ≤ a ∧ a < 8) = false := by simpa using hin
    have hst : m.store a v = m := by unfold LM.store; rw [if_neg hin]
    simp only [hd, hst]
    simp [T.get_set]
    exact ⟨fun _ => by omega, y, h, Kept.refl _ _ _, fun k hk => .inl hk⟩
theorem Ev.RdRow.firstsF {st : St} {fl : List (Nat × Nat)} {wb nt z n : Nat} {x : V} {l : List V} {β : Type} (h : RdRow st x z n l) (hf : ∀ q, Nm x q → inF fl q = false) (k : List V → Option β) : Ev.firsts ⟨false, fl, wb, nt⟩ st z n x k = k l := by
  obtain ⟨h1, h2⟩ := h
  rcases h2 with ⟨hx, rfl⟩ | ⟨m, o, q, ty, sz, t, rfl, _, h4, _, h6⟩ | ⟨m, o, ty, sz, t, rfl, _, h4, _, h6⟩
  · have hl : l = [] := List.eq_nil_of_length_eq_zero (by rw [h1]; simp)
    subst hl
    rcases hx with rfl | rfl <;> rfl
  · have hm := hf m (.inr ⟨_, _, _, rfl⟩)
    rw [firsts_sl, if_pos (Nat.le_refl _), getC_eq, h4]
    simp only [ok_top, hm, Bool.not_false, cond_true, Option.bind_some, csK_cs]
    rw [← h1]
    exact getsB_list h6 k
  · have hm := hf m (.inl ⟨_, _, _, rfl⟩)
    have e1 : Ev.firsts ⟨false, fl, wb, nt⟩ st z n (.sg m o n z) k = (match Nat.ble n n with | true => getC ⟨false, fl, wb, nt⟩ st m fun t => getsB t (n * z) o k | false => none) := rfl
    have e2 : Nat.ble n n = true := by rw [Nat.ble_eq]; exact Nat.le_refl _
    rw [e1, e2]
    simp only
    rw [getC_eq, h4]
    simp only [ok_top, hm, Bool.not_false, cond_true, Option.bind_some, csK_cs]
    rw [← h1]
    exact getsB_list h6 k
theorem sure_F (st : St) (fl : List (Nat × Nat)) (n : Nat) (y : V) (m : LM) (h : LineAt st n y m) (f1 : inF fl n = false) (nt : Nat) :
    Gd (callL Try.prog ⟨false, fl, 0, nt⟩ 53 [.p n 0] st) fun r => ∃ x, r.1 = x ∧ OwnRow st.nx r.2 x 1 8 (m.S.map wd) ∧ Ext st.nx st r.2 := by
  obtain ⟨t, h1, h2, h3, h4, h5⟩ := h.blk
  rw [Gd_callL Try.func53 rfl]
  simp [evOp_call, sets, T.get_set, loadE_eq, getC_eq, h1, f1]
  refine Gd_slice_arr un154 (fun k => sz24 k) _ _ ?_
  simp [T.get_set]
  have hx : RdRow st (.sl n 0 8 8) 1 8 (m.S.map wd) := by
    refine ⟨by rw [List.length_map]; have := h.ls; omega, .inr (.inl ⟨n, 0, 8, _, _, t, rfl, h.lt, h1, by omega, fun j v hj => ?_⟩)⟩
    rw [List.getElem?_map] at hj
    cases hs : m.S[j]? with
    | none => rw [hs] at hj; cases hj
    | some w => rw [hs] at hj; injection hj with hj; subst hj; rw [Nat.zero_add]; exact h2 j w hs
  refine Gd_appendL un23 un23 io24 (OwnRow.nilRow (b := st.nx)) (fun _ _ _ e => by cases e) (Nat.le_refl _) (by decide) hx.notS hx.len (fun k => hx.firstsF (fun q hq => by rcases hq with ⟨_, _, _, e⟩ | ⟨_, _, _, e⟩ <;> cases e; exact f1) k) hx.1 (by omega) ?_
  intro s' st' ho he hk hs'
  simp [T.get_set, sets]
  rw [List.nil_append] at ho
  exact ⟨ho, he⟩
theorem sure_W (st : St) (wb : Nat) (n : Nat) (y : V) (m : LM) (h : LineAt st n y m) (nt : Nat) :
    Gd (callL Try.prog ⟨false, [], wb, nt⟩ 53 [.p n 0] st) fun r => ∃ x, r.1 = x ∧ OwnRow st.nx r.2 x 1 8 (m.S.map wd) ∧ Ext st.nx st r.2 := by
  obtain ⟨t, h1, h2, h3, h4, h5⟩ := h.blk
  rw [Gd_callL Try.func53 rfl]
  simp [evOp_call, sets, T.get_set, loadE_eq, getC_eq, h1]
  refine Gd_slice_arr un154 (fun k => sz24 k) _ _ ?_
  simp [T.get_set]
  have hx : RdRow st (.sl n 0 8 8) 1 8 (m.S.map wd) := by
    refine ⟨by rw [List.length_map]; have := h.ls; omega, .inr (.inl ⟨n, 0, 8, _, _, t, rfl, h.lt, h1, by omega, fun j v hj => ?_⟩)⟩
    rw [List.getElem?_map] at hj
    cases hs : m.S[j]? with
    | none => rw [hs] at hj; cases hj
    | some w => rw [hs] at hj; injection hj with hj; subst hj; rw [Nat.zero_add]; exact h2 j w hs
  refine Gd_append_nil un23 un23 io24 (Nat.le_refl _) (by decide) hx.notS hx.len (fun k => hx.firsts k) hx.1 (by omega) ?_
  intro s' st' ho he _
  simp [T.get_set, sets]
  exact ⟨ho, he⟩
end Go.Proofs.Ytnigikccijjihaa

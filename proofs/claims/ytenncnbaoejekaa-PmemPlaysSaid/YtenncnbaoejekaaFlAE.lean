/-
  Contracts of packages line and pmem under a guard that holds no block of theirs.
-/
import Derived.Test.YtenncnbaoejekaaLnT
import Derived.Test.YtenncnbaoejekaaMmE
import Derived.Test.YtenncnbaoejekaaSl
set_option linter.unusedSimpArgs false
namespace Go.Proofs.Ytenncnbaoejekaa
open Go.RowKit Ev
theorem there_fl (st : St) (fl : List (Nat × Nat)) (a : Int) (nt : Nat) : Gd (callL Try.prog ⟨false, fl, 0, nt⟩ 161 [.int .i64 a] st) fun r => r = (.bool (decide (0 ≤ a ∧ a < 8)), st) := by
  rw [Gd_callL Try.func161 rfl]
  by_cases h1 : 0 ≤ a
  · by_cases h2 : a < 8
    · simp [sets, T.get_set, h1, h2]
    · simp [sets, T.get_set, h1, h2]
  · simp [sets, T.get_set, h1]
theorem open_fl (st : St) (n : Nat) (y : V) (m : LM) (h : LineAt st n y m) (fl : List (Nat × Nat)) (hfo : ∀ k, Ow n y k → inF fl k = false) (nt : Nat) :
    Gd (callL Try.prog ⟨false, fl, 0, nt⟩ 115 [.p n 0] st) fun r => r = (.int .i64 (m.O.length : Int), st) := by
  obtain ⟨t, h1, _, _, h4, _⟩ := h.blk
  rw [Gd_callL Try.func115 rfl]
  have f0 := hfo n (.inl rfl)
  simp [f0, sets, T.get_set, loadE_eq, getC_eq, h1, h4, h.row.rd.lenS]
theorem flush_fl (st : St) (n : Nat) (y : V) (m : LM) (h : LineAt st n y m) (fl : List (Nat × Nat)) (hfo : ∀ k, Ow n y k → inF fl k = false) (nt : Nat) :
    Gd (callL Try.prog ⟨false, fl, 0, nt⟩ 111 [.p n 0] st) fun r => r.1 = .t [] ∧ LineAt r.2 n y { m with F := m.O.length } ∧ Kept n y st r.2 := by
  obtain ⟨t, h1, h2, h3, h4, h5⟩ := h.blk
  rw [Gd_callL Try.func111 rfl]
  have f0 := hfo n (.inl rfl)
  simp [f0, sets, T.get_set, loadE_eq, getC_eq, h1, h4, h.row.rd.lenS, putB_eq, roT]
  exact h.upd h.ls h.ln (fun i v hv => by rw [T.get_set_ne _ _ (by have := lt_of_get hv; have := h.ls; omega)]; exact h2 i v hv) (fun i v hv => by rw [T.get_set_ne _ _ (by have := lt_of_get hv; have := h.ln; omega)]; exact h3 i v hv) (by rw [T.get_set_ne _ _ (by omega)]; exact h4) (T.get_set_same _ _ _)
set_option maxHeartbeats 1000000 in
theorem store_fl (st : St) (n : Nat) (y : V) (m : LM) (h : LineAt st n y m) (a : Int) (v : BitVec 64) (fl : List (Nat × Nat)) (hfn : ∀ k, st.nx ≤ k → inF fl k = false) (hfo : ∀ k, Ow n y k → inF fl k = false) (nt : Nat) (hO : m.O.length < 1000) :
    Gd (callL Try.prog ⟨false, fl, 0, nt⟩ 108 [.p n 0, .int .i64 a, wd v] st) fun r => r.1 = .bool (decide (0 ≤ a ∧ a < 8)) ∧ ∃ y', LineAt r.2 n y' (m.store a v) ∧ Kept n y st r.2 ∧ ∀ k, Ow n y' k → Ow n y k ∨ st.nx ≤ k := by
  obtain ⟨t, h1, h2, h3, h4, h5⟩ := h.blk
  rw [Gd_callL Try.func108 rfl]
  have f0 := hfo n (.inl rfl)
  have f1 := hfn st.nx (Nat.le_refl _)
  simp [evOp_call, sets, T.get_set]
  refine Gd.mono (there_fl st _ a _) ?_
  rintro _ rfl
  by_cases hin : 0 ≤ a ∧ a < 8
  · obtain ⟨b, rfl⟩ := Int.eq_ofNat_of_zero_le hin.1
    have hb : b < 8 := by omega
    have e16 : ¬ 8 + b = 16 := by omega
    have e17 : ¬ 8 + b = 17 := by omega
    have e18 : 8 + b ≤ 17 := by omega
    simp [f0, T.get_set, hin, hb, loadE_eq, getC_eq, h1, putB_eq, roT, sets, h4, e16, e17, e18]
    have hv8 : ∀ i w, (m.N.set b v)[i]? = some w → (t.set (8 + b) (wd v)).get (8 + i) = some (wd w) := fun i w hw => by
      rw [T.get_set]
      by_cases hi : b = i
      · subst hi
        rw [List.getElem?_set_self (by have := h.ln; omega)] at hw
        injection hw with hw; subst hw
        rw [if_pos rfl]
      · rw [List.getElem?_set_ne hi] at hw
        rw [if_neg (by omega)]
        exact h3 i w hw
    have hs8 : ∀ i w, m.S[i]? = some w → (t.set (8 + b) (wd v)).get i = some (wd w) := fun i w hw => by
      rw [T.get_set_ne _ _ (by have := lt_of_get hw; have := h.ls; omega)]
      exact h2 i w hw
    have hN8 : (m.N.set b v).length = 8 := by rw [List.length_set]; exact h.ln
    have hu := h.upd (S' := m.S) (N' := m.N.set b v) (F' := m.F) (t' := t.set (8 + b) (wd v)) h.ls hN8 hs8 hv8 (by rw [T.get_set_ne _ _ e16]; exact h4) (by rw [T.get_set_ne _ _ e17]; exact h5)
    refine evOp_build1 (v := .g [.int .i64 b, wd v]) (cs := [.int .i64 b, wd v]) (fun k => el214 k) (fun k => ze218 k) rfl (by omega) (by simp [T.get_set]) (fun k => rfl) rfl ?_
    simp [T.get_set]
    refine Gd_appendL un214 un214 io218 (n := m.O.length) (lx := 1) (new := [.int .i64 b, wd v]) (hu.1.row.ext ((Ext.refl _ _).new (Nat.le_refl _) _)) (fun m' o ln e => hfo m' (.inr ⟨o, ln, 2, e⟩)) (Nat.zero_le _) (by decide) (fun s' h => by cases h) (fun k => rfl) (fun k => by simp [f1, getC_eq, getsB_2, T.get_set, sets]) rfl (by omega) ?_
    intro s' st' ho he hk hs'
    have hone : s'.one = true := ho.rd.one
    have hnn : n < st.nx := h.lt
    have hne : ¬ st.nx = n := by omega
    have hap : ∀ o l z, s' ≠ .sg n o l z := fun o l z e => by
      rcases hs' with e1 | ⟨ln, e1⟩
      · rw [e1] at e; exact h.apart o l z e
      · rw [e1] at e; injection e with e; simp only at e; omega
    have hle : st.nx + 1 ≤ st'.nx := he.le
    have hg : st'.h.get n = some (.cs 216 18 (t.set (8 + b) (wd v))) := by
      rw [hk n (by show n < st.nx + 1; omega) (fun o ln => h.apart o ln 2)]
      show ((st.h.set n _).set st.nx _).get n = _
      rw [T.get_set_ne _ _ hne, T.get_set_same]
    simp [f0, T.get_set, storeK_1 hone, putB_eq, hg, roT, sets]
    have hst : m.store (b : Int) v = { m with N := m.N.set b v, O := m.O ++ [((b : Int), v)] } := by unfold LM.store; rw [if_pos hin]; rfl
    rw [hst]
    have hwf0 : Wf st → Wf st' := fun w => he.wf (((Ext.refl 0 _).new (Nat.zero_le _) _).wf (hu.2.wf w))
    refine ⟨s', ⟨h.ls, hN8, by show n < st'.nx; omega, hap, by simp; omega, fun r hr => ?_, ⟨_, T.get_set_same _ _ _, fun i w hw => ?_, fun i w hw => ?_, T.get_set_same _ _ _, ?_⟩, ?_⟩, ⟨by show st.nx ≤ st'.nx; omega, fun w => ?_, fun k hk1 hk2 => ?_⟩, fun k hk1 => ?_⟩
    · have hr' : r ∈ m.O ++ [((b : Int), v)] := hr
      rcases List.mem_append.1 hr' with hr | hr
      · exact h.oks r hr
      · simp at hr; subst hr; exact ⟨by simp, by simp; omega⟩
    · have hw' : m.S[i]? = some w := hw
      rw [T.get_set_ne _ _ (by have := lt_of_get hw'; have := h.ls; omega)]
      exact hs8 i w hw
    · have hw' : (m.N.set b v)[i]? = some w := hw
      rw [T.get_set_ne _ _ (by have := lt_of_get hw'; omega)]
      exact hv8 i w hw
    · rw [T.get_set_ne _ _ (by omega), T.get_set_ne _ _ e17]; exact h5
    · show OwnRow 0 _ s' 2 (m.O ++ [((b : Int), v)]).length (ocells (m.O ++ [((b : Int), v)]))
      rw [ocells_app, List.length_append]
      exact OwnRow.setOther ho hap _
    · exact ((Ext.refl 0 st').set (Nat.zero_le _) (by omega) _).wf (hwf0 w)
    · show (st'.h.set n _).get k = _
      rw [T.get_set_ne _ _ (fun e => hk2 (.inl e.symm)), hk k (by show k < st.nx + 1; omega) (fun o ln e => hk2 (.inr ⟨o, ln, 2, e⟩))]
      show ((st.h.set n _).set st.nx _).get k = _
      rw [T.get_set_ne _ _ (by omega), T.get_set_ne _ _ (fun e => hk2 (.inl e.symm))]
    · rcases hk1 with e | ⟨o, l, z, e⟩
      · exact .inl (.inl e)
      · rcases hs' with e1 | ⟨ln, e1⟩
        · rw [e1] at e; exact .inl (.inr ⟨o, l, z, e⟩)
        · rw [e1] at e; injection e with e; simp only at e; exact .inr (by omega)
  · have hd : decide (0 ≤ a ∧ a < 8) = false := by simpa using hin
    have hst : m.store a v = m := by unfold LM.store; rw [if_neg hin]
    simp only [hd, hst]
    simp [T.get_set]
    exact ⟨fun _ => by omega, y, h, Kept.refl _ _ _, fun k hk => .inl hk⟩
set_option maxHeartbeats 1000000 in
theorem settle_fl (st : St) (n : Nat) (y : V) (m : LM) (h : LineAt st n y m) (k : Nat) (hk : k ≤ m.O.length) (fl : List (Nat × Nat)) (hfn : ∀ k, st.nx ≤ k → inF fl k = false) (hfo : ∀ k, Ow n y k → inF fl k = false) (nt : Nat) :
    Gd (callL Try.prog ⟨false, fl, 0, nt⟩ 162 [.p n 0, .int .i64 (k : Int)] st) fun r => r.1 = .t [] ∧ LineAt r.2 n y (m.settle k) ∧ Kept n y st r.2 := by
  obtain ⟨t, h1, h2, h3, h4, h5⟩ := h.blk
  rw [Gd_callL Try.func162 rfl]
  have f0 := hfo n (.inl rfl)
  simp [f0, evOp_call, sets, T.get_set, loadE_eq, getC_eq, h1, h4]
  refine Gd_cut (i := .i64) un214 io218 h.row (k := k) (by simp [T.get_set]) hk ?_
  have hc0 := h.row.cut hk
  simp [T.get_set, hc0.lenS]
  refine Gd_loop (settleI st n y m k) (fun e _ => muAt 13 k e) ?_ ?_
  · exact ⟨0, Nat.zero_le _, by simp [T.get_set], by simp [T.get_set], by simp [T.get_set], by simp [T.get_set], by simpa [LM.settle, setAll] using h, Kept.refl _ _ _⟩
  · rintro e s ⟨j, hj, g0, g11, g12, g13, hl, hs⟩
    by_cases hlt : j < k
    · have hlt' : (j : Int) < k := by omega
      have hsm := h.small
      have hw := wrap_nat (n := j) (by omega)
      obtain ⟨t, h1, h2, h3, h4, h5⟩ := hl.blk
      have hcut := hl.row.cut (k := k) hk
      rw [show (m.settle j).O = m.O from rfl, ocells_take] at hcut
      obtain ⟨q, o, ty, sz, tr, hi, hm, hg, ho, hc, hbq⟩ := hcut.idxB (st := s) un214 io218 hlt
      obtain ⟨⟨A, W⟩, hr⟩ : ∃ r, m.O[j]? = some r := ⟨_, List.getElem?_eq_getElem (by omega)⟩
      have hr' : (m.O.take k)[j]? = some (A, W) := by rw [List.getElem?_take, if_pos hlt]; exact hr
      have hcl := ocells_get _ j _ hr'
      have t0 : tr.get o = some (.int .i64 A) := hc 0 _ (by omega) hcl.1
      have t1 : tr.get (o + 1) = some (wd W) := hc 1 _ (by omega) hcl.2
      have hok := h.oks _ (List.mem_of_getElem? hr)
      simp only at hok
      obtain ⟨b, rfl⟩ := Int.eq_ofNat_of_zero_le hok.1
      have hb : b < 8 := by omega
      have e18 : b ≤ 17 := by omega
      have hnn : n < s.nx := hl.lt
      have hne1 : ¬ s.nx = q := by omega
      have hne2 : ¬ s.nx = n := by omega
      have fq : inF fl q = false := by
        rcases hl.row.2 with ⟨e1, _⟩ | ⟨m1, ty1, tr1, e1, _⟩
        · rw [e1] at hbq
          rcases hbq with ⟨_, _, _, e2⟩ | ⟨_, _, _, e2⟩ <;> cases e2
        · rw [e1] at hbq
          rcases hbq with ⟨_, _, _, e2⟩ | ⟨_, _, _, e2⟩
          · cases e2
          · injection e2 with e2
            exact hfo q (.inr ⟨_, _, _, by rw [e1, e2]⟩)
      have fs := hfn s.nx hs.le
      simp [f0, fq, fs, T.get_set, g0, g11, g12, g13, hlt', hi, loadE_eq, getC_eq, hg, getsB_2, t0, t1, newC_is, putB_eq, storeK_g, roT, sets, hne1, hne2, hb]
      refine ⟨by kernel_rfl, ?_⟩
      rw [cxOf_store]
      rotate_left
      · kernel_rfl
      simp [f0, fq, fs, T.get_set, h1, g13, g0, g11, g12, hw, e18, roT, sets, hne2]
      have hA := hl.other (st' := ⟨s.nx + 1, s.h.set s.nx (.cs 218 2 ((((T.lf.set 0 (V.int .i64 0)).set 1 (wd 0#64)).set 0 (V.int .i64 (b : Int))).set 1 (wd W)))⟩) (Nat.le_succ _) (fun q hq => T.get_set_ne _ _ (fun e => by have := hl.own_lt hq; omega))
      have hB := hA.upd (S' := (m.settle j).S.set b W) (N' := (m.settle j).N) (F' := (m.settle j).F) (t' := t.set b (wd W)) (by rw [List.length_set]; exact hl.ls) hl.ln (fun i w hw => by
          rw [T.get_set]
          by_cases hi' : b = i
          · subst hi'
            rw [List.getElem?_set_self (by have := hl.ls; omega)] at hw
            injection hw with hw; subst hw
            rw [if_pos rfl]
          · rw [List.getElem?_set_ne hi'] at hw
            rw [if_neg hi']
            exact h2 i w hw) (fun i w hw => by rw [T.get_set_ne _ _ (by omega)]; exact h3 i w hw) (by rw [T.get_set_ne _ _ (by omega)]; exact h4) (by rw [T.get_set_ne _ _ (by omega)]; exact h5)
      have hS : m.settle (j + 1) = ⟨(m.settle j).S.set b W, (m.settle j).N, m.O, (m.settle j).F⟩ := by
        have : setAll m.S (m.O.take (j + 1)) = (setAll m.S (m.O.take j)).set b W := by
          rw [List.take_add_one, hr]
          simp [setAll]
        unfold LM.settle
        rw [this]
      have z1 : inF ((0, s.nx) :: (s.nx + 1, s.nx + 1) :: fl) s.nx = false := by rw [inF_cons, if_neg (by omega), inF_cons, if_neg (by omega)]; exact fs
      refine ⟨z1, fun _ => ⟨z1, fun _ => ?_⟩⟩
      refine ⟨⟨j + 1, by omega, by simp [T.get_set, g0], by simp [T.get_set, g11], by simp [T.get_set, g12], by simp [T.get_set], ?_, ?_⟩, muAt_lt g13 (by simp [T.get_set]) hlt⟩
      · rw [hS]; exact hB.1
      · exact (hs.trans (Kept.ofExt ((Ext.refl s.nx s).new (Nat.le_refl _) _))).trans hB.2
    · obtain rfl : j = k := by omega
      simp [T.get_set, g12, g13]
      exact ⟨hl, hs⟩
set_option maxHeartbeats 1000000 in
theorem fall_fl (st : St) (n : Nat) (y : V) (m : LM) (h : LineAt st n y m) (keep : Int) (fl : List (Nat × Nat)) (hfn : ∀ k, st.nx ≤ k → inF fl k = false) (hfo : ∀ k, Ow n y k → inF fl k = false) (nt : Nat) :
    Gd (callL Try.prog ⟨false, fl, 0, nt⟩ 116 [.p n 0, .int .i64 keep] st) fun r => r.1 = .t [] ∧ LineAt r.2 n (.c (.slice none 0 0)) (m.fall keep) ∧ Kept n y st r.2 := by
  obtain ⟨t, h1, h2, h3, h4, h5⟩ := h.blk
  obtain ⟨k, hk, hkk⟩ : ∃ k : Nat, (if 0 < (if (m.O.length : Int) < keep then (m.O.length : Int) else keep) then (if (m.O.length : Int) < keep then (m.O.length : Int) else keep) else 0) = (k : Int) ∧ (max 0 (min keep m.O.length)).toNat = k :=
    ⟨(max 0 (min keep m.O.length)).toNat, by (repeat' split) <;> omega, rfl⟩
  have hkl : k ≤ m.O.length := by omega
  rw [Gd_callL Try.func116 rfl]
  have f0 := hfo n (.inl rfl)
  simp [f0, evOp_call, evOp_min, evOp_max, min_i64, max_i64, sets, T.get_set, loadE_eq, getC_eq, h1, h4, h.row.rd.lenS]
  rw [hk]
  refine Gd.mono (settle_fl st n y m h k hkl fl hfn hfo _) ?_
  rintro ⟨r, s⟩ ⟨hr, hl, hs⟩
  simp only at hr hl hs
  subst hr
  obtain ⟨t, h1, h2, h3, h4, h5⟩ := hl.blk
  obtain ⟨t', h1', hS⟩ := hl.fresh
  rw [h1] at h1'
  injection h1' with h1'; injection h1' with _ _ h1'; subst h1'
  have hSl : (m.settle k).S.length = 8 := hl.ls
  have hlen : ((m.settle k).S.map wd).length = 8 := by rw [List.length_map]; exact hSl
  simp [f0, T.get_set, loadE_eq, getC_eq, h1, hS, storeK_g, putB_eq, roT, hSl, sets]
  have hf : m.fall keep = ⟨(m.settle k).S, (m.settle k).S, [], 0⟩ := by unfold LM.fall; rw [hkk]; rfl
  rw [hf]
  have hnn : n < s.nx := hl.lt
  refine ⟨⟨hSl, hSl, hnn, (fun o l z e => by cases e), by simp, by simp, ⟨_, T.get_set_same _ _ _, fun i w hw => ?_, fun i w hw => ?_, ?_, T.get_set_same _ _ _⟩, OwnRow.nilRow⟩, hs.trans ⟨Nat.le_refl _, ((Ext.refl 0 s).set (Nat.zero_le _) hnn _).wf, fun q _ hq => T.get_set_ne _ _ (fun e => hq (.inl e.symm))⟩⟩
  · have hi : i < (m.settle k).S.length := lt_of_get hw
    have hi8 : i < 8 := by omega
    rw [T.get_set_ne _ _ (by omega), T.get_set_ne _ _ (by omega), get_sets, if_neg (by omega)]
    exact h2 i w hw
  · have hi : i < (m.settle k).S.length := lt_of_get hw
    have hi8 : i < 8 := by omega
    rw [T.get_set_ne _ _ (by omega), T.get_set_ne _ _ (by omega), get_sets, if_pos (by omega), show 8 + i - 8 = i by omega, List.getElem?_map]
    have hw' : (m.settle k).S[i]? = some w := hw
    rw [hw']
    rfl
  · rw [T.get_set_ne _ _ (by omega), T.get_set_same]
theorem rowIn.nm {x : V} {m : Nat} (h : rowIn x m) : Nm x m := h.symm
theorem flOwn {st s : St} {q : Nat} {v v' : MV} {fl : List (Nat × Nat)} (hs : MStep q v v' st s) (hfn : ∀ k, st.nx ≤ k → inF fl k = false) (hfo : ∀ k, MOw q v k → inF fl k = false) : ∀ k, MOw q v' k → inF fl k = false := fun k hk => by
  rcases hs.own k hk with e | e
  · exact hfo k e
  · exact hfn k e
theorem mword_fl (st : St) (q : Nat) (v : MV) (h : MemAt st q v) (a : Int) (ha : -9223372036854775808 ≤ a ∧ a ≤ 9223372036854775807) (fl : List (Nat × Nat)) (hfo : ∀ k, MOw q v k → inF fl k = false) (nt : Nat) :
    Gd (callL Try.prog ⟨false, fl, 0, nt⟩ 106 [.p q 0, .int .i64 a] st) fun r => r = (wordV v a, st) := by
  obtain ⟨t, h1, h2, h3, h4, h5, h6, h7, h8⟩ := h.blk
  rw [Gd_callL Try.func106 rfl]
  have f0 := hfo q (.inl rfl)
  unfold wordV
  cases ho : v.off with
  | true =>
    rw [ho] at h3
    simp [f0, sets, T.get_set, loadE_eq, getC_eq, h1, h3]
  | false =>
    rw [ho] at h3
    by_cases c1 : a < 0
    · have hw : ¬ word8 v.R a := fun h => by have := h.1; omega
      simp [f0, evOp_call, sets, T.get_set, loadE_eq, getC_eq, h1, h3, c1, hw]
    · have hd : a.tdiv 8 = a / 8 := Int.tdiv_eq_ediv_of_nonneg (by omega)
      have hm : a.tmod 8 = a % 8 := Int.tmod_eq_emod_of_nonneg (by omega)
      have w1 : IntKind.i64.wrap (a / 8) = a / 8 := wrap_in (by omega) (by omega)
      have w2 : IntKind.i64.wrap (a % 8) = a % 8 := wrap_in (by omega) (by omega)
      by_cases c2 : (v.R.length : Int) ≤ a / 8
      · have hw : ¬ word8 v.R a := fun h => by have := h.2; omega
        simp [f0, evOp_call, sets, T.get_set, loadE_eq, getC_eq, h1, h2, h3, c1, hd, w1, h.row.lenS, c2, hw]
      · have hw : word8 v.R a := ⟨by omega, by omega⟩
        obtain ⟨i, hi⟩ : ∃ i : Nat, (i : Int) = a / 8 := ⟨(a / 8).toNat, by omega⟩
        have hlt : i < v.R.length := by omega
        obtain ⟨m1, o1, ty1, sz1, t1, i1, b1, k1, l1, d1, hbq⟩ := h.row.idxB (st := st) un164 io160 hlt
        have fz := hfo m1 (.inr (.inl hbq.nm))
        have hp : t1.get o1 = some (.p (lineOf v a).n 0) := d1 0 _ (by omega) (by
          rw [Nat.mul_one, Nat.add_zero]; unfold ptrs
          have := lineOf_get hw
          rw [show (a / 8).toNat = i by omega] at this
          rw [List.getElem?_map, this]; rfl)
        rw [← hi] at hd w1 c2
        simp [f0, fz, evOp_call, sets, T.get_set, loadE_eq, getC_eq, h1, h2, h3, c1, hd, hm, w1, w2, h.row.lenS, c2, hw, i1, k1, hp]
set_option maxRecDepth 20000 in
set_option maxHeartbeats 4000000 in
theorem mcrash_fl (st : St) (q : Nat) (v : MV) (h : MemAt st q v) (x : V) (K : List Int) (hx : ∀ st' v', MStep q v v' st st' → v'.kz = v.kz → v'.K = v.K → RdRow st' x 1 K.length (ivs K)) (hR : v.R.length ≤ 1000000) (fl : List (Nat × Nat)) (hfn : ∀ k, st.nx ≤ k → inF fl k = false) (hfo : ∀ k, MOw q v k → inF fl k = false) (hfx : ∀ k, Nm x k → inF fl k = false) (nt : Nat) :
    Gd (callL Try.prog ⟨false, fl, 0, nt⟩ 32 [.p q 0, x] st) fun r => r.1 = .t [] ∧ MStep q v (if v.off = true then v else v.fell K) st r.2 := by
  obtain ⟨t, h1, h2, h3, h4, h5, h6, h7, h8⟩ := h.blk
  rw [Gd_callL Try.func32 rfl]
  have f0 := hfo q (.inl rfl)
  cases ho : v.off with
  | true =>
    rw [ho] at h3
    simp [f0, sets, T.get_set, loadE_eq, getC_eq, h1, h3]
    exact MStep.refl h
  | false =>
    rw [ho] at h3
    simp [f0, evOp_call, sets, T.get_set, loadE_eq, getC_eq, h1, h2, h3, h.row.lenS]
    refine Gd_loop (crI st q v x v.z K) (fun e _ => muAt 17 v.R.length e) ?_ ?_
    · exact ⟨0, Nat.zero_le _, by simp [T.get_set], by simp [T.get_set], by simp [T.get_set, cntO], by simp [T.get_set], by simp [T.get_set], by simp [T.get_set], MStep.refl h⟩
    · rintro e s ⟨j, hj, g0, g1, g4, g15, g16, g17, hs⟩
      by_cases hlt : j < v.R.length
      · have hlt' : (j : Int) < v.R.length := by omega
        have hwj := wrap_nat (n := j) (by omega)
        have hxr := hx s _ hs rfl rfl
        have hrow : RdRow s v.z 1 v.R.length (ptrs (fallN K v.R j)) := by have := hs.at'.row; rw [fallN_length] at this; exact this
        obtain ⟨r, hr⟩ : ∃ r, v.R[j]? = some r := ⟨_, List.getElem?_eq_getElem hlt⟩
        have hrj : (fallN K v.R j)[j]? = some r := by rw [fallN_get, hr]; simp
        have hfs := flOwn hs hfn hfo
        have hfn' : ∀ k, s.nx ≤ k → inF fl k = false := fun k hk => hfn k (Nat.le_trans hs.kept.le hk)
        obtain ⟨m1, o1, ty1, sz1, t1, i1, b1, k1, l1, d1, hbq⟩ := hrow.idxB (st := s) un164 io160 hlt
        have fz := hfo m1 (.inr (.inl hbq.nm))
        have hp : t1.get o1 = some (.p r.n 0) := d1 0 _ (by omega) (by
          rw [Nat.mul_one, Nat.add_zero]; unfold ptrs
          rw [List.getElem?_map, hrj]; rfl)
        obtain ⟨hln, hok⟩ := hs.at'.lines j r hrj
        have hfl : ∀ k, Ow r.n r.y k → inF fl k = false := fun k hk => hfs k (.inr (.inr (.inr ⟨r, List.mem_of_getElem? hrj, hk⟩)))
        have hcs := cntO_succ hr
        have hcl := cntO_le v.R j
        have hstep : fallN K v.R (j + 1) = (fallN K v.R j).set j (fallAt K v.R j r) := by rw [fallN, hr]
        simp [fz, evOp_call, T.get_set, g0, g1, g4, g15, g16, g17, hlt', i1, loadE_eq, getC_eq, k1, hp]
        refine Gd.mono (open_fl s r.n r.y r.m hln fl hfl _) ?_
        rintro _ rfl
        by_cases h0 : r.m.O.length = 0
        · have h0' : (r.m.O.length : Int) = 0 := by omega
          rw [if_pos h0, Nat.add_zero] at hcs
          simp [evOp_call, T.get_set, g0, g1, g4, g15, g16, g17, h0', hwj]
          refine ⟨⟨j + 1, hlt, by simp [T.get_set, g0], by simp [T.get_set, g1], by simp [T.get_set, g4, hcs], by simp [T.get_set, g15], by simp [T.get_set, g16], by simp [T.get_set], ?_⟩, muAt_lt g17 (by simp [T.get_set]) hlt⟩
          have hself : (fallN K v.R j).set j (fallAt K v.R j r) = fallN K v.R j := by
            unfold fallAt; rw [if_pos h0]
            exact List.ext_getElem? fun i => by
              by_cases hij : j = i
              · subst hij; rw [List.getElem?_set_self (by rw [fallN_length]; exact hlt), hrj]
              · rw [List.getElem?_set_ne hij]
          rw [hstep, hself]
          exact hs
        · have h0' : ¬ (r.m.O.length : Int) = 0 := by omega
          rw [if_neg h0] at hcs
          have w1 : IntKind.i64.wrap ((cntO v.R j : Int) + 1) = ((cntO v.R j + 1 : Nat) : Int) := by rw [show ((cntO v.R j : Int) + 1) = ((cntO v.R j + 1 : Nat) : Int) by omega]; exact wrap_in (by omega) (by omega)
          obtain ⟨c, hc⟩ : ∃ c, c = cntO v.R j := ⟨_, rfl⟩
          rw [← hc] at g4 w1 hcs
          obtain ⟨c1, hc1⟩ : ∃ c1, c1 = c + 1 := ⟨_, rfl⟩
          rw [← hc1] at w1 hcs
          have h0' : ¬ (r.m.O.length : Int) = 0 := by omega
          have hO : ¬ r.m.O = [] := fun e => h0 (by rw [e]; rfl)
          by_cases hck : c < K.length
          · have hck' : (c : Int) < K.length := by omega
            obtain ⟨m2, o2, ty2, sz2, t2, i2, b2, k2, l2, d2, hbx⟩ := hxr.idxB (st := s) un32 io3 hck
            obtain ⟨kp, hkp⟩ : ∃ kp, K[c]? = some kp := ⟨_, List.getElem?_eq_getElem hck⟩
            have fx := hfx m2 hbx.nm
            have e2 : t2.get o2 = some (.int .i64 kp) := d2 0 _ (by omega) (by rw [Nat.mul_one, Nat.add_zero]; unfold ivs; rw [List.getElem?_map, hkp]; rfl)
            simp [evOp_call, T.get_set, g0, g1, g4, g15, g16, g17, h0', hO, hxr.lenS, hck', fx, i2, loadE_eq, getC_eq, k2, e2]
            refine Gd.mono (fall_fl s r.n r.y r.m hln kp fl hfn' hfl _) ?_
            rintro ⟨u, s2⟩ ⟨hu, f1, f2⟩
            simp only at hu f1 f2
            subst hu
            simp [evOp_call, T.get_set, g0, g1, g4, g15, g16, g17, w1, hwj]
            exact ⟨⟨j + 1, hlt, by simp [T.get_set, g0], by simp [T.get_set, g1], by simp [T.get_set, hcs], by simp [T.get_set, g15], by simp [T.get_set, g16], by simp [T.get_set], fall_step hs hr h0 (by rw [← hc, hkp]; exact f1) f2⟩, muAt_lt g17 (by simp [T.get_set]) hlt⟩
          · have hck' : ¬ (c : Int) < K.length := by omega
            have hkn : K[c]? = none := List.getElem?_eq_none (by omega)
            simp [evOp_call, T.get_set, g0, g1, g4, g15, g16, g17, h0', hO, hxr.lenS, hck']
            refine Gd.mono (fall_fl s r.n r.y r.m hln 0 fl hfn' hfl _) ?_
            rintro ⟨u, s2⟩ ⟨hu, f1, f2⟩
            simp only at hu f1 f2
            subst hu
            simp [evOp_call, T.get_set, g0, g1, g4, g15, g16, g17, w1, hwj]
            exact ⟨⟨j + 1, hlt, by simp [T.get_set, g0], by simp [T.get_set, g1], by simp [T.get_set, hcs], by simp [T.get_set, g15], by simp [T.get_set, g16], by simp [T.get_set], fall_step hs hr h0 (by rw [← hc, hkn]; exact f1) f2⟩, muAt_lt g17 (by simp [T.get_set]) hlt⟩
      · obtain rfl : j = v.R.length := by omega
        obtain ⟨t', p1, p2, p3, p4, p5, p6, p7, p8⟩ := hs.at'.blk
        simp [f0, evOp_call, sets, T.get_set, g0, g1, g4, g15, g16, g17, loadE_eq, getC_eq, p1, putB_eq, roT]
        have hsB := hs.at'.setB (v' := v.fell K) (((t'.set 1 (.bool true)).set 2 (.int .i64 0)).set 3 (.c (.slice none 0 0))) (by simp [memIs, MV.fell, nilW, T.get_set, p2, p6, p7, p8]) rfl rfl ⟨rfl, .inl ⟨.inl rfl, rfl⟩⟩ (fun k hk => absurd hk nm_nil)
        exact hs.trans ⟨hsB.1, hsB.2, fun k hk => by
          rcases hk with rfl | hk | hk | hk
          · exact .inl (.inl rfl)
          · exact .inl (.inr (.inl hk))
          · exact absurd hk nm_nil
          · exact .inl (.inr (.inr (.inr hk)))⟩
theorem mcrash_onF (st : St) (q : Nat) (v : MV) (h : MemAt st q v) (ho : v.off = false) (x : V) (K : List Int) (hx : ∀ st' v', MStep q v v' st st' → v'.kz = v.kz → v'.K = v.K → RdRow st' x 1 K.length (ivs K)) (hR : v.R.length ≤ 1000000) (fl : List (Nat × Nat)) (hfn : ∀ k, st.nx ≤ k → inF fl k = false) (hfo : ∀ k, MOw q v k → inF fl k = false) (hfx : ∀ k, Nm x k → inF fl k = false) (nt : Nat) :
    Gd (callL Try.prog ⟨false, fl, 0, nt⟩ 32 [.p q 0, x] st) fun r => r.1 = .t [] ∧ MStep q v (v.fell K) st r.2 := by
  refine Gd.mono (mcrash_fl st q v h x K hx hR fl hfn hfo hfx nt) ?_
  rintro r ⟨h1, h2⟩
  rw [if_neg (by rw [ho]; simp)] at h2
  exact ⟨h1, h2⟩
theorem mburn_fl (st : St) (q : Nat) (v : MV) (h : MemAt st q v) (ho : v.off = false) (hf : v.fuse ≤ 9223372036854775807) (hR : v.R.length ≤ 1000000) (fl : List (Nat × Nat)) (hfn : ∀ k, st.nx ≤ k → inF fl k = false) (hfo : ∀ k, MOw q v k → inF fl k = false) (nt : Nat) :
    Gd (callL Try.prog ⟨false, fl, 0, nt⟩ 107 [.p q 0] st) fun r => r.1 = .bool (decide (v.fuse = 1)) ∧ MStep q v v.lit st r.2 := by
  obtain ⟨t, h1, h2, h3, h4, h5, h6, h7, h8⟩ := h.blk
  rw [Gd_callL Try.func107 rfl]
  have f0 := hfo q (.inl rfl)
  unfold MV.lit
  by_cases c1 : v.fuse < 1
  · have c2 : ¬ v.fuse = 1 := by omega
    simp [f0, evOp_call, sets, T.get_set, loadE_eq, getC_eq, h1, h4, c1, c2]
    exact MStep.refl h
  · have w1 : IntKind.i64.wrap (v.fuse - 1) = v.fuse - 1 := wrap_in (by omega) (by omega)
    by_cases c2 : 1 < v.fuse
    · have c3 : ¬ v.fuse = 1 := by omega
      have c4 : 0 < v.fuse - 1 := by omega
      simp [f0, evOp_call, sets, T.get_set, loadE_eq, getC_eq, h1, h4, c1, c2, c3, w1, c4, putB_eq, roT]
      exact h.setF _ (v.fuse - 1) v.a v.b v.c (by simp [memIs, T.get_set, *])
    · have c3 : v.fuse = 1 := by omega
      have hs := h.setF (t.set 2 (.int .i64 0)) 0 v.a v.b v.c (by simp [memIs, T.get_set, *])
      obtain ⟨t', p1, p2, p3, p4, p5, p6, p7, p8⟩ := hs.at'.blk
      have w0 : IntKind.i64.wrap 0 = 0 := by decide
      simp [f0, evOp_call, sets, T.get_set, loadE_eq, getC_eq, h1, h4, h5, c3, w0, putB_eq, roT]
      refine Gd.mono (mcrash_onF _ q _ hs.at' ho v.kz v.K (fun st' v' hs' e1 e2 => ?_) hR fl hfn (flOwn hs hfn hfo) (fun k hk => hfo k (.inr (.inr (.inl hk)))) _) ?_
      · have := hs'.at'.keep
        rw [e1, e2] at this
        exact this
      · rintro ⟨r, s1⟩ ⟨hr, x1⟩
        simp only at hr x1
        subst hr
        simp [T.get_set]
        exact hs.trans x1
set_option maxRecDepth 20000 in
set_option maxHeartbeats 4000000 in
theorem mstore_fl (st : St) (q : Nat) (v : MV) (h : MemAt st q v) (a : Int) (w : BitVec 64) (ha : -9223372036854775808 ≤ a ∧ a ≤ 9223372036854775807) (hf : v.fuse ≤ 9223372036854775807) (hR : v.R.length ≤ 1000000) (hO : ∀ r ∈ v.R, r.m.O.length < 1000) (fl : List (Nat × Nat)) (hfn : ∀ k, st.nx ≤ k → inF fl k = false) (hfo : ∀ k, MOw q v k → inF fl k = false) (nt : Nat) :
    Gd (callL Try.prog ⟨false, fl, 0, nt⟩ 26 [.p q 0, .int .i64 a, wd w] st) fun r => r.1 = .int .i64 ((absV v).storeE a) ∧ ∃ v', MStep q v v' st r.2 ∧ absV v' = (absV v).store a w := by
  rw [Gd_callL Try.func26 rfl]
  have hoff : (absV v).off = v.off := rfl
  have hfu : (absV v).fuse = v.fuse := rfl
  simp [evOp_call, sets, T.get_set]
  refine Gd.mono (mword_fl st q v h a ha fl hfo _) ?_
  rintro _ rfl
  unfold AS.store AS.storeE
  rw [hoff, hfu]
  by_cases ho : v.off = true
  · have hwv : wordV v a = .t [.c (.pointer none), .int .i64 0, .int .i64 14] := if_pos ho
    rw [hwv, if_pos ho, if_pos ho]
    simp [evOp_call, sets, T.get_set]
    exact ⟨v, MStep.refl h, rfl⟩
  · have ho' : v.off = false := by simpa using ho
    rw [if_neg ho, if_neg ho]
    by_cases hw : word8 v.R a
    · have hw2 := (abs_in8 v a).1 hw
      have hwv : wordV v a = .t [.p (lineOf v a).n 0, .int .i64 (a % 8), .int .i64 0] := by unfold wordV; rw [if_neg ho, if_pos hw]
      rw [hwv]
      simp [evOp_call, sets, T.get_set, hw2]
      refine Gd.mono (mburn_fl st q v h ho' hf hR fl hfn hfo _) ?_
      rintro ⟨r, s1⟩ ⟨hr, x1⟩
      simp only at hr x1
      subst hr
      by_cases h1 : v.fuse = 1
      · simp [evOp_call, sets, T.get_set, h1]
        exact ⟨v.lit, x1, abs_lit v⟩
      · obtain ⟨e1, e2, e3, e4, e5, e6, e7, e8⟩ := lit_not1 h1
        have hlg : v.lit.R[(a / 8).toNat]? = some (lineOf v a) := by rw [e1]; exact lineOf_get hw
        obtain ⟨hln, hok⟩ := x1.at'.lines _ _ hlg
        have hf1 := flOwn x1 hfn hfo
        have hfl : ∀ k, Ow (lineOf v a).n (lineOf v a).y k → inF fl k = false := fun k hk => hf1 k (.inr (.inr (.inr ⟨_, List.mem_of_getElem? hlg, hk⟩)))
        have hfn1 : ∀ k, s1.nx ≤ k → inF fl k = false := fun k hk => hfn k (Nat.le_trans x1.kept.le hk)
        have f0 := hfo q (.inl rfl)
        simp [evOp_call, sets, T.get_set, h1]
        refine Gd.mono (store_fl s1 _ _ _ hln (a % 8) w fl hfn1 hfl _ (hO _ (List.mem_of_getElem? (lineOf_get hw)))) ?_
        rintro ⟨r, s2⟩ ⟨hr, y', l1, l2, l3⟩
        simp only at hr l1 l2 l3
        subst hr
        have hok' : okL ((lineOf v a).m.store (a % 8) w) := by
          obtain ⟨f, hf1, hf2⟩ := hok
          unfold LM.store
          split
          · exact ⟨f, hf1, by show f ≤ (_ ++ [_]).length; rw [List.length_append]; omega⟩
          · exact ⟨f, hf1, hf2⟩
        have x2 := x1.trans (x1.at'.line hlg l1 l2 l3 hok')
        obtain ⟨t', p1, p2, p3, p4, p5, p6, p7, p8⟩ := x2.at'.blk
        have x3 := x2.at'.setF (t'.set 4 (.int .i64 (IntKind.i64.wrap (v.a + 1)))) v.lit.fuse (IntKind.i64.wrap (v.a + 1)) v.lit.b v.lit.c (by simp [memIs, T.get_set, *])
        simp only at p6
        rw [e3] at p6
        simp [f0, evOp_call, sets, T.get_set, loadE_eq, getC_eq, p1, p6, putB_eq, roT]
        refine ⟨_, x2.trans x3, ?_⟩
        have hL : (absV v).L[(a / 8).toNat]? = some (lineOf v a).m := by
          show (v.R.map (·.m))[(a / 8).toNat]? = _
          rw [List.getElem?_map, lineOf_get hw]; rfl
        rw [← abs_lit, hL]
        show (⟨(v.lit.R.set (a / 8).toNat ⟨(lineOf v a).n, y', (lineOf v a).m.store (a % 8) w⟩).map (·.m), _, _, _, _, _, _⟩ : AS) = ⟨(v.R.map (·.m)).set (a / 8).toNat ((lineOf v a).m.store (a % 8) w), _, _, _, _, _, _⟩
        rw [List.map_set, e1]
        rfl
    · have hw2 : ¬ (absV v).in8 a := fun e => hw ((abs_in8 v a).2 e)
      have hwv : wordV v a = .t [.c (.pointer none), .int .i64 0, .int .i64 1] := by unfold wordV; rw [if_neg ho, if_neg hw]
      rw [hwv]
      simp [evOp_call, sets, T.get_set, hw2]
      exact ⟨v, MStep.refl h, rfl⟩
set_option maxRecDepth 20000 in
set_option maxHeartbeats 4000000 in
theorem mflush_fl (st : St) (q : Nat) (v : MV) (h : MemAt st q v) (x : V) (ls : List Int) (hx : RdRow st x 1 ls.length (ivs ls)) (hxn : ∀ k, Nm x k → ¬ MOw q v k) (hls : ls.length ≤ 1000000) (hf : v.fuse ≤ 9223372036854775807) (hR : v.R.length ≤ 1000000) (fl : List (Nat × Nat)) (hfn : ∀ k, st.nx ≤ k → inF fl k = false) (hfo : ∀ k, MOw q v k → inF fl k = false) (hfx : ∀ k, Nm x k → inF fl k = false) (nt : Nat) :
    Gd (callL Try.prog ⟨false, fl, 0, nt⟩ 28 [.p q 0, x] st) fun r => r.1 = .int .i64 ((absV v).flushE ls) ∧ ∃ v', MStep q v v' st r.2 ∧ absV v' = (absV v).flush ls := by
  obtain ⟨t, h1, h2, h3, h4, h5, h6, h7, h8⟩ := h.blk
  rw [Gd_callL Try.func28 rfl]
  have fq0 := hfo q (.inl rfl)
  have hoff : (absV v).off = v.off := rfl
  have hfu : (absV v).fuse = v.fuse := rfl
  have hlenL : (absV v).L.length = v.R.length := by simp [absV]
  unfold AS.flush AS.flushE
  rw [hoff, hfu]
  by_cases ho : v.off = true
  · rw [if_pos ho, if_pos ho]
    simp [fq0, evOp_call, sets, T.get_set, loadE_eq, getC_eq, h1, h3, ho]
    exact ⟨v, MStep.refl h, rfl⟩
  · have ho' : v.off = false := by simpa using ho
    rw [if_neg ho, if_neg ho]
    simp [fq0, evOp_call, sets, T.get_set, loadE_eq, getC_eq, h1, h3, ho', hx.lenS]
    refine Gd_loop (flI st q x v.R.length ls) (fun e _ => muAt 15 ls.length e) ?_ ?_
    · exact ⟨0, Nat.zero_le _, by simp [T.get_set], by simp [T.get_set], by simp [T.get_set], by simp [T.get_set], by simp [T.get_set], fun i hi => by simp at hi, rfl⟩
    · rintro e s ⟨k, hk, g0, g1, g13, g14, g15, hok, rfl⟩
      by_cases hlt : k < ls.length
      · have hlt' : (k : Int) < ls.length := by omega
        have hwk := wrap_nat (n := k) (by omega)
        obtain ⟨m1, o1, ty1, sz1, t1, i1, b1, k1, l1, d1, hbx⟩ := hx.idxB (st := s) un32 io3 hlt
        obtain ⟨i, hi⟩ : ∃ i, ls[k]? = some i := ⟨_, List.getElem?_eq_getElem hlt⟩
        have hp : t1.get o1 = some (.int .i64 i) := d1 0 _ (by omega) (ivs_get hi)
        have fx := hfx m1 hbx.nm
        by_cases c1 : i < 0
        · have hno : ¬ (absV v).may ls := fun e => by have := (e i (List.mem_of_getElem? hi)).1; omega
          simp [fq0, fx, evOp_call, T.get_set, g0, g1, g13, g14, g15, hlt', i1, loadE_eq, getC_eq, k1, hp, c1, hno]
          exact ⟨v, MStep.refl h, rfl⟩
        · by_cases c2 : (v.R.length : Int) ≤ i
          · have hno : ¬ (absV v).may ls := fun e => by have := (e i (List.mem_of_getElem? hi)).2; rw [hlenL] at this; omega
            simp [fq0, fx, evOp_call, T.get_set, g0, g1, g13, g14, g15, hlt', i1, loadE_eq, getC_eq, k1, hp, c1, h1, h2, h.row.lenS, c2, hno]
            exact ⟨v, MStep.refl h, rfl⟩
          · simp [fq0, fx, evOp_call, T.get_set, g0, g1, g13, g14, g15, hlt', i1, loadE_eq, getC_eq, k1, hp, c1, h1, h2, h.row.lenS, c2, hwk]
            exact ⟨⟨k + 1, hlt, by simp [T.get_set, g0], by simp [T.get_set, g1], by simp [T.get_set, g13], by simp [T.get_set, g14], by simp [T.get_set], mem_take1 hi hok ⟨by omega, by omega⟩, rfl⟩, muAt_lt g15 (by simp [T.get_set]) hlt⟩
      · obtain rfl : k = ls.length := by omega
        rw [List.take_length] at hok
        have hyes : (absV v).may ls := fun i hi => by rw [hlenL]; exact hok i hi
        simp [evOp_call, T.get_set, g0, g1, g13, g14, g15, hyes]
        refine Gd.mono (mburn_fl s q v h ho' hf hR fl hfn hfo _) ?_
        rintro ⟨r, s1⟩ ⟨hr, x1⟩
        simp only at hr x1
        subst hr
        by_cases hf1 : v.fuse = 1
        · simp [evOp_call, sets, T.get_set, hf1]
          exact ⟨v.lit, x1, abs_lit v⟩
        · obtain ⟨e1, e2, e3, e4, e5, e6, e7, e8⟩ := lit_not1 hf1
          have hm1 := x1.at'
          have hx1 := x1.row hx hxn
          have hxn1 : ∀ k, Nm x k → ¬ MOw q v.lit k := fun k hk e => by
            rcases x1.own k e with e | e
            · exact hxn k hk e
            · have := hx.nm_lt hk; omega
          generalize hu : v.lit = u at x1 hm1 e1 e2 e3 e4 e5 e6 e7 e8 hxn1
          simp [evOp_call, sets, T.get_set, g0, g1, hf1, hx.lenS]
          refine Gd_loop (flJ s1 q u x ls) (fun e _ => muAt 35 ls.length e) ?_ ?_
          · exact ⟨0, u, Nat.zero_le _, by simp [T.get_set, g0], by simp [T.get_set, g1], by simp [T.get_set], by simp [T.get_set], by simp [T.get_set], MStep.refl hm1, Same.refl _, rfl⟩
          · rintro en s2 ⟨k, v', hk2, f0, f1, f33, f34, f35, hs, hsm, ea⟩
            by_cases hlt : k < ls.length
            · have hlt' : (k : Int) < ls.length := by omega
              have hwk := wrap_nat (n := k) (by omega)
              have hxs := hs.row hx1 hxn1
              have hfs := flOwn (x1.trans hs) hfn hfo
              obtain ⟨m1, o1, ty1, sz1, t1, i1, b1, k1, l1, d1, hbx⟩ := hxs.idxB (st := s2) un32 io3 hlt
              obtain ⟨i, hi⟩ : ∃ i, ls[k]? = some i := ⟨_, List.getElem?_eq_getElem hlt⟩
              have hp : t1.get o1 = some (.int .i64 i) := d1 0 _ (by omega) (ivs_get hi)
              obtain ⟨hi1, hi2⟩ := hok i (List.mem_of_getElem? hi)
              obtain ⟨n, rfl⟩ := Int.eq_ofNat_of_zero_le hi1
              have hnu : n < v'.R.length := by rw [hsm.2.2.2.2.2.2.2, e1]; omega
              obtain ⟨r, hr⟩ : ∃ r, v'.R[n]? = some r := ⟨_, List.getElem?_eq_getElem hnu⟩
              obtain ⟨t2, p1, p2, p3, p4, p5, p6, p7, p8⟩ := hs.at'.blk
              have hrow := hs.at'.row
              have fx := hfx m1 hbx.nm
              obtain ⟨m3, o3, ty3, sz3, t3, i3, b3, k3, l3, d3, hbq⟩ := hrow.idxB (st := s2) un164 io160 hnu
              have hp3 : t3.get o3 = some (.p r.n 0) := d3 0 _ (by omega) (ptrs_get hr)
              have fz := hfs m3 (.inr (.inl hbq.nm))
              obtain ⟨hln, f, hf1, hf2⟩ := hs.at'.lines n r hr
              have hfl : ∀ k, Ow r.n r.y k → inF fl k = false := fun k hk => hfs k (.inr (.inr (.inr ⟨r, List.mem_of_getElem? hr, hk⟩)))
              simp [fq0, fx, fz, evOp_call, T.get_set, f0, f1, f33, f34, f35, hlt', i1, loadE_eq, getC_eq, k1, hp, p1, p2, i3, k3, hp3]
              refine Gd.mono (flush_fl s2 r.n r.y r.m hln fl hfl _) ?_
              rintro ⟨w, s3⟩ ⟨hw, l1, l2⟩
              simp only at hw l1 l2
              subst hw
              simp [evOp_call, T.get_set, f0, f1, f33, f34, f35, hwk]
              refine ⟨⟨k + 1, _, hlt, by simp [T.get_set, f0], by simp [T.get_set, f1], by simp [T.get_set, f33], by simp [T.get_set, f34], by simp [T.get_set], hs.trans (hs.at'.line hr l1 l2 (fun k hk => .inl hk) ⟨r.m.O.length, rfl, Nat.le_refl _⟩), hsm.set _ _, ?_⟩, muAt_lt f35 (by simp [T.get_set]) hlt⟩
              show (v'.R.set n _).map (·.m) = _
              rw [List.map_set, flushL_take hi, ← ea]
              show _ = (v'.R.map (·.m)).set n (flushM ((v'.R.map (·.m))[n]?.getD LM0))
              rw [List.getElem?_map, hr]
              rfl
            · obtain rfl : k = ls.length := by omega
              rw [List.take_length] at ea
              obtain ⟨t2, w1, w2, w3, w4, w5, w6, w7, w8⟩ := hs.at'.blk
              have hx3 := hs.at'.setF (t2.set 5 (.int .i64 (IntKind.i64.wrap (v'.b + 1)))) v'.fuse v'.a (IntKind.i64.wrap (v'.b + 1)) v'.c (by simp [memIs, T.get_set, w2, w3, w4, w5, w6, w8])
              simp [fq0, evOp_call, sets, T.get_set, f0, f1, f33, f34, f35, loadE_eq, getC_eq, w1, w7, putB_eq, roT]
              refine ⟨_, (x1.trans hs).trans hx3, ?_⟩
              have hcc : v'.b = (absV v).b := by rw [hsm.2.2.2.2.2.1, e4]; rfl
              have hab := hsm.abs ea
              rw [← abs_lit, hu, ← hcc]
              have hLL : (absV v).L = (absV u).L := by unfold absV; rw [e1]
              rw [hLL]
              have : absV ({ v' with fuse := v'.fuse, a := v'.a, b := IntKind.i64.wrap (v'.b + 1), c := v'.c } : MV) = { absV v' with b := IntKind.i64.wrap (v'.b + 1) } := rfl
              rw [this, hab]
              rfl
end Go.Proofs.Ytenncnbaoejekaa

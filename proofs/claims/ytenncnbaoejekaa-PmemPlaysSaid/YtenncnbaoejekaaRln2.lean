/-
  Contracts of the document's own line: Store, Flush, NewLine; New with words.
-/
import Derived.Test.YtenncnbaoejekaaRln
set_option linter.unusedSimpArgs false
namespace Go.Proofs.Ytenncnbaoejekaa
open Go.RowKit Ev
set_option maxHeartbeats 2000000 in
theorem rstore_any (st : St) (n f : Nat) (ys yo : V) (m : LM) (h : RefAt st n ys yo m f) (hO : m.O.length < 1000) (hf : f ≤ m.O.length) (a : Int) (v : BitVec 64) (nt : Nat) :
    Gd (callL Try.prog ⟨false, [], 0, nt⟩ 110 [.p n 0, .int .i64 a, wd v] st) fun r => r.1 = .bool (decide (0 ≤ a ∧ a < 8)) ∧ ∃ yo', RefAt r.2 n ys yo' (m.store a v) f ∧ RKept n st r.2 ∧ ∀ q, Nm yo' q → Nm yo q ∨ st.nx ≤ q := by
  obtain ⟨t, h1, h2, h3⟩ := h.blk
  have hlt := h.lt
  have hne : ¬ st.nx = n := by omega
  rw [Gd_callL Try.func110 rfl]
  by_cases h0 : a < 0
  · have hd : decide (0 ≤ a ∧ a < 8) = false := by simp; omega
    have hst : m.store a v = m := by unfold LM.store; rw [if_neg (by omega)]
    rw [hd, hst]
    simp [evOp_call, sets, T.get_set, h0]
    exact ⟨yo, h, RKept.refl _ _, fun q hq => .inl hq⟩
  · by_cases h8 : 7 < a
    · have hd : decide (0 ≤ a ∧ a < 8) = false := by simp; omega
      have hst : m.store a v = m := by unfold LM.store; rw [if_neg (by omega)]
      rw [hd, hst]
      simp [evOp_call, sets, T.get_set, h0, h8]
      exact ⟨yo, h, RKept.refl _ _, fun q hq => .inl hq⟩
    · have hd : decide (0 ≤ a ∧ a < 8) = true := by simp; omega
      have hst : m.store a v = { m with N := m.N.set a.toNat v, O := m.O ++ [(a, v)] } := by unfold LM.store; rw [if_pos (by omega)]
      rw [hd, hst]
      simp [evOp_call, sets, T.get_set, h0, h8]
      rw [evOp_build0 (fun k => el209 k) (fun k => ze220 k) rfl]
      have he : Ext st.nx st ⟨st.nx + 1, st.h.set st.nx (.cs 220 0 .lf)⟩ := (Ext.refl _ _).new (Nat.le_refl _) _
      have hr0 := h.other he.le fun q hq => he.keep q (h.own_lt hq)
      have hbl : ∀ (x y : Operand) (s : St), bldK Try.prog 220 [(0, x), (1, y)] [V.int .i64 a, wd v] [V.int .i64 0, V.int .u64 0, V.bool false] s = some (.g [V.int .i64 a, wd v, V.bool false], s) := fun x y s => by
        rw [bldK_ok so220, partsK_one rfl (by simp) (by simp), partsK_one rfl (by simp) (by simp)]; rfl
      have hsn := rcells_snoc m.O f (a, v)
      have hdf : decide (m.O.length < f) = false := by simp; omega
      rw [hdf] at hsn
      simp only at hsn
      have fin : ∀ (s : St) (y' : V), Ext st.nx st s → RdRow s y' 3 (m.O.length + 1) (rcells (m.O ++ [(a, v)]) f) → (∀ q, Nm y' q → st.nx ≤ q) → (∀ m o l q, y' ≠ .sl m o l q) → ∃ yo', RefAt ⟨s.nx, s.h.set n (.cs 211 2 (t.set 1 y'))⟩ n ys yo' { m with N := m.N.set a.toNat v, O := m.O ++ [(a, v)] } f ∧ RKept n st ⟨s.nx, s.h.set n (.cs 211 2 (t.set 1 y'))⟩ ∧ ∀ q, Nm yo' q → Nm yo q ∨ st.nx ≤ q := fun s y' hs hy hq hsl => by
        have hrs := h.other hs.le fun q hq => hs.keep q (h.own_lt hq)
        have hset := hrs.set (m' := { m with N := m.N.set a.toNat v, O := m.O ++ [(a, v)] }) (f' := f) (ys' := ys) (yo' := y') (t' := t.set 1 y') (by simp [T.get_set, h2]) (by simp [T.get_set]) hrs.a1 (fun e => by have := hq n e; omega) hsl h.ls (by simp; omega) (fun r hr => by
          have hr' : r ∈ m.O ++ [(a, v)] := hr
          rcases List.mem_append.1 hr' with hr | hr
          · exact h.oks r hr
          · simp at hr; subst hr; simp; omega) hrs.sr (by simpa using hy)
        exact ⟨y', hset.1, (RKept.ofExt hs).trans hset.2, fun q hq' => .inr (hq q hq')⟩
      simp [T.get_set, loadE_eq, getC_eq, hne, h1, h3]
      refine Gd_append0 un209 un209 io220 (by decide) (T.get_set_same _ _ _) hr0.orow.notS (fun k => hr0.orow.len k) (fun k => hr0.orow.firsts k) hr0.orow.1 (by omega) (fun hz => ?_) fun hp => ?_
      · have hOn : m.O = [] := List.length_eq_zero_iff.1 hz
        simp [T.get_set, hbl]
        refine evOp_build1 (v := .g [.int .i64 a, wd v, .bool false]) (cs := [.int .i64 a, wd v, .bool false]) (fun k => el209 k) (fun k => ze220 k) rfl (by omega) (by simp [T.get_set]) (fun k => rfl) rfl ?_
        simp [T.get_set]
        have hne1 : ¬ st.nx + 1 = st.nx := by omega
        refine Gd_append0 (lx := 1) (new := [.int .i64 a, wd v, .bool false]) un209 un209 io220 (by decide) (by show (T.set _ (st.nx + 1) _).get st.nx = _; rw [T.get_set_ne _ _ hne1]; exact T.get_set_same _ _ _) (fun s' e => by cases e) (fun k => rfl) (fun k => by simp [getC_eq, getsB_3, T.get_set, sets]) rfl (by omega) (fun h => absurd h (by decide)) fun _ => ?_
        have hne2 : ¬ st.nx + 1 + 1 = n := by omega
        have hne3 : ¬ st.nx + 1 = n := by omega
        simp [T.get_set, putB_eq, hne, hne2, hne3, h1, roT, sets]
        refine fin ⟨st.nx + 1 + 1 + 1, ((st.h.set st.nx (.cs 220 0 .lf)).set (st.nx + 1) (.cs 220 3 (((T.lf.set 0 (.int .i64 a)).set 1 (wd v)).set 2 (.bool false)))).set (st.nx + 1 + 1) (.cs 220 3 (((T.lf.set 0 (.int .i64 a)).set 1 (wd v)).set 2 (.bool false)))⟩ (.sg (st.nx + 1 + 1) 0 1 3) ((he.new (Nat.le_succ _) _).new (by show st.nx ≤ st.nx + 1 + 1; omega) _) ?_ (fun q hq => by rcases hq with ⟨_, _, _, e⟩ | ⟨_, _, _, e⟩ <;> cases e; omega) (fun _ _ _ _ e => by cases e)
        rw [hsn, hOn]
        refine ⟨rfl, .inr (.inr ⟨st.nx + 1 + 1, 0, 220, 3, _, rfl, Nat.lt_succ_self _, T.get_set_same _ _ _, Nat.le_refl _, fun j w hj => ?_⟩)⟩
        have hj3 : j < 3 := lt_of_get hj
        rcases (by omega : j = 0 ∨ j = 1 ∨ j = 2) with rfl | rfl | rfl <;> (simp [rcells] at hj; subst hj; simp [T.get_set])
      · have hl3 : (rcells m.O f).length = m.O.length * 3 := rcells_length _ _
        have he2 := he.new (Nat.le_succ _) (.cs 220 (rcells m.O f).length (sets (rcells m.O f) 0 .lf))
        have ho : OwnRow st.nx ⟨st.nx + 1 + 1, (st.h.set st.nx (.cs 220 0 .lf)).set (st.nx + 1) (.cs 220 (rcells m.O f).length (sets (rcells m.O f) 0 .lf))⟩ (.sg (st.nx + 1) 0 m.O.length 3) 3 m.O.length (rcells m.O f) := by
          refine ⟨hl3, .inr ⟨st.nx + 1, 220, sets (rcells m.O f) 0 .lf, rfl, Nat.le_succ _, Nat.lt_succ_self _, ?_, by decide, fun j w hj => ?_⟩⟩
          · rw [← hl3]; exact T.get_set_same _ _ _
          · have hjl := lt_of_get hj
            rw [get_sets, if_pos ⟨Nat.zero_le _, by omega⟩]
            simpa using hj
        have e3 : Ext (st.nx + 2) ⟨st.nx + 1 + 1, (st.h.set st.nx (.cs 220 0 .lf)).set (st.nx + 1) (.cs 220 (rcells m.O f).length (sets (rcells m.O f) 0 .lf))⟩ ⟨st.nx + 1 + 1 + 1, ((st.h.set st.nx (.cs 220 0 .lf)).set (st.nx + 1) (.cs 220 (rcells m.O f).length (sets (rcells m.O f) 0 .lf))).set (st.nx + 1 + 1) (.cs 220 3 (((T.lf.set 0 (.int .i64 a)).set 1 (wd v)).set 2 (.bool false)))⟩ := (Ext.refl (st.nx + 2) ⟨st.nx + 1 + 1, (st.h.set st.nx (.cs 220 0 .lf)).set (st.nx + 1) (.cs 220 (rcells m.O f).length (sets (rcells m.O f) 0 .lf))⟩).new (Nat.le_refl _) _
        have ho3 := ho.ext e3
        simp [T.get_set, hbl]
        refine evOp_build1 (v := .g [.int .i64 a, wd v, .bool false]) (cs := [.int .i64 a, wd v, .bool false]) (fun k => el209 k) (fun k => ze220 k) rfl (by omega) (by simp [T.get_set]) (fun k => rfl) rfl ?_
        simp [T.get_set]
        refine Gd_append (lx := 1) (new := [.int .i64 a, wd v, .bool false]) un209 un209 io220 ho3 (by show st.nx ≤ st.nx + 1 + 1 + 1; omega) (by decide) (fun s' e => by cases e) (fun k => rfl) (fun k => by simp [getC_eq, getsB_3, T.get_set, sets]) rfl (by omega) ?_
        intro s' st' ho' he' hk' hs'
        have hone := ho'.rd.one
        have hx : Ext st.nx st st' := (he2.trans (e3.mono (by omega))).trans he'
        have hg : st'.h.get n = some (.cs 211 2 t) := by rw [hx.keep n hlt]; exact h1
        simp [T.get_set, storeK_1 hone, putB_eq, hg, roT, sets]
        refine fin st' s' hx ?_ (fun q hq => ho'.nm_ge hq) (fun _ _ _ _ e => ?_)
        · rw [hsn]; exact ho'.rd
        · rcases hs' with e1 | ⟨ln, e1⟩
          · rw [e1] at e; cases e
          · rw [e1] at e; cases e
def rflushI (st : St) (n f : Nat) (ys yo : V) (m : LM) (en : Env) (s : St) : Prop := ∃ (i : Nat) (y : V), i ≤ m.O.length ∧ en.get 0 = some (.p n 0) ∧ en.get 2 = some y ∧ en.get 3 = some (.int .i64 (i : Int)) ∧ OwnRow st.nx s y 3 i (rcells (m.O.take i) m.O.length) ∧ (∀ m o l q, y ≠ .sl m o l q) ∧ RefAt s n ys yo m f ∧ Ext st.nx st s
theorem ownRow_notSl {b : Nat} {st : St} {v : V} {z n : Nat} {l : List V} (h : OwnRow b st v z n l) : ∀ m o l q, v ≠ .sl m o l q := fun m o l q e => by
  obtain ⟨_, g2⟩ := h
  rcases g2 with ⟨g, _⟩ | ⟨_, _, _, g, _⟩ <;> rw [g] at e <;> cases e
set_option maxHeartbeats 2000000 in
theorem rflush_any (st : St) (n f : Nat) (ys yo : V) (m : LM) (h : RefAt st n ys yo m f) (nt : Nat) :
    Gd (callL Try.prog ⟨false, [], 0, nt⟩ 112 [.p n 0] st) fun r => r.1 = .t [] ∧ ∃ yo', RefAt r.2 n ys yo' m m.O.length ∧ RKept n st r.2 ∧ ∀ q, Nm yo' q → st.nx ≤ q := by
  have hsm := h.small
  have hlt := h.lt
  rw [Gd_callL Try.func112 rfl]
  simp [evOp_call, sets, T.get_set]
  refine Gd_loop (rflushI st n f ys yo m) (fun e _ => muAt 3 m.O.length e) ?_ ?_
  · exact ⟨0, .c (.slice none 0 0), Nat.zero_le _, by simp [T.get_set], by simp [T.get_set], by simp [T.get_set], by simpa [rcells] using OwnRow.nil _ _ _, (fun _ _ _ _ e => by cases e), h, Ext.refl _ _⟩
  · rintro e s ⟨i, y, hi, g0, g2, g3, ho, hsl, hr, hs⟩
    obtain ⟨t, h1, h2, h3⟩ := hr.blk
    by_cases hk2 : i < m.O.length
    · have hk2' : (i : Int) < m.O.length := by omega
      have hwi := wrap_nat (n := i) (by omega)
      obtain ⟨q2, o2, ty2, sz2, tr2, hid2, hm2, hg2, ho2, hc2⟩ := hr.orow.idx (st := s) un209 io220 hk2
      obtain ⟨⟨A, W⟩, hrr⟩ : ∃ r, m.O[i]? = some r := ⟨_, List.getElem?_eq_getElem hk2⟩
      have hcl := rcells_at m.O f i _ hrr
      have u0 : tr2.get o2 = some (.int .i64 A) := hc2 0 _ (by omega) hcl.1
      have u1 : tr2.get (o2 + 1) = some (wd W) := hc2 1 _ (by omega) hcl.2.1
      have hone := ho.rd.one
      simp [evOp_call, T.get_set, g0, g2, g3, hk2', loadE_eq, getC_eq, h1, h3, hr.orow.lenS, hid2, hg2, u0, u1]
      refine ⟨by kernel_rfl, ?_⟩
      refine evOp_build1 (v := .g [.int .i64 A, wd W, .bool true]) (cs := [.int .i64 A, wd W, .bool true]) (fun k => el209 k) (fun k => ze220 k) rfl (by omega) (by simp [T.get_set]) (fun k => rfl) rfl ?_
      have e3 : Ext s.nx s ⟨s.nx + 1, s.h.set s.nx (.cs 220 3 (sets [.int .i64 A, wd W, .bool true] 0 .lf))⟩ := (Ext.refl _ _).new (Nat.le_refl _) _
      have ho3 := ho.ext e3
      simp [T.get_set]
      refine Gd_cxB (c' := ⟨false, [], 0, 37⟩) (by kernel_rfl) ?_
      refine Gd_append (lx := 1) (new := [.int .i64 A, wd W, .bool true]) un209 un209 io220 ho3 (by have := hs.le; show st.nx ≤ s.nx + 1; omega) (by decide) (fun s' e => by cases e) (fun k => rfl) (fun k => by simp [getC_eq, getsB_3, T.get_set, sets]) rfl (by omega) ?_
      intro s' st' ho' he' hk' hs'
      have hx : Ext st.nx st st' := (hs.trans (e3.mono hs.le)).trans he'
      simp [evOp_call, T.get_set, g0, g2, g3, hwi]
      have hsn : rcells (m.O.take (i + 1)) m.O.length = rcells (m.O.take i) m.O.length ++ [.int .i64 A, wd W, .bool true] := by
        have hlen : (m.O.take i).length = i := by rw [List.length_take]; omega
        have hd : decide ((m.O.take i).length < m.O.length) = true := by rw [hlen]; simpa using hk2
        have : m.O.take (i + 1) = m.O.take i ++ [(A, W)] := by rw [List.take_add_one, hrr]; rfl
        rw [this, rcells_snoc, hd]
      refine ⟨⟨i + 1, s', hk2, by simp [T.get_set, g0], by simp [T.get_set], by simp [T.get_set], by rw [hsn]; exact ho', ownRow_notSl ho', ?_, hx⟩, muAt_lt g3 (by simp [T.get_set]) hk2⟩
      exact h.other hx.le fun q hq => hx.keep q (h.own_lt hq)
    · obtain rfl : i = m.O.length := by omega
      rw [List.take_length] at ho
      have hone := ho.rd.one
      simp [evOp_call, T.get_set, g0, g2, g3, loadE_eq, getC_eq, h1, h3, hr.orow.lenS, storeK_1 hone, putB_eq, roT, sets]
      have hset := hr.set (m' := m) (f' := m.O.length) (ys' := ys) (yo' := y) (t' := t.set 1 y) (by simp [T.get_set, h2]) (by simp [T.get_set]) hr.a1 (fun e => by have := ho.nm_ge e; omega) hsl h.ls hsm h.oks hr.sr ho.rd
      exact ⟨y, hset.1, (RKept.ofExt hs).trans hset.2, fun q hq => ho.nm_ge hq⟩
end Go.Proofs.Ytenncnbaoejekaa

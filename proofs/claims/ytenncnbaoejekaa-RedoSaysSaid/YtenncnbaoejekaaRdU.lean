/-
  PLAIN: RdX, RdY, RdZ, in one text.
-/
import Derived.Test.YtenncnbaoejekaaRdP
import Derived.Test.YtenncnbaoejekaaRdO
set_option linter.unusedSimpArgs false
namespace Go.Proofs.Ytenncnbaoejekaa
open Go.RowKit Ev
theorem Gd_append0F {P : Program} {st : St} {fl : List (Nat × Nat)} {t t' el el' z m lx nt : Nat} {x : V} {new : List V} {Q : V × St → Prop} (hu : P.underlying t = some (.slice el)) (hk : P.underlying t' = some (.slice el')) (hi : infoOk P el z = true) (hel : el ≠ roT)
    (hfm : inF fl m = false) (hm : st.h.get m = some (.cs el 0 .lf)) (hx : ∀ s', x ≠ .s s') (hl : ∀ k : Nat → Res, lenA x k = k lx) (hf : ∀ k : List V → Res, firsts ⟨false, fl, 0, nt⟩ st z lx x k = k new) (hn : new.length = lx * z) (hmax : lx ≤ 1073741824)
    (h0 : lx = 0 → Q (.sl m 0 0 0, ⟨st.nx, st.h.set m (.cs el 0 .lf)⟩)) (h1 : 0 < lx → Q (.sg st.nx 0 lx z, ⟨st.nx + 1, st.h.set st.nx (.cs el new.length (sets new 0 .lf))⟩)) : Gd (builtinE P ⟨false, fl, 0, nt⟩ .append [t, t'] [.sl m 0 0 0, x] st) Q := by
  have e1 : builtinE P ⟨false, fl, 0, nt⟩ .append [t, t'] [.sl m 0 0 0, x] st = appE ⟨false, fl, 0, nt⟩ st el z 0 lx (.sl m 0 0 0) new := by
    have hsm : small P el (0 + lx) = true := infoOk_small hi (by omega)
    unfold builtinE
    simp only [elemOf_ok hu hi, hk, lenA_sl]
    cases x with
    | s s' => exact absurd rfl (hx s')
    | _ => simp only [hl, hf, hsm]
  rw [e1]
  unfold appE
  simp only [fn_eq, Nat.zero_add]
  by_cases hz : lx = 0
  · subst hz
    have hnew : new = [] := List.length_eq_zero_iff.1 (by omega)
    subst hnew
    simp [putB_eq, hm, hel, sets, hfm]
    exact h0 rfl
  · have hb : Nat.ble lx 0 = false := by
      cases h : Nat.ble lx 0 with
      | false => rfl
      | true => rw [Nat.ble_eq] at h; omega
    simp only [hb]
    unfold growE
    simp [getC_eq, hm, getsB_zero, newC_is, hfm]
    exact h1 (by omega)
theorem firsts_fl {β : Type} {st : St} {fl : List (Nat × Nat)} {wb nt z n : Nat} {x : V} {l : List V} (h : RdRow st x z n l) (hfx : ∀ m, rowIn x m → inF fl m = false) (k : List V → Option β) : firsts ⟨false, fl, wb, nt⟩ st z n x k = k l := by
  obtain ⟨h1, h2⟩ := h
  rcases h2 with ⟨hx, rfl⟩ | ⟨m, o, q, ty, sz, t, rfl, _, h4, _, h6⟩ | ⟨m, o, ty, sz, t, rfl, _, h4, _, h6⟩
  · have hl : l = [] := List.eq_nil_of_length_eq_zero (by rw [h1]; simp)
    subst hl
    rcases hx with rfl | rfl <;> rfl
  · rw [firsts_sl, if_pos (Nat.le_refl _), getC_eq, h4]
    simp only [ok_top, hfx m (.inl ⟨_, _, _, rfl⟩), Bool.not_false, cond_true, Option.bind_some, csK_cs]
    rw [← h1]
    exact getsB_list h6 k
  · have e1 : Ev.firsts ⟨false, fl, wb, nt⟩ st z n (.sg m o n z) k = (match Nat.ble n n with | true => getC ⟨false, fl, wb, nt⟩ st m fun t => getsB t (n * z) o k | false => none) := rfl
    have e2 : Nat.ble n n = true := by rw [Nat.ble_eq]; exact Nat.le_refl _
    rw [e1, e2]
    simp only
    rw [getC_eq, h4]
    simp only [ok_top, hfx m (.inr ⟨_, _, _, rfl⟩), Bool.not_false, cond_true, Option.bind_some, csK_cs]
    rw [← h1]
    exact getsB_list h6 k
theorem clone_fl (st : St) (fl : List (Nat × Nat)) (hfn : ∀ k, st.nx ≤ k → inF fl k = false) (x : V) (n : Nat) (l : List V) (hx : RdRow st x 1 n l) (hn : n ≤ 1000000) (hfx : ∀ m, rowIn x m → inF fl m = false) (nt : Nat) :
    Gd (callL Try.prog ⟨false, fl, 0, nt⟩ 160 [x] st) fun r => RdRow r.2 r.1 1 n l ∧ (0 < n → OwnRow st.nx r.2 r.1 1 n l) ∧ RowFrom st.nx r.1 ∧ Ext st.nx st r.2 := by
  rw [Gd_callL Try.func160 rfl]
  by_cases hnil : isNil x = true
  · obtain ⟨rfl, rfl⟩ := isNil_len hx hnil
    simp [sets, T.get_set, eql_nil un30 hx, hnil]
    exact ⟨hx, ⟨fun _ _ _ _ e => (by cases e), fun _ _ _ _ e => by cases e⟩, Ext.refl _ _⟩
  · simp [sets, T.get_set, eql_nil un30 hx, hnil]
    rw [evOp_build0 (fun k => el30 k) (fun k => ze31 k) rfl]
    simp [T.get_set]
    have he : Ext st.nx st ⟨st.nx + 1, st.h.set st.nx (.cs 31 0 .lf)⟩ := (Ext.refl _ _).new (Nat.le_refl _) _
    have hx' := hx.ext he
    refine Gd_append0F un30 un30 io31 (by decide) (hfn _ (Nat.le_refl _)) (T.get_set_same _ _ _) hx.notS (fun k => hx.len k) (fun k => firsts_fl hx' hfx k) hx.1 (by omega) (fun h0 => ?_) fun h1 => ?_
    · subst h0
      simp [T.get_set]
      have hl : l = [] := List.length_eq_zero_iff.1 (by have := hx.1; omega)
      subst hl
      exact ⟨⟨rfl, .inr (.inl ⟨st.nx, 0, 0, 31, 0, .lf, rfl, Nat.lt_succ_self _, T.get_set_same _ _ _, Nat.le_refl _, fun j v h => by simp at h⟩)⟩, ⟨fun _ _ _ _ e => (by cases e), fun _ _ _ _ e => (by cases e; exact Nat.le_refl _)⟩, he⟩
    · simp [T.get_set]
      have h2 := he.new (Nat.le_succ _) (.cs 31 l.length (sets l 0 .lf))
      have ho : OwnRow st.nx ⟨st.nx + 1 + 1, (st.h.set st.nx (.cs 31 0 .lf)).set (st.nx + 1) (.cs 31 l.length (sets l 0 .lf))⟩ (.sg (st.nx + 1) 0 n 1) 1 n l := by
        refine ⟨hx.1, .inr ⟨st.nx + 1, 31, sets l 0 .lf, rfl, Nat.le_succ _, Nat.lt_succ_self _, ?_, by decide, fun j v hj => ?_⟩⟩
        · rw [← hx.1]; exact T.get_set_same _ _ _
        · have hjl : j < l.length := lt_of_get hj
          rw [get_sets, if_pos ⟨Nat.zero_le _, by omega⟩]
          simpa using hj
      exact ⟨ho.rd, fun _ => ho, ⟨fun _ _ _ _ e => (by cases e; omega), fun _ _ _ _ e => by cases e⟩, h2⟩
set_option maxRecDepth 20000 in
set_option maxHeartbeats 1000000 in
theorem do_fl (st : St) (fl : List (Nat × Nat)) (hfn : ∀ k, st.nx ≤ k → inF fl k = false) (x y : V) (L : List (BitVec 64)) (K : List (Int × BitVec 64)) (hx : RdRow st x 1 L.length (wv L)) (hL : L.length ≤ 1000000) (hy : RdRow st y 2 K.length (iw K)) (hK : K.length ≤ 1000000) (hfx : ∀ m, rowIn x m → inF fl m = false) (hfy : ∀ m, rowIn y m → inF fl m = false) (nt : Nat) :
    Gd (callL Try.prog ⟨false, fl, 0, nt⟩ 103 [x, y] st) fun r => RdRow r.2 r.1 1 L.length (wv (doW L K)) ∧ RowFrom st.nx r.1 ∧ Ext st.nx st r.2 := by
  rw [Gd_callL Try.func103 rfl]
  simp [evOp_call, sets, T.get_set]
  refine Gd.mono (clone_fl st fl hfn x _ _ hx (by omega) hfx _) ?_
  rintro ⟨z, s1⟩ ⟨h1, h2, h3, e1⟩
  simp only at h1 h2 h3 e1
  have b1 : st.nx ≤ s1.nx := e1.le
  simp [evOp_call, T.get_set, hy.lenS]
  refine Gd_loop (doI st y L K) (fun en _ => muAt 12 K.length en) ?_ ?_
  · exact ⟨0, z, Nat.zero_le _, by simp [T.get_set], by simp [T.get_set], by simp [T.get_set], by simp [T.get_set], h1, h2, h3, e1⟩
  · clear h1 h2 h3
    rintro en s ⟨k, z, hk, g5, g10, g11, g12, hz, hoz, hzf, hs⟩
    have hsn := hs.le
    have hlen := doW_length (K.take k) L
    by_cases hlt : k < K.length
    · have hlt' : (k : Int) < K.length := by omega
      have hwk := wrap_nat (n := k) (by omega)
      have hys := hy.ext hs
      obtain ⟨m, o, ty, sz, tr, hid, hm, hg, ho, hc, hri⟩ := hys.idxB (st := s) un131 io155 hlt
      obtain ⟨⟨F, N⟩, hr⟩ : ∃ r, K[k]? = some r := ⟨_, List.getElem?_eq_getElem hlt⟩
      have hcl := iw_at K k _ hr
      have t0 : tr.get o = some (.int .i64 F) := hc 0 _ (by omega) hcl.1
      have t1 : tr.get (o + 1) = some (wd N) := hc 1 _ (by omega) hcl.2
      have hne : ¬ s.nx = m := by omega
      have hfm := hfy m hri
      have fn0 := hfn s.nx hsn
      have hst := doW_take (L := L) hr
      have hext := fun v => (Ext.refl s.nx s).new (Nat.le_refl _) v
      by_cases c1 : 0 ≤ F
      · by_cases c2 : F < L.length
        · obtain ⟨f, rfl⟩ := Int.eq_ofNat_of_zero_le c1
          have hfl : f < L.length := by omega
          have hset : doW L (K.take (k + 1)) = (doW L (K.take k)).set f N := by
            rw [hst]; unfold wr1; rw [hlen, if_pos ⟨by omega, by omega⟩]; rfl
          have hwv : wv ((doW L (K.take k)).set f N) = (wv (doW L (K.take k))).set f (wd N) := by unfold wv; rw [List.map_set]
          obtain ⟨m2, ty2, tr2, rfl, hb2, hm2, hg2, hro2, hc2, hput⟩ := OwnRow.put2 (hoz (by omega)) (i := f) hfl
          have hne2 : ¬ s.nx = m2 := by omega
          have hfm2 := hfn m2 hb2
          have hfl1 : f + 1 ≤ L.length := hfl
          simp [hfm, fn0, evOp_call, T.get_set, g5, g10, g11, g12, hlt', hid, hfm2, loadE_eq, getC_eq, hg, getsB_2, t0, t1, newC_is, cellsOf, putB_eq, storeK_g, roT, sets, hne, hne2, hz.lenS, c1, c2, hfl, hfl1, hg2, hro2, hwk]
          have hp := fun B => hput ⟨s.nx + 1, s.h.set s.nx B⟩ (Nat.lt_succ_of_lt hm2) (wd N)
          refine ⟨⟨k + 1, _, hlt, by simp [T.get_set, g5], by simp [T.get_set, g10], by simp [T.get_set, g11], by simp [T.get_set], ?_, ?_, hzf, ?_⟩, muAt_lt g12 (by simp [T.get_set]) hlt⟩
          · rw [hset, hwv]; exact (hp _).rd
          · rw [hset, hwv]; exact fun _ => hp _
          · exact (hs.trans ((hext _).mono hsn)).set (m := m2) hb2 (Nat.lt_succ_of_lt hm2) _
        · have hno : doW L (K.take (k + 1)) = doW L (K.take k) := by rw [hst]; unfold wr1; rw [hlen, if_neg (fun h => c2 h.2)]
          simp [hfm, fn0, evOp_call, T.get_set, g5, g10, g11, g12, hlt', hid, loadE_eq, getC_eq, hg, getsB_2, t0, t1, newC_is, cellsOf, putB_eq, storeK_g, roT, sets, hne, hz.lenS, c1, c2, hwk]
          refine ⟨⟨k + 1, z, hlt, by simp [T.get_set, g5], by simp [T.get_set, g10], by simp [T.get_set, g11], by simp [T.get_set], ?_, ?_, hzf, hs.trans ((hext _).mono hsn)⟩, muAt_lt g12 (by simp [T.get_set]) hlt⟩
          · rw [hno]; exact hz.ext (hext _)
          · rw [hno]; exact fun h => (hoz h).ext (hext _)
      · have hno : doW L (K.take (k + 1)) = doW L (K.take k) := by rw [hst]; unfold wr1; rw [if_neg (fun h => c1 h.1)]
        simp [hfm, fn0, evOp_call, T.get_set, g5, g10, g11, g12, hlt', hid, loadE_eq, getC_eq, hg, getsB_2, t0, t1, newC_is, cellsOf, putB_eq, storeK_g, roT, sets, hne, hz.lenS, c1, hwk]
        refine ⟨⟨k + 1, z, hlt, by simp [T.get_set, g5], by simp [T.get_set, g10], by simp [T.get_set, g11], by simp [T.get_set], ?_, ?_, hzf, hs.trans ((hext _).mono hsn)⟩, muAt_lt g12 (by simp [T.get_set]) hlt⟩
        · rw [hno]; exact hz.ext (hext _)
        · rw [hno]; exact fun h => (hoz h).ext (hext _)
    · obtain rfl : k = K.length := by omega
      rw [List.take_length] at hz hoz
      simp [evOp_call, T.get_set, g5, g11, g12]
      exact ⟨hz, hzf, hs⟩
theorem forb_step {b j u v : Nat} {rs : List (Nat × Nat × Nat)} {l : List (Nat × Nat)} (h : Nat.testBit b j = true) (ih : forb b rs l = l) : forb b (rsOf rs j u v) l = l := by
  unfold rsOf
  cases Nat.beq u v
  · show (match Nat.testBit b j with | true => forb b rs l | false => (u, v) :: forb b rs l) = l
    rw [h]; exact ih
  · exact ih
theorem forb_cons {b j u v : Nat} {rs : List (Nat × Nat × Nat)} {l : List (Nat × Nat)} (h : Nat.testBit b j = true) (ih : forb b rs l = l) : forb b ((j, u, v) :: rs) l = l := by
  show (match Nat.testBit b j with | true => forb b rs l | false => (u, v) :: forb b rs l) = l
  rw [h]; exact ih
theorem inF_forbs {b m : Nat} {l : List (Nat × Nat)} (hl : inF l m = false) : ∀ {rs : List (Nat × Nat × Nat)}, (∀ e ∈ rs, m < e.2.1) → inF (forb b rs l) m = false
  | [], _ => hl
  | (i, x, y) :: rs, h => by
    have ih := inF_forbs (b := b) hl (rs := rs) fun e he => h e (by simp [he])
    have hx : m < x := h (i, x, y) (by simp)
    show inF (match Nat.testBit b i with | true => forb b rs l | false => (x, y) :: forb b rs l) m = false
    cases Nat.testBit b i
    · show inF ((x, y) :: forb b rs l) m = false
      rw [inF_cons, if_neg (by omega)]; exact ih
    · exact ih
theorem rsOf_lt {m i x y : Nat} {rs : List (Nat × Nat × Nat)} (h : ∀ e ∈ rs, m < e.2.1) (hx : m < x) : ∀ e ∈ rsOf rs i x y, m < e.2.1 := by
  unfold rsOf
  cases Nat.beq x y
  · intro e he
    rcases List.mem_cons.1 he with rfl | he
    · exact hx
    · exact h e he
  · exact h
theorem inF_lds {b m nx : Nat} {rs : List (Nat × Nat × Nat)} (h : ∀ e ∈ rs, m < e.2.1) : inF ((0, m) :: (m + 1, nx) :: forb b rs []) m = false := by
  rw [inF_cons, if_neg (by omega), inF_cons, if_neg (by omega)]
  exact inF_forbs rfl h
theorem rs_nil {m : Nat} : ∀ e ∈ ([] : List (Nat × Nat × Nat)), m < e.2.1 := fun e he => by cases he
theorem clash_old {q z n : Nat} {st : St} {w : V} {l : List V} (hr : RdRow st w z n l) (hq : st.nx ≤ q) : (blkOf w).elim false (inF [(q, q + 1)]) = false := by
  obtain ⟨_, h2⟩ := hr
  rcases h2 with ⟨rfl | rfl, _⟩ | ⟨m, o, q', ty, sz, t, rfl, hm, _⟩ | ⟨m, o, ty, sz, t, rfl, hm, _⟩
  · rfl
  · rfl
  · show inF [(q, q + 1)] m = false
    rw [inF_cons, if_neg (by omega)]; rfl
  · show inF [(q, q + 1)] m = false
    rw [inF_cons, if_neg (by omega)]; rfl
theorem rowIn_lt {m z n : Nat} {st : St} {w : V} {l : List V} (hr : RdRow st w z n l) (h : rowIn w m) : m < st.nx := by
  rcases h with ⟨_, _, _, rfl⟩ | ⟨_, _, _, rfl⟩
  · exact hr.lt_of.2 _ _ _ _ rfl
  · exact hr.lt_of.1 _ _ _ _ rfl
end Go.Proofs.Ytenncnbaoejekaa
set_option linter.unusedSimpArgs false
namespace Go.Proofs.Ytenncnbaoejekaa
open Go.RowKit Ev
@[simp] theorem bool_eqlY (st : St) (x y : Operand) (a b : Bool) : binE Try.prog st .eql 4 x y (.bool a) (.bool b) = some (.bool (a == b), st) := by cases a <;> cases b <;> kernel_rfl
def dif (a b : List (BitVec 64)) : List (Int × BitVec 64) := if a.length = b.length then sameN a b b.length else []
theorem dif_le (a b : List (BitVec 64)) : (dif a b).length ≤ b.length := by
  unfold dif; split
  · exact sameN_le a b b.length
  · simp
theorem getK_le (L : List (BitVec 64)) : (getK L).length ≤ 400 := by
  unfold getK; split
  · rename_i h; rw [pairsR_length]; exact h.2.1
  · simp
theorem sdiff3_any (st : St) (x y : V) (a b : List (BitVec 64)) (hx : RdRow st x 1 a.length (wv a)) (hy : RdRow st y 1 b.length (wv b)) (hb : b.length ≤ 400) (nt : Nat) :
    Gd (callL Try.prog ⟨false, [], 0, nt⟩ 97 [x, y] st) fun r => ∃ v, r.1 = .t [v, .bool (decide (a.length = b.length))] ∧ RdRow r.2 v 2 (dif a b).length (iw (dif a b)) ∧ Ext st.nx st r.2 := by
  by_cases hk : a.length = b.length
  · refine (sdiff_any st x y a b hx hy hb nt).mono ?_
    rintro ⟨r, s⟩ ⟨v, h1, h2, h3⟩
    refine ⟨v, h1, ?_, h3⟩
    unfold dif; rw [if_pos hk]; exact h2 hk
  · have hk' : ¬ (a.length : Int) = b.length := by omega
    rw [Gd_callL Try.func97 rfl]
    simp [evOp_call, sets, T.get_set, hx.lenS, hy.lenS, hk, hk']
    unfold dif; rw [if_neg hk]
    exact ⟨(OwnRow.nil 0 st 2).rd, Ext.refl _ _⟩
set_option maxRecDepth 20000 in
set_option maxHeartbeats 8000000 in
theorem g_RedoSays (st : St) (n : BitVec 64) (y : V) (K : List (Int × BitVec 64)) (hy : RdRow st y 2 K.length (iw K)) (x : V) (R : List (BitVec 64)) (hx : RdRow st x 1 R.length (wv R)) (hcap : CapOk x)
    (a b : V) (A B : List (BitVec 64)) (ha : RdRow st a 1 A.length (wv A)) (hb : RdRow st b 1 B.length (wv B)) :
    Gd (lawC Try.prog 92 ⟨false, [], 0, 0⟩ 19 [.g [wd n, y], x, a, b] st) fun r => r.1 = .bool true := by
  have hone := hy.one
  rw [Gd_lawC Try.func19 rfl]
  by_cases h1 : (60 : Int) < K.length
  · simp [evOp_call, sets, T.get_set, cellsOf, newC_is, loadE_eq, getC_eq, hy.lenS, h1]
  · by_cases h2 : (200 : Int) < R.length
    · simp [evOp_call, sets, T.get_set, cellsOf, newC_is, loadE_eq, getC_eq, hy.lenS, hx.lenS, h1, h2]
    · by_cases h3 : (100 : Int) < A.length
      · simp [evOp_call, sets, T.get_set, cellsOf, newC_is, loadE_eq, getC_eq, hy.lenS, hx.lenS, ha.lenS, h1, h2, h3]
      · by_cases h4 : (100 : Int) < B.length
        · simp [evOp_call, sets, T.get_set, cellsOf, newC_is, loadE_eq, getC_eq, hy.lenS, hx.lenS, ha.lenS, hb.lenS, h1, h2, h3, h4]
        · simp [evOp_call, sets, T.get_set, cellsOf, newC_is, loadE_eq, getC_eq, getsB_2, hy.lenS, hx.lenS, ha.lenS, hb.lenS, h1, h2, h3, h4, oracF_cons]
          refine ⟨by kernel_rfl, ?_⟩
          have he : ∀ w, Ext st.nx st ⟨st.nx + 1, st.h.set st.nx w⟩ := fun w => (Ext.refl _ _).new (Nat.le_refl _) w
          rw [cxOf_callL [(st.nx, st.nx + 1)] (by kernel_rfl) (by kernel_rfl) (looseW_at 40 (.p st.nx 0) (by simp [T.get_set]) (by kernel_rfl)) (fun x hx => by simp at hx; subst hx; rw [clashes_tmp]; simp [T.get_set]; exact clash_old hy (Nat.le_refl _))]
          simp only [forb_nil, List.append_nil]
          refine Gd.mono (writes_fl _ [(st.nx, st.nx + 1)] (fun k hk => by have hk' : st.nx + 1 ≤ k := hk; rw [inF_cons, if_neg (by omega)]; rfl) y K (hy.ext (he _)) (by omega) (fun m hm => by have := rowIn_lt hy hm; rw [inF_cons, if_neg (by omega)]; rfl) _) ?_
          rintro ⟨w1, s1⟩ ⟨hw1, x1⟩
          simp only at hw1 x1
          have l1 : st.nx + 1 ≤ s1.nx := x1.le
          have hs1 : Ext st.nx st s1 := (he _).trans (x1.mono (Nat.le_succ _))
          have k4 : s1.h.get st.nx = _ := (x1.keep _ (Nat.lt_succ_self _)).trans (T.get_set_same _ _ _)
          have hw1o := hw1.one
          have q1 : ¬ s1.nx = st.nx := by omega
          simp [evOp_call, sets, T.get_set, newC_is, hw1o]
          rw [cxOf_store]
          rotate_left
          · kernel_rfl
          rw [forb_cons (by kernel_rfl) (forb_step (by kernel_rfl) rfl)]
          simp [evOp_call, sets, T.get_set, storeK_g, putB_eq, roT, loadE_eq, getC_eq, getsB_2, k4, q1, oracF_cons]
          have e1 : ∀ w, Ext s1.nx s1 ⟨s1.nx + 1, s1.h.set s1.nx w⟩ := fun w => (Ext.refl _ _).new (Nat.le_refl _) w
          have hS1 : ∀ w, Ext st.nx st ⟨s1.nx + 1, s1.h.set s1.nx w⟩ := fun w => hs1.trans ((e1 w).mono (by omega))
          refine Gd.mono (put_any _ n y K (hy.ext (hS1 _)) (by omega) _) ?_
          rintro ⟨z, s2⟩ ⟨hz, _, x2⟩
          simp only at hz x2
          have l2 : s1.nx + 1 ≤ s2.nx := x2.le
          have hs2 : Ext st.nx st s2 := (hS1 _).trans (x2.mono (by show st.nx ≤ s1.nx + 1; omega))
          have hw12 := (hw1.ext (e1 _)).ext x2
          have k42 : s2.h.get st.nx = _ := (x2.keep _ (by show st.nx < s1.nx + 1; omega)).trans ((T.get_set_ne _ _ q1).trans k4)
          have k92 : s2.h.get s1.nx = _ := (x2.keep _ (Nat.lt_succ_self _)).trans (T.get_set_same _ _ _)
          simp [evOp_call, sets, T.get_set, oracF_cons]
          refine Gd.mono (rdget_any s2 x R (hx.ext hs2) hcap (by omega) _) ?_
          rintro ⟨r, s3⟩ ⟨v1, hr, hv1, _, x3⟩
          simp only at hr hv1 x3
          subst hr
          have hv1o := hv1.one
          have l3 : s2.nx ≤ s3.nx := x3.le
          have hs3 : Ext st.nx st s3 := hs2.trans (x3.mono (by omega))
          have e3 : ∀ w, Ext s3.nx s3 ⟨s3.nx + 1, s3.h.set s3.nx w⟩ := fun w => (Ext.refl _ _).new (Nat.le_refl _) w
          have hS3 : ∀ w, Ext st.nx st ⟨s3.nx + 1, s3.h.set s3.nx w⟩ := fun w => hs3.trans ((e3 w).mono (by omega))
          have k43 : s3.h.get st.nx = _ := (x3.keep _ (by omega)).trans k42
          have k93 : s3.h.get s1.nx = _ := (x3.keep _ (by omega)).trans k92
          simp [evOp_call, sets, T.get_set, newC_is, storeK_g, putB_eq, roT, hv1o, oracF_cons]
          refine Gd.mono (rrget_any _ x R (hx.ext (hS3 _)) hcap (by omega) _) ?_
          rintro ⟨r, s4⟩ ⟨v2, hr, hv2, _, x4⟩
          simp only at hr hv2 x4
          subst hr
          have hv2o := hv2.one
          have l4 : s3.nx + 1 ≤ s4.nx := x4.le
          have hs4 : Ext st.nx st s4 := (hS3 _).trans (x4.mono (by show st.nx ≤ s3.nx + 1; omega))
          have e4 : ∀ w, Ext s4.nx s4 ⟨s4.nx + 1, s4.h.set s4.nx w⟩ := fun w => (Ext.refl _ _).new (Nat.le_refl _) w
          have hS4 : ∀ w, Ext st.nx st ⟨s4.nx + 1, s4.h.set s4.nx w⟩ := fun w => hs4.trans ((e4 w).mono (by omega))
          have n31 : ¬ s3.nx = st.nx := by omega
          have n32 : ¬ s3.nx = s1.nx := by omega
          have k44 : s4.h.get st.nx = _ := (x4.keep _ (by show st.nx < s3.nx + 1; omega)).trans ((T.get_set_ne _ _ n31).trans k43)
          have k94 : s4.h.get s1.nx = _ := (x4.keep _ (by show s1.nx < s3.nx + 1; omega)).trans ((T.get_set_ne _ _ n32).trans k93)
          have kb4 : s4.h.get s3.nx = _ := (x4.keep _ (Nat.lt_succ_self _)).trans (T.get_set_same _ _ _)
          simp [evOp_call, sets, T.get_set, newC_is, storeK_g, putB_eq, roT, hv2o, oracF_cons]
          refine Gd.mono (sdiff3_any _ a b A B (ha.ext (hS4 _)) (hb.ext (hS4 _)) (by omega) _) ?_
          rintro ⟨r, s5⟩ ⟨d, hr, hd, x5⟩
          simp only at hr hd x5
          subst hr
          have l5 : s4.nx + 1 ≤ s5.nx := x5.le
          have hs5 : Ext st.nx st s5 := (hS4 _).trans (x5.mono (by show st.nx ≤ s4.nx + 1; omega))
          simp [evOp_call, sets, T.get_set, oracF_cons]
          refine Gd.mono (rdiff_any s5 a b A B (ha.ext hs5) (hb.ext hs5) (by omega) _) ?_
          rintro ⟨r, s6⟩ ⟨ew, hr, he6, x6⟩
          simp only at hr he6 x6
          subst hr
          have l6 : s5.nx ≤ s6.nx := x6.le
          have hs6 : Ext st.nx st s6 := hs5.trans (x6.mono (by omega))
          have n41 : ¬ s4.nx = st.nx := by omega
          have n42 : ¬ s4.nx = s1.nx := by omega
          have n43 : ¬ s4.nx = s3.nx := by omega
          have k46 : s6.h.get st.nx = _ := (x6.keep _ (by omega)).trans ((x5.keep _ (by show st.nx < s4.nx + 1; omega)).trans ((T.get_set_ne _ _ n41).trans k44))
          have k96 : s6.h.get s1.nx = _ := (x6.keep _ (by omega)).trans ((x5.keep _ (by show s1.nx < s4.nx + 1; omega)).trans ((T.get_set_ne _ _ n42).trans k94))
          have kb6 : s6.h.get s3.nx = _ := (x6.keep _ (by omega)).trans ((x5.keep _ (by show s3.nx < s4.nx + 1; omega)).trans ((T.get_set_ne _ _ n43).trans kb4))
          have kd6 : s6.h.get s4.nx = _ := (x6.keep _ (by omega)).trans ((x5.keep _ (Nat.lt_succ_self _)).trans (T.get_set_same _ _ _))
          have t46 : Ext s4.nx s4 s6 := ((e4 _).trans (x5.mono (Nat.le_succ _))).trans (x6.mono (by omega))
          have t36 : Ext s3.nx s3 s6 := ((e3 _).trans (x4.mono (Nat.le_succ _))).trans (t46.mono (by omega))
          have t26 : Ext s2.nx s2 s6 := x3.trans (t36.mono (by omega))
          have hw16 := hw12.ext t26
          have hz6 := hz.ext t26
          have hv16 := hv1.ext t36
          have hv26 := hv2.ext t46
          simp [evOp_call, sets, T.get_set]
          refine ⟨by kernel_rfl, ?_⟩
          simp [evOp_call, sets, T.get_set, loadE_eq, getC_eq, getsB_2, k46, k96, kb6, kd6, oracF_cons]
          rw [cxOf_call (by kernel_rfl) (by kernel_rfl)]
          simp only [forb_nil]
          refine Gd.mono (rputR_any s6 n w1 K hw16 (by omega) _) ?_
          rintro ⟨z2, s7⟩ ⟨hz2, x7⟩
          simp only at hz2 x7
          have l7 : s6.nx ≤ s7.nx := x7.le
          have hs7 : Ext st.nx st s7 := hs6.trans (x7.mono (by omega))
          have k47 : s7.h.get st.nx = _ := (x7.keep _ (by omega)).trans k46
          have k97 : s7.h.get s1.nx = _ := (x7.keep _ (by omega)).trans k96
          have kb7 : s7.h.get s3.nx = _ := (x7.keep _ (by omega)).trans kb6
          have kd7 : s7.h.get s4.nx = _ := (x7.keep _ (by omega)).trans kd6
          simp [evOp_call, sets, T.get_set, oracF_cons]
          rw [cxOf_call (by kernel_rfl) (by kernel_rfl), forb_step (by kernel_rfl) rfl]
          refine Gd.mono (sameR s7 z z2 (putR n K) (putR n K) (hz6.ext x7) hz2 (by unfold putR; split <;> simp [preR_length]; omega) _) ?_
          rintro _ rfl
          have hA2 : ∀ m, m < s6.nx → ∀ e ∈ rsOf [] 2 s6.nx s7.nx, m < e.2.1 := fun m hm => rsOf_lt rs_nil hm
          have hld2 : ∀ (b nx' : Nat), inF ((0, st.nx) :: (st.nx + 1, nx') :: forb b (rsOf [] 2 s6.nx s7.nx) []) st.nx = false := fun b nx' => inF_lds (hA2 _ (by omega))
          simp [evOp_call, sets, T.get_set, loadE_eq, getC_eq, getsB_2, k47, hld2, oracF_cons]
          rw [cxOf_call (by kernel_rfl) (by kernel_rfl), forb_step (by kernel_rfl) rfl]
          refine Gd.mono (size_any s7 n y K (hy.ext hs7) (by omega) _) ?_
          rintro ⟨r, s8⟩ ⟨hr, x8⟩
          simp only at hr x8
          subst hr
          have l8 : s7.nx ≤ s8.nx := x8.le
          have hs8 : Ext st.nx st s8 := hs7.trans (x8.mono (by omega))
          have k48 : s8.h.get st.nx = _ := (x8.keep _ (by omega)).trans k47
          have k98 : s8.h.get s1.nx = _ := (x8.keep _ (by omega)).trans k97
          have kb8 : s8.h.get s3.nx = _ := (x8.keep _ (by omega)).trans kb7
          have kd8 : s8.h.get s4.nx = _ := (x8.keep _ (by omega)).trans kd7
          have hz8 := (hz6.ext x7).ext x8
          have hA6 : ∀ m, m < s6.nx → ∀ e ∈ rsOf (rsOf [] 2 s6.nx s7.nx) 6 s7.nx s8.nx, m < e.2.1 := fun m hm => rsOf_lt (hA2 m hm) (by omega)
          have hld6 : ∀ (m b nx' : Nat), m < s6.nx → inF ((0, m) :: (m + 1, nx') :: forb b (rsOf (rsOf [] 2 s6.nx s7.nx) 6 s7.nx s8.nx) []) m = false := fun m b nx' hm => inF_lds (hA6 m hm)
          have hld63 := fun b nx' => hld6 s3.nx b nx' (by omega)
          have hld64 := fun b nx' => hld6 s4.nx b nx' (by omega)
          simp [evOp_call, sets, T.get_set, hz8.lenS, loadE_eq, getC_eq, getsB_2, kb8, kd8, hld63, hld64, oracF_cons]
          have hx3a : RdRow s8 v1 2 (getK R).length (iw (getK R)) := (hv16.ext x7).ext x8
          rw [cxOf_callL [(s4.nx, s4.nx + 1)] (by kernel_rfl) (by kernel_rfl) (looseW_at 13 (.p s4.nx 0) (by simp [T.get_set]) (by kernel_rfl)) (fun x hx => by simp at hx; subst hx; rw [clashes_tmp]; simp [T.get_set]; exact clash_old hv1 (by omega)), forb_step (by kernel_rfl) (forb_step (by kernel_rfl) rfl)]
          simp only [List.append_nil]
          refine Gd.mono (writes_fl s8 [(s4.nx, s4.nx + 1)] (fun k hk => by rw [inF_cons, if_neg (by omega)]; rfl) v1 (getK R) hx3a (by have := getK_le R; omega) (fun m hm => by have := rowIn_lt hv1 hm; rw [inF_cons, if_neg (by omega)]; rfl) _) ?_
          rintro ⟨w2, s9⟩ ⟨hw2, x9⟩
          simp only at hw2 x9
          have l9 : s8.nx ≤ s9.nx := x9.le
          have hs9 : Ext st.nx st s9 := hs8.trans (x9.mono (by omega))
          have k49 : s9.h.get st.nx = _ := (x9.keep _ (by omega)).trans k48
          have k99 : s9.h.get s1.nx = _ := (x9.keep _ (by omega)).trans k98
          have kd9 : s9.h.get s4.nx = _ := (x9.keep _ (by omega)).trans kd8
          have hAa : ∀ m, m < s6.nx → ∀ e ∈ rsOf (rsOf (rsOf [] 2 s6.nx s7.nx) 6 s7.nx s8.nx) 26 s8.nx s9.nx, m < e.2.1 := fun m hm => rsOf_lt (hA6 m hm) (by omega)
          have hlda : ∀ (m b nx' : Nat), m < s6.nx → inF ((0, m) :: (m + 1, nx') :: forb b (rsOf (rsOf (rsOf [] 2 s6.nx s7.nx) 6 s7.nx s8.nx) 26 s8.nx s9.nx) []) m = false := fun m b nx' hm => inF_lds (hAa m hm)
          have hlda4 := fun b nx' => hlda s4.nx b nx' (by omega)
          have hlda0 := fun b nx' => hlda st.nx b nx' (by omega)
          simp [evOp_call, sets, T.get_set, loadE_eq, getC_eq, getsB_2, kd9, hlda4, oracF_cons]
          rw [cxOf_call (by kernel_rfl) (by kernel_rfl), forb_step (by kernel_rfl) (forb_step (by kernel_rfl) (forb_step (by kernel_rfl) rfl))]
          refine Gd.mono (equalW_any s9 w2 v2 (getK R) (getK R) hw2 (((hv26.ext x7).ext x8).ext x9) (by have := getK_le R; omega) _) ?_
          rintro _ rfl
          simp [evOp_call, sets, T.get_set, loadE_eq, getC_eq, getsB_2, k49, hlda0, oracF_cons]
          rw [cxOf_callL [(s1.nx, s1.nx + 1)] (by kernel_rfl) (by kernel_rfl) (looseW_at 9 (.p s1.nx 0) (by simp [T.get_set]) (by kernel_rfl)) (fun x hx => by simp at hx; rcases hx with rfl | rfl <;> (rw [clashes_tmp]; simp [T.get_set]) <;> first | exact clash_old ha (by omega) | exact clash_old hy (by omega)), forb_step (by kernel_rfl) (forb_step (by kernel_rfl) (forb_step (by kernel_rfl) rfl))]
          simp only [List.append_nil]
          refine Gd.mono (do_fl s9 [(s1.nx, s1.nx + 1)] (fun k hk => by rw [inF_cons, if_neg (by omega)]; rfl) a y A K (ha.ext hs9) (by omega) (hy.ext hs9) (by omega) (fun m hm => by have := rowIn_lt ha hm; rw [inF_cons, if_neg (by omega)]; rfl) (fun m hm => by have := rowIn_lt hy hm; rw [inF_cons, if_neg (by omega)]; rfl) _) ?_
          rintro ⟨u1, s10⟩ ⟨hu1, _, x10⟩
          simp only at hu1 x10
          have l10 : s9.nx ≤ s10.nx := x10.le
          have hs10 : Ext st.nx st s10 := hs9.trans (x10.mono (by omega))
          have k910 : s10.h.get s1.nx = _ := (x10.keep _ (by omega)).trans k99
          have hAb : ∀ m, m < s6.nx → ∀ e ∈ rsOf (rsOf (rsOf (rsOf [] 2 s6.nx s7.nx) 6 s7.nx s8.nx) 26 s8.nx s9.nx) 35 s9.nx s10.nx, m < e.2.1 := fun m hm => rsOf_lt (hAa m hm) (by omega)
          have hldb1 : ∀ (b nx' : Nat), inF ((0, s1.nx) :: (s1.nx + 1, nx') :: forb b (rsOf (rsOf (rsOf (rsOf [] 2 s6.nx s7.nx) 6 s7.nx s8.nx) 26 s8.nx s9.nx) 35 s9.nx s10.nx) []) s1.nx = false := fun b nx' => inF_lds (hAb s1.nx (by omega))
          simp [evOp_call, sets, T.get_set, loadE_eq, getC_eq, getsB_2, k910, hldb1, oracF_cons]
          rw [cxOf_call (by kernel_rfl) (by kernel_rfl), forb_step (by kernel_rfl) (forb_step (by kernel_rfl) (forb_step (by kernel_rfl) (forb_step (by kernel_rfl) rfl)))]
          have hw1a : RdRow s10 w1 2 K.length (iw K) := (((hw16.ext x7).ext x8).ext x9).ext x10
          refine Gd.mono (rdo_any s10 a w1 A K (ha.ext hs10) (by omega) hw1a (by omega) _) ?_
          rintro ⟨u2, s11⟩ ⟨hu2, x11⟩
          simp only at hu2 x11
          have hdl := doW_length K A
          have hu1' := hu1.ext x11
          simp [evOp_call, sets, T.get_set, oracF_cons]
          rw [cxOf_call (by kernel_rfl) (by kernel_rfl), forb_step (by kernel_rfl) (forb_step (by kernel_rfl) (forb_step (by kernel_rfl) (forb_step (by kernel_rfl) (forb_step (by kernel_rfl) rfl))))]
          refine Gd.mono (sameR s11 u1 u2 (doW A K) (doW A K) (by rw [hdl]; exact hu1') (by rw [hdl]; exact hu2) (by omega) _) ?_
          rintro _ rfl
          have hd11 : RdRow s11 d 2 (dif A B).length (iw (dif A B)) := ((((((hd.ext x6).ext x7).ext x8).ext x9).ext x10).ext x11)
          have he11 : RdRow s11 ew 2 (dif A B).length (iw (dif A B)) := (((((RdRow.ext he6 x7).ext x8).ext x9).ext x10).ext x11)
          have hdle := dif_le A B
          simp [evOp_call, sets, T.get_set, oracF_cons]
          rw [cxOf_call (by kernel_rfl) (by kernel_rfl), forb_step (by kernel_rfl) (forb_step (by kernel_rfl) (forb_step (by kernel_rfl) (forb_step (by kernel_rfl) (forb_step (by kernel_rfl) rfl))))]
          refine Gd.mono (writes_fl s11 [] (fun _ _ => rfl) d (dif A B) hd11 (by omega) (fun _ _ => rfl) _) ?_
          rintro ⟨w5, s12⟩ ⟨hw5, x12⟩
          simp only at hw5 x12
          simp [evOp_call, sets, T.get_set, oracF_cons]
          rw [cxOf_call (by kernel_rfl) (by kernel_rfl), forb_step (by kernel_rfl) (forb_step (by kernel_rfl) (forb_step (by kernel_rfl) (forb_step (by kernel_rfl) (forb_step (by kernel_rfl) (forb_step (by kernel_rfl) rfl)))))]
          refine Gd.mono (equalW_any s12 w5 ew (dif A B) (dif A B) hw5 (RdRow.ext he11 x12) (by omega) _) ?_
          rintro _ rfl
          simp [evOp_call, sets, T.get_set]
end Go.Proofs.Ytenncnbaoejekaa
set_option linter.unusedSimpArgs false
namespace Go.Proofs.Ytenncnbaoejekaa
open Go.RowKit Ev Go.Deep
def InCap (x : Value) : Prop := ∀ a n c, x = .slice a n c → n ≤ c
theorem in_intsC {H : Type} {enc : TypeId × Value → H} {P : Program} {w : World} {spare : Nat → Bool} {held : Bool} {t e : TypeId} {kd : IntKind} {fuel : Nat} {a : Option Addr} {len c : Nat} {x : DataW H × List MemPlace} (ht : P.underlying t = some (.slice e)) (he : P.underlying e = some (.int kd))
    (ce : P.cellsOf e = 1)
    (h : DataW.trod enc P w 0 spare held fuel t [.slice a len c] = some x) : ∃ L : List Int, L.length = len ∧ (InRow w (.slice a len c) 1 L.length (L.map fun v => .int kd v) ∧ InCap (.slice a len c)) ∧ ∀ r ∈ L, (Lit.int kd r).wf = true := by
  obtain ⟨L, h1, h2, h3⟩ := Ev.in_ints ht he ce h
  refine ⟨L, h1, ⟨h2, fun a' n' c' e => ?_⟩, h3⟩
  injection e with e1 e2 e3
  subst e1 e2 e3
  rcases open_slice ht h with ⟨hcs, _⟩ | ⟨a', len', cap, m, n, D, Pl, hcs, _, hl, _⟩
  · injection hcs with hcs; injection hcs with _ e2 e3; omega
  · injection hcs with hcs; injection hcs with _ e2 e3; omega
theorem rel_cap {ρ : Rho} {v : V} {x : Value} (h : Rel ρ v x) (hc : InCap x) : CapOk v := by
  intro m o l q e
  subst e
  simp only [Rel] at h
  obtain ⟨r, _, rfl⟩ := h
  exact hc _ _ _ rfl
theorem w_RedoSays (n0 : Int) (K0 : List (Int × Int)) (R0 A0 B0 : List Int) (W : World) (y : Value) (hy : InRow W y 2 K0.length (prs K0)) (hn : (Lit.int .u64 n0).wf = true) (hw2 : ∀ r ∈ K0, (Lit.int .i64 r.1).wf = true ∧ (Lit.int .u64 r.2).wf = true)
    (x : Value) (hx0 : InRow W x 1 R0.length (R0.map fun v => V.int .u64 v) ∧ InCap x) (hwx : ∀ r ∈ R0, (Lit.int .u64 r).wf = true)
    (a : Value) (ha : InRow W a 1 A0.length (A0.map fun v => V.int .u64 v)) (hwa : ∀ r ∈ A0, (Lit.int .u64 r).wf = true) (b : Value) (hb : InRow W b 1 B0.length (B0.map fun v => V.int .u64 v)) (hwb : ∀ r ∈ B0, (Lit.int .u64 r).wf = true) :
    Calls Try.prog 19 #[.agg #[.int .u64 n0, y], x, a, b] W fun e W' => e = .returned (.bool true) ∧ Below W.heap.size W W' := by
  obtain ⟨hx, hxc⟩ := hx0
  obtain ⟨K, hK, hm2, _⟩ := iw_of hw2
  rw [hm2, ← hK] at hy
  obtain ⟨R, hR, hmR⟩ := wv_of hwx
  rw [hmR, ← hR] at hx
  obtain ⟨A, hA, hmA⟩ := wv_of hwa
  rw [hmA, ← hA] at ha
  obtain ⟨B, hB, hmB⟩ := wv_of hwb
  rw [hmB, ← hB] at hb
  obtain ⟨m, rfl, hlt⟩ := u64_nat hn
  obtain ⟨st1, ρ1, v1, b1, _, r1, _, k1⟩ := (Begin.zero W).row hy
  obtain ⟨st2, ρ2, v2, b2, g2, r2, e2, k2⟩ := b1.row hx
  obtain ⟨st3, ρ3, v3, b3, g3, r3, e3, k3⟩ := b2.row ha
  obtain ⟨st4, ρ4, v4, b4, g4, r4, e4, k4⟩ := b3.row hb
  have hrel : Rel ρ4 (.g [wd (BitVec.ofInt 64 (m : Int)), v1]) (.agg #[.int .u64 (m : Int), y]) := by
    have hone := k1.one
    rw [← wd_lit (by omega) (by omega)]
    simp only [Rel]
    exact ⟨_, rfl, .cons (rel_int _ _) (.cons (Rel.mono g4 _ _ (Rel.mono g3 _ _ (Rel.mono g2 _ _ r1))) .nil), by simp [hone]⟩
  exact law_calls (lawC_sound namesOkR mixesR Try.func92 rfl redoAwake) b4 (.cons hrel (.cons (Rel.mono g4 _ _ (Rel.mono g3 _ _ r2)) (.cons (Rel.mono g4 _ _ r3) (.cons r4 .nil))))
    (g_RedoSays st4 (BitVec.ofInt 64 m) v1 K (((k1.ext e2).ext e3).ext e4) v2 R ((k2.ext e3).ext e4) (rel_cap r2 hxc) v3 v4 A B (k3.ext e4) k4)
end Go.Proofs.Ytenncnbaoejekaa

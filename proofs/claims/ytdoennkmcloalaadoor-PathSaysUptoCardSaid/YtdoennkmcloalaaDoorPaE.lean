/-
  Contracts of package path: Join, Clean, Last; of the law's texts.
-/
import Derived.Test.YtdoennkmcloalaaDoorPaD
set_option linter.unusedSimpArgs false
namespace Go.Proofs.YtdoennkmcloalaaDoor
open Go.RowKit Ev
theorem jn_take {L : List Tx} {i : Nat} {p : Tx} (h : L[i]? = some p) : jn (L.take (i + 1)) = jn (L.take i) ++ [47] ++ p := by
  rw [List.take_add_one, h, jn_app]; simp [jn]
theorem jn_take_le (L : List Tx) (i : Nat) : (jn (L.take i)).length ≤ (jn L).length := by
  conv => rhs; rw [← List.take_append_drop i L, jn_app, List.length_append]
  omega
theorem okS_jn {L : List Tx} (h : ∀ p ∈ L, okS p) : okS (jn L) := fun b hb => by
  unfold jn at hb
  rw [List.mem_flatMap] at hb
  obtain ⟨p, hp, hb⟩ := hb
  rcases List.mem_cons.1 hb with rfl | hb
  · omega
  · exact h p hp b hb
def joI (s1 : St) (b : Nat) (y : V) (L : List Tx) (e : Env) (s : St) : Prop := ∃ i : Nat, i ≤ L.length ∧ e.get 3 = some (.p b 0) ∧ e.get 6 = some y ∧ e.get 7 = some (.int .i64 (L.length : Int)) ∧ e.get 8 = some (.int .i64 (i : Int)) ∧ BuAt s b (jn (L.take i)) ∧ Ext b s1 s
set_option maxRecDepth 20000 in
set_option maxHeartbeats 2000000 in
theorem join_any (st : St) (y : V) (L : List Tx) (hy : RdRow st y 1 L.length (sv L)) (hL : L.length ≤ 1000000) (hok : ∀ p ∈ L, okS p) (hlen : (jn L).length ≤ 1073741824) (nt : Nat) :
    Gd (callL Tryd.prog ⟨false, [], 0, nt⟩ 13 [y] st) fun r => r.1 = .s (jn L) ∧ Ext st.nx st r.2 := by
  rw [Gd_callL Tryd.func13 rfl]
  simp [evOp_call, sets, T.get_set, newC_is, hy.lenS]
  generalize hS : (⟨st.nx + 1, _⟩ : St) = s1
  have hb : BuAt s1 st.nx [] := by rw [← hS]; exact BuAt.new st
  have x1 : Ext st.nx st s1 := by rw [← hS]; exact (Ext.refl _ _).new (Nat.le_refl _) _
  refine Gd_loop (joI s1 st.nx y L) (fun en _ => muAt 8 L.length en) ?_ ?_
  · exact ⟨0, Nat.zero_le _, by simp [T.get_set], by simp [T.get_set], by simp [T.get_set], by simp [T.get_set], by simpa [jn] using hb, Ext.refl _ _⟩
  · rintro en sx ⟨i, hi, g3, g6, g7, g8, hbu, hx⟩
    have xx : Ext st.nx st sx := x1.trans hx
    by_cases hlt : i < L.length
    · have hlt' : (i : Int) < (L.length : Int) := by omega
      have w1 : IntKind.i64.wrap ((i : Int) + 1) = ((i + 1 : Nat) : Int) := by rw [show ((i : Int) + 1) = ((i + 1 : Nat) : Int) by omega]; exact wrap_in (by omega) (by omega)
      obtain ⟨p, hp⟩ : ∃ p, L[i]? = some p := ⟨_, List.getElem?_eq_getElem hlt⟩
      obtain ⟨m, o, ty, sz, tr, hid, hm, hg, ho, hc⟩ := (hy.ext xx).idx (st := sx) un23 io9 hlt
      have t0 : tr.get o = some (.s p) := hc 0 _ (by omega) (by simpa using sv_get hp)
      have hjt := jn_take hp
      have hjl := jn_take_le L (i + 1)
      have hjl2 : (jn (L.take i)).length + 1 + p.length ≤ 1073741824 := by
        rw [hjt] at hjl; simp at hjl; omega
      simp [evOp_call, T.get_set, g3, g6, g7, g8, hlt', hid, loadE_eq, getC_eq, hg, t0]
      refine Gd.mono (write_any sx st.nx _ hbu [47] (by simp; omega) _) ?_
      rintro ⟨r, s2⟩ ⟨hb2, x2⟩
      simp only at hb2 x2
      simp [evOp_call, T.get_set, g3, g6, g7, g8]
      refine Gd.mono (write_any s2 st.nx _ hb2 p (by simp; omega) _) ?_
      rintro ⟨r, s3⟩ ⟨hb3, x3⟩
      simp only at hb3 x3
      simp [evOp_call, T.get_set, g3, g6, g7, g8, w1]
      exact ⟨⟨i + 1, hlt, by simp [T.get_set, g3], by simp [T.get_set, g6], by simp [T.get_set, g7], by simp [T.get_set], by rw [hjt]; exact hb3, hx.trans (x2.trans x3)⟩, muAt_lt g8 (by simp [T.get_set]) hlt⟩
    · obtain rfl : i = L.length := by omega
      rw [List.take_length] at hbu
      simp [evOp_call, T.get_set, g3, g6, g7, g8]
      refine Gd.mono (string_any sx st.nx _ hbu (okS_jn hok) hlen _) ?_
      rintro ⟨r, s2⟩ ⟨hr, x2⟩
      simp only at hr x2
      subst hr
      simp [evOp_call, T.get_set]
      exact xx.trans x2
theorem okS_par {s : Tx} (hs : okS s) {p : Tx} (h : p ∈ parS s) : okS p := fun b hb => hs b (spl_elem s p (List.mem_filter.1 h).1 b hb)
theorem okS_cl {s : Tx} (hs : okS s) {p : Tx} (h : p ∈ clP (parS s)) : okS p := okS_par hs (clP_mem h).1
theorem clP_take {L : List Tx} {i : Nat} {p : Tx} (h : L[i]? = some p) : clP (L.take (i + 1)) = cl1 (clP (L.take i)) p := by
  unfold clP
  rw [List.take_add_one, h, List.foldl_append]
  rfl
theorem clP_len (L : List Tx) : (clP L).length ≤ L.length := by
  unfold clP
  have : ∀ (L K : List Tx), (L.foldl cl1 K).length ≤ K.length + L.length := by
    intro L
    induction L with
    | nil => intro K; simp
    | cons p L ih =>
      intro K
      have := ih (cl1 K p)
      have h2 : (cl1 K p).length ≤ K.length + 1 := by unfold cl1; split <;> simp; omega
      simp only [List.foldl_cons, List.length_cons]
      omega
  simpa using this L []
theorem par_len (s : Tx) : (parS s).length ≤ s.length + 1 := by
  unfold parS
  have := List.length_filter_le keepT (spl s)
  have h2 := spl_count s
  have h3 : s.count 47 ≤ s.length := List.count_le_length
  omega
/-- a row that grows and shrinks -/
def StkRow (b : Nat) (st : St) (x : V) (L : List Tx) : Prop := (x = .c (.slice none 0 0) ∧ L = []) ∨ ∃ m ty sz t, x = .sg m 0 L.length 1 ∧ b ≤ m ∧ m < st.nx ∧ st.h.get m = some (.cs ty sz t) ∧ ty ≠ roT ∧ L.length ≤ sz ∧ ∀ j p, L[j]? = some p → t.get j = some (.s p)
theorem StkRow.ext {b : Nat} {st st' : St} {x : V} {L : List Tx} (h : StkRow b st x L) (k : Ext st.nx st st') : StkRow b st' x L := by
  rcases h with h | ⟨m, ty, sz, t, e, h1, h2, h3, h4⟩
  · exact .inl h
  · exact .inr ⟨m, ty, sz, t, e, h1, Nat.lt_of_lt_of_le h2 k.le, (k.keep m h2).trans h3, h4⟩
theorem StkRow.rd {b : Nat} {st : St} {x : V} {L : List Tx} (h : StkRow b st x L) : RdRow st x 1 L.length (sv L) := by
  rcases h with ⟨rfl, rfl⟩ | ⟨m, ty, sz, t, rfl, h1, h2, h3, h4, h5, h6⟩
  · exact ⟨rfl, .inl ⟨.inl rfl, rfl⟩⟩
  · refine ⟨by simp, .inr (.inr ⟨m, 0, ty, sz, t, rfl, h2, h3, by omega, fun j v hj => ?_⟩)⟩
    obtain ⟨p, hp, rfl⟩ := sv_of hj
    rw [Nat.zero_add]
    exact h6 j p hp
theorem Gd_push {P : Program} {st : St} {t t' el el' b q nt : Nat} {x : V} {L : List Tx} {p : Tx} {Q : V × St → Prop} (hu : P.underlying t = some (.slice el)) (hk : P.underlying t' = some (.slice el')) (hi : infoOk P el 1 = true) (hro : el ≠ roT)
    (h : StkRow b st x L) (hb : b ≤ st.nx) (hf : ∀ k : List V → Res, firsts ⟨false, [], 0, nt⟩ st 1 1 (.sl q 0 1 1) k = k [.s p]) (hmax : L.length + 1 ≤ 1073741824)
    (hQ : ∀ x' st', StkRow b st' x' (L ++ [p]) → Ext b st st' → Q (x', st')) : Gd (builtinE P ⟨false, [], 0, nt⟩ .append [t, t'] [x, .sl q 0 1 1] st) Q := by
  have hsm : small P el (L.length + 1) = true := infoOk_small hi hmax
  have e1 : builtinE P ⟨false, [], 0, nt⟩ .append [t, t'] [x, .sl q 0 1 1] st = appE ⟨false, [], 0, nt⟩ st el 1 L.length 1 x [.s p] := by
    unfold builtinE
    simp only [elemOf_ok hu hi, hk]
    have hl : ∀ k : Nat → Res, lenA x k = k L.length := fun k => by
      rcases h with ⟨rfl, rfl⟩ | ⟨m, ty, sz, t, rfl, _⟩ <;> rfl
    rw [hl]
    have hl2 : ∀ k : Nat → Res, lenA (.sl q 0 1 1) k = k 1 := fun k => rfl
    show lenA (.sl q 0 1 1) _ = _
    rw [hl2, hf, hsm]
  rw [e1]
  unfold appE
  rw [fn_eq]
  rcases h with ⟨rfl, rfl⟩ | ⟨m, ty, sz, tr, rfl, h3, h4, h5, h6, h7, h8⟩
  · simp only [List.length_nil, Nat.zero_add]
    have e2 : growE ⟨false, [], 0, nt⟩ st el 1 0 1 (.c (.slice none 0 0)) [.s p] = newC st el ([] ++ [.s p]) fun n st => some (.sg n 0 1 1, st) := rfl
    rw [e2, newC_is]
    refine ⟨_, rfl, hQ _ _ (.inr ⟨st.nx, el, 1, sets [.s p] 0 .lf, rfl, hb, Nat.lt_succ_self _, ?_, hro, Nat.le_refl _, fun j v hj => ?_⟩) ((Ext.refl _ _).new hb _)⟩
    · show (st.h.set st.nx _).get st.nx = _
      rw [T.get_set_same]; rfl
    · have hj0 : j = 0 := by have := (List.getElem?_eq_some_iff.1 hj).1; simp at this; exact this
      subst hj0
      simp at hj
      subst hj
      simp [sets, T.get_set]
  · have hbe : Nat.beq 1 1 = true := rfl
    have hroq : Nat.beq ty roT = false := by
      cases hh : Nat.beq ty roT with
      | false => rfl
      | true => exact absurd (Nat.eq_of_beq_eq_true hh) h6
    have hcell : ∀ (t : T V), (∀ j, j < L.length → t.get j = tr.get j) → t.get L.length = some (.s p) → ∀ j v, (L ++ [p])[j]? = some v → t.get j = some (.s v) := fun t ht1 ht2 j v hj => by
      rcases Nat.lt_or_ge j L.length with hj1 | hj1
      · rw [List.getElem?_append_left hj1] at hj
        rw [ht1 j hj1]; exact h8 j v hj
      · rw [List.getElem?_append_right hj1] at hj
        have := (List.getElem?_eq_some_iff.1 hj).1
        simp at this
        have hj0 : j = L.length := by omega
        subst hj0
        simp at hj
        subst hj
        exact ht2
    simp only [hbe]
    rw [getB_get m _ _ rfl h5]
    simp only [hroq]
    by_cases hroom : L.length + 1 ≤ sz
    · have hble : Nat.ble (0 + (L.length + 1) * 1) sz = true := by rw [Nat.ble_eq]; omega
      simp only [hble, fn_eq]
      rw [putB_eq, h5]
      have hc : 0 + L.length * 1 + ([V.s p] : List V).length ≤ sz ∧ ty ≠ roT ∧ 0 ≤ m := ⟨by simp; omega, h6, Nat.zero_le _⟩
      simp only [ok_top, inF_nil, Bool.not_false, cond_true, Option.bind_some, csK_cs, if_pos hc]
      refine ⟨_, rfl, hQ _ _ (.inr ⟨m, ty, sz, sets [.s p] (0 + L.length * 1) tr, by simp, h3, h4, T.get_set_same _ _ _, h6, by simp; omega, hcell _ (fun j hj => ?_) ?_⟩) ((Ext.refl b st).set h3 h4 _)⟩
      · rw [get_sets, if_neg (by simp; omega)]
      · rw [get_sets, if_pos (by simp)]; simp
    · have hble : Nat.ble (0 + (L.length + 1) * 1) sz = false := by
        cases hh : Nat.ble (0 + (L.length + 1) * 1) sz with
        | false => rfl
        | true => rw [Nat.ble_eq] at hh; omega
      have hsz : sz = L.length := by omega
      have hbeq : Nat.beq (0 + L.length * 1) sz = true := by rw [hsz, Nat.zero_add, Nat.mul_one]; exact Nat.beq_refl _
      simp only [hble, hbeq, setB_eq, Nat.zero_le, if_pos]
      rw [setsK_eq, fn_eq, fn_eq, newB_is]
      refine ⟨_, rfl, hQ _ _ (.inr ⟨st.nx, tyM ty el, sz + 1, sets [.s p] sz tr, by simp, hb, Nat.lt_succ_self _, ?_, tyM_ro ty hro, by simp; omega, hcell _ (fun j hj => ?_) ?_⟩) (((Ext.refl b st).set h3 h4 _).new hb _)⟩
      · show ((st.h.set m .gone).set st.nx _).get st.nx = _
        rw [T.get_set_same]; rfl
      · rw [get_sets, if_neg (by simp; omega)]
      · rw [get_sets, if_pos (by simp; omega)]; simp [hsz]
def clI (s1 : St) (y : V) (L : List Tx) (e : Env) (s : St) : Prop := ∃ (i : Nat) (x : V), i ≤ L.length ∧ e.get 15 = some y ∧ e.get 16 = some (.int .i64 (L.length : Int)) ∧ e.get 17 = some (.int .i64 (i : Int)) ∧ e.get 5 = some x ∧
  StkRow s1.nx s x (clP (L.take i)) ∧ Ext s1.nx s1 s
set_option maxRecDepth 20000 in
set_option maxHeartbeats 4000000 in
theorem clean_any (st : St) (s : Tx) (hs : okS s) (nt : Nat) :
    Gd (callL Tryd.prog ⟨false, [], 0, nt⟩ 12 [.s s] st) fun r => r.1 = .s (clS s) ∧ Ext st.nx st r.2 := by
  rw [Gd_callL Tryd.func12 rfl]
  simp [evOp_call, sets, T.get_set]
  refine Gd.mono (psplit_any st s hs _) ?_
  rintro ⟨r, s1⟩ ⟨y, hr, hy, x1⟩
  simp only at hr hy x1
  subst hr
  by_cases he : errS s = 0
  case neg =>
    have hc : clS s = [] := by unfold clS; rw [if_neg he]
    simp [evOp_call, sets, T.get_set, tupK, he, hc]
    exact x1
  have hp : pErr s = parS s := by unfold pErr; rw [if_pos he]
  rw [hp] at hy
  have hy := hy.rd
  have hpl := par_len s
  have hsl := (errS_zero he).2.1
  simp [evOp_call, sets, T.get_set, tupK, he, hy.lenS]
  refine Gd_loop (clI s1 y (parS s)) (fun en _ => muAt 17 (parS s).length en) ?_ ?_
  · exact ⟨0, _, Nat.zero_le _, by simp [T.get_set], by simp [T.get_set], by simp [T.get_set], by simp [T.get_set], .inl ⟨rfl, rfl⟩, Ext.refl _ _⟩
  · rintro en sx ⟨i, x, hi, g15, g16, g17, g5, hrow, hx⟩
    have xx : Ext st.nx st sx := x1.trans (hx.mono x1.le)
    have hcl := clP_len ((parS s).take i)
    have hrl := hrow.rd
    rw [List.length_take] at hcl
    by_cases hlt : i < (parS s).length
    · have hlt' : (i : Int) < ((parS s).length : Int) := by omega
      have w1 : IntKind.i64.wrap ((i : Int) + 1) = ((i + 1 : Nat) : Int) := by rw [show ((i : Int) + 1) = ((i + 1 : Nat) : Int) by omega]; exact wrap_in (by omega) (by omega)
      obtain ⟨p, hp⟩ : ∃ p, (parS s)[i]? = some p := ⟨_, List.getElem?_eq_getElem hlt⟩
      obtain ⟨m, o, ty, sz, tr, hid, hm, hg, ho, hc⟩ := (hy.ext hx).idx (st := sx) un23 io9 hlt
      have t0 : tr.get o = some (.s p) := hc 0 _ (by omega) (by simpa using sv_get hp)
      have hct := clP_take hp
      by_cases hd : p = [46, 46]
      · have hc1 : clP ((parS s).take (i + 1)) = (clP ((parS s).take i)).dropLast := by rw [hct]; unfold cl1; rw [if_pos hd]
        by_cases h0 : clP ((parS s).take i) = []
        · have hl0 : (clP ((parS s).take i)).length = 0 := by rw [h0]; rfl
          simp [evOp_call, T.get_set, g15, g16, g17, g5, hlt', hid, loadE_eq, getC_eq, hg, t0, hd, hrl.lenS, h0, w1]
          exact ⟨⟨i + 1, x, hlt, by simp [T.get_set, g15], by simp [T.get_set, g16], by simp [T.get_set], by simp [T.get_set, g5], by rw [hc1, h0]; rw [h0] at hrow; exact hrow, hx⟩, muAt_lt g17 (by simp [T.get_set]) hlt⟩
        · have hlp : 0 < (clP ((parS s).take i)).length := List.length_pos_iff.2 h0
          obtain ⟨k, hk⟩ : ∃ k, k + 1 = (clP ((parS s).take i)).length := ⟨_, Nat.sub_add_cancel hlp⟩
          have w2 : IntKind.i64.wrap (((clP ((parS s).take i)).length : Int) - 1) = (k : Int) := by rw [show ((clP ((parS s).take i)).length : Int) - 1 = (k : Int) by omega]; exact wrap_in (by omega) (by omega)
          have hlp' : (0 : Int) < ((clP ((parS s).take i)).length : Int) := by omega
          rcases hrow with ⟨_, h⟩ | ⟨m2, ty2, sz2, t2, rfl, h3, h4, h5, h6, h7, h8⟩
          · exact absurd h h0
          · simp [evOp_call, T.get_set, g15, g16, g17, g5, hlt', hid, loadE_eq, getC_eq, hg, t0, hd, hrl.lenS, h0, hlp, w1, w2]
            unfold sliceK
            rw [sliceE_hiZ un23 io9 (k := k) (i := .i64) (by simp [T.get_set, w2]) _ _ _ (by omega)]
            simp [evOp_call, T.get_set, g17, w1]
            have hdl : (clP ((parS s).take i)).dropLast.length = k := by rw [List.length_dropLast]; omega
            refine ⟨⟨i + 1, .sg m2 0 k 1, hlt, by simp [T.get_set, g15], by simp [T.get_set, g16], by simp [T.get_set], by simp [T.get_set], ?_, hx⟩, muAt_lt g17 (by simp [T.get_set]) hlt⟩
            rw [hc1]
            refine .inr ⟨m2, ty2, sz2, t2, by rw [hdl], h3, h4, h5, h6, by omega, fun j q hj => h8 j q ?_⟩
            rw [List.getElem?_dropLast] at hj
            split at hj
            · exact hj
            · cases hj
      · have hc1 : clP ((parS s).take (i + 1)) = clP ((parS s).take i) ++ [p] := by rw [hct]; unfold cl1; rw [if_neg hd]
        simp [evOp_call, T.get_set, g15, g16, g17, g5, hlt', hid, loadE_eq, getC_eq, hg, t0, hd]
        refine evOp_build1 (v := .s p) (cs := [.s p]) (fun k => el23 k) (fun k => ze9 k) rfl (by omega) (by simp [T.get_set]) (fun k => rfl) rfl ?_
        simp [evOp_call, T.get_set, g5]
        refine Gd_push (p := p) un23 un23 io9 (by decide) (hrow.ext ((Ext.refl _ _).new (Nat.le_refl _) _)) (by show s1.nx ≤ sx.nx + 1; have := hx.le; omega) (fun k => by simp [getC_eq, getsB_1, T.get_set, sets]) (by omega) ?_
        intro z sy hz2 hx2
        simp [evOp_call, T.get_set, g17, w1]
        exact ⟨⟨i + 1, z, hlt, by simp [T.get_set, g15], by simp [T.get_set, g16], by simp [T.get_set], by simp [T.get_set], by rw [hc1]; exact hz2, (hx.new (by have := hx.le; omega) _).trans hx2⟩, muAt_lt g17 (by simp [T.get_set]) hlt⟩
    · obtain rfl : i = (parS s).length := by omega
      rw [List.take_length] at hrow hrl
      have hw : clS s = wayL (clP (parS s)) := by unfold clS; rw [if_pos he]
      by_cases h0 : clP (parS s) = []
      · have : clS s = [47] := by rw [hw, h0]; rfl
        simp [evOp_call, T.get_set, g15, g16, g17, g5, hrl.lenS, h0, this]
        exact xx
      · have hlp : ¬ ((clP (parS s)).length : Int) = 0 := by have := List.length_pos_iff.2 h0; omega
        have : clS s = jn (clP (parS s)) := by rw [hw]; unfold wayL; rw [if_neg h0]
        simp [evOp_call, T.get_set, g15, g16, g17, g5, hrl.lenS, h0, hlp]
        have hj : (jn (clP (parS s))).length ≤ 1073741824 := by
          rw [jn_len]
          have a1 := cl_size (parS s) []
          have a2 := filter_size keepT (spl s)
          have a3 := spl_size s
          unfold clP
          simp only [List.map_nil, List.sum_nil, Nat.zero_add] at a1
          unfold parS at a1 ⊢
          omega
        refine Gd.mono (join_any sx x _ hrl (by have := clP_len (parS s); omega) (fun p hp => okS_cl hs hp) hj _) ?_
        rintro ⟨r, s2⟩ ⟨hr, x2⟩
        simp only at hr x2
        subst hr
        simp [evOp_call, T.get_set, this]
        exact xx.trans (x2.mono xx.le)
end Go.Proofs.YtdoennkmcloalaaDoor

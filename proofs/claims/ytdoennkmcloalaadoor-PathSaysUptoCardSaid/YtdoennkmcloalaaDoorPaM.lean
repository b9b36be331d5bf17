/-
  Contracts of the document's own answer: Clean.
-/
import Derived.Test.YtdoennkmcloalaaDoorPaL
set_option linter.unusedSimpArgs false
namespace Go.Proofs.YtdoennkmcloalaaDoor
open Go.RowKit Ev
def rowAt (x : V) (m : Nat) : Prop := (∃ o l q, x = .sl m o l q) ∨ ∃ o l z, x = .sg m o l z
theorem app0_fl {P : Program} {st : St} {fl : List (Nat × Nat)} {t t' el el' z m lx nt : Nat} {x : V} {new : List V} {Q : V × St → Prop} (hu : P.underlying t = some (.slice el)) (hk : P.underlying t' = some (.slice el')) (hi : infoOk P el z = true) (hel : el ≠ roT)
    (hfm : inF fl m = false) (hm : st.h.get m = some (.cs el 0 .lf)) (hx : ∀ s', x ≠ .s s') (hl : ∀ k : Nat → Res, lenA x k = k lx) (hf : ∀ k : List V → Res, firsts ⟨false, fl, 0, nt⟩ st z lx x k = k new) (hn : new.length = lx * z) (hmax : lx ≤ 1073741824)
    (h0 : lx = 0 → Q (.sl m 0 0 0, ⟨st.nx, st.h.set m (.cs el 0 .lf)⟩)) (h1 : 0 < lx → Q (.sg st.nx 0 lx z, ⟨st.nx + 1, st.h.set st.nx (.cs el new.length (sets new 0 .lf))⟩)) : Gd (builtinE P ⟨false, fl, 0, nt⟩ .append [t, t'] [.sl m 0 0 0, x] st) Q := by
  have e1 : builtinE P ⟨false, fl, 0, nt⟩ .append [t, t'] [.sl m 0 0 0, x] st = appE ⟨false, fl, 0, nt⟩ st el z 0 lx (.sl m 0 0 0) new := by
    have hsm : small P el (0 + lx) = true := infoOk_small hi (by omega)
    unfold builtinE
    simp only [elemOf_ok hu hi, hk, lenA_sl]
    cases x with
    | s s' => exact absurd rfl (hx s')
    | _ => simp only [hl, hf, hsm]
  rw [e1]
  unfold appE
  simp only [fn_eq, Nat.zero_add]
  by_cases hz : lx = 0
  · subst hz
    have hnew : new = [] := List.length_eq_zero_iff.1 (by omega)
    subst hnew
    simp [putB_eq, hm, hel, sets, hfm]
    exact h0 rfl
  · have hb : Nat.ble lx 0 = false := by
      cases h : Nat.ble lx 0 with
      | false => rfl
      | true => rw [Nat.ble_eq] at h; omega
    simp only [hb]
    unfold growE
    simp [getC_eq, hm, getsB_zero, newC_is, hfm]
    exact h1 (by omega)
theorem first_fl {β : Type} {st : St} {fl : List (Nat × Nat)} {wb nt z n : Nat} {x : V} {l : List V} (h : RdRow st x z n l) (hfx : ∀ m, rowAt x m → inF fl m = false) (k : List V → Option β) : firsts ⟨false, fl, wb, nt⟩ st z n x k = k l := by
  obtain ⟨h1, h2⟩ := h
  rcases h2 with ⟨hx, rfl⟩ | ⟨m, o, q, ty, sz, t, rfl, _, h4, _, h6⟩ | ⟨m, o, ty, sz, t, rfl, _, h4, _, h6⟩
  · have hl : l = [] := List.eq_nil_of_length_eq_zero (by rw [h1]; simp)
    subst hl
    rcases hx with rfl | rfl <;> rfl
  · rw [firsts_sl, if_pos (Nat.le_refl _), getC_eq, h4]
    simp only [ok_top, hfx m (.inl ⟨_, _, _, rfl⟩), Bool.not_false, cond_true, Option.bind_some, csK_cs]
    rw [← h1]
    exact getsB_list h6 k
  · have e1 : Ev.firsts ⟨false, fl, wb, nt⟩ st z n (.sg m o n z) k = (match Nat.ble n n with | true => getC ⟨false, fl, wb, nt⟩ st m fun t => getsB t (n * z) o k | false => none) := rfl
    have e2 : Nat.ble n n = true := by rw [Nat.ble_eq]; exact Nat.le_refl _
    rw [e1, e2]
    simp only
    rw [getC_eq, h4]
    simp only [ok_top, hfx m (.inr ⟨_, _, _, rfl⟩), Bool.not_false, cond_true, Option.bind_some, csK_cs]
    rw [← h1]
    exact getsB_list h6 k
theorem stk_own {b c : Nat} {st : St} {x : V} {L : List Tx} (h : OwnRow b st x 1 L.length (sv L)) (hc : c ≤ b) : StkRow c st x L := by
  obtain ⟨h1, h2⟩ := h
  rcases h2 with ⟨rfl, h2⟩ | ⟨m, ty, t, rfl, h3, h4, h5, h6, h7⟩
  · exact .inl ⟨rfl, List.length_eq_zero_iff.1 h2⟩
  · exact .inr ⟨m, ty, _, t, rfl, by omega, h4, h5, h6, by omega, fun j p hj => h7 j _ (sv_get hj)⟩
theorem stk_at {b : Nat} {st : St} {x : V} {L : List Tx} (h : StkRow b st x L) {m : Nat} (k : rowAt x m) : b ≤ m ∧ m < st.nx := by
  rcases h with ⟨rfl, _⟩ | ⟨m', ty, sz, t, rfl, h1, h2, _⟩
  · rcases k with ⟨_, _, _, e⟩ | ⟨_, _, _, e⟩ <;> cases e
  · rcases k with ⟨_, _, _, e⟩ | ⟨_, _, _, e⟩
    · cases e
    · injection e with e; subst e; exact ⟨h1, h2⟩
def rcI (s1 : St) (y : V) (L : List Tx) (e : Env) (s : St) : Prop := ∃ (i : Nat) (x : V), i ≤ L.length ∧ e.get 3 = some y ∧ e.get 6 = some (.int .i64 (i : Int)) ∧ e.get 5 = some x ∧
  StkRow s1.nx s x (clP (L.take i)) ∧ Ext s1.nx s1 s
set_option maxRecDepth 20000 in
set_option maxHeartbeats 4000000 in
theorem rclean_any (st : St) (s : Tx) (nt : Nat) :
    Gd (callL Tryd.prog ⟨false, [], 0, nt⟩ 19 [.s s] st) fun r => r.1 = .s (clS s) ∧ Ext st.nx st r.2 := by
  rw [Gd_callL Tryd.func19 rfl]
  simp [evOp_call, sets, T.get_set]
  refine Gd.mono (rsplit_any st s _) ?_
  rintro ⟨r, s1⟩ ⟨y, hr, hy0, x1⟩
  simp only at hr hy0 x1
  subst hr
  by_cases he : errS s = 0
  case neg =>
    have hc : clS s = [] := by unfold clS; rw [if_neg he]
    simp [evOp_call, sets, T.get_set, tupK, he, hc]
    exact x1
  have hp : pErr s = parS s := by unfold pErr; rw [if_pos he]
  rw [hp] at hy0
  have hy := hy0.rd
  have hpl := par_len s
  have hsl := (errS_zero he).2.1
  simp [evOp_call, sets, T.get_set, tupK, he]
  refine Gd_loop (rcI s1 y (parS s)) (fun en _ => muAt 6 (parS s).length en) ?_ ?_
  · exact ⟨0, _, Nat.zero_le _, by simp [T.get_set], by simp [T.get_set], by simp [T.get_set], .inl ⟨rfl, rfl⟩, Ext.refl _ _⟩
  · rintro en sx ⟨i, x, hi, g3, g6, g5, hrow, hx⟩
    have xx : Ext st.nx st sx := x1.trans (hx.mono x1.le)
    have hcl := clP_len ((parS s).take i)
    have hrl := hrow.rd
    have hyx := hy.ext hx
    rw [List.length_take] at hcl
    by_cases hlt : i < (parS s).length
    · have hlt' : (i : Int) < ((parS s).length : Int) := by omega
      have w1 : IntKind.i64.wrap ((i : Int) + 1) = ((i + 1 : Nat) : Int) := by rw [show ((i : Int) + 1) = ((i + 1 : Nat) : Int) by omega]; exact wrap_in (by omega) (by omega)
      obtain ⟨p, hp⟩ : ∃ p, (parS s)[i]? = some p := ⟨_, List.getElem?_eq_getElem hlt⟩
      obtain ⟨m, ty, tr, hye, hmb, hm, hg0, hro, hc0⟩ : ∃ m ty tr, y = .sg m 0 (parS s).length 1 ∧ st.nx ≤ m ∧ m < s1.nx ∧ s1.h.get m = some (.cs ty ((parS s).length * 1) tr) ∧ ty ≠ roT ∧ ∀ j v, (sv (parS s))[j]? = some v → tr.get j = some v := by
        rcases hy0.2 with ⟨_, hn⟩ | h
        · omega
        · exact h
      have hg := (hx.keep m hm).trans hg0
      have t0 : tr.get i = some (.s p) := hc0 i _ (sv_get hp)
      have hid : ∀ k : V → Res, idxE Tryd.prog 23 y i k = k (.p m i) := fun k => by
        rw [hye, idxE_sg un23 (fun k => infoOk_sz io9 k), if_pos hlt]; simp
      have hct := clP_take hp
      by_cases hd : p = [46, 46]
      · have hc1 : clP ((parS s).take (i + 1)) = (clP ((parS s).take i)).dropLast := by rw [hct]; unfold cl1; rw [if_pos hd]
        by_cases h0 : clP ((parS s).take i) = []
        · have hl0 : (clP ((parS s).take i)).length = 0 := by rw [h0]; rfl
          simp [evOp_call, T.get_set, g3, g6, g5, hyx.lenS, hlt', hid, loadE_eq, getC_eq, hg, t0, hd, hrl.lenS, h0, w1]
          exact ⟨⟨i + 1, x, hlt, by simp [T.get_set, g3], by simp [T.get_set], by simp [T.get_set, g5], by rw [hc1, h0]; rw [h0] at hrow; exact hrow, hx⟩, muAt_lt g6 (by simp [T.get_set]) hlt⟩
        · have hlp : 0 < (clP ((parS s).take i)).length := List.length_pos_iff.2 h0
          obtain ⟨k, hk⟩ : ∃ k, k + 1 = (clP ((parS s).take i)).length := ⟨_, Nat.sub_add_cancel hlp⟩
          have w2 : IntKind.i64.wrap (((clP ((parS s).take i)).length : Int) - 1) = (k : Int) := by rw [show ((clP ((parS s).take i)).length : Int) - 1 = (k : Int) by omega]; exact wrap_in (by omega) (by omega)
          rcases hrow with ⟨_, h⟩ | ⟨m2, ty2, sz2, t2, rfl, h3, h4, h5, h6, h7, h8⟩
          · exact absurd h h0
          · simp [evOp_call, T.get_set, g3, g6, g5, hyx.lenS, hlt', hid, loadE_eq, getC_eq, hg, t0, hd, hrl.lenS, h0, hlp, w1, w2]
            unfold sliceK
            rw [sliceE_hiZ un23 io9 (k := k) (i := .i64) (by simp [T.get_set, w2]) _ _ _ (by omega)]
            simp [evOp_call, T.get_set, g6, w1]
            have hdl : (clP ((parS s).take i)).dropLast.length = k := by rw [List.length_dropLast]; omega
            refine ⟨⟨i + 1, .sg m2 0 k 1, hlt, by simp [T.get_set, g3], by simp [T.get_set], by simp [T.get_set], ?_, hx⟩, muAt_lt g6 (by simp [T.get_set]) hlt⟩
            rw [hc1]
            refine .inr ⟨m2, ty2, sz2, t2, by rw [hdl], h3, h4, h5, h6, by omega, fun j q hj => h8 j q ?_⟩
            rw [List.getElem?_dropLast] at hj
            split at hj
            · exact hj
            · cases hj
      · have hc1 : clP ((parS s).take (i + 1)) = clP ((parS s).take i) ++ [p] := by rw [hct]; unfold cl1; rw [if_neg hd]
        simp [evOp_call, T.get_set, g3, g6, g5, hyx.lenS, hlt', hid, loadE_eq, getC_eq, hg, t0, hd]
        refine ⟨by kernel_rfl, ?_⟩
        rw [evOp_build0 (fun k => el23 k) (fun k => ze9 k) rfl]
        simp [evOp_call, T.get_set, g3, g6, g5]
        obtain ⟨K, hKe⟩ : ∃ K, K = clP ((parS s).take i) := ⟨_, rfl⟩
        rw [← hKe] at hrow hrl hcl hc1
        have hle := hx.le
        have hKr : ∀ m', rowAt x m' → s1.nx ≤ m' ∧ m' < sx.nx := fun m' h => stk_at hrow h
        have e0 : Ext sx.nx sx ⟨sx.nx + 1, sx.h.set sx.nx (.cs 9 0 .lf)⟩ := (Ext.refl _ _).new (Nat.le_refl _) _
        have hgs : (sx.h.set sx.nx (.cs 9 0 .lf)).get m = some (.cs ty ((parS s).length * 1) tr) := (e0.keep m (by omega)).trans hg
        have hin : ∀ k, k ≠ m → inF [(m, m + 1)] k = false := fun k hk => by rw [inF_cons, if_neg (by omega)]; rfl
        rw [cxOf_callL [(m, m + 1)] (by kernel_rfl) (by kernel_rfl) (looseW_at 3 (.sg m 0 (parS s).length 1) (by simp [T.get_set, g3, hye]) (by kernel_rfl)) (fun o ho => by
            simp at ho
            rcases ho with rfl | rfl
            · simp [clashes_tmp, T.get_set, blkOf]
              exact hin _ (by omega)
            · rcases hrow with ⟨rfl, _⟩ | ⟨m2, ty2, sz2, t2, rfl, h3, _⟩
              · simp [clashes_tmp, T.get_set, blkOf]
              · simp [clashes_tmp, T.get_set, blkOf]
                exact hin _ (by omega)) (fun q hq => by
            simp at hq
            subst hq
            rw [isRo_cs hgs]
            exact decide_eq_false hro), forb_cons (by kernel_rfl) rfl]
        have hap : Gd (builtinE Tryd.prog ⟨false, [(m, m + 1)] ++ [], 0, 47⟩ .append [23, 23] [.sl sx.nx 0 0 0, x] ⟨sx.nx + 1, sx.h.set sx.nx (.cs 9 0 .lf)⟩) fun r => AppRow s1.nx r.2 r.1 1 K.length (sv K) ∧ Ext sx.nx sx r.2 := by
          have hrl2 := hrl.ext e0
          have hxs : ∀ s', x ≠ .s s' := fun s' e => by rcases hrow with ⟨h, _⟩ | ⟨_, _, _, _, h, _⟩ <;> rw [e] at h <;> cases h
          refine app0_fl (lx := K.length) (new := sv K) un23 un23 io9 (by decide) (hin _ (by omega)) (T.get_set_same _ _ _) hxs hrl2.len (fun k => first_fl hrl2 (fun m' h => hin _ (by have := hKr m' h; omega)) k) (by simp) (by omega) (fun h => ?_) fun h => ?_
          · have hK0 : K = [] := List.length_eq_zero_iff.1 h
            subst hK0
            refine ⟨.inr ⟨rfl, sx.nx, 9, .lf, rfl, hle, Nat.lt_succ_self _, T.get_set_same _ _ _, by decide, fun j v hj => by simp [sv] at hj⟩, e0.set (Nat.le_refl _) (Nat.lt_succ_self _) _⟩
          · refine ⟨.inl ⟨by simp, .inr ⟨sx.nx + 1, 9, sets (sv K) 0 .lf, rfl, by show s1.nx ≤ sx.nx + 1; omega, Nat.lt_succ_self _, ?_, by decide, fun j v hj => ?_⟩⟩, e0.new (Nat.le_succ _) _⟩
            · show ((sx.h.set sx.nx _).set (sx.nx + 1) _).get (sx.nx + 1) = _
              rw [T.get_set_same]; simp
            · have hj2 := lt_of_get hj
              rw [get_sets, if_pos ⟨Nat.zero_le _, by omega⟩]
              simpa using hj
        refine Gd.mono hap ?_
        rintro ⟨z, s2⟩ ⟨hz, hx2⟩
        simp only at hz hx2
        have hg2 := (hx2.keep m (by omega)).trans hg
        have hle2 := hx2.le
        have hld : ∀ b, inF ((0, m) :: (m + 1, s2.nx) :: forb b (rsOf [(0, sx.nx, sx.nx + 1)] 2 (sx.nx + 1) s2.nx) []) m = false := fun b => inF_lds (rsOf_lt (fun e h => by simp at h; subst h; show m < sx.nx; omega) (by omega))
        simp [evOp_call, T.get_set, g3, g6, g5, hid, loadE_eq, getC_eq, hg2, t0, hld]
        refine evOp_build1 (v := .s p) (cs := [.s p]) (fun k => el23 k) (fun k => ze9 k) rfl (by omega) (by simp [T.get_set]) (fun k => rfl) rfl ?_
        simp [evOp_call, T.get_set, g3, g6, g5]
        rw [cxOf_call (by kernel_rfl) (by kernel_rfl), forb_cons (by kernel_rfl) (forb_step (by kernel_rfl) (forb_cons (by kernel_rfl) rfl))]
        refine Gd_appendA un23 un23 io9 (lx := 1) (new := [.s p]) (hz.ext ((Ext.refl _ _).new (Nat.le_refl _) _)) (by show s1.nx ≤ s2.nx + 1; omega) (by decide) (fun s' h => by cases h) (fun k => rfl) (fun k => by simp [getC_eq, getsB_1, T.get_set, sets]) rfl (by omega) (by omega) ?_
        intro z2 s3 hz3 hx3
        simp [evOp_call, T.get_set, g3, g6, g5, w1]
        refine ⟨⟨i + 1, z2, hlt, by simp [T.get_set, g3], by simp [T.get_set], by simp [T.get_set], ?_, ?_⟩, muAt_lt g6 (by simp [T.get_set]) hlt⟩
        · rw [hc1]
          refine stk_own (b := s1.nx) ?_ (Nat.le_refl _)
          rw [sv_app, List.length_append]
          exact hz3
        · exact hx.trans ((hx2.mono hle).trans ((((Ext.refl _ _).new (Nat.le_refl _) _).mono (by omega)).trans hx3))
    · obtain rfl : i = (parS s).length := by omega
      rw [List.take_length] at hrow hrl
      have hw : clS s = wayL (clP (parS s)) := by unfold clS; rw [if_pos he]
      by_cases h0 : clP (parS s) = []
      · have : clS s = [47] := by rw [hw, h0]; rfl
        simp [evOp_call, T.get_set, g3, g6, g5, hyx.lenS, hrl.lenS, h0, this]
        exact xx
      · have hlp : ¬ ((clP (parS s)).length : Int) = 0 := by have := List.length_pos_iff.2 h0; omega
        have : clS s = jn (clP (parS s)) := by rw [hw]; unfold wayL; rw [if_neg h0]
        simp [evOp_call, T.get_set, g3, g6, g5, hyx.lenS, hrl.lenS, h0, hlp]
        have hj : (jn (clP (parS s))).length ≤ 1073741824 := by
          rw [jn_len]
          have a1 := cl_size (parS s) []
          have a2 := filter_size keepT (spl s)
          have a3 := spl_size s
          unfold clP
          simp only [List.map_nil, List.sum_nil, Nat.zero_add] at a1
          unfold parS at a1 ⊢
          omega
        refine Gd.mono (rjoin_any sx x _ hrl (by have := clP_len (parS s); omega) hj _) ?_
        rintro _ rfl
        simp [evOp_call, T.get_set, this]
        exact xx
end Go.Proofs.YtdoennkmcloalaaDoor

/-
  Contracts of package pool: New, Group.
-/
import Derived.Test.YtdoennkmcloalaaPlB
set_option linter.unusedSimpArgs false
namespace Go.Proofs.Ytdoennkmcloalaa
open Go.RowKit Ev
def rowAt (x : V) (m : Nat) : Prop := (∃ o l q, x = .sl m o l q) ∨ ∃ o l z, x = .sg m o l z
theorem app0_fl {P : Program} {st : St} {fl : List (Nat × Nat)} {t t' el el' z m lx nt : Nat} {x : V} {new : List V} {Q : V × St → Prop} (hu : P.underlying t = some (.slice el)) (hk : P.underlying t' = some (.slice el')) (hi : infoOk P el z = true) (hel : el ≠ roT)
    (hfm : inF fl m = false) (hm : st.h.get m = some (.cs el 0 .lf)) (hx : ∀ s', x ≠ .s s') (hl : ∀ k : Nat → Res, lenA x k = k lx) (hf : ∀ k : List V → Res, firsts ⟨false, fl, 0, nt⟩ st z lx x k = k new) (hn : new.length = lx * z) (hmax : lx ≤ 1073741824)
    (h0 : lx = 0 → Q (.sl m 0 0 0, ⟨st.nx, st.h.set m (.cs el 0 .lf)⟩)) (h1 : 0 < lx → Q (.sg st.nx 0 lx z, ⟨st.nx + 1, st.h.set st.nx (.cs el new.length (sets new 0 .lf))⟩)) : Gd (builtinE P ⟨false, fl, 0, nt⟩ .append [t, t'] [.sl m 0 0 0, x] st) Q := by
  have e1 : builtinE P ⟨false, fl, 0, nt⟩ .append [t, t'] [.sl m 0 0 0, x] st = appE ⟨false, fl, 0, nt⟩ st el z 0 lx (.sl m 0 0 0) new := by
    have hsm : small P el (0 + lx) = true := infoOk_small hi (by omega)
    unfold builtinE
    simp only [elemOf_ok hu hi, hk, lenA_sl]
    cases x with
    | s s' => exact absurd rfl (hx s')
    | _ => simp only [hl, hf, hsm]
  rw [e1]
  unfold appE
  simp only [fn_eq, Nat.zero_add]
  by_cases hz : lx = 0
  · subst hz
    have hnew : new = [] := List.length_eq_zero_iff.1 (by omega)
    subst hnew
    simp [putB_eq, hm, hel, sets, hfm]
    exact h0 rfl
  · have hb : Nat.ble lx 0 = false := by
      cases h : Nat.ble lx 0 with
      | false => rfl
      | true => rw [Nat.ble_eq] at h; omega
    simp only [hb]
    unfold growE
    simp [getC_eq, hm, getsB_zero, newC_is, hfm]
    exact h1 (by omega)
theorem first_fl {β : Type} {st : St} {fl : List (Nat × Nat)} {wb nt z n : Nat} {x : V} {l : List V} (h : RdRow st x z n l) (hfx : ∀ m, rowAt x m → inF fl m = false) (k : List V → Option β) : firsts ⟨false, fl, wb, nt⟩ st z n x k = k l := by
  obtain ⟨h1, h2⟩ := h
  rcases h2 with ⟨hx, rfl⟩ | ⟨m, o, q, ty, sz, t, rfl, _, h4, _, h6⟩ | ⟨m, o, ty, sz, t, rfl, _, h4, _, h6⟩
  · have hl : l = [] := List.eq_nil_of_length_eq_zero (by rw [h1]; simp)
    subst hl
    rcases hx with rfl | rfl <;> rfl
  · rw [firsts_sl, if_pos (Nat.le_refl _), getC_eq, h4]
    simp only [ok_top, hfx m (.inl ⟨_, _, _, rfl⟩), Bool.not_false, cond_true, Option.bind_some, csK_cs]
    rw [← h1]
    exact getsB_list h6 k
  · have e1 : Ev.firsts ⟨false, fl, wb, nt⟩ st z n (.sg m o n z) k = (match Nat.ble n n with | true => getC ⟨false, fl, wb, nt⟩ st m fun t => getsB t (n * z) o k | false => none) := rfl
    have e2 : Nat.ble n n = true := by rw [Nat.ble_eq]; exact Nat.le_refl _
    rw [e1, e2]
    simp only
    rw [getC_eq, h4]
    simp only [ok_top, hfx m (.inr ⟨_, _, _, rfl⟩), Bool.not_false, cond_true, Option.bind_some, csK_cs]
    rw [← h1]
    exact getsB_list h6 k
theorem clone_fl (st : St) (fl : List (Nat × Nat)) (hfn : ∀ k, st.nx ≤ k → inF fl k = false) (x : V) (n : Nat) (l : List V) (hx : RdRow st x 1 n l) (hn : n ≤ 1000000) (hfx : ∀ m, rowAt x m → inF fl m = false) (nt : Nat) :
    Gd (callL Try.prog ⟨false, fl, 0, nt⟩ 152 [x] st) fun r => RdRow r.2 r.1 1 n l ∧ (0 < n → OwnRow st.nx r.2 r.1 1 n l) ∧ RowFrom st.nx r.1 ∧ Ext st.nx st r.2 := by
  rw [Gd_callL Try.func152 rfl]
  by_cases hnil : isNil x = true
  · obtain ⟨rfl, rfl⟩ := isNil_len hx hnil
    simp [sets, T.get_set, eql_nil un23 hx, hnil]
    exact ⟨hx, ⟨fun _ _ _ _ e => (by cases e), fun _ _ _ _ e => by cases e⟩, Ext.refl _ _⟩
  · simp [sets, T.get_set, eql_nil un23 hx, hnil]
    rw [evOp_build0 (fun k => el23 k) (fun k => ze24 k) rfl]
    simp [T.get_set]
    have he : Ext st.nx st ⟨st.nx + 1, st.h.set st.nx (.cs 24 0 .lf)⟩ := (Ext.refl _ _).new (Nat.le_refl _) _
    have hx' := hx.ext he
    refine app0_fl un23 un23 io24 (by decide) (hfn _ (Nat.le_refl _)) (T.get_set_same _ _ _) hx.notS (fun k => hx.len k) (fun k => first_fl hx' hfx k) hx.1 (by omega) (fun h0 => ?_) fun h1 => ?_
    · subst h0
      simp [T.get_set]
      have hl : l = [] := List.length_eq_zero_iff.1 (by have := hx.1; omega)
      subst hl
      exact ⟨⟨rfl, .inr (.inl ⟨st.nx, 0, 0, 24, 0, .lf, rfl, Nat.lt_succ_self _, T.get_set_same _ _ _, Nat.le_refl _, fun j v h => by simp at h⟩)⟩, ⟨fun _ _ _ _ e => (by cases e), fun _ _ _ _ e => (by cases e; exact Nat.le_refl _)⟩, he⟩
    · simp [T.get_set]
      have h2 := he.new (Nat.le_succ _) (.cs 24 l.length (sets l 0 .lf))
      have ho : OwnRow st.nx ⟨st.nx + 1 + 1, (st.h.set st.nx (.cs 24 0 .lf)).set (st.nx + 1) (.cs 24 l.length (sets l 0 .lf))⟩ (.sg (st.nx + 1) 0 n 1) 1 n l := by
        refine ⟨hx.1, .inr ⟨st.nx + 1, 24, sets l 0 .lf, rfl, Nat.le_succ _, Nat.lt_succ_self _, ?_, by decide, fun j v hj => ?_⟩⟩
        · rw [← hx.1]; exact T.get_set_same _ _ _
        · have hjl : j < l.length := lt_of_get hj
          rw [get_sets, if_pos ⟨Nat.zero_le _, by omega⟩]
          simpa using hj
      exact ⟨ho.rd, fun _ => ho, ⟨fun _ _ _ _ e => (by cases e; omega), fun _ _ _ _ e => by cases e⟩, h2⟩
theorem rowAt_none {x : V} {z n m : Nat} {st : St} {l : List V} (h : RdRow st x z n l) (k : rowAt x m) : m < st.nx := by
  rcases k with ⟨_, _, _, e⟩ | ⟨_, _, _, e⟩
  · exact h.lt_of.2 _ _ _ _ e
  · exact h.lt_of.1 _ _ _ _ e
set_option maxRecDepth 20000 in
set_option maxHeartbeats 2000000 in
theorem copied_fl (st : St) (fl : List (Nat × Nat)) (hfn : ∀ k, st.nx ≤ k → inF fl k = false) (x : V) (n : Nat) (l : List V) (hx : RdRow st x 1 n l) (hn : n ≤ 1000000) (hfx : ∀ m, rowAt x m → inF fl m = false) (nt : Nat) :
    Gd (callL Try.prog ⟨false, fl, 0, nt⟩ 144 [.g [x]] st) fun r => ∃ y, r.1 = .g [y] ∧ RdRow r.2 y 1 n l ∧ RowFrom st.nx y ∧ Ext st.nx st r.2 := by
  rw [Gd_callL Try.func144 rfl]
  have hone := hx.one
  have f0 := hfn st.nx (Nat.le_refl _)
  have f1 := hfn (st.nx + 1) (Nat.le_succ _)
  have he : Ext st.nx st ⟨st.nx + 1, st.h.set st.nx (.cs 90 1 (sets [x] 0 .lf))⟩ := (Ext.refl _ _).new (Nat.le_refl _) _
  have he2 := he.new (Nat.le_succ _) (.cs 90 1 (sets [.c (.slice none 0 0)] 0 .lf))
  have hx2 := hx.ext he2
  simp [evOp_call, sets, T.get_set, cellsOf, newC_is, loadE_eq, getC_eq, getsB_1, f0, f1]
  refine Gd.mono (clone_fl _ fl (fun k hk => hfn k (by have : st.nx + 1 + 1 ≤ k := hk; omega)) x _ _ hx2 hn hfx _) ?_
  rintro ⟨y, s1⟩ ⟨hy, hyo, hyf, e1⟩
  simp only at hy hyo hyf e1
  have b1 : st.nx + 2 ≤ s1.nx := e1.le
  have hyone := hy.one
  have hg1 : s1.h.get (st.nx + 1) = some (.cs 90 1 (sets [.c (.slice none 0 0)] 0 .lf)) := by
    rw [e1.keep (st.nx + 1) (by show st.nx + 1 < st.nx + 1 + 1; omega)]; exact T.get_set_same _ _ _
  simp [evOp_call, sets, T.get_set, cellsOf, newC_is, loadE_eq, getC_eq, getsB_1, storeK_g, putB_eq, roT, hg1, hyone, f0, f1]
  refine ⟨?_, hyf.mono (by show st.nx ≤ st.nx + 1 + 1; omega), ?_⟩
  · exact hy.setOther (k := st.nx + 1) (fun o l z e => by have := hyf.1 _ _ _ _ e; have h2 : st.nx + 1 + 1 ≤ st.nx + 1 := this; omega) (fun o l q e => by have := hyf.2 _ _ _ _ e; have h2 : st.nx + 1 + 1 ≤ st.nx + 1 := this; omega) _
  · exact (he2.trans (e1.mono (by show st.nx ≤ st.nx + 1 + 1; omega))).set (by omega) (by omega) _
theorem bld_pool (x y : Operand) (a b c d z : V) (zs : List V) (hzs : zs.length = 5) (st : St) : bldK Try.prog 204 [(0, x), (1, y)] [.g [a, b, c, d], .g [z]] zs st = some (.g [a, b, c, d, z], st) := by
  rw [bldK_ok so204, partsK_cells rfl (fun k => rfl) rfl (by simp [hzs]), partsK_cells rfl (fun k => rfl) rfl (by simp [hzs])]
  match zs, hzs with
  | [z0, z1, z2, z3, z4], _ => rfl
/-- a pool -/
def PoolAt (s : St) (q : Nat) (g : Gm) (z : V) (m : Nat) (L : List (BitVec 64)) : Prop := q < s.nx ∧ (∃ t, s.h.get q = some (.cs 204 5 t) ∧ t.get 0 = some (.int .i64 g.b) ∧ t.get 1 = some (.int .i64 g.n) ∧ t.get 2 = some (.int .i64 g.c) ∧ t.get 3 = some (.int .i64 g.k) ∧ t.get 4 = some z) ∧ RdRow s z 1 m (wv L)
theorem PoolAt.ext {s s' : St} {q m : Nat} {g : Gm} {z : V} {L : List (BitVec 64)} (h : PoolAt s q g z m L) (k : Ext s.nx s s') : PoolAt s' q g z m L := by
  obtain ⟨h1, ⟨t, h2, h3⟩, h4⟩ := h
  exact ⟨Nat.lt_of_lt_of_le h1 k.le, ⟨t, (k.keep _ h1).trans h2, h3⟩, h4.ext k⟩
set_option maxRecDepth 20000 in
set_option maxHeartbeats 4000000 in
theorem pnew_any (st : St) (g : Gm) (hg : isGood g) (x : V) (L : List (BitVec 64)) (hx : RdRow st x 1 ((g.b.toNat + 63) / 64) (wv L)) (nt : Nat) :
    Gd (callL Try.prog ⟨false, [], 0, nt⟩ 66 [gV g, .g [x]] st) fun r => ∃ q z, r.1 = .t [.p q 0, .int .i64 0] ∧ PoolAt r.2 q g z ((g.b.toNat + 63) / 64) L ∧ st.nx ≤ q ∧ RowFrom st.nx z ∧ Ext st.nx st r.2 := by
  rw [Gd_callL Try.func66 rfl]
  have e0 := box_ext st g
  have hs4 := hg.1
  obtain ⟨h1, h2, h3, h4, h5, h6, h7, h8⟩ := hs4
  have hone := hx.one
  obtain ⟨n, hn⟩ : ∃ n : Nat, g.b = (n : Int) := ⟨g.b.toNat, by omega⟩
  have hnt : g.b.toNat = n := by omega
  rw [hnt] at hx
  have q1 : ¬ st.nx + 1 = st.nx := by omega
  have e1 := e0.new (Nat.le_succ _) (.cs 90 1 (sets [x] 0 .lf))
  simp [gV, evOp_call, sets, T.get_set, cellsOf, newC_is, loadE_eq, getC_eq, getsB_succ, getsB_zero, q1]
  refine Gd.mono (good_any _ [] (fun _ _ => rfl) 0 (Nat.zero_le _) g _) ?_
  rintro ⟨r, s1⟩ ⟨hr, x1⟩
  simp only at hr x1
  subst hr
  have b1 : st.nx + 2 ≤ s1.nx := x1.le
  have k0 : s1.h.get st.nx = some (.cs 38 4 ((((T.lf.set 0 (.int .i64 g.b)).set 1 (.int .i64 g.n)).set 2 (.int .i64 g.c)).set 3 (.int .i64 g.k))) := by
    rw [x1.keep st.nx (by show st.nx < st.nx + 1 + 1; omega)]
    exact (T.get_set_ne (n := st.nx + 1) (m := st.nx) _ _ (by omega)).trans (T.get_set_same _ _ _)
  have k1 : s1.h.get (st.nx + 1) = some (.cs 90 1 (sets [x] 0 .lf)) := by
    rw [x1.keep (st.nx + 1) (by show st.nx + 1 < st.nx + 1 + 1; omega)]; exact T.get_set_same _ _ _
  have ex1 : Ext st.nx st s1 := e1.trans (x1.mono (by show st.nx ≤ st.nx + 1 + 1; omega))
  have hx1 := hx.ext ex1
  have w1 : IntKind.i64.wrap ((n : Int) + 64) = (n : Int) + 64 := wrap_in (by omega) (by omega)
  have w2 : IntKind.i64.wrap ((n : Int) + 64 - 1) = (n : Int) + 64 - 1 := wrap_in (by omega) (by omega)
  have w3 : ((n : Int) + 64 - 1).tdiv 64 = (((n + 63) / 64 : Nat) : Int) := by rw [Int.tdiv_eq_ediv_of_nonneg (by omega)]; omega
  have w5 : IntKind.i64.wrap (((n : Int) + 63) / 64) = ((n : Int) + 63) / 64 := wrap_in (by omega) (by omega)
  simp [hg, evOp_call, sets, T.get_set, tupK, cellsOf, newC_is, loadE_eq, getC_eq, getsB_1, k0, k1, hn, hx1.lenS, w1, w2, w3, w5]
  refine ⟨by kernel_rfl, ?_⟩
  simp [hg, evOp_call, sets, T.get_set, tupK, cellsOf, newC_is, loadE_eq, getC_eq, getsB_succ, getsB_zero, k0, k1]
  rw [cxOf_callL [(st.nx, st.nx + 1)] (by kernel_rfl) (by kernel_rfl) (looseW_at 2 (.p st.nx 0) (by simp [T.get_set]) (by kernel_rfl)) (fun x hx => by simp at hx; subst hx; simp [clashes_tmp, T.get_set, blkOf]) (fun p hp => by simp at hp; subst hp; rw [isRo_cs k0]; decide)]
  have hfl : ∀ k, k ≠ st.nx → inF ([(st.nx, st.nx + 1)] ++ []) k = false := fun k hk => by simp only [List.append_nil]; rw [inF_cons, if_neg (by omega)]; rfl
  simp only [forb_nil]
  refine Gd.mono (copied_fl s1 _ (fun k hk => hfl k (by omega)) x _ _ hx1 (by omega) (fun m h => hfl m (by have := rowAt_none hx h; omega)) _) ?_
  rintro ⟨r, s2⟩ ⟨z, hr, hz, hzf, x2⟩
  simp only at hr hz hzf x2
  subst hr
  have hzone := hz.one
  have b2 := x2.le
  simp [hg, evOp_call, sets, T.get_set, tupK, cellsOf, newC_is, loadE_eq, getC_eq, getsB_succ, getsB_zero, k0, k1, hzone]
  rw [bld_pool _ _ _ _ _ _ _ _ rfl]
  simp [hg, evOp_call, sets, T.get_set, tupK, cellsOf, newC_is, hzone]
  have ex3 : Ext s2.nx s2 ⟨s2.nx + 1, s2.h.set s2.nx (.cs 204 5 (((((T.lf.set 0 (.int .i64 (n : Int))).set 1 (.int .i64 g.n)).set 2 (.int .i64 g.c)).set 3 (.int .i64 g.k)).set 4 z))⟩ := (Ext.refl _ _).new (Nat.le_refl _) _
  have ex2 : Ext st.nx st s2 := ex1.trans (x2.mono (by omega))
  exact ⟨z, ⟨Nat.lt_succ_self _, ⟨_, T.get_set_same _ _ _, by simp [T.get_set, hn], by simp [T.get_set], by simp [T.get_set], by simp [T.get_set], by simp [T.get_set]⟩, hz.ext ex3⟩, by omega, hzf.mono (by omega), ex2.trans (ex3.mono (by omega))⟩
end Go.Proofs.Ytdoennkmcloalaa

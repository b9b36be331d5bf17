/-
  PLAIN: PlB, PlC, PlD, PlE, PlF, PlG, in one text.
-/
import Derived.Test.YtcjddojcfdeflaaPlTA
set_option linter.unusedSimpArgs false
namespace Go.Proofs.Ytcjddojcfdeflaa
open Go.RowKit Ev
/-- the bits of a geometry with none of the data taken, as far as i -/
def emptyI (g : Gm) : Nat → List (BitVec 64)
  | 0 => List.replicate ((g.b.toNat + 63) / 64) 0#64
  | i + 1 => if (i : Int) < dF g ∨ dF g + dN g ≤ (i : Int) then setB (emptyI g i) true [(i : Int)] else emptyI g i
theorem emptyI_length (g : Gm) : ∀ i, (emptyI g i).length = (g.b.toNat + 63) / 64
  | 0 => by simp [emptyI]
  | i + 1 => by
    unfold emptyI
    split
    · rw [setB_length, emptyI_length g i]
    · exact emptyI_length g i
def emJ (st : St) (q : Nat) (g : Gm) (e : Env) (s : St) : Prop := ∃ (i : Nat) (y : V), (i : Int) ≤ g.b ∧ e.get 1 = some (.p st.nx 0) ∧ e.get 2 = some (.p (st.nx + 1) 0) ∧ e.get 3 = some (.int .i64 (dF g)) ∧ e.get 4 = some (.int .i64 (dN g)) ∧ e.get 5 = some (.p q 0) ∧ e.get 6 = some (.int .i64 (i : Int)) ∧
  s.h.get st.nx = some (.cs 45 4 ((((T.lf.set 0 (.int .i64 g.b)).set 1 (.int .i64 g.n)).set 2 (.int .i64 g.c)).set 3 (.int .i64 g.k))) ∧ (∃ t, s.h.get (st.nx + 1) = some (.cs 49 1 t)) ∧ (∃ t, s.h.get q = some (.cs 49 1 t) ∧ t.get 0 = some y) ∧ st.nx + 1 < q ∧ q < s.nx ∧
  RdRow s y 1 ((g.b.toNat + 63) / 64) (wv (emptyI g i)) ∧ RowFrom (st.nx + 2) y ∧ (∀ o l z, y ≠ .sg q o l z) ∧ (∀ o l z, y ≠ .sl q o l z) ∧ Ext st.nx st s
end Go.Proofs.Ytcjddojcfdeflaa
set_option linter.unusedSimpArgs false
namespace Go.Proofs.Ytcjddojcfdeflaa
open Go.RowKit Ev
def rowAt (x : V) (m : Nat) : Prop := (∃ o l q, x = .sl m o l q) ∨ ∃ o l z, x = .sg m o l z
theorem app0_fl {P : Program} {st : St} {fl : List (Nat × Nat)} {t t' el el' z m lx nt : Nat} {x : V} {new : List V} {Q : V × St → Prop} (hu : P.underlying t = some (.slice el)) (hk : P.underlying t' = some (.slice el')) (hi : infoOk P el z = true) (hel : el ≠ roT)
    (hfm : inF fl m = false) (hm : st.h.get m = some (.cs el 0 .lf)) (hx : ∀ s', x ≠ .s s') (hl : ∀ k : Nat → Res, lenA x k = k lx) (hf : ∀ k : List V → Res, firsts ⟨false, fl, 0, nt⟩ st z lx x k = k new) (hn : new.length = lx * z) (hmax : lx ≤ 1073741824)
    (h0 : lx = 0 → Q (.sl m 0 0 0, ⟨st.nx, st.h.set m (.cs el 0 .lf)⟩)) (h1 : 0 < lx → Q (.sg st.nx 0 lx z, ⟨st.nx + 1, st.h.set st.nx (.cs el new.length (sets new 0 .lf))⟩)) : Gd (builtinE P ⟨false, fl, 0, nt⟩ .append [t, t'] [.sl m 0 0 0, x] st) Q := by
  have e1 : builtinE P ⟨false, fl, 0, nt⟩ .append [t, t'] [.sl m 0 0 0, x] st = appE ⟨false, fl, 0, nt⟩ st el z 0 lx (.sl m 0 0 0) new := by
    have hsm : small P el (0 + lx) = true := infoOk_small hi (by omega)
    unfold builtinE
    simp only [elemOf_ok hu hi, hk, lenA_sl]
    cases x with
    | s s' => exact absurd rfl (hx s')
    | _ => simp only [hl, hf, hsm]
  rw [e1]
  unfold appE
  simp only [fn_eq, Nat.zero_add]
  by_cases hz : lx = 0
  · subst hz
    have hnew : new = [] := List.length_eq_zero_iff.1 (by omega)
    subst hnew
    simp [putB_eq, hm, hel, sets, hfm]
    exact h0 rfl
  · have hb : Nat.ble lx 0 = false := by
      cases h : Nat.ble lx 0 with
      | false => rfl
      | true => rw [Nat.ble_eq] at h; omega
    simp only [hb]
    unfold growE
    simp [getC_eq, hm, getsB_zero, newC_is, hfm]
    exact h1 (by omega)
theorem first_fl {β : Type} {st : St} {fl : List (Nat × Nat)} {wb nt z n : Nat} {x : V} {l : List V} (h : RdRow st x z n l) (hfx : ∀ m, rowAt x m → inF fl m = false) (k : List V → Option β) : firsts ⟨false, fl, wb, nt⟩ st z n x k = k l := by
  obtain ⟨h1, h2⟩ := h
  rcases h2 with ⟨hx, rfl⟩ | ⟨m, o, q, ty, sz, t, rfl, _, h4, _, h6⟩ | ⟨m, o, ty, sz, t, rfl, _, h4, _, h6⟩
  · have hl : l = [] := List.eq_nil_of_length_eq_zero (by rw [h1]; simp)
    subst hl
    rcases hx with rfl | rfl <;> rfl
  · rw [firsts_sl, if_pos (Nat.le_refl _), getC_eq, h4]
    simp only [ok_top, hfx m (.inl ⟨_, _, _, rfl⟩), Bool.not_false, cond_true, Option.bind_some, csK_cs]
    rw [← h1]
    exact getsB_list h6 k
  · have e1 : Ev.firsts ⟨false, fl, wb, nt⟩ st z n (.sg m o n z) k = (match Nat.ble n n with | true => getC ⟨false, fl, wb, nt⟩ st m fun t => getsB t (n * z) o k | false => none) := rfl
    have e2 : Nat.ble n n = true := by rw [Nat.ble_eq]; exact Nat.le_refl _
    rw [e1, e2]
    simp only
    rw [getC_eq, h4]
    simp only [ok_top, hfx m (.inr ⟨_, _, _, rfl⟩), Bool.not_false, cond_true, Option.bind_some, csK_cs]
    rw [← h1]
    exact getsB_list h6 k
theorem clone_fp (st : St) (fl : List (Nat × Nat)) (hfn : ∀ k, st.nx ≤ k → inF fl k = false) (x : V) (n : Nat) (l : List V) (hx : RdRow st x 1 n l) (hn : n ≤ 1000000) (hfx : ∀ m, rowAt x m → inF fl m = false) (nt : Nat) :
    Gd (callL Try.prog ⟨false, fl, 0, nt⟩ 13 [x] st) fun r => RdRow r.2 r.1 1 n l ∧ (0 < n → OwnRow st.nx r.2 r.1 1 n l) ∧ RowFrom st.nx r.1 ∧ Ext st.nx st r.2 := by
  rw [Gd_callL Try.func13 rfl]
  by_cases hnil : isNil x = true
  · obtain ⟨rfl, rfl⟩ := isNil_len hx hnil
    simp [sets, T.get_set, eql_nil un28 hx, hnil]
    exact ⟨hx, ⟨fun _ _ _ _ e => (by cases e), fun _ _ _ _ e => by cases e⟩, Ext.refl _ _⟩
  · simp [sets, T.get_set, eql_nil un28 hx, hnil]
    rw [evOp_build0 (fun k => el28 k) (fun k => ze39 k) rfl]
    simp [T.get_set]
    have he : Ext st.nx st ⟨st.nx + 1, st.h.set st.nx (.cs 39 0 .lf)⟩ := (Ext.refl _ _).new (Nat.le_refl _) _
    have hx' := hx.ext he
    refine app0_fl un28 un28 io39 (by decide) (hfn _ (Nat.le_refl _)) (T.get_set_same _ _ _) hx.notS (fun k => hx.len k) (fun k => first_fl hx' hfx k) hx.1 (by omega) (fun h0 => ?_) fun h1 => ?_
    · subst h0
      simp [T.get_set]
      have hl : l = [] := List.length_eq_zero_iff.1 (by have := hx.1; omega)
      subst hl
      exact ⟨⟨rfl, .inr (.inl ⟨st.nx, 0, 0, 39, 0, .lf, rfl, Nat.lt_succ_self _, T.get_set_same _ _ _, Nat.le_refl _, fun j v h => by simp at h⟩)⟩, ⟨fun _ _ _ _ e => (by cases e), fun _ _ _ _ e => (by cases e; exact Nat.le_refl _)⟩, he⟩
    · simp [T.get_set]
      have h2 := he.new (Nat.le_succ _) (.cs 39 l.length (sets l 0 .lf))
      have ho : OwnRow st.nx ⟨st.nx + 1 + 1, (st.h.set st.nx (.cs 39 0 .lf)).set (st.nx + 1) (.cs 39 l.length (sets l 0 .lf))⟩ (.sg (st.nx + 1) 0 n 1) 1 n l := by
        refine ⟨hx.1, .inr ⟨st.nx + 1, 39, sets l 0 .lf, rfl, Nat.le_succ _, Nat.lt_succ_self _, ?_, by decide, fun j v hj => ?_⟩⟩
        · rw [← hx.1]; exact T.get_set_same _ _ _
        · have hjl : j < l.length := lt_of_get hj
          rw [get_sets, if_pos ⟨Nat.zero_le _, by omega⟩]
          simpa using hj
      exact ⟨ho.rd, fun _ => ho, ⟨fun _ _ _ _ e => (by cases e; omega), fun _ _ _ _ e => by cases e⟩, h2⟩
theorem rowAt_none {x : V} {z n m : Nat} {st : St} {l : List V} (h : RdRow st x z n l) (k : rowAt x m) : m < st.nx := by
  rcases k with ⟨_, _, _, e⟩ | ⟨_, _, _, e⟩
  · exact h.lt_of.2 _ _ _ _ e
  · exact h.lt_of.1 _ _ _ _ e
set_option maxRecDepth 20000 in
set_option maxHeartbeats 2000000 in
theorem copied_fl (st : St) (fl : List (Nat × Nat)) (hfn : ∀ k, st.nx ≤ k → inF fl k = false) (x : V) (n : Nat) (l : List V) (hx : RdRow st x 1 n l) (hn : n ≤ 1000000) (hfx : ∀ m, rowAt x m → inF fl m = false) (nt : Nat) :
    Gd (callL Try.prog ⟨false, fl, 0, nt⟩ 61 [.g [x]] st) fun r => ∃ y, r.1 = .g [y] ∧ RdRow r.2 y 1 n l ∧ RowFrom st.nx y ∧ Ext st.nx st r.2 := by
  rw [Gd_callL Try.func61 rfl]
  have hone := hx.one
  have f0 := hfn st.nx (Nat.le_refl _)
  have f1 := hfn (st.nx + 1) (Nat.le_succ _)
  have he : Ext st.nx st ⟨st.nx + 1, st.h.set st.nx (.cs 49 1 (sets [x] 0 .lf))⟩ := (Ext.refl _ _).new (Nat.le_refl _) _
  have he2 := he.new (Nat.le_succ _) (.cs 49 1 (sets [.c (.slice none 0 0)] 0 .lf))
  have hx2 := hx.ext he2
  simp [evOp_call, sets, T.get_set, cellsOf, newC_is, loadE_eq, getC_eq, getsB_1, f0, f1]
  refine Gd.mono (clone_fp _ fl (fun k hk => hfn k (by have : st.nx + 1 + 1 ≤ k := hk; omega)) x _ _ hx2 hn hfx _) ?_
  rintro ⟨y, s1⟩ ⟨hy, hyo, hyf, e1⟩
  simp only at hy hyo hyf e1
  have b1 : st.nx + 2 ≤ s1.nx := e1.le
  have hyone := hy.one
  have hg1 : s1.h.get (st.nx + 1) = some (.cs 49 1 (sets [.c (.slice none 0 0)] 0 .lf)) := by
    rw [e1.keep (st.nx + 1) (by show st.nx + 1 < st.nx + 1 + 1; omega)]; exact T.get_set_same _ _ _
  simp [evOp_call, sets, T.get_set, cellsOf, newC_is, loadE_eq, getC_eq, getsB_1, storeK_g, putB_eq, roT, hg1, hyone, f0, f1]
  refine ⟨?_, hyf.mono (by show st.nx ≤ st.nx + 1 + 1; omega), ?_⟩
  · exact hy.setOther (k := st.nx + 1) (fun o l z e => by have := hyf.1 _ _ _ _ e; have h2 : st.nx + 1 + 1 ≤ st.nx + 1 := this; omega) (fun o l q e => by have := hyf.2 _ _ _ _ e; have h2 : st.nx + 1 + 1 ≤ st.nx + 1 := this; omega) _
  · exact (he2.trans (e1.mono (by show st.nx ≤ st.nx + 1 + 1; omega))).set (by omega) (by omega) _
theorem bld_pool (x y : Operand) (a b c d z : V) (zs : List V) (hzs : zs.length = 5) (st : St) : bldK Try.prog 112 [(0, x), (1, y)] [.g [a, b, c, d], .g [z]] zs st = some (.g [a, b, c, d, z], st) := by
  rw [bldK_ok so112, partsK_cells rfl (fun k => rfl) rfl (by simp [hzs]), partsK_cells rfl (fun k => rfl) rfl (by simp [hzs])]
  match zs, hzs with
  | [z0, z1, z2, z3, z4], _ => rfl
/-- a pool -/
def PoolAt (s : St) (q : Nat) (g : Gm) (z : V) (m : Nat) (L : List (BitVec 64)) : Prop := q < s.nx ∧ (∃ t, s.h.get q = some (.cs 112 5 t) ∧ t.get 0 = some (.int .i64 g.b) ∧ t.get 1 = some (.int .i64 g.n) ∧ t.get 2 = some (.int .i64 g.c) ∧ t.get 3 = some (.int .i64 g.k) ∧ t.get 4 = some z) ∧ RdRow s z 1 m (wv L)
theorem PoolAt.ext {s s' : St} {q m : Nat} {g : Gm} {z : V} {L : List (BitVec 64)} (h : PoolAt s q g z m L) (k : Ext s.nx s s') : PoolAt s' q g z m L := by
  obtain ⟨h1, ⟨t, h2, h3⟩, h4⟩ := h
  exact ⟨Nat.lt_of_lt_of_le h1 k.le, ⟨t, (k.keep _ h1).trans h2, h3⟩, h4.ext k⟩
set_option maxRecDepth 20000 in
set_option maxHeartbeats 4000000 in
theorem pnew_any (st : St) (g : Gm) (hg : isGood g) (x : V) (L : List (BitVec 64)) (hx : RdRow st x 1 ((g.b.toNat + 63) / 64) (wv L)) (nt : Nat) :
    Gd (callL Try.prog ⟨false, [], 0, nt⟩ 51 [gV g, .g [x]] st) fun r => ∃ q z, r.1 = .t [.p q 0, .int .i64 0] ∧ PoolAt r.2 q g z ((g.b.toNat + 63) / 64) L ∧ st.nx ≤ q ∧ RowFrom st.nx z ∧ Ext st.nx st r.2 := by
  rw [Gd_callL Try.func51 rfl]
  have e0 := box_ext st g
  have hs4 := hg.1
  obtain ⟨h1, h2, h3, h4, h5, h6, h7, h8⟩ := hs4
  have hone := hx.one
  obtain ⟨n, hn⟩ : ∃ n : Nat, g.b = (n : Int) := ⟨g.b.toNat, by omega⟩
  have hnt : g.b.toNat = n := by omega
  rw [hnt] at hx
  have q1 : ¬ st.nx + 1 = st.nx := by omega
  have e1 := e0.new (Nat.le_succ _) (.cs 49 1 (sets [x] 0 .lf))
  simp [gV, evOp_call, sets, T.get_set, cellsOf, newC_is, loadE_eq, getC_eq, getsB_succ, getsB_zero, q1]
  refine Gd.mono (good_any _ [] (fun _ _ => rfl) 0 (Nat.zero_le _) g _) ?_
  rintro ⟨r, s1⟩ ⟨hr, x1⟩
  simp only at hr x1
  subst hr
  have b1 : st.nx + 2 ≤ s1.nx := x1.le
  have k0 : s1.h.get st.nx = some (.cs 45 4 ((((T.lf.set 0 (.int .i64 g.b)).set 1 (.int .i64 g.n)).set 2 (.int .i64 g.c)).set 3 (.int .i64 g.k))) := by
    rw [x1.keep st.nx (by show st.nx < st.nx + 1 + 1; omega)]
    exact (T.get_set_ne (n := st.nx + 1) (m := st.nx) _ _ (by omega)).trans (T.get_set_same _ _ _)
  have k1 : s1.h.get (st.nx + 1) = some (.cs 49 1 (sets [x] 0 .lf)) := by
    rw [x1.keep (st.nx + 1) (by show st.nx + 1 < st.nx + 1 + 1; omega)]; exact T.get_set_same _ _ _
  have ex1 : Ext st.nx st s1 := e1.trans (x1.mono (by show st.nx ≤ st.nx + 1 + 1; omega))
  have hx1 := hx.ext ex1
  have w1 : IntKind.i64.wrap ((n : Int) + 64) = (n : Int) + 64 := wrap_in (by omega) (by omega)
  have w2 : IntKind.i64.wrap ((n : Int) + 64 - 1) = (n : Int) + 64 - 1 := wrap_in (by omega) (by omega)
  have w3 : ((n : Int) + 64 - 1).tdiv 64 = (((n + 63) / 64 : Nat) : Int) := by rw [Int.tdiv_eq_ediv_of_nonneg (by omega)]; omega
  have w5 : IntKind.i64.wrap (((n : Int) + 63) / 64) = ((n : Int) + 63) / 64 := wrap_in (by omega) (by omega)
  simp [hg, evOp_call, sets, T.get_set, tupK, cellsOf, newC_is, loadE_eq, getC_eq, getsB_1, k0, k1, hn, hx1.lenS, w1, w2, w3, w5]
  refine ⟨by kernel_rfl, ?_⟩
  simp [hg, evOp_call, sets, T.get_set, tupK, cellsOf, newC_is, loadE_eq, getC_eq, getsB_succ, getsB_zero, k0, k1]
  rw [cxOf_callL [(st.nx, st.nx + 1)] (by kernel_rfl) (by kernel_rfl) (looseW_at 2 (.p st.nx 0) (by simp [T.get_set]) (by kernel_rfl)) (fun x hx => by simp at hx; subst hx; simp [clashes_tmp, T.get_set, blkOf]) (fun p hp => by simp at hp; subst hp; rw [isRo_cs k0]; decide)]
  have hfl : ∀ k, k ≠ st.nx → inF ([(st.nx, st.nx + 1)] ++ []) k = false := fun k hk => by simp only [List.append_nil]; rw [inF_cons, if_neg (by omega)]; rfl
  simp only [forb_nil]
  refine Gd.mono (copied_fl s1 _ (fun k hk => hfl k (by omega)) x _ _ hx1 (by omega) (fun m h => hfl m (by have := rowAt_none hx h; omega)) _) ?_
  rintro ⟨r, s2⟩ ⟨z, hr, hz, hzf, x2⟩
  simp only at hr hz hzf x2
  subst hr
  have hzone := hz.one
  have b2 := x2.le
  simp [hg, evOp_call, sets, T.get_set, tupK, cellsOf, newC_is, loadE_eq, getC_eq, getsB_succ, getsB_zero, k0, k1, hzone]
  rw [bld_pool _ _ _ _ _ _ _ _ rfl]
  simp [hg, evOp_call, sets, T.get_set, tupK, cellsOf, newC_is, hzone]
  have ex3 : Ext s2.nx s2 ⟨s2.nx + 1, s2.h.set s2.nx (.cs 112 5 (((((T.lf.set 0 (.int .i64 (n : Int))).set 1 (.int .i64 g.n)).set 2 (.int .i64 g.c)).set 3 (.int .i64 g.k)).set 4 z))⟩ := (Ext.refl _ _).new (Nat.le_refl _) _
  have ex2 : Ext st.nx st s2 := ex1.trans (x2.mono (by omega))
  exact ⟨z, ⟨Nat.lt_succ_self _, ⟨_, T.get_set_same _ _ _, by simp [T.get_set, hn], by simp [T.get_set], by simp [T.get_set], by simp [T.get_set], by simp [T.get_set]⟩, hz.ext ex3⟩, by omega, hzf.mono (by omega), ex2.trans (ex3.mono (by omega))⟩
end Go.Proofs.Ytcjddojcfdeflaa
set_option linter.unusedSimpArgs false
namespace Go.Proofs.Ytcjddojcfdeflaa
open Go.RowKit Ev
/-- a client's group -/
def grpN (g : Gm) (c : Int) : Int := if c = g.c - 1 then dN g - c * (dN g / g.c) else dN g / g.c
def grpV (g : Gm) (c : Int) : V := if 0 ≤ c ∧ c < g.c then .t [.int .i64 (dF g + c * (dN g / g.c)), .int .i64 (grpN g c)] else .t [.int .i64 0, .int .i64 0]
theorem quo_pos {st : St} {P : Program} {t : TypeId} {x y : Operand} (a b : Int) (h : 0 < b) (ha : 0 ≤ a) (hb : a ≤ 9223372036854775807) : binE P st .quo t x y (.int .i64 a) (.int .i64 b) = some (.int .i64 (a / b), st) := by
  have e : binE P st .quo t x y (.int .i64 a) (.int .i64 b) = if b = 0 then none else some (.int .i64 (IntKind.i64.wrap (a.tdiv b)), st) := bin_quo
  have h1 : a.tdiv b = a / b := Int.tdiv_eq_ediv_of_nonneg ha
  have h2 : a / b ≤ a := Int.ediv_le_self _ ha
  have h3 : 0 ≤ a / b := Int.ediv_nonneg ha (by omega)
  rw [e, if_neg (by omega), h1, wrap_in (by omega) (by omega)]
theorem grp_bd {g : Gm} (hg : isGood g) {c : Int} (h0 : 0 ≤ c) (h1 : c < g.c) : 0 ≤ dN g / g.c ∧ dN g / g.c ≤ dN g ∧ 0 ≤ c * (dN g / g.c) ∧ c * (dN g / g.c) ≤ dN g ∧ dF g + dN g ≤ 1024 ∧ 0 ≤ dF g ∧ 0 ≤ dN g := by
  obtain ⟨h2, h3⟩ := hg
  have hck := ck_le h2
  obtain ⟨k1, k2, k3, k4, k5, k6, k7, k8⟩ := h2
  have hF : 0 ≤ dF g := by unfold dF nF bN; omega
  have hN : dF g + dN g = g.b - 1 := by unfold dN; omega
  have a1 : 0 ≤ dN g / g.c := Int.ediv_nonneg (by omega) (by omega)
  have a2 : dN g / g.c ≤ dN g := Int.ediv_le_self _ (by omega)
  have a3 : g.c * (dN g / g.c) ≤ dN g := Int.mul_ediv_self_le (by omega)
  have a4 : c * (dN g / g.c) ≤ g.c * (dN g / g.c) := Int.mul_le_mul_of_nonneg_right (by omega) a1
  exact ⟨a1, a2, Int.mul_nonneg h0 a1, by omega, by omega, hF, by omega⟩
set_option maxRecDepth 20000 in
set_option maxHeartbeats 4000000 in
theorem group_any (st : St) (q m : Nat) (g : Gm) (z : V) (L : List (BitVec 64)) (hg : isGood g) (hp : PoolAt st q g z m L) (c : Int) (nt : Nat) :
    Gd (callL Try.prog ⟨false, [], 0, nt⟩ 68 [.p q 0, .int .i64 c] st) fun r => r.1 = grpV g c ∧ Ext st.nx st r.2 := by
  rw [Gd_callL Try.func68 rfl]
  obtain ⟨hq, ⟨t, ht, t0, t1, t2, t3, t4⟩, hr⟩ := hp
  by_cases c1 : c < 0
  · have hv : grpV g c = .t [.int .i64 0, .int .i64 0] := by unfold grpV; rw [if_neg (by omega)]
    simp [evOp_call, sets, T.get_set, loadE_eq, getC_eq, c1, hv]
    exact Ext.refl _ _
  by_cases c2 : g.c ≤ c
  · have hv : grpV g c = .t [.int .i64 0, .int .i64 0] := by unfold grpV; rw [if_neg (by omega)]
    simp [evOp_call, sets, T.get_set, loadE_eq, getC_eq, c1, c2, hv, ht, t0, t1, t2, t3, t4]
    exact Ext.refl _ _
  have hv : grpV g c = .t [.int .i64 (dF g + c * (dN g / g.c)), .int .i64 (grpN g c)] := by unfold grpV; rw [if_pos (by omega)]
  obtain ⟨b1, b2, b3, b4, b5, b6, b7⟩ := grp_bd hg (c := c) (by omega) (by omega)
  simp [evOp_call, sets, T.get_set, loadE_eq, getC_eq, c1, c2, hv, ht, t0, t1, t2, t3, t4, getsB_succ, getsB_zero]
  refine Gd.mono (gdata_any st [] (fun _ _ => rfl) 0 (Nat.zero_le _) g _) ?_
  rintro ⟨r, s1⟩ ⟨hr1, x1⟩
  simp only at hr1 x1
  subst hr1
  have ht1 := (x1.keep _ hq).trans ht
  have hs4 := hg.1
  have w1 : IntKind.i64.wrap (c * (dN g / g.c)) = c * (dN g / g.c) := wrap_in (by omega) (by omega)
  have w2 : IntKind.i64.wrap (dF g + c * (dN g / g.c)) = dF g + c * (dN g / g.c) := wrap_in (by omega) (by omega)
  have w3 : IntKind.i64.wrap (g.c - 1) = g.c - 1 := wrap_in (by have := hs4.2.2.2.2.1; omega) (by have := hs4.2.2.2.2.2.1; omega)
  have w4 : IntKind.i64.wrap (dN g - c * (dN g / g.c)) = dN g - c * (dN g / g.c) := wrap_in (by omega) (by omega)
  simp [at2, hg, tupK, evOp_call, sets, T.get_set, loadE_eq, getC_eq, ht1, t0, t1, t2, t3, t4, w1, w2, w3, w4, quo_pos (dN g) g.c (by have := hs4.2.2.2.2.1; omega) b7 (by omega)]
  by_cases c3 : c = g.c - 1
  · have hn : grpN g c = dN g - c * (dN g / g.c) := by unfold grpN; rw [if_pos c3]
    rw [hn]
    simp [c3, evOp_call, sets, T.get_set]
    rw [← c3]
    simp [w1, w4, evOp_call, sets, T.get_set]
    exact x1
  · have hn : grpN g c = dN g / g.c := by unfold grpN; rw [if_neg c3]
    rw [hn]
    simp [c3, evOp_call, sets, T.get_set]
    exact x1
end Go.Proofs.Ytcjddojcfdeflaa
set_option linter.unusedSimpArgs false
namespace Go.Proofs.Ytcjddojcfdeflaa
open Go.RowKit Ev
theorem Ev.RdRow.idxP {P : Program} {st : St} {t el z n : Nat} {x : V} {l : List V} (hu : P.underlying t = some (.slice el)) (hi : infoOk P el z = true) (h : RdRow st x z n l) {i : Nat} (hlt : i < n) :
    ∃ m o ty sz tr, (∀ k : V → Res, idxE P t x i k = k (.p m o)) ∧ m < st.nx ∧ st.h.get m = some (.cs ty sz tr) ∧ o + z ≤ sz ∧ (∀ j v, j < z → l[i * z + j]? = some v → tr.get (o + j) = some v) ∧ rowAt x m := by
  have hz := infoOk_pos hi
  have hle : i * z + z ≤ n * z := by rw [← Nat.succ_mul]; exact Nat.mul_le_mul_right z hlt
  obtain ⟨h1, h2⟩ := h
  rcases h2 with ⟨_, rfl⟩ | ⟨m, o, q, ty, sz, tr, rfl, h3, h4, h5, h6⟩ | ⟨m, o, ty, sz, tr, rfl, h3, h4, h5, h6⟩
  · omega
  · refine ⟨m, o + i * z, ty, sz, tr, fun k => ?_, h3, h4, by omega, fun j v hj hv => ?_, .inl ⟨_, _, _, rfl⟩⟩
    · rw [idxE_sl hu (fun k => infoOk_sz hi k), if_pos hlt]
    · rw [Nat.add_assoc]; exact h6 _ _ hv
  · refine ⟨m, o + i * z, ty, sz, tr, fun k => ?_, h3, h4, by omega, fun j v hj hv => ?_, .inr ⟨_, _, _, rfl⟩⟩
    · rw [idxE_sg hu (fun k => infoOk_sz hi k), if_pos hlt]
    · rw [Nat.add_assoc]; exact h6 _ _ hv
theorem bthere_fl (st : St) (fl : List (Nat × Nat)) (f0 : inF fl st.nx = false) (x : V) (L : List (BitVec 64)) (hx : RdRow st x 1 L.length (wv L)) (i : Int) (hi : -9223372036854775808 ≤ i ∧ i ≤ 9223372036854775807) (nt : Nat) :
    Gd (callL Try.prog ⟨false, fl, 0, nt⟩ 47 [.g [x], .int .i64 i] st) fun r => r.1 = .bool (decide (0 ≤ i ∧ i < L.length * 64)) ∧ Ext st.nx st r.2 := by
  have hone := hx.one
  rw [Gd_callL Try.func47 rfl]
  have he : Ext st.nx st ⟨st.nx + 1, st.h.set st.nx (.cs 49 1 (sets [x] 0 .lf))⟩ := (Ext.refl _ _).new (Nat.le_refl _) _
  by_cases h1 : 0 ≤ i
  · obtain ⟨n, rfl⟩ := Int.eq_ofNat_of_zero_le h1
    have hw : IntKind.i64.wrap ((n : Int) / 64) = (n : Int) / 64 := wrap_in (by omega) (by omega)
    simp [sets, T.get_set, cellsOf, newC_is, f0, loadE_eq, getC_eq, hx.lenS, quo64, hw]
    exact ⟨by omega, he⟩
  · simp [sets, T.get_set, cellsOf, newC_is, f0, h1]
    exact he
set_option maxHeartbeats 2000000 in
theorem set_fl (st : St) (fl : List (Nat × Nat)) (hfn : ∀ k, st.nx ≤ k → inF fl k = false) (x v : V) (L : List (BitVec 64)) (hx : RdRow st x 1 L.length (wv L)) (hL : L.length ≤ 100000) (yes : Bool) (l : List Int) (hv : RdRow st v 1 l.length (iv l)) (hl : l.length ≤ 100000) (hw : ∀ i ∈ l, -9223372036854775808 ≤ i ∧ i ≤ 9223372036854775807) (hfx : ∀ m, rowAt x m → inF fl m = false) (hfv : ∀ m, rowAt v m → inF fl m = false) (nt : Nat) :
    Gd (callL Try.prog ⟨false, fl, 0, nt⟩ 19 [.g [x], .bool yes, v] st) fun r => ∃ y, r.1 = .g [y] ∧ RdRow r.2 y 1 L.length (wv (setB L yes l)) ∧ RowFrom st.nx y ∧ Ext st.nx st r.2 := by
  rw [Gd_callL Try.func19 rfl]
  have f0 := hfn st.nx (Nat.le_refl _)
  have f1 := hfn (st.nx + 1) (Nat.le_succ _)
  have he : Ext st.nx st ⟨st.nx + 1, st.h.set st.nx (.cs 49 1 (sets [x] 0 .lf))⟩ := (Ext.refl _ _).new (Nat.le_refl _) _
  have he2 := he.new (Nat.le_succ _) (.cs 49 1 (sets [.c (.slice none 0 0)] 0 .lf))
  have hx2 := hx.ext he2
  simp [f0, f1, evOp_call, sets, T.get_set, cellsOf, newC_is, loadE_eq, getC_eq, getsB_1]
  refine Gd.mono (clone_fp _ fl (fun k hk => hfn k (by have : st.nx + 1 + 1 ≤ k := hk; omega)) x _ _ hx2 (by omega) hfx _) ?_
  rintro ⟨y, s1⟩ ⟨hy, hyo, hyf, e1⟩
  simp only at hy hyo hyf e1
  have b1 : st.nx + 2 ≤ s1.nx := e1.le
  have hone := hy.one
  have f7 := hfn s1.nx (by omega)
  have hne : ¬ s1.nx = st.nx := by omega
  have hne2 : ¬ s1.nx = st.nx + 1 := by omega
  have hg0 : s1.h.get st.nx = some (.cs 49 1 (sets [x] 0 .lf)) := by
    rw [e1.keep st.nx (by omega)]
    exact (T.get_set_ne (n := st.nx + 1) (m := st.nx) _ _ (by omega)).trans (T.get_set_same _ _ _)
  have hg1 : s1.h.get (st.nx + 1) = some (.cs 49 1 (sets [.c (.slice none 0 0)] 0 .lf)) := by
    rw [e1.keep (st.nx + 1) (by omega)]; exact T.get_set_same _ _ _
  have he1 : Ext st.nx st s1 := he2.trans (e1.mono (by omega))
  have hv1 := hv.ext he1
  simp [f0, f1, f7, evOp_call, sets, T.get_set, cellsOf, newC_is, loadE_eq, getC_eq, getsB_1, hone, storeK_g, putB_eq, roT, hv1.lenS]
  have he3 : Ext s1.nx s1 ⟨s1.nx + 1, s1.h.set s1.nx (.cs 49 1 (T.lf.set 0 y))⟩ := (Ext.refl s1.nx s1).new (Nat.le_refl _) _
  have hy3 := hy.ext he3
  refine Gd_loop (setI st st.nx s1.nx x y v L yes l) (fun en _ => muAt 16 l.length en) ?_ ?_
  · refine ⟨0, Nat.zero_le _, by simp [T.get_set], by simp [T.get_set], by simp [T.get_set], by simp [T.get_set], by simp [T.get_set], by simp [T.get_set], by simp [T.get_set], hy3, fun h => (hyo h).ext he3, hyf, fun o ln z e => ?_, fun o ln z e => ?_, b1, Nat.lt_succ_self _, ?_, ?_, ⟨_, T.get_set_same _ _ _, by simp [T.get_set]⟩, he1.trans (he3.mono (by omega))⟩
    · have := hy.lt_of.1 _ _ _ _ e; omega
    · have := hy.lt_of.2 _ _ _ _ e; omega
    · rw [he3.keep _ (by omega)]; exact hg0
    · rw [he3.keep _ (by omega)]; exact hg1
  · clear he3 hy3 hg0 hg1
    rintro en s ⟨k, hk, g1, g3, g6, g7, g14, g15, g16, hry, hoy, hyf, hap, hapl, hq7, hq7n, hgq, hgq1, ⟨t7, hg7, ht7⟩, hs⟩
    by_cases hlt : k < l.length
    · have hlt' : (k : Int) < l.length := by omega
      have hwk := wrap_nat (n := k) (by omega)
      have hvs := hv.ext hs
      obtain ⟨m, o, ty, sz, tr, hid, hm, hg, ho, hc, hra⟩ := hvs.idxP (st := s) un63 io3 hlt
      have fm := hfv m hra
      obtain ⟨i, hil⟩ : ∃ w, l[k]? = some w := ⟨_, List.getElem?_eq_getElem hlt⟩
      have hib := hw i (List.mem_of_getElem? hil)
      have t0 : tr.get o = some (.int .i64 i) := hc 0 _ (by omega) (by simpa using iv_get hil)
      have hlen := setB_length yes (l.take k) L
      simp [f0, f1, f7, evOp_call, T.get_set, g1, g3, g6, g7, g14, g15, g16, hlt', fm, hid, loadE_eq, getC_eq, hg, t0, hgq, getsB_1, sets]
      refine Gd.mono (bthere_fl s fl (hfn _ hs.le) x L (hx.ext hs) i hib _) ?_
      rintro ⟨r, s2⟩ ⟨hr, e2⟩
      simp only at hr e2
      subst hr
      have b2 := e2.le
      have hs2 := hs.trans (e2.mono hs.le)
      have hgq' : s2.h.get st.nx = some (.cs 49 1 (sets [x] 0 .lf)) := by rw [e2.keep _ (by omega)]; exact hgq
      have hgq1' : s2.h.get (st.nx + 1) = some (.cs 49 1 (sets [.c (.slice none 0 0)] 0 .lf)) := by rw [e2.keep _ (by omega)]; exact hgq1
      have hg7' : s2.h.get s1.nx = some (.cs 49 1 t7) := by rw [e2.keep _ hq7n]; exact hg7
      have hry2 := hry.ext e2
      by_cases hin : 0 ≤ i ∧ i < L.length * 64
      · have hone2 : setOne yes (setB L yes (l.take k)) i = (setB L yes (l.take k)).set (i.toNat / 64) (if yes then (setB L yes (l.take k))[i.toNat / 64]?.getD 0#64 ||| 1#64 <<< (i.toNat % 64) else (setB L yes (l.take k))[i.toNat / 64]?.getD 0#64 &&& ~~~(1#64 <<< (i.toNat % 64))) := by
          unfold setOne; rw [if_pos ⟨hin.1, by rw [hlen]; exact hin.2⟩]
        obtain ⟨n, rfl⟩ := Int.eq_ofNat_of_zero_le hin.1
        have hnl : n / 64 < L.length := by omega
        obtain ⟨m2, ty2, tr2, rfl, hb2, hm2, hg2, hro2, hc2, hput⟩ := OwnRow.put ((hoy (by omega)).ext e2) (i := n / 64) (by omega)
        obtain ⟨w, hwl⟩ : ∃ w, (setB L yes (l.take k))[n / 64]? = some w := ⟨_, List.getElem?_eq_getElem (by rw [hlen]; exact hnl)⟩
        have u0 : tr2.get (n / 64) = some (wd w) := hc2 _ _ (wv_get hwl)
        have hwd : IntKind.i64.wrap ((n : Int) / 64) = (n : Int) / 64 := wrap_in (by omega) (by omega)
        have hn0 : (0 : Int) ≤ (n : Int) % 64 := by omega
        have hnt : ((n : Int) % 64).toNat = n % 64 := by omega
        have hnl1 : n / 64 + 1 ≤ L.length := hnl
        have f2 := hfn m2 (by omega)
        have o7 : ∀ nx, inF ((0, s1.nx) :: (s1.nx + 1, nx) :: fl) s1.nx = false := fun nx => inF_ownF f7
        have o2 : ∀ nx, inF ((0, m2) :: (m2 + 1, nx) :: fl) m2 = false := fun nx => inF_ownF f2
        have hm7 : ¬ m2 = s1.nx := fun e => hap 0 _ _ (by rw [e])
        have hd1 : decide (0 ≤ (n : Int) ∧ (n : Int) < L.length * 64) = true := by simpa using hin
        simp only [hd1]
        cases yes with
        | true =>
          simp [f0, f1, f7, evOp_call, T.get_set, g1, g3, g6, g7, g14, g15, g16, loadE_eq, getC_eq, hg7', ht7, quo64, rem64, hwd, asNat_div, f2, o7, o2, hnl, hg2, u0, hn0, hnt, sets]
          refine ⟨by kernel_rfl, ?_⟩
          rw [cxOf_store]
          rotate_left
          · kernel_rfl
          simp [f0, f1, f7, f2, o7, o2, T.get_set, asNat_div, hnl, hg2, u0, hn0, hnt, sets, putB_eq, roT, hro2, g16, hwk, hnl1]
          have hset : setB L true (l.take (k + 1)) = (setB L true (l.take k)).set (n / 64) (w ||| 1#64 <<< (n % 64)) := by
            rw [setB_take hil, hone2]; simp [hwl]
          have hp := hput (wd (w ||| 1#64 <<< (n % 64)))
          have hwv : wv ((setB L true (l.take k)).set (n / 64) (w ||| 1#64 <<< (n % 64))) = (wv (setB L true (l.take k))).set (n / 64) (wd (w ||| 1#64 <<< (n % 64))) := by unfold wv; rw [List.map_set]
          refine ⟨⟨k + 1, hlt, by simp [T.get_set, g1], by simp [T.get_set, g3], by simp [T.get_set, g6], by simp [T.get_set, g7], by simp [T.get_set, g14], by simp [T.get_set, g15], by simp [T.get_set], ?_, fun h => ?_, hyf, hap, hapl, hq7, by show s1.nx < s2.nx; omega, ?_, ?_, ⟨t7, ?_, ht7⟩, hs2.set (by omega) hm2 _⟩, muAt_lt g16 (by simp [T.get_set]) hlt⟩
          · rw [hset, hwv]; exact hp.rd
          · rw [hset, hwv]; exact hp
          · exact (T.get_set_ne _ _ (by omega)).trans hgq'
          · exact (T.get_set_ne _ _ (by omega)).trans hgq1'
          · exact (T.get_set_ne _ _ hm7).trans hg7'
        | false =>
          simp [f0, f1, f7, evOp_call, T.get_set, g1, g3, g6, g7, g14, g15, g16, loadE_eq, getC_eq, hg7', ht7, quo64, rem64, hwd, asNat_div, f2, o7, o2, hnl, hg2, u0, hn0, hnt, sets]
          refine ⟨by kernel_rfl, ?_⟩
          rw [cxOf_store]
          rotate_left
          · kernel_rfl
          simp [f0, f1, f7, f2, o7, o2, T.get_set, asNat_div, hnl, hg2, u0, hn0, hnt, sets, putB_eq, roT, hro2, g16, hwk, hnl1]
          have hset : setB L false (l.take (k + 1)) = (setB L false (l.take k)).set (n / 64) (w &&& ~~~(1#64 <<< (n % 64))) := by
            rw [setB_take hil, hone2]; simp [hwl]
          have hp := hput (wd (w &&& ~~~(1#64 <<< (n % 64))))
          have hwv : wv ((setB L false (l.take k)).set (n / 64) (w &&& ~~~(1#64 <<< (n % 64)))) = (wv (setB L false (l.take k))).set (n / 64) (wd (w &&& ~~~(1#64 <<< (n % 64)))) := by unfold wv; rw [List.map_set]
          refine ⟨⟨k + 1, hlt, by simp [T.get_set, g1], by simp [T.get_set, g3], by simp [T.get_set, g6], by simp [T.get_set, g7], by simp [T.get_set, g14], by simp [T.get_set, g15], by simp [T.get_set], ?_, fun h => ?_, hyf, hap, hapl, hq7, by show s1.nx < s2.nx; omega, ?_, ?_, ⟨t7, ?_, ht7⟩, hs2.set (by omega) hm2 _⟩, muAt_lt g16 (by simp [T.get_set]) hlt⟩
          · rw [hset, hwv]; exact hp.rd
          · rw [hset, hwv]; exact hp
          · exact (T.get_set_ne _ _ (by omega)).trans hgq'
          · exact (T.get_set_ne _ _ (by omega)).trans hgq1'
          · exact (T.get_set_ne _ _ hm7).trans hg7'
      · have hone2 : setOne yes (setB L yes (l.take k)) i = setB L yes (l.take k) := by
          unfold setOne; rw [if_neg (by rw [hlen]; exact hin)]
        have hd1 : decide (0 ≤ i ∧ i < (L.length : Int) * 64) = false := by simpa using hin
        simp only [hd1]
        simp [f0, f1, f7, evOp_call, T.get_set, g1, g3, g6, g7, g14, g15, g16, hwk]
        refine ⟨⟨k + 1, hlt, by simp [T.get_set, g1], by simp [T.get_set, g3], by simp [T.get_set, g6], by simp [T.get_set, g7], by simp [T.get_set, g14], by simp [T.get_set, g15], by simp [T.get_set], ?_, fun h => ?_, hyf, hap, hapl, hq7, by omega, hgq', hgq1', ⟨t7, hg7', ht7⟩, hs2⟩, muAt_lt g16 (by simp [T.get_set]) hlt⟩
        · rw [setB_take hil, hone2]; exact hry2
        · rw [setB_take hil, hone2]; exact (hoy h).ext e2
    · obtain rfl : k = l.length := by omega
      rw [List.take_length] at hry
      simp [f0, f1, f7, evOp_call, T.get_set, g1, g3, g6, g7, g14, g15, g16, loadE_eq, getC_eq, hg7, ht7, getsB_1, storeK_g, putB_eq, roT, hgq1, sets]
      exact ⟨hry.setOther (fun o ln z e => by have := hyf.1 _ _ _ _ e; omega) (fun o ln z e => by have := hyf.2 _ _ _ _ e; omega) _, hyf.mono (by omega), hs.set (by omega) (by omega) _⟩
set_option maxRecDepth 20000 in
set_option maxHeartbeats 4000000 in
theorem bnew_fl (st : St) (fl : List (Nat × Nat)) (hfn : ∀ k, st.nx ≤ k → inF fl k = false) (n : Nat) (hn : n ≤ 65536) (nt : Nat) :
    Gd (callL Try.prog ⟨false, fl, 0, nt⟩ 57 [.int .i64 (n : Int)] st) fun r => ∃ y, r.1 = .g [y] ∧ RdRow r.2 y 1 ((n + 63) / 64) (wv (List.replicate ((n + 63) / 64) 0#64)) ∧ RowFrom st.nx y ∧ Ext st.nx st r.2 := by
  rw [Gd_callL Try.func57 rfl]
  have c1 : ¬ (65536 : Int) < (n : Int) := by omega
  have c2 : (if (0 : Int) < (n : Int) then (n : Int) else 0) = (n : Int) := by split <;> omega
  have c3 : (if 0 < n then (n : Int) else 0) = (n : Int) := by split <;> omega
  have w1 : IntKind.i64.wrap ((n : Int) + 64) = (n : Int) + 64 := wrap_in (by omega) (by omega)
  have w2 : IntKind.i64.wrap ((n : Int) + 64 - 1) = (n : Int) + 64 - 1 := wrap_in (by omega) (by omega)
  have w3 : ((n : Int) + 64 - 1).tdiv 64 = (((n + 63) / 64 : Nat) : Int) := by rw [Int.tdiv_eq_ediv_of_nonneg (by omega)]; omega
  have w4 : IntKind.i64.wrap (((n + 63) / 64 : Nat) : Int) = (((n + 63) / 64 : Nat) : Int) := wrap_in (by omega) (by omega)
  have w5 : IntKind.i64.wrap (((n : Int) + 63) / 64) = ((n : Int) + 63) / 64 := wrap_in (by omega) (by omega)
  have he : Ext st.nx st ⟨st.nx + 1, st.h.set st.nx (.cs 49 1 (sets [.c (.slice none 0 0)] 0 .lf))⟩ := (Ext.refl _ _).new (Nat.le_refl _) _
  simp [evOp_call, sets, T.get_set, cellsOf, newC_is, loadE_eq, getC_eq, evOp_min, evOp_max, min_i64, max_i64, c1, c2, c3, w1, w2, w3, w4]
  refine Gd_make (n := (n + 63) / 64) (q := (n + 63) / 64) (i := .i64) (i' := .i64) (zs := [.int .u64 0]) (fun k => el28 k) io39 (fun k => ze39 k) (by simp [T.get_set, w1, w2, w3, w4, w5]) (by simp [T.get_set, w1, w2, w3, w4, w5]) (Nat.le_refl _) (by omega) ?_
  rw [rep_zero]
  have hb := builtR (st := ⟨st.nx + 1, st.h.set st.nx (.cs 49 1 (sets [.c (.slice none 0 0)] 0 .lf))⟩) (el := 39) (vs := wv (List.replicate ((n + 63) / 64) 0#64)) (n := (n + 63) / 64) (by decide) (by simp [wv])
  have f0 := hfn st.nx (Nat.le_refl _)
  have q1 : ¬ st.nx + 1 = st.nx := by omega
  simp [evOp_call, sets, T.get_set, cellsOf, newC_is, loadE_eq, getC_eq, f0, storeK_g, putB_eq, roT, q1, getsB_1]
  refine ⟨hb.setOther (k := st.nx) (fun o l z e => by cases e) (fun o l q e => by injection e with e; exact q1 e) _, ⟨fun _ _ _ _ e => (by cases e), fun _ _ _ _ e => (by injection e with e; omega)⟩, (he.new (Nat.le_succ _) _).set (Nat.le_refl _) (by show st.nx < st.nx + 1 + 1; omega) _⟩
end Go.Proofs.Ytcjddojcfdeflaa
set_option linter.unusedSimpArgs false
namespace Go.Proofs.Ytcjddojcfdeflaa
open Go.RowKit Ev
theorem namesOkL : Ev.namesOk Try.prog = true := by kernel_rfl
theorem mixesL : Try.prog.follows .mixedOrders = true := by kernel_rfl
end Go.Proofs.Ytcjddojcfdeflaa
set_option linter.unusedSimpArgs false
namespace Go.Proofs.Ytcjddojcfdeflaa
open Go.RowKit Ev
theorem rel_gV (ρ : Rho) (g : Gm) : Rel ρ (gV g) (.agg #[.int .i64 g.b, .int .i64 g.n, .int .i64 g.c, .int .i64 g.k]) := by
  unfold gV
  simp only [Rel]
  exact ⟨_, rfl, .cons (rel_int _ _) (.cons (rel_int _ _) (.cons (rel_int _ _) (.cons (rel_int _ _) .nil))), rfl⟩
/-- where a client's group begins -/
def endV (g : Gm) (c : Int) : Int := if c = g.c then dF g + dN g else dF g + c * (dN g / g.c)
theorem endV_step {g : Gm} {c : Int} (h0 : 0 ≤ c) (h1 : c < g.c) : endV g c = dF g + c * (dN g / g.c) ∧ endV g c + grpN g c = endV g (c + 1) ∧ dN g / g.c ≤ grpN g c ∧ (c + 1 < g.c → grpN g c = dN g / g.c) := by
  have e1 : endV g c = dF g + c * (dN g / g.c) := by unfold endV; rw [if_neg (by omega)]
  refine ⟨e1, ?_, ?_, ?_⟩
  · rw [e1]
    unfold endV grpN
    by_cases h : c = g.c - 1
    · rw [if_pos h, if_pos (show c + 1 = g.c by omega)]; omega
    · rw [if_neg h, if_neg (show ¬ c + 1 = g.c by omega), Int.add_mul, Int.one_mul]; omega
  · unfold grpN
    by_cases h : c = g.c - 1
    · rw [if_pos h]
      have a3 : g.c * (dN g / g.c) ≤ dN g := Int.mul_ediv_self_le (by omega)
      have e : g.c = c + 1 := by omega
      have : (c + 1) * (dN g / g.c) ≤ dN g := by rw [← e]; exact a3
      rw [Int.add_mul, Int.one_mul] at this
      omega
    · rw [if_neg h]; omega
  · intro h
    unfold grpN
    rw [if_neg (by omega)]
@[simp] theorem wantK_none (w : Bool) : wantK w (some .u) = false := rfl
@[simp] theorem pool_not_nil (st : St) (x y : Operand) (n : Nat) : binE Try.prog st .eql 98 x y (.p n 0) (.c (.pointer none)) = some (.bool false, st) := by kernel_rfl
def pgI (q0 q : Nat) (g : Gm) (z : V) (L : List (BitVec 64)) (cl : Int) (e : Env) (s : St) : Prop := ∃ c : Nat, (c : Int) ≤ g.c ∧ e.get 1 = some (.int .i64 cl) ∧ e.get 2 = some (.p q0 0) ∧ e.get 5 = some (.p q 0) ∧ e.get 7 = some (.int .i64 (dF g)) ∧ e.get 8 = some (.int .i64 (dN g)) ∧ e.get 9 = some (.int .i64 (endV g c)) ∧ e.get 10 = some (.int .i64 (c : Int)) ∧
  q0 < s.nx ∧ s.h.get q0 = some (.cs 45 4 ((((T.lf.set 0 (.int .i64 g.b)).set 1 (.int .i64 g.n)).set 2 (.int .i64 g.c)).set 3 (.int .i64 g.k))) ∧ PoolAt s q g z ((g.b.toNat + 63) / 64) L
end Go.Proofs.Ytcjddojcfdeflaa

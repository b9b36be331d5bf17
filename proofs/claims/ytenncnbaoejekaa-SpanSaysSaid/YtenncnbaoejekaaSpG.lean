/-
  The walk of SpanSays.
-/
import Derived.Test.YtenncnbaoejekaaSpH
set_option linter.unusedSimpArgs false
namespace Go.Proofs.Ytenncnbaoejekaa
open Go.RowKit Ev
set_option maxRecDepth 20000 in
theorem same5_any (st : St) (x y : V) (L K : List (BitVec 64)) (hx : RdRow st x 1 L.length (wv L)) (hy : RdRow st y 1 K.length (wv K)) (hL : L.length ≤ 1000000) (nt : Nat) :
    Gd (callL Try.prog ⟨false, [], 0, nt⟩ 50 [x, y] st) fun r => r = (.bool (decide (L = K)), st) := by
  rw [Gd_callL Try.func50 rfl]
  by_cases hl : L.length = K.length
  · have hl' : (L.length : Int) = K.length := by omega
    simp [evOp_call, sets, T.get_set, hx.lenS, hy.lenS, hl']
    refine Gd_loop (smI st x y L K) (fun e _ => muAt 5 L.length e) ?_ ?_
    · exact ⟨0, Nat.zero_le _, by simp [T.get_set], by simp [T.get_set], by simp [T.get_set], fun j hj => by omega, rfl⟩
    · rintro e s ⟨i, hi, g0, g1, g5, hj, rfl⟩
      by_cases hlt : i < L.length
      · have hlt' : (i : Int) < L.length := by omega
        have hwi := wrap_nat (n := i) (by omega)
        obtain ⟨m1, o1, ty1, sz1, t1, i1, b1, k1, l1, d1⟩ := hx.idx (st := s) un30 io31 hlt
        obtain ⟨m2, o2, ty2, sz2, t2, i2, b2, k2, l2, d2⟩ := hy.idx (st := s) un30 io31 (i := i) (by omega)
        obtain ⟨a, ha⟩ : ∃ a, L[i]? = some a := ⟨_, List.getElem?_eq_getElem hlt⟩
        obtain ⟨b, hb⟩ : ∃ b, K[i]? = some b := ⟨_, List.getElem?_eq_getElem (by omega)⟩
        have q1 : t1.get o1 = some (wd a) := d1 0 _ (by omega) (by simpa using wv_get ha)
        have q2 : t2.get o2 = some (wd b) := d2 0 _ (by omega) (by simpa using wv_get hb)
        simp [evOp_call, T.get_set, g0, g1, g5, hx.lenS, hlt']
        refine ⟨by kernel_rfl, ?_⟩
        by_cases hab : a = b
        · subst hab
          simp [evOp_call, T.get_set, g0, g1, g5, hx.lenS, hlt', i1, i2, loadE_eq, getC_eq, k1, k2, q1, q2, hwi]
          refine ⟨⟨i + 1, hlt, by simp [T.get_set, g0], by simp [T.get_set, g1], by simp [T.get_set], fun j hj2 => ?_, rfl⟩, muAt_lt g5 (by simp [T.get_set]) hlt⟩
          by_cases e : j = i
          · subst e; rw [ha, hb]
          · exact hj j (by omega)
        · have hne : ¬ L = K := fun e => by rw [e, hb] at ha; injection ha with ha; exact hab ha.symm
          simp [evOp_call, T.get_set, g0, g1, g5, hx.lenS, hlt', i1, i2, loadE_eq, getC_eq, k1, k2, q1, q2, hab, hne]
      · obtain rfl : i = L.length := by omega
        have heq : L = K := List.ext_getElem? fun j => by
          by_cases h : j < L.length
          · exact hj j h
          · rw [List.getElem?_eq_none (by omega), List.getElem?_eq_none (by omega)]
        simp [evOp_call, T.get_set, g0, g1, g5, hx.lenS, heq]
  · have hl' : ¬ (L.length : Int) = K.length := by omega
    have hne : ¬ L = K := fun e => hl (by rw [e])
    simp [evOp_call, sets, T.get_set, hx.lenS, hy.lenS, hl', hne]
theorem from_words {W : List (BitVec 64)} {n : Nat} (h : W.length = n * 8) : allN (fromA W n).L = W := by
  have ho := (fromA_ok W n).ls
  apply List.ext_getElem?
  intro p
  by_cases hp : p < 8 * n
  · obtain ⟨m, hm, _, hg⟩ := ho.get hp
    have hm' : ((List.range n).map (lineM W))[p / 8]? = some m := hm
    rw [List.getElem?_map, List.getElem?_range (by omega)] at hm'
    injection hm' with hm'
    rw [hg, ← hm']
    show (initS ((W.drop (p / 8 * 8)).take 8))[p % 8]? = _
    unfold initS
    rw [List.getElem?_map, List.getElem?_range (by omega)]
    show some (((W.drop (p / 8 * 8)).take 8)[p % 8]?.getD 0#64) = _
    rw [List.getElem?_take, if_pos (by omega), List.getElem?_drop, show p / 8 * 8 + p % 8 = p by omega, List.getElem?_eq_getElem (by omega)]
    rfl
  · rw [List.getElem?_eq_none (by rw [ho.nlen]; omega), List.getElem?_eq_none (by omega)]
/-- a memory, a span's box, a row of its own -/
structure SS (st s : St) (q : Nat) (v : MV) (bx : Nat) (tb : T V) (wx : V) (wl : List (BitVec 64)) : Prop where
  live : MLive st s q v
  box : s.h.get bx = some (.cs 60 3 tb)
  own : OwnRow st.nx s wx 1 wl.length (wv wl)
  ap : ∀ k, Nm wx k → ¬ MOw q v k ∧ k ≠ bx
  bn : ¬ MOw q v bx
  blt : bx < s.nx
  bge : st.nx ≤ bx
theorem SS.step {st s s' : St} {q bx : Nat} {v v' : MV} {tb : T V} {wx : V} {wl : List (BitVec 64)} (h : SS st s q v bx tb wx wl) (k : MStep q v v' s s') : SS st s' q v' bx tb wx wl := by
  have hlt : ∀ m, Nm wx m → m < s.nx := fun m hm => h.own.rd.nm_lt hm
  refine ⟨h.live.step k, (k.kept.keep bx h.blt h.bn).trans h.box, ?_, fun m hm => ⟨k.not_own (h.ap m hm).1 (hlt m hm), (h.ap m hm).2⟩, k.not_own h.bn h.blt, Nat.lt_of_lt_of_le h.blt k.kept.le, h.bge⟩
  obtain ⟨g1, g2⟩ := h.own
  refine ⟨g1, ?_⟩
  rcases g2 with g2 | ⟨m, ty, t, rfl, g3, g4, g5, g6⟩
  · exact .inl g2
  · exact .inr ⟨m, ty, t, rfl, g3, Nat.lt_of_lt_of_le g4 k.kept.le, (k.kept.keep m g4 (h.ap m (.inl ⟨_, _, _, rfl⟩)).1).trans g5, g6⟩
theorem SS.more {st s s' : St} {q bx : Nat} {v : MV} {tb : T V} {wx : V} {wl : List (BitVec 64)} (h : SS st s q v bx tb wx wl) (k : Ext s.nx s s') : SS st s' q v bx tb wx wl :=
  ⟨h.live.more k, (k.keep bx h.blt).trans h.box, h.own.ext k, h.ap, h.bn, Nat.lt_of_lt_of_le h.blt k.le, h.bge⟩
theorem SS.put {st s : St} {q bx : Nat} {v : MV} {tb : T V} {wx : V} {wl : List (BitVec 64)} (h : SS st s q v bx tb wx wl) {i : Nat} (hi : i < wl.length) :
    ∃ m ty t, wx = .sg m 0 wl.length 1 ∧ s.h.get m = some (.cs ty wl.length t) ∧ ty ≠ roT ∧ ∀ w, SS st ⟨s.nx, s.h.set m (.cs ty wl.length (t.set i (wd w)))⟩ q v bx tb wx (wl.set i w) := by
  obtain ⟨m, ty, t, rfl, h2, h3, h4, h5, h6, h7⟩ := h.own.put hi
  have hm := h.ap m (.inl ⟨_, _, _, rfl⟩)
  refine ⟨m, ty, t, rfl, h4, h5, fun w => ⟨h.live.poke hm.1 h2 h3 _, (T.get_set_ne _ _ hm.2).trans h.box, ?_, h.ap, h.bn, h.blt, h.bge⟩⟩
  have := h7 (wd w)
  rw [List.length_set]
  have e : wv (wl.set i w) = (wv wl).set i (wd w) := by unfold wv; rw [List.map_set]
  rw [e]; exact this
/-- the slots that stay -/
structure EC (x y wx : V) (f n a : Int) (w : BitVec 64) (q bx : Nat) (e : Env) : Prop where
  g0 : e.get 0 = some x
  g1 : e.get 1 = some (.int .i64 f)
  g2 : e.get 2 = some (.int .i64 n)
  g3 : e.get 3 = some (.int .i64 a)
  g4 : e.get 4 = some (wd w)
  g5 : e.get 5 = some y
  g13 : e.get 13 = some (.p q 0)
  g16 : e.get 16 = some (.p bx 0)
  g19 : e.get 19 = some wx
def J0 (st : St) (x y : V) (f n a : Int) (w : BitVec 64) (q : Nat) (v : MV) (bx : Nat) (tb : T V) (W : List (BitVec 64)) (r : X × Env × St) : Prop := ∃ (e : Env) (s : St) (wx : V), r = (.n, e, s) ∧ EC x y wx f n a w q bx e ∧ SS st s q v bx tb wx W
def JS (P : Env → St → Prop) (r : X × Env × St) : Prop := ∃ (e : Env) (s : St), r = (.n, e, s) ∧ P e s
def PB (st : St) (x y wx : V) (f n a : Int) (w : BitVec 64) (q bx : Nat) (tb : T V) (inb : Bool) (wl : List (BitVec 64)) (N i : Nat) (Wl : List (BitVec 64)) (e : Env) (s : St) : Prop := ∃ v1 : MV, EC x y wx f n a w q bx e ∧ SS st s q v1 bx tb wx wl ∧ e.get 20 = some (.bool inb) ∧ calm (absV v1) N i ∧ allN (absV v1).L = Wl
/-- a code in a slot -/
def CD (k : Nat) (b : Bool) (e : Env) : Prop := ∃ E : Int, e.get k = some (.int .i64 E) ∧ decide (E = 0) = b
def PG0 (st : St) (x y wx : V) (f n a : Int) (w : BitVec 64) (q : Nat) (v : MV) (bx : Nat) (tb : T V) (W : List (BitVec 64)) (inb : Bool) (e : Env) (s : St) : Prop := EC x y wx f n a w q bx e ∧ SS st s q v bx tb wx W ∧ e.get 20 = some (.bool inb)
def P1 (st : St) (x y wx : V) (f n a : Int) (w : BitVec 64) (q bx : Nat) (tb : T V) (inb : Bool) (wl : List (BitVec 64)) (N i : Nat) (Wl : List (BitVec 64)) (e : Env) (s : St) : Prop := PB st x y wx f n a w q bx tb inb wl N i Wl e s ∧ CD 21 inb e
def P2 (st : St) (x y wx : V) (f n a : Int) (w : BitVec 64) (q bx : Nat) (tb : T V) (inb : Bool) (wl : List (BitVec 64)) (N i : Nat) (Wl : List (BitVec 64)) (e : Env) (s : St) : Prop := PB st x y wx f n a w q bx tb inb wl N i Wl e s ∧ CD 23 inb e ∧ ∃ u, e.get 22 = some (wd u) ∧ (inb = true → u = w) ∧ (inb = false → u = 0#64)
def P3 (st : St) (x y wx : V) (f n a : Int) (w : BitVec 64) (q bx : Nat) (tb : T V) (inb fb : Bool) (wl : List (BitVec 64)) (N i : Nat) (Wl : List (BitVec 64)) (e : Env) (s : St) : Prop := PB st x y wx f n a w q bx tb inb wl N i Wl e s ∧ e.get 24 = some (.bool fb)
/-- behind the push -/
def PD (st : St) (x y wx : V) (f n a : Int) (w : BitVec 64) (q bx : Nat) (tb : T V) (fb : Bool) (l : List (BitVec 64)) (B : Nat) (wl : List (BitVec 64)) (N i : Nat) (Wl : List (BitVec 64)) (e : Env) (s : St) : Prop := ∃ v1 : MV, EC x y wx f n a w q bx e ∧ SS st s q v1 bx tb wx wl ∧ e.get 24 = some (.bool fb) ∧ CD 25 fb e ∧ calm (absV v1) N i ∧ allN (absV v1).L = Wl ∧ (fb = true → ∀ j, j < l.length → (allN (fallM [] (absV v1).L))[B + j]? = l[j]?)
/-- the loop that writes what is wanted -/
def wrI (st : St) (x y wx : V) (f n a : Int) (w : BitVec 64) (q : Nat) (v : MV) (bx : Nat) (tb : T V) (l : List (BitVec 64)) (B : Nat) (W1 : List (BitVec 64)) (E : Int) (e : Env) (s : St) : Prop := ∃ i : Nat, i ≤ l.length ∧ EC x y wx f n a w q bx e ∧ SS st s q v bx tb wx (setFrom W1 B l i) ∧ e.get 24 = some (.bool true) ∧ e.get 25 = some (.int .i64 E) ∧ e.get 26 = some (.int .i64 (i : Int))
/-- the last loop -/
def enI (sf : St) (y z : V) (f a : Int) (fb : Bool) (n : Nat) (e : Env) (s : St) : Prop := ∃ i : Nat, i ≤ n ∧ e.get 1 = some (.int .i64 f) ∧ e.get 3 = some (.int .i64 a) ∧ e.get 5 = some y ∧ e.get 24 = some (.bool fb) ∧ e.get 29 = some z ∧ e.get 30 = some (.int .i64 (i : Int)) ∧ s = sf
theorem nil_rd (st : St) (l : List V) (h : l.length = 0) : RdRow st (.c (.slice none 0 0)) 1 0 l := ⟨h, .inl ⟨.inl rfl, rfl⟩⟩
def setB1 (W : List (BitVec 64)) (b : Nat) (w : BitVec 64) (inb : Bool) : List (BitVec 64) := if inb = true then W.set b w else W
def in8' (n a : Int) : Prop := 0 ≤ a ∧ a < 8 * n
instance (n a : Int) : Decidable (in8' n a) := by unfold in8'; infer_instance
set_option maxRecDepth 20000 in
set_option maxHeartbeats 16000000 in
theorem g_SpanSays (st : St) (x y : Nat → V) (f n a : Int) (w : BitVec 64) (W l : List (BitVec 64)) (hx : (rowC wC).at' st x W) (hy : (rowC wC).at' st y l) :
    Gd (lawC Try.prog 46 ⟨false, [], 0, 0⟩ 7 [x 0, .int .i64 f, .int .i64 n, .int .i64 a, wd w, y 0] st) fun r => r.1 = .bool true := by
  rw [Gd_lawC Try.func7 rfl]
  by_cases c1 : (200 : Int) < W.length
  · simp [evOp_call, sets, T.get_set, rowC_len hx, rowC_len hy, c1]
  by_cases c2 : (W.length : Int) = 0
  · simp [evOp_call, sets, T.get_set, rowC_len hx, rowC_len hy, c1, c2]
  have hWe : ¬ W = [] := fun e => c2 (by rw [e]; rfl)
  have tm : (W.length : Int).tmod 8 = (W.length : Int) % 8 := Int.tmod_eq_emod_of_nonneg (by omega)
  by_cases c3 : ¬ (W.length : Int) % 8 = 0
  · simp [evOp_call, sets, T.get_set, rowC_len hx, rowC_len hy, c1, c2, hWe, tm, c3]
  have c3' : (W.length : Int) % 8 = 0 := by omega
  by_cases c4 : (40 : Int) < l.length
  · simp [evOp_call, sets, T.get_set, rowC_len hx, rowC_len hy, c1, c2, hWe, tm, c3', c4]
  obtain ⟨N, hN⟩ : ∃ N, N = W.length / 8 := ⟨_, rfl⟩
  have hWN : W.length = N * 8 := by omega
  have td : (W.length : Int).tdiv 8 = (N : Int) := by rw [Int.tdiv_eq_ediv_of_nonneg (by omega)]; omega
  have wN : IntKind.i64.wrap (N : Int) = (N : Int) := wrap_in (by omega) (by omega)
  simp [evOp_call, sets, T.get_set, rowC_len hx, rowC_len hy, c1, c2, hWe, tm, c3', c4, oracF_cons]
  have hxr := rowC_words hx
  have hyr := rowC_words hy
  refine Gd.mono (mfrom_any st (x 0) W N (by omega) hWN hxr (rowC_cap hx) _) ?_
  rintro ⟨r, s0⟩ ⟨q, v, hr, hv, hva⟩
  simp only at hr hv
  subst hr
  have hok : okS (absV v) N 0 := by rw [hva]; exact fromA_ok _ _
  have hfu : (absV v).fuse < 1 := by rw [hva]; show (0 : Int) < 1; omega
  have hAN : allN (absV v).L = W := by rw [hva]; exact from_words hWN
  obtain ⟨hR, hO⟩ := hok.R
  simp [evOp_call, sets, T.get_set, rowC_len hx, td, wN, oracF_cons]
  refine Gd.mono (sof_any s0 q v hv.at' (by omega) f n _) ?_
  rintro ⟨r, s1⟩ ⟨hr, e1⟩
  simp only at hr e1
  subst hr
  have hv1 := hv.more e1
  unfold ofV'
  by_cases hw : ¬ winB f n v.R.length
  · by_cases d1 : 0 ≤ f
    · by_cases d2 : f < N
      · have wd2 : IntKind.i64.wrap ((N : Int) - f) = (N : Int) - f := wrap_in (by omega) (by omega)
        by_cases d3 : 1 ≤ n
        · have d4 : ¬ n ≤ (N : Int) - f := fun h => hw ⟨by omega, by omega, by omega, by omega⟩
          simp [hw, spZ, evOp_call, sets, T.get_set, newC_is, storeK_g, putB_eq, roT, d1, d2, d3, d4, wd2]
        · simp [hw, spZ, evOp_call, sets, T.get_set, newC_is, storeK_g, putB_eq, roT, d1, d2, d3]
      · simp [hw, spZ, evOp_call, sets, T.get_set, newC_is, storeK_g, putB_eq, roT, d1, d2]
    · simp [hw, spZ, evOp_call, sets, T.get_set, newC_is, storeK_g, putB_eq, roT, d1]
  have hw' : winB f n v.R.length := Decidable.not_not.1 hw
  obtain ⟨w1, w2, w3, w4⟩ := id hw'
  have d2 : f < N := by omega
  have d4 : n ≤ (N : Int) - f := by omega
  have wd2 : IntKind.i64.wrap ((N : Int) - f) = (N : Int) - f := wrap_in (by omega) (by omega)
  have wd3 : IntKind.i64.wrap (8 * n) = 8 * n := wrap_in (by omega) (by omega)
  have wd4 : IntKind.i64.wrap (8 * f) = 8 * f := wrap_in (by omega) (by omega)
  obtain ⟨tb, htb⟩ : ∃ tb, tb = (((((((T.lf : T V).set 0 (V.c (Value.pointer none))).set 1 (V.int .i64 0)).set 2 (V.int .i64 0)).set 0 (V.p q 0)).set 1 (V.int .i64 f)).set 2 (V.int .i64 n)) := ⟨_, rfl⟩
  simp [hw', spV, evOp_call, sets, T.get_set, newC_is, storeK_g, putB_eq, roT, w1, w2, d2, d4, wd2, wd3, loadE_eq, getC_eq, getsB_succ, getsB_zero, oracF_cons]
  rw [← htb]
  rw [evOp_build0 (fun k => el30 k) (fun k => ze31 k) rfl]
  have hnb : ∀ k, MOw q v k → k < s1.nx := fun k hk => hv1.at'.own_lt hk
  have hexA := (Ext.refl s1.nx s1).new (Nat.le_refl _) (.cs 60 3 tb)
  have hexB := hexA.trans (((Ext.refl (s1.nx + 1) (⟨s1.nx + 1, s1.h.set s1.nx (.cs 60 3 tb)⟩ : St)).new (Nat.le_refl _) (.cs 31 0 .lf)).mono (Nat.le_succ _))
  have hvB := hv1.more hexB
  have hxB := hvB.row hxr
  have hst1 := hv1.ext.le
  simp [evOp_call, T.get_set]
  refine opsK_join (J0 st (x 0) (y 0) f n a w q v s1.nx tb W) ?_ ?_
  · refine Gd_append0 un30 un30 io31 (by decide) (T.get_set_same _ _ _) hxB.1.notS (fun k => hxB.1.len k) (fun k => hxB.1.firsts k) hxB.1.1 (by omega) (fun h0 => absurd h0 (by omega)) fun h1 => ?_
    simp [T.get_set]
    refine ⟨_, _, .sg (s1.nx + 1 + 1) 0 W.length 1, rfl, ⟨by simp [T.get_set], by simp [T.get_set], by simp [T.get_set], by simp [T.get_set], by simp [T.get_set], by simp [T.get_set], by simp [T.get_set], by simp [T.get_set], by simp [T.get_set]⟩, ?_⟩
    have hexC := (Ext.refl (s1.nx + 1 + 1) (⟨s1.nx + 1 + 1, (s1.h.set s1.nx (.cs 60 3 tb)).set (s1.nx + 1) (.cs 31 0 .lf)⟩ : St)).new (Nat.le_refl _) (.cs 31 W.length (sets (wv W) 0 .lf))
    refine ⟨hvB.more hexC, ?_, ⟨by simp, .inr ⟨s1.nx + 1 + 1, 31, sets (wv W) 0 .lf, rfl, by omega, Nat.lt_succ_self _, by rw [Nat.mul_one]; exact T.get_set_same _ _ _, by decide, fun j u hj => ?_⟩⟩, fun k hk => ?_, fun e => by have := hnb _ e; omega, by show s1.nx < s1.nx + 1 + 1 + 1; omega, hst1⟩
    · exact (T.get_set_ne _ _ (by show s1.nx + 1 + 1 ≠ s1.nx; omega)).trans ((T.get_set_ne _ _ (by show s1.nx + 1 ≠ s1.nx; omega)).trans (T.get_set_same _ _ _))
    · rw [get_sets, if_pos ⟨Nat.zero_le _, by have := lt_of_get hj; omega⟩, Nat.sub_zero]; exact hj
    · have : k = s1.nx + 1 + 1 := by
        rcases hk with ⟨o, l, z, e⟩ | ⟨o, l, z, e⟩
        · injection e with e; exact e.symm
        · cases e
      exact ⟨fun e => by have := hnb _ e; omega, by omega⟩
  rintro _ ⟨e, s, wx, rfl, hec, hss⟩
  have t0 : tb.get 0 = some (.p q 0) := by simp [htb, T.get_set]
  have t1 : tb.get 1 = some (.int .i64 f) := by simp [htb, T.get_set]
  have t2 : tb.get 2 = some (.int .i64 n) := by simp [htb, T.get_set]
  have hRN : v.R.length = N := hR
  have hasin : hasB v.R.length f n a 1 ↔ in8' n a := ⟨fun h => ⟨h.2.1, by have := h.2.2.2.2; omega⟩, fun h => ⟨hw', h.1, by omega, by have := h.1; have := h.2; omega, by have := h.2; omega⟩⟩
  have hcalm : calm (absV v) N 0 := ⟨hok, hfu⟩
  clear htb
  obtain ⟨inb, hinb⟩ : ∃ inb, inb = decide (in8' n a) := ⟨_, rfl⟩
  rw [seqC_n]
  refine Gd_seq_join (JS (PG0 st (x 0) (y 0) wx f n a w q v s1.nx tb W inb)) ?_ ?_
  · obtain ⟨g0, g1, g2, g3, g4, g5, g13, g16, g19⟩ := hec
    by_cases k1 : 0 ≤ a
    · by_cases k2 : a < 8 * n
      · have hi : inb = true := by rw [hinb]; simp [in8', k1, k2]
        simp [evOp_call, T.get_set, g2, g3, k1, k2, wd3]
        exact ⟨_, s, rfl, by constructor <;> simp [T.get_set, g0, g1, g2, g3, g4, g5, g13, g16, g19], hss, by simp [T.get_set, hi]⟩
      · have hi : inb = false := by rw [hinb]; simp [in8', k1, k2]
        simp [evOp_call, T.get_set, g2, g3, k1, k2, wd3]
        exact ⟨_, s, rfl, by constructor <;> simp [T.get_set, g0, g1, g2, g3, g4, g5, g13, g16, g19], hss, by simp [T.get_set, hi]⟩
    · have hi : inb = false := by rw [hinb]; simp [in8', k1]
      simp [evOp_call, T.get_set, g2, g3, k1]
      exact ⟨_, s, rfl, by constructor <;> simp [T.get_set, g0, g1, g2, g3, g4, g5, g13, g16, g19], hss, by simp [T.get_set, hi]⟩
  clear hec hss e s
  rintro _ ⟨e, s, rfl, hec, hss, h20⟩
  rw [seqC_n]
  have hsp : V.g [V.p q 0, V.int .i64 f, V.int .i64 n] = spV q f n := rfl
  have hbnat : inb = true → 0 ≤ f * 8 + a ∧ f * 8 + a < 8 * (N : Int) := fun h => by
    rw [hinb] at h
    obtain ⟨h1, h2⟩ := of_decide_eq_true h
    omega
  refine Gd_seq_join (JS (P1 st (x 0) (y 0) wx f n a w q s1.nx tb inb W N 1 (setB1 W (f * 8 + a).toNat w inb))) ?_ ?_
  · obtain ⟨g0, g1, g2, g3, g4, g5, g13, g16, g19⟩ := hec
    simp [evOp_call, T.get_set, g2, g3, g4, g16, loadE_eq, getC_eq, hss.box, getsB_succ, getsB_zero, t0, t1, t2, oracF_cons]
    rw [hsp]
    refine Gd.mono (sset_any s q v hss.live.at' (by omega) (by have : v.fuse < 1 := hfu; omega) (fun r hr => by have := hO r hr; omega) f n a w _) ?_
    rintro ⟨r, s2⟩ ⟨hr, v1, hs2, ha1⟩
    simp only at hr hs2
    subst hr
    simp [T.get_set]
    refine ⟨_, s2, rfl, ?_⟩
    have fin : ∀ (_ : Bool), decide ((absV v).ssetE f n a = 0) = inb → calm (absV v1) N 1 → allN (absV v1).L = setB1 W (f * 8 + a).toNat w inb → P1 st (x 0) (y 0) wx f n a w q s1.nx tb inb W N 1 (setB1 W (f * 8 + a).toNat w inb) (((((e.set 116 (spV q f n)).set 117 (V.int .i64 a)).set 118 (wd w)).set 119 (V.int .i64 ((absV v).ssetE f n a))).set 21 (V.int .i64 ((absV v).ssetE f n a))) s2 := fun _ h1 h2 h3 =>
      ⟨⟨v1, by constructor <;> simp [T.get_set, g0, g1, g2, g3, g4, g5, g13, g16, g19], hss.step hs2, by simp [T.get_set, h20], h2, h3⟩, _, by simp [T.get_set], h1⟩
    have hAL : (absV v).L.length = v.R.length := absLen v
    by_cases hi : in8' n a
    · have hib : inb = true := by rw [hinb]; simp [hi]
      have hh : hasB (absV v).L.length f n a 1 := by rw [hAL]; exact hasin.2 hi
      obtain ⟨b1, b2⟩ := hbnat hib
      obtain ⟨q1, q2, q3⟩ := hcalm.store (a := f * 8 + a) ⟨b1, b2⟩ w
      have e1 : (absV v).sset f n a w = (absV v).store (f * 8 + a) w := by unfold AS.sset; rw [if_pos hh]
      have e2 : (absV v).ssetE f n a = 0 := by unfold AS.ssetE; rw [if_pos hh, q2]
      refine fin true (by rw [e2, hib]; rfl) (by rw [ha1, e1]; exact q1) ?_
      rw [ha1, e1, q3]
      have := allN_st hok.ls (a := (f * 8 + a).toNat) (by omega) w
      rw [show (((f * 8 + a).toNat : Nat) : Int) = f * 8 + a by omega, hAN] at this
      rw [this]; unfold setB1; rw [if_pos hib]
    · have hib : inb = false := by rw [hinb]; simp [hi]
      have hh : ¬ hasB (absV v).L.length f n a 1 := by rw [hAL]; exact fun h => hi (hasin.1 h)
      have e1 : (absV v).sset f n a w = absV v := by unfold AS.sset; rw [if_neg hh]
      have e2 : (absV v).ssetE f n a = 1 := by unfold AS.ssetE; rw [if_neg hh]
      refine fin true (by rw [e2, hib]; rfl) (by rw [ha1, e1]; exact ⟨⟨hok.len, hok.off, hok.ok, fun m hm => Nat.le_succ_of_le (hok.op m hm)⟩, hfu⟩) ?_
      rw [ha1, e1, hAN]; unfold setB1; rw [if_neg (by rw [hib]; simp)]
  clear hec hss e s h20 hsp
  have hWl : ∀ b, (setB1 W (f * 8 + a).toNat w b).length = W.length := fun b => by unfold setB1; split <;> simp
  rintro _ ⟨e, s, rfl, ⟨v1, hec, hss, h20, hc1, hA1⟩, E, h21, hE⟩
  rw [seqC_n]
  refine Gd_seq_join (JS (P1 st (x 0) (y 0) wx f n a w q s1.nx tb inb (setB1 W (f * 8 + a).toNat w inb) N 1 (setB1 W (f * 8 + a).toNat w inb))) ?_ ?_
  · obtain ⟨g0, g1, g2, g3, g4, g5, g13, g16, g19⟩ := hec
    cases hib : inb with
    | false =>
      rw [hib] at h20 hE hA1
      simp [evOp_call, T.get_set, h20]
      exact ⟨_, s, rfl, ⟨v1, by constructor <;> simp [T.get_set, g0, g1, g2, g3, g4, g5, g13, g16, g19], hss, by simp [T.get_set, h20], hc1, hA1⟩, E, by simp [T.get_set, h21], hE⟩
    | true =>
      obtain ⟨b1, b2⟩ := hbnat hib
      rw [hib] at h20 hE hA1
      obtain ⟨B, hB⟩ : ∃ B : Nat, f * 8 + a = (B : Int) := ⟨(f * 8 + a).toNat, by omega⟩
      have hBn : (f * 8 + a).toNat = B := by omega
      have hfa := of_decide_eq_true (hinb.symm.trans hib)
      have wb : IntKind.i64.wrap (8 * f + a) = (B : Int) := by rw [show 8 * f + a = (B : Int) by omega]; exact wrap_in (by omega) (by omega)
      obtain ⟨m, ty, t, hwx, p1, p2, p3⟩ := hss.put (i := B) (by omega)
      have hlt : B < W.length := by omega
      have hone : ∀ b : BitVec 64, (wd b).one = true := fun _ => rfl
      simp [evOp_call, T.get_set, h20, g1, g3, g4, g19, hwx, wd4, wb, hlt, storeK_1 (hone _), putB_eq, p1, p2, show B + 1 ≤ W.length by omega]
      refine ⟨_, _, rfl, ⟨v1, by constructor <;> simp [T.get_set, g0, g1, g2, g3, g4, g5, g13, g16, g19, hwx], ?_, by simp [T.get_set, h20], hc1, hA1⟩, E, by simp [T.get_set, h21], hE⟩
      rw [← hwx, hBn]
      exact p3 w
  clear hec hss e s h20 h21 hE
  rintro _ ⟨e, s, rfl, ⟨v1, hec, hss, h20, hc1, hA1⟩, E, h21, hE⟩
  obtain ⟨W1, hW1⟩ : ∃ W1, W1 = setB1 W (f * 8 + a).toNat w inb := ⟨_, rfl⟩
  rw [← hW1] at hss hA1
  have hW1l : W1.length = N * 8 := by rw [hW1, hWl, hWN]
  rw [seqC_n]
  refine Gd_seq_join (JS (PB st (x 0) (y 0) wx f n a w q s1.nx tb inb W1 N 1 W1)) ?_ ?_
  · obtain ⟨g0, g1, g2, g3, g4, g5, g13, g16, g19⟩ := hec
    obtain ⟨hR1, _⟩ := hc1.ok.R
    simp [evOp_call, T.get_set, h20, h21, g13, g19, hE, oracF_cons]
    refine Gd.mono (mwords_any s q v1 hss.live.at' (by omega) _) ?_
    rintro ⟨r, s2⟩ ⟨hr, e2⟩
    simp only at hr e2
    have hr2 := hr.rd
    have hss2 := hss.more e2
    have ho2 := hss2.own.rd
    rw [hA1, show 8 * v1.R.length = W1.length by omega] at hr2
    simp [evOp_call, T.get_set, h20, h21, g13, g19, hE, oracF_cons]
    refine Gd.mono (same5_any s2 r wx W1 W1 hr2 ho2 (by omega) _) ?_
    rintro _ rfl
    simp [T.get_set]
    exact ⟨_, s2, rfl, v1, by constructor <;> simp [T.get_set, g0, g1, g2, g3, g4, g5, g13, g16, g19], hss2, by simp [T.get_set, h20], hc1, hA1⟩
  clear hec hss e s h20 h21 hE hc1 hA1
  rintro _ ⟨e, s, rfl, v2, hec, hss, h20, hc1, hA1⟩
  rw [seqC_n]
  have hsp : V.g [V.p q 0, V.int .i64 f, V.int .i64 n] = spV q f n := rfl
  have hwinN : winB f n N := by rw [← hRN]; exact hw'
  have hasinN : hasB N f n a 1 ↔ in8' n a := by rw [← hRN]; exact hasin
  refine Gd_seq_join (JS (P2 st (x 0) (y 0) wx f n a w q s1.nx tb inb W1 N 1 W1)) ?_ ?_
  · obtain ⟨g0, g1, g2, g3, g4, g5, g13, g16, g19⟩ := hec
    obtain ⟨hR1, _⟩ := hc1.ok.R
    simp [evOp_call, T.get_set, g2, g3, g4, g16, loadE_eq, getC_eq, hss.box, getsB_succ, getsB_zero, t0, t1, t2, oracF_cons]
    rw [hsp]
    refine Gd.mono (sword_any s q v2 hss.live.at' (by omega) f n a _) ?_
    rintro ⟨r, s2⟩ ⟨hr, e2⟩
    simp only at hr e2
    subst hr
    simp [T.get_set]
    refine ⟨_, s2, rfl, ⟨v2, by constructor <;> simp [T.get_set, g0, g1, g2, g3, g4, g5, g13, g16, g19], hss.more e2, by simp [T.get_set, h20], hc1, hA1⟩, ⟨_, by simp [T.get_set]; rfl, ?_⟩, ⟨_, by simp [T.get_set]; rfl, fun hib => ?_, fun hib => ?_⟩⟩
    · by_cases hi : in8' n a
      · have hib : inb = true := by rw [hinb]; simp [hi]
        have hh : hasB (absV v2).L.length f n a 1 := by rw [hc1.ok.len]; exact hasinN.2 hi
        rw [swordE_off hh, if_neg (by rw [hc1.ok.off]; simp), hib]; rfl
      · have hib : inb = false := by rw [hinb]; simp [hi]
        have hh : ¬ hasB (absV v2).L.length f n a 1 := by rw [hc1.ok.len]; exact fun h => hi (hasinN.1 h)
        unfold AS.swordE; rw [if_neg hh, hib]; rfl
    · have hi := of_decide_eq_true (hinb.symm.trans hib)
      have hh : hasB (absV v2).L.length f n a 1 := by rw [hc1.ok.len]; exact hasinN.2 hi
      obtain ⟨b1, b2⟩ := hbnat hib
      have := load_allN hc1.ok.ls hc1.ok.off (p := (f * 8 + a).toNat) (by omega)
      rw [hA1, hW1, show (((f * 8 + a).toNat : Nat) : Int) = f * 8 + a by omega] at this
      unfold setB1 at this
      rw [if_pos hib, List.getElem?_set_self (by omega)] at this
      injection this with this
      unfold AS.sword; rw [if_pos hh]; exact this.symm
    · have hi := of_decide_eq_false (hinb.symm.trans hib)
      have hh : ¬ hasB (absV v2).L.length f n a 1 := by rw [hc1.ok.len]; exact fun h => hi (hasinN.1 h)
      unfold AS.sword; rw [if_neg hh]
  clear hec hss e s h20 hc1 hA1
  rintro _ ⟨e, s, rfl, ⟨v3, hec, hss, h20, hc1, hA1⟩, ⟨E, h23, hE⟩, u, h22, hu1, hu2⟩
  rw [seqC_n]
  refine Gd_seq_join (JS (PB st (x 0) (y 0) wx f n a w q s1.nx tb inb W1 N 1 W1)) ?_ ?_
  · obtain ⟨g0, g1, g2, g3, g4, g5, g13, g16, g19⟩ := hec
    cases hib : inb with
    | true =>
      have hu := hu1 hib
      rw [hu] at h22
      rw [hib] at h20 hE
      simp [evOp_call, T.get_set, h20, h22, h23, g4, hE]
      exact ⟨_, s, rfl, v3, by constructor <;> simp [T.get_set, g0, g1, g2, g3, g4, g5, g13, g16, g19], hss, by simp [T.get_set, h20], hc1, hA1⟩
    | false =>
      have hu := hu2 hib
      rw [hu] at h22
      rw [hib] at h20 hE
      simp [evOp_call, T.get_set, h20, h22, h23, g4, hE]
      exact ⟨_, s, rfl, v3, by constructor <;> simp [T.get_set, g0, g1, g2, g3, g4, g5, g13, g16, g19], hss, by simp [T.get_set, h20], hc1, hA1⟩
  clear hec hss e s h20 hc1 hA1 h22 h23 hE hu1 hu2
  rintro _ ⟨e, s, rfl, v4, hec, hss, h20, hc1, hA1⟩
  rw [seqC_n]
  obtain ⟨fb, hfb⟩ : ∃ fb, fb = decide (hasB N f n a l.length) := ⟨_, rfl⟩
  refine Gd_seq_join (JS (P3 st (x 0) (y 0) wx f n a w q s1.nx tb inb fb W1 N 1 W1)) ?_ ?_
  · obtain ⟨g0, g1, g2, g3, g4, g5, g13, g16, g19⟩ := hec
    have fin : ∀ en : Env, EC (x 0) (y 0) wx f n a w q s1.nx en → en.get 20 = some (.bool inb) → en.get 24 = some (.bool fb) → JS (P3 st (x 0) (y 0) wx f n a w q s1.nx tb inb fb W1 N 1 W1) (.n, en, s) := fun en h0 h1 h2 => ⟨en, s, rfl, ⟨v4, h0, hss, h1, hc1, hA1⟩, h2⟩
    cases hib : inb with
    | false =>
      have hi := of_decide_eq_false (hinb.symm.trans hib)
      have hf0 : fb = false := by rw [hfb]; exact decide_eq_false fun h => hi ⟨h.2.1, by have := h.2.2; omega⟩
      rw [hib] at h20
      simp [evOp_call, T.get_set, h20]
      rw [hib] at fin
      exact fin _ (by constructor <;> simp [T.get_set, g0, g1, g2, g3, g4, g5, g13, g16, g19]) (by simp [T.get_set, h20]) (by simp [T.get_set, hf0])
    | true =>
      have hi := of_decide_eq_true (hinb.symm.trans hib)
      obtain ⟨i1, i2⟩ := id hi
      rw [hib] at h20 fin
      have wna : IntKind.i64.wrap (8 * n - a) = 8 * n - a := wrap_in (by omega) (by omega)
      by_cases k1 : (0 : Int) < l.length
      · have k1n : 0 < l.length := by omega
        have k1e : ¬ l = [] := fun e => by rw [e] at k1n; cases k1n
        by_cases k2 : (l.length : Int) ≤ 8 * n - a
        · have hf0 : fb = true := by rw [hfb]; exact decide_eq_true ⟨hwinN, i1, by omega, by omega, by omega⟩
          simp [evOp_call, T.get_set, h20, g2, g3, g5, rowC_len hy, k1n, k1e, k2, wd3, wna]
          exact fin _ (by constructor <;> simp [T.get_set, g0, g1, g2, g3, g4, g5, g13, g16, g19]) (by simp [T.get_set, h20]) (by simp [T.get_set, hf0])
        · have hf0 : fb = false := by rw [hfb]; exact decide_eq_false fun h => k2 (by have := h.2.2.2.2; omega)
          simp [evOp_call, T.get_set, h20, g2, g3, g5, rowC_len hy, k1n, k1e, k2, wd3, wna]
          exact fin _ (by constructor <;> simp [T.get_set, g0, g1, g2, g3, g4, g5, g13, g16, g19]) (by simp [T.get_set, h20]) (by simp [T.get_set, hf0])
      · have hf0 : fb = false := by rw [hfb]; exact decide_eq_false fun h => k1 (by have := h.2.2.1; omega)
        have k1e : l = [] := List.eq_nil_of_length_eq_zero (by omega)
        have k1l : l.length = 0 := by omega
        simp [evOp_call, T.get_set, h20, g2, g3, g5, rowC_len hy, k1l, wd3, wna]
        exact fin _ (by constructor <;> simp [T.get_set, g0, g1, g2, g3, g4, g5, g13, g16, g19]) (by simp [T.get_set, h20]) (by simp [T.get_set, hf0])
  clear hec hss e s h20 hc1 hA1
  rintro _ ⟨e, s, rfl, ⟨v5, hec, hss, h20, hc1, hA1⟩, h24⟩
  rw [seqC_n]
  obtain ⟨B, hB⟩ : ∃ B, B = (f * 8 + a).toNat := ⟨_, rfl⟩
  obtain ⟨W2, hW2⟩ : ∃ W2, W2 = if fb = true then setFrom W1 B l l.length else W1 := ⟨_, rfl⟩
  have hW2l : W2.length = N * 8 := by rw [hW2]; split <;> simp [setFrom_len, hW1l]
  have hfbt : fb = true → hasB N f n a l.length := fun h => of_decide_eq_true (hfb.symm.trans h)
  refine Gd_seq_join (JS (PD st (x 0) (y 0) wx f n a w q s1.nx tb fb l B W1 N (1 + l.length) W2)) ?_ ?_
  · obtain ⟨g0, g1, g2, g3, g4, g5, g13, g16, g19⟩ := hec
    have hyr5 := hss.live.row hyr
    have hsz : szB (absV v5) N 1 := ⟨hc1.ok.len, by have := hc1.fu; omega, hc1.ok.op⟩
    simp [evOp_call, T.get_set, g2, g3, g4, g5, g16, loadE_eq, getC_eq, hss.box, getsB_succ, getsB_zero, t0, t1, t2, oracF_cons]
    rw [hsp]
    refine Gd.mono (spush_any s q v5 hss.live.at' N 1 hsz (by omega) f n a (y 0) l hyr5.1 hyr5.2 (by omega) _) ?_
    rintro ⟨r, s2⟩ ⟨hr, v6, hs2, ha6⟩
    simp only at hr hs2
    subst hr
    simp [T.get_set]
    refine ⟨_, s2, rfl, v6, by constructor <;> simp [T.get_set, g0, g1, g2, g3, g4, g5, g13, g16, g19], hss.step hs2, by simp [T.get_set, h24], ⟨_, by simp [T.get_set]; rfl, ?_⟩, ?_⟩
    · by_cases hh : hasB N f n a l.length
      · rw [(hc1.push hh).1, hfb, decide_eq_true hh]; rfl
      · rw [push_none hc1.ok.len hh, hfb, decide_eq_false hh]; rfl
    · rw [ha6]
      by_cases hh : hasB N f n a l.length
      · obtain ⟨q1, q2, q3⟩ := hc1.push hh
        have hfbt : fb = true := by rw [hfb]; exact decide_eq_true hh
        have hb0 : f * 8 + a = (B : Int) := by have := hh.2.1; omega
        refine ⟨q2, ?_, fun _ j hj => ?_⟩
        · rw [q3, allN_push hc1.ok.ls hh hb0, hA1, hW2, if_pos hfbt]
        · rw [q3, hB]; exact push_sure hc1.ok.ls hh [] hj
      · have hfbf : fb = false := by rw [hfb]; exact decide_eq_false hh
        rw [push_none hc1.ok.len hh]
        refine ⟨⟨⟨hc1.ok.len, hc1.ok.off, hc1.ok.ok, fun m hm => Nat.le_trans (hc1.ok.op m hm) (by omega)⟩, hc1.fu⟩, by rw [hA1, hW2, hfbf]; simp, fun h => by rw [hfbf] at h; cases h⟩
  clear hec hss e s h20 hc1 hA1 h24
  rintro _ ⟨e, s, rfl, v6, hec, hss, h24, ⟨E, h25, hE⟩, hc1, hA1, hsure⟩
  rw [seqC_n]
  refine Gd_seq_join (JS (PD st (x 0) (y 0) wx f n a w q s1.nx tb fb l B W2 N (1 + l.length) W2)) ?_ ?_
  · cases hfc : fb with
    | false =>
      have hW : W2 = W1 := by rw [hW2, hfc]; simp
      obtain ⟨g0, g1, g2, g3, g4, g5, g13, g16, g19⟩ := hec
      rw [hfc] at h24 hE hsure
      simp [evOp_call, T.get_set, h24]
      exact ⟨_, s, rfl, v6, by constructor <;> simp [T.get_set, g0, g1, g2, g3, g4, g5, g13, g16, g19], by rw [hW]; exact hss, by simp [T.get_set, h24], ⟨E, by simp [T.get_set, h25], hE⟩, hc1, hA1, hsure⟩
    | true =>
      have hW : W2 = setFrom W1 B l l.length := by rw [hW2, hfc]; simp
      obtain ⟨hh1, hh2, hh3, hh4, hh5⟩ := hfbt hfc
      rw [hfc] at h24 hE hsure
      have hec' := hec
      obtain ⟨g0, g1, g2, g3, g4, g5, g13, g16, g19⟩ := hec
      simp [evOp_call, T.get_set, h24]
      refine Gd_loop (wrI st (x 0) (y 0) wx f n a w q v6 s1.nx tb l B W1 E) (fun e _ => muAt 26 l.length e) ?_ ?_
      · exact ⟨0, Nat.zero_le _, by constructor <;> simp [T.get_set, g0, g1, g2, g3, g4, g5, g13, g16, g19], by rw [setFrom_zero]; exact hss, by simp [T.get_set, h24], by simp [T.get_set, h25], by simp [T.get_set]⟩
      · clear hss hec' g0 g1 g2 g3 g4 g5 g13 g16 g19 h24 h25 e s
        rintro e s ⟨i, hi, hec, hss, h24, h25, h26⟩
        obtain ⟨g0, g1, g2, g3, g4, g5, g13, g16, g19⟩ := hec
        have hyS := hyr.ext hss.live.ext
        by_cases hlt : i < l.length
        · have hlt' : (i : Int) < l.length := by omega
          have hwi := wrap_nat (n := i) (by omega)
          obtain ⟨u, hu⟩ : ∃ u, l[i]? = some u := ⟨_, List.getElem?_eq_getElem hlt⟩
          obtain ⟨Wi, hWi⟩ : ∃ Wi, Wi = setFrom W1 B l i := ⟨_, rfl⟩
          have hWil : Wi.length = N * 8 := by rw [hWi, setFrom_len, hW1l]
          rw [← hWi] at hss
          obtain ⟨Bi, hBi⟩ : ∃ Bi, Bi = B + i := ⟨_, rfl⟩
          have wb : IntKind.i64.wrap (8 * f + a) = (B : Int) := by rw [show 8 * f + a = (B : Int) by omega]; exact wrap_in (by omega) (by omega)
          have wbi : IntKind.i64.wrap ((B : Int) + (i : Int)) = (Bi : Int) := by rw [show (B : Int) + (i : Int) = (Bi : Int) by omega]; exact wrap_in (by omega) (by omega)
          have hBl : Bi < Wi.length := by omega
          obtain ⟨m, ty, t, hwx, p1, p2, p3⟩ := hss.put (i := Bi) hBl
          obtain ⟨m2, o2, ty2, sz2, t2, i2, b2, kk2, l2, d2⟩ := hyS.idx (st := s) un30 io31 hlt
          have q2 : t2.get o2 = some (wd u) := d2 0 _ (by omega) (by simpa using wv_get hu)
          have hone : ∀ b : BitVec 64, (wd b).one = true := fun _ => rfl
          simp [evOp_call, T.get_set, g5, h26, hyS.lenS, hlt', hlt]
          simp [evOp_call, T.get_set, g1, g3, g5, g19, h26, hyS.lenS, hlt', hlt, hwx, wd4, wb, wbi, hBl, i2, loadE_eq, getC_eq, kk2, q2, storeK_1 (hone _), putB_eq, p1, p2, show Bi + 1 ≤ Wi.length by omega, hwi]
          refine ⟨⟨i + 1, hlt, by constructor <;> simp [T.get_set, g0, g1, g2, g3, g4, g5, g13, g16, g19, hwx], ?_, by simp [T.get_set, h24], by simp [T.get_set, h25], by simp [T.get_set]⟩, muAt_lt h26 (by simp [T.get_set]) hlt⟩
          rw [setFrom_succ hu, ← hWi, ← hBi, ← hwx]
          exact p3 u
        · obtain rfl : i = l.length := by omega
          rw [← hW] at hss
          simp [evOp_call, T.get_set, g5, h26, hyS.lenS]
          exact ⟨_, s, rfl, v6, by constructor <;> simp [T.get_set, g0, g1, g2, g3, g4, g5, g13, g16, g19], hss, by simp [T.get_set, h24], ⟨E, by simp [T.get_set, h25], hE⟩, hc1, hA1, hsure⟩
  clear hec hss e s h24 h25 hE hc1 hA1 hsure
  rintro _ ⟨e, s, rfl, v7, hec, hss, h24, ⟨E, h25, hE⟩, hc1, hA1, hsure⟩
  rw [seqC_n]
  obtain ⟨g0, g1, g2, g3, g4, g5, g13, g16, g19⟩ := hec
  obtain ⟨hR7, hO7⟩ := hc1.ok.R
  have hoff7 : v7.off = false := hc1.ok.off
  simp [evOp_call, T.get_set, g16, loadE_eq, getC_eq, hss.box, getsB_succ, getsB_zero, t0, t1, t2, oracF_cons]
  rw [hsp]
  refine Gd.mono (sall_any s q v7 hss.live.at' (by omega) f n _) ?_
  rintro ⟨r, s2⟩ ⟨e2, hr⟩
  simp only at hr e2
  rcases hr with ⟨_, _, z, Lz, hr, hrow, hLz⟩ | ⟨_, h, _⟩ | ⟨h, _⟩
  · subst hr
    have hss2 := hss.more e2
    simp [evOp_call, T.get_set, g13, g19, h24, h25, hE, oracF_cons]
    refine Gd.mono (mwords_any s2 q v7 hss2.live.at' (by omega) _) ?_
    rintro ⟨r, s3⟩ ⟨hr, e3⟩
    simp only at hr e3
    have hr3 := hr.rd
    have hss3 := hss2.more e3
    have ho3 := hss3.own.rd
    rw [hA1, show 8 * v7.R.length = W2.length by omega] at hr3
    simp [evOp_call, T.get_set, g13, g19, h24, h25, hE, oracF_cons]
    refine Gd.mono (same5_any s3 r wx W2 W2 hr3 ho3 (by omega) _) ?_
    rintro _ rfl
    obtain ⟨kf, hkf⟩ : ∃ kf : Nat, f * 8 = (kf : Int) := ⟨(f * 8).toNat, by omega⟩
    obtain ⟨ke, hke⟩ : ∃ ke : Nat, (f + n) * 8 = (ke : Int) := ⟨((f + n) * 8).toNat, by omega⟩
    have wk1 : IntKind.i64.wrap (8 * f) = (kf : Int) := by rw [wd4]; omega
    have wk2 : IntKind.i64.wrap (f + n) = f + n := wrap_in (by omega) (by omega)
    have wk3 : IntKind.i64.wrap (8 * (f + n)) = (ke : Int) := by rw [show 8 * (f + n) = (ke : Int) by omega]; exact wrap_in (by omega) (by omega)
    have hcap : CapOk wx := by
      obtain ⟨m, ty, t, hwx, _⟩ := hss3.put (i := 0) (by omega)
      rw [hwx]; intro m o l q h; cases h
    simp [evOp_call, T.get_set, g1, g2, g13, g19, h24, h25, hE, oracF_cons, wk1, wk2, wk3]
    refine Gd_midR (i := .i64) (i2 := .i64) (k := kf) (k2 := ke) un30 io31 ho3 hcap (by simp [T.get_set]) (by simp [T.get_set]) (by omega) (by omega) ?_
    intro z2 hz2
    have hz3 := hz2 s3 ho3
    have hLl : Lz.length = (8 * n).toNat := hrow.1
    have hzr : RdRow s3 z 1 Lz.length (wv Lz) := by rw [hLl]; exact hrow.rd.ext e3
    have hDl : ((W2.drop kf).take (ke - kf)).length = ke - kf := by simp; omega
    have hz4 : RdRow s3 z2 1 ((W2.drop kf).take (ke - kf)).length (wv ((W2.drop kf).take (ke - kf))) := by rw [hDl]; exact hz3
    have hall : Lz = (W2.drop kf).take (ke - kf) := List.ext_getElem? fun j => by
      by_cases hj : j < (8 * n).toNat
      · rw [hLz j hj, List.getElem?_take, if_pos (by omega), List.getElem?_drop, ← hA1]
        have hhb : hasB (absV v7).L.length f n (j : Int) 1 := ⟨by rw [absLen, hR7]; exact hwinN, by omega, by omega, by omega, by omega⟩
        rw [load_allN hc1.ok.ls hc1.ok.off (p := kf + j) (by omega)]
        unfold AS.sword
        rw [if_pos hhb, show f * 8 + (j : Int) = ((kf + j : Nat) : Int) by omega]
      · rw [List.getElem?_eq_none (by omega), List.getElem?_eq_none (by rw [hDl]; omega)]
    simp [evOp_call, T.get_set, g1, g2, g13, g19, h24, h25, hE, oracF_cons]
    refine Gd.mono (same5_any s3 z z2 Lz _ hzr hz4 (by omega) _) ?_
    rintro _ rfl
    simp [evOp_call, T.get_set, g16, loadE_eq, getC_eq, hss3.box, t0, ← hall, oracF_cons]
    refine Gd.mono (mcrash_any s3 q v7 hss3.live.at' _ [] (fun st' v' hs _ _ => nil_rd _ _ rfl) (by omega) _) ?_
    rintro ⟨r, s4⟩ ⟨hr4, hs4⟩
    simp only at hr4 hs4
    subst hr4
    rw [if_neg (by rw [hoff7]; simp)] at hs4
    have hss4 := hss3.step hs4
    simp [evOp_call, T.get_set, g16, loadE_eq, getC_eq, hss4.box, t0, oracF_cons]
    refine Gd.mono (mon_any s4 q (v7.fell []) hss4.live.at' _) ?_
    rintro ⟨r, s5⟩ ⟨hr5, hs5⟩
    simp only at hr5 hs5
    subst hr5
    have hss5 := hss4.step hs5
    simp [evOp_call, T.get_set, g13, oracF_cons]
    have hR8 : (v7.fell []).R.length = N := by
      have : ((v7.fell []).R.map (·.m)).length = N := by rw [show (v7.fell []).R.map (·.m) = fallM [] (v7.R.map (·.m)) from fallN_m [] v7.R, fallM_length, List.length_map, hR7]
      simpa using this
    refine Gd.mono (mwords_any s5 q _ hss5.live.at' (by show (v7.fell []).R.length ≤ 2000; omega) _) ?_
    rintro ⟨r, s6⟩ ⟨hr6, e6⟩
    simp only at hr6 e6
    have hss6 := hss5.more e6
    have hr6r := hr6.rd
    obtain ⟨Z, hZ⟩ : ∃ Z, Z = allN (fallM [] (absV v7).L) := ⟨_, rfl⟩
    have hZ2 : allN (absV ({ v7.fell [] with off := false } : MV)).L = Z := by
      rw [hZ]; show allN ((v7.fell []).R.map (·.m)) = allN (fallM [] (v7.R.map (·.m)))
      rw [show (v7.fell []).R.map (·.m) = fallM [] (v7.R.map (·.m)) from fallN_m [] v7.R]
    rw [hZ2] at hr6r
    rw [← hZ] at hsure
    rw [show ({ v7.fell [] with off := false } : MV).R.length = N from hR8] at hr6r
    have ho6 := hss6.own.rd
    have hlen6 : 8 * N = W2.length := by omega
    rw [hlen6] at hr6r
    simp [evOp_call, T.get_set, g19, hr6r.lenS, ho6.lenS]
    refine Gd_loop (enI s6 (y 0) r f a fb l.length) (fun e _ => muAt 30 l.length e) ?_ ?_
    · exact ⟨0, Nat.zero_le _, by simp [T.get_set, g1], by simp [T.get_set, g3], by simp [T.get_set, g5], by simp [T.get_set, h24], by simp [T.get_set], by simp [T.get_set], rfl⟩
    · have hyS := hyr.ext hss6.live.ext
      clear g0 g1 g2 g3 g4 g5 g13 g16 g19 h24 h25
      rintro e s ⟨i, hi, g1, g3, g5, g24, g29, g30, rfl⟩
      by_cases hlt : i < l.length
      · have hlt' : (i : Int) < l.length := by omega
        have hwi := wrap_nat (n := i) (by omega)
        cases hfc : fb with
        | false =>
          rw [hfc] at g24
          simp [evOp_call, T.get_set, g5, g24, g30, hyS.lenS, hlt', hlt]
        | true =>
          rw [hfc] at g24
          obtain ⟨hh1, hh2, hh3, hh4, hh5⟩ := hfbt hfc
          obtain ⟨u, hu⟩ : ∃ u, l[i]? = some u := ⟨_, List.getElem?_eq_getElem hlt⟩
          obtain ⟨Bi, hBi⟩ : ∃ Bi, Bi = B + i := ⟨_, rfl⟩
          have wb : IntKind.i64.wrap (8 * f + a) = (B : Int) := by rw [show 8 * f + a = (B : Int) by omega]; exact wrap_in (by omega) (by omega)
          have wbi : IntKind.i64.wrap ((B : Int) + (i : Int)) = (Bi : Int) := by rw [show (B : Int) + (i : Int) = (Bi : Int) by omega]; exact wrap_in (by omega) (by omega)
          have hBl : Bi < W2.length := by omega
          have hZu : Z[Bi]? = some u := by rw [hBi, hsure hfc i hlt, hu]
          obtain ⟨m1, o1, ty1, sz1, t1', i1, b1, kk1, l1, d1⟩ := hr6r.idx (st := s) un30 io31 hBl
          obtain ⟨m2, o2, ty2, sz2, t2', i2, b2, kk2, l2, d2⟩ := hyS.idx (st := s) un30 io31 hlt
          have q1 : t1'.get o1 = some (wd u) := d1 0 _ (by omega) (by simpa using wv_get hZu)
          have q2 : t2'.get o2 = some (wd u) := d2 0 _ (by omega) (by simpa using wv_get hu)
          simp [evOp_call, T.get_set, g5, g24, g30, hyS.lenS, hlt', hlt]
          refine ⟨by kernel_rfl, ?_⟩
          simp [evOp_call, T.get_set, g1, g3, g5, g24, g29, g30, wd4, wb, wbi, i1, i2, loadE_eq, getC_eq, kk1, kk2, q1, q2, hwi]
          exact ⟨⟨i + 1, hlt, by simp [T.get_set, g1], by simp [T.get_set, g3], by simp [T.get_set, g5], by simp [T.get_set, g24, hfc], by simp [T.get_set, g29], by simp [T.get_set], rfl⟩, muAt_lt g30 (by simp [T.get_set]) hlt⟩
      · obtain rfl : i = l.length := by omega
        simp [evOp_call, T.get_set, g5, g24, g30, hyS.lenS]
  · rw [hoff7] at h; cases h
  · exact absurd (by rw [hR7]; exact hwinN) h
theorem w_SpanSays (W : List (BitVec 64)) (f n a p : Int) (l : List (BitVec 64)) (Wd : World) (x : Value) (hx : (rowC wC).rel Wd (fun j => [x][j]?.getD default) W) (_ : i64 f) (_ : i64 n) (_ : i64 a) (hp : (Lit.int .u64 p).wf = true) (z : Value) (hz : (rowC wC).rel Wd (fun j => [z][j]?.getD default) l) :
    Calls Try.prog 7 #[x, .int .i64 f, .int .i64 n, .int .i64 a, .int .u64 p, z] Wd fun e W' => e = .returned (.bool true) ∧ Below Wd.heap.size Wd W' := by
  obtain ⟨pn, rfl, hpn⟩ := u64_nat hp
  obtain ⟨s1, r1, v1, b1, l1, q1, e1, a1⟩ := (rowC wC).enter (Begin.zero Wd) hx
  obtain ⟨s3, r3, v3, b3, l3, q3, e3, a3⟩ := (rowC wC).enter b1 hz
  exact law_calls (lawC_sound namesOkP mixesP Try.func46 rfl spAwake) b3 (.cons (Rel.mono l3 _ _ (q1 0 (by decide)).2) (.cons (rel_int _ _) (.cons (rel_int _ _) (.cons (rel_int _ _) (.cons (by rw [← wd_lit (n := (pn : Int)) (by omega) (by omega)]; exact rel_int _ _) (.cons (q3 0 (by decide)).2 .nil))))))
    (g_SpanSays s3 v1 v3 f n a (BitVec.ofInt 64 pn) W l ((rowC wC).ext a1 e3) a3)
end Go.Proofs.Ytenncnbaoejekaa

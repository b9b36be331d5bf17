/-
  Laws of package line: what awake does, LineOrder's walk.
-/
import Derived.Test.YtnigikccijjihaaLineT
import Derived.Test.YtnigikccijjihaaOpn4
set_option linter.unusedSimpArgs false
namespace Go.Proofs.Ytnigikccijjihaa
open Go.RowKit Ev
theorem Kept.ext {n b : Nat} {y : V} {s s' : St} (h : Kept n y s s') (hb : b ≤ s.nx) (ho : ∀ k, Ow n y k → b ≤ k) : Ext b s s' := ⟨h.le, h.wf, fun q hq => h.keep q (by omega) (fun e => by have := ho q e; omega)⟩
theorem ow_nil {n k : Nat} (h : Ow n (.c (.slice none 0 0)) k) : k = n := by
  rcases h with h | ⟨o, l, z, e⟩
  · exact h
  · cases e
@[simp] theorem line_not_nil (st : St) (x y : Operand) (n : Nat) : binE Try.prog st .eql 38 x y (.p n 0) (.c (.pointer none)) = some (.bool false, st) := by kernel_rfl
def M0 : LM := ⟨List.replicate 8 0#64, List.replicate 8 0#64, [], 0⟩
theorem new0 (st : St) (nt : Nat) : Gd (callL Try.prog ⟨false, [], 0, nt⟩ 40 [.c (.slice none 0 0)] st) fun r => ∃ n, r.1 = .p n 0 ∧ LineAt r.2 n (.c (.slice none 0 0)) M0 ∧ Ext st.nx st r.2 ∧ st.nx ≤ n := new_nil st nt
theorem awake_any (st : St) (nt : Nat) : Gd (callL Try.prog ⟨false, [], 0, nt⟩ 39 [] st) fun r => ∃ s, r = (.bool true, s) ∧ Ext st.nx st s := by
  rw [Gd_callL Try.func39 rfl]
  simp [evOp_call, sets, T.get_set]
  refine Gd.mono (new0 _ _) ?_
  rintro ⟨r, s⟩ ⟨n, hr, h, he, hn⟩
  simp only at hr h he
  subst hr
  simp [T.get_set, sets, evOp_call]
  have b1 : st.nx ≤ s.nx := he.le
  refine Gd.mono (store_any s n _ _ h 0 1#64 _ (by decide)) ?_
  rintro ⟨r, s2⟩ ⟨hr, y2, h2, k2, o2⟩
  simp only at hr h2 k2
  subst hr
  simp [T.get_set, sets, evOp_call]
  refine Gd.mono (store_any s2 n _ _ h2 0 2#64 _ (by decide)) ?_
  rintro ⟨r, s3⟩ ⟨hr, y3, h3, k3, o3⟩
  simp only at hr h3 k3
  subst hr
  simp [T.get_set, sets, evOp_call]
  refine Gd.mono (load_any s3 n _ _ h3 0 _) ?_
  rintro _ rfl
  rw [show (if (0 : Int) ≤ 0 ∧ (0 : Int) < 8 then ((M0.store 0 1#64).store 0 2#64).N[(0 : Int).toNat]?.getD 0#64 else 0#64) = 2#64 from by decide]
  simp [T.get_set, sets, evOp_call]
  refine Gd.mono (fall_any s3 n _ _ h3 1 _) ?_
  rintro ⟨r, s4⟩ ⟨hr, h4, k4⟩
  simp only at hr h4 k4
  subst hr
  simp [T.get_set, sets, evOp_call]
  refine Gd.mono (load_any s4 n _ _ h4 0 _) ?_
  rintro _ rfl
  rw [show (if (0 : Int) ≤ 0 ∧ (0 : Int) < 8 then (((M0.store 0 1#64).store 0 2#64).fall 1).N[(0 : Int).toNat]?.getD 0#64 else 0#64) = 1#64 from by decide]
  simp [T.get_set, sets, evOp_call]
  refine Gd.mono (open_any s4 n _ _ h4 _) ?_
  rintro _ rfl
  rw [show ((((M0.store 0 1#64).store 0 2#64).fall 1).O.length : Int) = 0 from rfl]
  simp [T.get_set, sets, evOp_call]
  have c2 : s.nx ≤ s2.nx := k2.le
  have w2 : ∀ k, Ow n y2 k → st.nx ≤ k := fun k hk => by
    rcases o2 k hk with hk | hk
    · have := ow_nil hk; omega
    · omega
  have w3 : ∀ k, Ow n y3 k → st.nx ≤ k := fun k hk => by
    rcases o3 k hk with hk | hk
    · exact w2 k hk
    · omega
  exact ((he.trans (k2.ext b1 (fun k hk => by have := ow_nil hk; omega))).trans (k3.ext (by omega) w2)).trans (k4.ext (by have := k3.le; omega) w3)
structure Two (b : Nat) (s : St) (nx : Nat) (yx : V) (mx : LM) (ny : Nat) (yy : V) (my : LM) : Prop where
  hx : LineAt s nx yx mx
  hy : LineAt s ny yy my
  dis : ∀ k, Ow nx yx k → ¬ Ow ny yy k
  bx : ∀ k, Ow nx yx k → b ≤ k
  bY : ∀ k, Ow ny yy k → b ≤ k
theorem Two.symm {b : Nat} {s : St} {nx ny : Nat} {yx yy : V} {mx my : LM} (h : Two b s nx yx mx ny yy my) : Two b s ny yy my nx yx mx := ⟨h.hy, h.hx, fun k h1 h2 => h.dis k h2 h1, h.bY, h.bx⟩
theorem Two.left {b : Nat} {s s' : St} {nx ny : Nat} {yx yx' yy : V} {mx mx' my : LM} (h : Two b s nx yx mx ny yy my) (h1 : LineAt s' nx yx' mx') (h2 : Kept nx yx s s') (h3 : ∀ k, Ow nx yx' k → Ow nx yx k ∨ s.nx ≤ k) (hb : b ≤ s.nx) : Two b s' nx yx' mx' ny yy my := by
  refine ⟨h1, h.hy.other h2.le (fun q hq => h2.keep q (h.hy.own_lt hq) fun e => h.dis q e hq), fun k hk hk2 => ?_, fun k hk => ?_, h.bY⟩
  · rcases h3 k hk with hk | hk
    · exact h.dis k hk hk2
    · have := h.hy.own_lt hk2; omega
  · rcases h3 k hk with hk | hk
    · exact h.bx k hk
    · omega
theorem store_S (m : LM) (a : Int) (v : BitVec 64) : (m.store a v).S = m.S := by unfold LM.store; split <;> rfl
theorem store_O {m : LM} {a : Int} {v : BitVec 64} (h : 0 ≤ a ∧ a < 8) : (m.store a v).O = m.O ++ [(a, v)] := by unfold LM.store; rw [if_pos h]
theorem store_out {m : LM} {a : Int} {v : BitVec 64} (h : ¬ (0 ≤ a ∧ a < 8)) : m.store a v = m := by unfold LM.store; rw [if_neg h]
def ordI (st : St) (v : V) (L : List (Int × Int × BitVec 64)) (keep : Int) (nx ny : Nat) (e : Env) (s : St) : Prop := ∃ i yx mx yy my, i ≤ L.length ∧ e.get 0 = some v ∧ e.get 1 = some (.int .i64 keep) ∧ e.get 5 = some (.p nx 0) ∧ e.get 6 = some (.p ny 0) ∧ e.get 7 = some (.int .i64 (mx.O.length : Int)) ∧ e.get 8 = some (.int .i64 (i : Int)) ∧
  Two st.nx s nx yx mx ny yy my ∧ Ext st.nx st s ∧ mx.S = List.replicate 8 0#64 ∧ my.S = List.replicate 8 0#64 ∧ mx.O.length ≤ i ∧ my.O = mx.O.take keep.toNat
set_option maxHeartbeats 2000000 in
theorem g_LineOrder (st : St) (v : V) (L : List (Int × Int × BitVec 64)) (keep : Int) (hv : RdRow st v 3 L.length (trip L)) (nt : Nat) :
    Gd (callL Try.prog ⟨false, [], 0, nt⟩ 5 [v, .int .i64 keep] st) fun r => r.1 = .bool true := by
  rw [Gd_callL Try.func5 rfl]
  simp [evOp_call, sets, T.get_set]
  refine Gd.mono (awake_any _ _) ?_
  rintro _ ⟨s0, rfl, e0⟩
  have hv0 := hv.ext e0
  have b0 := e0.le
  by_cases h40 : (40 : Int) < L.length
  · simp [evOp_call, sets, T.get_set, hv0.lenS, h40]
  · simp [evOp_call, sets, T.get_set, hv0.lenS, h40]
    refine Gd.mono (new0 _ _) ?_
    rintro ⟨r, s1⟩ ⟨nx, hr, h1, e1, n1⟩
    simp only at hr h1 e1
    subst hr
    have b1 := e1.le
    simp [evOp_call, sets, T.get_set]
    refine Gd.mono (new0 _ _) ?_
    rintro ⟨r, s2⟩ ⟨ny, hr, h2, e2, n2⟩
    simp only at hr h2 e2
    subst hr
    have b2 := e2.le
    simp [evOp_call, sets, T.get_set]
    have hT : Two st.nx s2 nx (.c (.slice none 0 0)) M0 ny (.c (.slice none 0 0)) M0 := by
      have l1 := h1.lt
      refine ⟨h1.other b2 (fun q hq => e2.keep q (h1.own_lt hq)), h2, fun k h3 h4 => ?_, fun k hk => ?_, fun k hk => ?_⟩
      · have := ow_nil h3; have := ow_nil h4; omega
      · have := ow_nil hk; omega
      · have := ow_nil hk; omega
    refine Gd_loop (ordI st v L keep nx ny) (fun e _ => muAt 8 L.length e) ?_ ?_
    · exact ⟨0, _, M0, _, M0, Nat.zero_le _, by simp [T.get_set], by simp [T.get_set], by simp [T.get_set], by simp [T.get_set], by simp [T.get_set, M0], by simp [T.get_set], hT, (e0.trans (e1.mono b0)).trans (e2.mono (by omega)), rfl, rfl, Nat.le_refl _, by simp [M0]⟩
    · rintro e s ⟨i, yx, mx, yy, my, hi, g0, g1, g5, g6, g7, g8, hT, hs, hxS, hyS, hn, hO⟩
      have hvs := hv.keep (Nat.le_refl _) hs
      have bs := hs.le
      by_cases hlt : i < L.length
      · have hlt' : (i : Int) < L.length := by omega
        have hw := wrap_nat (n := i) (by omega)
        have hwn := wrap_nat (n := mx.O.length) (by omega)
        obtain ⟨m, o, ty, sz, tr, hid, hm, hg, ho, hc⟩ := hvs.idx (st := s) un37 io43 hlt
        obtain ⟨⟨op, A, W⟩, hr⟩ : ∃ r, L[i]? = some r := ⟨_, List.getElem?_eq_getElem hlt⟩
        have hcl := trip_at L i _ hr
        have t1 : tr.get (o + 1) = some (.int .i64 A) := hc 1 _ (by omega) hcl.2.1
        have t2 : tr.get (o + 2) = some (wd W) := hc 2 _ (by omega) hcl.2.2
        simp [evOp_call, T.get_set, g0, g1, g5, g6, g7, g8, hvs.lenS, hlt', hid, loadE_eq, getC_eq, hg, t1, t2]
        refine ⟨by kernel_rfl, ?_⟩
        refine Gd_cxC (c' := ⟨false, [], 0, 77⟩) (by kernel_rfl) ?_
        refine Gd.mono (store_any s nx yx mx hT.hx A W _ (by omega)) ?_
        rintro ⟨r, s3⟩ ⟨hr3, yx', hx', kx, ox⟩
        simp only at hr3 hx' kx
        subst hr3
        have hT3 := hT.left hx' kx ox bs
        have b3 := kx.le
        have hs3 := hs.trans (kx.ext bs hT.bx)
        by_cases hin : 0 ≤ A ∧ A < 8
        · have hd : decide (0 ≤ A ∧ A < 8) = true := by simpa using hin
          simp only [hd]
          by_cases hk : (mx.O.length : Int) < keep
          · have hvs3 := hv.keep (Nat.le_refl _) hs3
            obtain ⟨m, o, ty, sz, tr, hid, hm, hg, ho, hc⟩ := hvs3.idx (st := s3) un37 io43 hlt
            have t1 : tr.get (o + 1) = some (.int .i64 A) := hc 1 _ (by omega) hcl.2.1
            have t2 : tr.get (o + 2) = some (wd W) := hc 2 _ (by omega) hcl.2.2
            simp [evOp_call, T.get_set, g0, g1, g5, g6, g7, g8, hk, hid, loadE_eq, getC_eq, hg, t1, t2]
            refine ⟨by kernel_rfl, ?_⟩
            refine Gd_cxC (c' := ⟨false, [], 0, 77⟩) (by kernel_rfl) ?_
            refine Gd.mono (store_any s3 ny yy my hT3.hy A W _ (by rw [hO, List.length_take]; omega)) ?_
            rintro ⟨r, s4⟩ ⟨hr4, yy', hy', ky, oy⟩
            simp only at hr4 hy' ky
            subst hr4
            have hT4 := (hT3.symm.left hy' ky oy (by omega)).symm
            have b4 := ky.le
            have hs4 := hs3.trans (ky.ext (by omega) hT3.bY)
            simp [evOp_call, T.get_set, g0, g1, g5, g6, g7, g8, hw, hwn]
            refine ⟨⟨i + 1, yx', mx.store A W, yy', my.store A W, hlt, by simp [T.get_set, g0], by simp [T.get_set, g1], by simp [T.get_set, g5], by simp [T.get_set, g6], by simp [T.get_set, store_O hin], by simp [T.get_set], hT4, hs4, by rw [store_S]; exact hxS, by rw [store_S]; exact hyS, by rw [store_O hin]; simp; omega, ?_⟩, muAt_lt g8 (by simp [T.get_set]) hlt⟩
            rw [store_O hin, store_O hin, hO, List.take_of_length_le (by omega), List.take_of_length_le (by simp; omega)]
          · simp [evOp_call, T.get_set, g0, g1, g5, g6, g7, g8, hk, hw, hwn]
            refine ⟨⟨i + 1, yx', mx.store A W, yy, my, hlt, by simp [T.get_set, g0], by simp [T.get_set, g1], by simp [T.get_set, g5], by simp [T.get_set, g6], by simp [T.get_set, store_O hin], by simp [T.get_set], hT3, hs3, by rw [store_S]; exact hxS, hyS, by rw [store_O hin]; simp; omega, ?_⟩, muAt_lt g8 (by simp [T.get_set]) hlt⟩
            rw [store_O hin, hO, List.take_append_of_le_length (by omega)]
        · have hd : decide (0 ≤ A ∧ A < 8) = false := by simpa using hin
          simp only [hd]
          simp [evOp_call, T.get_set, g0, g1, g5, g6, g7, g8, hw]
          rw [store_out hin] at hT3
          exact ⟨⟨i + 1, yx', mx, yy, my, hlt, by simp [T.get_set, g0], by simp [T.get_set, g1], by simp [T.get_set, g5], by simp [T.get_set, g6], by simp [T.get_set, g7], by simp [T.get_set], hT3, hs3, hxS, hyS, by omega, hO⟩, muAt_lt g8 (by simp [T.get_set]) hlt⟩
      · obtain rfl : i = L.length := by omega
        simp [evOp_call, T.get_set, g0, g1, g5, g6, g7, g8, hvs.lenS]
        refine Gd.mono (open_any s nx yx mx hT.hx _) ?_
        rintro _ rfl
        simp [evOp_call, T.get_set, g0, g1, g5, g6, g7, g8]
        refine Gd.mono (fall_any s nx yx mx hT.hx keep _) ?_
        rintro ⟨r, s3⟩ ⟨hr3, hx', kx⟩
        simp only at hr3 hx' kx
        subst hr3
        have hT3 := hT.left hx' kx (fun k hk => .inl (.inl (ow_nil hk))) bs
        have b3 := kx.le
        simp [evOp_call, T.get_set, g0, g1, g5, g6, g7, g8]
        refine Gd.mono (flush_any s3 ny yy my hT3.hy _) ?_
        rintro ⟨r, s4⟩ ⟨hr4, hy4, k4⟩
        simp only at hr4 hy4 k4
        subst hr4
        have hT4 := (hT3.symm.left hy4 k4 (fun k hk => .inl hk) (by omega)).symm
        have b4 := k4.le
        simp [evOp_call, T.get_set, g0, g1, g5, g6, g7, g8]
        refine Gd.mono (fence_any s4 ny yy _ hT4.hy my.O.length rfl (Nat.le_refl _) _) ?_
        rintro ⟨r, s5⟩ ⟨hr5, yy', hy5, k5, o5⟩
        simp only at hr5 hy5 k5
        subst hr5
        have hT5 := (hT4.symm.left hy5 k5 o5 (by omega)).symm
        have b5 := k5.le
        simp [evOp_call, T.get_set, g0, g1, g5, g6, g7, g8]
        refine Gd.mono (sure_any s5 nx _ _ hT5.hx _) ?_
        rintro ⟨r, s6⟩ ⟨x6, hr6, h6, e6⟩
        simp only at hr6 h6 e6
        subst hr6
        have hx6 := hT5.hx.other e6.le (fun q hq => e6.keep q (hT5.hx.own_lt hq))
        have hy6 := hT5.hy.other e6.le (fun q hq => e6.keep q (hT5.hy.own_lt hq))
        simp [evOp_call, T.get_set, g0, g1, g5, g6, g7, g8]
        refine Gd.mono (sure_any s6 ny _ _ hy6 _) ?_
        rintro ⟨r, s7⟩ ⟨x7, hr7, h7, e7⟩
        simp only at hr7 h7 e7
        subst hr7
        have hx7 := hx6.other e7.le (fun q hq => e7.keep q (hx6.own_lt hq))
        have hy7 := hy6.other e7.le (fun q hq => e7.keep q (hy6.own_lt hq))
        simp [evOp_call, T.get_set, g0, g1, g5, g6, g7, g8]
        refine Gd.mono (same_any s7 _ _ 8 8 _ _ (h6.ext e7).rd h7.rd (by omega) _) ?_
        rintro _ rfl
        have hS : (mx.fall keep).S = setAll my.S (my.O.take my.O.length) := by
          show setAll mx.S (mx.O.take _) = _
          rw [take_fall, List.take_length, hO, hxS, hyS]
        simp only [hS, decide_true]
        simp [evOp_call, T.get_set, g0, g1, g5, g6, g7, g8]
        refine Gd.mono (open_any s7 nx _ _ hx7 _) ?_
        rintro _ rfl
        simp [evOp_call, T.get_set, g0, g1, g5, g6, g7, g8, LM.fall]
        refine Gd.mono (open_any s7 ny _ _ hy7 _) ?_
        rintro _ rfl
        simp [evOp_call, T.get_set, g0, g1, g5, g6, g7, g8]
end Go.Proofs.Ytnigikccijjihaa

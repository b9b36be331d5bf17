/-
  The document's own Open; the law ImageBits.
-/
import Derived.Test.YtgcpgidofikcdaaGreatDoorImG
import Derived.Test.YtgcpgidofikcdaaGreatDoorImF
import Derived.Test.YtgcpgidofikcdaaGreatDoorDrw
set_option linter.unusedSimpArgs false
set_option linter.unusedVariables false
namespace Go.Proofs.YtgcpgidofikcdaaGreatDoor
open Go.RowKit Ev
theorem bldRimg (x y : Operand) (a b c d : Int) (m n : Nat) (st : St) : bldK Tryz.prog 81 [(0, x), (1, y)] [.g [.int .i64 a, .int .i64 b, .int .i64 c, .int .i64 d], .sg m 0 n 1] [.int .i64 0, .int .i64 0, .int .i64 0, .int .i64 0, .c (.slice none 0 0)] st = some (.g [.int .i64 a, .int .i64 b, .int .i64 c, .int .i64 d, .sg m 0 n 1], st) := by kernel_rfl
set_option maxRecDepth 20000 in
set_option maxHeartbeats 4000000 in
theorem ropen_any (st : St) (b0 : Nat) (y : V) (bl : Nat) (hb : 64 ≤ bl ∧ bl ≤ 1024) (L : List (BitVec 64)) (hy : SlRow b0 st y (8 * bl) L) (g : Gm) (p : BitVec 64) (hg : ofH bl (L.take 8) = some (g, p)) (nt : Nat) :
    Gd (callL Tryz.prog ⟨false, [], 0, nt⟩ 37 [y] st) fun r => ∃ m, r.1 = .t [.g [.int .i64 g.b, .int .i64 g.n, .int .i64 g.c, .int .i64 g.k, .sg m 0 (8 * bl) 1], .bool true] ∧ Ext st.nx st r.2 := by
  rw [Gd_callL Tryz.func37 rfl]
  have hrd := hy.rd
  simp [evOp_call, sets, T.get_set, newC_is]
  have x0 := fun b => (Ext.refl st.nx st).new (Nat.le_refl _) b
  refine Gd.mono (rfind_any _ b0 y bl hb L (hy.ext (x0 _)) _) ?_
  rintro ⟨r, s1⟩ ⟨hr, x1⟩
  simp only at hr x1
  rw [hg] at hr
  subst hr
  have l1 : st.nx < s1.nx := x1.le
  have k0 : s1.h.get st.nx = _ := (x1.keep _ (Nat.lt_succ_self _)).trans (T.get_set_same _ _ _)
  have hne : ¬ s1.nx = st.nx := by omega
  have hs1 : Ext st.nx st s1 := (x0 _).trans (x1.mono (Nat.le_succ _))
  simp [fdO, gV, evOp_call, sets, T.get_set, newC_is, storeK_g, putB_eq, roT]
  refine ⟨by kernel_rfl, ?_⟩
  simp [evOp_call, T.get_set, loadE_eq, getC_eq, getsB_succ, getsB_zero]
  rw [evOp_build0 (fun k => el60 k) (fun k => ze78 k) rfl]
  have x2 := fun b => hs1.new (by omega) b
  have hx2 : ∀ b, Ext s1.nx s1 ⟨s1.nx + 1, s1.h.set s1.nx b⟩ := fun b => (Ext.refl s1.nx s1).new (Nat.le_refl _) b
  have hyr : ∀ s, Ext st.nx st s → RdRow s y 1 (8 * bl) (wv L) := fun s h => hrd.ext h
  have hylt : ∀ m, rowIn y m → m < st.nx := fun m h => by
    rcases h with ⟨_, _, _, h⟩ | ⟨_, _, _, h⟩
    · exact hrd.lt_of.2 _ _ _ _ h
    · exact hrd.lt_of.1 _ _ _ _ h
  have hbx : ∀ m, rowIn y m → inF [(s1.nx, s1.nx + 1)] m = false := fun m h => by
    rw [inF_cons, if_neg (by have := hylt m h; omega)]; rfl
  have hbk : ((some y).bind blkOf).elim false (inF [(s1.nx, s1.nx + 1)]) = false := by
    rcases hrd.2 with ⟨e | e, _⟩ | ⟨m, o, r, ty, sz, t, e, _⟩ | ⟨m, o, ty, sz, t, e, _⟩
    · rw [e]; rfl
    · rw [e]; rfl
    · have := hbx m (.inl ⟨_, _, _, e⟩)
      rw [e]; exact this
    · have := hbx m (.inr ⟨_, _, _, e⟩)
      rw [e]; exact this
  have hb6 : inF [(s1.nx, s1.nx + 1)] (s1.nx + 1) = false := by rw [inF_cons, if_neg (by omega)]; rfl
  simp [evOp_call, T.get_set]
  rw [cxOf_callL [(s1.nx, s1.nx + 1)] (by kernel_rfl) (by kernel_rfl) (looseW_at 4 (.p s1.nx 0) (by simp [T.get_set]) (by kernel_rfl)) (fun x hx => by
          simp at hx
          rcases hx with rfl | rfl
          · rw [clashes_tmp]; simp only [T.get_set]; exact hb6
          · rw [clashes_tmp]; simp only [T.get_set]; exact hbk) (fun p hp => by simp at hp; subst hp; rw [isRo_cs ((T.get_set_ne _ _ (by omega)).trans (T.get_set_same _ _ _))]; decide), forb_cons (by kernel_rfl) rfl]
  have x3 := fun b b' => (x2 b).new (b := st.nx) (by show st.nx ≤ s1.nx + 1; omega) b'
  refine Gd_append0F un60 un60 io78 (by decide) hb6 (T.get_set_same _ _ _) hrd.notS (fun k => hrd.len k) (fun k => firsts_fl (hyr _ (x3 _ _)) hbx k) hrd.1 (by omega) (fun h0 => absurd h0 (by omega)) fun _ => ?_
  simp [evOp_call, T.get_set]
  rw [bldRimg]
  simp [evOp_call, T.get_set]
  have hne1 : ¬ s1.nx + 1 = st.nx := by omega
  have hne2 : ¬ s1.nx + 1 + 1 = st.nx := by omega
  rw [cxOf_store (by kernel_rfl), forb_cons (by kernel_rfl) (forb_cons (by kernel_rfl) rfl)]
  simp [evOp_call, sets, T.get_set, storeK_g, putB_eq, roT, loadE_eq, getC_eq, getsB_succ, getsB_zero, k0, hne, hne1, hne2, cellsOf]
  exact ((x3 _ _).new (b := st.nx) (by show st.nx ≤ s1.nx + 1 + 1; omega) _).set (m := st.nx) (Nat.le_refl _) (by show st.nx < s1.nx + 1 + 1 + 1; omega) _
set_option maxRecDepth 20000 in
set_option maxHeartbeats 8000000 in
theorem g_ImageBits (st : St) (g : Gm) (a : Int) (ha : -9223372036854775808 ≤ a ∧ a ≤ 9223372036854775807) :
    Gd (lawX Tryz.prog (callL Tryz.prog) 27 ⟨false, [], 0, 0⟩ 6 [gV g, .int .i64 a] st) fun r => r.1 = .bool true := by
  rw [Gd_lawX Tryz.func6 rfl]
  have gVg : V.g [V.int .i64 g.b, V.int .i64 g.n, V.int .i64 g.c, V.int .i64 g.k] = gV g := rfl
  simp [gV, evOp_call, sets, T.get_set, cellsOf, newC_is, loadE_eq, getC_eq, getsB_succ, getsB_zero, oracF_cons]
  rw [gVg]
  refine Gd.mono (make_any _ g _) ?_
  rintro ⟨r, s1⟩ (⟨hg, z, hr, hz, x1⟩ | ⟨hg, hr, x1⟩)
  rotate_left
  · simp only at hr x1
    subst hr
    have kg : s1.h.get st.nx = some (.cs 59 4 ((((T.lf.set 0 (.int .i64 g.b)).set 1 (.int .i64 g.n)).set 2 (.int .i64 g.c)).set 3 (.int .i64 g.k))) := (x1.keep _ (Nat.lt_succ_self _)).trans (T.get_set_same _ _ _)
    have hd : decide (isGood g) = false := by simpa using hg
    simp [evOp_call, T.get_set, loadE_eq, getC_eq, getsB_succ, getsB_zero, kg, oracF_cons]
    rw [gVg]
    refine Gd.mono (good_any _ [] (fun _ _ => rfl) 0 (Nat.zero_le _) g _) ?_
    rintro ⟨r, s2⟩ ⟨hr, x2⟩
    simp only at hr x2
    subst hr
    simp [evOp_call, T.get_set, hd]
  simp only at hr hz x1
  subst hr
  obtain ⟨B, hB⟩ : ∃ B, B = g.b.toNat := ⟨_, rfl⟩
  rw [← hB] at hz
  have hok := imgOk hg
  have hbB : g.b = (B : Int) := by have := hok.b; omega
  have hb1 := hok.b
  have hL : (imgW g).length = 8 * B := by rw [hB]; exact hok.l5
  have hof := imgW_of hg
  rw [← hB] at hof
  have hcapz : CapOk z := by
    obtain ⟨_, m, ty, t, e1, _⟩ := hz
    rw [e1]
    intro m o l q e
    injection e with _ _ e1 e2
    omega
  have kg : s1.h.get st.nx = some (.cs 59 4 ((((T.lf.set 0 (.int .i64 g.b)).set 1 (.int .i64 g.n)).set 2 (.int .i64 g.c)).set 3 (.int .i64 g.k))) := (x1.keep _ (Nat.lt_succ_self _)).trans (T.get_set_same _ _ _)
  have ln1 : st.nx + 1 ≤ s1.nx := x1.le
  simp [evOp_call, T.get_set, oracF_cons]
  refine Gd.mono (iopen_any s1 z B (by omega) (imgW g) hz.rd hcapz g 0#64 hof _) ?_
  rintro ⟨r, s2⟩ ⟨x, hr, hx, x2⟩
  simp only at hr hx x2
  subst hr
  have hone := hx.rd.one
  have ln2 := x2.le
  have kg2 := (x2.keep _ (by omega)).trans kg
  have u1 : ¬ s2.nx = st.nx := by omega
  have hnew := fun b => (Ext.refl s2.nx s2).new (Nat.le_refl _) b
  simp [evOp_call, sets, T.get_set, newC_is, storeK_g, putB_eq, roT, hone, cellsOf, loadE_eq, getC_eq, getsB_succ, getsB_zero, kg2, u1, oracF_cons]
  rw [gVg]
  refine Gd.mono (gdata_any _ [] (fun _ _ => rfl) 0 (Nat.zero_le _) g _) ?_
  rintro ⟨r, s3⟩ ⟨hr, x3⟩
  simp only at hr x3
  unfold at2 at hr
  rw [if_pos hg] at hr
  subst hr
  have ln3 : s2.nx + 1 ≤ s3.nx := x3.le
  have kX := x3.keep s2.nx (Nat.lt_succ_self _)
  rw [T.get_set_same] at kX
  have kg3 : s3.h.get st.nx = _ := (x3.keep st.nx (by show st.nx < s2.nx + 1; omega)).trans ((T.get_set_ne _ _ u1).trans kg2)
  by_cases c1 : a < 0
  · simp [evOp_call, T.get_set, c1]
  by_cases c2 : g.b ≤ a
  · simp [evOp_call, T.get_set, c1, c2, loadE_eq, getC_eq, getsB_succ, getsB_zero, kg3]
  obtain ⟨k, rfl⟩ := Int.eq_ofNat_of_zero_le (show 0 ≤ a by omega)
  have hk : k < g.b.toNat := by omega
  have hx3 : RdRow s3 x 1 (8 * g.b.toNat) (wv (imgW g)) := by rw [← hB]; exact (hx.rd.ext (hnew _)).ext x3
  have hcapx : CapOk x := by
    rcases hx.2 with ⟨e, _⟩ | ⟨m, ty, t, e, _⟩ <;> rw [e] <;> intro m o l q e <;> cases e
  simp [evOp_call, T.get_set, c1, c2, loadE_eq, getC_eq, getsB_succ, getsB_zero, kg3, kX, oracF_cons]
  refine Gd.mono (ibits_any s3 g hg x (imgW g) hx3 hcapx _) ?_
  rintro ⟨r, s4⟩ ⟨m, hr, hy, hm, x4⟩
  simp only at hr hy x4
  subst hr
  have ln4 := x4.le
  obtain ⟨w, hw1, hw2⟩ := bits_at hg hk
  have hbn : 1 ≤ bN g ∧ bN g ≤ 2 := by unfold bN; omega
  have hbn2 : g.b ≤ 512 * bN g := by unfold bN; omega
  have hkl : k / 64 < 8 * (bN g).toNat := by omega
  have kg4 := (x4.keep _ (by omega)).trans kg3
  have hww : IntKind.i64.wrap ((k : Int) / 64) = (k : Int) / 64 := wrap_in (by omega) (by omega)
  have hn0 : (0 : Int) ≤ (k : Int) % 64 := by omega
  have hnt : ((k : Int) % 64).toNat = k % 64 := by omega
  have v1 : ¬ s4.nx = st.nx := by omega
  have v2 : ¬ s4.nx = m := by have := hy.lt_of.1 m _ _ _ rfl; omega
  obtain ⟨tyM, szM, tM, kM, t0⟩ : ∃ ty sz t, s4.h.get m = some (.cs ty sz t) ∧ t.get (k / 64) = some (wd w) := by
    rcases hy.2 with ⟨e | e, _⟩ | ⟨m', o, q, ty, sz, t, e, _⟩ | ⟨m', o, ty, sz, t, e, _, e2, _, e3⟩
    · cases e
    · cases e
    · cases e
    · injection e with e e4
      subst e; subst e4
      have := e3 (k / 64) _ (wv_get hw1)
      rw [Nat.zero_add] at this
      exact ⟨ty, sz, t, e2, this⟩
  have hdk : ¬ ((8 * (bN g).toNat : Nat) : Int) ≤ (k : Int) / 64 := by omega
  have hdk' : ¬ 8 * max (bN g) 0 ≤ (k : Int) / 64 := by omega
  have hnew4 := fun b => (Ext.refl s4.nx s4).new (Nat.le_refl _) b
  simp [evOp_call, sets, T.get_set, newC_is, storeK_g, putB_eq, roT, cellsOf, loadE_eq, getC_eq, getsB_succ, getsB_zero, hy.lenS, quo64, rem64, hww, asNat_div, hdk, hdk', hkl, kM, t0, hn0, hnt, and1, hw2, v1, v2, oracF_cons]
  refine Gd.mono (ropen_any _ (st.nx + 1) z B (by omega) (imgW g) (((((hz.ext x2).ext (hnew _)).ext x3).ext x4).ext (hnew4 _)) g 0#64 hof _) ?_
  rintro ⟨r, s5⟩ ⟨mr, hr, x5⟩
  simp only at hr x5
  subst hr
  have ln5 : s4.nx + 1 ≤ s5.nx := x5.le
  have kB5 := x5.keep s4.nx (Nat.lt_succ_self _)
  rw [T.get_set_same] at kB5
  have kg5 := (x5.keep st.nx (by show st.nx < s4.nx + 1; omega)).trans ((T.get_set_ne _ _ v1).trans kg4)
  have y1 : ¬ s5.nx = st.nx := by omega
  have y2 : ¬ s5.nx = s4.nx := by omega
  have wm : IntKind.i64.wrap (8 * max (bN g) 0 * 64) = 8 * max (bN g) 0 * 64 := wrap_in (by omega) (by omega)
  have hge : g.b ≤ 8 * max (bN g) 0 * 64 := by omega
  obtain ⟨d1, d2, d3⟩ := dF_bd hg
  have wdd : IntKind.i64.wrap (dF g + dN g) = dF g + dN g := wrap_in (by omega) (by omega)
  have hsh : ((k : Int) % 64 % 18446744073709551616).toNat = k % 64 := by omega
  by_cases o1 : (k : Int) < dF g
  · have ho : isOut g k = true := by unfold isOut; exact decide_eq_true (.inl o1)
    simp [evOp_call, sets, T.get_set, newC_is, storeK_g, putB_eq, roT, cellsOf, loadE_eq, getC_eq, getsB_succ, getsB_zero, hy.lenS, kB5, kg5, y1, y2, wm, hge, wdd, o1, ho, hsh, hw2]
  · by_cases o2 : dF g + dN g ≤ (k : Int)
    · have ho : isOut g k = true := by unfold isOut; exact decide_eq_true (.inr o2)
      simp [evOp_call, sets, T.get_set, newC_is, storeK_g, putB_eq, roT, cellsOf, loadE_eq, getC_eq, getsB_succ, getsB_zero, hy.lenS, kB5, kg5, y1, y2, wm, hge, wdd, o1, o2, ho, hsh, hw2]
    · have ho : isOut g k = false := by unfold isOut; exact decide_eq_false fun h => h.elim o1 o2
      simp [evOp_call, sets, T.get_set, newC_is, storeK_g, putB_eq, roT, cellsOf, loadE_eq, getC_eq, getsB_succ, getsB_zero, hy.lenS, kB5, kg5, y1, y2, wm, hge, wdd, o1, o2, ho, hsh, hw2]
theorem w_ImageBits (b n c k a : Int) (W : World) (_ : -9223372036854775808 ≤ b ∧ b ≤ 9223372036854775807) (_ : -9223372036854775808 ≤ n ∧ n ≤ 9223372036854775807) (_ : -9223372036854775808 ≤ c ∧ c ≤ 9223372036854775807) (_ : -9223372036854775808 ≤ k ∧ k ≤ 9223372036854775807) (ha : -9223372036854775808 ≤ a ∧ a ≤ 9223372036854775807) :
    Calls Tryz.prog 6 #[.agg #[.int .i64 b, .int .i64 n, .int .i64 c, .int .i64 k], .int .i64 a] W fun e W' => e = .returned (.bool true) ∧ Below W.heap.size W W' :=
  law_calls imLaw (Begin.zero W) (.cons (rel_gVi _ ⟨b, n, c, k⟩) (.cons (rel_int _ _) .nil)) (g_ImageBits ⟨0, .lf⟩ ⟨b, n, c, k⟩ a ha)
end Go.Proofs.YtgcpgidofikcdaaGreatDoor

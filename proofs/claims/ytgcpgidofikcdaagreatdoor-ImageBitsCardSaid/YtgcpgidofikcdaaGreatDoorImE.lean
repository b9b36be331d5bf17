/-
  The law ImageOpens.
-/
import Derived.Test.YtgcpgidofikcdaaGreatDoorImAD
import Derived.Test.YtgcpgidofikcdaaGreatDoorImK
import Derived.Test.YtgcpgidofikcdaaGreatDoorEx
import Derived.Test.YtgcpgidofikcdaaGreatDoorIn
set_option linter.unusedSimpArgs false
set_option linter.unusedVariables false
namespace Go.Proofs.YtgcpgidofikcdaaGreatDoor
open Go.RowKit Ev
def sameWI (st : St) (x y : V) (n : Nat) (a b : List (BitVec 64)) (e : Env) (s : St) : Prop := ∃ j, j ≤ n ∧ e.get 0 = some x ∧ e.get 1 = some y ∧ e.get 5 = some (.int .i64 (j : Int)) ∧ a.take j = b.take j ∧ s = st
theorem takeW_succ {a b : List (BitVec 64)} {j : Nat} {p q : BitVec 64} (h : a.take j = b.take j) (ha : a[j]? = some p) (hb : b[j]? = some q) : a.take (j + 1) = b.take (j + 1) ↔ p = q := by
  rw [List.take_add_one, List.take_add_one, ha, hb, h]
  simp
theorem isame_any (st : St) (x y : V) (a b : List (BitVec 64)) (hx : RdRow st x 1 a.length (wv a)) (hy : RdRow st y 1 b.length (wv b)) (hn : a.length ≤ 100000) (nt : Nat) :
    Gd (callL Tryz.prog ⟨false, [], 0, nt⟩ 31 [x, y] st) fun r => r = (.bool (decide (a = b)), st) := by
  rw [Gd_callL Tryz.func31 rfl]
  by_cases hk : a.length = b.length
  · have hk' : (a.length : Int) = b.length := by omega
    simp [evOp_call, sets, T.get_set, hx.lenS, hy.lenS, hk']
    refine Gd_loop (sameWI st x y a.length a b) (fun e _ => muAt 5 a.length e) ?_ ?_
    · exact ⟨0, Nat.zero_le _, by simp [T.get_set], by simp [T.get_set], by simp [T.get_set], by simp, rfl⟩
    · rintro e s ⟨j, hj, g0, g1, g5, hab, rfl⟩
      by_cases hlt : j < a.length
      · have hlt' : (j : Int) < a.length := by omega
        have hw := wrap_nat (n := j) (by omega)
        obtain ⟨p, hp⟩ : ∃ p, a[j]? = some p := ⟨_, List.getElem?_eq_getElem (by omega)⟩
        obtain ⟨q, hq⟩ : ∃ q, b[j]? = some q := ⟨_, List.getElem?_eq_getElem (by omega)⟩
        obtain ⟨m1, o1, ty1, sz1, t1, i1, b1, k1, l1, c1⟩ := hx.idx (st := s) un60 io78 hlt
        obtain ⟨m2, o2, ty2, sz2, t2, i2, b2, k2, l2, c2⟩ := hy.idx (st := s) un60 io78 (show j < b.length by omega)
        have d1 : t1.get o1 = some (wd p) := c1 0 _ (by omega) (by simpa using wv_get hp)
        have d2 : t2.get o2 = some (wd q) := c2 0 _ (by omega) (by simpa using wv_get hq)
        simp [T.get_set, g0, g1, g5, hx.lenS, hlt', i1, i2, loadE_eq, getC_eq, k1, k2, d1, d2]
        refine ⟨by kernel_rfl, ?_⟩
        by_cases hpq : p = q
        · subst hpq
          simp [T.get_set, g0, g1, g5, hw]
          exact ⟨⟨j + 1, by omega, by simp [T.get_set, g0], by simp [T.get_set, g1], by simp [T.get_set], (takeW_succ hab hp hq).2 rfl, rfl⟩, muAt_lt g5 (by simp [T.get_set]) hlt⟩
        · have hne : ¬ a = b := fun e => by subst e; rw [hp] at hq; injection hq with hq; exact hpq hq
          simp [T.get_set, hpq, hne]
      · obtain rfl : j = a.length := by omega
        have : a = b := by rw [← List.take_length (l := a), ← List.take_length (l := b), ← hk]; exact hab
        simp [T.get_set, g0, g1, g5, hx.lenS, this]
  · have : ¬ a = b := fun e => by subst e; omega
    have hk' : ¬ (a.length : Int) = b.length := by omega
    simp [evOp_call, sets, T.get_set, hx.lenS, hy.lenS, hk, hk', this]

theorem zeroW_length (g : Gm) : (zeroW g).length = 8 * g.b.toNat := by unfold zeroW; rw [List.length_replicate]
structure ImgOk (g : Gm) : Prop where
  l1 : (img1 g).length = 8 * g.b.toNat
  l2 : (img2 g).length = 8 * g.b.toNat
  l3 : (img3 g).length = 8 * g.b.toNat
  l4 : (img4 g).length = 8 * g.b.toNat
  l5 : (imgW g).length = 8 * g.b.toNat
  h1 : 0 * 1 + (putH g 0#64).length ≤ (zeroW g).length
  h2 : (g.b - 1).toNat * 8 + (putH g 0#64).length ≤ (img1 g).length
  h3 : (nF g).toNat * 8 + (putN rootN).length ≤ (img2 g).length
  h4 : (nF g + 1).toNat * 8 + (putN (lostN g)).length ≤ (img3 g).length
  h5 : (1 + g.c * g.k).toNat * 8 + (takW g).length ≤ (img4 g).length
  b : 64 ≤ g.b ∧ g.b ≤ 1024
  hn : 1 + g.c * g.k ≤ nF g ∧ 16 ≤ g.c * g.k
theorem imgOk {g : Gm} (hg : isGood g) : ImgOk g := by
  have hck := ck_le hg.1
  obtain ⟨⟨hb1, hb2, hn1', hn2', hc1, hc2, hk1, hk2⟩, hdN1⟩ := id hg
  have hbn : 1 ≤ bN g ∧ bN g ≤ 2 := by unfold bN; omega
  have hbn2 : g.b ≤ 512 * bN g := by unfold bN; omega
  have hnF : nF g = 1 + g.c * g.k + bN g := rfl
  have hdF : dF g = nF g + g.n + g.n := rfl
  have hdN : dN g = g.b - 1 - dF g := rfl
  have hrl2 := putN_le rootN
  have hll2 := putN_le (lostN g)
  have htl := takW_length g
  have hH : (putH g 0#64).length = 8 := putH_length _ hg
  have z := zeroW_length g
  have a1 : 0 * 1 + (putH g 0#64).length ≤ (zeroW g).length := by omega
  have l1 : (img1 g).length = 8 * g.b.toNat := by unfold img1; rw [putL_length (by omega)]; exact z
  have a2 : (g.b - 1).toNat * 8 + (putH g 0#64).length ≤ (img1 g).length := by omega
  have l2 : (img2 g).length = 8 * g.b.toNat := by unfold img2; rw [putL_length a2]; exact l1
  have a3 : (nF g).toNat * 8 + (putN rootN).length ≤ (img2 g).length := by omega
  have l3 : (img3 g).length = 8 * g.b.toNat := by unfold img3; rw [putL_length a3]; exact l2
  have a4 : (nF g + 1).toNat * 8 + (putN (lostN g)).length ≤ (img3 g).length := by omega
  have l4 : (img4 g).length = 8 * g.b.toNat := by unfold img4; rw [putL_length a4]; exact l3
  have a5 : (1 + g.c * g.k).toNat * 8 + (takW g).length ≤ (img4 g).length := by omega
  have l5 : (imgW g).length = 8 * g.b.toNat := by unfold imgW; rw [putL_length a5]; exact l4
  exact ⟨l1, l2, l3, l4, l5, a1, a2, a3, a4, a5, ⟨hb1, hb2⟩, by omega, by omega⟩
theorem imgW_head {g : Gm} (hg : isGood g) : (imgW g).take 8 = putH g 0#64 := by
  have h := imgOk hg
  have hH : (putH g 0#64).length = 8 := putH_length _ hg
  obtain ⟨b1, b2⟩ := h.b
  obtain ⟨n1, n2⟩ := h.hn
  unfold imgW
  rw [putL_take h.h5 (by omega)]
  unfold img4
  rw [putL_take h.h4 (by omega)]
  unfold img3
  rw [putL_take h.h3 (by omega)]
  unfold img2
  rw [putL_take h.h2 (by omega)]
  unfold img1
  have := putL_here (L := zeroW g) (i := 0) (W := putH g 0#64) (by have := h.h1; omega)
  rw [List.drop_zero, hH] at this
  exact this
theorem imgW_of {g : Gm} (hg : isGood g) : ofH (g.b.toNat : Int) ((imgW g).take 8) = some (g, 0#64) := by
  rw [imgW_head hg]
  unfold ofH
  rw [getH_put 0#64 hg]
  have := (imgOk hg).b
  exact if_pos (by omega)
theorem imLaw : CallSound Tryz.prog (lawX Tryz.prog (callL Tryz.prog) 27) := lawX_sound namesOkT mixesT (callL_both namesOkT mixesT) Tryz.func27 rfl imAwake
set_option maxRecDepth 20000 in
set_option maxHeartbeats 8000000 in
theorem g_ImageOpens (st : St) (g : Gm) (a : Int) (v : BitVec 64) (ha : -9223372036854775808 ≤ a ∧ a ≤ 9223372036854775807) :
    Gd (lawX Tryz.prog (callL Tryz.prog) 27 ⟨false, [], 0, 0⟩ 7 [gV g, .int .i64 a, wd v] st) fun r => r.1 = .bool true := by
  rw [Gd_lawX Tryz.func7 rfl]
  have gVg : V.g [V.int .i64 g.b, V.int .i64 g.n, V.int .i64 g.c, V.int .i64 g.k] = gV g := rfl
  simp [gV, evOp_call, sets, T.get_set, cellsOf, newC_is, loadE_eq, getC_eq, getsB_succ, getsB_zero, oracF_cons]
  rw [gVg]
  refine Gd.mono (make_any _ g _) ?_
  rintro ⟨r, s1⟩ (⟨hg, z, hr, hz, x1⟩ | ⟨hg, hr, x1⟩)
  rotate_left
  · simp only at hr x1
    subst hr
    simp [evOp_call, T.get_set]
  simp only at hr hz x1
  subst hr
  obtain ⟨B, hB⟩ : ∃ B, B = g.b.toNat := ⟨_, rfl⟩
  rw [← hB] at hz
  have hok := imgOk hg
  have hbB : g.b = (B : Int) := by have := hok.b; omega
  have hb1 := hok.b
  have hL : (imgW g).length = 8 * B := by rw [hB]; exact hok.l5
  by_cases c1 : a < 0
  · simp [evOp_call, T.get_set, c1]
  obtain ⟨k, rfl⟩ := Int.eq_ofNat_of_zero_le (show 0 ≤ a by omega)
  have hzr := hz.rd
  by_cases c2 : 8 * (B : Int) ≤ (k : Int)
  · simp [evOp_call, T.get_set, c1, c2, hzr.lenS]
  have hk : k < 8 * B := by omega
  simp [evOp_call, T.get_set, c1, c2, hzr.lenS]
  rw [evOp_build0 (fun k => el60 k) (fun k => ze78 k) rfl]
  have he : Ext s1.nx s1 ⟨s1.nx + 1, s1.h.set s1.nx (.cs 78 0 .lf)⟩ := (Ext.refl _ _).new (Nat.le_refl _) _
  have hz' := hzr.ext he
  simp [evOp_call, T.get_set]
  refine Gd_append0 un60 un60 io78 (by decide) (T.get_set_same _ _ _) hzr.notS (fun k => hzr.len k) (fun k => hz'.firsts k) hzr.1 (by omega) (fun h0 => absurd h0 (by omega)) fun _ => ?_
  have he2 := he.new (Nat.le_succ _) (.cs 78 (wv (imgW g)).length (sets (wv (imgW g)) 0 .lf))
  have hw : OwnRow s1.nx ⟨s1.nx + 1 + 1, (s1.h.set s1.nx (.cs 78 0 .lf)).set (s1.nx + 1) (.cs 78 (wv (imgW g)).length (sets (wv (imgW g)) 0 .lf))⟩ (.sg (s1.nx + 1) 0 (8 * B) 1) 1 (8 * B) (wv (imgW g)) := by
    refine ⟨hzr.1, .inr ⟨s1.nx + 1, 78, sets (wv (imgW g)) 0 .lf, rfl, Nat.le_succ _, Nat.lt_succ_self _, ?_, by decide, fun j v hj => ?_⟩⟩
    · rw [← hzr.1]; exact T.get_set_same _ _ _
    · have hjl : j < (wv (imgW g)).length := lt_of_get hj
      rw [get_sets, if_pos ⟨Nat.zero_le _, by omega⟩]
      simpa using hj
  generalize (⟨s1.nx + 1 + 1, (s1.h.set s1.nx (.cs 78 0 .lf)).set (s1.nx + 1) (.cs 78 (wv (imgW g)).length (sets (wv (imgW g)) 0 .lf))⟩ : St) = s2 at he2 hw ⊢
  have hz2 := hz.ext he2
  have hzl : ∃ mz ty t, z = .sl mz 0 (8 * B) (8 * B) ∧ st.nx + 1 ≤ mz ∧ mz < s1.nx ∧ s1.h.get mz = some (.cs ty (8 * B) t) ∧ ty ≠ roT := by
    obtain ⟨_, m, ty, t, e1, e2, e3, e4, e5, _⟩ := hz
    exact ⟨m, ty, t, e1, e2, e3, e4, e5⟩
  obtain ⟨mz, tyz, tz, rfl, hmz, hmz2, gmz, hroz⟩ := hzl
  have hof := imgW_of hg
  rw [← hB] at hof
  simp [evOp_call, T.get_set]
  refine Gd.mono (iopen_any s2 _ B (by omega) (imgW g) hz2.rd (fun m o l q e => by injection e with _ _ e1 e2; omega) g 0#64 hof _) ?_
  rintro ⟨r, s3⟩ ⟨x, hr, hx, x3⟩
  simp only at hr hx x3
  subst hr
  obtain ⟨mx, tyx, tx, rfl, hmx, hmx2, gmx, hrox, hcx, hputx⟩ := hx.put hk
  have hasw : ∀ f : Nat → Res, asNat (V.int .i64 (k : Int)) f = f k := fun _ => rfl
  have q1 : ¬ s3.nx = mx := by omega
  have q1' : ¬ mx = s3.nx := by omega
  have hk1 : k + 1 ≤ 8 * B := hk
  have hle12 := he2.le
  have hle3 := x3.le
  have gmz3 : s3.h.get mz = some (.cs tyz (8 * B) tz) := (x3.keep _ (by omega)).trans ((he2.keep _ (by omega)).trans gmz)
  have q2 : ¬ s3.nx = mz := by omega
  have q3 : ¬ mx = mz := by omega
  obtain ⟨wk, hwk⟩ : ∃ w, (imgW g)[k]? = some w := ⟨_, List.getElem?_eq_getElem (by omega)⟩
  have hzc : tz.get k = some (wd wk) := by
    obtain ⟨_, m, ty, t, e1, _, _, e4, _, e6⟩ := hz
    injection e1 with e1
    subst e1
    rw [gmz] at e4
    injection e4 with e4
    injection e4 with _ _ e4
    subst e4
    exact e6 k wk hwk
  simp [evOp_call, sets, T.get_set, newC_is, storeK_g, storeK_1, putB_eq, roT, cellsOf, loadE_eq, getC_eq, hasw, hk, hk1, q1, q1', q2, q3, gmx, hrox, gmz3, hroz, hzc, hx.rd.lenS, hzr.lenS, oracF_cons]
  have hw3 := (hw.rd.ext x3).ext ((Ext.refl s3.nx s3).new (Nat.le_refl _) (.cs 65 5 ((((((((((T.lf.set 0 (V.int .i64 0)).set 1 (V.int .i64 0)).set 2 (V.int .i64 0)).set 3 (V.int .i64 0)).set 4 (V.c (.slice none 0 0))).set 0 (V.int .i64 g.b)).set 1 (V.int .i64 g.n)).set 2 (V.int .i64 g.c)).set 3 (V.int .i64 g.k)).set 4 (V.sg mx 0 (8 * B) 1))))
  obtain ⟨tyw, tw, gw, hcw, r0⟩ : ∃ ty t, s2.h.get (s1.nx + 1) = some (.cs ty (8 * B) t) ∧ t.get k = some (wd wk) ∧ s1.nx + 1 < s2.nx := by
    rcases hw.2 with ⟨e, _⟩ | ⟨m, ty, t, e, _, e2, e3, _, e5⟩
    · cases e
    · injection e with e
      subst e
      rw [Nat.mul_one] at e3
      exact ⟨ty, t, e3, e5 k _ (wv_get hwk), e2⟩
  have r1 : ¬ s1.nx + 1 = mx := by omega
  have q2' : ¬ mz = s3.nx := by omega
  have q3' : ¬ mz = mx := by omega
  have r2 : ¬ s1.nx + 1 = mz := by omega
  have r3 : ¬ s1.nx + 1 = s3.nx := by omega
  have ro1 : ¬ mx = st.nx := by omega
  have ro2 : ¬ mz = st.nx := by omega
  have ro3 : ¬ s3.nx = st.nx := by omega
  refine Gd.mono (iopen_any _ (.sg (s1.nx + 1) 0 (8 * B) 1) B (by omega) (imgW g) ((hw3.setOther (k := mx) (fun o l z e => by injection e with e; exact r1 e) (fun o l q e => by cases e) _).setOther (k := mz) (fun o l z e => by injection e with e; exact r2 e) (fun o l q e => by cases e) _) (fun m o l q e => by cases e) g 0#64 hof _) ?_
  rintro ⟨r, s5⟩ ⟨y, hr, hy, x5⟩
  simp only at hr hy x5
  subst hr
  have le5 : s3.nx + 1 ≤ s5.nx := x5.le
  have kX := x5.keep s3.nx (Nat.lt_succ_self _)
  simp [T.get_set, q1, q1', q2'] at kX
  have kmx := x5.keep mx (by show mx < s3.nx + 1; omega)
  simp [T.get_set, q1, q1', q2', q3'] at kmx
  have kmz := x5.keep mz (by show mz < s3.nx + 1; omega)
  simp [T.get_set] at kmz
  have kg := x5.keep st.nx (by show st.nx < s3.nx + 1; omega)
  simp [T.get_set, ro1, ro2, ro3] at kg
  have kg2 : s5.h.get st.nx = some (.cs 59 4 ((((T.lf.set 0 (.int .i64 g.b)).set 1 (.int .i64 g.n)).set 2 (.int .i64 g.c)).set 3 (.int .i64 g.k))) := kg.trans ((x3.keep _ (by omega)).trans ((he2.keep _ (by omega)).trans ((x1.keep _ (Nat.lt_succ_self _)).trans (T.get_set_same _ _ _))))
  have kw := x5.keep (s1.nx + 1) (by show s1.nx + 1 < s3.nx + 1; omega)
  have w1 : ¬ mx = s1.nx + 1 := by omega
  have w2 : ¬ mz = s1.nx + 1 := by omega
  have w3 : ¬ s3.nx = s1.nx + 1 := by omega
  simp [T.get_set, w1, w2, w3] at kw
  have kw2 := kw.trans ((x3.keep _ r0).trans gw)
  obtain ⟨my, rfl, hmy, hmy2⟩ : ∃ m, y = .sg m 0 (8 * B) 1 ∧ s3.nx + 1 ≤ m ∧ m < s5.nx := by
    rcases hy.2 with ⟨_, e⟩ | ⟨m, ty, t, e, e2, e3, _⟩
    · omega
    · exact ⟨m, e, e2, e3⟩
  have u1 : ¬ s5.nx = s3.nx := by omega
  have u2 : ¬ s5.nx = mx := by omega
  have u3 : ¬ s5.nx = mz := by omega
  have u4 : ¬ s5.nx = s1.nx + 1 := by omega
  have u5 : ¬ s5.nx = st.nx := by omega
  simp [evOp_call, sets, T.get_set, newC_is, storeK_g, storeK_1, putB_eq, roT, cellsOf]
  refine ⟨by kernel_rfl, ?_⟩
  simp [evOp_call, T.get_set, loadE_eq, getC_eq, kX, kmx, kmz, kw2, hcw, hasw, hk, u1, u2, u3, u4, oracF_cons]
  rw [cxOf_call (by kernel_rfl) (by kernel_rfl), forb_nil, liftF_nil]
  have hext := (Ext.refl s5.nx s5).new (Nat.le_refl _) (.cs 65 5 ((((((((((T.lf.set 0 (V.int .i64 0)).set 1 (V.int .i64 0)).set 2 (V.int .i64 0)).set 3 (V.int .i64 0)).set 4 (V.c (.slice none 0 0))).set 0 (V.int .i64 g.b)).set 1 (V.int .i64 g.n)).set 2 (V.int .i64 g.c)).set 3 (V.int .i64 g.k)).set 4 (V.sg my 0 (8 * B) 1)))
  have hy6 := hy.rd.ext hext
  have hwr5 : RdRow s5 (.sg (s1.nx + 1) 0 (8 * B) 1) 1 (8 * B) (wv (imgW g)) := ((hw3.setOther (k := mx) (fun o l z e => by injection e with e; exact r1 e) (fun o l q e => by cases e) _).setOther (k := mz) (fun o l z e => by injection e with e; exact r2 e) (fun o l q e => by cases e) _).ext x5
  have hw6 := hwr5.ext hext
  refine Gd.mono (isame_any _ (.sg my 0 (8 * B) 1) (.sg (s1.nx + 1) 0 (8 * B) 1) (imgW g) (imgW g) (by rw [hL]; exact hy6) (by rw [hL]; exact hw6) (by omega) _) ?_
  rintro _ rfl
  simp [evOp_call, T.get_set, loadE_eq, getC_eq, kg2, u5]
end Go.Proofs.YtgcpgidofikcdaaGreatDoor

/-
  PLAIN: ImM, ImN, ImO, ImP, ImQ, ImR, in one text.
-/
import Derived.Test.YtgcpgidofikcdaaGreatDoorImG
import Derived.Test.YtgcpgidofikcdaaGreatDoorNdBS
import Derived.Test.YtgcpgidofikcdaaGreatDoorDrw
set_option linter.unusedSimpArgs false
set_option linter.unusedVariables false
namespace Go.Proofs.YtgcpgidofikcdaaGreatDoor
open Go.RowKit Ev
def rsetI (st : St) (x y v : V) (L : List (BitVec 64)) (yes : Bool) (l : List Int) (en : Env) (s : St) : Prop := ∃ k : Nat, k ≤ l.length ∧ en.get 0 = some x ∧ en.get 1 = some (.bool yes) ∧ en.get 2 = some v ∧ en.get 7 = some y ∧ en.get 8 = some (.int .i64 (k : Int)) ∧
  RdRow s y 1 L.length (wv (setB L yes (l.take k))) ∧ (0 < L.length → OwnRow st.nx s y 1 L.length (wv (setB L yes (l.take k)))) ∧ Ext st.nx st s
set_option maxHeartbeats 2000000 in
theorem rset_any (st : St) (x v : V) (L : List (BitVec 64)) (hx : RdRow st x 1 L.length (wv L)) (hL : L.length ≤ 100000) (yes : Bool) (l : List Int) (hv : RdRow st v 1 l.length (iv l)) (hl : l.length ≤ 100000) (nt : Nat) :
    Gd (callL Tryz.prog ⟨false, [], 0, nt⟩ 153 [x, .bool yes, v] st) fun r => RdRow r.2 r.1 1 L.length (wv (setB L yes l)) ∧ Ext st.nx st r.2 ∧ CapOk r.1 ∧ RowFrom st.nx r.1 := by
  rw [Gd_callL Tryz.func153 rfl]
  have hw64 : IntKind.i64.wrap (64 * (L.length : Int)) = 64 * (L.length : Int) := wrap_in (by omega) (by omega)
  simp [evOp_call, sets, T.get_set]
  rw [evOp_build0 (fun k => el60 k) (fun k => ze78 k) rfl]
  simp [T.get_set]
  have he : Ext st.nx st ⟨st.nx + 1, st.h.set st.nx (.cs 78 0 .lf)⟩ := (Ext.refl _ _).new (Nat.le_refl _) _
  have hx' := hx.ext he
  have rest : ∀ (y : V) (s : St) (en : Env), RdRow s y 1 L.length (wv L) → (0 < L.length → OwnRow st.nx s y 1 L.length (wv L)) → Ext st.nx st s → en.get 0 = some x → en.get 1 = some (.bool yes) → en.get 2 = some v → en.get 7 = some y → en.get 8 = some (.int .i64 ((0 : Nat) : Int)) → rsetI st x y v L yes l en s := fun y s en h1 h2 h3 k0 k1 k2 k7 k8 =>
    ⟨0, Nat.zero_le _, k0, k1, k2, k7, k8, h1, h2, h3⟩
  refine Gd_append0 un60 un60 io78 (by decide) (T.get_set_same _ _ _) hx.notS (fun k => hx.len k) (fun k => hx'.firsts k) hx.1 (by omega) (fun h0 => ?_) fun h1 => ?_
  · simp [T.get_set]
    have hLn : L = [] := List.length_eq_zero_iff.1 h0
    subst hLn
    have hset : ∀ k, setB [] yes (l.take k) = [] := fun k => List.length_eq_zero_iff.1 (by rw [setB_length]; rfl)
    refine Gd_loop (fun en s => rsetI st x (.sl st.nx 0 0 0) v [] yes l en s) (fun en _ => muAt 8 l.length en) ?_ ?_
    · exact rest _ _ _ ⟨rfl, .inr (.inl ⟨st.nx, 0, 0, 78, 0, .lf, rfl, Nat.lt_succ_self _, T.get_set_same _ _ _, Nat.le_refl _, fun j v h => by simp [wv] at h⟩)⟩ (fun h => absurd h (by simp)) he (by simp [T.get_set]) (by simp [T.get_set]) (by simp [T.get_set]) (by simp [T.get_set]) (by simp [T.get_set])
    · rintro en s ⟨k, hk, g0, g1, g2, g7, g8, hry, hoy, hs⟩
      have hvs := hv.ext hs
      have hxs := hx.ext hs
      by_cases hlt : k < l.length
      · have hlt' : (k : Int) < l.length := by omega
        have hwk := wrap_nat (n := k) (by omega)
        obtain ⟨m, o, ty, sz, tr, hid, hm, hg, ho, hc⟩ := hvs.idx (st := s) un175 io3 hlt
        obtain ⟨i, hil⟩ : ∃ w, l[k]? = some w := ⟨_, List.getElem?_eq_getElem hlt⟩
        have t0 : tr.get o = some (.int .i64 i) := hc 0 _ (by omega) (by simpa using iv_get hil)
        have hxl := hxs.lenS
        have hw0 : IntKind.i64.wrap 0 = 0 := by decide
        by_cases hn : i < 0
        · simp [evOp_call, T.get_set, g0, g1, g2, g7, g8, hvs.lenS, hlt', hid, loadE_eq, getC_eq, hg, t0, hxl, hn, hwk]
          refine ⟨⟨k + 1, hlt, by simp [T.get_set, g0], by simp [T.get_set, g1], by simp [T.get_set, g2], by simp [T.get_set, g7], by simp [T.get_set], ?_, fun h => absurd h (by simp), hs⟩, muAt_lt g8 (by simp [T.get_set]) hlt⟩
          rw [hset] at hry ⊢; exact hry
        · have hb : 0 ≤ i := by omega
          simp [evOp_call, T.get_set, g0, g1, g2, g7, g8, hvs.lenS, hlt', hid, loadE_eq, getC_eq, hg, t0, hxl, hn, hw0, hb, hwk]
          refine ⟨⟨k + 1, hlt, by simp [T.get_set, g0], by simp [T.get_set, g1], by simp [T.get_set, g2], by simp [T.get_set, g7], by simp [T.get_set], ?_, fun h => absurd h (by simp), hs⟩, muAt_lt g8 (by simp [T.get_set]) hlt⟩
          rw [hset] at hry ⊢; exact hry
      · obtain rfl : k = l.length := by omega
        rw [List.take_length] at hry
        simp [evOp_call, T.get_set, g0, g1, g2, g7, g8, hvs.lenS]
        exact ⟨hry, hs, fun m o l q e => (by injection e; omega), fun _ _ _ _ e => (by cases e), fun _ _ _ _ e => (by cases e; exact Nat.le_refl _)⟩
  · simp [T.get_set]
    have h2 := he.new (Nat.le_succ _) (.cs 78 L.length (sets (wv L) 0 .lf))
    have ho : OwnRow st.nx ⟨st.nx + 1 + 1, (st.h.set st.nx (.cs 78 0 .lf)).set (st.nx + 1) (.cs 78 L.length (sets (wv L) 0 .lf))⟩ (.sg (st.nx + 1) 0 L.length 1) 1 L.length (wv L) := by
      refine ⟨by simp, .inr ⟨st.nx + 1, 78, sets (wv L) 0 .lf, rfl, Nat.le_succ _, Nat.lt_succ_self _, ?_, by decide, fun j v hj => ?_⟩⟩
      · rw [Nat.mul_one]; exact T.get_set_same _ _ _
      · have hjl : j < (wv L).length := lt_of_get hj
        rw [get_sets, if_pos ⟨Nat.zero_le _, by omega⟩]
        simpa using hj
    refine Gd_loop (fun en s => rsetI st x (.sg (st.nx + 1) 0 L.length 1) v L yes l en s) (fun en _ => muAt 8 l.length en) ?_ ?_
    · exact rest _ _ _ ho.rd (fun _ => ho) h2 (by simp [T.get_set]) (by simp [T.get_set]) (by simp [T.get_set]) (by simp [T.get_set]) (by simp [T.get_set])
    · clear ho h2
      rintro en s ⟨k, hk, g0, g1, g2, g7, g8, hry, hoy, hs⟩
      have hvs := hv.ext hs
      have hxs := hx.ext hs
      by_cases hlt : k < l.length
      · have hlt' : (k : Int) < l.length := by omega
        have hwk := wrap_nat (n := k) (by omega)
        obtain ⟨m, o, ty, sz, tr, hid, hm, hg, ho, hc⟩ := hvs.idx (st := s) un175 io3 hlt
        obtain ⟨i, hil⟩ : ∃ w, l[k]? = some w := ⟨_, List.getElem?_eq_getElem hlt⟩
        have t0 : tr.get o = some (.int .i64 i) := hc 0 _ (by omega) (by simpa using iv_get hil)
        have hlen := setB_length yes (l.take k) L
        by_cases hin : 0 ≤ i ∧ i < L.length * 64
        · have hone2 : setOne yes (setB L yes (l.take k)) i = (setB L yes (l.take k)).set (i.toNat / 64) (if yes then (setB L yes (l.take k))[i.toNat / 64]?.getD 0#64 ||| 1#64 <<< (i.toNat % 64) else (setB L yes (l.take k))[i.toNat / 64]?.getD 0#64 &&& ~~~(1#64 <<< (i.toNat % 64))) := by
            unfold setOne; rw [if_pos ⟨hin.1, by rw [hlen]; exact hin.2⟩]
          obtain ⟨n, rfl⟩ := Int.eq_ofNat_of_zero_le hin.1
          have hnl : n / 64 < L.length := by omega
          have hnl1 : n / 64 + 1 ≤ L.length := hnl
          obtain ⟨m2, ty2, tr2, hsg, hb2, hm2, hg2, hro2, hc2, hput⟩ := OwnRow.put (hoy (by omega)) (i := n / 64) (by omega)
          injection hsg with hsg; subst hsg
          obtain ⟨w, hwl⟩ : ∃ w, (setB L yes (l.take k))[n / 64]? = some w := ⟨_, List.getElem?_eq_getElem (by rw [hlen]; exact hnl)⟩
          have u0 : tr2.get (n / 64) = some (wd w) := hc2 _ _ (wv_get hwl)
          have hwd : IntKind.i64.wrap ((n : Int) / 64) = (n : Int) / 64 := wrap_in (by omega) (by omega)
          have hnt : (BitVec.ofInt 64 ((n : Int) % 64)).toNat = n % 64 := by
            rw [BitVec.toNat_ofInt]; omega
          have hn : ¬ (n : Int) < 0 := by omega
          have hb : ¬ 64 * (L.length : Int) ≤ (n : Int) := by omega
          cases yes with
          | true =>
            simp [evOp_call, T.get_set, g0, g1, g2, g7, g8, hvs.lenS, hlt', hid, loadE_eq, getC_eq, hg, t0, hxs.lenS, hw64, hn, hb, quo64, rem64, hwd, asNat_div, hnl, hg2, u0, hnt, sets, putB_eq, roT, hro2, hnl1, hwk]
            have hset : setB L true (l.take (k + 1)) = (setB L true (l.take k)).set (n / 64) (w ||| 1#64 <<< (n % 64)) := by
              rw [setB_take hil, hone2]; simp [hwl]
            have hp := hput (wd (w ||| 1#64 <<< (n % 64)))
            have hwv : wv ((setB L true (l.take k)).set (n / 64) (w ||| 1#64 <<< (n % 64))) = (wv (setB L true (l.take k))).set (n / 64) (wd (w ||| 1#64 <<< (n % 64))) := by unfold wv; rw [List.map_set]
            refine ⟨⟨k + 1, hlt, by simp [T.get_set, g0], by simp [T.get_set, g1], by simp [T.get_set, g2], by simp [T.get_set, g7], by simp [T.get_set], ?_, fun h => ?_, hs.set (by omega) hm2 _⟩, muAt_lt g8 (by simp [T.get_set]) hlt⟩
            · rw [hset, hwv]; exact hp.rd
            · rw [hset, hwv]; exact hp
          | false =>
            simp [evOp_call, T.get_set, g0, g1, g2, g7, g8, hvs.lenS, hlt', hid, loadE_eq, getC_eq, hg, t0, hxs.lenS, hw64, hn, hb, quo64, rem64, hwd, asNat_div, hnl, hg2, u0, hnt, sets, putB_eq, roT, hro2, hnl1, hwk]
            have hset : setB L false (l.take (k + 1)) = (setB L false (l.take k)).set (n / 64) (w &&& ~~~(1#64 <<< (n % 64))) := by
              rw [setB_take hil, hone2]; simp [hwl]
            have hp := hput (wd (w &&& ~~~(1#64 <<< (n % 64))))
            have hwv : wv ((setB L false (l.take k)).set (n / 64) (w &&& ~~~(1#64 <<< (n % 64)))) = (wv (setB L false (l.take k))).set (n / 64) (wd (w &&& ~~~(1#64 <<< (n % 64)))) := by unfold wv; rw [List.map_set]
            refine ⟨⟨k + 1, hlt, by simp [T.get_set, g0], by simp [T.get_set, g1], by simp [T.get_set, g2], by simp [T.get_set, g7], by simp [T.get_set], ?_, fun h => ?_, hs.set (by omega) hm2 _⟩, muAt_lt g8 (by simp [T.get_set]) hlt⟩
            · rw [hset, hwv]; exact hp.rd
            · rw [hset, hwv]; exact hp
        · have hone2 : setOne yes (setB L yes (l.take k)) i = setB L yes (l.take k) := by
            unfold setOne; rw [if_neg (by rw [hlen]; exact hin)]
          by_cases hn : i < 0
          · simp [evOp_call, T.get_set, g0, g1, g2, g7, g8, hvs.lenS, hlt', hid, loadE_eq, getC_eq, hg, t0, hn, hwk]
            refine ⟨⟨k + 1, hlt, by simp [T.get_set, g0], by simp [T.get_set, g1], by simp [T.get_set, g2], by simp [T.get_set, g7], by simp [T.get_set], ?_, fun h => ?_, hs⟩, muAt_lt g8 (by simp [T.get_set]) hlt⟩
            · rw [setB_take hil, hone2]; exact hry
            · rw [setB_take hil, hone2]; exact hoy h
          · have hb : 64 * (L.length : Int) ≤ i := by omega
            simp [evOp_call, T.get_set, g0, g1, g2, g7, g8, hvs.lenS, hlt', hid, loadE_eq, getC_eq, hg, t0, hxs.lenS, hw64, hn, hb, hwk]
            refine ⟨⟨k + 1, hlt, by simp [T.get_set, g0], by simp [T.get_set, g1], by simp [T.get_set, g2], by simp [T.get_set, g7], by simp [T.get_set], ?_, fun h => ?_, hs⟩, muAt_lt g8 (by simp [T.get_set]) hlt⟩
            · rw [setB_take hil, hone2]; exact hry
            · rw [setB_take hil, hone2]; exact hoy h
      · obtain rfl : k = l.length := by omega
        rw [List.take_length] at hry
        simp [evOp_call, T.get_set, g0, g1, g2, g7, g8, hvs.lenS]
        exact ⟨hry, hs, fun m o l q e => (by cases e), fun _ _ _ _ e => (by cases e; exact Nat.le_succ _), fun _ _ _ _ e => (by cases e)⟩

theorem putL_set {L : List (BitVec 64)} {i j : Nat} {W : List (BitVec 64)} {v : BitVec 64} (hj : W[j]? = some v) (h : i + W.length ≤ L.length) : putL L i (W.take (j + 1)) = (putL L i (W.take j)).set (i + j) v := by
  have hjl := lt_of_get hj
  have h1 : i + (W.take (j + 1)).length ≤ L.length := by rw [List.length_take]; omega
  have h2 : i + (W.take j).length ≤ L.length := by rw [List.length_take]; omega
  apply List.ext_getElem?
  intro k
  rw [putL_get h1, List.getElem?_set, putL_length h2, putL_get h2]
  simp only [List.length_take, List.getElem?_take]
  rw [show min (j + 1) W.length = j + 1 by omega, show min j W.length = j by omega]
  by_cases hk : i + j = k
  · rw [if_pos (by omega), if_pos hk, if_pos (by omega), if_pos (by omega), show k - i = j by omega]; exact hj
  · rw [if_neg hk]
    by_cases c : i ≤ k ∧ k < i + j
    · rw [if_pos (by omega), if_pos c, if_pos (by omega), if_pos (by omega)]
    · rw [if_neg (by omega), if_neg c]
theorem putL_nil (L : List (BitVec 64)) (i : Nat) : putL L i [] = L := by
  unfold putL
  rw [List.append_nil, List.length_nil, Nat.add_zero, List.take_append_drop]
def rpI (st : St) (q m n a : Nat) (w : V) (L W : List (BitVec 64)) (e : Env) (s : St) : Prop := ∃ j : Nat, j ≤ 8 ∧ e.get 0 = some (.p q 0) ∧ e.get 1 = some (.int .i64 (a : Int)) ∧ e.get 2 = some w ∧ e.get 6 = some (.sg m 0 n 1) ∧ e.get 7 = some (.int .i64 (j : Int)) ∧ OwnRow st.nx s (.sg m 0 n 1) 1 n (wv (putL L (a * 8) (W.take j))) ∧ Ext st.nx st s
set_option maxRecDepth 20000 in
set_option maxHeartbeats 4000000 in
/-- the document's own way to put a block -/
theorem riput_any (st : St) (q n a : Nat) (x w : V) (L W : List (BitVec 64)) (tq : T V) (hq : st.h.get q = some (.cs 81 5 tq)) (hqn : q < st.nx) (hx : tq.get 4 = some x) (hxr : RdRow st x 1 n (wv L)) (hw : RdRow st w 1 8 (wv W)) (ha : a * 8 + 8 ≤ n) (hn : n ≤ 100000) (nt : Nat) :
    Gd (callL Tryz.prog ⟨false, [], 0, nt⟩ 88 [.p q 0, .int .i64 (a : Int), w] st) fun r => ∃ m s', r.2 = ⟨s'.nx, s'.h.set q (.cs 81 5 (tq.set 4 (.sg m 0 n 1)))⟩ ∧ Ext st.nx st s' ∧ OwnRow st.nx s' (.sg m 0 n 1) 1 n (wv (putL L (a * 8) W)) := by
  rw [Gd_callL Tryz.func88 rfl]
  have hLl : L.length = n := by simpa using hxr.1
  have hWl : W.length = 8 := by simpa using hw.1
  simp [evOp_call, sets, T.get_set]
  rw [evOp_build0 (fun k => el60 k) (fun k => ze78 k) rfl]
  have he : Ext st.nx st ⟨st.nx + 1, st.h.set st.nx (.cs 78 0 .lf)⟩ := (Ext.refl _ _).new (Nat.le_refl _) _
  have hx' := hxr.ext he
  have q1 : ¬ st.nx = q := by omega
  simp [evOp_call, T.get_set, loadE_eq, getC_eq, hq, hx, q1]
  refine Gd_append0 un60 un60 io78 (by decide) (T.get_set_same _ _ _) hxr.notS (fun k => hxr.len k) (fun k => hx'.firsts k) hxr.1 (by omega) (fun h0 => absurd h0 (by omega)) fun _ => ?_
  have he2 := he.new (Nat.le_succ _) (.cs 78 (wv L).length (sets (wv L) 0 .lf))
  have ho : OwnRow st.nx ⟨st.nx + 1 + 1, (st.h.set st.nx (.cs 78 0 .lf)).set (st.nx + 1) (.cs 78 (wv L).length (sets (wv L) 0 .lf))⟩ (.sg (st.nx + 1) 0 n 1) 1 n (wv L) := by
    refine ⟨hxr.1, .inr ⟨st.nx + 1, 78, sets (wv L) 0 .lf, rfl, Nat.le_succ _, Nat.lt_succ_self _, ?_, by decide, fun j v hj => ?_⟩⟩
    · rw [← hxr.1]; exact T.get_set_same _ _ _
    · have hjl : j < (wv L).length := lt_of_get hj
      rw [get_sets, if_pos ⟨Nat.zero_le _, by omega⟩]
      simpa using hj
  simp [evOp_call, T.get_set]
  simp only [wv_length] at he2 ho
  refine Gd_loop (rpI st q (st.nx + 1) n a w L W) (fun e _ => muAt 7 8 e) ?_ ?_
  · exact ⟨0, Nat.zero_le _, by simp [T.get_set], by simp [T.get_set], by simp [T.get_set], by simp [T.get_set], by simp [T.get_set], by rw [List.take_zero, putL_nil]; exact ho, he2⟩
  clear ho he2
  rintro e s ⟨j, hj, g0, g1, g2, g6, g7, hrow, hs⟩
  have k0 := (hs.keep _ hqn).trans hq
  by_cases hlt : j < 8
  · have hlt' : (j : Int) < 8 := by omega
    have hwj := wrap_nat (n := j) (by omega)
    obtain ⟨v, hv⟩ : ∃ v, W[j]? = some v := ⟨_, List.getElem?_eq_getElem (by omega)⟩
    obtain ⟨m1, o1, ty1, sz1, t1, i1, b1, k1, l1, c1⟩ := (hw.ext hs).idx (st := s) un60 io78 hlt
    have d1 : t1.get o1 = some (wd v) := c1 0 _ (by omega) (by simpa using wv_get hv)
    obtain ⟨m2, ty2, tr2, hsg, hb2, hm2, hg2, hro2, hc2, hput⟩ := hrow.put (i := a * 8 + j) (by omega)
    injection hsg with hsg
    subst hsg
    have w1 : IntKind.i64.wrap (8 * (a : Int)) = 8 * (a : Int) := wrap_in (by omega) (by omega)
    have w2 : IntKind.i64.wrap (8 * (a : Int) + (j : Int)) = 8 * (a : Int) + (j : Int) := wrap_in (by omega) (by omega)
    have hask : ∀ f : Nat → Res, asNat (.int .i64 (8 * (a : Int) + (j : Int))) f = f (a * 8 + j) := fun f => by
      rw [show 8 * (a : Int) + (j : Int) = ((a * 8 + j : Nat) : Int) by omega]; exact asNat_cast ..
    have hi1 : a * 8 + j < n := by omega
    have hi2 : a * 8 + j + 1 ≤ n := by omega
    simp [evOp_call, T.get_set, g0, g1, g2, g6, g7, hlt', w1, w2, hask, hi1, hi2, i1, loadE_eq, getC_eq, k1, d1, storeK_1, putB_eq, hg2, hro2, sets, hwj]
    refine ⟨⟨j + 1, hlt, by simp [T.get_set, g0], by simp [T.get_set, g1], by simp [T.get_set, g2], by simp [T.get_set, g6], by simp [T.get_set], ?_, hs.set (m := st.nx + 1) (by omega) hm2 _⟩, muAt_lt g7 (by simp [T.get_set]) hlt⟩
    rw [putL_set hv (by omega), show wv ((putL L (a * 8) (List.take j W)).set (a * 8 + j) v) = (wv (putL L (a * 8) (List.take j W))).set (a * 8 + j) (wd v) by unfold wv; rw [List.map_set]]
    exact hput _
  · obtain rfl : j = 8 := by omega
    rw [show W.take 8 = W by rw [← hWl, List.take_length]] at hrow
    simp [evOp_call, sets, T.get_set, g0, g6, g7, storeK_1, putB_eq, roT, k0]
    exact ⟨_, s, ⟨rfl, rfl⟩, hs, hrow⟩
structure RiS (st s : St) (g : Gm) (q n : Nat) (L : List (BitVec 64)) : Prop where
  box : ∃ tq x, s.h.get q = some (.cs 81 5 tq) ∧ (tq.get 0 = some (.int .i64 g.b) ∧ tq.get 1 = some (.int .i64 g.n) ∧ tq.get 2 = some (.int .i64 g.c) ∧ tq.get 3 = some (.int .i64 g.k)) ∧ tq.get 4 = some x ∧ RdRow s x 1 n (wv L) ∧ ∀ m, rowIn x m → m ≠ q
  lt : st.nx < q ∧ q < s.nx
  gb : s.h.get st.nx = some (.cs 70 4 ((((T.lf.set 0 (.int .i64 g.b)).set 1 (.int .i64 g.n)).set 2 (.int .i64 g.c)).set 3 (.int .i64 g.k)))
  ex : Ext st.nx st s
theorem RiS.ext {st s s' : St} {g : Gm} {q n : Nat} {L : List (BitVec 64)} (h : RiS st s g q n L) (k : Ext s.nx s s') : RiS st s' g q n L := by
  obtain ⟨⟨tq, x, h1, h2, h3, h4, h5⟩, ⟨h6, h7⟩, h8, h9⟩ := h
  have := k.le
  exact ⟨⟨tq, x, (k.keep _ h7).trans h1, h2, h3, h4.ext k, h5⟩, ⟨h6, by omega⟩, (k.keep _ (by omega)).trans h8, h9.trans (k.mono h9.le)⟩
theorem RiS.put {st s : St} {g : Gm} {q n : Nat} {L : List (BitVec 64)} (h : RiS st s g q n L) (a : Nat) (w : V) (W : List (BitVec 64)) (hw : RdRow s w 1 8 (wv W)) (ha : a * 8 + 8 ≤ n) (hn : n ≤ 100000) (nt : Nat) :
    Gd (callL Tryz.prog ⟨false, [], 0, nt⟩ 88 [.p q 0, .int .i64 (a : Int), w] s) fun r => RiS st r.2 g q n (putL L (a * 8) W) ∧ s.nx ≤ r.2.nx ∧ ∀ k, k < s.nx → k ≠ q → r.2.h.get k = s.h.get k := by
  obtain ⟨⟨tq, x, h1, ⟨b0, b1, b2, b3⟩, h3, h4, h5⟩, ⟨h6, h7⟩, h8, h9⟩ := h
  refine Gd.mono (riput_any s q n a x w L W tq h1 h7 h3 h4 hw ha hn nt) ?_
  rintro ⟨r, s1⟩ ⟨m, s', hr, x1, ho⟩
  simp only at hr
  subst hr
  have hl := x1.le
  have hm : s.nx ≤ m := by
    rcases ho.2 with ⟨e, _⟩ | ⟨m', _, _, e, e2, _⟩
    · cases e
    · injection e with e; omega
  refine ⟨⟨⟨_, _, T.get_set_same _ _ _, ⟨(T.get_set_ne _ _ (by omega)).trans b0, (T.get_set_ne _ _ (by omega)).trans b1, (T.get_set_ne _ _ (by omega)).trans b2, (T.get_set_ne _ _ (by omega)).trans b3⟩, T.get_set_same _ _ _, ho.rd.setOther (k := q) (fun o l z e => by injection e with e; omega) (fun o l q e => by cases e) _, fun k hk => ?_⟩, ⟨h6, Nat.lt_of_lt_of_le h7 hl⟩, (T.get_set_ne _ _ (by omega)).trans ((x1.keep _ (by omega)).trans h8), (h9.trans (x1.mono h9.le)).set (m := q) (by omega) (by omega) _⟩, hl, fun k hk hkq => (T.get_set_ne _ _ (fun e => hkq e.symm)).trans (x1.keep _ hk)⟩
  rcases hk with ⟨_, _, _, e⟩ | ⟨_, _, _, e⟩
  · cases e
  · injection e with e; omega
/-- words put bit by bit are put at once -/
theorem putL_more {L W : List (BitVec 64)} {i k : Nat} (h : i + k + 8 ≤ L.length) (hk : k + 8 ≤ W.length) : putL (putL L i (W.take k)) (i + k) ((W.drop k).take 8) = putL L i (W.take (k + 8)) := by
  have l1 : (W.take k).length = k := by rw [List.length_take]; omega
  have l2 : ((W.drop k).take 8).length = 8 := by rw [List.length_take, List.length_drop]; omega
  have l3 : (W.take (k + 8)).length = k + 8 := by rw [List.length_take]; omega
  have h1 : i + (W.take k).length ≤ L.length := by omega
  have h2 : i + k + ((W.drop k).take 8).length ≤ (putL L i (W.take k)).length := by rw [putL_length h1]; omega
  have h3 : i + (W.take (k + 8)).length ≤ L.length := by omega
  apply List.ext_getElem?
  intro j
  rw [putL_get h2, putL_get h1, putL_get h3, l1, l2, l3]
  simp only [List.getElem?_take, List.getElem?_drop]
  by_cases c1 : i ≤ j ∧ j < i + k
  · rw [if_neg (by omega), if_pos c1, if_pos (by omega), if_pos (by omega), if_pos (by omega)]
  · rw [if_neg c1]
    by_cases c2 : i + k ≤ j ∧ j < i + k + 8
    · rw [if_pos c2, if_pos (by omega), if_pos (by omega), if_pos (by omega)]; congr 1; omega
    · rw [if_neg c2, if_neg (by omega)]
end Go.Proofs.YtgcpgidofikcdaaGreatDoor
set_option linter.unusedSimpArgs false
set_option linter.unusedVariables false
namespace Go.Proofs.YtgcpgidofikcdaaGreatDoor
open Go.RowKit Ev
def rsbI (st : St) (g : Gm) (q n : Nat) (L Wb : List (BitVec 64)) (y : V) (e : Env) (s : St) : Prop := ∃ i : Nat, i ≤ (bN g).toNat ∧ e.get 0 = some (.p q 0) ∧ e.get 1 = some y ∧ e.get 4 = some (.int .i64 (1 + g.c * g.k)) ∧ e.get 5 = some (.int .i64 (bN g)) ∧ e.get 6 = some (.int .i64 (i : Int)) ∧ RiS st s g q n (putL L (bitsF g * 8) (Wb.take (8 * i))) ∧ RdRow s y 1 (8 * (bN g).toNat) (wv Wb)
theorem RdRow.keepQ {s s' : St} {x : V} {z n q : Nat} {l : List V} (h : RdRow s x z n l) (hn : s.nx ≤ s'.nx) (k : ∀ m, m < s.nx → m ≠ q → s'.h.get m = s.h.get m) (hq : ∀ m, rowIn x m → m ≠ q) : RdRow s' x z n l := by
  obtain ⟨h1, h2⟩ := h
  refine ⟨h1, ?_⟩
  rcases h2 with h2 | ⟨m, o, r, ty, sz, t, rfl, h3, h4, h5⟩ | ⟨m, o, ty, sz, t, rfl, h3, h4, h5⟩
  · exact .inl h2
  · exact .inr (.inl ⟨m, o, r, ty, sz, t, rfl, by omega, (k m h3 (hq m (.inl ⟨_, _, _, rfl⟩))).trans h4, h5⟩)
  · exact .inr (.inr ⟨m, o, ty, sz, t, rfl, by omega, (k m h3 (hq m (.inr ⟨_, _, _, rfl⟩))).trans h4, h5⟩)
set_option maxRecDepth 20000 in
set_option maxHeartbeats 4000000 in
theorem rsetbits_any (st s : St) (g : Gm) (hg : isGood g) (q : Nat) (L Wb : List (BitVec 64)) (y : V) (h : RiS st s g q (8 * g.b.toNat) L) (hL : L.length = 8 * g.b.toNat) (hy : RdRow s y 1 (8 * (bN g).toNat) (wv Wb)) (hcap : CapOk y) (hyq : ∀ m, rowIn y m → m ≠ q) (nt : Nat) :
    Gd (callL Tryz.prog ⟨false, [], 0, nt⟩ 93 [.p q 0, y] s) fun r => RiS st r.2 g q (8 * g.b.toNat) (putL L (bitsF g * 8) Wb) := by
  rw [Gd_callL Tryz.func93 rfl]
  have hck := ck_le hg.1
  obtain ⟨⟨hb1, hb2, hn1', hn2', hc1, hc2, hk1, hk2⟩, hdN1⟩ := id hg
  have hbn : 1 ≤ bN g ∧ bN g ≤ 2 := by unfold bN; omega
  have hnF : nF g = 1 + g.c * g.k + bN g := rfl
  have hdF : dF g = nF g + g.n + g.n := rfl
  have hdN : dN g = g.b - 1 - dF g := rfl
  have hF : ((bitsF g : Nat) : Int) = 1 + g.c * g.k := by unfold bitsF; omega
  have hWl : Wb.length = 8 * (bN g).toNat := by simpa using hy.1
  have gVg : V.g [V.int .i64 g.b, V.int .i64 g.n, V.int .i64 g.c, V.int .i64 g.k] = gV g := rfl
  obtain ⟨⟨tq, x, h1, ⟨b0, b1, b2, b3⟩, h3, h4, h5⟩, _, _, _⟩ := id h
  simp [evOp_call, sets, T.get_set, loadE_eq, getC_eq, getsB_succ, getsB_zero, h1, b0, b1, b2, b3]
  rw [gVg]
  refine Gd.mono (rbits_any s [] (fun _ _ => rfl) g _) ?_
  rintro ⟨r, s1⟩ ⟨hr, x1⟩
  simp only at hr x1
  unfold at2 at hr
  rw [if_pos hg] at hr
  subst hr
  simp [evOp_call, T.get_set]
  refine Gd_loop (rsbI st g q (8 * g.b.toNat) L Wb y) (fun e _ => muAt 6 (bN g).toNat e) ?_ ?_
  · exact ⟨0, Nat.zero_le _, by simp [T.get_set], by simp [T.get_set], by simp [T.get_set], by simp [T.get_set], by simp [T.get_set], by rw [Nat.mul_zero, List.take_zero, putL_nil]; exact h.ext x1, hy.ext x1⟩
  clear h h1 h4 h5 x1 hy
  rintro e s ⟨i, hi, g0, g1, g4, g5, g6, hR, hy⟩
  by_cases hlt : (i : Int) < bN g
  case neg =>
    obtain rfl : i = (bN g).toNat := by omega
    have hgb : (((bN g).toNat : Nat) : Int) = bN g := by omega
    have hlt2 : ¬ bN g < bN g := by omega
    rw [show Wb.take (8 * (bN g).toNat) = Wb by rw [← hWl, List.take_length]] at hR
    simp [evOp_call, T.get_set, g0, g5, g6, hgb, hlt2, sets]
    exact hR
  have hwi := wrap_nat (n := i) (by omega)
  have w1 : IntKind.i64.wrap (8 * (i : Int)) = ((8 * i : Nat) : Int) := by rw [show 8 * (i : Int) = ((8 * i : Nat) : Int) by omega]; exact wrap_in (by omega) (by omega)
  have w2 : IntKind.i64.wrap (8 * (i : Int) + 8) = ((8 * i + 8 : Nat) : Int) := by rw [show 8 * (i : Int) + 8 = ((8 * i + 8 : Nat) : Int) by omega]; exact wrap_in (by omega) (by omega)
  have w3 : IntKind.i64.wrap (1 + g.c * g.k + (i : Int)) = ((bitsF g + i : Nat) : Int) := by rw [← hF]; exact wrap_in (by omega) (by omega)
  have w1' : ((8 * i : Nat) : Int) = 8 * (i : Int) := by omega
  simp [evOp_call, T.get_set, g0, g1, g4, g5, g6, hlt, w1, w2, w3]
  refine Gd_midR (i := .i64) (i2 := .i64) (k := 8 * i) (k2 := 8 * i + 8) un60 io78 hy hcap (by simp [T.get_set]) (by simp [T.get_set]) (by omega) (by omega) fun z hz => ?_
  have hz1 := hz s hy
  rw [show 8 * i + 8 - 8 * i = 8 by omega] at hz1
  simp [evOp_call, T.get_set]
  refine Gd.mono (show Gd (callL Tryz.prog ⟨false, [], 0, _⟩ 88 [.p q 0, .int .i64 ((bitsF g : Int) + (i : Int)), z] s) _ from hR.put (bitsF g + i) z ((Wb.drop (8 * i)).take 8) hz1 (by omega) (by omega) _) ?_
  rintro ⟨_, s2⟩ ⟨hR2, hn2, hk2'⟩
  simp only at hR2 hn2 hk2'
  simp [evOp_call, T.get_set, g6, hwi]
  refine ⟨⟨i + 1, by omega, by simp [T.get_set, g0], by simp [T.get_set, g1], by simp [T.get_set, g4], by simp [T.get_set, g5], by simp [T.get_set], ?_, RdRow.keepQ hy hn2 hk2' hyq⟩, muAt_lt g6 (by simp [T.get_set]) (by omega)⟩
  rw [show (bitsF g + i) * 8 = bitsF g * 8 + 8 * i by omega, putL_more (by omega) (by omega)] at hR2
  rw [show 8 * (i + 1) = 8 * i + 8 by omega]
  exact hR2
def rbitW (g : Gm) : List (BitVec 64) := setB (List.replicate (8 * (bN g).toNat) 0#64) true (outs g g.b.toNat)
theorem rbitW_length (g : Gm) : (rbitW g).length = 8 * (bN g).toNat := by unfold rbitW; rw [setB_length, List.length_replicate]
def rgB (st : St) (g : Gm) (s : St) : Prop := s.h.get st.nx = some (.cs 70 4 ((((T.lf.set 0 (.int .i64 g.b)).set 1 (.int .i64 g.n)).set 2 (.int .i64 g.c)).set 3 (.int .i64 g.k)))
def rboI (st : St) (b0 : Nat) (g : Gm) (x : V) (e : Env) (s : St) : Prop := ∃ (k : Nat) (y : V), k ≤ g.b.toNat ∧ e.get 1 = some (.c (.slice none 0 0)) ∧ e.get 2 = some (.p st.nx 0) ∧ e.get 7 = some x ∧ e.get 8 = some (.int .i64 (dF g)) ∧ e.get 9 = some (.int .i64 (dN g)) ∧ e.get 10 = some y ∧ e.get 11 = some (.int .i64 (k : Int)) ∧ rgB st g s ∧ SlRow b0 s x (8 * (bN g).toNat) (List.replicate (8 * (bN g).toNat) 0#64) ∧ st.nx < b0 ∧ Ext st.nx st s ∧ OwnRow (b0 + 1) s y 1 (outs g k).length (iv (outs g k)) ∧ b0 + 1 ≤ s.nx ∧ ∀ m, rowIn x m → m = b0
set_option maxRecDepth 20000 in
set_option maxHeartbeats 4000000 in
theorem rbitsOf_any (st : St) (g : Gm) (hg : isGood g) (nt : Nat) :
    Gd (callL Tryz.prog ⟨false, [], 0, nt⟩ 94 [gV g, .c (.slice none 0 0)] st) fun r => RdRow r.2 r.1 1 (8 * (bN g).toNat) (wv (rbitW g)) ∧ Ext st.nx st r.2 ∧ CapOk r.1 ∧ (∀ m, rowIn r.1 m → st.nx ≤ m) := by
  rw [Gd_callL Tryz.func94 rfl]
  have hck := ck_le hg.1
  obtain ⟨⟨hb1, hb2, hn1', hn2', hc1, hc2, hk1, hk2⟩, hdN1⟩ := id hg
  have hbn : 1 ≤ bN g ∧ bN g ≤ 2 := by unfold bN; omega
  obtain ⟨d1, d2, d3⟩ := dF_bd hg
  have gVg : V.g [V.int .i64 g.b, V.int .i64 g.n, V.int .i64 g.c, V.int .i64 g.k] = gV g := rfl
  simp [gV, evOp_call, sets, T.get_set, cellsOf, newC_is, loadE_eq, getC_eq, getsB_succ, getsB_zero]
  rw [gVg]
  have x0 : Ext st.nx st ⟨st.nx + 1, st.h.set st.nx (.cs 70 4 ((((T.lf.set 0 (.int .i64 g.b)).set 1 (.int .i64 g.n)).set 2 (.int .i64 g.c)).set 3 (.int .i64 g.k)))⟩ := (Ext.refl st.nx st).new (Nat.le_refl _) _
  refine Gd.mono (rbits_any _ [] (fun _ _ => rfl) g _) ?_
  rintro ⟨r, s1⟩ ⟨hr, x1⟩
  simp only at hr x1
  unfold at2 at hr
  rw [if_pos hg] at hr
  subst hr
  have l1 : st.nx + 1 ≤ s1.nx := x1.le
  have hs1 : Ext st.nx st s1 := x0.trans (x1.mono (Nat.le_succ _))
  have k0 : s1.h.get st.nx = some (.cs 70 4 ((((T.lf.set 0 (.int .i64 g.b)).set 1 (.int .i64 g.n)).set 2 (.int .i64 g.c)).set 3 (.int .i64 g.k))) := (x1.keep st.nx (Nat.lt_succ_self _)).trans (T.get_set_same _ _ _)
  obtain ⟨n, hn⟩ : ∃ n : Nat, n = 8 * (bN g).toNat := ⟨_, rfl⟩
  have w1 : IntKind.i64.wrap (8 * bN g) = (n : Int) := by rw [show 8 * bN g = (n : Int) by omega]; exact wrap_in (by omega) (by omega)
  simp [evOp_call, T.get_set, w1]
  refine Gd_make (i := .i64) (i' := .i64) (n := n) (q := n) (zs := [V.int .u64 0]) (fun k => el60 k) io78 (fun k => ze78 k) (by simp [T.get_set]) (by simp [T.get_set]) (Nat.le_refl _) (by omega) ?_
  have hsl := SlRow.made (b := s1.nx) (n := n) (st := s1) (el := 78) (Nat.le_refl _) (by decide)
  have x2 := fun b => (Ext.refl s1.nx s1).new (Nat.le_refl _) b
  have hn1 : ¬ s1.nx = st.nx := by omega
  simp [evOp_call, T.get_set, loadE_eq, getC_eq, getsB_succ, getsB_zero, k0, hn1]
  rw [gVg]
  refine Gd.mono (rdata_any _ g _) ?_
  rintro ⟨r, s3⟩ ⟨hr, x3⟩
  simp only at hr x3
  unfold at2 at hr
  rw [if_pos hg] at hr
  subst hr
  have l3 : s1.nx + 1 ≤ s3.nx := x3.le
  have hs3 : Ext st.nx st s3 := (hs1.trans ((x2 _).mono (by omega))).trans (x3.mono (by show st.nx ≤ s1.nx + 1; omega))
  have k3 : rgB st g s3 := (x3.keep st.nx (by show st.nx < s1.nx + 1; omega)).trans ((T.get_set_ne _ _ hn1).trans k0)
  have hsl3 := hsl.ext x3
  simp [evOp_call, T.get_set]
  refine Gd_loop (rboI st s1.nx g (.sl s1.nx 0 n n)) (fun e _ => muAt 11 g.b.toNat e) ?_ ?_
  · refine ⟨0, .c (.slice none 0 0), Nat.zero_le _, by simp [T.get_set], by simp [T.get_set], by simp [T.get_set], by simp [T.get_set], by simp [T.get_set], by simp [T.get_set], by simp [T.get_set], k3, by rw [← hn]; exact hsl3, by omega, hs3, OwnRow.nil _ _ _, l3, fun m hm => ?_⟩
    rcases hm with ⟨_, _, _, e⟩ | ⟨_, _, _, e⟩
    · injection e with e; exact e.symm
    · cases e
  clear hs3 k3 hsl3 x3 l3
  rintro e s ⟨k, y, hk, g1, g2, g7, g8, g9, g10, g11, hB, hsl, hb0, hs, hrow, hnx, hrx⟩
  have k4 : s.h.get st.nx = some (.cs 70 4 ((((T.lf.set 0 (.int .i64 g.b)).set 1 (.int .i64 g.n)).set 2 (.int .i64 g.c)).set 3 (.int .i64 g.k))) := hB
  have hol := outs_len g k
  have hnil : ∀ s : St, lenS s (V.c (.slice none 0 0)) = some (.int .i64 0, s) := fun s => (OwnRow.nil 0 s 2).rd.lenS s
  by_cases hlt : (k : Int) < g.b
  case neg =>
    obtain rfl : k = g.b.toNat := by omega
    have hgb : ((g.b.toNat : Nat) : Int) = g.b := by omega
    have hlt2 : ¬ g.b < g.b := by omega
    simp [evOp_call, T.get_set, g1, g2, g7, g10, g11, hgb, hlt2, loadE_eq, getC_eq, k4]
    refine Gd_loop (fun e' s' => e'.get 1 = some (.c (.slice none 0 0)) ∧ e'.get 7 = some (.sl s1.nx 0 n n) ∧ e'.get 10 = some y ∧ e'.get 12 = some (.int .i64 0) ∧ s' = s) (fun _ _ => 0) ?_ ?_
    · exact ⟨by simp [T.get_set, g1], by simp [T.get_set, g7], by simp [T.get_set, g10], by simp [T.get_set], rfl⟩
    rintro e' s' ⟨f1, f7, f10, f12, rfl⟩
    simp [evOp_call, T.get_set, f1, f7, f10, f12, hnil]
    rw [← hn] at hsl
    refine Gd.mono (rset_any s' (.sl s1.nx 0 n n) y (List.replicate n 0#64) (by rw [List.length_replicate]; exact hsl.rd) (by rw [List.length_replicate]; omega) true (outs g g.b.toNat) hrow.rd (by omega) _) ?_
    rintro ⟨r, s5⟩ ⟨h1, x5, h2, h3⟩
    simp only at h1 x5 h2 h3
    rw [List.length_replicate] at h1
    simp [evOp_call, T.get_set, sets]
    unfold rbitW
    rw [← hn]
    refine ⟨h1, hs.trans (x5.mono hs.le), h2, fun m hm => ?_⟩
    have := hs.le
    rcases hm with ⟨_, _, _, e⟩ | ⟨_, _, _, e⟩
    · have := h3.2 _ _ _ _ e; omega
    · have := h3.1 _ _ _ _ e; omega
  have hwk := wrap_nat (n := k) (by omega)
  have wd1 : IntKind.i64.wrap (dF g + dN g) = dF g + dN g := wrap_in (by omega) (by omega)
  by_cases ho : isOut g k = true
  · have hcase : (k : Int) < dF g ∨ (¬ (k : Int) < dF g ∧ dF g + dN g ≤ (k : Int)) := by
      have : (k : Int) < dF g ∨ dF g + dN g ≤ (k : Int) := by unfold isOut at ho; exact of_decide_eq_true ho
      by_cases h : (k : Int) < dF g
      · exact .inl h
      · exact .inr ⟨h, this.resolve_left h⟩
    rcases hcase with c1 | ⟨c1, c2⟩
    · simp [evOp_call, T.get_set, g1, g2, g7, g8, g9, g10, g11, hlt, c1, loadE_eq, getC_eq, k4]
      refine evOp_build1 (v := .int .i64 (k : Int)) (cs := [.int .i64 (k : Int)]) (fun k => el175 k) (fun k => ze3 k) rfl (by decide) (by simp [T.get_set]) (fun k => rfl) rfl ?_
      simp [T.get_set]
      have x8 := (Ext.refl s.nx s).new (Nat.le_refl _) (.cs 3 1 (sets [V.int .i64 (k : Int)] 0 .lf))
      refine Gd_append un175 un175 io3 (lx := 1) (new := [.int .i64 (k : Int)]) (hrow.ext x8) (by show s1.nx + 1 ≤ s.nx + 1; omega) (by decide) (fun s' h => by cases h) (fun k => rfl) (fun k => by simp [getC_eq, getsB_1, T.get_set, sets]) rfl (by omega) ?_
      intro w' s8 hro x9 _ _
      simp [evOp_call, T.get_set, g11, hwk]
      have xx : Ext (s1.nx + 1) s s8 := (x8.mono (by omega)).trans x9
      have hxl := xx.le
      refine ⟨⟨k + 1, w', by omega, by simp [T.get_set, g1], by simp [T.get_set, g2], by simp [T.get_set, g7], by simp [T.get_set, g8], by simp [T.get_set, g9], by simp [T.get_set], by simp [T.get_set], (xx.keep _ (by omega)).trans hB, ?_, hb0, hs.trans ⟨xx.le, xx.wf, fun n hn => xx.keep n (by omega)⟩, ?_, by omega, hrx⟩, muAt_lt g11 (by simp [T.get_set]) (by omega)⟩
      · obtain ⟨z1, m, ty, t, z2, z3, z4, z5, z6, z7⟩ := hsl
        have hm := hrx m (.inl ⟨_, _, _, z2⟩)
        exact ⟨z1, m, ty, t, z2, z3, by omega, (xx.keep m (by omega)).trans z5, z6, z7⟩
      rw [outs_succ, if_pos ho]
      have e3 : iv (outs g k ++ [(k : Int)]) = iv (outs g k) ++ [V.int .i64 (k : Int)] := by simp [iv]
      rw [e3, List.length_append]
      exact hro
    · simp [evOp_call, T.get_set, g1, g2, g7, g8, g9, g10, g11, hlt, c1, c2, wd1, loadE_eq, getC_eq, k4]
      refine evOp_build1 (v := .int .i64 (k : Int)) (cs := [.int .i64 (k : Int)]) (fun k => el175 k) (fun k => ze3 k) rfl (by decide) (by simp [T.get_set]) (fun k => rfl) rfl ?_
      simp [T.get_set]
      have x8 := (Ext.refl s.nx s).new (Nat.le_refl _) (.cs 3 1 (sets [V.int .i64 (k : Int)] 0 .lf))
      refine Gd_append un175 un175 io3 (lx := 1) (new := [.int .i64 (k : Int)]) (hrow.ext x8) (by show s1.nx + 1 ≤ s.nx + 1; omega) (by decide) (fun s' h => by cases h) (fun k => rfl) (fun k => by simp [getC_eq, getsB_1, T.get_set, sets]) rfl (by omega) ?_
      intro w' s8 hro x9 _ _
      simp [evOp_call, T.get_set, g11, hwk]
      have xx : Ext (s1.nx + 1) s s8 := (x8.mono (by omega)).trans x9
      have hxl := xx.le
      refine ⟨⟨k + 1, w', by omega, by simp [T.get_set, g1], by simp [T.get_set, g2], by simp [T.get_set, g7], by simp [T.get_set, g8], by simp [T.get_set, g9], by simp [T.get_set], by simp [T.get_set], (xx.keep _ (by omega)).trans hB, ?_, hb0, hs.trans ⟨xx.le, xx.wf, fun n hn => xx.keep n (by omega)⟩, ?_, by omega, hrx⟩, muAt_lt g11 (by simp [T.get_set]) (by omega)⟩
      · obtain ⟨z1, m, ty, t, z2, z3, z4, z5, z6, z7⟩ := hsl
        have hm := hrx m (.inl ⟨_, _, _, z2⟩)
        exact ⟨z1, m, ty, t, z2, z3, by omega, (xx.keep m (by omega)).trans z5, z6, z7⟩
      rw [outs_succ, if_pos ho]
      have e3 : iv (outs g k ++ [(k : Int)]) = iv (outs g k) ++ [V.int .i64 (k : Int)] := by simp [iv]
      rw [e3, List.length_append]
      exact hro
  · have ho' : ¬ ((k : Int) < dF g ∨ dF g + dN g ≤ (k : Int)) := fun h => ho (by unfold isOut; exact decide_eq_true h)
    have c1 : ¬ (k : Int) < dF g := fun h => ho' (.inl h)
    have c2 : ¬ dF g + dN g ≤ (k : Int) := fun h => ho' (.inr h)
    simp [evOp_call, T.get_set, g1, g2, g7, g8, g9, g10, g11, hlt, c1, c2, wd1, hwk, loadE_eq, getC_eq, k4]
    exact ⟨⟨k + 1, y, by omega, by simp [T.get_set, g1], by simp [T.get_set, g2], by simp [T.get_set, g7], by simp [T.get_set, g8], by simp [T.get_set, g9], by simp [T.get_set, g10], by simp [T.get_set], hB, hsl, hb0, hs, by rw [outs_succ, if_neg ho, List.append_nil]; exact hrow, hnx, hrx⟩, muAt_lt g11 (by simp [T.get_set]) (by omega)⟩
end Go.Proofs.YtgcpgidofikcdaaGreatDoor
set_option linter.unusedSimpArgs false
set_option linter.unusedVariables false
namespace Go.Proofs.YtgcpgidofikcdaaGreatDoor
open Go.RowKit Ev
noncomputable def imF : CallF := addF Tryz.prog (callL Tryz.prog) 32
theorem imF_both : CallSound Tryz.prog imF ∧ HasBody Tryz.prog imF := addF_both namesOkT mixesT _ (callL_both namesOkT mixesT)
set_option maxRecDepth 20000 in
set_option maxHeartbeats 2000000 in
theorem rlostNode_any (st : St) (g : Gm) (hg : isGood g) (nt : Nat) :
    Gd (callL Tryz.prog ⟨false, [], 0, nt⟩ 92 [gV g] st) fun r => ∃ y, r.1 = ndV (lostN g) y ∧ RdRow r.2 y 2 (lostN g).R.length (pairs (lostN g).R) ∧ Ext st.nx st r.2 := by
  rw [Gd_callL Tryz.func92 rfl]
  have gVg : V.g [V.int .i64 g.b, V.int .i64 g.n, V.int .i64 g.c, V.int .i64 g.k] = gV g := rfl
  simp [gV, evOp_call, sets, T.get_set, cellsOf, newC_is, loadE_eq, getC_eq, getsB_succ, getsB_zero]
  rw [gVg]
  have x0 := fun b b' => ((Ext.refl st.nx st).new (Nat.le_refl _) b).new (b := st.nx) (Nat.le_succ _) b'
  refine Gd.mono (rlost_any _ g _) ?_
  rintro ⟨r, s1⟩ ⟨hr, x1⟩
  simp only at hr x1
  unfold at2 at hr
  rw [if_pos hg] at hr
  subst hr
  have l1 : st.nx + 1 + 1 ≤ s1.nx := x1.le
  have hs1 : Ext st.nx st s1 := (x0 _ _).trans (x1.mono (by show st.nx ≤ st.nx + 1 + 1; omega))
  have k1 : s1.h.get (st.nx + 1) = _ := (x1.keep (st.nx + 1) (Nat.lt_succ_self _)).trans (T.get_set_same _ _ _)
  simp [evOp_call, T.get_set]
  refine evOp_build1 (v := .g [.int .i64 (nF g + g.n), .int .i64 g.n]) (cs := [.int .i64 (nF g + g.n), .int .i64 g.n]) (fun k => el156 k) (fun k => ze219 k) rfl (by decide) (by simp [T.get_set]) (fun k => rfl) rfl ?_
  have hn1 : ¬ s1.nx = st.nx + 1 := by omega
  simp [evOp_call, sets, T.get_set, storeK_g, putB_eq, roT, k1, hn1, cellsOf, loadE_eq, getC_eq, getsB_succ, getsB_zero]
  have hrun : RdRow (⟨s1.nx + 1, s1.h.set s1.nx (.cs 219 2 ((T.lf.set 0 (.int .i64 (nF g + g.n))).set 1 (.int .i64 g.n)))⟩ : St) (.sl s1.nx 0 1 1) 2 (lostN g).R.length (pairs (lostN g).R) := by
    refine ⟨rfl, .inr (.inl ⟨s1.nx, 0, 1, 219, 2, _, rfl, Nat.lt_succ_self _, T.get_set_same _ _ _, Nat.le_refl _, fun j v hj => ?_⟩)⟩
    have hj2 : j < 2 := lt_of_get hj
    have hj' : [V.int .i64 (nF g + g.n), V.int .i64 g.n][j]? = some v := hj
    rcases (by omega : j = 0 ∨ j = 1) with rfl | rfl
    · simp at hj'; subst hj'; simp [T.get_set]
    · simp at hj'; subst hj'; simp [T.get_set]
  exact ⟨_, rfl, hrun.setOther (k := st.nx + 1) (fun o l z e => by cases e) (fun o l q e => by injection e with e; omega) _, (hs1.new (by omega) _).set (m := st.nx + 1) (Nat.le_succ _) (by show st.nx + 1 < s1.nx + 1; omega) _⟩
theorem RiS.putI {st s : St} {g : Gm} {q n : Nat} {L : List (BitVec 64)} (h : RiS st s g q n L) (a : Int) (h0 : 0 ≤ a) (w : V) (W : List (BitVec 64)) (hw : RdRow s w 1 8 (wv W)) (ha : a.toNat * 8 + 8 ≤ n) (hn : n ≤ 100000) (nt : Nat) :
    Gd (callL Tryz.prog ⟨false, [], 0, nt⟩ 88 [.p q 0, .int .i64 a, w] s) fun r => RiS st r.2 g q n (putL L (a.toNat * 8) W) := by
  have := h.put a.toNat w W hw ha hn nt
  rw [Int.toNat_of_nonneg h0] at this
  exact Gd.mono this fun r h => h.1
theorem fits_root : fitsN rootN := by decide
theorem fits_lost {g : Gm} (hg : isGood g) : fitsN (lostN g) := by
  have hck := ck_le hg.1
  obtain ⟨⟨hb1, hb2, hn1', hn2', hc1, hc2, hk1, hk2⟩, hdN1⟩ := id hg
  have hbn : 1 ≤ bN g ∧ bN g ≤ 2 := by unfold bN; omega
  have hnF : nF g = 1 + g.c * g.k + bN g := rfl
  unfold fitsN lostN
  rw [if_neg (by show ¬ (2 : Int) = 0; decide)]
  refine ⟨⟨by show (1 : Int) ≤ 2; decide, by show (2 : Int) ≤ 3; decide⟩, ⟨by show (0 : Int) ≤ 1; decide, by show (1 : Int) ≤ 16777215; decide⟩, ⟨by show 0 ≤ g.n; omega, by show g.n ≤ 1099511627776; omega⟩, by show 1 ≤ 4; decide, fun r hr => ?_⟩
  simp at hr
  subst hr
  exact ⟨⟨by show 0 ≤ nF g + g.n; omega, by show nF g + g.n ≤ 2147483648; omega⟩, by show 1 ≤ g.n; omega, by show g.n ≤ 2147483648; omega⟩
theorem putN_eight {N : Nd} (h : fitsN N) : (putN N).length = 8 := by
  unfold putN
  rw [if_pos h]
  split
  · simp
  · rw [List.length_set, bodyN, runsN_length]
theorem bldRimgS (x y : Operand) (a b c d : Int) (m n : Nat) (st : St) : bldK Tryz.prog 81 [(0, x), (1, y)] [.g [.int .i64 a, .int .i64 b, .int .i64 c, .int .i64 d], .sl m 0 n n] [.int .i64 0, .int .i64 0, .int .i64 0, .int .i64 0, .c (.slice none 0 0)] st = some (.g [.int .i64 a, .int .i64 b, .int .i64 c, .int .i64 d, .sl m 0 n n], st) := by kernel_rfl
theorem bldRnd2 (x y : Operand) (a b : Int) (st : St) : bldK Tryz.prog 158 [(0, x), (1, y)] [.int .i64 a, .int .i64 b] [.int .i64 0, .int .i64 0, .int .i64 0, .c (.slice none 0 0)] st = some (.g [.int .i64 a, .int .i64 b, .int .i64 0, .c (.slice none 0 0)], st) := by kernel_rfl
def rimgW (g : Gm) : List (BitVec 64) := putL (img4 g) (bitsF g * 8) (rbitW g)
set_option maxRecDepth 20000 in
set_option maxHeartbeats 8000000 in
theorem rmake_any (st : St) (g : Gm) (hg : isGood g) (nt : Nat) :
    Gd (imF ⟨false, [], 0, nt⟩ 32 [gV g] st) fun r => RdRow r.2 r.1 1 (8 * g.b.toNat) (wv (rimgW g)) ∧ Ext st.nx st r.2 := by
  rw [imF, Gd_addF Tryz.func32 rfl]
  have hok := imgOk hg
  have gVg : V.g [V.int .i64 g.b, V.int .i64 g.n, V.int .i64 g.c, V.int .i64 g.k] = gV g := rfl
  simp [gV, evOp_call, sets, T.get_set, cellsOf, newC_is, loadE_eq, getC_eq, getsB_succ, getsB_zero]
  rw [gVg]
  have x0 : Ext st.nx st ⟨st.nx + 1, st.h.set st.nx (.cs 70 4 ((((T.lf.set 0 (.int .i64 g.b)).set 1 (.int .i64 g.n)).set 2 (.int .i64 g.c)).set 3 (.int .i64 g.k)))⟩ := (Ext.refl st.nx st).new (Nat.le_refl _) _
  refine Gd.mono (rgood_any _ [] (fun _ _ => rfl) g _) ?_
  rintro ⟨r, s1⟩ ⟨hr, x1⟩
  simp only at hr x1
  subst hr
  have l1 : st.nx + 1 ≤ s1.nx := x1.le
  have hs1 : Ext st.nx st s1 := x0.trans (x1.mono (Nat.le_succ _))
  have k0 : s1.h.get st.nx = some (.cs 70 4 ((((T.lf.set 0 (.int .i64 g.b)).set 1 (.int .i64 g.n)).set 2 (.int .i64 g.c)).set 3 (.int .i64 g.k))) := (x1.keep st.nx (Nat.lt_succ_self _)).trans (T.get_set_same _ _ _)
  have hd : decide (isGood g) = true := by simpa using hg
  have hb := hok.b
  obtain ⟨n, hn⟩ : ∃ n : Nat, n = 8 * g.b.toNat := ⟨_, rfl⟩
  have w1 : IntKind.i64.wrap (8 * g.b) = (n : Int) := by rw [show 8 * g.b = (n : Int) by omega]; exact wrap_in (by omega) (by omega)
  simp [evOp_call, T.get_set, hd]
  refine ⟨by kernel_rfl, ?_⟩
  simp [evOp_call, T.get_set, loadE_eq, getC_eq, getsB_succ, getsB_zero, k0, w1]
  refine Gd_make (i := .i64) (i' := .i64) (n := n) (q := n) (zs := [V.int .u64 0]) (fun k => el60 k) io78 (fun k => ze78 k) (by simp [T.get_set]) (by simp [T.get_set]) (Nat.le_refl _) (by omega) ?_
  have hsl := SlRow.made (b := s1.nx) (n := n) (st := s1) (el := 78) (Nat.le_refl _) (by decide)
  have hn1 : ¬ s1.nx = st.nx := by omega
  simp [evOp_call, T.get_set]
  rw [bldRimgS]
  simp [evOp_call, sets, T.get_set, newC_is, cellsOf]
  have hR : RiS st ⟨s1.nx + 1 + 1, (s1.h.set s1.nx (.cs 78 (rep [V.int .u64 0] n).length (sets (rep [V.int .u64 0] n) 0 .lf))).set (s1.nx + 1) (.cs 81 5 (((((T.lf.set 0 (.int .i64 g.b)).set 1 (.int .i64 g.n)).set 2 (.int .i64 g.c)).set 3 (.int .i64 g.k)).set 4 (.sl s1.nx 0 n n)))⟩ g (s1.nx + 1) n (zeroW g) := by
    refine ⟨⟨_, _, T.get_set_same _ _ _, ⟨by simp [T.get_set], by simp [T.get_set], by simp [T.get_set], by simp [T.get_set]⟩, T.get_set_same _ _ _, ?_, fun m hm => ?_⟩, ⟨by omega, Nat.lt_succ_self _⟩, (T.get_set_ne _ _ (show s1.nx + 1 ≠ st.nx by omega)).trans ((T.get_set_ne _ _ hn1).trans k0), (hs1.new (by omega) _).new (by show st.nx ≤ s1.nx + 1; omega) _⟩
    · have h2 := hsl.rd.ext ((Ext.refl _ _).new (Nat.le_refl _) (.cs 81 5 (((((T.lf.set 0 (.int .i64 g.b)).set 1 (.int .i64 g.n)).set 2 (.int .i64 g.c)).set 3 (.int .i64 g.k)).set 4 (.sl s1.nx 0 n n))))
      unfold zeroW
      rw [← hn]
      exact h2
    · rcases hm with ⟨_, _, _, e⟩ | ⟨_, _, _, e⟩
      · injection e with e; omega
      · cases e
  generalize (⟨s1.nx + 1 + 1, (s1.h.set s1.nx (.cs 78 (rep [V.int .u64 0] n).length (sets (rep [V.int .u64 0] n) 0 .lf))).set (s1.nx + 1) (.cs 81 5 (((((T.lf.set 0 (.int .i64 g.b)).set 1 (.int .i64 g.n)).set 2 (.int .i64 g.c)).set 3 (.int .i64 g.k)).set 4 (.sl s1.nx 0 n n)))⟩ : St) = s3 at hR ⊢
  generalize s1.nx + 1 = q at hR ⊢
  have k3 := hR.gb
  simp [evOp_call, T.get_set, loadE_eq, getC_eq, getsB_succ, getsB_zero, k3]
  have hH : (putH g 0#64).length = 8 := putH_length _ hg
  have hB64 : 64 ≤ g.b.toNat := by omega
  have hB1k : g.b.toNat ≤ 1024 := by omega
  rw [gVg]
  refine Gd.mono (rput_any s3 g 0#64 _) ?_
  rintro ⟨w0, s4⟩ ⟨hw0, x4⟩
  simp only at hw0 x4
  rw [hH] at hw0
  have hR4 := hR.ext x4
  simp [evOp_call, T.get_set]
  refine Gd.mono (show Gd (callL Tryz.prog ⟨false, [], 0, _⟩ 88 [.p q 0, .int .i64 0, w0] s4) _ from hR4.put 0 w0 (putH g 0#64) hw0 (by omega) (by omega) _) ?_
  rintro ⟨_, s5⟩ ⟨hR5, _, _⟩
  simp only at hR5
  have k5 := hR5.gb
  have l5 : st.nx < s5.nx := by have := hR5.lt; omega
  have wb1 : IntKind.i64.wrap (g.b - 1) = g.b - 1 := wrap_in (by omega) (by omega)
  simp [evOp_call, T.get_set]
  refine ⟨by kernel_rfl, ?_⟩
  simp [evOp_call, T.get_set, loadE_eq, getC_eq, getsB_succ, getsB_zero, k5, wb1]
  rw [gVg, cxOf_callL [(st.nx, st.nx + 1)] (by kernel_rfl) (by kernel_rfl) (looseW_at 19 (.p st.nx 0) (by simp [T.get_set]) (by kernel_rfl)) (fun x hx => by
    simp at hx
    rcases hx with rfl | rfl
    · simp [clashes_tmp, T.get_set, gV, blkOf]
    · rfl) (fun p hp => by simp at hp; subst hp; rw [isRo_cs k5]; decide)]
  simp only [forb_nil, List.append_nil]
  refine Gd_lift (R := fun v s' => RdRow s' v 1 (putH g 0#64).length (wv (putH g 0#64))) (rput_any _ g 0#64 _) ?_
  intro w6 s6' s6 hw6 hsub x6
  have hw6' := RdRow.sub hsub hw6
  rw [hH] at hw6'
  have hR6 := hR5.ext x6
  simp [evOp_call, T.get_set]
  rw [cxOf_call (by kernel_rfl) (by kernel_rfl), forb_rsOf (by kernel_rfl), liftF_nil]
  refine Gd.mono (hR6.putI (g.b - 1) (by omega) w6 (putH g 0#64) hw6' (by omega) (by omega) _) ?_
  rintro ⟨_, s7⟩ hR7
  simp only at hR7
  have k7 := hR7.gb
  have hck := ck_le hg.1
  obtain ⟨⟨_, _, hn1', hn2', hc1, hc2, hk1, hk2⟩, hdN1⟩ := id hg
  have hbn : 1 ≤ bN g ∧ bN g ≤ 2 := by unfold bN; omega
  have hnF : nF g = 1 + g.c * g.k + bN g := rfl
  have hdF : dF g = nF g + g.n + g.n := rfl
  have hdN : dN g = g.b - 1 - dF g := rfl
  simp [evOp_call, T.get_set, loadE_eq, getC_eq, getsB_succ, getsB_zero, k7]
  rw [gVg]
  refine Gd.mono (rnode_any s7 [] (fun _ _ => rfl) g 1 _) ?_
  rintro ⟨r, s8⟩ ⟨hr, x8⟩
  simp only at hr x8
  unfold nodeV at hr
  rw [if_pos ⟨hg, by omega, by omega⟩, show nF g + 1 - 1 = nF g by omega] at hr
  subst hr
  have hR8 := hR7.ext x8
  simp [evOp_call, T.get_set]
  rw [bldRnd2]
  simp [evOp_call, T.get_set]
  refine Gd.mono (rnput_any s8 rootN (.c (.slice none 0 0)) (OwnRow.nil 0 s8 2).rd _) ?_
  rintro ⟨w9, s9⟩ ⟨hw9, x9⟩
  simp only at hw9 x9
  rw [putN_eight fits_root] at hw9
  have hR9 := hR8.ext x9
  simp [evOp_call, T.get_set]
  refine Gd.mono (hR9.putI (nF g) (by omega) w9 (putN rootN) hw9 (by omega) (by omega) _) ?_
  rintro ⟨_, s10⟩ hR10
  simp only at hR10
  have k10 := hR10.gb
  have l10 : st.nx < s10.nx := by have := hR10.lt; omega
  simp [evOp_call, T.get_set]
  refine ⟨by kernel_rfl, ?_⟩
  simp [evOp_call, T.get_set, loadE_eq, getC_eq, getsB_succ, getsB_zero, k10]
  rw [gVg, cxOf_callL [(st.nx, st.nx + 1)] (by kernel_rfl) (by kernel_rfl) (looseW_at 1 (.p st.nx 0) (by simp [T.get_set]) (by kernel_rfl)) (fun x hx => by
    simp at hx
    rcases hx with rfl | rfl
    · simp [clashes_tmp, T.get_set, gV, blkOf]
    · rfl) (fun p hp => by simp at hp; subst hp; rw [isRo_cs k10]; decide)]
  simp only [forb_nil, List.append_nil]
  refine Gd_lift (R := fun v s' => v = nodeV g 2) (rnode_any _ [] (fun _ _ => rfl) g 2 _) ?_
  intro r s11' s11 hr hsub x11
  unfold nodeV at hr
  rw [if_pos ⟨hg, by omega, by omega⟩, show nF g + 2 - 1 = nF g + 1 by omega] at hr
  subst hr
  have hR11 := hR10.ext x11
  have k11 := hR11.gb
  have hld : ∀ (b i nx' : Nat), inF ((0, st.nx) :: (st.nx + 1, nx') :: forb b (rsOf [] i s10.nx s11.nx) []) st.nx = false := fun b i nx' => inF_ld l10
  simp [evOp_call, T.get_set, loadE_eq, getC_eq, getsB_succ, getsB_zero, k11, hld]
  rw [gVg, cxOf_call (by kernel_rfl) (by kernel_rfl), forb_rsOf (by kernel_rfl), liftF_nil]
  refine Gd.mono (rlostNode_any s11 g hg _) ?_
  rintro ⟨r, s12⟩ ⟨y12, hr, hy12, x12⟩
  simp only at hr hy12 x12
  subst hr
  have hR12 := hR11.ext x12
  simp [evOp_call, T.get_set]
  rw [cxOf_call (by kernel_rfl) (by kernel_rfl), forb_rsOf2 (by kernel_rfl) (by kernel_rfl), liftF_nil]
  refine Gd.mono (rnput_any s12 (lostN g) y12 hy12 _) ?_
  rintro ⟨w13, s13⟩ ⟨hw13, x13⟩
  simp only at hw13 x13
  rw [putN_eight (fits_lost hg)] at hw13
  have hR13 := hR12.ext x13
  simp [evOp_call, T.get_set]
  rw [cxOf_call (by kernel_rfl) (by kernel_rfl), forb_step (by kernel_rfl) (forb_rsOf2 (by kernel_rfl) (by kernel_rfl)), liftF_nil]
  refine Gd.mono (hR13.putI (nF g + 1) (by omega) w13 (putN (lostN g)) hw13 (by omega) (by omega) _) ?_
  rintro ⟨_, s14⟩ hR14
  simp only at hR14
  have k14 := hR14.gb
  simp [evOp_call, T.get_set, loadE_eq, getC_eq, getsB_succ, getsB_zero, k14]
  rw [gVg]
  refine Gd.mono (rbitsOf_any s14 g hg _) ?_
  rintro ⟨w15, s15⟩ ⟨hw15, x15, hc15, hf15⟩
  simp only at hw15 x15 hc15 hf15
  have hR15 := hR14.ext x15
  simp [evOp_call, T.get_set]
  have hq14 := hR14.lt
  have e4 : putL (putL (putL (putL (zeroW g) (0 * 8) (putH g 0#64)) ((g.b - 1).toNat * 8) (putH g 0#64)) ((nF g).toNat * 8) (putN rootN)) ((nF g + 1).toNat * 8) (putN (lostN g)) = img4 g := rfl
  rw [e4, hn] at hR15
  refine Gd.mono (rsetbits_any st s15 g hg q (img4 g) (rbitW g) w15 hR15 hok.l4 hw15 hc15 (fun m hm => by have := hf15 m hm; omega) _) ?_
  rintro ⟨_, s16⟩ hR16
  simp only at hR16
  obtain ⟨⟨tq, x, h1, _, h3, h4, h5⟩, _, _, hx16⟩ := hR16
  simp [evOp_call, sets, T.get_set, loadE_eq, getC_eq, getsB_succ, getsB_zero, h1, h3]
  exact ⟨h4, hx16⟩
end Go.Proofs.YtgcpgidofikcdaaGreatDoor
set_option linter.unusedSimpArgs false
set_option linter.unusedVariables false
namespace Go.Proofs.YtgcpgidofikcdaaGreatDoor
open Go.RowKit Ev
theorem bit_word {L : List (BitVec 64)} {i k : Nat} {w : BitVec 64} (h : L[i]? = some w) (hk : k < 64) : bit L (i * 64 + k) = w.getLsbD k := by
  unfold bit
  rw [show (i * 64 + k) / 64 = i by omega, show (i * 64 + k) % 64 = k by omega, h]; rfl
theorem bit_rep (n N : Nat) : bit (List.replicate n 0#64) N = false := by
  unfold bit
  rw [List.getElem?_replicate]
  split <;> simp
theorem setB_more {n m i : Nat} {l : List Int} (hn : n ≤ m) (hi : i < n) : (setB (List.replicate n 0#64) true l)[i]? = (setB (List.replicate m 0#64) true l)[i]? := by
  have l1 : (setB (List.replicate n 0#64) true l).length = n := by rw [setB_length, List.length_replicate]
  have l2 : (setB (List.replicate m 0#64) true l).length = m := by rw [setB_length, List.length_replicate]
  obtain ⟨w1, h1⟩ : ∃ w, (setB (List.replicate n 0#64) true l)[i]? = some w := ⟨_, List.getElem?_eq_getElem (by omega)⟩
  obtain ⟨w2, h2⟩ : ∃ w, (setB (List.replicate m 0#64) true l)[i]? = some w := ⟨_, List.getElem?_eq_getElem (by omega)⟩
  rw [h1, h2]
  congr 1
  apply BitVec.eq_of_getLsbD_eq
  intro k hk
  rw [← bit_word h1 hk, ← bit_word h2 hk, bit_setB, bit_setB, bit_rep, bit_rep, List.length_replicate, List.length_replicate]
  have e1 : decide (i * 64 + k < n * 64) = true := decide_eq_true (by omega)
  have e2 : decide (i * 64 + k < m * 64) = true := decide_eq_true (by omega)
  simp only [e1, e2]
theorem setB_none {n m i : Nat} {l : List Int} (hl : ∀ x ∈ l, x < (n * 64 : Nat)) (hi : n ≤ i) (hm : i < m) : (setB (List.replicate m 0#64) true l)[i]? = some 0#64 := by
  have l2 : (setB (List.replicate m 0#64) true l).length = m := by rw [setB_length, List.length_replicate]
  obtain ⟨w2, h2⟩ : ∃ w, (setB (List.replicate m 0#64) true l)[i]? = some w := ⟨_, List.getElem?_eq_getElem (by omega)⟩
  rw [h2]
  congr 1
  apply BitVec.eq_of_getLsbD_eq
  intro k hk
  rw [← bit_word h2 hk, bit_setB, bit_rep, Bool.false_or]
  have : (l.any fun x => decide (x = ((i * 64 + k : Nat) : Int)) && decide (i * 64 + k < (List.replicate m 0#64).length * 64)) = false := by
    rw [List.any_eq_false]
    intro x hx h
    have := hl x hx
    simp only [Bool.and_eq_true, decide_eq_true_eq] at h
    omega
  rw [this]
  simp
theorem rimgW_eq {g : Gm} (hg : isGood g) : rimgW g = imgW g := by
  have h := imgOk hg
  have hck := ck_le hg.1
  obtain ⟨⟨hb1, hb2, hn1', hn2', hc1, hc2, hk1, hk2⟩, hdN1⟩ := id hg
  have hbn : 1 ≤ bN g ∧ bN g ≤ 2 := by unfold bN; omega
  have hbn2 : g.b ≤ 512 * bN g := by unfold bN; omega
  have hnF : nF g = 1 + g.c * g.k + bN g := rfl
  have hdF : dF g = nF g + g.n + g.n := rfl
  have hdN : dN g = g.b - 1 - dF g := rfl
  have htl := takW_length g
  have hrl := rbitW_length g
  have hH : (putH g 0#64).length = 8 := putH_length _ hg
  have hr2 := putN_le rootN
  have hl2 := putN_le (lostN g)
  obtain ⟨F, hF⟩ : ∃ F, F = (1 + g.c * g.k).toNat := ⟨_, rfl⟩
  have h5' : bitsF g * 8 + (rbitW g).length ≤ (img4 g).length := by rw [h.l4, hrl]; unfold bitsF; omega
  have h5 := h.h5
  unfold rimgW imgW
  apply List.ext_getElem?
  intro j
  rw [putL_get h5', putL_get h5, hrl, htl]
  unfold bitsF
  rw [← hF]
  by_cases c1 : F * 8 ≤ j ∧ j < F * 8 + (g.b.toNat + 63) / 64
  · rw [if_pos (by omega), if_pos c1]
    unfold rbitW takW
    exact (setB_more (by omega) (by omega)).symm
  · rw [if_neg c1]
    by_cases c2 : F * 8 ≤ j ∧ j < F * 8 + 8 * (bN g).toNat
    · rw [if_pos c2]
      unfold rbitW
      rw [setB_none (n := (g.b.toNat + 63) / 64) (fun x hx => by have := outs_bd g _ x hx; omega) (by omega) (by omega)]
      unfold img4
      rw [putL_get h.h4, if_neg (by omega)]
      unfold img3
      rw [putL_get h.h3, if_neg (by omega)]
      unfold img2
      rw [putL_get h.h2, if_neg (by omega)]
      unfold img1
      rw [putL_get (by have := h.h1; omega), if_neg (by omega)]
      unfold zeroW
      rw [List.getElem?_replicate, if_pos (by omega)]
    · rw [if_neg c2]
end Go.Proofs.YtgcpgidofikcdaaGreatDoor
set_option linter.unusedSimpArgs false
set_option linter.unusedVariables false
namespace Go.Proofs.YtgcpgidofikcdaaGreatDoor
open Go.RowKit Ev
/-- some of a row -/
theorem Gd_midC {P : Program} {c : Cx} {e : Env} {st : St} {t el n k k2 : Nat} {i i2 : IntKind} {y : V} {L : List (BitVec 64)} {x x2 : Operand} {Q : V × St → Prop} (hu : P.underlying t = some (.slice el)) (hi : infoOk P el 1 = true) (h : RdRow st y 1 n (wv L)) (hcap : CapOk y) (hv : opv e x = some (.int i (k : Int))) (hv2 : opv e x2 = some (.int i2 (k2 : Int))) (hk : k < k2) (hk2 : k2 ≤ n)
    (hQ : ∀ v, (∀ s, RdRow s y 1 n (wv L) → RdRow s v 1 (k2 - k) (wv ((L.drop k).take (k2 - k)))) → CapOk v → Q (v, st)) : Gd (sliceK P c e st t y (some x) (some x2)) Q := by
  have hwt : wv ((L.drop k).take (k2 - k)) = ((wv L).drop k).take (k2 - k) := by unfold wv; rw [List.map_take, List.map_drop]
  have hL : L.length = n := by have := h.1; simpa using this
  have hlen : (wv ((L.drop k).take (k2 - k))).length = (k2 - k) * 1 := by simp; omega
  have get : ∀ j v, (wv ((L.drop k).take (k2 - k)))[j]? = some v → (wv L)[k + j]? = some v := fun j v hj => by
    have hjk : j < k2 - k := by have := lt_of_get hj; omega
    rw [hwt, List.getElem?_take, if_pos hjk, List.getElem?_drop] at hj
    exact hj
  unfold sliceK
  rcases h.2 with ⟨_, rfl⟩ | ⟨m, o, q, ty, sz, tr, rfl, h3, h4, h5, h6⟩ | ⟨m, o, ty, sz, tr, rfl, h3, h4, h5, h6⟩
  · omega
  · have hq := hcap m o n q rfl
    rw [sliceE_midS hu hi hv hv2 m o n q hk (by omega) (fun a => some (a, st))]
    refine ⟨_, rfl, hQ _ (fun s hs => ?_) fun m' o' l' q' e => by injection e with _ _ e3 e4; omega⟩
    rcases hs.2 with ⟨e, _⟩ | ⟨m', o', q', ty', sz', tr', e, h3', h4', h5', h6'⟩ | ⟨m', o', ty', sz', tr', e, h3', h4', h5', h6'⟩
    · omega
    · injection e with e1 e2 e3 e4
      subst e1 e2 e4
      exact ⟨hlen, .inr (.inl ⟨m, o + k * 1, q - k, ty', sz', tr', rfl, h3', h4', by omega, fun j v hj => by rw [show o + k * 1 + j = o + (k + j) by omega]; exact h6' _ v (get j v hj)⟩)⟩
    · cases e
  · rw [sliceE_midG hu hi hv hv2 m o n hk hk2 (fun a => some (a, st))]
    refine ⟨_, rfl, hQ _ (fun s hs => ?_) fun m' o' l' q' e => by cases e⟩
    rcases hs.2 with ⟨e, _⟩ | ⟨m', o', q', ty', sz', tr', e, h3', h4', h5', h6'⟩ | ⟨m', o', ty', sz', tr', e, h3', h4', h5', h6'⟩
    · omega
    · cases e
    · injection e with e1 e2 e3 e4
      subst e1 e2
      exact ⟨hlen, .inr (.inr ⟨m, o + k * 1, ty', sz', tr', rfl, h3', h4', by omega, fun j v hj => by rw [show o + k * 1 + j = o + (k + j) by omega]; exact h6' _ v (get j v hj)⟩)⟩
set_option maxRecDepth 20000 in
set_option maxHeartbeats 4000000 in
theorem blockC_any (st : St) (g : Gm) (x : V) (n : Nat) (L : List (BitVec 64)) (hx : RdRow st x 1 (8 * n) (wv L)) (hcap : CapOk x) (a : Nat) (ha : a < n) (hn : n ≤ 100000) (nt : Nat) :
    Gd (callL Tryz.prog ⟨false, [], 0, nt⟩ 99 [.g [.int .i64 g.b, .int .i64 g.n, .int .i64 g.c, .int .i64 g.k, x], .int .i64 (a : Int)] st) fun r => RdRow r.2 r.1 1 8 (wv ((L.drop (a * 8)).take 8)) ∧ Ext st.nx st r.2 ∧ CapOk r.1 := by
  rw [Gd_callL Tryz.func99 rfl]
  have hone := hx.one
  have x0 := fun b => (Ext.refl st.nx st).new (Nat.le_refl _) b
  have c1 : ¬ (a : Int) < 0 := by omega
  have q1 : (((8 * n : Nat) : Int)).tdiv 8 = (n : Int) := by rw [Int.tdiv_eq_ediv_of_nonneg (by omega)]; omega
  have q1' : (8 * (n : Int)).tdiv 8 = (n : Int) := by rw [Int.tdiv_eq_ediv_of_nonneg (by omega)]; omega
  have q2 : IntKind.i64.wrap (n : Int) = (n : Int) := wrap_in (by omega) (by omega)
  have w1 : IntKind.i64.wrap ((a : Int) * 8) = ((a * 8 : Nat) : Int) := by rw [show (a : Int) * 8 = ((a * 8 : Nat) : Int) by omega]; exact wrap_in (by omega) (by omega)
  have w2 : IntKind.i64.wrap ((a : Int) + 1) = (a : Int) + 1 := wrap_in (by omega) (by omega)
  have w3 : IntKind.i64.wrap (((a : Int) + 1) * 8) = ((a * 8 + 8 : Nat) : Int) := by rw [show ((a : Int) + 1) * 8 = ((a * 8 + 8 : Nat) : Int) by omega]; exact wrap_in (by omega) (by omega)
  have c2 : ¬ (n : Int) ≤ (a : Int) := by omega
  have c2' : ¬ n ≤ a := by omega
  simp [evOp_call, sets, T.get_set, cellsOf, newC_is, loadE_eq, getC_eq, getsB_succ, getsB_zero, hone, c1, hx.lenS, q1, q1', q2, c2, c2', w1, w2, w3]
  refine Gd_midC (i := .i64) (i2 := .i64) (k := a * 8) (k2 := a * 8 + 8) un60 io78 (hx.ext (x0 _)) hcap (by simp [T.get_set]) (by simp [T.get_set]) (by omega) (by omega) fun v hv hcv => ?_
  simp [evOp_call, T.get_set]
  have h1 := hv _ (hx.ext (x0 (.cs 65 5 (((((T.lf.set 0 (V.int .i64 g.b)).set 1 (V.int .i64 g.n)).set 2 (V.int .i64 g.c)).set 3 (V.int .i64 g.k)).set 4 x))))
  rw [show a * 8 + 8 - a * 8 = 8 by omega] at h1
  exact ⟨h1, x0 _, hcv⟩

/-- a block's words -/
def blkW (L : List (BitVec 64)) (a : Nat) : List (BitVec 64) := (L.drop (a * 8)).take 8
def atN (g : Gm) (i : Nat) : Nat := (nF g + (i : Int) - 1).toNat
set_option maxRecDepth 20000 in
set_option maxHeartbeats 8000000 in
theorem inode_any (st : St) (g : Gm) (hg : isGood g) (x : V) (L : List (BitVec 64)) (hx : RdRow st x 1 (8 * g.b.toNat) (wv L)) (hcap : CapOk x) (i : Nat) (hi : 1 ≤ i ∧ (i : Int) ≤ g.n) (N : Nd) (hN : getNd (blkW L (atN g i)) = some N) (hgN : goodN g N) (hs : N.s ≤ 9223372036854775807) (nt : Nat) :
    Gd (callL Tryz.prog ⟨false, [], 0, nt⟩ 95 [.g [.int .i64 g.b, .int .i64 g.n, .int .i64 g.c, .int .i64 g.k, x], .int .i64 (i : Int)] st) fun r => ∃ z, r.1 = .t [ndV N z, .bool true] ∧ RdRow r.2 z 2 N.R.length (pairs N.R) ∧ (∀ m, rowIn z m → st.nx ≤ m) ∧ CapOk z ∧ Ext st.nx st r.2 := by
  rw [Gd_callL Tryz.func95 rfl]
  have hone := hx.one
  have hck := ck_le hg.1
  obtain ⟨⟨hb1, hb2, hn1', hn2', hc1, hc2, hk1, hk2⟩, hdN1⟩ := id hg
  have hbn : 1 ≤ bN g ∧ bN g ≤ 2 := by unfold bN; omega
  have hnF : nF g = 1 + g.c * g.k + bN g := rfl
  have hdF : dF g = nF g + g.n + g.n := rfl
  have hdN : dN g = g.b - 1 - dF g := rfl
  have gVg : V.g [V.int .i64 g.b, V.int .i64 g.n, V.int .i64 g.c, V.int .i64 g.k] = gV g := rfl
  have hat : ((atN g i : Nat) : Int) = nF g + (i : Int) - 1 := by unfold atN; omega
  simp [evOp_call, sets, T.get_set, cellsOf, newC_is, loadE_eq, getC_eq, getsB_succ, getsB_zero, hone]
  rw [gVg]
  have x0 : Ext st.nx st ⟨st.nx + 1 + 1, (st.h.set st.nx (.cs 65 5 (((((T.lf.set 0 (V.int .i64 g.b)).set 1 (V.int .i64 g.n)).set 2 (V.int .i64 g.c)).set 3 (V.int .i64 g.k)).set 4 x))).set (st.nx + 1) (.cs 138 4 (sets [V.int .i64 0, V.int .i64 0, V.int .i64 0, V.c (.slice none 0 0)] 0 .lf))⟩ := ((Ext.refl st.nx st).new (Nat.le_refl _) _).new (Nat.le_succ _) _
  refine Gd.mono (gnode_any _ [] (fun _ _ => rfl) 0 (Nat.zero_le _) g i _) ?_
  rintro ⟨r, s1⟩ ⟨hr, x1⟩
  simp only at hr x1
  rw [if_pos ⟨hg, by omega, hi.2⟩, ← hat] at hr
  subst hr
  have l1 : st.nx + 1 + 1 ≤ s1.nx := x1.le
  have k0 : s1.h.get st.nx = some (.cs 65 5 (((((T.lf.set 0 (V.int .i64 g.b)).set 1 (V.int .i64 g.n)).set 2 (V.int .i64 g.c)).set 3 (V.int .i64 g.k)).set 4 x)) := (x1.keep st.nx (by show st.nx < st.nx + 1 + 1; omega)).trans ((T.get_set_ne _ _ (show st.nx + 1 ≠ st.nx by omega)).trans (T.get_set_same _ _ _))
  have k1 : s1.h.get (st.nx + 1) = some (.cs 138 4 (sets [V.int .i64 0, V.int .i64 0, V.int .i64 0, V.c (.slice none 0 0)] 0 .lf)) := (x1.keep (st.nx + 1) (Nat.lt_succ_self _)).trans (T.get_set_same _ _ _)
  have hs1 : Ext st.nx st s1 := x0.trans (x1.mono (by show st.nx ≤ st.nx + 1 + 1; omega))
  have hne0 : ¬ ((atN g i : Nat) : Int) = 0 := by omega
  have hne0' : ¬ atN g i = 0 := by omega
  simp [evOp_call, T.get_set, hne0, hne0', loadE_eq, getC_eq, getsB_succ, getsB_zero, k0]
  refine Gd.mono (blockC_any s1 g x g.b.toNat L (hx.ext hs1) hcap (atN g i) (by omega) (by omega) _) ?_
  rintro ⟨w, s2⟩ ⟨hw, x2, hcw⟩
  simp only at hw x2 hcw
  have hl8 : (blkW L (atN g i)).length = 8 := by have := hw.1; simpa [blkW] using this
  simp [evOp_call, T.get_set]
  refine Gd.mono (nget_any s2 w (blkW L (atN g i)) (by rw [hl8]; exact hw) hcw _) ?_
  rintro ⟨r, s3⟩ ⟨⟨z, hr, hz, hzf, hzc⟩, x3⟩
  simp only at hr hz hzf hzc x3
  have hnd : ndOf (blkW L (atN g i)) = N := by unfold ndOf; rw [hN]; rfl
  rw [hnd, hN] at hr
  rw [hnd] at hz
  subst hr
  have hzo := hz.one
  have hs3 : Ext st.nx st s3 := (hs1.trans (x2.mono hs1.le)).trans (x3.mono (Nat.le_trans hs1.le x2.le))
  have ln2 := x2.le
  have ln3 := x3.le
  have k03 := (x3.keep _ (by omega)).trans ((x2.keep _ (by omega)).trans k0)
  have k13 := (x3.keep _ (by omega)).trans ((x2.keep _ (by omega)).trans k1)
  have u1 : ¬ s3.nx = st.nx := by omega
  have u2 : ¬ s3.nx = st.nx + 1 := by omega
  have hnew := fun b => (Ext.refl s3.nx s3).new (Nat.le_refl _) b
  simp [ndV, evOp_call, sets, T.get_set, newC_is, storeK_g, putB_eq, roT, cellsOf, loadE_eq, getC_eq, getsB_succ, getsB_zero, hzo, k03, u1, u2]
  have hndV : V.g [V.int .i64 N.t, V.int .i64 N.l, V.int .i64 N.s, z] = ndV N z := rfl
  rw [gVg, hndV]
  refine Gd.mono (ngood_any _ g N z (hz.ext (hnew _)) hzc hs _) ?_
  rintro ⟨r, s4⟩ ⟨hr, x4⟩
  simp only at hr x4
  rw [decide_eq_true hgN] at hr
  subst hr
  have ln4 : s3.nx + 1 ≤ s4.nx := x4.le
  have kY := x4.keep s3.nx (Nat.lt_succ_self _)
  rw [T.get_set_same] at kY
  have k14 := (x4.keep (st.nx + 1) (by show st.nx + 1 < s3.nx + 1; omega)).trans ((T.get_set_ne _ _ u2).trans k13)
  have hs4 : Ext st.nx st s4 := (hs3.trans ((hnew _).mono hs3.le)).trans (x4.mono (by show st.nx ≤ s3.nx + 1; omega))
  simp [evOp_call, sets, T.get_set, newC_is, storeK_g, putB_eq, roT, cellsOf, loadE_eq, getC_eq, getsB_succ, getsB_zero, hzo, kY, k14]
  refine ⟨?_, fun m hm => ?_, hzc, hs4.set (m := st.nx + 1) (Nat.le_succ _) (by omega) _⟩
  · refine ((hz.ext (hnew _)).ext x4).setOther (k := st.nx + 1) (fun o l q e => ?_) (fun o l q e => ?_) _
    · have := hzf (st.nx + 1) (.inr ⟨_, _, _, e⟩); omega
    · have := hzf (st.nx + 1) (.inl ⟨_, _, _, e⟩); omega
  · have := hzf m hm; omega
end Go.Proofs.YtgcpgidofikcdaaGreatDoor
set_option linter.unusedSimpArgs false
set_option linter.unusedVariables false
namespace Go.Proofs.YtgcpgidofikcdaaGreatDoor
open Go.RowKit Ev
set_option maxRecDepth 20000 in
set_option maxHeartbeats 4000000 in
theorem blockD_any (st : St) (g : Gm) (x : V) (n : Nat) (L : List (BitVec 64)) (hx : RdRow st x 1 (8 * n) (wv L)) (hcap : CapOk x) (a : Nat) (ha : a < n) (hn : n ≤ 100000) (nt : Nat) :
    Gd (callL Tryz.prog ⟨false, [], 0, nt⟩ 99 [.g [.int .i64 g.b, .int .i64 g.n, .int .i64 g.c, .int .i64 g.k, x], .int .i64 (a : Int)] st) fun r => (∀ s' : St, RdRow s' x 1 (8 * n) (wv L) → RdRow s' r.1 1 8 (wv (blkW L a))) ∧ Ext st.nx st r.2 ∧ CapOk r.1 := by
  rw [Gd_callL Tryz.func99 rfl]
  have hone := hx.one
  have x0 := fun b => (Ext.refl st.nx st).new (Nat.le_refl _) b
  have c1 : ¬ (a : Int) < 0 := by omega
  have q1 : (((8 * n : Nat) : Int)).tdiv 8 = (n : Int) := by rw [Int.tdiv_eq_ediv_of_nonneg (by omega)]; omega
  have q1' : (8 * (n : Int)).tdiv 8 = (n : Int) := by rw [Int.tdiv_eq_ediv_of_nonneg (by omega)]; omega
  have q2 : IntKind.i64.wrap (n : Int) = (n : Int) := wrap_in (by omega) (by omega)
  have w1 : IntKind.i64.wrap ((a : Int) * 8) = ((a * 8 : Nat) : Int) := by rw [show (a : Int) * 8 = ((a * 8 : Nat) : Int) by omega]; exact wrap_in (by omega) (by omega)
  have w2 : IntKind.i64.wrap ((a : Int) + 1) = (a : Int) + 1 := wrap_in (by omega) (by omega)
  have w3 : IntKind.i64.wrap (((a : Int) + 1) * 8) = ((a * 8 + 8 : Nat) : Int) := by rw [show ((a : Int) + 1) * 8 = ((a * 8 + 8 : Nat) : Int) by omega]; exact wrap_in (by omega) (by omega)
  have c2 : ¬ (n : Int) ≤ (a : Int) := by omega
  have c2' : ¬ n ≤ a := by omega
  simp [evOp_call, sets, T.get_set, cellsOf, newC_is, loadE_eq, getC_eq, getsB_succ, getsB_zero, hone, c1, hx.lenS, q1, q1', q2, c2, c2', w1, w2, w3]
  refine Gd_midC (i := .i64) (i2 := .i64) (k := a * 8) (k2 := a * 8 + 8) un60 io78 (hx.ext (x0 _)) hcap (by simp [T.get_set]) (by simp [T.get_set]) (by omega) (by omega) fun v hv hcv => ?_
  simp [evOp_call, T.get_set]
  refine ⟨fun s' h => ?_, x0 _, hcv⟩
  have h1 := hv s' h
  rw [show a * 8 + 8 - a * 8 = 8 by omega] at h1
  exact h1

set_option maxRecDepth 20000 in
set_option maxHeartbeats 4000000 in
/-- a directory has no bytes -/
theorem icontent_any (st : St) (g : Gm) (hg : isGood g) (x : V) (L : List (BitVec 64)) (hx : RdRow st x 1 (8 * g.b.toNat) (wv L)) (hcap : CapOk x) (i : Nat) (hi : 1 ≤ i ∧ (i : Int) ≤ g.n) (N : Nd) (hN : getNd (blkW L (atN g i)) = some N) (hgN : goodN g N) (hs : N.s ≤ 9223372036854775807) (ht : N.t = 2) (nt : Nat) :
    Gd (callL Tryz.prog ⟨false, [], 0, nt⟩ 96 [.g [.int .i64 g.b, .int .i64 g.n, .int .i64 g.c, .int .i64 g.k, x], .int .i64 (i : Int)] st) fun r => r.1 = .c (.slice none 0 0) ∧ Ext st.nx st r.2 := by
  rw [Gd_callL Tryz.func96 rfl]
  have hone := hx.one
  simp [evOp_call, sets, T.get_set, cellsOf, newC_is, loadE_eq, getC_eq, getsB_succ, getsB_zero, hone]
  have x0 := fun b => (Ext.refl st.nx st).new (Nat.le_refl _) b
  refine Gd.mono (inode_any _ g hg x L (hx.ext (x0 _)) hcap i hi N hN hgN hs _) ?_
  rintro ⟨r, s1⟩ ⟨z, hr, hz, hzf, hzc, x1⟩
  simp only at hr hz hzf x1
  subst hr
  have hzo := hz.one
  have ln1 : st.nx + 1 ≤ s1.nx := x1.le
  have hs1 : Ext st.nx st s1 := (x0 _).trans (x1.mono (Nat.le_succ _))
  simp [ndV, evOp_call, sets, T.get_set, newC_is, storeK_g, putB_eq, roT, cellsOf, loadE_eq, getC_eq, getsB_succ, getsB_zero, hzo, ht]
  exact hs1.new (by omega) _
def Zw : List (BitVec 64) := List.replicate 8 0#64
def lenR (R : List (Int × Int)) : Nat := (R.map fun r => r.2.toNat).sum
theorem lenR_take {R : List (Int × Int)} {k : Nat} {r : Int × Int} (h : R[k]? = some r) : lenR (R.take (k + 1)) = lenR (R.take k) + r.2.toNat := by
  unfold lenR
  rw [List.take_add_one, h]
  simp
theorem lenR_le {R : List (Int × Int)} (k : Nat) : lenR (R.take k) ≤ lenR R := by
  unfold lenR
  have : R.map (fun r => r.2.toNat) = (R.take k).map (fun r => r.2.toNat) ++ (R.drop k).map (fun r => r.2.toNat) := by rw [← List.map_append, List.take_append_drop]
  rw [this, List.sum_append]
  omega
def vOk (x : V) (n : Nat) (L : List (BitVec 64)) (v : V) : Prop := CapOk v ∧ ∀ s' : St, RdRow s' x 1 (8 * n) (wv L) → RdRow s' v 1 8 (wv Zw)
def okR (g : Gm) (L : List (BitVec 64)) (R : List (Int × Int)) : Prop := ∀ r ∈ R, 0 ≤ r.1 ∧ 0 ≤ r.2 ∧ r.1 + r.2 ≤ g.b ∧ ∀ k : Nat, r.1 ≤ (k : Int) → (k : Int) < r.1 + r.2 → blkW L k = Zw
def ibkB (st : St) (g : Gm) (x y z : V) (L : List (BitVec 64)) (R : List (Int × Int)) (vs : List V) (k : Nat) (e : Env) (s : St) : Prop := e.get 2 = some (.p st.nx 0) ∧ e.get 5 = some y ∧ e.get 10 = some z ∧ e.get 11 = some (.int .i64 (R.length : Int)) ∧ e.get 12 = some (.int .i64 (k : Int)) ∧ s.h.get st.nx = some (.cs 65 5 (((((T.lf.set 0 (V.int .i64 g.b)).set 1 (V.int .i64 g.n)).set 2 (V.int .i64 g.c)).set 3 (V.int .i64 g.k)).set 4 x)) ∧ st.nx + 2 ≤ s.nx ∧ Ext st.nx st s ∧ OwnRow (st.nx + 2) s y 1 vs.length vs ∧ ∀ v ∈ vs, vOk x g.b.toNat L v
def ibkO (st : St) (g : Gm) (x z : V) (L : List (BitVec 64)) (R : List (Int × Int)) (e : Env) (s : St) : Prop := ∃ (k : Nat) (vs : List V) (y : V), k ≤ R.length ∧ ibkB st g x y z L R vs k e s ∧ vs.length = lenR (R.take k)
def ibkI (st : St) (g : Gm) (x z : V) (L : List (BitVec 64)) (R : List (Int × Int)) (k : Nat) (r : Int × Int) (q : Nat) (e : Env) (s : St) : Prop := ∃ (i : Nat) (vs : List V) (y : V), i ≤ r.2.toNat ∧ ibkB st g x y z L R vs k e s ∧ vs.length = lenR (R.take k) + i ∧ e.get 7 = some (.p q 0) ∧ e.get 17 = some (.int .i64 r.2) ∧ e.get 18 = some (.int .i64 (i : Int)) ∧ (∃ t, s.h.get q = some (.cs 140 2 t) ∧ t.get 0 = some (.int .i64 r.1)) ∧ q < s.nx ∧ ∀ o ln, y ≠ .sg q o ln 1
set_option maxRecDepth 20000 in
set_option maxHeartbeats 8000000 in
theorem iblocks_any (st : St) (g : Gm) (hb : g.b ≤ 1024) (x : V) (L : List (BitVec 64)) (hx : RdRow st x 1 (8 * g.b.toNat) (wv L)) (hcap : CapOk x) (N : Nd) (z : V) (hz : RdRow st z 2 N.R.length (pairs N.R)) (hR : okR g L N.R) (hRl : N.R.length ≤ 100) (hcn : lenR N.R ≤ 100000) (nt : Nat) :
    Gd (callL Tryz.prog ⟨false, [], 0, nt⟩ 156 [.g [.int .i64 g.b, .int .i64 g.n, .int .i64 g.c, .int .i64 g.k, x], ndV N z] st) fun r => ∃ vs : List V, RdRow r.2 r.1 1 vs.length vs ∧ vs.length = lenR N.R ∧ (∀ v ∈ vs, vOk x g.b.toNat L v) ∧ Ext st.nx st r.2 := by
  rw [Gd_callL Tryz.func156 rfl]
  have hone := hx.one
  have hzo := hz.one
  have hcell : ∀ k : List V → Res, cellsOf (ndV N z) k = k [.int .i64 N.t, .int .i64 N.l, .int .i64 N.s, z] := fun k => rfl
  have x0 : ∀ b b', Ext st.nx st ⟨st.nx + 1 + 1, (st.h.set st.nx b).set (st.nx + 1) b'⟩ := fun b b' => ((Ext.refl st.nx st).new (Nat.le_refl _) b).new (b := st.nx) (Nat.le_succ _) b'
  have n1 : ¬ st.nx + 1 = st.nx := by omega
  simp [ndV, evOp_call, sets, T.get_set, cellsOf, newC_is, loadE_eq, getC_eq, getsB_succ, getsB_zero, hone, hzo, hz.lenS]
  refine Gd_loop (ibkO st g x z L N.R) (fun e _ => muAt 12 N.R.length e) ?_ ?_
  · exact ⟨0, [], .c (.slice none 0 0), Nat.zero_le _, ⟨by simp [T.get_set], by simp [T.get_set], by simp [T.get_set], by simp [T.get_set], by simp [T.get_set], by rw [T.get_set_ne _ _ n1]; exact T.get_set_same _ _ _, Nat.le_refl _, x0 _ _, OwnRow.nil _ _ _, fun v hv => by cases hv⟩, rfl⟩
  rintro e s ⟨k, vs, y, hk, ⟨g2, g5, g10, g11, g12, kB, hn2, hs, hrow, hvs⟩, hlen⟩
  by_cases hlt : k < N.R.length
  case neg =>
    obtain rfl : k = N.R.length := by omega
    simp [evOp_call, sets, T.get_set, g5, g11, g12]
    rw [List.take_length] at hlen
    exact ⟨vs, hrow.rd, hlen, hvs, hs⟩
  have hlt' : (k : Int) < N.R.length := by omega
  have hwk := wrap_nat (n := k) (by omega)
  obtain ⟨r, hr⟩ : ∃ r, N.R[k]? = some r := ⟨_, List.getElem?_eq_getElem hlt⟩
  have hcl := pairs_at N.R k _ hr
  obtain ⟨m, o, ty, sz, tr, hid, hm, hg, ho, hc, hri⟩ := (hz.ext hs).idxB (st := s) un136 io140 hlt
  have t0 : tr.get o = some (.int .i64 r.1) := hc 0 _ (by omega) hcl.1
  have t1 : tr.get (o + 1) = some (.int .i64 r.2) := hc 1 _ (by omega) hcl.2
  obtain ⟨r1, r2, r3, r4⟩ := hR r (List.mem_of_getElem? hr)
  simp [evOp_call, sets, T.get_set, g2, g5, g10, g11, g12, hlt', hid, loadE_eq, getC_eq, hg, getsB_succ, getsB_zero, t0, t1, newC_is, cellsOf, putB_eq, storeK_g, roT]
  have hnew := fun b => (Ext.refl s.nx s).new (Nat.le_refl _) b
  have hql : ∀ o ln, y ≠ .sg s.nx o ln 1 := fun o ln e => by
    have := hrow.rd.lt_of.1 s.nx o ln 1 e
    omega
  refine Gd_loop (ibkI st g x z L N.R k r s.nx) (fun e _ => muAt 18 r.2.toNat e) ?_ ?_
  · exact ⟨0, vs, y, Nat.zero_le _, ⟨by simp [T.get_set, g2], by simp [T.get_set, g5], by simp [T.get_set, g10], by simp [T.get_set, g11], by simp [T.get_set, g12], (T.get_set_ne _ _ (by omega)).trans kB, by show st.nx + 2 ≤ s.nx + 1; omega, hs.trans ((hnew _).mono hs.le), hrow.ext (hnew _), hvs⟩, hlen, by simp [T.get_set], by simp [T.get_set], by simp [T.get_set], ⟨_, T.get_set_same _ _ _, by simp [T.get_set]⟩, Nat.lt_succ_self _, hql⟩
  have hmu : ∀ e' : Env, e'.get 12 = some (.int .i64 ((k + 1 : Nat) : Int)) → muAt 12 N.R.length e' < muAt 12 N.R.length e := fun e' h => muAt_lt g12 h hlt
  clear g2 g5 g10 g11 g12 kB hrow hvs hql
  rintro e2 s2 ⟨i, ws, y2, hi, ⟨g2, g5, g10, g11, g12, kB, hn2', hs2, hrow2, hws⟩, hlen2, g7, g17, g18, ⟨t, kq, tq0⟩, hq2, hql2⟩
  have hcl1 := lenR_take hr
  have hcl2 := lenR_le (R := N.R) (k + 1)
  by_cases hlt2 : (i : Int) < r.2
  case neg =>
    obtain rfl : i = r.2.toNat := by omega
    have hnr : ¬ ((r.2.toNat : Nat) : Int) < r.2 := by omega
    have hnr' : ((r.2.toNat : Nat) : Int) = r.2 := by omega
    simp [evOp_call, T.get_set, g12, g17, g18, hnr', hwk]
    exact ⟨⟨k + 1, ws, y2, hlt, ⟨by simp [T.get_set, g2], by simp [T.get_set, g5], by simp [T.get_set, g10], by simp [T.get_set, g11], by simp [T.get_set], kB, hn2', hs2, hrow2, hws⟩, by omega⟩, hmu _ (by simp [T.get_set])⟩
  have hwi := wrap_nat (n := i) (by omega)
  obtain ⟨a, ha⟩ : ∃ a : Nat, (a : Int) = r.1 + (i : Int) := ⟨(r.1 + (i : Int)).toNat, by omega⟩
  have wa : IntKind.i64.wrap (r.1 + (i : Int)) = (a : Int) := by rw [← ha]; exact wrap_in (by omega) (by omega)
  have hZ := r4 a (by omega) (by omega)
  simp [evOp_call, T.get_set, g2, g5, g7, g17, g18, hlt2, loadE_eq, getC_eq, getsB_succ, getsB_zero, kB, kq, tq0, wa]
  refine Gd.mono (blockD_any s2 g x g.b.toNat L (hx.ext hs2) hcap a (by omega) (by omega) _) ?_
  rintro ⟨z2, s3⟩ ⟨hv2, x3, hc2⟩
  simp only at hv2 x3 hc2
  rw [hZ] at hv2
  have hvo := (hv2 s2 (hx.ext hs2)).one
  have ln3 := x3.le
  simp [evOp_call, T.get_set]
  refine evOp_build1 (v := z2) (cs := [z2]) (fun k => el223 k) (fun k => ze60 k) rfl (by decide) (by simp [T.get_set]) (fun k => cellsOf_one hvo k) rfl ?_
  have x8 := (Ext.refl s3.nx s3).new (Nat.le_refl _) (.cs 60 1 (sets [z2] 0 .lf))
  simp [evOp_call, T.get_set]
  refine Gd_append un223 un223 io60 (lx := 1) (new := [z2]) ((hrow2.ext x3).ext x8) (by show st.nx + 2 ≤ s3.nx + 1; omega) (by decide) (fun s' h => by cases h) (fun k => rfl) (fun k => by simp [getC_eq, getsB_1, T.get_set, sets]) rfl (by omega) ?_
  intro w' s8 hro x9 hkp hw'
  simp [evOp_call, T.get_set, g18, hwi]
  have xx : Ext (st.nx + 2) s2 s8 := ((x3.mono hn2').trans (x8.mono (by omega))).trans x9
  have hxl := xx.le
  have l9 : s3.nx + 1 ≤ s8.nx := by have := x9.le; exact Nat.le_trans (Nat.le_refl _) this
  refine ⟨⟨i + 1, ws ++ [z2], w', by omega, ⟨by simp [T.get_set, g2], by simp [T.get_set], by simp [T.get_set, g10], by simp [T.get_set, g11], by simp [T.get_set, g12], (xx.keep _ (by omega)).trans kB, by omega, hs2.trans ⟨xx.le, xx.wf, fun n hn => xx.keep n (by omega)⟩, by rw [List.length_append]; exact hro, fun v hv => ?_⟩, by rw [List.length_append, hlen2]; show _ + i + 1 = _; omega, by simp [T.get_set, g7], by simp [T.get_set, g17], by simp [T.get_set], ⟨t, ?_, tq0⟩, by omega, fun o ln e => ?_⟩, muAt_lt g18 (by simp [T.get_set]) (by omega)⟩
  · rcases List.mem_append.1 hv with h | h
    · exact hws v h
    · rw [List.mem_singleton.1 h]; exact ⟨hc2, hv2⟩
  · exact (hkp s.nx (by show s.nx < s3.nx + 1; omega) hql2).trans ((x8.keep _ (by omega)).trans ((x3.keep _ hq2).trans kq))
  · rcases hw' with rfl | ⟨ln', rfl⟩
    · exact hql2 o ln e
    · injection e with e; have : s3.nx + 1 = s.nx := e; omega
end Go.Proofs.YtgcpgidofikcdaaGreatDoor

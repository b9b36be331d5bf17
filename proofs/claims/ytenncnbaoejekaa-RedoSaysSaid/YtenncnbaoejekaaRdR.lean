/-
  The document's own records: sums, writes done, what makes one of another.
-/
import Derived.Test.YtenncnbaoejekaaRdE
set_option linter.unusedSimpArgs false
namespace Go.Proofs.Ytenncnbaoejekaa
open Go.RowKit Ev
set_option maxRecDepth 20000 in
set_option maxHeartbeats 4000000 in
theorem rfits_any (st : St) (x : V) (L : List (BitVec 64)) (hx : RdRow st x 1 L.length (wv L)) (hcap : CapOk x) (hL : 2 ≤ L.length) (hL2 : L.length ≤ 1000000) (nt : Nat) :
    Gd (callL Try.prog ⟨false, [], 0, nt⟩ 159 [x] st) fun r => r = (.bool (decide (fitsL L)), st) := by
  rw [Gd_callL Try.func159 rfl]
  obtain ⟨n, hn⟩ : ∃ n, L.length = n + 1 := ⟨L.length - 1, by omega⟩
  have w1 : IntKind.i64.wrap ((L.length : Int) - 1) = (n : Int) := by rw [show (L.length : Int) - 1 = (n : Int) by omega]; exact wrap_in (by omega) (by omega)
  obtain ⟨m1, o1, ty1, sz1, t1, i1, b1, k1, l1, c1, r1⟩ := hx.idxB (st := st) un30 io31 (i := n) (by omega)
  have d1 : t1.get o1 = some (wd (wat L n)) := c1 0 _ (by omega) (by simpa using wv_get (wat_get (L := L) (i := n) (by omega)))
  have hn0 : (0 : Int) < (L.length : Int) := by omega
  have hn0' : 0 < L.length := by omega
  simp [evOp_call, sets, T.get_set, hx.lenS, w1, hn0, hn0']
  refine ⟨by kernel_rfl, ?_⟩
  simp [evOp_call, sets, T.get_set, hx.lenS, w1, hn0, hn0', i1, loadE_eq, getC_eq, k1, d1]
  refine Gd_headR (i := .i64) (k := n) un30 io31 hx hcap (by simp [T.get_set]) (by omega) (by omega) fun v hv hvc hvr hb1 hb2 => ?_
  simp [evOp_call, sets, T.get_set]
  rw [cxOf_callC (x := .tmp 17) [(m1, m1 + 1)] (by kernel_rfl) (by kernel_rfl) (looseW_at 11 (.p m1 o1) (by simp [T.get_set]) (by kernel_rfl)) rfl (by rw [clashes_tmp]; simp [T.get_set, hb1, rowIn_blk r1, inF_cons])]
  simp only [forb_nil]
  refine Gd.mono (rslOf_any st st.nx v (L.take n) (by rw [List.length_take, show min n L.length = n by omega]; exact hv) (by simp; omega) _) ?_
  rintro _ rfl
  have hd : decide (fitsL L) = decide (wat L n = slOf (L.take n)) := by
    rw [decide_eq_decide]; unfold fitsL
    rw [show L.length - 1 = n by omega]
    exact ⟨fun h => h.2, fun h => ⟨by omega, h⟩⟩
  simp [evOp_call, sets, T.get_set, hd]
def rdoI (st : St) (y : V) (L : List (BitVec 64)) (K : List (Int × BitVec 64)) (e : Env) (s : St) : Prop := ∃ (k : Nat) (z : V), k ≤ K.length ∧ e.get 1 = some y ∧ e.get 5 = some z ∧ e.get 6 = some (.int .i64 (k : Int)) ∧
  RdRow s z 1 L.length (wv (doW L (K.take k))) ∧ (0 < L.length → OwnRow st.nx s z 1 L.length (wv (doW L (K.take k)))) ∧ Ext st.nx st s
set_option maxRecDepth 20000 in
set_option maxHeartbeats 4000000 in
theorem rdo_any (st : St) (x y : V) (L : List (BitVec 64)) (K : List (Int × BitVec 64)) (hx : RdRow st x 1 L.length (wv L)) (hL : L.length ≤ 1000000) (hy : RdRow st y 2 K.length (iw K)) (hK : K.length ≤ 1000000) (nt : Nat) :
    Gd (callL Try.prog ⟨false, [], 0, nt⟩ 104 [x, y] st) fun r => RdRow r.2 r.1 1 L.length (wv (doW L K)) ∧ Ext st.nx st r.2 := by
  rw [Gd_callL Try.func104 rfl]
  simp [evOp_call, sets, T.get_set]
  rw [evOp_build0 (fun k => el30 k) (fun k => ze31 k) rfl]
  simp [T.get_set]
  have he : Ext st.nx st ⟨st.nx + 1, st.h.set st.nx (.cs 31 0 .lf)⟩ := (Ext.refl _ _).new (Nat.le_refl _) _
  have loop : ∀ (s0 : St) (e0 : Env) (z0 : V), e0.get 1 = some y → e0.get 5 = some z0 → e0.get 6 = some (.int .i64 ((0 : Nat) : Int)) → RdRow s0 z0 1 L.length (wv L) → (0 < L.length → OwnRow st.nx s0 z0 1 L.length (wv L)) → Ext st.nx st s0 → rdoI st y L K e0 s0 := fun s0 e0 z0 g1 g5 g6 h1 h2 h3 => ⟨0, z0, Nat.zero_le _, g1, g5, g6, h1, h2, h3⟩
  refine Gd_append0 un30 un30 io31 (by decide) (T.get_set_same _ _ _) hx.notS (fun k => hx.len k) (fun k => (hx.ext he).firsts k) hx.1 (by omega) (fun h0 => ?_) fun h1 => ?_
  case' refine_1 =>
    have hl : L = [] := List.length_eq_zero_iff.1 h0
    simp [evOp_call, T.get_set]
    refine Gd_loop (rdoI st y L K) (fun en _ => muAt 6 K.length en) (loop _ _ (.sl st.nx 0 0 0) (by simp [T.get_set]) (by simp [T.get_set]) (by simp [T.get_set]) (by rw [hl]; exact ⟨rfl, .inr (.inl ⟨st.nx, 0, 0, 31, 0, .lf, rfl, Nat.lt_succ_self _, T.get_set_same _ _ _, Nat.le_refl _, fun j v h => by simp [wv] at h⟩)⟩) (fun h => by omega) he) ?_
  case' refine_2 =>
    simp [evOp_call, T.get_set]
    have h2 := he.new (Nat.le_succ _) (.cs 31 L.length (sets (wv L) 0 .lf))
    have ho : OwnRow st.nx ⟨st.nx + 1 + 1, (st.h.set st.nx (.cs 31 0 .lf)).set (st.nx + 1) (.cs 31 L.length (sets (wv L) 0 .lf))⟩ (.sg (st.nx + 1) 0 L.length 1) 1 L.length (wv L) := by
      refine ⟨by simp, .inr ⟨st.nx + 1, 31, sets (wv L) 0 .lf, rfl, Nat.le_succ _, Nat.lt_succ_self _, ?_, by decide, fun j v hj => ?_⟩⟩
      · rw [Nat.mul_one]; exact T.get_set_same _ _ _
      · have hjl := lt_of_get hj
        rw [get_sets, if_pos ⟨Nat.zero_le _, by omega⟩]
        simpa using hj
    refine Gd_loop (rdoI st y L K) (fun en _ => muAt 6 K.length en) (loop _ _ (.sg (st.nx + 1) 0 L.length 1) (by simp [T.get_set]) (by simp [T.get_set]) (by simp [T.get_set]) ho.rd (fun _ => ho) h2) ?_
  all_goals
    rintro en s ⟨k, z, hk, g1, g5, g6, hz, hoz, hs⟩
    have hsn := hs.le
    have hlen := doW_length (K.take k) L
    by_cases hlt : k < K.length
    · have hlt' : (k : Int) < K.length := by omega
      have hwk := wrap_nat (n := k) (by omega)
      have hys := hy.ext hs
      obtain ⟨m, o, ty, sz, tr, hid, hm, hg, ho, hc⟩ := hys.idx (st := s) un134 io206 hlt
      obtain ⟨⟨F, N⟩, hr⟩ : ∃ r, K[k]? = some r := ⟨_, List.getElem?_eq_getElem hlt⟩
      have hcl := iw_at K k _ hr
      have t0 : tr.get o = some (.int .i64 F) := hc 0 _ (by omega) hcl.1
      have t1 : tr.get (o + 1) = some (wd N) := hc 1 _ (by omega) hcl.2
      have hst := doW_take (L := L) hr
      by_cases c1 : 0 ≤ F
      · by_cases c2 : F < L.length
        · obtain ⟨f, rfl⟩ := Int.eq_ofNat_of_zero_le c1
          have hfl : f < L.length := by omega
          have hfl1 : f + 1 ≤ L.length := hfl
          have hset : doW L (K.take (k + 1)) = (doW L (K.take k)).set f N := by
            rw [hst]; unfold wr1; rw [hlen, if_pos ⟨by omega, by omega⟩]; rfl
          have hwv : wv ((doW L (K.take k)).set f N) = (wv (doW L (K.take k))).set f (wd N) := by unfold wv; rw [List.map_set]
          obtain ⟨m2, ty2, tr2, rfl, hb2, hm2, hg2, hro2, hc2, hput⟩ := OwnRow.put2 (hoz (by omega)) (i := f) hfl
          simp [evOp_call, T.get_set, g1, g5, g6, hlt', hys.lenS, hid, loadE_eq, getC_eq, hg, t0, t1, hz.lenS, c1, c2, hfl]
          refine ⟨by kernel_rfl, ?_⟩
          try simp [evOp_call, T.get_set, g1, g5, g6, hid, loadE_eq, getC_eq, hg, t0, t1, hfl]
          rw [cxOf_store]
          rotate_left
          · kernel_rfl
          simp [T.get_set, g1, g5, g6, hg2, putB_eq, hro2, hfl1, sets, hwk]
          have hp := hput s hm2 (wd N)
          refine ⟨⟨k + 1, .sg m2 0 L.length 1, hlt, by simp [T.get_set, g1], by simp [T.get_set, g5], by simp [T.get_set], ?_, ?_, hs.set (m := m2) hb2 hm2 _⟩, muAt_lt g6 (by simp [T.get_set]) hlt⟩
          · rw [hset, hwv]; exact hp.rd
          · rw [hset, hwv]; exact fun _ => hp
        · have hno : doW L (K.take (k + 1)) = doW L (K.take k) := by rw [hst]; unfold wr1; rw [hlen, if_neg (fun h => c2 h.2)]
          simp [evOp_call, T.get_set, g1, g5, g6, hlt', hys.lenS, hid, loadE_eq, getC_eq, hg, t0, t1, hz.lenS, c1, c2, hwk]
          refine ⟨⟨k + 1, z, hlt, by simp [T.get_set, g1], by simp [T.get_set, g5], by simp [T.get_set], ?_, ?_, hs⟩, muAt_lt g6 (by simp [T.get_set]) hlt⟩
          · rw [hno]; exact hz
          · rw [hno]; exact hoz
      · have hno : doW L (K.take (k + 1)) = doW L (K.take k) := by rw [hst]; unfold wr1; rw [if_neg (fun h => c1 h.1)]
        simp [evOp_call, T.get_set, g1, g5, g6, hlt', hys.lenS, hid, loadE_eq, getC_eq, hg, t0, t1, hz.lenS, c1, hwk]
        refine ⟨⟨k + 1, z, hlt, by simp [T.get_set, g1], by simp [T.get_set, g5], by simp [T.get_set], ?_, ?_, hs⟩, muAt_lt g6 (by simp [T.get_set]) hlt⟩
        · rw [hno]; exact hz
        · rw [hno]; exact hoz
    · obtain rfl : k = K.length := by omega
      rw [List.take_length] at hz hoz
      simp [evOp_call, T.get_set, g1, g5, g6, (hy.ext hs).lenS]
      exact ⟨hz, hs⟩
def rdfI (st : St) (x y : V) (a b : List (BitVec 64)) (e : Env) (s : St) : Prop := ∃ (j : Nat) (z : V), j ≤ b.length ∧ e.get 0 = some x ∧ e.get 1 = some y ∧ e.get 6 = some z ∧ e.get 7 = some (.int .i64 (j : Int)) ∧ OwnRow st.nx s z 2 (sameN a b j).length (iw (sameN a b j)) ∧ Ext st.nx st s
set_option maxRecDepth 20000 in
set_option maxHeartbeats 4000000 in
theorem rdiff_any (st : St) (x y : V) (a b : List (BitVec 64)) (hx : RdRow st x 1 a.length (wv a)) (hy : RdRow st y 1 b.length (wv b)) (hb : b.length ≤ 400) (nt : Nat) :
    Gd (callL Try.prog ⟨false, [], 0, nt⟩ 98 [x, y] st) fun r => ∃ v, r.1 = .t [v, .bool (decide (a.length = b.length))] ∧ RdRow r.2 v 2 (if a.length = b.length then sameN a b b.length else []).length (iw (if a.length = b.length then sameN a b b.length else [])) ∧ Ext st.nx st r.2 := by
  rw [Gd_callL Try.func98 rfl]
  by_cases hk : a.length = b.length
  · have hk' : (a.length : Int) = b.length := by omega
    simp [evOp_call, sets, T.get_set, hx.lenS, hy.lenS, hk']
    refine Gd_loop (rdfI st x y a b) (fun e _ => muAt 7 b.length e) ?_ ?_
    · exact ⟨0, _, Nat.zero_le _, by simp [T.get_set], by simp [T.get_set], by simp [T.get_set], by simp [T.get_set], OwnRow.nil _ _ _, Ext.refl _ _⟩
    · rintro e s ⟨j, z, hj, g0, g1, g6, g7, hz, hs⟩
      have hsn := hs.le
      have hle := sameN_le a b j
      have hxs := hx.ext hs
      have hys := hy.ext hs
      by_cases hlt : j < b.length
      · have hlt' : (j : Int) < b.length := by omega
        have hw := wrap_nat (n := j) (by omega)
        obtain ⟨m1, o1, ty1, sz1, t1, i1, b1, k1, l1, c1⟩ := hxs.idx (st := s) un30 io31 (i := j) (by omega)
        obtain ⟨m2, o2, ty2, sz2, t2, i2, b2, k2, l2, c2⟩ := hys.idx (st := s) un30 io31 (i := j) hlt
        have d1 : t1.get o1 = some (wd (wat a j)) := c1 0 _ (by omega) (by simpa using wv_get (wat_get (L := a) (i := j) (by omega)))
        have d2 : t2.get o2 = some (wd (wat b j)) := c2 0 _ (by omega) (by simpa using wv_get (wat_get (L := b) (i := j) hlt))
        simp [evOp_call, T.get_set, g0, g1, g6, g7, hxs.lenS, hk', hk, hlt', hlt]
        refine ⟨by kernel_rfl, ?_⟩
        by_cases hpq : wat a j = wat b j
        · have hst : sameN a b (j + 1) = sameN a b j := if_pos hpq
          simp [evOp_call, T.get_set, g0, g1, g6, g7, i1, i2, loadE_eq, getC_eq, k1, k2, d1, d2, hpq, hw]
          refine ⟨⟨j + 1, z, hlt, by simp [T.get_set, g0], by simp [T.get_set, g1], by simp [T.get_set, g6], by simp [T.get_set], ?_, hs⟩, muAt_lt g7 (by simp [T.get_set]) hlt⟩
          rw [hst]; exact hz
        · have hst : sameN a b (j + 1) = sameN a b j ++ [((j : Int), wat b j)] := if_neg hpq
          simp [evOp_call, T.get_set, g0, g1, g6, g7, i1, i2, loadE_eq, getC_eq, k1, k2, d1, d2, hpq]
          refine evOp_build1 (v := .g [.int .i64 (j : Int), wd (wat b j)]) (cs := [.int .i64 (j : Int), wd (wat b j)]) (fun k => el134 k) (fun k => ze206 k) rfl (by omega) (by simp [T.get_set]) (fun k => rfl) rfl ?_
          simp [T.get_set]
          have hext := fun v => (Ext.refl s.nx s).new (Nat.le_refl _) v
          refine Gd_append un134 un134 io206 (lx := 1) (new := [.int .i64 (j : Int), wd (wat b j)]) (hz.ext (hext _)) (by show st.nx ≤ s.nx + 1; omega) (by decide) (fun s' h => by cases h) (fun k => rfl) (fun k => by simp [getC_eq, getsB_2, T.get_set, sets]) rfl (by omega) ?_
          intro s' st' ho' he' _ _
          simp [evOp_call, T.get_set, g0, g1, g7, hw]
          refine ⟨⟨j + 1, s', hlt, by simp [T.get_set, g0], by simp [T.get_set, g1], by simp [T.get_set], by simp [T.get_set], ?_, (hs.trans ((hext _).mono hsn)).trans he'⟩, muAt_lt g7 (by simp [T.get_set]) hlt⟩
          rw [hst, iw_app, List.length_append]
          exact ho'
      · obtain rfl : j = b.length := by omega
        have h400 : ¬ (400 : Int) < (sameN a b b.length).length := by omega
        have h400' : ¬ 400 < (sameN a b b.length).length := by omega
        simp [evOp_call, T.get_set, g0, g1, g6, g7, hxs.lenS, hk', hk, hz.rd.lenS, h400, h400']
        exact ⟨hz.rd, hs⟩
  · have hk' : ¬ (a.length : Int) = b.length := by omega
    simp [evOp_call, sets, T.get_set, hx.lenS, hy.lenS, hk, hk']
    exact ⟨(OwnRow.nil 0 st 2).rd, Ext.refl _ _⟩
end Go.Proofs.Ytenncnbaoejekaa

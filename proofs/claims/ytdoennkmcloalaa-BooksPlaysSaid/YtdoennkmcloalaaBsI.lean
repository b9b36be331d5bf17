/-
  Contracts: who has a record; the law's own writes; the document's own record.
-/
import Derived.Test.YtdoennkmcloalaaBsF
set_option linter.unusedSimpArgs false
namespace Go.Proofs.Ytdoennkmcloalaa
open Go.RowKit Ev
set_option maxRecDepth 20000 in
set_option maxHeartbeats 4000000 in
theorem writes15 (st : St) (fl : List (Nat × Nat)) (hfn : ∀ k, st.nx ≤ k → inF fl k = false) (x : V) (K : List (Int × BitVec 64)) (hx : RdRow st x 2 K.length (iw K)) (hK : K.length ≤ 1000000) (hfx : ∀ m, rowIn x m → inF fl m = false) (nt : Nat) :
    Gd (callL Try.prog ⟨false, fl, 0, nt⟩ 100 [x] st) fun r => OwnRow st.nx r.2 r.1 2 K.length (iw K) ∧ Ext st.nx st r.2 := by
  rw [Gd_callL Try.func100 rfl]
  simp [evOp_call, sets, T.get_set]
  refine Gd_loop (wtI st x K) (fun e _ => muAt 4 K.length e) ?_ ?_
  · exact ⟨0, _, Nat.zero_le _, by simp [T.get_set], by simp [T.get_set], by simp [T.get_set], OwnRow.nil _ _ _, Ext.refl _ _⟩
  · rintro e s ⟨j, z, hj, g0, g3, g4, hz, hs⟩
    have hsn := hs.le
    by_cases hlt : j < K.length
    · have hlt' : (j : Int) < K.length := by omega
      have hw := wrap_nat (n := j) (by omega)
      have hxs := hx.ext hs
      obtain ⟨m, o, ty, sz, tr, hid, hm, hg, ho, hc, hr⟩ := hxs.idxB (st := s) un115 io117 hlt
      obtain ⟨⟨F, N⟩, hK2⟩ : ∃ r, K[j]? = some r := ⟨_, List.getElem?_eq_getElem hlt⟩
      have hcl := iw_at K j _ hK2
      have t0 : tr.get o = some (.int .i64 F) := hc 0 _ (by omega) hcl.1
      have t1 : tr.get (o + 1) = some (wd N) := hc 1 _ (by omega) hcl.2
      have hfm := hfx m hr
      have hfo : ∀ nx, inF ((0, m) :: (m + 1, nx) :: fl) m = false := fun nx => inF_ownF hfm
      have fn0 := hfn s.nx hsn
      simp [evOp_call, T.get_set, g0, g3, g4, hlt', hxs.lenS]
      refine ⟨by kernel_rfl, ?_⟩
      simp [evOp_call, T.get_set, g0, g3, g4, hid, loadE_eq, getC_eq, hg, t0, t1, hfm, hfo]
      refine evOp_build1 (v := .g [.int .i64 F, wd N]) (cs := [.int .i64 F, wd N]) (fun k => el134 k) (fun k => ze230 k) rfl (by omega) (by simp [T.get_set]) (fun k => rfl) rfl ?_
      simp [evOp_call, T.get_set]
      rw [cxOf_call (by kernel_rfl) (by kernel_rfl), forb_oneR (by kernel_rfl)]
      have hext := fun v => (Ext.refl s.nx s).new (Nat.le_refl _) v
      have hfr := AppRow.from (.inl hz)
      refine Gd_appendL un134 un134 io230 (n := j) (lx := 1) (new := [.int .i64 F, wd N]) (hz.ext (hext _)) (fun m o ln e => hfn m (hfr.1 _ _ _ _ e)) (by show st.nx ≤ s.nx + 1; omega) (by decide) (fun s' h => by cases h) (fun k => rfl) (fun k => by simp [fn0, getC_eq, getsB_2, T.get_set, sets]) rfl (by omega) ?_
      intro s' st' ho' he' _ _
      simp [evOp_call, T.get_set, g0, g4, hw]
      refine ⟨⟨j + 1, s', hlt, by simp [T.get_set, g0], by simp [T.get_set], by simp [T.get_set], ?_, (hs.trans ((hext _).mono hsn)).trans he'⟩, muAt_lt g4 (by simp [T.get_set]) hlt⟩
      rw [iw_take hK2]
      exact ho'
    · obtain rfl : j = K.length := by omega
      rw [List.take_length] at hz
      simp [evOp_call, T.get_set, g0, g3, g4, (hx.ext hs).lenS]
      exact ⟨hz, hs⟩
set_option maxRecDepth 20000 in
set_option maxHeartbeats 4000000 in
theorem equal15 (st : St) (x y : V) (a b : List (Int × BitVec 64)) (hx : RdRow st x 2 a.length (iw a)) (hy : RdRow st y 2 b.length (iw b)) (hn : a.length ≤ 1000000) (nt : Nat) :
    Gd (callL Try.prog ⟨false, [], 0, nt⟩ 107 [x, y] st) fun r => r = (.bool (decide (a = b)), st) := by
  rw [Gd_callL Try.func107 rfl]
  by_cases hk : a.length = b.length
  · have hk' : (a.length : Int) = b.length := by omega
    simp [evOp_call, sets, T.get_set, hx.lenS, hy.lenS, hk']
    refine Gd_loop (ewI st x y a.length a b) (fun e _ => muAt 5 a.length e) ?_ ?_
    · exact ⟨0, Nat.zero_le _, by simp [T.get_set], by simp [T.get_set], by simp [T.get_set], by simp, rfl⟩
    · rintro e s ⟨j, hj, g0, g1, g5, hab, rfl⟩
      by_cases hlt : j < a.length
      · have hlt' : (j : Int) < a.length := by omega
        have hw := wrap_nat (n := j) (by omega)
        obtain ⟨⟨p1, p2⟩, hp⟩ : ∃ p, a[j]? = some p := ⟨_, List.getElem?_eq_getElem (by omega)⟩
        obtain ⟨⟨q1, q2⟩, hq⟩ : ∃ q, b[j]? = some q := ⟨_, List.getElem?_eq_getElem (by omega)⟩
        obtain ⟨m1, o1, ty1, sz1, t1, i1, b1, k1, l1, c1⟩ := hx.idx (st := s) un134 io230 hlt
        obtain ⟨m2, o2, ty2, sz2, t2, i2, b2, k2, l2, c2⟩ := hy.idx (st := s) un134 io230 (show j < b.length by omega)
        have hcp := iw_at a j _ hp
        have hcq := iw_at b j _ hq
        have d1 : t1.get o1 = some (.int .i64 p1) := c1 0 _ (by omega) hcp.1
        have d1' : t1.get (o1 + 1) = some (wd p2) := c1 1 _ (by omega) hcp.2
        have d2 : t2.get o2 = some (.int .i64 q1) := c2 0 _ (by omega) hcq.1
        have d2' : t2.get (o2 + 1) = some (wd q2) := c2 1 _ (by omega) hcq.2
        have hts : a.take (j + 1) = b.take (j + 1) ↔ (p1, p2) = (q1, q2) := by
          rw [List.take_add_one, List.take_add_one, hp, hq, hab]
          simp
        simp [evOp_call, T.get_set, g0, g1, g5, hx.lenS, hlt']
        refine ⟨by kernel_rfl, ?_⟩
        simp [evOp_call, T.get_set, g0, g1, g5, i1, i2, loadE_eq, getC_eq, getsB_2, k1, k2, d1, d1', d2, d2']
        rw [neqW]
        by_cases hpq : (p1, p2) = (q1, q2)
        · simp only [hpq]
          simp [evOp_call, T.get_set, g0, g1, g5, hw]
          exact ⟨⟨j + 1, by omega, by simp [T.get_set, g0], by simp [T.get_set, g1], by simp [T.get_set], hts.2 hpq, rfl⟩, muAt_lt g5 (by simp [T.get_set]) hlt⟩
        · have hne : ¬ a = b := fun e => by subst e; rw [hp] at hq; injection hq with hq; exact hpq hq
          simp only [hpq]
          simp [evOp_call, T.get_set, hne]
      · obtain rfl : j = a.length := by omega
        have : a = b := by rw [← List.take_length (l := a), ← List.take_length (l := b), ← hk]; exact hab
        simp [T.get_set, g0, g1, g5, hx.lenS, this]
  · have : ¬ a = b := fun e => by subst e; omega
    have hk' : ¬ (a.length : Int) = b.length := by omega
    simp [evOp_call, sets, T.get_set, hx.lenS, hy.lenS, hk, hk', this]
def rpI (st : St) (n : BitVec 64) (y : V) (K : List (Int × BitVec 64)) (e : Env) (s : St) : Prop := ∃ (j : Nat) (z : V), j ≤ K.length ∧ e.get 1 = some (.p st.nx 0) ∧ e.get 3 = some z ∧ e.get 4 = some (.int .i64 (j : Int)) ∧ s.h.get st.nx = some (.cs 152 2 ((T.lf.set 0 (wd n)).set 1 y)) ∧
  AppRow (st.nx + 1) s z 1 (2 + 2 * j) (wv (headR n K j)) ∧ (∀ r ∈ K.take j, okAt r) ∧ Ext st.nx st s ∧ st.nx + 1 ≤ s.nx
set_option maxRecDepth 20000 in
set_option maxHeartbeats 4000000 in
theorem rputR_any (st : St) (n : BitVec 64) (y : V) (K : List (Int × BitVec 64)) (hy : RdRow st y 2 K.length (iw K)) (hK : K.length ≤ 1000000) (nt : Nat) :
    Gd (callL Try.prog ⟨false, [], 0, nt⟩ 101 [.g [wd n, y]] st) fun r => RdRow r.2 r.1 1 (putR n K).length (wv (putR n K)) ∧ Ext st.nx st r.2 := by
  have hone := hy.one
  rw [Gd_callL Try.func101 rfl]
  have he : ∀ v, Ext st.nx st ⟨st.nx + 1, st.h.set st.nx v⟩ := fun v => (Ext.refl _ _).new (Nat.le_refl _) _
  have bad : ∀ s, ¬ fitsR n K → RdRow s (.c (.slice none 0 0)) 1 (putR n K).length (wv (putR n K)) := fun s hf => by
    unfold putR; rw [if_neg hf]; exact (OwnRow.nil 0 s 1).rd
  by_cases hn : n = 0#64
  · have hf : ¬ fitsR n K := fun h => h.1 hn
    simp [evOp_call, sets, T.get_set, cellsOf, newC_is, loadE_eq, getC_eq, hn]
    exact ⟨by rw [← hn]; exact bad _ hf, he _⟩
  · by_cases hl : (400 : Int) < K.length
    · have hf : ¬ fitsR n K := fun h => by have := h.2.1; omega
      simp [evOp_call, sets, T.get_set, cellsOf, newC_is, loadE_eq, getC_eq, hn, hy.lenS, hl]
      exact ⟨bad _ hf, he _⟩
    · simp [evOp_call, sets, T.get_set, cellsOf, newC_is, loadE_eq, getC_eq, hn, hy.lenS, hl]
      refine Gd_buildW (vs := [wd n, wd (BitVec.ofInt 64 (K.length : Int))]) (fun k => el23 k) (fun k => ze24 k) rfl (by simp [T.get_set]) (by simp) rfl rfl (by omega) ?_
      have q1 : ¬ st.nx + 1 = st.nx := by omega
      simp [evOp_call, T.get_set]
      refine Gd_loop (rpI st n y K) (fun en _ => muAt 4 K.length en) ?_ ?_
      · exact ⟨0, _, Nat.zero_le _, by simp [T.get_set], by simp [T.get_set], by simp [T.get_set], (T.get_set_ne _ _ q1).trans (T.get_set_same _ _ _), AppRow.built (n := 2) (st := ⟨st.nx + 1, _⟩) (Nat.le_refl _) (by decide) rfl, fun r h => by simp at h, (he _).new (Nat.le_succ _) _, Nat.le_succ _⟩
      · rintro en s ⟨j, z, hj, g1, g3, g4, kq, hz, hok, hs, hbn⟩
        have hys := hy.ext hs
        by_cases hlt : j < K.length
        · have hlt' : (j : Int) < K.length := by omega
          have hw := wrap_nat (n := j) (by omega)
          obtain ⟨m, o, ty, sz, tr, hid, hm, hg, ho, hc⟩ := hys.idx (st := s) un134 io230 hlt
          obtain ⟨⟨F, N⟩, hr⟩ : ∃ r, K[j]? = some r := ⟨_, List.getElem?_eq_getElem hlt⟩
          have hcl := iw_at K j _ hr
          have t0 : tr.get o = some (.int .i64 F) := hc 0 _ (by omega) hcl.1
          have t1 : tr.get (o + 1) = some (wd N) := hc 1 _ (by omega) hcl.2
          by_cases c1 : F < 0
          · have hf : ¬ fitsR n K := fun h => by have := (h.2.2 _ (List.mem_of_getElem? hr)).1; dsimp only at this; omega
            simp [evOp_call, T.get_set, g1, g3, g4, loadE_eq, getC_eq, kq, hys.lenS, hlt', hid, hg, t0, c1]
            exact ⟨bad _ hf, hs⟩
          · by_cases c2 : 1048576 < F
            · have hf : ¬ fitsR n K := fun h => by have := (h.2.2 _ (List.mem_of_getElem? hr)).2; dsimp only at this; omega
              simp [evOp_call, T.get_set, g1, g3, g4, loadE_eq, getC_eq, kq, hys.lenS, hlt', hid, hg, t0, c1, c2]
              exact ⟨bad _ hf, hs⟩
            · simp [evOp_call, T.get_set, g1, g3, g4, loadE_eq, getC_eq, kq, hys.lenS, hlt', hid, hg, t0, c1, c2]
              refine ⟨by kernel_rfl, ?_⟩
              try simp [evOp_call, T.get_set, g1, g3, g4, loadE_eq, getC_eq, kq, hid, hg, t0, t1]
              refine Gd_buildW (vs := [wd (BitVec.ofInt 64 F), wd N]) (fun k => el23 k) (fun k => ze24 k) rfl (by simp [T.get_set]) (by simp) rfl rfl (by omega) ?_
              simp [evOp_call, T.get_set]
              rw [cxOf_call (by kernel_rfl) (by kernel_rfl), forb_oneR (by kernel_rfl)]
              have hext := fun v => (Ext.refl s.nx s).new (Nat.le_refl _) v
              refine Gd_appendA un23 un23 io24 (lx := 2) (new := [wd (BitVec.ofInt 64 F), wd N]) (hz.ext (hext _)) (by show st.nx + 1 ≤ s.nx + 1; omega) (by decide) (fun s' h => by cases h) (fun k => rfl) (fun k => by simp [getC_eq, getsB_2, T.get_set, sets]) rfl (by omega) (by omega) ?_
              intro s' st' ho' he'
              have hle' : s.nx + 1 ≤ st'.nx := he'.le
              have qs : ¬ s.nx = st.nx := by omega
              simp [evOp_call, T.get_set, g1, g4, hw]
              refine ⟨⟨j + 1, s', hlt, by simp [T.get_set, g1], by simp [T.get_set], by simp [T.get_set], (he'.keep _ (Nat.lt_succ_self _)).trans ((T.get_set_ne _ _ qs).trans kq), .inl ?_, fun r h => ?_, (hs.trans ((hext _).mono (by omega))).trans (he'.mono (Nat.le_succ _)), by omega⟩, muAt_lt g4 (by simp [T.get_set]) hlt⟩
              · rw [headR_take n hr, wv_app, show 2 + 2 * (j + 1) = 2 + 2 * j + 2 by omega]
                exact ho'
              · rw [List.take_add_one, hr] at h
                simp at h
                rcases h with h | rfl
                · exact hok r h
                · exact ⟨by omega, by omega⟩
        · obtain rfl : j = K.length := by omega
          rw [List.take_length] at hok
          rw [headR_all] at hz
          have hf : fitsR n K := ⟨hn, by omega, hok⟩
          have hpl := preR_length n K
          have hzr := hz.rd
          simp [evOp_call, T.get_set, g1, g3, g4, loadE_eq, getC_eq, kq, hys.lenS]
          refine Gd.mono (rslOf_any s 0 z (preR n K) (by rw [hpl, show 2 * K.length + 2 = 2 + 2 * K.length by omega]; exact hzr) (by omega) _) ?_
          rintro _ rfl
          simp [evOp_call, T.get_set]
          refine Gd_buildW (vs := [wd (slOf (preR n K))]) (fun k => el23 k) (fun k => ze24 k) rfl (by simp [T.get_set]) (by simp) rfl rfl (by omega) ?_
          simp [T.get_set]
          have hext := fun v => (Ext.refl s.nx s).new (Nat.le_refl _) v
          refine Gd_appendA un23 un23 io24 (lx := 1) (new := [wd (slOf (preR n K))]) (hz.ext (hext _)) (by show st.nx + 1 ≤ s.nx + 1; omega) (by decide) (fun s' h => by cases h) (fun k => rfl) (fun k => by simp [getC_eq, getsB_1, T.get_set, sets]) rfl (by omega) (by omega) ?_
          intro s' st' ho' he'
          have hpr : putR n K = preR n K ++ [slOf (preR n K)] := by unfold putR; rw [if_pos hf]
          have hpl2 : (putR n K).length = 2 + 2 * K.length + 1 := by rw [hpr]; simp [hpl]; omega
          simp [evOp_call, T.get_set]
          have ho2 : OwnRow (st.nx + 1) st' s' 1 (putR n K).length (wv (putR n K)) := by
            rw [hpl2, hpr, wv_app]
            exact ho'
          exact ⟨ho2.rd, (hs.trans ((hext _).mono (by omega))).trans (he'.mono (Nat.le_succ _))⟩

/-- the clients with a record, of the first ones -/
def heldL (H : List (Option RecW)) : Nat → List Int
  | 0 => []
  | i + 1 => heldL H i ++ (match H[i]? with | some (some _) => [(i : Int)] | _ => [])
theorem heldL_le (H : List (Option RecW)) : ∀ i, (heldL H i).length ≤ i
  | 0 => Nat.le_refl _
  | i + 1 => by
    have := heldL_le H i
    unfold heldL
    rw [List.length_append]
    split <;> simp <;> omega
theorem heldL_some {H : List (Option RecW)} {i : Nat} {r : RecW} (h : H[i]? = some (some r)) : heldL H (i + 1) = heldL H i ++ [(i : Int)] := by
  rw [heldL, h]
theorem heldL_none {H : List (Option RecW)} {i : Nat} (h : H[i]? = some none) : heldL H (i + 1) = heldL H i := by
  rw [heldL, h]; simp
def hdI (st : St) (z : V) (n : Nat) (H : List (Option RecW)) (e : Env) (s : St) : Prop := ∃ (i : Nat) (y : V), i ≤ n ∧ e.get 3 = some y ∧ e.get 12 = some z ∧ e.get 13 = some (.int .i64 (n : Int)) ∧ e.get 14 = some (.int .i64 (i : Int)) ∧ Ext st.nx st s ∧ OwnRow st.nx s y 1 (heldL H i).length (ivs (heldL H i))
def bhdQ (st : St) (n : Nat) (H : List (Option RecW)) (r : V × St) : Prop := RdRow r.2 r.1 1 (heldL H n).length (ivs (heldL H n)) ∧ Ext st.nx st r.2
set_option maxRecDepth 20000 in
set_option maxHeartbeats 8000000 in
theorem bsheld_any (st : St) (q : Nat) (v : MV) (hm : MemAt st q v) (p : Nat) (z : V) (n : Nat) (hn : n ≤ 8) (m : BitVec 64) (hb : BsAt st q v p z n m) (H : List (Option RecW)) (hs : Shelf n (absV v) H) (nt : Nat) :
    Gd (callL Try.prog ⟨false, [], 0, nt⟩ 105 [.p p 0] st) (bhdQ st n H) := by
  rw [Gd_callL Try.func105 rfl]
  obtain ⟨t, k1, k2, k3⟩ := hb.blk
  have hR : v.R.length = 4 * n := by rw [← absLen]; exact hs.c.ok.len
  have hoff : v.off = false := hs.c.ok.off
  simp [evOp_call, sets, T.get_set, loadE_eq, getC_eq, k1, k2, hb.row.1.lenS]
  refine Gd_loop (hdI st z n H) (fun e _ => muAt 14 n e) ?_ ?_
  · exact ⟨0, _, Nat.zero_le _, by simp [T.get_set], by simp [T.get_set], by simp [T.get_set], by simp [T.get_set], Ext.refl _ _, OwnRow.nil _ _ _⟩
  rintro e s ⟨i, y, hi, g3, g12, g13, g14, hes, hE⟩
  have hEi := heldL_le H i
  by_cases hlt : i < n
  case neg =>
    obtain rfl : i = n := by omega
    simp [evOp_call, T.get_set, g3, g12, g13, g14, sets]
    exact ⟨hE.rd, hes⟩
  have hlt' : (i : Int) < n := by omega
  have hwi := wrap_nat (n := i) (by omega)
  obtain ⟨mb, o, ty, sz, tr, hid, hmb, hg, ho, hc⟩ := (hb.row.more hes).1.idx (st := s) un142 io122 hlt
  have t0 : tr.get o = some (.p q 0) := hc 0 _ (by omega) (bkRow_at q n hlt rfl)
  have t1 : tr.get (o + 1) = some (.int .i64 (4 * (i : Int))) := hc 1 _ (by omega) (bkRow_at q n hlt rfl)
  have t2 : tr.get (o + 1 + 1) = some (.int .i64 4) := hc 2 _ (by omega) (bkRow_at q n hlt rfl)
  have t3 : tr.get (o + 1 + 1 + 1) = some (.int .i64 (i : Int)) := hc 3 _ (by omega) (bkRow_at q n hlt rfl)
  have hne : ¬ s.nx = mb := by omega
  have hne' : ¬ mb = s.nx := by omega
  have hx2 := fun b => (Ext.refl s.nx s).new (Nat.le_refl _) b
  simp [evOp_call, T.get_set, g3, g12, g13, g14, tupK, newC_is, cellsOf, storeK_g, putB_eq, roT, sets, loadE_eq, getC_eq, getsB_succ, getsB_zero, hlt', hid, hg, t0, t1, t2, t3, hne, hne']
  obtain ⟨r0, hr0⟩ : ∃ r0, H[i]? = some r0 := ⟨_, List.getElem?_eq_getElem (by rw [hs.len]; exact hlt)⟩
  rw [← bkV_cs' q i]
  refine Gd.mono (bread_any _ q v ((hm.ext hes).ext (hx2 _)) (by omega) (4 * (i : Int)) 4 i (by rw [hR]; exact hs.win hlt) (by omega) _) ?_
  rintro ⟨r, s3⟩ ⟨e3, hr⟩
  simp only at hr e3
  rcases hr with ⟨h0, _⟩ | ⟨_, w, num, K, b, hr, hw3, hwf, hrd, hK4⟩
  · rw [hoff] at h0; cases h0
  subst hr
  rw [hs.read hr0] at hrd
  have hl3 : s.nx + 1 ≤ s3.nx := e3.le
  have hl0 := hes.le
  have hwo := hw3.one
  have hx3 := fun b => (Ext.refl s3.nx s3).new (Nat.le_refl _) b
  have hE3 := (hE.ext (hx2 _)).ext e3
  rcases hrd with ⟨rfl, hsome⟩ | ⟨rfl, hnone, hnum0, hK0⟩
  · subst hsome
    simp [evOp_call, T.get_set, g3, g12, g13, g14, tupK, newC_is, cellsOf, storeK_g, putB_eq, roT, sets, loadE_eq, getC_eq, getsB_succ, getsB_zero, hwo, wd_one]
    refine evOp_build1 (v := .int .i64 (i : Int)) (cs := [.int .i64 (i : Int)]) (fun k => el76 k) (fun k => ze3 k) rfl (by decide) (by simp [T.get_set]) (fun k => rfl) rfl ?_
    have hx4 := fun a b => (hx3 a).new (Nat.le_succ _) b
    simp [evOp_call, T.get_set, g3, g12, g13, g14, tupK, newC_is, cellsOf, storeK_g, putB_eq, roT, sets, loadE_eq, getC_eq, getsB_succ, getsB_zero, hwo, wd_one, hwi]
    refine Gd_append un76 un76 io3 (n := (heldL H i).length) (lx := 1) (new := [.int .i64 (i : Int)]) (hE3.ext (hx4 _ _)) (by show st.nx ≤ s3.nx + 1 + 1; omega) (by decide) (fun s' h => by cases h) (fun k => rfl) (fun k => by simp [getC_eq, getsB_1, T.get_set, sets]) rfl (by omega) ?_
    intro y' s5 hy5 e5 hk5 hor
    simp [evOp_call, T.get_set, g3, g12, g13, g14, tupK, newC_is, cellsOf, storeK_g, putB_eq, roT, sets, loadE_eq, getC_eq, getsB_succ, getsB_zero, hwo, wd_one, hwi]
    refine ⟨⟨i + 1, y', hlt, by simp [T.get_set], by simp [T.get_set, g12], by simp [T.get_set, g13], by simp [T.get_set], ?_, ?_⟩, muAt_lt g14 (by simp [T.get_set]) hlt⟩
    · exact ((((hes.trans ((hx2 _).mono hl0)).trans (e3.mono (by show st.nx ≤ s.nx + 1; omega))).trans ((hx4 _ _).mono (by omega))).trans e5)
    · rw [heldL_some hr0, List.length_append]
      have : ivs (heldL H i ++ [(i : Int)]) = ivs (heldL H i) ++ [.int .i64 (i : Int)] := by unfold ivs; simp
      rw [this]
      exact hy5
  · subst hnone
    simp [evOp_call, T.get_set, g3, g12, g13, g14, tupK, newC_is, cellsOf, storeK_g, putB_eq, roT, sets, loadE_eq, getC_eq, getsB_succ, getsB_zero, hwo, wd_one, hwi]
    refine ⟨⟨i + 1, y, hlt, by simp [T.get_set, g3], by simp [T.get_set, g12], by simp [T.get_set, g13], by simp [T.get_set], ?_, ?_⟩, muAt_lt g14 (by simp [T.get_set]) hlt⟩
    · exact (((hes.trans ((hx2 _).mono hl0)).trans (e3.mono (by show st.nx ≤ s.nx + 1; omega))).trans ((hx3 _).mono (by omega)))
    · rw [heldL_none hr0]
      exact hE3.ext (hx3 _)
end Go.Proofs.Ytdoennkmcloalaa

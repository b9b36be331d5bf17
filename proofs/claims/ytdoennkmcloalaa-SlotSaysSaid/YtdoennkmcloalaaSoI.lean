/-
  The document's contracts: words' slot.
-/
import Derived.Test.YtdoennkmcloalaaSoH
import Derived.Test.YtdoennkmcloalaaSoF
set_option linter.unusedSimpArgs false
set_option linter.unusedVariables false
namespace Go.Proofs.Ytdoennkmcloalaa
open Go.RowKit Ev
theorem Gd_headO {P : Program} {c : Cx} {e : Env} {b n k : Nat} {st : St} {t el : TypeId} {i : IntKind} {y : V} {l : List V} {x : Operand} {Q : V × St → Prop} (hu : P.underlying t = some (.slice el)) (hi : infoOk P el 1 = true) (h : OwnRow b st y 1 n l) (hn : 0 < n) (hv : opv e x = some (.int i (k : Int))) (hk : k ≤ n)
    (hQ : ∀ v, RdRow st v 1 k (l.take k) → (∀ m, rowIn v m → b ≤ m ∧ m < st.nx) → Q (v, st)) : Gd (sliceK P c e st t y none (some x)) Q := by
  obtain ⟨h1, ⟨rfl, h2⟩ | ⟨m, ty, tr, rfl, hb, h3, h4, h5, h6⟩⟩ := h
  · omega
  unfold sliceK
  rw [sliceE_hi hu hi hv m 0 n hk (fun a => some (a, st))]
  refine ⟨_, rfl, hQ _ ⟨by rw [List.length_take]; omega, .inr (.inr ⟨m, 0, ty, _, tr, rfl, h3, h4, by omega, fun j v hj => ?_⟩)⟩ fun m' hm => ?_⟩
  · have hjk : j < k := by have := lt_of_get hj; rw [List.length_take] at this; omega
    rw [List.getElem?_take, if_pos hjk] at hj
    rw [Nat.zero_add]
    exact h6 j v hj
  · rcases hm with ⟨_, _, _, e⟩ | ⟨_, _, _, e⟩
    · cases e
    · injection e with e; subst e; exact ⟨hb, h3⟩
/-- the slot that the words tell: its name -/
theorem bytesL_get : ∀ (M : List (BitVec 64)) (i : Nat), i < 8 * M.length → (W.bytesL M)[i]? = some (W.byteN (M[i / 8]?.getD 0) (i % 8))
  | [], i, h => by simp at h
  | w :: M, i, h => by
    have e : W.bytesL (w :: M) = W.bytesN w 8 ++ W.bytesL M := rfl
    rw [e]
    by_cases hi : i < 8
    · rw [List.getElem?_append_left (by rw [W.bytesN_len]; exact hi)]
      have e1 : i / 8 = 0 := by omega
      have e2 : i % 8 = i := by omega
      rw [e1, e2]
      unfold W.bytesN
      rw [List.getElem?_map, List.getElem?_range hi]
      rfl
    · rw [List.getElem?_append_right (by rw [W.bytesN_len]; omega), W.bytesN_len, bytesL_get M (i - 8) (by simp at h; omega)]
      have e1 : i / 8 = (i - 8) / 8 + 1 := by omega
      have e2 : i % 8 = (i - 8) % 8 := by omega
      rw [e1, e2, List.getElem?_cons_succ]
theorem bytes_name {L : List (BitVec 64)} (h8 : L.length = 8) {k : Nat} (hk : k ≤ 40) : (W.bytesL ((L.drop 2).take 5)).take k = (List.range k).map fun i => (soByte L i : Int) := by
  refine List.ext_getElem? fun i => ?_
  by_cases hi : i < k
  · have h5 : ((L.drop 2).take 5).length = 5 := by rw [List.length_take, List.length_drop]; omega
    rw [List.getElem?_take, if_pos hi, bytesL_get _ i (by rw [h5]; omega), List.getElem?_map, List.getElem?_range hi, List.getElem?_take, if_pos (by omega), List.getElem?_drop]
    show some (W.byteN (wat L (2 + i / 8)) (i % 8)) = some (soByte L i : Int)
    rw [(soByte_int L i).1]
  · rw [List.getElem?_take, if_neg hi, List.getElem?_eq_none (by simp; omega)]
def nmI (L : List (BitVec 64)) (k : Nat) : List Int := (List.range k).map fun i => (soByte L i : Int)
theorem nmI_txt (L : List (BitVec 64)) (k : Nat) : stxtB (nmI L k) = (List.range k).map (soByte L) := by
  unfold nmI stxtB
  rw [List.map_map]
  exact List.map_congr_left fun x _ => by simp
theorem rsameS_any (st : St) (x y : V) (a b : List (BitVec 64)) (hx : RdRow st x 1 a.length (wv a)) (hy : RdRow st y 1 b.length (wv b)) (hn : a.length ≤ 100000) (nt : Nat) :
    Gd (callL Try.prog ⟨false, [], 0, nt⟩ 123 [x, y] st) fun r => r = (.bool (decide (a = b)), st) := by
  rw [Gd_callL Try.func123 rfl]
  by_cases hk : a.length = b.length
  · have hk' : (a.length : Int) = b.length := by omega
    simp [evOp_call, sets, T.get_set, hx.lenS, hy.lenS, hk']
    refine Gd_loop (sameSoI st x y a.length a b) (fun e _ => muAt 5 a.length e) ?_ ?_
    · exact ⟨0, Nat.zero_le _, by simp [T.get_set], by simp [T.get_set], by simp [T.get_set], by simp, rfl⟩
    · rintro e s ⟨j, hj, g0, g1, g5, hab, rfl⟩
      by_cases hlt : j < a.length
      · have hlt' : (j : Int) < a.length := by omega
        have hw := wrap_nat (n := j) (by omega)
        obtain ⟨p, hp⟩ : ∃ p, a[j]? = some p := ⟨_, List.getElem?_eq_getElem (by omega)⟩
        obtain ⟨q, hq⟩ : ∃ q, b[j]? = some q := ⟨_, List.getElem?_eq_getElem (by omega)⟩
        obtain ⟨m1, o1, ty1, sz1, t1, i1, b1, k1, l1, c1⟩ := hx.idx (st := s) un23 io24 hlt
        obtain ⟨m2, o2, ty2, sz2, t2, i2, b2, k2, l2, c2⟩ := hy.idx (st := s) un23 io24 (show j < b.length by omega)
        have d1 : t1.get o1 = some (wd p) := c1 0 _ (by omega) (by simpa using wv_get hp)
        have d2 : t2.get o2 = some (wd q) := c2 0 _ (by omega) (by simpa using wv_get hq)
        simp [T.get_set, g0, g1, g5, hx.lenS, hlt', i1, i2, loadE_eq, getC_eq, k1, k2, d1, d2]
        refine ⟨by kernel_rfl, ?_⟩
        by_cases hpq : p = q
        · subst hpq
          simp [T.get_set, g0, g1, g5, hw]
          exact ⟨⟨j + 1, by omega, by simp [T.get_set, g0], by simp [T.get_set, g1], by simp [T.get_set], (sameSo_take hab hp hq).2 rfl, rfl⟩, muAt_lt g5 (by simp [T.get_set]) hlt⟩
        · have hne : ¬ a = b := fun e => by subst e; rw [hp] at hq; injection hq with hq; exact hpq hq
          simp [T.get_set, hpq, hne]
      · obtain rfl : j = a.length := by omega
        have : a = b := by rw [← List.take_length (l := a), ← List.take_length (l := b), ← hk]; exact hab
        simp [T.get_set, g0, g1, g5, hx.lenS, this]
  · have : ¬ a = b := fun e => by subst e; omega
    have hk' : ¬ (a.length : Int) = b.length := by omega
    simp [evOp_call, sets, T.get_set, hx.lenS, hy.lenS, hk, hk', this]

noncomputable def soF2 : CallF := addF Try.prog soF1 52
theorem soF2_ne {g : Nat} (h : Nat.beq g 52 = false) (c : Cx) (args : List V) (st : St) : soF2 c g args st = soF1 c g args st := addF_ne _ _ h _ _ _
theorem soF1_both : CallSound Try.prog soF1 ∧ HasBody Try.prog soF1 := addF_both namesOkO mixesO _ (callL_both namesOkO mixesO)
theorem soF2_both : CallSound Try.prog soF2 ∧ HasBody Try.prog soF2 := addF_both namesOkO mixesO _ soF1_both
set_option maxRecDepth 20000 in
set_option maxHeartbeats 8000000 in
theorem rgetS_any (st : St) (x : V) (L : List (BitVec 64)) (hx : RdRow st x 1 L.length (wv L)) (hcap : CapOk x) (hin : 0 < L.length → ∃ m o q, x = .sl m o L.length q ∧ m < st.nx ∧ ∀ s, Ext st.nx st s → isRo s.h m = true) (nt : Nat) :
    Gd (soF2 ⟨false, [], 0, nt⟩ 52 [x] st) fun r => r.1 = .t [soV (soOf L), .bool (soGet L).isSome] ∧ Ext st.nx st r.2 := by
  rw [soF2, Gd_addF Try.func52 rfl]
  have none_ : soGet L = none → V.g [.int .i64 0, .s []] = soV (soOf L) ∧ soGet L = none := fun h => ⟨by unfold soOf; rw [h]; rfl, h⟩
  by_cases h8 : L.length = 8
  case neg =>
    have h8' : ¬ (L.length : Int) = 8 := by omega
    have hno := soGet_len h8
    simp [evOp_call, sets, T.get_set, newC_is, hx.lenS, h8', storeK_g, putB_eq, roT, loadE_eq, getC_eq, getsB_succ, getsB_zero]
    exact ⟨none_ hno, bx_ext st _⟩
  have h8' : (L.length : Int) = 8 := by omega
  obtain ⟨m, o, q, hxe, hm, hro⟩ := hin (by omega)
  have hmm : ∀ m', rowIn x m' → m' = m := fun m' h => by
    rw [hxe] at h
    rcases h with ⟨_, _, _, e⟩ | ⟨_, _, _, e⟩
    · injection e with e; exact e.symm
    · cases e
  obtain ⟨m0, o0, ty0, sz0, t0, i0, b0, k0, l0, c0, r0⟩ := hx.idxB un23 io24 (i := 0) (by omega)
  obtain rfl := hmm _ r0
  have d0 : t0.get o0 = some (wd (wat L 0)) := c0 0 _ (by omega) (by simpa using wv_get (wat_get (L := L) (i := 0) (by omega)))
  obtain ⟨m1, o1, ty1, sz1, t1, i1, b1, k1, l1, c1, r1⟩ := hx.idxB un23 io24 (i := 1) (by omega)
  obtain rfl := hmm _ r1
  have d1 : t1.get o1 = some (wd (wat L 1)) := c1 0 _ (by omega) (by simpa using wv_get (wat_get (L := L) (i := 1) (by omega)))
  have e01 := k0.symm.trans k1
  injection e01 with e01
  injection e01 with e1 e2 e3
  subst e1 e2 e3
  have n0 : ¬ st.nx = m1 := by omega
  by_cases hw : 64#64 < wat L 0
  · simp [evOp_call, sets, T.get_set, newC_is, hx.lenS, h8', i0, i1, loadE_eq, getC_eq, getsB_succ, getsB_zero, k0, k1, d0, d1, n0, hw, storeK_g, putB_eq, roT]
    exact ⟨none_ (soGet_wide hw), bx_ext st _⟩
  by_cases hbig : 40#64 < wat L 1
  · simp [evOp_call, sets, T.get_set, newC_is, hx.lenS, h8', i0, i1, loadE_eq, getC_eq, getsB_succ, getsB_zero, k0, k1, d0, d1, n0, hw, hbig, storeK_g, putB_eq, roT]
    exact ⟨none_ (soGet_long hbig), bx_ext st _⟩
  obtain ⟨k, hk⟩ : ∃ k, k = (wat L 1).toNat := ⟨_, rfl⟩
  have hk40 : k ≤ 40 := by
    have h2 : ¬ 40 < (wat L 1).toNat := hbig
    omega
  have hwk : wd (wat L 1) = .int .u64 (k : Int) := by rw [hk]; rfl
  simp [evOp_call, sets, T.get_set, newC_is, hx.lenS, h8', i0, i1, loadE_eq, getC_eq, getsB_succ, getsB_zero, k0, k1, d0, d1, n0, hw, hbig, storeK_g, putB_eq, roT]
  refine ⟨by kernel_rfl, ?_⟩
  have hS1 : Ext st.nx st ⟨st.nx + 1, st.h.set st.nx (.cs 64 2 ((T.lf.set 0 (V.int .i64 0)).set 1 (V.s [])))⟩ := bx_ext st _
  have kR1 : (st.h.set st.nx (.cs 64 2 ((T.lf.set 0 (V.int .i64 0)).set 1 (V.s [])))).get st.nx = _ := T.get_set_same _ _ _
  generalize hS : (⟨st.nx + 1, st.h.set st.nx (.cs 64 2 ((T.lf.set 0 (V.int .i64 0)).set 1 (V.s [])))⟩ : St) = s1 at hS1 ⊢
  have nx1 : s1.nx = st.nx + 1 := by rw [← hS]
  have kR : s1.h.get st.nx = some (.cs 64 2 ((T.lf.set 0 (V.int .i64 0)).set 1 (V.s []))) := by rw [← hS]; exact kR1
  refine Gd_midR un23 io24 (hx.ext hS1) hcap (i := .i64) (i2 := .i64) (k := 2) (k2 := 7) rfl rfl (by omega) (by omega) fun v hv => ?_
  have hv1 := hv s1 (hx.ext hS1)
  have h5 : ((L.drop 2).take (7 - 2)).length = 5 := by rw [List.length_take, List.length_drop]; omega
  simp [evOp_call, T.get_set]
  rw [cxOf_callRo [(m1, m1 + 1), (m1, m1 + 1)] (by kernel_rfl) (by kernel_rfl) (looseW_at2 22 0 (.p m1 o0) (.sl m1 o L.length q) (by simp [T.get_set]) (by simp [T.get_set, hxe]) (by kernel_rfl)) (fun p hp => by simp at hp; subst hp; exact hro _ hS1), forb_step (by kernel_rfl) rfl, liftF_nil, soF1_ne rfl]
  refine Gd.mono (W.rbytes_any s1 v ((L.drop 2).take 5) (by rw [show ((L.drop 2).take 5).length = 7 - 2 from h5]; exact hv1) (by rw [show ((L.drop 2).take 5).length = 5 from h5]; omega) _) ?_
  rintro ⟨z, s2⟩ ⟨hz, x2⟩
  simp only at hz x2
  have hl40 : (W.bytesL ((L.drop 2).take 5)).length = 40 := by rw [W.bytesL_len, show ((L.drop 2).take 5).length = 5 from h5]
  rw [hl40] at hz
  have n2 : s1.nx ≤ s2.nx := x2.le
  have kx2 := (x2.keep m1 (by omega)).trans ((hS1.keep m1 hm).trans k0)
  have kR2 := (x2.keep st.nx (by omega)).trans kR
  have hl : ∀ (b nx : Nat) (rs : List (Nat × Nat × Nat)), ltS m1 rs → inF ((0, m1) :: (m1 + 1, nx) :: forb b rs []) m1 = false := fun b nx rs hr => ltS_inF hr (Nat.le_refl _)
  have hlt1 : m1 < s1.nx := by omega
  have hlt0 : m1 < st.nx + 1 := by omega
  have hx2 := (hx.ext hS1).ext x2
  simp (maxDischargeDepth := 12) [evOp_call, T.get_set, i1, loadE_eq, getC_eq, getsB_succ, getsB_zero, kx2, d1, hl, ltS_nil, ltS_rs, hlt1, hlt0]
  refine Gd_headO un22 io5 hz (by omega) (i := .u64) (k := k) (by simp [T.get_set, hwk]) hk40 fun w hw hwb => ?_
  have hnm : (W.bv (W.bytesL ((L.drop 2).take 5))).take k = W.bv (nmI L k) := by unfold nmI; rw [← bytes_name h8 hk40]; simp [W.bv, List.map_take]
  have hnl : (nmI L k).length = k := by simp [nmI]
  have hnb : ∀ b ∈ nmI L k, 0 ≤ b ∧ b < 256 := fun b hb => by
    obtain ⟨i, _, rfl⟩ := List.mem_map.1 hb
    have := (soByte_int L i).2
    omega
  rw [hnm] at hw
  have hso : soRead L = ⟨(wat L 0).toInt, stxtB (nmI L k)⟩ := by
    unfold soRead
    rw [nmI_txt, ← hk]
  have hlt256 : ∀ b ∈ (soRead L).l, b < 256 := fun b hb => by
    rw [hso] at hb
    have hb' : b ∈ stxtB (nmI L k) := hb
    rw [nmI_txt] at hb'
    obtain ⟨j, _, rfl⟩ := List.mem_map.1 hb'
    exact (soByte_int L j).2
  simp [evOp_call, T.get_set]
  refine Gd_sconv (by simp [T.get_set]) rfl (hnl.symm ▸ hw) hnb (fun m hm => by rw [forb_step (by kernel_rfl) (forb_step (by kernel_rfl) rfl)]; rfl) ?_
  simp [evOp_call, T.get_set, newC_is]
  rw [cxOf_store]
  rotate_left
  · kernel_rfl
  rw [forb_cons (by kernel_rfl) (forb_step (by kernel_rfl) (forb_step (by kernel_rfl) rfl))]
  have nz : ¬ s2.nx = st.nx := by omega
  have nm : ¬ s2.nx = m1 := by omega
  have nm' : ¬ m1 = s2.nx := by omega
  simp [evOp_call, T.get_set, newC_is, storeK_g, putB_eq, roT, sets, loadE_eq, getC_eq, getsB_succ, getsB_zero, kR2, nz]
  have hsv : V.g [.int .i64 (wat L 0).toInt, .s (stxtB (nmI L k))] = soV (soRead L) := by rw [hso]; rfl
  rw [hsv]
  have hs2 : Ext st.nx st s2 := hS1.trans (x2.mono (by omega))
  have hbxs : ∀ v, Ext st.nx st ⟨s2.nx + 1, s2.h.set s2.nx v⟩ := fun v => hs2.new hs2.le v
  have hxs := hx.ext hs2
  refine Gd.mono (rputS_any _ (soRead L) hlt256 (by rw [hso]; show (stxtB (nmI L k)).length ≤ 1000000; rw [nmI_txt]; simp; omega) _) ?_
  rintro ⟨y, s3⟩ ⟨hy, _, x3⟩
  simp only at hy x3
  have l3 := x3.le
  have hs3 : Ext st.nx st s3 := (hbxs _).trans (x3.mono (Nat.le_trans hs2.le (Nat.le_succ _)))
  have kz1 : s3.h.get st.nx = _ := (x3.keep st.nx (by show st.nx < s2.nx + 1; omega)).trans ((T.get_set_ne _ _ nz).trans kR2)
  have kq1 := (x3.keep s2.nx (Nat.lt_succ_self _)).trans (T.get_set_same _ _ _)
  have l3' : s2.nx + 1 ≤ s3.nx := l3
  have hfin : ∀ v, Ext st.nx st ⟨s3.nx, s3.h.set st.nx v⟩ := fun v => hs3.set (m := st.nx) (Nat.le_refl _) (by omega) v
  simp [evOp_call, T.get_set]
  rw [soF1_ne rfl]
  refine Gd.mono (rsameS_any s3 y x (soPut (soRead L)) L hy ((hxs.ext ((Ext.refl s2.nx s2).new (Nat.le_refl _) _)).ext x3) (by rw [soPut_len]; split <;> omega) _) ?_
  rintro _ rfl
  by_cases heq : soPut (soRead L) = L
  · have hyes : soGet L = some (soRead L) := by unfold soGet; rw [if_pos ⟨h8, heq⟩]
    simp [evOp_call, T.get_set, heq, loadE_eq, getC_eq, getsB_succ, getsB_zero, kz1, kq1, storeK_g, putB_eq, roT, sets]
    rw [hsv]
    exact ⟨⟨by unfold soOf; rw [hyes]; rfl, by rw [hyes]; rfl⟩, hfin _⟩
  · have hno : soGet L = none := by unfold soGet; rw [if_neg fun h => heq h.2]
    simp [evOp_call, T.get_set, heq, loadE_eq, getC_eq, getsB_succ, getsB_zero, kz1, storeK_g, putB_eq, roT, sets]
    exact ⟨none_ hno, hfin _⟩
end Go.Proofs.Ytdoennkmcloalaa

/-
  The walks of RedoOrder and RedoSize.
-/
import Derived.Test.YtenncnbaoejekaaRdB
set_option linter.unusedSimpArgs false
namespace Go.Proofs.Ytenncnbaoejekaa
open Go.RowKit Ev
theorem namesOkR : Ev.namesOk Try.prog = true := by kernel_rfl
theorem mixesR : Try.prog.follows .mixedOrders = true := by kernel_rfl
theorem ranRedo : Ev.yesQ Try.prog 100000 92 = true := by kernel_rfl
theorem redoAwake (W : World) : Calls Try.prog 92 #[] W fun e W' => e = .returned (.bool true) ∧ Below W.heap.size W W' := Ev.yesQ_ok namesOkR mixesR ranRedo W
def sameRI (st : St) (x y : V) (n : Nat) (a b : List (BitVec 64)) (e : Env) (s : St) : Prop := ∃ j, j ≤ n ∧ e.get 0 = some x ∧ e.get 1 = some y ∧ e.get 5 = some (.int .i64 (j : Int)) ∧ a.take j = b.take j ∧ s = st
theorem sameR_take {a b : List (BitVec 64)} {j : Nat} {p q : BitVec 64} (h : a.take j = b.take j) (ha : a[j]? = some p) (hb : b[j]? = some q) : a.take (j + 1) = b.take (j + 1) ↔ p = q := by
  rw [List.take_add_one, List.take_add_one, ha, hb, h]
  simp
theorem sameR (st : St) (x y : V) (a b : List (BitVec 64)) (hx : RdRow st x 1 a.length (wv a)) (hy : RdRow st y 1 b.length (wv b)) (hn : a.length ≤ 100000) (nt : Nat) :
    Gd (callL Try.prog ⟨false, [], 0, nt⟩ 99 [x, y] st) fun r => r = (.bool (decide (a = b)), st) := by
  rw [Gd_callL Try.func99 rfl]
  by_cases hk : a.length = b.length
  · have hk' : (a.length : Int) = b.length := by omega
    simp [evOp_call, sets, T.get_set, hx.lenS, hy.lenS, hk']
    refine Gd_loop (sameRI st x y a.length a b) (fun e _ => muAt 5 a.length e) ?_ ?_
    · exact ⟨0, Nat.zero_le _, by simp [T.get_set], by simp [T.get_set], by simp [T.get_set], by simp, rfl⟩
    · rintro e s ⟨j, hj, g0, g1, g5, hab, rfl⟩
      by_cases hlt : j < a.length
      · have hlt' : (j : Int) < a.length := by omega
        have hw := wrap_nat (n := j) (by omega)
        obtain ⟨p, hp⟩ : ∃ p, a[j]? = some p := ⟨_, List.getElem?_eq_getElem (by omega)⟩
        obtain ⟨q, hq⟩ : ∃ q, b[j]? = some q := ⟨_, List.getElem?_eq_getElem (by omega)⟩
        obtain ⟨m1, o1, ty1, sz1, t1, i1, b1, k1, l1, c1⟩ := hx.idx (st := s) un30 io31 hlt
        obtain ⟨m2, o2, ty2, sz2, t2, i2, b2, k2, l2, c2⟩ := hy.idx (st := s) un30 io31 (show j < b.length by omega)
        have d1 : t1.get o1 = some (wd p) := c1 0 _ (by omega) (by simpa using wv_get hp)
        have d2 : t2.get o2 = some (wd q) := c2 0 _ (by omega) (by simpa using wv_get hq)
        simp [T.get_set, g0, g1, g5, hx.lenS, hlt', i1, i2, loadE_eq, getC_eq, k1, k2, d1, d2]
        refine ⟨by kernel_rfl, ?_⟩
        by_cases hpq : p = q
        · subst hpq
          simp [T.get_set, g0, g1, g5, hw]
          exact ⟨⟨j + 1, by omega, by simp [T.get_set, g0], by simp [T.get_set, g1], by simp [T.get_set], (sameR_take hab hp hq).2 rfl, rfl⟩, muAt_lt g5 (by simp [T.get_set]) hlt⟩
        · have hne : ¬ a = b := fun e => by subst e; rw [hp] at hq; injection hq with hq; exact hpq hq
          simp [T.get_set, hpq, hne]
      · obtain rfl : j = a.length := by omega
        have : a = b := by rw [← List.take_length (l := a), ← List.take_length (l := b), ← hk]; exact hab
        simp [T.get_set, g0, g1, g5, hx.lenS, this]
  · have : ¬ a = b := fun e => by subst e; omega
    have hk' : ¬ (a.length : Int) = b.length := by omega
    simp [evOp_call, sets, T.get_set, hx.lenS, hy.lenS, hk, hk', this]


def roI (x y z : V) (L : List (BitVec 64)) (s0 : St) (e : Env) (s : St) : Prop := ∃ i : Nat, i ≤ L.length ∧ e.get 0 = some x ∧ e.get 1 = some y ∧ e.get 5 = some z ∧ e.get 6 = some (.int .i64 (i : Int)) ∧ s = s0
def roJ (x y z : V) (K : List (Int × BitVec 64)) (i : Nat) (v : BitVec 64) (s0 : St) (e : Env) (s : St) : Prop := ∃ k : Nat, k ≤ K.length ∧ e.get 0 = some x ∧ e.get 1 = some y ∧ e.get 5 = some z ∧ e.get 6 = some (.int .i64 (i : Int)) ∧ e.get 7 = some (wd (lastV (K.take k) i v)) ∧ e.get 8 = some (.int .i64 (k : Int)) ∧ s = s0
set_option maxRecDepth 20000 in
set_option maxHeartbeats 4000000 in
theorem g_RedoOrder (st : St) (x y : V) (L : List (BitVec 64)) (K : List (Int × BitVec 64)) (hx : RdRow st x 1 L.length (wv L)) (hy : RdRow st y 2 K.length (iw K)) :
    Gd (lawC Try.prog 92 ⟨false, [], 0, 0⟩ 21 [x, y] st) fun r => r.1 = .bool true := by
  rw [Gd_lawC Try.func21 rfl]
  by_cases h60 : (60 : Int) < L.length
  · simp [evOp_call, sets, T.get_set, hx.lenS, hy.lenS, h60]
  · by_cases h40 : (40 : Int) < K.length
    · simp [evOp_call, sets, T.get_set, hx.lenS, hy.lenS, h60, h40]
    · simp [evOp_call, sets, T.get_set, hx.lenS, hy.lenS, h60, h40, oracF_cons]
      refine Gd.mono (do_any st x y L K hx (by omega) hy (by omega) _) ?_
      rintro ⟨z, s1⟩ ⟨hz, _, x1⟩
      simp only at hz x1
      have hlen := doW_length K L
      have hz' : RdRow s1 z 1 (doW L K).length (wv (doW L K)) := by rw [hlen]; exact hz
      simp [evOp_call, T.get_set, oracF_cons]
      refine Gd.mono (do_any s1 z y (doW L K) K hz' (by omega) (hy.ext x1) (by omega) _) ?_
      rintro ⟨w, s2⟩ ⟨hw, _, x2⟩
      simp only at hw x2
      have hz2 := hz'.ext x2
      have hlen2 := doW_length K (doW L K)
      simp [evOp_call, T.get_set, oracF_cons]
      refine Gd.mono (sameR s2 w z (doW (doW L K) K) (doW L K) (by rw [hlen2]; exact hw) hz2 (by omega) _) ?_
      rintro _ rfl
      have hxs := (hx.ext x1).ext x2
      have hys := (hy.ext x1).ext x2
      simp [evOp_call, T.get_set, doW_twice, hz2.lenS, hxs.lenS, hlen]
      refine Gd_loop (roI x y z L s2) (fun en _ => muAt 6 L.length en) ?_ ?_
      · exact ⟨0, Nat.zero_le _, by simp [T.get_set], by simp [T.get_set], by simp [T.get_set], by simp [T.get_set], rfl⟩
      · rintro en s ⟨i, hi, g0, g1, g5, g6, rfl⟩
        by_cases hlt : i < L.length
        · have hlt' : (i : Int) < L.length := by omega
          have hwi := wrap_nat (n := i) (by omega)
          obtain ⟨v, hv⟩ : ∃ v, L[i]? = some v := ⟨_, List.getElem?_eq_getElem hlt⟩
          obtain ⟨m1, o1, ty1, sz1, tr1, i1, b1, k1, l1, c1⟩ := hxs.idx (st := s) un30 io31 hlt
          have d1 : tr1.get o1 = some (wd v) := c1 0 _ (by omega) (by simpa using wv_get hv)
          have hdv := doW_get K hv
          obtain ⟨m2, o2, ty2, sz2, tr2, i2, b2, k2, l2, c2⟩ := hz2.idx (st := s) un30 io31 (by rw [hlen]; exact hlt)
          have d2 : tr2.get o2 = some (wd (lastV K i v)) := c2 0 _ (by omega) (by simpa using wv_get hdv)
          simp [evOp_call, T.get_set, g0, g1, g5, g6, hz2.lenS, hlen, hlt', i1, loadE_eq, getC_eq, k1, d1]
          refine Gd_loop (roJ x y z K i v s) (fun en _ => muAt 8 K.length en) ?_ ?_
          · exact ⟨0, Nat.zero_le _, by simp [T.get_set, g0], by simp [T.get_set, g1], by simp [T.get_set, g5], by simp [T.get_set, g6], by simp [T.get_set, lastV], by simp [T.get_set], rfl⟩
          · rintro en2 s ⟨k, hk, e0, e1, e5, e6, e7, e8, rfl⟩
            by_cases hkl : k < K.length
            · have hkl' : (k : Int) < K.length := by omega
              have hwk := wrap_nat (n := k) (by omega)
              obtain ⟨⟨F, N⟩, hr⟩ : ∃ r, K[k]? = some r := ⟨_, List.getElem?_eq_getElem hkl⟩
              obtain ⟨m3, o3, ty3, sz3, tr3, i3, b3, k3, l3, c3⟩ := hys.idx (st := s) un131 io155 hkl
              have hcl := iw_at K k _ hr
              have t0 : tr3.get o3 = some (.int .i64 F) := c3 0 _ (by omega) hcl.1
              have t1 : tr3.get (o3 + 1) = some (wd N) := c3 1 _ (by omega) hcl.2
              have hlv := lastV_take (i := i) (v := v) hr
              by_cases hF : F = (i : Int)
              · rw [if_pos hF] at hlv
                simp [evOp_call, T.get_set, e0, e1, e5, e6, e7, e8, hys.lenS, hkl', i3, loadE_eq, getC_eq, k3, t0, t1, hF, hwk]
                exact ⟨⟨k + 1, hkl, by simp [T.get_set, e0], by simp [T.get_set, e1], by simp [T.get_set, e5], by simp [T.get_set, e6], by simp [T.get_set, hlv], by simp [T.get_set], rfl⟩, muAt_lt e8 (by simp [T.get_set]) hkl⟩
              · rw [if_neg hF] at hlv
                simp [evOp_call, T.get_set, e0, e1, e5, e6, e7, e8, hys.lenS, hkl', i3, loadE_eq, getC_eq, k3, t0, t1, hF, hwk]
                exact ⟨⟨k + 1, hkl, by simp [T.get_set, e0], by simp [T.get_set, e1], by simp [T.get_set, e5], by simp [T.get_set, e6], by simp [T.get_set, e7, hlv], by simp [T.get_set], rfl⟩, muAt_lt e8 (by simp [T.get_set]) hkl⟩
            · obtain rfl : k = K.length := by omega
              rw [List.take_length] at e7
              simp [evOp_call, T.get_set, e0, e1, e5, e6, e7, e8, hys.lenS, i2, loadE_eq, getC_eq, k2, d2, hwi]
              exact ⟨⟨i + 1, hlt, by simp [T.get_set, e0], by simp [T.get_set, e1], by simp [T.get_set, e5], by simp [T.get_set], rfl⟩, muAt_lt g6 (by simp [T.get_set]) hlt⟩
        · obtain rfl : i = L.length := by omega
          simp [evOp_call, T.get_set, g0, g1, g5, g6, hz2.lenS, hlen]
/-- whatever came in -/
theorem w_RedoOrder (L0 : List Int) (K0 : List (Int × Int)) (W : World) (x : Value) (hx : InRow W x 1 L0.length (L0.map fun v => V.int .u64 v)) (hw : ∀ r ∈ L0, (Lit.int .u64 r).wf = true) (y : Value) (hy : InRow W y 2 K0.length (prs K0)) (hw2 : ∀ r ∈ K0, (Lit.int .i64 r.1).wf = true ∧ (Lit.int .u64 r.2).wf = true) :
    Calls Try.prog 21 #[x, y] W fun e W' => e = .returned (.bool true) ∧ Below W.heap.size W W' := by
  obtain ⟨L, hL, hm⟩ := wv_of hw
  rw [hm, ← hL] at hx
  obtain ⟨K, hK, hm2, _⟩ := iw_of hw2
  rw [hm2, ← hK] at hy
  obtain ⟨st, ρ, v, hb, _, hv, _, hr⟩ := (Begin.zero W).row hx
  obtain ⟨st2, ρ2, w, hb2, hle, hw', he, hk⟩ := hb.row hy
  exact law_calls (lawC_sound namesOkR mixesR Try.func92 rfl redoAwake) hb2 (.cons (Rel.mono hle _ _ hv) (.cons hw' .nil)) (g_RedoOrder st2 v w L K (hr.ext he) hk)
@[simp] theorem wantK_u (w : Bool) : wantK w (some V.u) = false := rfl
set_option maxRecDepth 20000 in
set_option maxHeartbeats 4000000 in
theorem g_RedoSize (st : St) (n : BitVec 64) (y : V) (K : List (Int × BitVec 64)) (hy : RdRow st y 2 K.length (iw K)) :
    Gd (lawC Try.prog 92 ⟨false, [], 0, 0⟩ 22 [.g [wd n, y]] st) fun r => r.1 = .bool true := by
  have hone := hy.one
  rw [Gd_lawC Try.func22 rfl]
  have he : ∀ v, Ext st.nx st ⟨st.nx + 1, st.h.set st.nx v⟩ := fun v => (Ext.refl _ _).new (Nat.le_refl _) _
  by_cases h100 : (100 : Int) < K.length
  · simp [evOp_call, sets, T.get_set, cellsOf, newC_is, loadE_eq, getC_eq, hy.lenS, h100]
  · simp [evOp_call, sets, T.get_set, cellsOf, newC_is, loadE_eq, getC_eq, getsB_2, hy.lenS, h100, oracF_cons]
    refine Gd.mono (size_any _ n y K (hy.ext (he _)) (by omega) _) ?_
    rintro ⟨r, s1⟩ ⟨hr, x1⟩
    simp only at hr x1
    subst hr
    have l1 : st.nx < s1.nx := x1.le
    have k0 : s1.h.get st.nx = _ := (x1.keep _ (Nat.lt_succ_self _)).trans (T.get_set_same _ _ _)
    simp [evOp_call, T.get_set, loadE_eq, getC_eq, getsB_2, k0, oracF_cons]
    refine Gd.mono (put_any s1 n y K ((hy.ext (he _)).ext x1) (by omega) _) ?_
    rintro ⟨z, s2⟩ ⟨hz, _, x2⟩
    simp only at hz x2
    have k1 : s2.h.get st.nx = _ := (x2.keep _ l1).trans k0
    by_cases hf : fitsR n K
    · have hpr : putR n K = n :: BitVec.ofInt 64 K.length :: (bodyR K ++ [slOf (preR n K)]) := by unfold putR; rw [if_pos hf]; rfl
      have hpl : (putR n K).length = 3 + 2 * K.length := by unfold putR; rw [if_pos hf]; simp [preR_length]; omega
      have w1 : IntKind.i64.wrap (2 * (K.length : Int)) = 2 * (K.length : Int) := wrap_in (by omega) (by omega)
      have w2 : IntKind.i64.wrap (3 + 2 * (K.length : Int)) = 3 + 2 * (K.length : Int) := wrap_in (by omega) (by omega)
      have hne : ¬ ((putR n K).length : Int) = 0 := by omega
      have hne2 : ¬ (3 + 2 * (K.length : Int)) = 0 := by omega
      have heq : ((putR n K).length : Int) = 3 + 2 * (K.length : Int) := by omega
      obtain ⟨m1, o1, ty1, sz1, tr1, i1, b1, k2, l2, c1⟩ := hz.idx (st := s2) un30 io31 (i := 0) (by omega)
      have d1 : tr1.get o1 = some (wd n) := c1 0 _ (by omega) (by rw [hpr]; rfl)
      obtain ⟨m2, o2, ty2, sz2, tr2, i2, b2, k3, l3, c2⟩ := hz.idx (st := s2) un30 io31 (i := 1) (by omega)
      have d2 : tr2.get o2 = some (wd (BitVec.ofInt 64 K.length)) := c2 0 _ (by omega) (by rw [hpr]; rfl)
      simp [evOp_call, T.get_set, loadE_eq, getC_eq, k1, hz.lenS, hy.lenS, hne, heq, w1, w2, i1, i2, k2, k3, d1, d2]
      refine ⟨by kernel_rfl, ?_⟩
      simp [evOp_call, T.get_set, loadE_eq, getC_eq, k1, hz.lenS, hy.lenS, hne, hne2, heq, w1, w2, i1, i2, k2, k3, d1, d2]
    · have hpr : putR n K = [] := by unfold putR; rw [if_neg hf]
      rw [hpr] at hz
      simp [evOp_call, T.get_set, loadE_eq, getC_eq, k1, hz.lenS, hy.lenS, hpr]
      trace_state
      rfl
theorem w_RedoSize (n0 : Int) (K0 : List (Int × Int)) (W : World) (y : Value) (hy : InRow W y 2 K0.length (prs K0)) (hn : (Lit.int .u64 n0).wf = true) (hw2 : ∀ r ∈ K0, (Lit.int .i64 r.1).wf = true ∧ (Lit.int .u64 r.2).wf = true) :
    Calls Try.prog 22 #[.agg #[.int .u64 n0, y]] W fun e W' => e = .returned (.bool true) ∧ Below W.heap.size W W' := by
  obtain ⟨K, hK, hm2, _⟩ := iw_of hw2
  rw [hm2, ← hK] at hy
  obtain ⟨m, rfl, hlt⟩ := u64_nat hn
  obtain ⟨st, ρ, w, hb, _, hw', _, hk⟩ := (Begin.zero W).row hy
  have hrel : Rel ρ (.g [wd (BitVec.ofNat 64 m), w]) (.agg #[.int .u64 (m : Int), y]) := by
    have hone := hk.one
    have h1 : wd (BitVec.ofNat 64 m) = .int .u64 (m : Int) := by unfold wd; rw [BitVec.toNat_ofNat, Nat.mod_eq_of_lt hlt]
    simp only [Rel]
    exact ⟨_, rfl, by rw [h1]; exact .cons (rel_int _ _) (.cons hw' .nil), by simp [hone]⟩
  exact law_calls (lawC_sound namesOkR mixesR Try.func92 rfl redoAwake) hb (.cons hrel .nil) (g_RedoSize st (BitVec.ofNat 64 m) w K hk)
end Go.Proofs.Ytenncnbaoejekaa

/-
  The walk of SlotOne.
-/
import Derived.Test.YtdoennkmcloalaaSoD
import Derived.Test.YtdoennkmcloalaaEc
import Derived.Test.YtdoennkmcloalaaIn
import Derived.Test.YtdoennkmcloalaaEx
set_option linter.unusedSimpArgs false
set_option linter.unusedVariables false
namespace Go.Proofs.Ytdoennkmcloalaa
open Go.RowKit Ev
theorem namesOkO : Ev.namesOk Try.prog = true := by kernel_rfl
theorem mixesO : Try.prog.follows .mixedOrders = true := by kernel_rfl
theorem ranSlot : Ev.yesQ Try.prog 100000 50 = true := by kernel_rfl
theorem slotAwake (W : World) : Calls Try.prog 50 #[] W fun e W' => e = .returned (.bool true) ∧ Below W.heap.size W W' := Ev.yesQ_ok namesOkO mixesO ranSlot W
theorem slRow_cap {b n : Nat} {st : St} {z : V} {L : List (BitVec 64)} (h : SlRow b st z n L) : CapOk z := by
  obtain ⟨_, m, _, _, rfl, _⟩ := h
  intro m o l q e
  injection e with _ _ e1 e2
  omega
theorem soOf_put {s : So} (h : soGood s) (hb : ∀ b ∈ s.l, b < 256) : soOf (soPut s) = s := by unfold soOf; rw [soGet_put h hb]; rfl
set_option maxRecDepth 20000 in
set_option maxHeartbeats 8000000 in
theorem g_SlotOne (st : St) (s : So) (hb : ∀ b ∈ s.l, b < 256) (i : Int) (v : BitVec 64) :
    Gd (lawC Try.prog 50 ⟨false, [], 0, 0⟩ 6 [soV s, .int .i64 i, wd v] st) fun r => r.1 = .bool true := by
  rw [Gd_lawC Try.func6 rfl]
  have hcell : ∀ k : List V → Res, cellsOf (soV s) k = k [.int .i64 s.n, .s s.l] := fun k => rfl
  have hsv : V.g [.int .i64 s.n, .s s.l] = soV s := rfl
  rw [show sets [soV s, V.int .i64 i, wd v] 0 T.lf = ((T.set .lf 0 (soV s)).set 1 (.int .i64 i)).set 2 (wd v) from rfl]
  simp [hcell, evOp_call, sets, T.get_set, newC_is, loadE_eq, getC_eq, getsB_succ, getsB_zero, oracF_cons]
  rw [hsv]
  refine Gd.mono (sput_any _ s hb _) ?_
  rintro ⟨z, s1⟩ ⟨hz, hzo, x1⟩
  simp only at hz hzo x1
  have l1 : st.nx < s1.nx := x1.le
  have hs1 : Ext st.nx st s1 := (bx_ext st _).trans (x1.mono (Nat.le_succ _))
  have k0 : s1.h.get st.nx = _ := (x1.keep _ (Nat.lt_succ_self _)).trans (T.get_set_same _ _ _)
  by_cases a0 : 100 < s.l.length
  · have a0' : (100 : Int) < s.l.length := by omega
    simp [evOp_call, T.get_set, hz.lenS, loadE_eq, getC_eq, k0, len_str un9, a0, a0']
  have a0' : ¬ (100 : Int) < s.l.length := by omega
  by_cases hg : soGood s
  case neg =>
    have hl0 : (soPut s).length = 0 := by rw [soPut_bad hg]; rfl
    simp [evOp_call, T.get_set, hz.lenS, hl0, loadE_eq, getC_eq, k0, len_str un9, a0, a0']
  have hl8 : (soPut s).length = 8 := by rw [soPut_len, if_pos hg]
  by_cases ht : s.n = 0
  · simp [evOp_call, T.get_set, hz.lenS, hl8, loadE_eq, getC_eq, k0, len_str un9, a0, a0', ht]
  by_cases a1 : i < 0
  · simp [evOp_call, T.get_set, hz.lenS, hl8, loadE_eq, getC_eq, k0, len_str un9, a0, a0', ht, a1]
  by_cases a2 : 7 < i
  · simp [evOp_call, T.get_set, hz.lenS, hl8, loadE_eq, getC_eq, k0, len_str un9, a0, a0', ht, a1, a2]
  by_cases a3 : v = 0#64
  · simp [evOp_call, T.get_set, hz.lenS, hl8, loadE_eq, getC_eq, k0, len_str un9, a0, a0', ht, a1, a2, a3]
  obtain ⟨n, rfl⟩ := Int.eq_ofNat_of_zero_le (show 0 ≤ i by omega)
  have hn : n < 8 := by omega
  have hzs := hzo hg
  simp [evOp_call, T.get_set, hz.lenS, hl8, loadE_eq, getC_eq, k0, len_str un9, a0, a0', ht, a1, a2, a3, oracF_cons]
  refine Gd.mono (sget_any s1 z (soPut s) hz _) ?_
  rintro ⟨r, s2⟩ ⟨hr, x2⟩
  simp only at hr x2
  rw [soOf_put hg hb, soGet_put hg hb] at hr
  subst hr
  have l2 := x2.le
  have k1 : s2.h.get st.nx = _ := (x2.keep _ l1).trans k0
  have ne2 : ¬ s2.nx = st.nx := by omega
  simp [soV, evOp_call, sets, T.get_set, newC_is, storeK_g, putB_eq, roT]
  have hzs2 : ∀ X, SlRow st.nx ⟨s2.nx + 1, s2.h.set s2.nx X⟩ z 8 (soPut s) := fun X => by
    have := (hzs.ext x2).ext (bx_ext s2 X)
    obtain ⟨h1, m, ty, t, h2, h3, h4⟩ := this
    exact ⟨h1, m, ty, t, h2, by omega, h4⟩
  have hzlow : ∀ m o l q, z = .sl m o l q → m < s1.nx ∧ st.nx + 1 ≤ m := fun m o l q e => by
    obtain ⟨h1, m', ty, t, h2, h3, h4, _⟩ := hzs
    rw [e] at h2
    injection h2 with h2
    subst h2
    exact ⟨h4, h3⟩
  obtain ⟨m2, ty2, tr2, rfl, hb2, hm2, hg2, hro2, hc2, _⟩ := (hzs2 .gone).put (i := n) hn
  obtain ⟨hlo1, hlo2⟩ := hzlow _ _ _ _ rfl
  have hw0 : tr2.get n = some (wd (wat (soPut s) n)) := hc2 _ _ (wat_get (by rw [hl8]; exact hn))
  have hn1 : n + 1 ≤ 8 := hn
  have e1 : ¬ s2.nx = m2 := by omega
  have e2 : ¬ m2 = s2.nx := by omega
  have e3 : ¬ m2 = st.nx := by omega
  have hg2' : s2.h.get m2 = some (.cs ty2 8 tr2) := by
    have := hg2
    rw [T.get_set_ne _ _ e1] at this
    exact this
  have hput := fun X => (hzs2 X).put2 (i := n) rfl ((T.get_set_ne _ _ e1).trans hg2') hn (wat (soPut s) n ^^^ v)
  simp [evOp_call, sets, T.get_set, hn, loadE_eq, getC_eq, hg2', e1, hw0, putB_eq, hro2, hn1, oracF_cons]
  have hno := soGet_alt v hg ht a3 hn
  have hlen : ((soPut s).set n (wat (soPut s) n ^^^ v)).length = 8 := by rw [List.length_set, hl8]
  refine Gd.mono (sget_any _ _ ((soPut s).set n (wat (soPut s) n ^^^ v)) (by rw [hlen]; exact (hput _).rd) _) ?_
  rintro ⟨r, s3⟩ ⟨hr, x3⟩
  simp only at hr x3
  have hO : soOf ((soPut s).set n (wat (soPut s) n ^^^ v)) = ⟨0, []⟩ := by unfold soOf; rw [hno]; rfl
  rw [hno, hO] at hr
  subst hr
  have l3 : s2.nx + 1 ≤ s3.nx := x3.le
  have k3 : s3.h.get st.nx = some (.cs 63 2 ((T.lf.set 0 (.int .i64 s.n)).set 1 (.s s.l))) := (x3.keep st.nx (by show st.nx < s2.nx + 1; omega)).trans ((T.get_set_ne _ _ e3).trans ((T.get_set_ne _ _ ne2).trans k1))
  obtain ⟨t3, kx3, kx30, kx31⟩ : ∃ t, s3.h.get s2.nx = some (.cs 63 2 t) ∧ t.get 0 = some (.int .i64 s.n) ∧ t.get 1 = some (.s s.l) := ⟨_, (x3.keep s2.nx (Nat.lt_succ_self _)).trans ((T.get_set_ne _ _ e2).trans (T.get_set_same _ _ _)), by simp [T.get_set], by simp [T.get_set]⟩
  have f1 : ¬ s3.nx = st.nx := by omega
  have f2 : ¬ s3.nx = s2.nx := by omega
  simp [soV, evOp_call, sets, T.get_set, newC_is, storeK_g, putB_eq, roT, loadE_eq, getC_eq, getsB_succ, getsB_zero, k3, kx3, kx30, kx31, f1, f2, hb]
  rw [eqlSlot _ _ _ _ _ hb hb]
  simp [evOp_call, T.get_set]
def slC : Codec (Int × List Nat) := pairC iC sC
theorem slC_two (x : Nat → V) : (List.range 2).map x = [x 0, x 1] := rfl
theorem w_SlotOne (s : Int × List Nat) (i v : Int) (W : World) (cs : Array Value) (hlen : cs.toList.length = 2) (hs : slC.rel W (fun j => cs.toList[j]?.getD default) s) (_ : -9223372036854775808 ≤ i ∧ i ≤ 9223372036854775807) (hv : (Lit.int .u64 v).wf = true) :
    Calls Try.prog 6 #[.agg cs, .int .i64 i, .int .u64 v] W fun e W' => e = .returned (.bool true) ∧ Below W.heap.size W W' := by
  obtain ⟨r, rfl, hr⟩ := u64_nat hv
  obtain ⟨s1, r1, x, b1, l1, q1, e1, a1⟩ := slC.enter (Begin.zero W) hs
  obtain ⟨h0, h1⟩ := a1
  have hx : V.g [x 0, x 1] = soV ⟨s.1, s.2⟩ := by
    have e0 : x 0 = .int .i64 s.1 := h0.1
    have e1 : x 1 = .s s.2 := h1.1
    rw [e0, e1]; rfl
  have hrel := rel_agg hlen q1
  have hrel' : Rel r1 (soV ⟨s.1, s.2⟩) (.agg cs) := by rw [← hx]; exact hrel
  exact law_calls (lawC_sound namesOkO mixesO Try.func50 rfl slotAwake) b1 (.cons hrel' (.cons (rel_int _ _) (.cons (by rw [← wd_lit (n := (r : Int)) (by omega) (by omega)]; exact rel_int _ _) .nil))) (g_SlotOne s1 ⟨s.1, s.2⟩ h1.2.1 i (BitVec.ofInt 64 r))
end Go.Proofs.Ytdoennkmcloalaa

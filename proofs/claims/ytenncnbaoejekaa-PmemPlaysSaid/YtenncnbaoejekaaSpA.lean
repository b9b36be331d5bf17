/-
  The walk of SpanSubs.
-/
import Derived.Test.YtenncnbaoejekaaSp
set_option linter.unusedSimpArgs false
namespace Go.Proofs.Ytenncnbaoejekaa
open Go.RowKit Ev
theorem ranSp : Ev.yesQ Try.prog 100000 46 = true := by kernel_rfl
theorem spAwake (W : World) : Calls Try.prog 46 #[] W fun e W' => e = .returned (.bool true) ∧ Below W.heap.size W W' := Ev.yesQ_ok namesOkP mixesP ranSp W
/-- what was stored is there -/
theorem load_store {s : AS} {n i : Nat} (h : okS s n i) (hf : s.fuse < 1) {a : Int} (ha : 0 ≤ a ∧ a < 8 * n) (w : BitVec 64) : (s.store a w).load a = w ∧ (s.store a w).loadE a = 0 := by
  have hin : s.in8 a := ⟨ha.1, by rw [h.len]; omega⟩
  obtain ⟨m, hm⟩ := in8_get hin
  obtain ⟨e, _⟩ := AS.store_on (w := w) h.off hf hin
  have hlt := lt_of_get hm
  have hin2 : (s.store a w).in8 a := by
    rw [e]; exact ⟨hin.1, by show a / 8 < ((s.L.set _ _).length : Int); rw [List.length_set]; exact hin.2⟩
  have hoff : (s.store a w).off = false := by rw [e]; exact h.off
  have hnl := (h.ok m (List.mem_of_getElem? hm)).nl
  have hg : (s.store a w).L[(a / 8).toNat]? = some (m.store (a % 8) w) := by
    rw [e, hm]; show (s.L.set _ _)[_]? = _
    rw [List.getElem?_set_self hlt]; rfl
  have hst : m.store (a % 8) w = { m with N := m.N.set (a % 8).toNat w, O := m.O ++ [(a % 8, w)] } := by unfold LM.store; rw [if_pos ⟨by omega, by omega⟩]
  refine ⟨?_, by simp [AS.loadE, hoff, hin2]⟩
  unfold AS.load
  rw [if_neg (by rw [hoff]; simp), if_pos hin2, hg, hst]
  show (m.N.set (a % 8).toNat w)[(a % 8).toNat]?.getD 0#64 = w
  rw [List.getElem?_set_self (by omega)]; rfl
set_option maxRecDepth 20000 in
set_option maxHeartbeats 8000000 in
theorem g_SpanSubs (st : St) (f n g k : Int) (w : BitVec 64) :
    Gd (lawC Try.prog 46 ⟨false, [], 0, 0⟩ 8 [.int .i64 f, .int .i64 n, .int .i64 g, .int .i64 k, wd w] st) fun r => r.1 = .bool true := by
  rw [Gd_lawC Try.func8 rfl]
  simp [evOp_call, sets, T.get_set, oracF_cons]
  refine Gd.mono (mnew_any st 20 (by omega) _) ?_
  rintro ⟨r, s0⟩ ⟨q, v, hr, hv, ha⟩
  simp only at hr hv
  subst hr
  have hok : okS (absV v) 20 0 := by rw [ha]; exact fromA_ok _ _
  have hfu : (absV v).fuse < 1 := by rw [ha]; show (0 : Int) < 1; omega
  have hfu' : v.fuse < 1 := hfu
  obtain ⟨hR, hO⟩ := hok.R
  have hR' : (v.R.length : Int) = 20 := by omega
  simp [evOp_call, sets, T.get_set, oracF_cons]
  refine Gd.mono (sof_any s0 q v hv.at' (by omega) f n _) ?_
  rintro ⟨r, s1⟩ ⟨hr, e1⟩
  simp only at hr e1
  subst hr
  have hv1 := hv.more e1
  unfold ofV'
  by_cases hw : winB f n v.R.length
  · obtain ⟨w1, w2, w3, w4⟩ := id hw
    simp [hw, spV, evOp_call, sets, T.get_set, newC_is, storeK_g, putB_eq, roT, loadE_eq, getC_eq, getsB_succ, getsB_zero, oracF_cons]
    have hsp : V.g [V.p q 0, V.int .i64 f, V.int .i64 n] = spV q f n := rfl
    rw [hsp]
    have hex1 := fun b => hv1.more ((Ext.refl s1.nx s1).new (Nat.le_refl _) b)
    refine Gd.mono (ssub_any _ q v (hex1 _).at' (by omega) f n g k _) ?_
    rintro ⟨r, s2⟩ ⟨hr, e2⟩
    simp only at hr e2
    subst hr
    have hv2 := (hex1 _).more e2
    unfold subV
    by_cases hs : winB g k n
    · obtain ⟨u1, u2, u3, u4⟩ := id hs
      have hsub : subB v.R.length f n g k := ⟨hw, hs⟩
      have c2 : g < n := by omega
      have c4 : k ≤ n - g := by omega
      have wd2 : IntKind.i64.wrap (n - g) = n - g := wrap_in (by omega) (by omega)
      have wd3 : IntKind.i64.wrap (f + g) = f + g := wrap_in (by omega) (by omega)
      have wd4 : IntKind.i64.wrap (8 * k) = 8 * k := wrap_in (by omega) (by omega)
      have wd5 : IntKind.i64.wrap (8 * k - 1) = 8 * k - 1 := wrap_in (by omega) (by omega)
      simp [hsub, spV, evOp_call, sets, T.get_set, newC_is, storeK_g, putB_eq, roT, loadE_eq, getC_eq, getsB_succ, getsB_zero, oracF_cons, u1, c2, u2, c4, wd2, wd3]
      have hex2 := fun b => hv2.more ((Ext.refl s2.nx s2).new (Nat.le_refl _) b)
      refine Gd.mono (sof_any _ q v (hex2 _).at' (by omega) (f + g) k _) ?_
      rintro ⟨r, s3⟩ ⟨hr, e3⟩
      simp only at hr e3
      have hin : winB (f + g) k v.R.length := ⟨by omega, by omega, by omega, by omega⟩
      unfold ofV' at hr
      rw [if_pos hin] at hr
      subst hr
      have hv3 := (hex2 _).more e3
      have hl3 : s2.nx + 1 ≤ s3.nx := e3.le
      have k3 : s3.h.get s2.nx = _ := (e3.keep s2.nx (Nat.lt_succ_self _)).trans (T.get_set_same _ _ _)
      have ne3 : ¬ s3.nx = s2.nx := by omega
      have hspk : V.g [V.p q 0, V.int .i64 (f + g), V.int .i64 k] = spV q (f + g) k := rfl
      simp [spV, evOp_call, sets, T.get_set, newC_is, storeK_g, putB_eq, roT, loadE_eq, getC_eq, getsB_succ, getsB_zero, oracF_cons, k3, ne3, wd4, wd5]
      rw [hspk]
      have hex3 := fun b => hv3.more ((Ext.refl s3.nx s3).new (Nat.le_refl _) b)
      refine Gd.mono (sset_any _ q v (hex3 _).at' (by omega) (by omega) (fun r hr => by have := hO r hr; omega) (f + g) k (8 * k - 1) w _) ?_
      rintro ⟨r, s4⟩ ⟨hr, v4, hs4, ha4⟩
      simp only at hr hs4
      subst hr
      have hv4 := (hex3 _).step hs4
      have hh : hasB (absV v).L.length (f + g) k (8 * k - 1) 1 := ⟨by rw [absLen]; exact hin, by omega, by omega, by omega, by omega⟩
      have hin24 : 0 ≤ (f + g) * 8 + (8 * k - 1) ∧ (f + g) * 8 + (8 * k - 1) < 8 * (20 : Nat) := by omega
      obtain ⟨hsf, hse⟩ := store_fuse hok hfu hin24 w
      obtain ⟨hld, hle⟩ := load_store hok hfu hin24 w
      have hE : (absV v).ssetE (f + g) k (8 * k - 1) = 0 := by unfold AS.ssetE; rw [if_pos hh, hse]
      have hA4 : absV v4 = (absV v).store ((f + g) * 8 + (8 * k - 1)) w := by rw [ha4]; unfold AS.sset; rw [if_pos hh]
      have hok4 : okS (absV v4) 20 1 := by rw [hA4]; exact hok.store hfu hin24 w
      obtain ⟨hR4, _⟩ := hok4.R
      have hR4' : (v4.R.length : Int) = 20 := by omega
      have hl4 : s3.nx + 1 ≤ s4.nx := hs4.kept.le
      have own3 : ∀ m, m ≤ s3.nx → s2.nx ≤ m → ¬ MOw q v m := fun m h1 h2 e => by have := hv2.at'.own_lt e; omega
      have k4 : s4.h.get s3.nx = _ := (hs4.kept.keep s3.nx (Nat.lt_succ_self _) (own3 _ (Nat.le_refl _) (by omega))).trans (T.get_set_same _ _ _)
      have k5 : s4.h.get s2.nx = _ := (hs4.kept.keep s2.nx (by show s2.nx < s3.nx + 1; omega) (own3 _ (by omega) (Nat.le_refl _))).trans ((T.get_set_ne _ _ ne3).trans k3)
      simp [hE, evOp_call, sets, T.get_set, loadE_eq, getC_eq, getsB_succ, getsB_zero, oracF_cons, k4, wd4, wd5]
      rw [hspk]
      refine Gd.mono (sword_any s4 q v4 hv4.at' (by omega) (f + g) k (8 * k - 1) _) ?_
      rintro ⟨r, s5⟩ ⟨hr, e5⟩
      simp only at hr e5
      have hh4 : hasB (absV v4).L.length (f + g) k (8 * k - 1) 1 := by rw [absLen, hR4]; rw [absLen, hR] at hh; exact hh
      have hsw : (absV v4).sword (f + g) k (8 * k - 1) = w := by unfold AS.sword; rw [if_pos hh4, hA4, hld]
      have hswE : (absV v4).swordE (f + g) k (8 * k - 1) = 0 := by unfold AS.swordE; rw [if_pos hh4, hA4, hle]
      rw [hsw, hswE] at hr
      subst hr
      have k6 : s5.h.get s2.nx = _ := (e5.keep s2.nx (by omega)).trans k5
      simp [evOp_call, sets, T.get_set, loadE_eq, getC_eq, getsB_succ, getsB_zero, oracF_cons, k6]
      refine Gd.mono (mlines_any s5 q v4 (hv4.more e5).at' _) ?_
      rintro _ rfl
      simp [evOp_call, sets, T.get_set, hR4']
    · have hsub : ¬ subB v.R.length f n g k := fun h => hs h.2
      by_cases c1 : 0 ≤ g
      · by_cases c2 : g < n
        · have wd2 : IntKind.i64.wrap (n - g) = n - g := wrap_in (by omega) (by omega)
          by_cases c3 : 1 ≤ k
          · have c4 : ¬ k ≤ n - g := fun h => hs ⟨by omega, by omega, by omega, by omega⟩
            simp [hsub, spZ, evOp_call, sets, T.get_set, newC_is, storeK_g, putB_eq, roT, c1, c2, c3, c4, wd2]
          · simp [hsub, spZ, evOp_call, sets, T.get_set, newC_is, storeK_g, putB_eq, roT, c1, c2, c3]
        · simp [hsub, spZ, evOp_call, sets, T.get_set, newC_is, storeK_g, putB_eq, roT, c1, c2]
      · simp [hsub, spZ, evOp_call, sets, T.get_set, newC_is, storeK_g, putB_eq, roT, c1]
  · simp [hw, evOp_call, sets, T.get_set, newC_is, storeK_g, putB_eq, roT, spZ]
theorem w_SpanSubs (f n g k w : Int) (W : World) (_ : i64 f) (_ : i64 n) (_ : i64 g) (_ : i64 k) (hw : (Lit.int .u64 w).wf = true) :
    Calls Try.prog 8 #[.int .i64 f, .int .i64 n, .int .i64 g, .int .i64 k, .int .u64 w] W fun e W' => e = .returned (.bool true) ∧ Below W.heap.size W W' := by
  obtain ⟨r, rfl, hr⟩ := u64_nat hw
  exact law_calls (lawC_sound namesOkP mixesP Try.func46 rfl spAwake) (Begin.zero W) (.cons (rel_int _ _) (.cons (rel_int _ _) (.cons (rel_int _ _) (.cons (rel_int _ _) (.cons (by rw [← wd_lit (n := (r : Int)) (by omega) (by omega)]; exact rel_int _ _) .nil)))))
    (g_SpanSubs ⟨0, .lf⟩ f n g k (BitVec.ofInt 64 r))
end Go.Proofs.Ytenncnbaoejekaa

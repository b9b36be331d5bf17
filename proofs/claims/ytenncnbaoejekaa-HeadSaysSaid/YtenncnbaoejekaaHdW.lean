/-
  The walk of HeadOne.
-/
import Derived.Test.YtenncnbaoejekaaHd
import Derived.Test.YtenncnbaoejekaaSb
import Derived.Test.YtenncnbaoejekaaEq
set_option linter.unusedSimpArgs false
namespace Go.Proofs.Ytenncnbaoejekaa
open Go.RowKit Ev
theorem namesOkH : Ev.namesOk Try.prog = true := by kernel_rfl
theorem mixesH : Try.prog.follows .mixedOrders = true := by kernel_rfl
theorem ranHead : Ev.yesQ Try.prog 100000 55 = true := by kernel_rfl
theorem headAwake (W : World) : Calls Try.prog 55 #[] W fun e W' => e = .returned (.bool true) ∧ Below W.heap.size W W' := Ev.yesQ_ok namesOkH mixesH ranHead W
@[simp] theorem bool_eqlH (st : St) (x y : Operand) (a b : Bool) : binE Try.prog st .eql 4 x y (.bool a) (.bool b) = some (.bool (a == b), st) := by cases a <;> cases b <;> kernel_rfl
set_option maxRecDepth 20000 in
set_option maxHeartbeats 8000000 in
theorem g_HeadOne (st : St) (g : Gm) (p : BitVec 64) (i : Int) (v : BitVec 64) :
    Gd (lawC Try.prog 55 ⟨false, [], 0, 0⟩ 11 [hdV g p, .int .i64 i, wd v] st) fun r => r.1 = .bool true := by
  rw [Gd_lawC Try.func11 rfl]
  have hVg : V.g [V.int .i64 g.b, V.int .i64 g.n, V.int .i64 g.c, V.int .i64 g.k, wd p] = hdV g p := rfl
  have gVg : V.g [V.int .i64 g.b, V.int .i64 g.n, V.int .i64 g.c, V.int .i64 g.k] = gV g := rfl
  simp [hdV, evOp_call, sets, T.get_set, cellsOf, newC_is, loadE_eq, getC_eq, getsB_succ, getsB_zero, oracF_cons]
  rw [hVg]
  refine Gd.mono (hput_any _ g p _) ?_
  rintro ⟨z, s1⟩ ⟨hz, hzo, hzf, x1⟩
  simp only at hz hzo hzf x1
  have l1 : st.nx < s1.nx := x1.le
  have k0 : s1.h.get st.nx = _ := (x1.keep _ (Nat.lt_succ_self _)).trans (T.get_set_same _ _ _)
  by_cases hg : isGood g
  · have hd : decide (isGood g) = true := by simpa using hg
    have hl8 := putH_length p hg
    by_cases a1 : i < 0
    · simp [evOp_call, T.get_set, hz.lenS, hl8, a1]
    · by_cases a2 : 7 < i
      · simp [evOp_call, T.get_set, hz.lenS, hl8, a1, a2]
      · by_cases a3 : v = 0#64
        · simp [evOp_call, T.get_set, hz.lenS, hl8, a1, a2, a3]
        · obtain ⟨n, rfl⟩ := Int.eq_ofNat_of_zero_le (show 0 ≤ i by omega)
          have hn : n < 8 := by omega
          have hn1 : n + 1 ≤ 8 := hn
          obtain ⟨m2, ty2, tr2, rfl, hb2, hm2, hg2, hro2, hc2, hput⟩ := OwnRow.put2 (hzo hg) (i := n) hn
          have hw0 : tr2.get n = some (wd (wat (putH g p) n)) := hc2 _ _ (wv_get (wat_get (by rw [hl8]; exact hn)))
          have ne2 : ¬ m2 = st.nx := by omega
          simp [evOp_call, T.get_set, hz.lenS, hl8, a1, a2, a3, hn, loadE_eq, getC_eq, hg2, hw0, putB_eq, hro2, hn1, oracF_cons]
          have hrow := (hput s1 hm2 (wd (wat (putH g p) n ^^^ v))).rd
          have hwv : (wv (putH g p)).set n (wd (wat (putH g p) n ^^^ v)) = wv ((putH g p).set n (wat (putH g p) n ^^^ v)) := by unfold wv; rw [List.map_set]
          rw [hwv] at hrow
          refine Gd.mono (hget_any _ _ _ (by rw [List.length_set, hl8]; exact hrow) _) ?_
          rintro ⟨r, s2⟩ ⟨hr, x2⟩
          simp only at hr x2
          rw [getH_alt p v hg a3 hn] at hr
          have l2 : s1.nx ≤ s2.nx := x2.le
          have k1 : s2.h.get st.nx = _ := (x2.keep _ l1).trans ((T.get_set_ne _ _ ne2).trans k0)
          have ne3 : ¬ s2.nx = st.nx := by omega
          by_cases h6 : n = 6
          · subst h6
            rw [if_pos rfl] at hr
            subst hr
            simp [getHV, hdV, evOp_call, sets, T.get_set, newC_is, storeK_g, putB_eq, roT, loadE_eq, getC_eq, k1, ne3]
          · rw [if_neg h6] at hr
            subst hr
            have h6' : ¬ (n : Int) = 6 := by omega
            simp [getHV, hdV, evOp_call, sets, T.get_set, newC_is, storeK_g, putB_eq, roT, loadE_eq, getC_eq, k1, ne3, h6']
  · have hd : decide (isGood g) = false := by simpa using hg
    have hp := putH_bad p hg
    rw [hp] at hz
    simp [evOp_call, T.get_set, hz.lenS, loadE_eq, getC_eq, getsB_succ, getsB_zero, k0, oracF_cons]
    rw [gVg]
    refine Gd.mono (good_any _ [] (fun _ _ => rfl) 0 (Nat.zero_le _) g _) ?_
    rintro ⟨r, s2⟩ ⟨hr, x2⟩
    simp only at hr x2
    subst hr
    simp [evOp_call, T.get_set, hd]
theorem rel_hdV (ρ : Rho) (a b c d : Int) {n : Int} (h1 : 0 ≤ n) (h2 : n < 18446744073709551616) : Rel ρ (hdV ⟨a, b, c, d⟩ (BitVec.ofInt 64 n)) (.agg #[.int .i64 a, .int .i64 b, .int .i64 c, .int .i64 d, .int .u64 n]) := by
  unfold hdV
  rw [← wd_lit h1 h2]
  simp only [Rel]
  exact ⟨_, rfl, .cons (rel_int _ _) (.cons (rel_int _ _) (.cons (rel_int _ _) (.cons (rel_int _ _) (.cons (rel_int _ _) .nil)))), by simp⟩
theorem w_HeadOne (b n c k p i v : Int) (W : World) (_ : -9223372036854775808 ≤ b ∧ b ≤ 9223372036854775807) (_ : -9223372036854775808 ≤ n ∧ n ≤ 9223372036854775807) (_ : -9223372036854775808 ≤ c ∧ c ≤ 9223372036854775807) (_ : -9223372036854775808 ≤ k ∧ k ≤ 9223372036854775807) (hp : (Lit.int .u64 p).wf = true) (_ : -9223372036854775808 ≤ i ∧ i ≤ 9223372036854775807) (hv : (Lit.int .u64 v).wf = true) :
    Calls Try.prog 11 #[.agg #[.int .i64 b, .int .i64 n, .int .i64 c, .int .i64 k, .int .u64 p], .int .i64 i, .int .u64 v] W fun e W' => e = .returned (.bool true) ∧ Below W.heap.size W W' := by
  obtain ⟨q, rfl, hq⟩ := u64_nat hp
  obtain ⟨r, rfl, hr⟩ := u64_nat hv
  exact law_calls (lawC_sound namesOkH mixesH Try.func55 rfl headAwake) (Begin.zero W) (.cons (rel_hdV _ b n c k (by omega) (by omega)) (.cons (rel_int _ _) (.cons (by rw [← wd_lit (n := (r : Int)) (by omega) (by omega)]; exact rel_int _ _) .nil))) (g_HeadOne ⟨0, .lf⟩ ⟨b, n, c, k⟩ (BitVec.ofInt 64 q) i (BitVec.ofInt 64 r))
end Go.Proofs.Ytenncnbaoejekaa

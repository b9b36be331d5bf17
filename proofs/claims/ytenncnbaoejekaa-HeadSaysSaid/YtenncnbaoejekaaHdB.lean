/-
  The walk of HeadBack.
-/
import Derived.Test.YtenncnbaoejekaaHdW
import Derived.Test.YtenncnbaoejekaaEqS
import Derived.Test.YtenncnbaoejekaaGmA
set_option linter.unusedSimpArgs false
namespace Go.Proofs.Ytenncnbaoejekaa
open Go.RowKit Ev
theorem sameGm (d : Nat) (g h : Gm) : pureRun Try.prog (Op.equalIn (d + 2) 71 (.agg #[.int .i64 g.b, .int .i64 g.n, .int .i64 g.c, .int .i64 g.k]) (.agg #[.int .i64 h.b, .int .i64 h.n, .int .i64 h.c, .int .i64 h.k])) = some ([g.b == h.b, g.n == h.n, g.c == h.c, g.k == h.k].all id) :=
  pr_struct (d + 1) Try.underlying71 (by kernel_rfl) (.cons (.int (by decide) Try.underlying3 rfl rfl) (.cons (.int (by decide) Try.underlying3 rfl rfl) (.cons (.int (by decide) Try.underlying3 rfl rfl) (.cons (.int (by decide) Try.underlying3 rfl rfl) .nil))))
theorem allGm (g h : Gm) : [g.b == h.b, g.n == h.n, g.c == h.c, g.k == h.k].all id = decide (g = h) := by
  obtain ⟨a, b, c, d⟩ := g
  obtain ⟨a', b', c', d'⟩ := h
  by_cases e : (⟨a, b, c, d⟩ : Gm) = ⟨a', b', c', d'⟩
  · injection e with e1 e2 e3 e4
    subst e1 e2 e3 e4
    simp
  · have : ¬ (a = a' ∧ b = b' ∧ c = c' ∧ d = d') := fun ⟨h1, h2, h3, h4⟩ => e (by rw [h1, h2, h3, h4])
    simp [e]
    intro h1 h2 h3 h4
    exact this ⟨h1, h2, h3, h4⟩
theorem eqlGm (st : St) (x y : Operand) (g h : Gm) : binE Try.prog st .eql 71 x y (gV g) (gV h) = some (.bool (decide (g = h)), st) := by
  have := eql_struct (st := st) (x := x) (y := y) (l := [.int .i64 g.b, .int .i64 g.n, .int .i64 g.c, .int .i64 g.k]) (l' := [.int .i64 h.b, .int .i64 h.n, .int .i64 h.c, .int .i64 h.k]) Try.underlying71 (by kernel_rfl) (by kernel_rfl) rfl rfl
    (.cons (.int (d := 9998) (by decide) Try.underlying3 rfl rfl) (.cons (.int (d := 9998) (by decide) Try.underlying3 rfl rfl) (.cons (.int (d := 9998) (by decide) Try.underlying3 rfl rfl) (.cons (.int (d := 9998) (by decide) Try.underlying3 rfl rfl) .nil))))
  rw [allGm] at this
  exact this
theorem eqlHd (st : St) (x y : Operand) (g h : Gm) (p q : BitVec 64) : binE Try.prog st .eql 73 x y (hdV g p) (hdV h q) = some (.bool (decide (g = h ∧ p = q)), st) := by
  have := eql_struct (st := st) (x := x) (y := y) (l := [.int .i64 g.b, .int .i64 g.n, .int .i64 g.c, .int .i64 g.k, wd p]) (l' := [.int .i64 h.b, .int .i64 h.n, .int .i64 h.c, .int .i64 h.k, wd q]) (xs := [.int .i64 g.b, .int .i64 g.n, .int .i64 g.c, .int .i64 g.k, .int .u64 (p.toNat : Int)]) (ys := [.int .i64 h.b, .int .i64 h.n, .int .i64 h.c, .int .i64 h.k, .int .u64 (q.toNat : Int)]) Try.underlying73 (by kernel_rfl) (by kernel_rfl) rfl rfl
    (.cons (.agg (n := 4) (by decide) Try.underlying71 (by kernel_rfl) (sameGm 9997 g h)) (.cons (.int (d := 9998) (by decide) Try.underlying31 rfl rfl) .nil))
  rw [allGm] at this
  have hp : ((p.toNat : Int) == q.toNat) = decide (p = q) := by
    by_cases e : p = q
    · subst e; simp
    · have : ¬ (p.toNat : Int) = q.toNat := fun h => e (BitVec.eq_of_toNat_eq (by omega))
      simp [e, this]
  rw [hp] at this
  have he : ([decide (g = h), decide (p = q)].all id) = decide (g = h ∧ p = q) := by simp
  rw [he] at this
  exact this
set_option maxRecDepth 20000 in
set_option maxHeartbeats 8000000 in
theorem g_HeadBack (st : St) (g : Gm) (p : BitVec 64) :
    Gd (lawC Try.prog 55 ⟨false, [], 0, 0⟩ 13 [hdV g p] st) fun r => r.1 = .bool true := by
  rw [Gd_lawC Try.func13 rfl]
  have hVg : V.g [V.int .i64 g.b, V.int .i64 g.n, V.int .i64 g.c, V.int .i64 g.k, wd p] = hdV g p := rfl
  have gVg : V.g [V.int .i64 g.b, V.int .i64 g.n, V.int .i64 g.c, V.int .i64 g.k] = gV g := rfl
  simp [hdV, evOp_call, sets, T.get_set, cellsOf, newC_is, loadE_eq, getC_eq, getsB_succ, getsB_zero, oracF_cons]
  rw [hVg]
  refine Gd.mono (hput_any _ g p _) ?_
  rintro ⟨z, s1⟩ ⟨hz, _, _, x1⟩
  simp only at hz x1
  have l1 : st.nx < s1.nx := x1.le
  have k0 : s1.h.get st.nx = _ := (x1.keep _ (Nat.lt_succ_self _)).trans (T.get_set_same _ _ _)
  simp [evOp_call, T.get_set, loadE_eq, getC_eq, getsB_succ, getsB_zero, k0, oracF_cons]
  rw [gVg]
  refine Gd.mono (good_any _ [] (fun _ _ => rfl) 0 (Nat.zero_le _) g _) ?_
  rintro ⟨r, s2⟩ ⟨hr, x2⟩
  simp only at hr x2
  subst hr
  by_cases hg : isGood g
  · have hd : decide (isGood g) = true := by simpa using hg
    have hl8 := putH_length p hg
    simp [evOp_call, T.get_set, hd, oracF_cons]
    refine Gd.mono (hget_any s2 z (putH g p) (hz.ext x2) _) ?_
    rintro ⟨r, s3⟩ ⟨hr, x3⟩
    simp only at hr x3
    rw [getH_put p hg] at hr
    subst hr
    have l2 : s1.nx ≤ s2.nx := x2.le
    have l3 : s2.nx ≤ s3.nx := x3.le
    have ne3 : ¬ s3.nx = st.nx := by omega
    have k1 : s3.h.get st.nx = _ := (x3.keep _ (by omega)).trans ((x2.keep _ l1).trans k0)
    simp [getHV, hdV, evOp_call, sets, T.get_set, newC_is, storeK_g, putB_eq, roT, loadE_eq, getC_eq, getsB_succ, getsB_zero, oracF_cons]
    rw [gVg]
    refine Gd.mono (gdata_any _ [] (fun _ _ => rfl) 0 (Nat.zero_le _) g _) ?_
    rintro ⟨r, s4⟩ ⟨hr, x4⟩
    simp only at hr x4
    have hat : at2 g (dF g) (dN g) = .t [.int .i64 (dF g), .int .i64 (dN g)] := by unfold at2; rw [if_pos hg]
    rw [hat] at hr
    subst hr
    have k4 : s4.h.get s3.nx = _ := (x4.keep _ (Nat.lt_succ_self _)).trans (T.get_set_same _ _ _)
    have k5 : s4.h.get st.nx = _ := (x4.keep _ (by show st.nx < s3.nx + 1; omega)).trans ((T.get_set_ne _ _ ne3).trans k1)
    obtain ⟨h1, h2, h3, h4, h5, h6, h7, h8⟩ := hg.1
    have hck := ck_le hg.1
    have hbn : 1 ≤ bN g ∧ bN g ≤ 2 := by unfold bN; omega
    have hnF : nF g = 1 + g.c * g.k + bN g := rfl
    have hdF : dF g = nF g + g.n + g.n := rfl
    have hdN : dN g = g.b - 1 - dF g := rfl
    have hd1 := hg.2
    have w1 : IntKind.i64.wrap (dF g + dN g) = g.b - 1 := by rw [show dF g + dN g = g.b - 1 by omega]; exact wrap_in (by omega) (by omega)
    have w2 : IntKind.i64.wrap (g.b - 1) = g.b - 1 := wrap_in (by omega) (by omega)
    have hpos : 0 < dN g := by omega
    simp [evOp_call, T.get_set, loadE_eq, getC_eq, getsB_succ, getsB_zero, k4, k5, (hz.ext x2).lenS, hl8, w1, w2, hpos]
    rw [hVg, eqlHd]
    simp [evOp_call, T.get_set, loadE_eq, getC_eq, getsB_succ, getsB_zero, k4, k5, w1, w2, hpos]
  · have hd : decide (isGood g) = false := by simpa using hg
    have hp := putH_bad p hg
    rw [hp] at hz
    simp [evOp_call, T.get_set, hd, (hz.ext x2).lenS]
theorem w_HeadBack (b n c k p : Int) (W : World) (_ : -9223372036854775808 ≤ b ∧ b ≤ 9223372036854775807) (_ : -9223372036854775808 ≤ n ∧ n ≤ 9223372036854775807) (_ : -9223372036854775808 ≤ c ∧ c ≤ 9223372036854775807) (_ : -9223372036854775808 ≤ k ∧ k ≤ 9223372036854775807) (hp : (Lit.int .u64 p).wf = true) :
    Calls Try.prog 13 #[.agg #[.int .i64 b, .int .i64 n, .int .i64 c, .int .i64 k, .int .u64 p]] W fun e W' => e = .returned (.bool true) ∧ Below W.heap.size W W' := by
  obtain ⟨q, rfl, hq⟩ := u64_nat hp
  exact law_calls (lawC_sound namesOkH mixesH Try.func55 rfl headAwake) (Begin.zero W) (.cons (rel_hdV _ b n c k (by omega) (by omega)) .nil) (g_HeadBack ⟨0, .lf⟩ ⟨b, n, c, k⟩ (BitVec.ofInt 64 q))
end Go.Proofs.Ytenncnbaoejekaa

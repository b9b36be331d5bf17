/-
  The law PathSays, walked: where what is put together is of no great length.
-/
import Derived.Test.YtdoennkmcloalaaDoorPaM
set_option linter.unusedSimpArgs false
namespace Go.Proofs.YtdoennkmcloalaaDoor
open Go.RowKit Ev
theorem bin_yeql (st : St) (a b : Bool) : binE Tryd.prog st .eql 4 (.tmp 72) (.tmp 74) (.bool a) (.bool b) = some (.bool (decide (a = b)), st) := by
  cases a <;> cases b <;> kernel_rfl
theorem perr_len (s : Tx) : (pErr s).length ≤ 500 := by
  unfold pErr
  split
  · rename_i h
    have := par_len s
    have := (errS_zero h).2.1
    omega
  · simp
theorem lastD_len (s : Tx) : (lastD s).length ≤ 500 := by
  unfold lastD
  split
  · rename_i h
    have he : errS s = 0 := by
      unfold lastE at h
      split at h
      · rename_i h2; exact absurd h h2
      · rename_i h2; exact Decidable.not_not.1 h2
    have := par_len s
    have := (errS_zero he).2.1
    rw [List.length_dropLast]
    omega
  · simp
set_option maxRecDepth 20000 in
set_option maxHeartbeats 8000000 in
theorem g_PathSays (st : St) (s : Tx) (x : V) (L : List Tx) (hs : okS s) (hx : RdRow st x 1 L.length (sv L)) (hok : ∀ p ∈ L, okS p) (hj : (jn L).length ≤ 1073741824) : Gd (lawC Tryd.prog 8 ⟨false, [], 0, 0⟩ 4 [.s s, x] st) fun r => r.1 = .bool true := by
  rw [Gd_lawC Tryd.func4 rfl]
  by_cases c1 : (500 : Int) < (s.length : Int)
  · simp [evOp_call, sets, T.get_set, oracF_cons, len_str un9, hx.lenS, c1]
  by_cases c2 : (20 : Int) < (L.length : Int)
  · simp [evOp_call, sets, T.get_set, oracF_cons, len_str un9, hx.lenS, c1, c2]
  simp [evOp_call, sets, T.get_set, oracF_cons, len_str un9, hx.lenS, c1, c2]
  refine Gd.mono (psplit_any st s hs _) ?_
  rintro ⟨r, s1⟩ ⟨y1, hr, hy1, x1⟩
  simp only at hr hy1 x1
  subst hr
  have hy1 := hy1.rd
  simp [evOp_call, sets, T.get_set, oracF_cons, tupK]
  refine Gd.mono (rsplit_any s1 s _) ?_
  rintro ⟨r, s2⟩ ⟨y2, hr, hy2, x2⟩
  simp only at hr hy2 x2
  subst hr
  have hy2 := hy2.rd
  simp [evOp_call, sets, T.get_set, oracF_cons, tupK]
  refine Gd.mono (last_any s2 s hs _) ?_
  rintro ⟨r, s3⟩ ⟨z1, hr, hz1, _, _, x3⟩
  simp only at hr hz1 x3
  subst hr
  simp [evOp_call, sets, T.get_set, oracF_cons, tupK]
  refine Gd.mono (rlast_any s3 s _) ?_
  rintro ⟨r, s4⟩ ⟨z2, hr, hz2, x4⟩
  simp only at hr hz2 x4
  subst hr
  have hp := perr_len s
  have hd := lastD_len s
  have x12 := x1.trans (x2.mono x1.le)
  have x13 := x12.trans (x3.mono x12.le)
  have x14 := x13.trans (x4.mono x13.le)
  have x24 := x3.trans (x4.mono x3.le)
  have a1 := (hy1.ext x2).ext x24
  have a2 := hy2.ext x24
  have a3 := hz1.ext x4
  have ax := hx.ext x14
  simp [evOp_call, sets, T.get_set, oracF_cons, tupK]
  refine Gd.mono (texts_any s4 y1 y2 (pErr s) (pErr s) a1 a2 (by omega) _) ?_
  rintro _ rfl
  simp [evOp_call, sets, T.get_set, oracF_cons, tupK]
  refine Gd.mono (texts_any s4 z1 z2 (lastD s) (lastD s) a3 hz2 (by omega) _) ?_
  rintro _ rfl
  simp [evOp_call, sets, T.get_set, oracF_cons, tupK]
  refine Gd.mono (name_any _ s4 s hs) ?_
  rintro _ rfl
  simp [evOp_call, sets, T.get_set, oracF_cons, tupK]
  refine Gd.mono (rname_any s4 s (by omega) _) ?_
  rintro _ rfl
  simp [evOp_call, sets, T.get_set, oracF_cons, tupK, bin_yeql]
  refine Gd.mono (join_any s4 x L ax (by omega) hok hj _) ?_
  rintro ⟨r, s5⟩ ⟨hr, x5⟩
  simp only at hr x5
  subst hr
  simp [evOp_call, sets, T.get_set, oracF_cons, tupK]
  refine Gd.mono (rjoin_any s5 x L (ax.ext x5) (by omega) hj _) ?_
  rintro _ rfl
  simp [evOp_call, sets, T.get_set, oracF_cons, tupK]
  refine Gd.mono (clean_any s5 s hs _) ?_
  rintro ⟨r, s6⟩ ⟨hr, x6⟩
  simp only at hr x6
  subst hr
  simp [evOp_call, sets, T.get_set, oracF_cons, tupK]
  refine Gd.mono (rclean_any s6 s _) ?_
  rintro ⟨r, s7⟩ ⟨hr, x7⟩
  simp only at hr x7
  subst hr
  simp [evOp_call, sets, T.get_set, oracF_cons, tupK]
theorem w_PathSays (s : ByteArray) (l : List Tx) (W : World) (x : Value) (hx : (rowC sC).rel W (fun j => [x][j]?.getD default) l) (hj : (jn l).length ≤ 1073741824) :
    Calls Tryd.prog 4 #[.string s, x] W fun e W' => e = .returned (.bool true) ∧ Below W.heap.size W W' := by
  obtain ⟨s1, r1, v1, b1, l1, q1, e1, a1⟩ := (rowC sC).enter (Begin.zero W) hx
  obtain ⟨k1, k2, k3⟩ := rows_in a1
  exact law_calls (lawC_sound namesOkW mixesW Tryd.func8 rfl paAwake) b1 (.cons (txOf_rel _ s) (.cons (q1 0 (by decide)).2 .nil))
    (g_PathSays s1 (txOf s) (v1 0) l (txOf_ok s) k1 k2 hj)
end Go.Proofs.YtdoennkmcloalaaDoor

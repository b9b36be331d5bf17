/-
  The law RunsMerged, walked.
-/
import Derived.Test.YtdoennkmcloalaaRnC
import Derived.Test.YtdoennkmcloalaaIn
set_option linter.unusedSimpArgs false
namespace Go.Proofs.Ytdoennkmcloalaa
open Go.RowKit Ev
theorem rmRan : Ev.yesQ Try.prog 100000 58 = true := by kernel_rfl
theorem rmAwake (w : World) : Calls Try.prog 58 #[] w fun e w' => e = .returned (.bool true) ∧ Below w.heap.size w w' := Ev.yesQ_ok namesOkB mixesB rmRan w
theorem bldRun (x0 x1 : Operand) (a b : Int) (st : St) : bldK Try.prog 47 [(0, x0), (1, x1)] [.int .i64 a, .int .i64 b] [.int .i64 0, .int .i64 0] st = some (.g [.int .i64 a, .int .i64 b], st) := by
  rw [bldK_ok so47, partsK_one rfl rfl (by simp), partsK_one rfl rfl (by simp)]; rfl
theorem eqlRun (st : St) (x y : Operand) (a c b d : Int) : binE Try.prog st .eql 47 x y (.g [.int .i64 a, .int .i64 b]) (.g [.int .i64 c, .int .i64 d]) = some (.bool (decide ((a, b) = (c, d))), st) := by
  have := eql_struct (st := st) (x := x) (y := y) (l := [.int .i64 a, .int .i64 b]) (l' := [.int .i64 c, .int .i64 d]) (xs := [.int .i64 a, .int .i64 b]) (ys := [.int .i64 c, .int .i64 d]) Try.underlying47 (by kernel_rfl) (by kernel_rfl) rfl rfl
    (.cons (.int (d := 9998) (by decide) Try.underlying3 rfl rfl) (.cons (.int (d := 9998) (by decide) Try.underlying3 rfl rfl) .nil))
  have he : ([a == c, b == d].all id) = decide ((a, b) = (c, d)) := by
    have hac : (a == c) = decide (a = c) := by by_cases e : a = c <;> simp [e]
    have hbd : (b == d) = decide (b = d) := by by_cases e : b = d <;> simp [e]
    rw [hac, hbd]; simp
  rw [he] at this
  exact this
theorem sum_bd2 : ∀ {K : List Int}, (∀ x ∈ K, 1 ≤ x ∧ x ≤ 1000) → (K.length : Int) ≤ K.sum ∧ K.sum ≤ 1000 * (K.length : Int)
  | [], _ => by simp
  | x :: K, h => by
    have := sum_bd2 (K := K) fun y hy => h y (List.mem_cons_of_mem _ hy)
    have := h x (List.mem_cons_self ..)
    rw [List.sum_cons, List.length_cons]
    omega
def rmI (st : St) (x : V) (f : Int) (K : List Int) (e : Env) (s : St) : Prop := ∃ (j : Nat) (y : V), j ≤ K.length ∧ e.get 0 = some x ∧ e.get 1 = some (.int .i64 f) ∧ e.get 5 = some y ∧ e.get 6 = some (.int .i64 (f + (K.take j).sum)) ∧ e.get 7 = some (.int .i64 (j : Int)) ∧ OwnRow st.nx s y 2 j (cells (chain f (K.take j))) ∧ (∀ x ∈ K.take j, 1 ≤ x ∧ x ≤ 1000) ∧ Ext st.nx st s
set_option maxRecDepth 20000 in
set_option maxHeartbeats 16000000 in
theorem g_RunsMerged (st : St) (k : Nat → V) (K : List Int) (f : Int) (hk : (rowC iC).at' st k K) (_hf : -9223372036854775808 ≤ f ∧ f ≤ 9223372036854775807) :
    Gd (lawC Try.prog 58 ⟨false, [], 0, 0⟩ 8 [k 0, .int .i64 f] st) fun r => r.1 = .bool true := by
  rw [Gd_lawC Try.func8 rfl]
  obtain ⟨hkr, hkw⟩ := rowC_ints hk
  by_cases c1 : (K.length : Int) < 1
  · simp [evOp_call, sets, T.get_set, oracF_cons, rowC_len hk, c1]
  by_cases c2 : (20 : Int) < (K.length : Int)
  · simp [evOp_call, sets, T.get_set, oracF_cons, rowC_len hk, c1, c2]
  by_cases c3 : f < 0
  · simp [evOp_call, sets, T.get_set, oracF_cons, rowC_len hk, c1, c2, c3]
  by_cases c4 : 1000 < f
  · simp [evOp_call, sets, T.get_set, oracF_cons, rowC_len hk, c1, c2, c3, c4]
  simp [evOp_call, sets, T.get_set, oracF_cons, rowC_len hk, c1, c2, c3, c4]
  refine Gd_loop (rmI st (k 0) f K) (fun e _ => muAt 7 K.length e) ?_ ?_
  · exact ⟨0, _, Nat.zero_le _, by simp [T.get_set], by simp [T.get_set], by simp [T.get_set], by simp [T.get_set], by simp [T.get_set], OwnRow.nil _ _ _, fun x h => by simp at h, Ext.refl _ _⟩
  rintro e s ⟨j, y, hj, g0, g1, g5, g6, g7, hy, hok, hs⟩
  have hks := (rowC iC).ext hk hs
  by_cases hlt : j < K.length
  case pos =>
    have hlt' : (j : Int) < K.length := by omega
    have hwj := wrap_nat (n := j) (by omega)
    obtain ⟨a, ha⟩ : ∃ a, K[j]? = some a := ⟨_, List.getElem?_eq_getElem hlt⟩
    obtain ⟨mb, o, ty, sz, tr, hid, hmb, hg, ho, hcl⟩ := hkr.idx (st := st) un76 io3 hlt
    have t0 : tr.get o = some (.int .i64 a) := hcl 0 _ (by omega) (by simp [ha])
    have hgs := (hs.keep mb hmb).trans hg
    by_cases d1 : a < 1
    · simp [evOp_call, T.get_set, g0, g1, g5, g6, g7, rowC_len hks, hlt', hid, loadE_eq, getC_eq, hgs, t0, d1, sets]
    by_cases d2 : 1000 < a
    · simp [evOp_call, T.get_set, g0, g1, g5, g6, g7, rowC_len hks, hlt', hid, loadE_eq, getC_eq, hgs, t0, d1, d2, sets]
    have hok' : OkK (K.take j) := fun x hx => by have := hok x hx; omega
    have hsb := sum_bd hok' j (by rw [List.length_take]; omega)
    rw [List.take_take, Nat.min_self] at hsb
    have hts := take_sum ha
    have w1 : IntKind.i64.wrap (f + (K.take j).sum + a) = f + ((K.take j).sum + a) := by rw [wrap_in (by omega) (by omega)]; omega
    simp [evOp_call, T.get_set, g0, g1, g5, g6, g7, rowC_len hks, hlt', hid, loadE_eq, getC_eq, hgs, t0, d1, d2, bldRun]
    refine evOp_build1 (v := .g [.int .i64 (f + (K.take j).sum), .int .i64 a]) (cs := [.int .i64 (f + (K.take j).sum), .int .i64 a]) (fun k => el39 k) (fun k => ze47 k) rfl (by decide) (by simp [T.get_set]) (fun k => rfl) rfl ?_
    have hx2 := fun b => (Ext.refl s.nx s).new (Nat.le_refl _) b
    have hsl := hs.le
    simp [evOp_call, T.get_set, g0, g1, g5, g6, g7]
    refine Gd_append un39 un39 io47 (n := j) (lx := 1) (new := [.int .i64 (f + (K.take j).sum), .int .i64 a]) (hy.ext (hx2 _)) (by show st.nx ≤ s.nx + 1; omega) (by decide) (fun s' h => by cases h) (fun k => rfl) (fun k => by simp [getC_eq, getsB_2, T.get_set, sets]) rfl (by omega) ?_
    intro y' s5 hy5 e5 hk5 hor
    have hgs5 := (((hs.trans ((hx2 _).mono hsl)).trans e5).keep mb hmb).trans hg
    simp [evOp_call, T.get_set, g0, g1, g5, g6, g7, hlt', hid, loadE_eq, getC_eq, hgs5, t0, w1, hwj]
    refine ⟨⟨j + 1, y', hlt, by simp [T.get_set, g0], by simp [T.get_set, g1], by simp [T.get_set], by rw [hts]; simp [T.get_set], by simp [T.get_set], ?_, fun x hx => ?_, (hs.trans ((hx2 _).mono hsl)).trans e5⟩, muAt_lt g7 (by simp [T.get_set]) hlt⟩
    · rw [List.take_add_one, ha]
      show OwnRow st.nx s5 y' 2 (j + 1) (cells (chain f (K.take j ++ [a])))
      rw [chain_app, cells_append]
      exact hy5
    · rw [List.take_add_one, ha] at hx
      rcases List.mem_append.1 hx with hx | hx
      · exact hok x hx
      · simp at hx; omega
  obtain rfl : j = K.length := by omega
  rw [List.take_length] at hy hok g6
  have hK : OkK K := fun x hx => by have := hok x hx; omega
  have hsb := sum_bd hK K.length (Nat.le_refl _)
  rw [List.take_length] at hsb
  have hcl := chain_length f K
  have hyr : RdRow s y 2 (chain f K).length (cells (chain f K)) := by rw [hcl]; exact hy.rd
  simp [evOp_call, T.get_set, g0, g1, g5, g6, g7, rowC_len hks, oracF_cons]
  refine Gd.mono (merge_any s y f K hyr (by omega) hK (by omega) (by omega) _) ?_
  rintro ⟨m, s1⟩ ⟨hm, e1⟩
  simp only at hm e1
  have hml : ∀ s', lenS s' m = some (.int .i64 1, s') := fun s' => by have := hm.rd.lenS s'; simpa using this
  obtain ⟨mb, o, ty, sz, tr, hid, hmb, hg, ho, hcc⟩ := hm.rd.idx (st := s1) un39 io47 (i := 0) (by omega)
  have b0 : tr.get o = some (.int .i64 f) := hcc 0 _ (by omega) rfl
  have b1 : tr.get (o + 1) = some (.int .i64 K.sum) := hcc 1 _ (by omega) rfl
  have hid' : ∀ k : V → Res, idxE Try.prog 39 m 0 k = k (.p mb o) := hid
  have w1 : IntKind.i64.wrap (f + K.sum - f) = K.sum := by rw [show f + K.sum - f = K.sum by omega]; exact wrap_in (by omega) (by omega)
  simp [evOp_call, T.get_set, g0, g1, g5, g6, g7, hml, hid', loadE_eq, getC_eq, getsB_succ, getsB_zero, hg, b0, b1, w1, bldRun, eqlRun, oracF_cons]
  have hfs := sum_bd2 hok
  have hf1 : 0 ≤ f ∧ f ≤ 1000 := by omega
  have hK1 : OkK [K.sum] := fun x hx => by simp at hx; omega
  refine Gd.mono (apart_any s1 y f K (hyr.ext e1) hf1 hK (by omega) (by omega) _) ?_
  rintro ⟨r, s2⟩ ⟨hr, e2⟩
  simp only at hr e2
  subst hr
  have hmc : RdRow s1 m 2 (chain f [K.sum]).length (cells (chain f [K.sum])) := hm.rd
  have hm2 := hmc.ext e2
  simp [evOp_call, T.get_set, oracF_cons]
  refine Gd.mono (merge_any s2 m f [K.sum] hm2 hf1 hK1 (by simp) (by simp) _) ?_
  rintro ⟨m2, s3⟩ ⟨hm3, e3⟩
  simp only at hm3 e3
  have hm3' : RdRow s3 m2 2 (chain f [K.sum]).length (cells (chain f [K.sum])) := by
    have h := hm3.rd
    rw [show [K.sum].sum = K.sum by simp] at h
    exact h
  have hmm3 := hm2.ext e3
  simp [evOp_call, T.get_set, oracF_cons]
  refine Gd.mono (own10 s3 [] (fun _ _ => rfl) m2 (chain f [K.sum]) hm3' (by simp [chain]) (fun _ _ => rfl) _) ?_
  rintro ⟨r1, s4⟩ ⟨hr1, e4⟩
  simp only at hr1 e4
  simp [evOp_call, T.get_set, oracF_cons]
  refine Gd.mono (own10 s4 [] (fun _ _ => rfl) m (chain f [K.sum]) (hmm3.ext e4) (by simp [chain]) (fun _ _ => rfl) _) ?_
  rintro ⟨r2, s5⟩ ⟨hr2, e5⟩
  simp only at hr2 e5
  simp [evOp_call, T.get_set, oracF_cons]
  refine Gd.mono (alike10 s5 r1 r2 (chain f [K.sum]) (chain f [K.sum]) (hr1.rd.ext e5) hr2.rd (by simp [chain]) _) ?_
  rintro _ rfl
  have hy5 := ((((hyr.ext e1).ext e2).ext e3).ext e4).ext e5
  have hfl : lens ((chain f K).filter cnt) = K.sum := by rw [chain_cnt hf1 hK (by omega), chain_lens]
  simp [evOp_call, T.get_set, oracF_cons, g1, g5, g6]
  refine Gd.mono (total_any s5 y (chain f K) _ hy5 (by omega) (by rw [hfl]; omega)) ?_
  rintro ⟨r, s6⟩ ⟨hr, e6⟩
  simp only at hr e6
  rw [hfl] at hr
  subst hr
  simp [evOp_call, T.get_set, oracF_cons, g1, g6, w1, sets]
theorem fits_intsR : Fits Try.prog (rowC iC) 76 := fits_row Try.underlying76 (by kernel_rfl) (by decide) (fits_i Try.underlying3)
theorem w_RunsMerged (l : List Int) (f : Int) (W : World) (x : Value) (hx : (rowC iC).rel W (fun j => [x][j]?.getD default) l) (hf : -9223372036854775808 ≤ f ∧ f ≤ 9223372036854775807) :
    Calls Try.prog 8 #[x, .int .i64 f] W fun e W' => e = .returned (.bool true) ∧ Below W.heap.size W W' := by
  obtain ⟨s1, r1, v1, b1, l1, q1, e1, a1⟩ := (rowC iC).enter (Begin.zero W) hx
  exact law_calls (lawC_sound namesOkB mixesB Try.func58 rfl rmAwake) b1 (.cons (q1 0 (by decide)).2 (.cons (rel_int _ _) .nil)) (g_RunsMerged s1 v1 l f a1 hf)
end Go.Proofs.Ytdoennkmcloalaa

/-
  Contracts: books side by side.
-/
import Derived.Test.YtdoennkmcloalaaBsP
import Derived.Test.YtdoennkmcloalaaBkE
set_option linter.unusedSimpArgs false
namespace Go.Proofs.Ytdoennkmcloalaa
open Go.RowKit Ev
/-- a book's cells -/
def bkCs (q i : Nat) : List V := [.p q 0, .int .i64 (4 * (i : Int)), .int .i64 4, .int .i64 (i : Int)]
def bkRow (q n : Nat) : List V := (List.range n).flatMap (bkCs q)
theorem bkRow_succ (q n : Nat) : bkRow q (n + 1) = bkRow q n ++ bkCs q n := by unfold bkRow; rw [List.range_succ]; simp
theorem bkRow_length (q : Nat) : ∀ n, (bkRow q n).length = n * 4
  | 0 => rfl
  | n + 1 => by rw [bkRow_succ, List.length_append, bkRow_length q n]; show n * 4 + 4 = _; omega
theorem bkRow_at (q : Nat) : ∀ (n : Nat) {i j : Nat} {v : V}, i < n → (bkCs q i)[j]? = some v → (bkRow q n)[i * 4 + j]? = some v
  | 0, _, _, _, h, _ => absurd h (Nat.not_lt_zero _)
  | n + 1, i, j, v, h, hj => by
    have hj4 : j < 4 := lt_of_get hj
    rw [bkRow_succ]
    by_cases e : i = n
    · subst e
      rw [List.getElem?_append_right (by rw [bkRow_length]; omega), bkRow_length, Nat.add_sub_cancel_left]
      exact hj
    · rw [List.getElem?_append_left (by rw [bkRow_length]; omega)]
      exact bkRow_at q n (by omega) hj
theorem bkV_cs (q i : Nat) : bkV q (4 * (i : Int)) 4 (i : Int) = V.g (bkCs q i) := rfl
theorem own_cap {b z n : Nat} {st : St} {x : V} {l : List V} (h : OwnRow b st x z n l) : CapOk x := by
  intro m o l' q e
  rcases h.2 with ⟨rfl, _⟩ | ⟨m', ty, t, rfl, _⟩
  · cases e
  · cases e
def shI (st : St) (q : Nat) (v : MV) (n : Nat) (e : Env) (s : St) : Prop := ∃ (j : Nat) (z : V), j ≤ n ∧ e.get 0 = some (.int .i64 (n : Int)) ∧ e.get 1 = some (.int .i64 4) ∧ e.get 6 = some (.p q 0) ∧ e.get 8 = some z ∧ e.get 9 = some (.int .i64 (j : Int)) ∧ MLive st s q v ∧ OwnRow st.nx s z 4 j (bkRow q j) ∧ (∀ k, Nm z k → ¬ MOw q v k)
set_option maxRecDepth 20000 in
set_option maxHeartbeats 8000000 in
theorem shelf_any (st : St) (n : Nat) (hn : 1 ≤ n ∧ n ≤ 8) (nt : Nat) :
    Gd (callL Try.prog ⟨false, [], 0, nt⟩ 98 [.int .i64 (n : Int), .int .i64 4] st) fun r => ∃ x q v, r.1 = .t [x, .p q 0] ∧ MLive st r.2 q v ∧ absV v = zeroA (4 * n) ∧ RowAp r.2 q v x 4 n (bkRow q n) ∧ CapOk x := by
  rw [Gd_callL Try.func98 rfl]
  have w1 : IntKind.i64.wrap ((n : Int) * 4) = ((4 * n : Nat) : Int) := by rw [show (n : Int) * 4 = ((4 * n : Nat) : Int) by omega]; exact wrap_in (by omega) (by omega)
  simp [evOp_call, sets, T.get_set, w1]
  refine Gd.mono (mnew_any st (4 * n) (by omega) _) ?_
  rintro ⟨r, s0⟩ ⟨q, v, hr, hv, ha⟩
  simp only at hr hv
  subst hr
  have hok : okS (absV v) (4 * n) 0 := by rw [ha]; exact (zero_calm _).ok
  obtain ⟨hR, hO⟩ := hok.R
  simp [evOp_call, sets, T.get_set, tupK]
  refine Gd_loop (shI st q v n) (fun e _ => muAt 9 n e) ?_ ?_
  · exact ⟨0, _, Nat.zero_le _, by simp [T.get_set], by simp [T.get_set], by simp [T.get_set], by simp [T.get_set], by simp [T.get_set], hv, OwnRow.nil _ _ _, fun k hk => (nm_nil hk).elim⟩
  rintro e s ⟨j, z, hj, g0, g1, g6, g8, g9, hvs, hz, hzn⟩
  by_cases hlt : j < n
  case neg =>
    obtain rfl : j = n := by omega
    simp [evOp_call, T.get_set, g0, g1, g6, g8, g9, sets]
    exact ⟨z, q, ⟨rfl, rfl⟩, v, hvs, ha, ⟨hz.rd, hzn⟩, own_cap hz⟩
  have hlt' : (j : Int) < n := by omega
  have hwj := wrap_nat (n := j) (by omega)
  have w4 : IntKind.i64.wrap ((j : Int) * 4) = 4 * (j : Int) := by rw [show (j : Int) * 4 = 4 * (j : Int) by omega]; exact wrap_in (by omega) (by omega)
  simp [evOp_call, T.get_set, g0, g1, g6, g8, g9, hlt', w4]
  refine Gd.mono (sof_any s q v hvs.at' (by omega) (4 * (j : Int)) 4 _) ?_
  rintro ⟨r, s1⟩ ⟨hr, e1⟩
  simp only at hr e1
  have hw : winB (4 * (j : Int)) 4 v.R.length := ⟨by omega, by omega, by omega, by omega⟩
  unfold ofV' at hr
  rw [if_pos hw] at hr
  subst hr
  have hv1 := hvs.more e1
  have hx1 := fun b => (Ext.refl s1.nx s1).new (Nat.le_refl _) b
  simp [spV, evOp_call, T.get_set, g0, g1, g6, g8, g9, tupK, newC_is, cellsOf, storeK_g, putB_eq, roT, sets, loadE_eq, getC_eq, getsB_succ, getsB_zero]
  rw [show V.g [V.p q 0, V.int .i64 (4 * (j : Int)), V.int .i64 4] = spV q (4 * (j : Int)) 4 from rfl]
  refine Gd.mono (bnewB_any _ q (4 * (j : Int)) 4 (j : Int) _) ?_
  rintro ⟨r, s2⟩ ⟨hr, e2⟩
  simp only at hr e2
  subst hr
  have hv2 := (hv1.more (hx1 _)).more e2
  have hz2 := ((hz.ext e1).ext (hx1 _)).ext e2
  simp [evOp_call, T.get_set, g0, g1, g6, g8, g9]
  refine evOp_build1 (v := bkV q (4 * (j : Int)) 4 (j : Int)) (cs := bkCs q j) (fun k => el142 k) (fun k => ze122 k) rfl (by decide) (by simp [T.get_set]) (fun k => rfl) rfl ?_
  have hx3 := fun b => (Ext.refl s2.nx s2).new (Nat.le_refl _) b
  simp [evOp_call, T.get_set, g0, g1, g6, g8, g9]
  have hv3 := fun b => hv2.more (hx3 b)
  have hz3 := fun b => hz2.ext (hx3 b)
  have hwf := hvs.ext
  refine Gd_append un142 un142 io122 (n := j) (lx := 1) (new := bkCs q j) (hz3 _) (by show st.nx ≤ s2.nx + 1; have := hv2.ext.le; omega) (by decide) (fun s' h => by cases h) (fun k => rfl) (fun k => by simp [getC_eq, getsB_succ, getsB_zero, T.get_set, sets, bkCs]) rfl (by omega) ?_
  intro z' s4 hz4 e4 hk4 hor
  simp [evOp_call, T.get_set, g0, g1, g6, g8, g9, hwj]
  have hnz : ∀ k, MOw q v k → ∀ o ln, z ≠ .sg k o ln 4 := fun k hk o ln e => hzn k (by rw [e]; exact .inl ⟨_, _, _, rfl⟩) hk
  have hv4 : MLive st s4 q v := ⟨(hv3 _).at'.other e4.le (fun k hk => hk4 k ((hv3 _).at'.own_lt hk) (hnz k hk)), hvs.own, (hv3 _).ext.trans (e4.mono (Nat.le_refl _))⟩
  refine ⟨⟨j + 1, z', hlt, by simp [T.get_set, g0], by simp [T.get_set, g1], by simp [T.get_set, g6], by simp [T.get_set], by simp [T.get_set], hv4, by rw [bkRow_succ]; exact hz4, fun k hk hm => ?_⟩, muAt_lt g9 (by simp [T.get_set]) hlt⟩
  rcases hor with rfl | ⟨ln, rfl⟩
  · exact hzn k hk hm
  · have := (hv3 (.cs 122 4 (sets (bkCs q j) 0 .lf))).at'.own_lt hm
    rcases hk with ⟨_, _, _, e⟩ | ⟨_, _, _, e⟩
    · injection e with e
      subst e
      exact absurd this (Nat.lt_irrefl _)
    · cases e
end Go.Proofs.Ytdoennkmcloalaa

/-
  The law PoolGroups, walked.
-/
import Derived.Test.YtdoennkmcloalaaPlE
import Derived.Test.YtdoennkmcloalaaPlF
set_option linter.unusedSimpArgs false
namespace Go.Proofs.Ytdoennkmcloalaa
open Go.RowKit Ev
theorem rel_gV (ρ : Rho) (g : Gm) : Rel ρ (gV g) (.agg #[.int .i64 g.b, .int .i64 g.n, .int .i64 g.c, .int .i64 g.k]) := by
  unfold gV
  simp only [Rel]
  exact ⟨_, rfl, .cons (rel_int _ _) (.cons (rel_int _ _) (.cons (rel_int _ _) (.cons (rel_int _ _) .nil))), rfl⟩
/-- where a client's group begins -/
def endV (g : Gm) (c : Int) : Int := if c = g.c then dF g + dN g else dF g + c * (dN g / g.c)
theorem endV_step {g : Gm} {c : Int} (h0 : 0 ≤ c) (h1 : c < g.c) : endV g c = dF g + c * (dN g / g.c) ∧ endV g c + grpN g c = endV g (c + 1) ∧ dN g / g.c ≤ grpN g c ∧ (c + 1 < g.c → grpN g c = dN g / g.c) := by
  have e1 : endV g c = dF g + c * (dN g / g.c) := by unfold endV; rw [if_neg (by omega)]
  refine ⟨e1, ?_, ?_, ?_⟩
  · rw [e1]
    unfold endV grpN
    by_cases h : c = g.c - 1
    · rw [if_pos h, if_pos (show c + 1 = g.c by omega)]; omega
    · rw [if_neg h, if_neg (show ¬ c + 1 = g.c by omega), Int.add_mul, Int.one_mul]; omega
  · unfold grpN
    by_cases h : c = g.c - 1
    · rw [if_pos h]
      have a3 : g.c * (dN g / g.c) ≤ dN g := Int.mul_ediv_self_le (by omega)
      have e : g.c = c + 1 := by omega
      have : (c + 1) * (dN g / g.c) ≤ dN g := by rw [← e]; exact a3
      rw [Int.add_mul, Int.one_mul] at this
      omega
    · rw [if_neg h]; omega
  · intro h
    unfold grpN
    rw [if_neg (by omega)]
@[simp] theorem wantK_none (w : Bool) : wantK w (some .u) = false := rfl
@[simp] theorem pool_not_nil (st : St) (x y : Operand) (n : Nat) : binE Try.prog st .eql 85 x y (.p n 0) (.c (.pointer none)) = some (.bool false, st) := by kernel_rfl
def pgI (q0 q : Nat) (g : Gm) (z : V) (L : List (BitVec 64)) (cl : Int) (e : Env) (s : St) : Prop := ∃ c : Nat, (c : Int) ≤ g.c ∧ e.get 1 = some (.int .i64 cl) ∧ e.get 2 = some (.p q0 0) ∧ e.get 5 = some (.p q 0) ∧ e.get 7 = some (.int .i64 (dF g)) ∧ e.get 8 = some (.int .i64 (dN g)) ∧ e.get 9 = some (.int .i64 (endV g c)) ∧ e.get 10 = some (.int .i64 (c : Int)) ∧
  q0 < s.nx ∧ s.h.get q0 = some (.cs 38 4 ((((T.lf.set 0 (.int .i64 g.b)).set 1 (.int .i64 g.n)).set 2 (.int .i64 g.c)).set 3 (.int .i64 g.k))) ∧ PoolAt s q g z ((g.b.toNat + 63) / 64) L
set_option maxRecDepth 20000 in
set_option maxHeartbeats 4000000 in
theorem g_PoolGroups (st : St) (g : Gm) (cl : Int) : Gd (lawC Try.prog 64 ⟨false, [], 0, 0⟩ 10 [gV g, .int .i64 cl] st) fun r => r.1 = .bool true := by
  rw [Gd_lawC Try.func10 rfl]
  simp [gV, evOp_call, sets, T.get_set, oracF_cons, cellsOf, newC_is, loadE_eq, getC_eq, getsB_succ, getsB_zero]
  refine Gd.mono (good_any _ [] (fun _ _ => rfl) 0 (Nat.zero_le _) g _) ?_
  rintro ⟨r, s1⟩ ⟨hr, x1⟩
  simp only at hr x1
  subst hr
  by_cases hg : isGood g
  case neg => simp [hg, evOp_call, sets, T.get_set, oracF_cons]
  have b1 : st.nx + 1 ≤ s1.nx := x1.le
  have k0 : s1.h.get st.nx = some (.cs 38 4 ((((T.lf.set 0 (.int .i64 g.b)).set 1 (.int .i64 g.n)).set 2 (.int .i64 g.c)).set 3 (.int .i64 g.k))) := by
    rw [x1.keep st.nx (by show st.nx < st.nx + 1; omega)]; exact T.get_set_same _ _ _
  simp [hg, evOp_call, sets, T.get_set, oracF_cons, loadE_eq, getC_eq, getsB_succ, getsB_zero, k0]
  refine ⟨by kernel_rfl, ?_⟩
  rw [cxOf_callL [(st.nx, st.nx + 1)] (by kernel_rfl) (by kernel_rfl) (looseW_at 2 (.p st.nx 0) (by simp [T.get_set]) (by kernel_rfl)) (fun x hx => by simp at hx; subst hx; simp [clashes_tmp, T.get_set, blkOf]) (fun p hp => by simp at hp; subst hp; rw [isRo_cs k0]; decide)]
  have hfl : ∀ k, k ≠ st.nx → inF ([(st.nx, st.nx + 1)] ++ []) k = false := fun k hk => by simp only [List.append_nil]; rw [inF_cons, if_neg (by omega)]; rfl
  simp only [forb_nil]
  refine Gd.mono (empty_fl s1 _ (fun k hk => hfl k (by omega)) g hg _) ?_
  rintro ⟨r, s2⟩ ⟨y, hr, hy, x2⟩
  simp only at hr hy x2
  subst hr
  have b2 := x2.le
  have k02 := (x2.keep _ (by omega)).trans k0
  simp [hg, evOp_call, sets, T.get_set, oracF_cons, loadE_eq, getC_eq, getsB_succ, getsB_zero, k02]
  rw [cxOf_call (by kernel_rfl) (by kernel_rfl), forb_rsOf (by kernel_rfl)]
  refine Gd.mono (pnew_any s2 g hg y _ hy _) ?_
  rintro ⟨r, s3⟩ ⟨q, z, hr, hp, hq, _, x3⟩
  simp only at hr hp x3
  subst hr
  have b3 := x3.le
  have k03 := (x3.keep _ (by omega)).trans k02
  simp [hg, evOp_call, sets, T.get_set, oracF_cons, tupK, loadE_eq, getC_eq, getsB_succ, getsB_zero, k03]
  refine Gd.mono (gdata_any s3 [] (fun _ _ => rfl) 0 (Nat.zero_le _) g _) ?_
  rintro ⟨r, s4⟩ ⟨hr, x4⟩
  simp only at hr x4
  subst hr
  have b4 := x4.le
  have k04 := (x4.keep _ (by omega)).trans k03
  have hp4 := hp.ext x4
  have hs4 := hg.1
  obtain ⟨h1, h2, h3, h4, h5, h6, h7, h8⟩ := hs4
  have hgc : (g.c.toNat : Int) = g.c := by omega
  simp [at2, hg, evOp_call, sets, T.get_set, oracF_cons, tupK, loadE_eq, getC_eq, getsB_succ, getsB_zero, k04]
  refine Gd_loop (pgI st.nx q g z (emptyI g g.b.toNat) cl) (fun en _ => muAt 10 g.c.toNat en) ?_ ?_
  · exact ⟨0, by omega, by simp [T.get_set], by simp [T.get_set], by simp [T.get_set], by simp [T.get_set], by simp [T.get_set], by simp [T.get_set, endV]; omega, by simp [T.get_set], by omega, k04, hp4⟩
  · rintro en s ⟨c, hc, g1, g2, g5, g7, g8, g9, g10, m0, m1, hpp⟩
    by_cases hlt : (c : Int) < g.c
    · have w1 : IntKind.i64.wrap ((c : Int) + 1) = ((c + 1 : Nat) : Int) := by rw [show ((c : Int) + 1) = ((c + 1 : Nat) : Int) by omega]; exact wrap_in (by omega) (by omega)
      obtain ⟨a1, a2, a3, a4⟩ := endV_step (g := g) (c := (c : Int)) (by omega) hlt
      obtain ⟨d1, d2, d3, d4, d5, d6, d7⟩ := grp_bd hg (c := (c : Int)) (by omega) hlt
      simp [evOp_call, T.get_set, oracF_cons, loadE_eq, getC_eq, g1, g2, g5, g7, g8, g9, g10, m1, hlt]
      refine Gd.mono (group_any s q _ g z _ hg hpp (c : Int) _) ?_
      rintro ⟨r, s5⟩ ⟨hr, x5⟩
      simp only at hr x5
      subst hr
      have m15 := (x5.keep _ m0).trans m1
      have hgv : grpV g (c : Int) = .t [.int .i64 (dF g + (c : Int) * (dN g / g.c)), .int .i64 (grpN g (c : Int))] := by unfold grpV; rw [if_pos (by omega)]
      rw [hgv, ← a1]
      have hq : ∀ (st : St) (x y : Operand), binE Try.prog st .quo 3 x y (.int .i64 (dN g)) (.int .i64 g.c) = some (.int .i64 (dN g / g.c), st) := fun st x y => quo_pos (dN g) g.c (by omega) d7 (by omega)
      have n1 : ¬ grpN g (c : Int) < dN g / g.c := by omega
      have w0 : IntKind.i64.wrap ((c : Int) + 1) = (c : Int) + 1 := wrap_in (by omega) (by omega)
      have hE : -1 ≤ endV g ((c : Int) + 1) ∧ endV g ((c : Int) + 1) ≤ 2000 := by
        unfold endV
        split
        · omega
        · obtain ⟨_, _, e3, e4, _⟩ := grp_bd hg (c := (c : Int) + 1) (by omega) (by omega)
          omega
      have w5 : IntKind.i64.wrap (endV g (c : Int) + grpN g (c : Int)) = endV g ((c : Int) + 1) := by rw [a2]; exact wrap_in (by omega) (by omega)
      by_cases hl2 : (c : Int) + 1 < g.c
      · have n2 := a4 hl2
        rw [n2] at w5
        simp [evOp_call, T.get_set, oracF_cons, tupK, loadE_eq, getC_eq, g1, g2, g5, g7, g8, g9, g10, m15, hq, n1, n2, hl2, w0, w5]
        exact ⟨⟨c + 1, by omega, by simp [T.get_set, g1], by simp [T.get_set, g2], by simp [T.get_set, g5], by simp [T.get_set, g7], by simp [T.get_set, g8], by simp [T.get_set], by simp [T.get_set], Nat.lt_of_lt_of_le m0 x5.le, m15, hpp.ext x5⟩, muAt_lt g10 (by simp [T.get_set]) (by omega)⟩
      · simp [evOp_call, T.get_set, oracF_cons, tupK, loadE_eq, getC_eq, g1, g2, g5, g7, g8, g9, g10, m15, hq, n1, hl2, w0, w5]
        exact ⟨⟨c + 1, by omega, by simp [T.get_set, g1], by simp [T.get_set, g2], by simp [T.get_set, g5], by simp [T.get_set, g7], by simp [T.get_set, g8], by simp [T.get_set], by simp [T.get_set], Nat.lt_of_lt_of_le m0 x5.le, m15, hpp.ext x5⟩, muAt_lt g10 (by simp [T.get_set]) (by omega)⟩
    · have hce : (c : Int) = g.c := by omega
      have hend : endV g (c : Int) = dF g + dN g := by unfold endV; rw [if_pos hce]
      obtain ⟨d1, d2, d3, d4, d5, d6, d7⟩ := grp_bd hg (c := 0) (by omega) (by omega)
      have w6 : IntKind.i64.wrap (dF g + dN g) = dF g + dN g := wrap_in (by omega) (by omega)
      rw [hend] at g9
      simp [evOp_call, T.get_set, oracF_cons, loadE_eq, getC_eq, g1, g2, g5, g7, g8, g9, g10, m1, hlt]
      refine Gd.mono (group_any s q _ g z _ hg hpp cl _) ?_
      rintro ⟨r, s5⟩ ⟨hr, x5⟩
      simp only at hr x5
      subst hr
      have m15 := (x5.keep _ m0).trans m1
      by_cases c1 : 0 ≤ cl
      · by_cases c2 : cl < g.c
        · have hgv : grpV g cl = .t [.int .i64 (dF g + cl * (dN g / g.c)), .int .i64 (grpN g cl)] := by unfold grpV; rw [if_pos ⟨c1, c2⟩]
          rw [hgv]
          simp [evOp_call, T.get_set, oracF_cons, tupK, loadE_eq, getC_eq, g1, g2, g5, g7, g8, g9, g10, m15, w6, c1, c2]
        · have hgv : grpV g cl = .t [.int .i64 0, .int .i64 0] := by unfold grpV; rw [if_neg (fun h => c2 h.2)]
          rw [hgv]
          simp [evOp_call, T.get_set, oracF_cons, tupK, loadE_eq, getC_eq, g1, g2, g5, g7, g8, g9, g10, m15, w6, c1, c2]
      · have hgv : grpV g cl = .t [.int .i64 0, .int .i64 0] := by unfold grpV; rw [if_neg (fun h => c1 h.1)]
        rw [hgv]
        simp [evOp_call, T.get_set, oracF_cons, tupK, loadE_eq, getC_eq, g1, g2, g5, g7, g8, g9, g10, m15, w6, c1]
theorem w_PoolGroups (b n c k : Int) (q : Int) (W : World) (_ : -9223372036854775808 ≤ b ∧ b ≤ 9223372036854775807) (_ : -9223372036854775808 ≤ n ∧ n ≤ 9223372036854775807) (_ : -9223372036854775808 ≤ c ∧ c ≤ 9223372036854775807) (_ : -9223372036854775808 ≤ k ∧ k ≤ 9223372036854775807) (_ : -9223372036854775808 ≤ q ∧ q ≤ 9223372036854775807) :
    Calls Try.prog 10 #[.agg #[.int .i64 b, .int .i64 n, .int .i64 c, .int .i64 k], .int .i64 q] W fun e W' => e = .returned (.bool true) ∧ Below W.heap.size W W' :=
  law_calls (lawC_sound namesOkL mixesL Try.func64 rfl plAwake) (Begin.zero W) (.cons (rel_gV _ ⟨b, n, c, k⟩) (.cons (rel_int _ _) .nil)) (g_PoolGroups ⟨0, .lf⟩ ⟨b, n, c, k⟩ q)
end Go.Proofs.Ytdoennkmcloalaa

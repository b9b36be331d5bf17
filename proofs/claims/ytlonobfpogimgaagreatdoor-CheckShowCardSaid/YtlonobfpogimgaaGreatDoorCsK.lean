/-
  The law CheckShow, walked.
-/
import Derived.Test.YtlonobfpogimgaaGreatDoorCsJ
import Derived.Test.YtlonobfpogimgaaGreatDoorEqS
import Derived.Test.YtlonobfpogimgaaGreatDoorPrCkAw0
set_option linter.unusedSimpArgs false
set_option linter.unusedVariables false
namespace Go.Proofs.YtlonobfpogimgaaGreatDoor
open Go.RowKit Ev
@[simp] theorem nt3 : Tryz.f3.ntmps = 22 := rfl
@[simp] theorem rs3 : Tryz.f3.results.toList = [.tmp 4] := rfl
@[simp] theorem xt3 : ext? Tryz.prog 3 = none := by kernel_rfl
@[simp] theorem xt4 : ext? Tryz.prog 4 = none := by kernel_rfl
def fdV (p k a m : Int) : V := .g [.int .i64 p, .int .i64 k, .int .i64 a, .int .i64 m]
theorem eqF (st : St) (x y : Operand) (p k a m p' k' a' m' : Int) : binE Tryz.prog st .eql 23 x y (.g [.int .i64 p, .int .i64 k, .int .i64 a, .int .i64 m]) (.g [.int .i64 p', .int .i64 k', .int .i64 a', .int .i64 m']) = some (.bool ([p == p', k == k', a == a', m == m'].all id), st) :=
  eql_struct Tryz.underlying23 (by kernel_rfl) (by kernel_rfl) rfl rfl (.cons (.int (by decide) Tryz.underlying3 rfl rfl) (.cons (.int (by decide) Tryz.underlying3 rfl rfl) (.cons (.int (by decide) Tryz.underlying3 rfl rfl) (.cons (.int (by decide) Tryz.underlying3 rfl rfl) .nil))))
noncomputable def csL : CallF := lawX Tryz.prog cF4 4
theorem csL_sound : CallSound Tryz.prog csL :=
  callOf_sound (evF_sound namesOkS mixesS (oracF_soundK (liftF_sound cF4_both) Tryz.func4 rfl fun w hk => pr_CkAw w hk))
def ltC (q : Nat) (rs : List (Nat × Nat × Nat)) : Prop := ∀ e ∈ rs, q < e.2.1
theorem ltC_nil (q : Nat) : ltC q [] := fun e he => by cases he
theorem ltC_rs {q j u v : Nat} {rs : List (Nat × Nat × Nat)} (h : ltC q rs) (h2 : q < u) : ltC q (rsOf rs j u v) := rsOf_lt h h2
theorem ltC_inF {q b m nx : Nat} {rs : List (Nat × Nat × Nat)} (h : ltC q rs) (hm : m ≤ q) : inF ((0, m) :: (m + 1, nx) :: forb b rs []) m = false := inF_lds fun e he => Nat.lt_of_le_of_lt hm (h e he)
noncomputable def fdT (p k a m : Int) : T V := (((T.lf.set 0 (.int .i64 p)).set 1 (.int .i64 k)).set 2 (.int .i64 a)).set 3 (.int .i64 m)
theorem fdT0 (p k a m : Int) : (fdT p k a m).get 0 = some (.int .i64 p) := by simp [fdT, T.get_set]
theorem fdT1 (p k a m : Int) : (fdT p k a m).get 1 = some (.int .i64 k) := by simp [fdT, T.get_set]
theorem fdT2 (p k a m : Int) : (fdT p k a m).get 2 = some (.int .i64 a) := by simp [fdT, T.get_set]
theorem fdT3 (p k a m : Int) : (fdT p k a m).get 3 = some (.int .i64 m) := by simp [fdT, T.get_set]
theorem bin_beqC (st : St) (x y : Operand) (a b : Bool) : binE Tryz.prog st .eql 4 x y (.bool a) (.bool b) = some (.bool (decide (a = b)), st) := by
  cases a <;> cases b <;> kernel_rfl
set_option maxRecDepth 20000 in
set_option maxHeartbeats 8000000 in
theorem cs_any (p k a m p' k' a' m' : Int) (hp : fin64 p) (hk : fin64 k) (ha : fin64 a) (hm : fin64 m) (hp' : fin64 p') (hk' : fin64 k') (ha' : fin64 a') (hm' : fin64 m') :
    Gd (csL ⟨false, [], 0, 0⟩ 3 [.g [.int .i64 p, .int .i64 k, .int .i64 a, .int .i64 m], .g [.int .i64 p', .int .i64 k', .int .i64 a', .int .i64 m']] ⟨0, .lf⟩) fun r => r.1 = .bool true := by
  unfold csL
  rw [Gd_lawX Tryz.func3 rfl]
  refine Gd_seqJ (JE fun e s => e.get 2 = some (.p 0 0) ∧ e.get 3 = some (.p 1 0) ∧ s.h.get 0 = some (.cs 23 4 (fdT p k a m)) ∧ s.h.get 1 = some (.cs 23 4 (fdT p' k' a' m')) ∧ 2 ≤ s.nx) ?_ ?_
  · simp [evOp_call, sets, T.get_set, newC_is, cellsOf_g]
    exact ⟨_, _, rfl, by simp [T.get_set], by simp [T.get_set], by simp [T.get_set, fdT], by simp [T.get_set, fdT], Nat.le_refl _⟩
  rintro _ ⟨e, s, rfl, g2, g3, kA, kB, hn⟩
  rw [seqC_n]
  simp [evOp_call, T.get_set, g2, g3, loadE_eq, getC_eq, getsB_succ, getsB_zero, kA, kB, fdT0, fdT1, fdT2, fdT3, oracF_cons]
  refine ⟨by kernel_rfl, ?_⟩
  have hl : ∀ (m b nx : Nat) (rs : List (Nat × Nat × Nat)), m ≤ 1 → ltC 1 rs → inF ((0, m) :: (m + 1, nx) :: forb b rs []) m = false := fun m b nx rs hm hr => ltC_inF hr hm
  have hl0 : ∀ m nx : Nat, inF [(0, m), (m + 1, nx)] m = false := fun m nx => by rw [inF_cons, if_neg (by omega), inF_cons, if_neg (by omega)]; rfl
  have n0 : 1 < s.nx := by omega
  try simp (maxDischargeDepth := 12) [evOp_call, T.get_set, g2, g3, loadE_eq, getC_eq, getsB_succ, getsB_zero, kA, kB, fdT0, fdT1, fdT2, fdT3, oracF_cons, hl, hl0]
  rw [cxOf_callL [(1, 2), (0, 1), (1, 2)] (by kernel_rfl) (by kernel_rfl) (looseW_at2 2 3 (.p 0 0) (.p 1 0) (by simp [T.get_set, g2]) (by simp [T.get_set, g3]) (by kernel_rfl)) (fun x hx => by simp at hx; subst hx; simp [clashes_tmp, T.get_set, blkOf]) (fun p hp => by simp at hp; rcases hp with rfl | rfl | rfl <;> first | (rw [isRo_cs kA]; decide) | (rw [isRo_cs kB]; decide)), forb_nil]
  simp only [List.append_nil]
  refine Gd_lift (R := fun v _ => v = .s (shT p k a m)) (show_any _ p k a m hp hk ha hm _) ?_
  rintro _ _ s3 rfl - x3
  have n3 : 1 < s3.nx := Nat.lt_of_lt_of_le n0 x3.le
  have kA3 := (x3.keep _ (by omega)).trans kA
  have kB3 := (x3.keep _ (by omega)).trans kB
  simp (maxDischargeDepth := 12) [evOp_call, T.get_set, g2, g3, loadE_eq, getC_eq, getsB_succ, getsB_zero, kA3, kB3, fdT0, fdT1, fdT2, fdT3, oracF_cons, hl, hl0, ltC_nil, ltC_rs, n0, n3]
  rw [cxOf_callL [(0, 1), (1, 2)] (by kernel_rfl) (by kernel_rfl) (looseW_at2 2 3 (.p 0 0) (.p 1 0) (by simp [T.get_set, g2]) (by simp [T.get_set, g3]) (by kernel_rfl)) (fun x hx => by simp at hx; subst hx; simp [clashes_tmp, T.get_set, blkOf]) (fun p hp => by simp at hp; rcases hp with rfl | rfl <;> first | (rw [isRo_cs kA3]; decide) | (rw [isRo_cs kB3]; decide)), forb_step (by kernel_rfl) rfl]
  simp only [List.append_nil]
  refine Gd_lift (R := fun v _ => v = .s (shT p' k' a' m')) (show_any _ p' k' a' m' hp' hk' ha' hm' _) ?_
  rintro _ _ s4 rfl - x4
  have n4 : 1 < s4.nx := Nat.lt_of_lt_of_le n3 x4.le
  have kA4 := (x4.keep _ (by omega)).trans kA3
  have kB4 := (x4.keep _ (by omega)).trans kB3
  simp (maxDischargeDepth := 12) [evOp_call, T.get_set, g2, g3, loadE_eq, getC_eq, getsB_succ, getsB_zero, kA4, kB4, fdT0, fdT1, fdT2, fdT3, oracF_cons, hl, hl0, ltC_nil, ltC_rs, n0, n3, n4]
  rw [eqF]
  have hboth : decide (shT p k a m = shT p' k' a' m') = [p == p', k == k', a == a', m == m'].all id := by
    have h := shT_inj hp hk ha hm hp' hk' ha' hm'
    by_cases hh : p = p' ∧ k = k' ∧ a = a' ∧ m = m'
    · rw [decide_eq_true (h.2 hh)]
      obtain ⟨rfl, rfl, rfl, rfl⟩ := hh
      simp
    · rw [decide_eq_false (fun e => hh (h.1 e))]
      symm
      simp only [List.all_cons, List.all_nil, id, Bool.and_true]
      cases h1 : (p == p') <;> cases h2 : (k == k') <;> cases h3 : (a == a') <;> cases h4 : (m == m') <;> first | rfl | (exfalso; simp at h1 h2 h3 h4; exact hh ⟨h1, h2, h3, h4⟩)
  generalize [p == p', k == k', a == a', m == m'].all id = bb at hboth ⊢
  simp (maxDischargeDepth := 12) [evOp_call, T.get_set, g2, g3, loadE_eq, getC_eq, getsB_succ, getsB_zero, kA4, kB4, fdT0, fdT1, fdT2, fdT3, oracF_cons, hl, hl0, ltC_nil, ltC_rs, n0, n3, n4, bin_beqC, hboth]
  rw [cxOf_call (by kernel_rfl) (by kernel_rfl), forb_step (by kernel_rfl) (forb_step (by kernel_rfl) rfl), liftF_nil]
  refine Gd.mono (show_any s4 p k a m hp hk ha hm _) ?_
  rintro ⟨r, s5⟩ ⟨hr, x5⟩
  simp only at hr x5
  subst hr
  have hlen := shT_len hp hk ha hm
  have hlen' : (7 : Int) ≤ ((shT p k a m).length : Int) := by omega
  simp [evOp_call, T.get_set, g2, g3, len_str un9, hlen', hlen, oracF_cons]
end Go.Proofs.YtlonobfpogimgaaGreatDoor

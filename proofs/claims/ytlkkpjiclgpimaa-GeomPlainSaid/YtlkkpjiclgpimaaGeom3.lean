import Derived.Test.YtlkkpjiclgpimaaGeom2
import Derived.Deep.RegionWith
namespace Go.Proofs.Ytlkkpjiclgpimaa
open Go.ChangeShapes Go.WideShapes Go.ChangeAt Go.RowKit
attribute [local go_sem] lay_f0 lay_f1 lay_f2 lay_f3 lay_f4 part_f0 part_f1

/-- the cells of a box below. -/
theorem box4 {w w1 : World} {a b c d : Value} {e : TypeId} (h : Below (w.heap.size + 1) (w.alloc (.cells #[a, b, c, d] e)) w1) : w1.heap[w.heap.size]? = some (.cells #[a, b, c, d] e (0, 0)) :=
  (h.block _ (by omega)).trans (blk_new _ _)
theorem back_any (B N C K : Int) (hB : -9223372036854775808 ≤ B ∧ B ≤ 9223372036854775807) (w : World) :
    Calls Try.prog 25 #[gV B N C K] w fun e w' => e = .returned (.int .i64 (backG B N C K)) ∧ Below w.heap.size w w' := by
  by_cases hg : goodG B N C K = true
  · obtain ⟨hB', _⟩ := (good_iff B N C K).1 hg
    have e1 := hid (show backG B N C K = _ from if_pos hg)
    replace hg := hid hg
    rw [e1.out]
    go_enter Try.func25, Try.ntmps25
    go_wp2_with fail
    refine (good_any B N C K _).mono ?_
    rintro e w1 ⟨rfl, hb⟩
    rw [hg.out]
    obtain ⟨c0, c1, c2, c3⟩ := cells4 (box4 (hb.mono (by simp)))
    go_wp2
    go_ret
    exact ⟨rfl, ((Below.refl _ _).alloc (Nat.le_refl _) _).trans (hb.mono (by simp))⟩
  · have hg' : goodG B N C K = false := by simpa using hg
    have e1 := hid (show backG B N C K = _ from if_neg hg)
    clear hg
    replace hg' := hid hg'
    rw [e1.out]
    go_enter Try.func25, Try.ntmps25
    go_wp2_with fail
    refine (good_any B N C K _).mono ?_
    rintro e w1 ⟨rfl, hb⟩
    rw [hg'.out]
    go_wp2
    go_ret
    exact ⟨rfl, ((Below.refl _ _).alloc (Nat.le_refl _) _).trans (hb.mono (by simp))⟩
/-- where node n stands. -/
def nodeAt (B N C K n : Int) : Int := if goodG B N C K && btw n 1 N then 1 + C * K + (B + 511) / 512 + n - 1 else 0
theorem node_any (B N C K n : Int) (w : World) :
    Calls Try.prog 26 #[gV B N C K, .int .i64 n] w fun e w' => e = .returned (.int .i64 (nodeAt B N C K n)) ∧ Below w.heap.size w w' := by
  by_cases hg : goodG B N C K = true
  · obtain ⟨hB, hN, hC, hK, _⟩ := (good_iff B N C K).1 hg
    have hCK : 16 ≤ C * K ∧ C * K ≤ 880 := by
      constructor
      · exact Int.le_trans (show (16 : Int) ≤ 1 * 16 by omega) (Int.mul_le_mul hC.1 hK.1 (by omega) (by omega))
      · exact Int.le_trans (Int.mul_le_mul hC.2 hK.2 (by omega) (by omega)) (show (8 : Int) * 110 ≤ 880 by omega)
    by_cases hn : btw n 1 N = true
    · have hn' : 1 ≤ n ∧ n ≤ N := by simpa [btw] using hn
      have e1 := hid (show nodeAt B N C K n = _ from if_pos (by simp [hg, hn]))
      replace hg := hid hg
      replace hn := hid hn
      rw [e1.out]
      go_enter Try.func26, Try.ntmps26
      go_wp2_with fail
      refine (good_any B N C K _).mono ?_
      rintro e w1 ⟨rfl, hb⟩
      rw [hg.out]
      obtain ⟨c0, c1, c2, c3⟩ := cells4 (box4 (hb.mono (by simp)))
      go_wp2_with fail
      refine (between_any _ _ _ _).mono ?_
      rintro e w2 ⟨rfl, rfl⟩
      rw [hn.out]
      go_wp2_with fail
      refine (lay_any B N C K hB hN hC hK _).mono ?_
      rintro e w2 ⟨rfl, hb2⟩
      have hb1 : Below w.heap.size w w1 := ((Below.refl _ _).alloc (Nat.le_refl _) _).trans (hb.mono (by simp))
      have hb3 := hb1.trans (hb2.mono hb1.size)
      clear c0 c1 c2 c3
      unfold layV
      go_wp2
      go_ret
      exact ⟨rfl, hb3⟩
    · have hn' : btw n 1 N = false := by simpa using hn
      have e1 := hid (show nodeAt B N C K n = _ from if_neg (by simp [hg, hn]))
      clear hn
      replace hg := hid hg
      replace hn' := hid hn'
      rw [e1.out]
      go_enter Try.func26, Try.ntmps26
      go_wp2_with fail
      refine (good_any B N C K _).mono ?_
      rintro e w1 ⟨rfl, hb⟩
      rw [hg.out]
      obtain ⟨c0, c1, c2, c3⟩ := cells4 (box4 (hb.mono (by simp)))
      go_wp2_with fail
      refine (between_any _ _ _ _).mono ?_
      rintro e w2 ⟨rfl, rfl⟩
      rw [hn'.out]
      go_wp2
      go_ret
      exact ⟨rfl, ((Below.refl _ _).alloc (Nat.le_refl _) _).trans (hb.mono (by simp))⟩
  · have hg' : goodG B N C K = false := by simpa using hg
    have e1 := hid (show nodeAt B N C K n = _ from if_neg (by simp [hg]))
    clear hg
    replace hg' := hid hg'
    rw [e1.out]
    go_enter Try.func26, Try.ntmps26
    go_wp2_with fail
    refine (good_any B N C K _).mono ?_
    rintro e w1 ⟨rfl, hb⟩
    rw [hg'.out]
    go_wp2
    go_ret
    exact ⟨rfl, ((Below.refl _ _).alloc (Nat.le_refl _) _).trans (hb.mono (by simp))⟩
theorem plain_any (B : Int) (w : World) :
    Calls Try.prog 23 #[.int .i64 B] w fun e w' => e = .returned (gV B 10 1 20) ∧ Below w.heap.size w w' := by
  go_enter Try.func23, Try.ntmps23
  go_wp2
  refine bodyPost_ret (v := gV B 10 1 20) (by simp [results, Try.results23, go_sem]) rfl ⟨rfl, ?_⟩
  exact (Below.refl _ _).alloc (Nat.le_refl _) _
/-- a client's book. -/
def booksF (B N C K c : Int) : Int := if goodG B N C K && btw c 0 (C - 1) then 1 + c * K else 0
def booksN (B N C K c : Int) : Int := if goodG B N C K && btw c 0 (C - 1) then K else 0
set_option maxHeartbeats 1600000 in
theorem books_any (B N C K n : Int) (w : World) (hC' : -9223372036854775808 ≤ C ∧ C ≤ 9223372036854775807) :
    Calls Try.prog 27 #[gV B N C K, .int .i64 n] w fun e w' => e = .returned (.tuple #[.int .i64 (booksF B N C K n), .int .i64 (booksN B N C K n)]) ∧ Below w.heap.size w w' := by
  by_cases hg : goodG B N C K = true
  · obtain ⟨hB, hN, hC, hK, _⟩ := (good_iff B N C K).1 hg
    by_cases hn : btw n 0 (C - 1) = true
    · have hn' : 0 ≤ n ∧ n ≤ C - 1 := by simpa [btw] using hn
      have e1 := hid (show booksF B N C K n = _ from if_pos (by simp [hg, hn]))
      have e2 := hid (show booksN B N C K n = _ from if_pos (by simp [hg, hn]))
      have hnK : 0 ≤ n * K ∧ n * K ≤ 880 := by
        constructor
        · exact Int.mul_nonneg hn'.1 (by omega)
        · exact Int.le_trans (Int.mul_le_mul (show n ≤ 8 by omega) hK.2 (by omega) (by omega)) (show (8 : Int) * 110 ≤ 880 by omega)
      have k1 : IntKind.i64.wrap (n * K) = n * K := IntWalk.i64_in _ (by omega)
      have k2 : IntKind.i64.wrap (1 + n * K) = 1 + n * K := IntWalk.i64_in _ (by omega)
      replace hg := hid hg
      replace hn := hid hn
      rw [e1.out, e2.out]
      go_enter Try.func27, Try.ntmps27
      go_wp2_with fail
      refine (good_any B N C K _).mono ?_
      rintro e w1 ⟨rfl, hb⟩
      rw [hg.out]
      have blk := box4 (hb.mono (by simp))
      obtain ⟨c0, c1, c2, c3⟩ := cells4 blk
      replace blk := hid blk
      go_wp2_with fail
      refine (between_any _ _ _ _).mono ?_
      rintro e w2 ⟨rfl, rfl⟩
      rw [hn.out]
      go_wp2_with fail
      have sz : w.heap.size < w1.heap.size := by have := hb.size; simp at this; omega
      go_region_held3 (fun w' => w'.cell? ⟨w.heap.size, 0, none⟩ = some (.int .i64 B) ∧ w'.cell? ⟨w.heap.size, 1, none⟩ = some (.int .i64 N) ∧ w'.cell? ⟨w.heap.size, 2, none⟩ = some (.int .i64 C) ∧ w'.cell? ⟨w.heap.size, 3, none⟩ = some (.int .i64 K)) ((first | exact ⟨g0, g1, g2, g3⟩ | exact ⟨c0, c1, c2, c3⟩))
        (first | (go_at_call 72; refine (lay_any B N C K hB hN hC hK _).mono ?_; rintro e w9 ⟨rfl, hb9⟩; unfold layV; obtain ⟨g0, g1, g2, g3⟩ := cells4 ((hb9.block _ (by exact sz)).trans blk.out)))
      go_wp2
      go_ret2
      have hb1 : Below w.heap.size w w1 := ((Below.refl _ _).alloc (Nat.le_refl _) _).trans (hb.mono (by simp))
      exact ⟨rfl, (hb1.trans (Quiet.drew1.below _)).trans (hb9.mono (by exact hb1.size))⟩
    · have hn' : btw n 0 (C - 1) = false := by simpa using hn
      have e1 := hid (show booksF B N C K n = _ from if_neg (by simp [hg, hn]))
      have e2 := hid (show booksN B N C K n = _ from if_neg (by simp [hg, hn]))
      clear hn
      replace hg := hid hg
      replace hn' := hid hn'
      rw [e1.out, e2.out]
      go_enter Try.func27, Try.ntmps27
      go_wp2_with fail
      refine (good_any B N C K _).mono ?_
      rintro e w1 ⟨rfl, hb⟩
      rw [hg.out]
      obtain ⟨c0, c1, c2, c3⟩ := cells4 (box4 (hb.mono (by simp)))
      go_wp2_with fail
      refine (between_any _ _ _ _).mono ?_
      rintro e w2 ⟨rfl, rfl⟩
      rw [hn'.out]
      go_wp2
      go_ret2
      exact ⟨rfl, ((Below.refl _ _).alloc (Nat.le_refl _) _).trans (hb.mono (by simp))⟩
  · have hg' : goodG B N C K = false := by simpa using hg
    have e1 := hid (show booksF B N C K n = _ from if_neg (by simp [hg]))
    have e2 := hid (show booksN B N C K n = _ from if_neg (by simp [hg]))
    clear hg
    replace hg' := hid hg'
    rw [e1.out, e2.out]
    go_enter Try.func27, Try.ntmps27
    go_wp2_with fail
    refine (good_any B N C K _).mono ?_
    rintro e w1 ⟨rfl, hb⟩
    rw [hg'.out]
    go_wp2
    go_ret2
    exact ⟨rfl, ((Below.refl _ _).alloc (Nat.le_refl _) _).trans (hb.mono (by simp))⟩

/-! ### the document's own -/
theorem rbitBlocks_any (B N C K : Int) (hB : 64 ≤ B ∧ B ≤ 1024) (w : World) :
    Calls Try.prog 74 #[gV B N C K] w fun e w' => e = .returned (.int .i64 ((B + 511) / 512)) ∧ Below w.heap.size w w' := by
  go_enter Try.func74, Try.ntmps74
  go_wp2
  go_ret
  exact ⟨rfl, (Below.refl _ _).alloc (Nat.le_refl _) _⟩
set_option maxHeartbeats 3200000 in
theorem rgood_out (B N C K : Int) (w : World) (hg : goodG B N C K = false) (h : ¬ ((64 ≤ B ∧ B ≤ 1024) ∧ (4 ≤ N ∧ N ≤ 64) ∧ (1 ≤ C ∧ C ≤ 8) ∧ (16 ≤ K ∧ K ≤ 110))) :
    Calls Try.prog 36 #[gV B N C K] w fun e w' => e = .returned (.bool (goodG B N C K)) ∧ Below w.heap.size w w' := by
  rw [hg]
  clear hg
  have parts : B < 64 ∨ (64 ≤ B ∧ 1024 < B) ∨ (64 ≤ B ∧ B ≤ 1024 ∧ N < 4) ∨ (64 ≤ B ∧ B ≤ 1024 ∧ 4 ≤ N ∧ 64 < N) ∨ (64 ≤ B ∧ B ≤ 1024 ∧ 4 ≤ N ∧ N ≤ 64 ∧ C < 1) ∨ (64 ≤ B ∧ B ≤ 1024 ∧ 4 ≤ N ∧ N ≤ 64 ∧ 1 ≤ C ∧ 8 < C) ∨
      (64 ≤ B ∧ B ≤ 1024 ∧ 4 ≤ N ∧ N ≤ 64 ∧ 1 ≤ C ∧ C ≤ 8 ∧ K < 16) ∨ (64 ≤ B ∧ B ≤ 1024 ∧ 4 ≤ N ∧ N ≤ 64 ∧ 1 ≤ C ∧ C ≤ 8 ∧ 16 ≤ K ∧ 110 < K) := by omega
  clear h
  rcases parts with p | ⟨p0, p⟩ | ⟨p0, p1, p⟩ | ⟨p0, p1, p2, p⟩ | ⟨p0, p1, p2, p3, p⟩ | ⟨p0, p1, p2, p3, p4, p⟩ | ⟨p0, p1, p2, p3, p4, p5, p⟩ | ⟨p0, p1, p2, p3, p4, p5, p6, p⟩
  all_goals
    go_enter Try.func36, Try.ntmps36
    go_wp2
    go_ret
    exact ⟨rfl, (Below.refl _ _).alloc (Nat.le_refl _) _⟩
set_option maxHeartbeats 1600000 in
theorem rgood_in (B N C K : Int) (w : World) (hB : 64 ≤ B ∧ B ≤ 1024) (hN : 4 ≤ N ∧ N ≤ 64) (hC : 1 ≤ C ∧ C ≤ 8) (hK : 16 ≤ K ∧ K ≤ 110) :
    Calls Try.prog 36 #[gV B N C K] w fun e w' => e = .returned (.bool (goodG B N C K)) ∧ Below w.heap.size w w' := by
  have hCK : 16 ≤ C * K ∧ C * K ≤ 880 := by
    constructor
    · exact Int.le_trans (show (16 : Int) ≤ 1 * 16 by omega) (Int.mul_le_mul hC.1 hK.1 (by omega) (by omega))
    · exact Int.le_trans (Int.mul_le_mul hC.2 hK.2 (by omega) (by omega)) (show (8 : Int) * 110 ≤ 880 by omega)
  have hg := hid (show goodG B N C K = decide (2 + C * K + (B + 511) / 512 + 2 * N < B) by
    have : goodG B N C K = decide (1 ≤ datN B N C K) := by
      have b1 : btw B 64 1024 = true := by simp [btw]; omega
      have b2 : btw N 4 64 = true := by simp [btw]; omega
      have b3 : btw C 1 8 = true := by simp [btw]; omega
      have b4 : btw K 16 110 = true := by simp [btw]; omega
      simp only [goodG, b1, b2, b3, b4, Bool.true_and]
    rw [this, decide_eq_decide]
    unfold datN datF
    omega)
  have hbb : 1 ≤ (B + 511) / 512 ∧ (B + 511) / 512 ≤ 2 := by omega
  have hbit := fun W => rbitBlocks_any B N C K hB W
  generalize (B + 511) / 512 = q at *
  have k1 : IntKind.i64.wrap (C * K) = C * K := IntWalk.i64_in _ (by omega)
  have k2 : IntKind.i64.wrap (2 + C * K) = 2 + C * K := IntWalk.i64_in _ (by omega)
  have k3 : IntKind.i64.wrap (2 + C * K + q) = 2 + C * K + q := IntWalk.i64_in _ (by omega)
  have k4 : IntKind.i64.wrap (2 * N) = 2 * N := IntWalk.i64_in _ (by omega)
  have k5 : IntKind.i64.wrap (2 + C * K + q + 2 * N) = 2 + C * K + q + 2 * N := IntWalk.i64_in _ (by omega)
  replace hbit := hid hbit
  go_enter Try.func36, Try.ntmps36
  go_wp2
  go_region_held3 (fun w' => w'.cell? ⟨w.heap.size, 0, none⟩ = some (.int .i64 B) ∧ w'.cell? ⟨w.heap.size, 1, none⟩ = some (.int .i64 N) ∧ w'.cell? ⟨w.heap.size, 2, none⟩ = some (.int .i64 C) ∧ w'.cell? ⟨w.heap.size, 3, none⟩ = some (.int .i64 K)) ((first | exact ⟨g0, g1, g2, g3⟩ | (refine ⟨?_, ?_, ?_, ?_⟩ <;> go_simp)))
    (first | (go_at_call 74; refine (hbit.out _).mono ?_; rintro e w9 ⟨rfl, hb9⟩; obtain ⟨g0, g1, g2, g3⟩ := cells4 ((hb9.block _ (by simp)).trans (blk_new _ _))))
  go_wp2
  go_ret
  exact ⟨by rw [hg.out]; rfl, ((Below.refl _ _).alloc (Nat.le_refl _) _).trans ((Quiet.drew1.below _).trans (hb9.mono (by simp)))⟩
theorem rgood_any (B N C K : Int) (w : World) :
    Calls Try.prog 36 #[gV B N C K] w fun e w' => e = .returned (.bool (goodG B N C K)) ∧ Below w.heap.size w w' := by
  by_cases h : (64 ≤ B ∧ B ≤ 1024) ∧ (4 ≤ N ∧ N ≤ 64) ∧ (1 ≤ C ∧ C ≤ 8) ∧ (16 ≤ K ∧ K ≤ 110)
  · exact rgood_in B N C K w h.1 h.2.1 h.2.2.1 h.2.2.2
  · refine rgood_out B N C K w ?_ h
    have : ¬ goodG B N C K = true := fun hg => by
      obtain ⟨a, b, c, d, _⟩ := (good_iff B N C K).1 hg
      exact h ⟨a, b, c, d⟩
    simpa using this
end Go.Proofs.Ytlkkpjiclgpimaa

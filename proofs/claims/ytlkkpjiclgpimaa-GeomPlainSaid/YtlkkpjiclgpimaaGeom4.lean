import Derived.Test.YtlkkpjiclgpimaaGeom3
namespace Go.Proofs.Ytlkkpjiclgpimaa
open Go.ChangeShapes Go.WideShapes Go.ChangeAt Go.RowKit
attribute [local go_sem] lay_f0 lay_f1 lay_f2 lay_f3 lay_f4 part_f0 part_f1

theorem ck_bound (C K : Int) (hC : 1 ≤ C ∧ C ≤ 8) (hK : 16 ≤ K ∧ K ≤ 110) : 16 ≤ C * K ∧ C * K ≤ 880 := by
  constructor
  · exact Int.le_trans (show (16 : Int) ≤ 1 * 16 by omega) (Int.mul_le_mul hC.1 hK.1 (by omega) (by omega))
  · exact Int.le_trans (Int.mul_le_mul hC.2 hK.2 (by omega) (by omega)) (show (8 : Int) * 110 ≤ 880 by omega)
theorem rbits_any (B N C K : Int) (w : World) :
    Calls Try.prog 32 #[gV B N C K] w fun e w' => e = .returned (.tuple #[.int .i64 (bitsF B N C K), .int .i64 (bitsN B N C K)]) ∧ Below w.heap.size w w' := by
  by_cases hg : goodG B N C K = true
  · obtain ⟨hB, hN, hC, hK, _⟩ := (good_iff B N C K).1 hg
    have hCK := ck_bound C K hC hK
    have e1 := hid (show bitsF B N C K = _ from if_pos hg)
    have e2 := hid (show bitsN B N C K = _ from if_pos hg)
    replace hg := hid hg
    rw [e1.out, e2.out]
    have k1 : IntKind.i64.wrap (C * K) = C * K := IntWalk.i64_in _ (by omega)
    have k2 : IntKind.i64.wrap (1 + C * K) = 1 + C * K := IntWalk.i64_in _ (by omega)
    go_enter Try.func32, Try.ntmps32
    go_wp2_with fail
    refine (rgood_any B N C K _).mono ?_
    rintro e w1 ⟨rfl, hb⟩
    rw [hg.out]
    have blk := box4 (hb.mono (by simp))
    obtain ⟨c0, c1, c2, c3⟩ := cells4 blk
    replace blk := hid blk
    have sz : w.heap.size < w1.heap.size := by have := hb.size; simp at this; omega
    have hb1 : Below w.heap.size w w1 := ((Below.refl _ _).alloc (Nat.le_refl _) _).trans (hb.mono (by simp))
    go_wp2_with fail
    go_region_held3 (fun w' => w'.cell? ⟨w.heap.size, 0, none⟩ = some (.int .i64 B) ∧ w'.cell? ⟨w.heap.size, 1, none⟩ = some (.int .i64 N) ∧ w'.cell? ⟨w.heap.size, 2, none⟩ = some (.int .i64 C) ∧ w'.cell? ⟨w.heap.size, 3, none⟩ = some (.int .i64 K)) ((first | exact ⟨g0, g1, g2, g3⟩ | exact ⟨c0, c1, c2, c3⟩))
      (first | (go_at_call 74; refine (rbitBlocks_any B N C K hB _).mono ?_; rintro e w9 ⟨rfl, hb9⟩; obtain ⟨g0, g1, g2, g3⟩ := cells4 ((hb9.block _ (by exact sz)).trans blk.out)))
    go_wp2
    go_ret2
    exact ⟨rfl, (hb1.trans (Quiet.drew1.below _)).trans (hb9.mono (by exact hb1.size))⟩
  · have hg' : goodG B N C K = false := by simpa using hg
    have e1 := hid (show bitsF B N C K = _ from if_neg hg)
    have e2 := hid (show bitsN B N C K = _ from if_neg hg)
    clear hg
    replace hg' := hid hg'
    rw [e1.out, e2.out]
    go_enter Try.func32, Try.ntmps32
    go_wp2_with fail
    refine (rgood_any B N C K _).mono ?_
    rintro e w1 ⟨rfl, hb⟩
    rw [hg'.out]
    go_wp2
    go_ret2
    exact ⟨rfl, ((Below.refl _ _).alloc (Nat.le_refl _) _).trans (hb.mono (by simp))⟩
theorem rnode_any (B N C K n : Int) (w : World) :
    Calls Try.prog 37 #[gV B N C K, .int .i64 n] w fun e w' => e = .returned (.int .i64 (nodeAt B N C K n)) ∧ Below w.heap.size w w' := by
  by_cases hg : goodG B N C K = true
  · obtain ⟨hB, hN, hC, hK, _⟩ := (good_iff B N C K).1 hg
    have hCK := ck_bound C K hC hK
    have hbF := hid (show bitsF B N C K = _ from if_pos hg)
    have hbN := hid (show bitsN B N C K = _ from if_pos hg)
    by_cases h1 : n < 1
    · have e1 := hid (show nodeAt B N C K n = _ from if_neg (by simp [btw]; omega))
      replace hg := hid hg
      rw [e1.out]
      go_enter Try.func37, Try.ntmps37
      go_wp2_with fail
      refine (rgood_any B N C K _).mono ?_
      rintro e w1 ⟨rfl, hb⟩
      rw [hg.out]
      have blk := box4 (hb.mono (by simp))
      obtain ⟨c0, c1, c2, c3⟩ := cells4 blk
      replace blk := hid blk
      have sz : w.heap.size < w1.heap.size := by have := hb.size; simp at this; omega
      have hb1 : Below w.heap.size w w1 := ((Below.refl _ _).alloc (Nat.le_refl _) _).trans (hb.mono (by simp))
      go_wp2
      go_ret
      exact ⟨rfl, hb1⟩
    by_cases h2 : N < n
    · have e1 := hid (show nodeAt B N C K n = _ from if_neg (by simp [btw]; omega))
      replace hg := hid hg
      rw [e1.out]
      go_enter Try.func37, Try.ntmps37
      go_wp2_with fail
      refine (rgood_any B N C K _).mono ?_
      rintro e w1 ⟨rfl, hb⟩
      rw [hg.out]
      have blk := box4 (hb.mono (by simp))
      obtain ⟨c0, c1, c2, c3⟩ := cells4 blk
      replace blk := hid blk
      have sz : w.heap.size < w1.heap.size := by have := hb.size; simp at this; omega
      have hb1 : Below w.heap.size w w1 := ((Below.refl _ _).alloc (Nat.le_refl _) _).trans (hb.mono (by simp))
      go_wp2
      go_ret
      exact ⟨rfl, hb1⟩
    have e1 := hid (show nodeAt B N C K n = _ from if_pos (by simp [hg, btw]; omega))
    replace hg := hid hg
    rw [e1.out]
    go_enter Try.func37, Try.ntmps37
    go_wp2_with fail
    refine (rgood_any B N C K _).mono ?_
    rintro e w1 ⟨rfl, hb⟩
    rw [hg.out]
    have blk := box4 (hb.mono (by simp))
    obtain ⟨c0, c1, c2, c3⟩ := cells4 blk
    replace blk := hid blk
    have sz : w.heap.size < w1.heap.size := by have := hb.size; simp at this; omega
    have hb1 : Below w.heap.size w w1 := ((Below.refl _ _).alloc (Nat.le_refl _) _).trans (hb.mono (by simp))
    go_wp2_with fail
    refine (rbits_any B N C K _).mono ?_
    rintro e w2 ⟨rfl, hb2⟩
    rw [hbF.out, hbN.out]
    go_wp2
    go_ret
    exact ⟨rfl, hb1.trans (hb2.mono hb1.size)⟩
  · have hg' : goodG B N C K = false := by simpa using hg
    have e1 := hid (show nodeAt B N C K n = _ from if_neg (by simp [hg']))
    clear hg
    replace hg' := hid hg'
    rw [e1.out]
    go_enter Try.func37, Try.ntmps37
    go_wp2_with fail
    refine (rgood_any B N C K _).mono ?_
    rintro e w1 ⟨rfl, hb⟩
    rw [hg'.out]
    go_wp2
    go_ret
    exact ⟨rfl, ((Below.refl _ _).alloc (Nat.le_refl _) _).trans (hb.mono (by simp))⟩
theorem rlost_any (B N C K : Int) (w : World) :
    Calls Try.prog 33 #[gV B N C K] w fun e w' => e = .returned (.tuple #[.int .i64 (lostF B N C K), .int .i64 (lostN B N C K)]) ∧ Below w.heap.size w w' := by
  by_cases hg : goodG B N C K = true
  · obtain ⟨hB, hN, hC, hK, _⟩ := (good_iff B N C K).1 hg
    have hCK := ck_bound C K hC hK
    have hnd := hid (show nodeAt B N C K N = 1 + C * K + (B + 511) / 512 + N - 1 from if_pos (by simp [hg, btw]; omega))
    have e1 := hid (show lostF B N C K = _ from if_pos hg)
    have e2 := hid (show lostN B N C K = _ from if_pos hg)
    replace hg := hid hg
    rw [e1.out, e2.out]
    have k1 : IntKind.i64.wrap (1 + C * K + (B + 511) / 512 + N) = 1 + C * K + (B + 511) / 512 + N := IntWalk.i64_in _ (by omega)
    go_enter Try.func33, Try.ntmps33
    go_wp2_with fail
    refine (rgood_any B N C K _).mono ?_
    rintro e w1 ⟨rfl, hb⟩
    rw [hg.out]
    have blk := box4 (hb.mono (by simp))
    obtain ⟨c0, c1, c2, c3⟩ := cells4 blk
    replace blk := hid blk
    have sz : w.heap.size < w1.heap.size := by have := hb.size; simp at this; omega
    have hb1 : Below w.heap.size w w1 := ((Below.refl _ _).alloc (Nat.le_refl _) _).trans (hb.mono (by simp))
    go_wp2_with fail
    go_region_held3 (fun w' => w'.cell? ⟨w.heap.size, 0, none⟩ = some (.int .i64 B) ∧ w'.cell? ⟨w.heap.size, 1, none⟩ = some (.int .i64 N) ∧ w'.cell? ⟨w.heap.size, 2, none⟩ = some (.int .i64 C) ∧ w'.cell? ⟨w.heap.size, 3, none⟩ = some (.int .i64 K)) ((first | exact ⟨g0, g1, g2, g3⟩ | exact ⟨c0, c1, c2, c3⟩))
      (first | (go_at_call 37; refine (rnode_any B N C K N _).mono ?_; rintro e w9 ⟨rfl, hb9⟩; rw [hnd.out]; obtain ⟨g0, g1, g2, g3⟩ := cells4 ((hb9.block _ (by exact sz)).trans blk.out)))
    go_wp2
    go_ret2
    exact ⟨rfl, (hb1.trans (Quiet.drew1.below _)).trans (hb9.mono (by exact hb1.size))⟩
  · have hg' : goodG B N C K = false := by simpa using hg
    have e1 := hid (show lostF B N C K = _ from if_neg hg)
    have e2 := hid (show lostN B N C K = _ from if_neg hg)
    clear hg
    replace hg' := hid hg'
    rw [e1.out, e2.out]
    go_enter Try.func33, Try.ntmps33
    go_wp2_with fail
    refine (rgood_any B N C K _).mono ?_
    rintro e w1 ⟨rfl, hb⟩
    rw [hg'.out]
    go_wp2
    go_ret2
    exact ⟨rfl, ((Below.refl _ _).alloc (Nat.le_refl _) _).trans (hb.mono (by simp))⟩
theorem rdata_any (B N C K : Int) (w : World) :
    Calls Try.prog 35 #[gV B N C K] w fun e w' => e = .returned (.tuple #[.int .i64 (dataF B N C K), .int .i64 (dataN B N C K)]) ∧ Below w.heap.size w w' := by
  by_cases hg : goodG B N C K = true
  · obtain ⟨hB, hN, hC, hK, _⟩ := (good_iff B N C K).1 hg
    have hCK := ck_bound C K hC hK
    have l1 := hid (show lostF B N C K = _ from if_pos hg)
    have l2 := hid (show lostN B N C K = _ from if_pos hg)
    have e1 := hid (show dataF B N C K = 1 + C * K + (B + 511) / 512 + N + N from if_pos hg)
    have e2 := hid (show dataN B N C K = B - 1 - (1 + C * K + (B + 511) / 512 + N) - N by rw [show dataN B N C K = _ from if_pos hg]; unfold datN datF; omega)
    replace hg := hid hg
    rw [e1.out, e2.out]
    go_enter Try.func35, Try.ntmps35
    go_wp2_with fail
    refine (rgood_any B N C K _).mono ?_
    rintro e w1 ⟨rfl, hb⟩
    rw [hg.out]
    have blk := box4 (hb.mono (by simp))
    obtain ⟨c0, c1, c2, c3⟩ := cells4 blk
    replace blk := hid blk
    have sz : w.heap.size < w1.heap.size := by have := hb.size; simp at this; omega
    have hb1 : Below w.heap.size w w1 := ((Below.refl _ _).alloc (Nat.le_refl _) _).trans (hb.mono (by simp))
    go_wp2_with fail
    refine (rlost_any B N C K _).mono ?_
    rintro e w2 ⟨rfl, hb2⟩
    rw [l1.out, l2.out]
    obtain ⟨g0, g1, g2, g3⟩ := cells4 ((hb2.block _ (by exact sz)).trans blk.out)
    have hb3 := hb1.trans (hb2.mono hb1.size)
    clear c0 c1 c2 c3
    have hbb : 1 ≤ (B + 511) / 512 ∧ (B + 511) / 512 ≤ 2 := by omega
    have k1 : IntKind.i64.wrap (1 + C * K + (B + 511) / 512 + N + N) = 1 + C * K + (B + 511) / 512 + N + N := IntWalk.i64_in _ (by omega)
    have k2 : IntKind.i64.wrap (B - 1) = B - 1 := IntWalk.i64_in _ (by omega)
    have k3 : IntKind.i64.wrap (B - 1 - (1 + C * K + (B + 511) / 512 + N)) = B - 1 - (1 + C * K + (B + 511) / 512 + N) := IntWalk.i64_in _ (by omega)
    have k4 : IntKind.i64.wrap (B - 1 - (1 + C * K + (B + 511) / 512 + N) - N) = B - 1 - (1 + C * K + (B + 511) / 512 + N) - N := IntWalk.i64_in _ (by omega)
    go_wp2
    go_quiet (fail)
    go_wp2
    go_ret2
    exact ⟨rfl, hb3.trans (Quiet.mk.below _)⟩
  · have hg' : goodG B N C K = false := by simpa using hg
    have e1 := hid (show dataF B N C K = _ from if_neg hg)
    have e2 := hid (show dataN B N C K = _ from if_neg hg)
    clear hg
    replace hg' := hid hg'
    rw [e1.out, e2.out]
    go_enter Try.func35, Try.ntmps35
    go_wp2_with fail
    refine (rgood_any B N C K _).mono ?_
    rintro e w1 ⟨rfl, hb⟩
    rw [hg'.out]
    go_wp2
    go_ret2
    exact ⟨rfl, ((Below.refl _ _).alloc (Nat.le_refl _) _).trans (hb.mono (by simp))⟩
end Go.Proofs.Ytlkkpjiclgpimaa

/-
  THE WALKS of layer 6's laws.
-/
import Derived.Test.YtlkkpjiclgpimaaGeom4
namespace Go.Proofs.Ytlkkpjiclgpimaa
open Go.ChangeShapes Go.WideShapes Go.ChangeAt Go.RowKit

theorem good64 : goodG 64 10 1 20 = true := by decide
set_option maxHeartbeats 1600000 in
theorem geomAwake (w : World) : Calls Try.prog 22 #[] w fun e w' => e = .returned (.bool true) ∧ Below w.heap.size w w' := by
  have v1 := hid (show bitsF 64 10 1 20 = 21 by decide)
  have v2 := hid (show bitsN 64 10 1 20 = 1 by decide)
  have v3 := hid (show dataF 64 10 1 20 = 42 by decide)
  have v4 := hid (show dataN 64 10 1 20 = 21 by decide)
  have v5 := hid (show nodeAt 64 10 1 20 1 = 22 by decide)
  have v6 := hid (show backG 64 10 1 20 = 63 by decide)
  have v7 := hid good64
  go_enter Try.func22, Try.ntmps22
  go_wp2_with fail
  refine (plain_any 64 _).mono ?_
  rintro e w1 ⟨rfl, b1⟩
  have z1 := b1.size
  go_wp2_with fail
  refine (bits_any 64 10 1 20 _).mono ?_
  rintro e w2 ⟨rfl, b2⟩
  rw [v1.out, v2.out]
  have k2 : w2.heap[w1.heap.size]? = some (.cells #[.int .i64 64, .int .i64 10, .int .i64 1, .int .i64 20] 25 (0, 0)) := (b2.block _ (by simp)).trans (blk_new _ _)
  have c2 : Below w.heap.size w w2 := (b1.alloc z1 _).trans (b2.mono (by simp; omega))
  have s2 : w1.heap.size < w2.heap.size := by have := b2.size; simp at this; omega
  obtain ⟨d0, d1, d2, d3⟩ := cells4 k2
  replace k2 := hid k2
  clear b1 b2
  go_wp2_with fail
  refine (data_any 64 10 1 20 _).mono ?_
  rintro e w3 ⟨rfl, b3⟩
  rw [v3.out, v4.out]
  have k3 : w3.heap[w1.heap.size]? = _ := (b3.block _ s2).trans k2.out
  have c3 := c2.trans (b3.mono c2.size)
  have s3 : w1.heap.size < w3.heap.size := by have := b3.size; omega
  clear d0 d1 d2 d3 b3 c2 k2
  obtain ⟨d0, d1, d2, d3⟩ := cells4 k3
  replace k3 := hid k3
  go_wp2_with fail
  refine (good_any 64 10 1 20 _).mono ?_
  rintro e w4 ⟨rfl, b4⟩
  rw [v7.out]
  have k4 : w4.heap[w1.heap.size]? = _ := (b4.block _ s3).trans k3.out
  have c4 := c3.trans (b4.mono c3.size)
  have s4 : w1.heap.size < w4.heap.size := by have := b4.size; omega
  clear d0 d1 d2 d3 b4 c3 k3
  obtain ⟨d0, d1, d2, d3⟩ := cells4 k4
  replace k4 := hid k4
  go_wp2_with fail
  refine (node_any 64 10 1 20 1 _).mono ?_
  rintro e w5 ⟨rfl, b5⟩
  rw [v5.out]
  have k5 : w5.heap[w1.heap.size]? = _ := (b5.block _ s4).trans k4.out
  have c5 := c4.trans (b5.mono c4.size)
  clear d0 d1 d2 d3 b5 c4 k4
  obtain ⟨d0, d1, d2, d3⟩ := cells4 k5
  replace k5 := hid k5
  go_wp2_with fail
  refine (back_any 64 10 1 20 (by omega) _).mono ?_
  rintro e w6 ⟨rfl, b6⟩
  rw [v6.out]
  have c6 := c5.trans (b6.mono c5.size)
  go_wp2
  go_ret
  exact ⟨rfl, c6⟩

theorem good_plain (B : Int) : goodG B 10 1 20 = decide (64 ≤ B ∧ B ≤ 1024) := by
  rw [Bool.eq_iff_iff, good_iff, decide_eq_true_iff]
  unfold datN datF
  constructor
  · intro h; exact h.1
  · intro h; refine ⟨h, by omega, by omega, by omega, by omega⟩
set_option maxHeartbeats 1600000 in
theorem w_GeomPlain (B : Int) (w : World) (hB : -9223372036854775808 ≤ B ∧ B ≤ 9223372036854775807) :
    Calls Try.prog 7 #[.int .i64 B] w fun e w' => e = .returned (.bool true) ∧ Below w.heap.size w w' := by
  by_cases hg : 64 ≤ B ∧ B ≤ 1024
  · have v1 := hid (show goodG B 10 1 20 = true by rw [good_plain]; simpa using hg)
    have v3 := hid (show dataF B 10 1 20 = 41 + (B + 511) / 512 by rw [show dataF B 10 1 20 = _ from if_pos v1.out]; unfold datF; omega)
    have v4 := hid (show dataN B 10 1 20 = B - 42 - (B + 511) / 512 by rw [show dataN B 10 1 20 = _ from if_pos v1.out]; unfold datN datF; omega)
    have hq : 1 ≤ (B + 511) / 512 ∧ (B + 511) / 512 ≤ 2 := by omega
    obtain ⟨g1, g2⟩ := hg
    have e1 : (41 + (B + 511) / 512 + (B - 42 - (B + 511) / 512) == B - 1) = true := by simp; omega
    have e2 : B - 44 ≤ B - 42 - (B + 511) / 512 := by omega
    go_enter Try.func7, Try.ntmps7
    go_wp2_with fail
    refine (geomAwake _).mono ?_
    rintro e w0 ⟨rfl, b0⟩
    go_wp2_with fail
    refine (plain_any B _).mono ?_
    rintro e w1 ⟨rfl, b1⟩
    have z0 := b0.size
    have z1 := b1.size
    go_wp2_with fail
    refine (data_any B 10 1 20 _).mono ?_
    rintro e w2 ⟨rfl, b2⟩
    rw [v3.out, v4.out]
    have k2 : w2.heap[w1.heap.size]? = some (.cells #[.int .i64 B, .int .i64 10, .int .i64 1, .int .i64 20] 25 (0, 0)) := (b2.block _ (by simp)).trans (blk_new _ _)
    have c2 : Below w.heap.size w w2 := ((b0.trans (b1.mono z0)).alloc (by omega) _).trans (b2.mono (by simp; omega))
    have s2 : w1.heap.size < w2.heap.size := by have := b2.size; simp at this; omega
    obtain ⟨d0, d1, d2, d3⟩ := cells4 k2
    replace k2 := hid k2
    clear b1 b2 b0
    go_wp2_with fail
    refine (good_any B 10 1 20 _).mono ?_
    rintro e w3 ⟨rfl, b3⟩
    rw [v1.out]
    have k3 : w3.heap[w1.heap.size]? = _ := (b3.block _ s2).trans k2.out
    have c3 := c2.trans (b3.mono c2.size)
    have s3 : w1.heap.size < w3.heap.size := by have := b3.size; omega
    clear d0 d1 d2 d3 b3 c2 k2
    obtain ⟨d0, d1, d2, d3⟩ := cells4 k3
    replace k3 := hid k3
    go_wp2_with fail
    refine (good_any B 10 1 20 _).mono ?_
    rintro e w4 ⟨rfl, b4⟩
    rw [v1.out]
    have k4 : w4.heap[w1.heap.size]? = _ := (b4.block _ s3).trans k3.out
    have c4 := c3.trans (b4.mono c3.size)
    clear d0 d1 d2 d3 b4 c3 k3
    obtain ⟨d0, d1, d2, d3⟩ := cells4 k4
    replace k4 := hid k4
    go_wp2
    go_ret
    exact ⟨rfl, c4⟩
  · have v0 : goodG B 10 1 20 = false := by rw [good_plain]; simpa using hg
    have v1 := hid v0
    have v3 := hid (show dataF B 10 1 20 = 0 from if_neg (by rw [v0]; simp))
    have v4 := hid (show dataN B 10 1 20 = 0 from if_neg (by rw [v0]; simp))
    clear v0
    have parts : B < 64 ∨ (64 ≤ B ∧ (!decide (B ≤ 1024)) = true) := by simp; omega
    clear hg
    rcases parts with g | ⟨g, g'⟩
    all_goals
      go_enter Try.func7, Try.ntmps7
      go_wp2_with fail
      refine (geomAwake _).mono ?_
      rintro e w0 ⟨rfl, b0⟩
      go_wp2_with fail
      refine (plain_any B _).mono ?_
      rintro e w1 ⟨rfl, b1⟩
      have z0 := b0.size
      have z1 := b1.size
      go_wp2_with fail
      refine (data_any B 10 1 20 _).mono ?_
      rintro e w2 ⟨rfl, b2⟩
      rw [v3.out, v4.out]
      have k2 : w2.heap[w1.heap.size]? = some (.cells #[.int .i64 B, .int .i64 10, .int .i64 1, .int .i64 20] 25 (0, 0)) := (b2.block _ (by simp)).trans (blk_new _ _)
      have c2 : Below w.heap.size w w2 := ((b0.trans (b1.mono z0)).alloc (by omega) _).trans (b2.mono (by simp; omega))
      have s2 : w1.heap.size < w2.heap.size := by have := b2.size; simp at this; omega
      obtain ⟨d0, d1, d2, d3⟩ := cells4 k2
      replace k2 := hid k2
      clear b1 b2 b0
      go_wp2_with fail
      refine (good_any B 10 1 20 _).mono ?_
      rintro e w3 ⟨rfl, b3⟩
      rw [v1.out]
      have k3 : w3.heap[w1.heap.size]? = _ := (b3.block _ s2).trans k2.out
      have c3 := c2.trans (b3.mono c2.size)
      have s3 : w1.heap.size < w3.heap.size := by have := b3.size; omega
      clear d0 d1 d2 d3 b3 c2 k2
      obtain ⟨d0, d1, d2, d3⟩ := cells4 k3
      replace k3 := hid k3
      go_wp2_with fail
      refine (good_any B 10 1 20 _).mono ?_
      rintro e w4 ⟨rfl, b4⟩
      rw [v1.out]
      have k4 : w4.heap[w1.heap.size]? = _ := (b4.block _ s3).trans k3.out
      have c4 := c3.trans (b4.mono c3.size)
      clear d0 d1 d2 d3 b4 c3 k3
      obtain ⟨d0, d1, d2, d3⟩ := cells4 k4
      replace k4 := hid k4
      go_wp2
      go_ret
      exact ⟨rfl, c4⟩
end Go.Proofs.Ytlkkpjiclgpimaa

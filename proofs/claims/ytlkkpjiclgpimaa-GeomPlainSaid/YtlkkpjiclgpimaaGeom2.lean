import Derived.Test.YtlkkpjiclgpimaaGeom
import Derived.Test.YtlkkpjiclgpimaaBox
namespace Go.Proofs.Ytlkkpjiclgpimaa
open Go.ChangeShapes Go.WideShapes Go.ChangeAt Go.RowKit
attribute [local go_sem] lay_f0 lay_f1 lay_f2 lay_f3 lay_f4 part_f0 part_f1

def zeroLay : Value := .agg #[.int .i64 0, .int .i64 0, .int .i64 0, .int .i64 0, .int .i64 0, .int .i64 0, .int .i64 0, .int .i64 0, .int .i64 0, .int .i64 0]
set_option maxRecDepth 100000 in
set_option maxHeartbeats 800000 in
theorem whole_yes (B N C K : Int) (w : World) (hg : goodG B N C K = true) :
    Calls Try.prog 73 #[gV B N C K] w fun e w' => e = .returned (layV B N C K) ∧ Below w.heap.size w w' := by
  obtain ⟨hB, hN, hC, hK, _⟩ := (good_iff B N C K).1 hg
  replace hg := hid hg
  go_enter Try.func73, Try.ntmps73
  go_wp2_with fail
  refine (good_any B N C K _).mono ?_
  rintro e w1 ⟨rfl, hb⟩
  rw [hg.out]
  have b0 : w1.heap[w.heap.size]? = some (.cells #[.int .i64 B, .int .i64 N, .int .i64 C, .int .i64 K] 25 (0, 0)) :=
    (hb.block _ (by simp <;> omega)).trans ((blk_old _ _ _ (by simp)).trans (blk_new _ _))
  have z1 : w1.heap[w.heap.size + 1]? = some (.cells #[.int .i64 0, .int .i64 0, .int .i64 0, .int .i64 0, .int .i64 0, .int .i64 0, .int .i64 0, .int .i64 0, .int .i64 0, .int .i64 0] 104 (0, 0)) :=
    (hb.block _ (by simp <;> omega)).trans (blk_at _ _ _ (by simp))
  obtain ⟨c0, c1, c2, c3⟩ := cells4 b0
  have hb1 : Below w.heap.size w w1 := (((Below.refl _ _).alloc (Nat.le_refl _) _).alloc (by simp) _).trans (hb.mono (by simp; omega))
  have sz : w.heap.size + 2 ≤ w1.heap.size := by have := hb.size; simp at this; omega
  replace b0 := hid b0
  replace z1 := hid z1
  go_wp2_with fail
  refine (lay_any B N C K hB hN hC hK _).mono ?_
  rintro e w2 ⟨rfl, hb2⟩
  have z2 : w2.heap[w.heap.size + 1]? = _ := (hb2.block _ (by omega)).trans z1.out
  obtain ⟨⟨d0, d1, d2, d3, d4⟩, d5, d6, d7, d8, d9⟩ := cells10 z2
  have f0 := blk_frozen z2
  replace z2 := hid z2
  clear c0 c1 c2 c3
  unfold layV
  go_wp2
  refine bodyPost_ret (v := layV B N C K) (results_cell_row Try.results73 _ _ (w.heap.size + 1) 104 _ (0, 0) _ rfl (set10 z2.out _ _ _ _ _ _ _ _ _ _) Try.underlying104 rfl (by kernel_rfl)) rfl ⟨rfl, ?_⟩
  have hb3 : Below w.heap.size w w2 := hb1.trans (hb2.mono (by omega))
  iterate 10 refine Below.setCell ?_ (Nat.le_succ _) _
  exact hb3
set_option maxHeartbeats 800000 in
set_option maxRecDepth 100000 in
theorem whole_no (B N C K : Int) (w : World) (hg : goodG B N C K = false) :
    Calls Try.prog 73 #[gV B N C K] w fun e w' => e = .returned zeroLay ∧ Below w.heap.size w w' := by
  replace hg := hid hg
  go_enter Try.func73, Try.ntmps73
  go_wp2_with fail
  refine (good_any B N C K _).mono ?_
  rintro e w1 ⟨rfl, hb⟩
  rw [hg.out]
  have z1 : w1.heap[w.heap.size + 1]? = some (.cells #[.int .i64 0, .int .i64 0, .int .i64 0, .int .i64 0, .int .i64 0, .int .i64 0, .int .i64 0, .int .i64 0, .int .i64 0, .int .i64 0] 104 (0, 0)) :=
    (hb.block _ (by simp <;> omega)).trans (blk_at _ _ _ (by simp))
  have hb1 : Below w.heap.size w w1 := (((Below.refl _ _).alloc (Nat.le_refl _) _).alloc (by simp) _).trans (hb.mono (by simp; omega))
  obtain ⟨⟨d0, d1, d2, d3, d4⟩, d5, d6, d7, d8, d9⟩ := cells10 z1
  have f0 := blk_frozen z1
  replace z1 := hid z1
  go_wp2
  refine bodyPost_ret (v := zeroLay) (results_cell_row Try.results73 _ _ (w.heap.size + 1) 104 _ (0, 0) _ rfl (set10 z1.out _ _ _ _ _ _ _ _ _ _) Try.underlying104 rfl (by kernel_rfl)) rfl ⟨rfl, ?_⟩
  iterate 10 refine Below.setCell ?_ (Nat.le_succ _) _
  exact hb1
/-- where the parts stand, of any numbers. -/
def bitsF (B N C K : Int) : Int := if goodG B N C K then 1 + C * K else 0
def bitsN (B N C K : Int) : Int := if goodG B N C K then (B + 511) / 512 else 0
def lostF (B N C K : Int) : Int := if goodG B N C K then 1 + C * K + (B + 511) / 512 + N else 0
def lostN (B N C K : Int) : Int := if goodG B N C K then N else 0
def dataF (B N C K : Int) : Int := if goodG B N C K then datF B N C K else 0
def dataN (B N C K : Int) : Int := if goodG B N C K then datN B N C K else 0
def backG (B N C K : Int) : Int := if goodG B N C K then B - 1 else 0
set_option maxRecDepth 100000 in
theorem bits_any (B N C K : Int) (w : World) :
    Calls Try.prog 28 #[gV B N C K] w fun e w' => e = .returned (.tuple #[.int .i64 (bitsF B N C K), .int .i64 (bitsN B N C K)]) ∧ Below w.heap.size w w' := by
  by_cases hg : goodG B N C K = true
  · have e1 := hid (show bitsF B N C K = _ from if_pos hg)
    have e2 := hid (show bitsN B N C K = _ from if_pos hg)
    have hw := fun W => whole_yes B N C K W hg
    replace hw := hid hw
    clear hg
    rw [e1.out, e2.out]
    skip
    clear e1 e2
    go_enter Try.func28, Try.ntmps28
    go_wp2_with fail
    refine (hw.out _).mono ?_
    rintro e w1 ⟨rfl, hb⟩
    have hb1 : Below w.heap.size w w1 := ((Below.refl _ _).alloc (Nat.le_refl _) _).trans (hb.mono (by simp))
    unfold layV
    go_wp2
    go_quiet (fail)
    go_wp2
    go_ret2
    exact ⟨rfl, (hb1.alloc hb1.size _).trans (Quiet.mk.below _)⟩
  · have hg' : goodG B N C K = false := by simpa using hg
    have e1 := hid (show bitsF B N C K = _ from if_neg hg)
    have e2 := hid (show bitsN B N C K = _ from if_neg hg)
    have hw := fun W => whole_no B N C K W hg'
    replace hw := hid hw
    clear hg hg'
    rw [e1.out, e2.out]
    clear e1 e2
    go_enter Try.func28, Try.ntmps28
    go_wp2_with fail
    refine (hw.out _).mono ?_
    rintro e w1 ⟨rfl, hb⟩
    have hb1 : Below w.heap.size w w1 := ((Below.refl _ _).alloc (Nat.le_refl _) _).trans (hb.mono (by simp))
    unfold zeroLay
    go_wp2
    go_quiet (fail)
    go_wp2
    go_ret2
    exact ⟨rfl, (hb1.alloc hb1.size _).trans (Quiet.mk.below _)⟩
set_option maxRecDepth 100000 in
theorem lost_any (B N C K : Int) (w : World) :
    Calls Try.prog 29 #[gV B N C K] w fun e w' => e = .returned (.tuple #[.int .i64 (lostF B N C K), .int .i64 (lostN B N C K)]) ∧ Below w.heap.size w w' := by
  by_cases hg : goodG B N C K = true
  · have e1 := hid (show lostF B N C K = _ from if_pos hg)
    have e2 := hid (show lostN B N C K = _ from if_pos hg)
    have hw := fun W => whole_yes B N C K W hg
    replace hw := hid hw
    clear hg
    rw [e1.out, e2.out]
    skip
    clear e1 e2
    go_enter Try.func29, Try.ntmps29
    go_wp2_with fail
    refine (hw.out _).mono ?_
    rintro e w1 ⟨rfl, hb⟩
    have hb1 : Below w.heap.size w w1 := ((Below.refl _ _).alloc (Nat.le_refl _) _).trans (hb.mono (by simp))
    unfold layV
    go_wp2
    go_quiet (fail)
    go_wp2
    go_ret2
    exact ⟨rfl, (hb1.alloc hb1.size _).trans (Quiet.mk.below _)⟩
  · have hg' : goodG B N C K = false := by simpa using hg
    have e1 := hid (show lostF B N C K = _ from if_neg hg)
    have e2 := hid (show lostN B N C K = _ from if_neg hg)
    have hw := fun W => whole_no B N C K W hg'
    replace hw := hid hw
    clear hg hg'
    rw [e1.out, e2.out]
    clear e1 e2
    go_enter Try.func29, Try.ntmps29
    go_wp2_with fail
    refine (hw.out _).mono ?_
    rintro e w1 ⟨rfl, hb⟩
    have hb1 : Below w.heap.size w w1 := ((Below.refl _ _).alloc (Nat.le_refl _) _).trans (hb.mono (by simp))
    unfold zeroLay
    go_wp2
    go_quiet (fail)
    go_wp2
    go_ret2
    exact ⟨rfl, (hb1.alloc hb1.size _).trans (Quiet.mk.below _)⟩
set_option maxRecDepth 100000 in
theorem data_any (B N C K : Int) (w : World) :
    Calls Try.prog 34 #[gV B N C K] w fun e w' => e = .returned (.tuple #[.int .i64 (dataF B N C K), .int .i64 (dataN B N C K)]) ∧ Below w.heap.size w w' := by
  by_cases hg : goodG B N C K = true
  · have e1 := hid (show dataF B N C K = _ from if_pos hg)
    have e2 := hid (show dataN B N C K = _ from if_pos hg)
    have hw := fun W => whole_yes B N C K W hg
    replace hw := hid hw
    clear hg
    rw [e1.out, e2.out]
    unfold datN datF
    clear e1 e2
    go_enter Try.func34, Try.ntmps34
    go_wp2_with fail
    refine (hw.out _).mono ?_
    rintro e w1 ⟨rfl, hb⟩
    have hb1 : Below w.heap.size w w1 := ((Below.refl _ _).alloc (Nat.le_refl _) _).trans (hb.mono (by simp))
    unfold layV
    go_wp2
    go_quiet (fail)
    go_wp2
    go_ret2
    exact ⟨rfl, (hb1.alloc hb1.size _).trans (Quiet.mk.below _)⟩
  · have hg' : goodG B N C K = false := by simpa using hg
    have e1 := hid (show dataF B N C K = _ from if_neg hg)
    have e2 := hid (show dataN B N C K = _ from if_neg hg)
    have hw := fun W => whole_no B N C K W hg'
    replace hw := hid hw
    clear hg hg'
    rw [e1.out, e2.out]
    clear e1 e2
    go_enter Try.func34, Try.ntmps34
    go_wp2_with fail
    refine (hw.out _).mono ?_
    rintro e w1 ⟨rfl, hb⟩
    have hb1 : Below w.heap.size w w1 := ((Below.refl _ _).alloc (Nat.le_refl _) _).trans (hb.mono (by simp))
    unfold zeroLay
    go_wp2
    go_quiet (fail)
    go_wp2
    go_ret2
    exact ⟨rfl, (hb1.alloc hb1.size _).trans (Quiet.mk.below _)⟩
end Go.Proofs.Ytlkkpjiclgpimaa

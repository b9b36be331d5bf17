/-
  The walk of NodeLong: how many blocks a file needs.
-/
import Derived.Test.YtnlnbalihahfoaaRows
import Derived.Test.YtnlnbalihahfoaaOwn
import Derived.Test.YtnlnbalihahfoaaEq
import Derived.Deep.QuietTactic
import Derived.BigQuiet
import Derived.Deep.RegionHeld3
import Derived.Outline
import Derived.IntWalk
namespace Go.Proofs.Ytnlnbalihahfoaa
open Go.ChangeShapes Go.WideShapes Go.ChangeAt Go.RowKit
theorem namesOk8 : Ev.namesOk Try.prog = true := by kernel_rfl
theorem mixes8 : Try.prog.follows .mixedOrders = true := by kernel_rfl
theorem ran8 : Ev.yesQ Try.prog 100000 4 = true := by kernel_rfl
theorem nodeAwake (W : World) : Calls Try.prog 4 #[] W fun e W' => e = .returned (.bool true) ∧ Below W.heap.size W W' := Ev.yesQ_ok namesOk8 mixes8 ran8 W
/-- how many blocks so many bytes take -/
def needF (S : Int) : Int := (S + 63) / 64
theorem needs_file (S : Int) (h0 : 0 ≤ S) (h1 : S ≤ 1073741825) (w : World) :
    Calls Try.prog 5 #[.agg #[.int .i64 1, .int .i64 0, .int .i64 S, .slice none 0 0]] w fun e w' => e = .returned (.int .i64 (needF S)) ∧ Below w.heap.size w w' := by
  have e1 : IntKind.i64.wrap (S.tdiv 64) = S / 64 := IntWalk.i64_quo _ _ (by omega)
  have e2 : S.tmod 64 = S % 64 := Int.tmod_eq_emod_of_nonneg (by omega)
  have e3 : IntKind.i64.wrap (S / 64 + 1) = S / 64 + 1 := IntWalk.i64_in _ (by omega)
  by_cases hq : S % 64 = 0
  · have h := hid (show S / 64 = needF S by unfold needF; omega)
    go_enter Try.func5, Try.ntmps5
    go_wp2
    go_ret
    exact ⟨by rw [h.out]; rfl, (Below.refl _ _).alloc (Nat.le_refl _) _⟩
  · have h := hid (show S / 64 + 1 = needF S by unfold needF; omega)
    go_enter Try.func5, Try.ntmps5
    go_wp2
    go_ret
    exact ⟨by rw [h.out]; rfl, (Below.refl _ _).alloc (Nat.le_refl _) _⟩
theorem needs_link (S : Int) (h0 : 0 ≤ S) (h1 : S ≤ 1073741825) (w : World) :
    Calls Try.prog 5 #[.agg #[.int .i64 3, .int .i64 0, .int .i64 S, .slice none 0 0]] w fun e w' => e = .returned (.int .i64 (needF S)) ∧ Below w.heap.size w w' := by
  have e1 : IntKind.i64.wrap (S.tdiv 64) = S / 64 := IntWalk.i64_quo _ _ (by omega)
  have e2 : S.tmod 64 = S % 64 := Int.tmod_eq_emod_of_nonneg (by omega)
  have e3 : IntKind.i64.wrap (S / 64 + 1) = S / 64 + 1 := IntWalk.i64_in _ (by omega)
  by_cases hq : S % 64 = 0
  · have h := hid (show S / 64 = needF S by unfold needF; omega)
    go_enter Try.func5, Try.ntmps5
    go_wp2
    go_ret
    exact ⟨by rw [h.out]; rfl, (Below.refl _ _).alloc (Nat.le_refl _) _⟩
  · have h := hid (show S / 64 + 1 = needF S by unfold needF; omega)
    go_enter Try.func5, Try.ntmps5
    go_wp2
    go_ret
    exact ⟨by rw [h.out]; rfl, (Below.refl _ _).alloc (Nat.le_refl _) _⟩
theorem needs_dir (S : Int) (h0 : 0 ≤ S) (w : World) :
    Calls Try.prog 5 #[.agg #[.int .i64 2, .int .i64 0, .int .i64 S, .slice none 0 0]] w fun e w' => e = .returned (.int .i64 S) ∧ Below w.heap.size w w' := by
  go_enter Try.func5, Try.ntmps5
  go_wp2
  go_ret
  exact ⟨rfl, (Below.refl _ _).alloc (Nat.le_refl _) _⟩
set_option maxHeartbeats 1600000 in
theorem w_NodeLong (S : Int) (w : World) (hB : -9223372036854775808 ≤ S ∧ S ≤ 9223372036854775807) :
    Calls Try.prog 3 #[.int .i64 S] w fun e w' => e = .returned (.bool true) ∧ Below w.heap.size w w' := by
  by_cases g1 : S < 0
  · clear hB
    go_enter Try.func3, Try.ntmps3
    go_wp2_with fail
    refine (nodeAwake _).mono ?_
    rintro e w0 ⟨rfl, b0⟩
    go_wp2
    go_ret
    exact ⟨rfl, b0⟩
  · have g1' : 0 ≤ S := by omega
    by_cases g2 : S ≤ 1073741824
    · have k0 : IntKind.i64.wrap (S + 1) = S + 1 := IntWalk.i64_in _ (by omega)
      have k1 : IntKind.i64.wrap (S + 64) = S + 64 := IntWalk.i64_in _ (by omega)
      have q1 : 64 * needF S ≥ S := by unfold needF; omega
      have q2 : 64 * needF S < S + 64 := by unfold needF; omega
      have q3 : needF (S + 1) = needF S ∨ needF (S + 1) = needF S + 1 := by unfold needF; omega
      have q4 : 0 ≤ needF S ∧ needF S ≤ 16777217 := by unfold needF; omega
      have k2 : IntKind.i64.wrap (64 * needF S) = 64 * needF S := IntWalk.i64_in _ (by omega)
      have k3 : IntKind.i64.wrap (needF S + 1) = needF S + 1 := IntWalk.i64_in _ (by omega)
      clear hB g1
      have c1 := fun w => needs_file S g1' (by omega) w
      have c2 := fun w => needs_file (S + 1) (by omega) (by omega) w
      have c3 := fun w => needs_link S g1' (by omega) w
      have c4 := fun w => needs_dir S g1' w
      clear q4
      rcases q3 with q3 | q3
      · rw [q3] at c2
        clear q3
        generalize needF S = n at *
        go_enter Try.func3, Try.ntmps3
        go_wp2_with fail
        refine (nodeAwake _).mono ?_
        rintro e w0 ⟨rfl, b0⟩
        go_wp2_with fail
        refine (c1 _).mono ?_
        rintro e w1 ⟨rfl, b1⟩
        go_wp2_with fail
        refine (c2 _).mono ?_
        rintro e w2 ⟨rfl, b2⟩
        go_wp2_with fail
        refine (c3 _).mono ?_
        rintro e w3 ⟨rfl, b3⟩
        go_wp2_with fail
        refine (c4 _).mono ?_
        rintro e w4 ⟨rfl, b4⟩
        go_wp2
        go_ret
        have z0 := b0.size
        have z1 := b1.size
        have z2 := b2.size
        have z3 := b3.size
        exact ⟨rfl, (((b0.trans (b1.mono z0)).trans (b2.mono (by omega))).trans (b3.mono (by omega))).trans (b4.mono (by omega))⟩
      · rw [q3] at c2
        clear q3
        generalize needF S = n at *
        have hne : ¬ (n + 1 = n) := by omega
        go_enter Try.func3, Try.ntmps3
        go_wp2_with fail
        refine (nodeAwake _).mono ?_
        rintro e w0 ⟨rfl, b0⟩
        go_wp2_with fail
        refine (c1 _).mono ?_
        rintro e w1 ⟨rfl, b1⟩
        go_wp2_with fail
        refine (c2 _).mono ?_
        rintro e w2 ⟨rfl, b2⟩
        go_wp2_with fail
        refine (c3 _).mono ?_
        rintro e w3 ⟨rfl, b3⟩
        go_wp2_with fail
        refine (c4 _).mono ?_
        rintro e w4 ⟨rfl, b4⟩
        go_wp2
        go_ret
        have z0 := b0.size
        have z1 := b1.size
        have z2 := b2.size
        have z3 := b3.size
        exact ⟨rfl, (((b0.trans (b1.mono z0)).trans (b2.mono (by omega))).trans (b3.mono (by omega))).trans (b4.mono (by omega))⟩
    · have g3 : 1073741824 < S := by omega
      clear hB g1 g2
      go_enter Try.func3, Try.ntmps3
      go_wp2_with fail
      refine (nodeAwake _).mono ?_
      rintro e w0 ⟨rfl, b0⟩
      go_wp2
      go_ret
      exact ⟨rfl, b0⟩
end Go.Proofs.Ytnlnbalihahfoaa

/-
  CONTRACTS of package geom.
-/
import Derived.Test.YtlkkpjiclgpimaaRows
import Derived.Test.YtlkkpjiclgpimaaOwn
import Derived.Deep.QuietTactic
import Derived.BigQuiet
import Derived.Deep.RegionHeld3
import Derived.Outline
import Derived.IntWalk
namespace Go.Proofs.Ytlkkpjiclgpimaa
open Go.ChangeShapes Go.WideShapes Go.ChangeAt Go.RowKit

/-- from a to b. -/
def btw (n a b : Int) : Bool := decide (a ≤ n ∧ n ≤ b)
theorem between_any (n a b : Int) (w : World) :
    Calls Try.prog 71 #[.int .i64 n, .int .i64 a, .int .i64 b] w fun e w' => e = .returned (.bool (btw n a b)) ∧ w = w' := by
  by_cases h1 : a ≤ n
  · by_cases h2 : n ≤ b
    · have h := hid (show btw n a b = true by simp [btw]; omega)
      go_enter Try.func71, Try.ntmps71
      go_wp2
      go_ret
      exact ⟨by rw [h.out]; rfl, rfl⟩
    · have h := hid (show btw n a b = false by simp [btw]; omega)
      go_enter Try.func71, Try.ntmps71
      go_wp2
      go_ret
      exact ⟨by rw [h.out]; rfl, rfl⟩
  · have h := hid (show btw n a b = false by simp [btw]; omega)
    go_enter Try.func71, Try.ntmps71
    go_wp2
    go_ret
    exact ⟨by rw [h.out]; rfl, rfl⟩
theorem end_any (a b : Int) (h0 : 0 ≤ a) (h1 : a ≤ 100000) (h2 : 0 ≤ b) (h3 : b ≤ 100000) (w : World) :
    Calls Try.prog 94 #[.agg #[.int .i64 a, .int .i64 b]] w fun e w' => e = .returned (.int .i64 (a + b)) ∧ w.alloc (.cells #[.int .i64 a, .int .i64 b] 102) = w' := by
  go_enter Try.func94, Try.ntmps94
  go_wp2
  go_ret
  exact ⟨rfl, rfl⟩
def layV (B N C K : Int) : Value := .agg #[.int .i64 1, .int .i64 (C * K), .int .i64 (1 + C * K), .int .i64 ((B + 511) / 512), .int .i64 (1 + C * K + (B + 511) / 512), .int .i64 N, .int .i64 (1 + C * K + (B + 511) / 512 + N), .int .i64 N,
  .int .i64 (1 + C * K + (B + 511) / 512 + N + N), .int .i64 (B - 1 - (1 + C * K + (B + 511) / 512 + N + N))]
theorem lay_any (B N C K : Int) (hB : 64 ≤ B ∧ B ≤ 1024) (hN : 4 ≤ N ∧ N ≤ 64) (hC : 1 ≤ C ∧ C ≤ 8) (hK : 16 ≤ K ∧ K ≤ 110) (w : World) :
    Calls Try.prog 72 #[.agg #[.int .i64 B, .int .i64 N, .int .i64 C, .int .i64 K]] w fun e w' => e = .returned (layV B N C K) ∧ Below w.heap.size w w' := by
  unfold layV
  have hCK : 16 ≤ C * K ∧ C * K ≤ 880 := by
    constructor
    · exact Int.le_trans (show (16 : Int) ≤ 1 * 16 by omega) (Int.mul_le_mul hC.1 hK.1 (by omega) (by omega))
    · exact Int.le_trans (Int.mul_le_mul hC.2 hK.2 (by omega) (by omega)) (show (8 : Int) * 110 ≤ 880 by omega)
  have e1 : IntKind.i64.wrap (B + 512) = B + 512 := IntWalk.i64_in _ (by omega)
  have e2 : IntKind.i64.wrap (B + 512 - 1) = B + 511 := by rw [IntWalk.i64_in _ (by omega)]; omega
  have e3 : IntKind.i64.wrap ((B + 511).tdiv 512) = (B + 511) / 512 := IntWalk.i64_quo _ _ (by omega)
  have hbb : 1 ≤ (B + 511) / 512 ∧ (B + 511) / 512 ≤ 2 := by omega
  generalize hq : (B + 511) / 512 = q at *
  clear hq
  go_enter Try.func72, Try.ntmps72
  go_wp2
  go_region_held3 (fun w' => w'.cell? ⟨w.heap.size, 0, none⟩ = some (.int .i64 B) ∧ w'.cell? ⟨w.heap.size + 1 + 1, 0, none⟩ = some (.int .i64 1) ∧ w'.cell? ⟨w.heap.size + 1 + 1, 1, none⟩ = some (.int .i64 (C * K))) ((refine ⟨?_, ?_, ?_⟩ <;> go_simp))
    (first | (go_at_call 94; refine (end_any _ _ ?_ ?_ ?_ ?_ _).mono ?_; (all_goals try omega); rintro e w' ⟨rfl, rfl⟩))
  clear e1 e2 e3
  go_wp2
  go_region_held3 (fun w' => w'.cell? ⟨w.heap.size, 1, none⟩ = some (.int .i64 N) ∧ w'.cell? ⟨w.heap.size + 1 + 1, 2, none⟩ = some (.int .i64 (1 + C * K)) ∧ w'.cell? ⟨w.heap.size + 1 + 1, 3, none⟩ = some (.int .i64 q)) ((refine ⟨?_, ?_, ?_⟩ <;> go_simp))
    (first | (go_at_call 94; refine (end_any _ _ ?_ ?_ ?_ ?_ _).mono ?_; (all_goals try omega); rintro e w' ⟨rfl, rfl⟩))
  go_wp2
  go_region_held3 (fun w' => w'.cell? ⟨w.heap.size, 1, none⟩ = some (.int .i64 N) ∧ w'.cell? ⟨w.heap.size + 1 + 1, 4, none⟩ = some (.int .i64 (1 + C * K + q)) ∧ w'.cell? ⟨w.heap.size + 1 + 1, 5, none⟩ = some (.int .i64 N)) ((refine ⟨?_, ?_, ?_⟩ <;> go_simp))
    (first | (go_at_call 94; refine (end_any _ _ ?_ ?_ ?_ ?_ _).mono ?_; (all_goals try omega); rintro e w' ⟨rfl, rfl⟩))
  go_wp2
  have e4 : IntKind.i64.wrap (B - 1) = B - 1 := IntWalk.i64_in _ (by omega)
  have e5 : IntKind.i64.wrap (B - 1 - (1 + C * K + q + N + N)) = B - 1 - (1 + C * K + q + N + N) := IntWalk.i64_in _ (by omega)
  go_region_held3 (fun w' => w'.cell? ⟨w.heap.size, 0, none⟩ = some (.int .i64 B) ∧ w'.cell? ⟨w.heap.size + 1 + 1, 6, none⟩ = some (.int .i64 (1 + C * K + q + N)) ∧ w'.cell? ⟨w.heap.size + 1 + 1, 7, none⟩ = some (.int .i64 N)) ((refine ⟨?_, ?_, ?_⟩ <;> go_simp))
    (first | (go_at_call 94; refine (end_any _ _ ?_ ?_ ?_ ?_ _).mono ?_; (all_goals try omega); rintro e w' ⟨rfl, rfl⟩))
  go_wp2
  refine bodyPost_ret (v := .agg #[.int .i64 1, .int .i64 (C * K), .int .i64 (1 + C * K), .int .i64 q, .int .i64 (1 + C * K + q), .int .i64 N, .int .i64 (1 + C * K + q + N), .int .i64 N, .int .i64 (1 + C * K + q + N + N), .int .i64 (B - 1 - (1 + C * K + q + N + N))]) (by simp [results, Try.results72, go_sem]) rfl ⟨rfl, ?_⟩
  repeat (first | exact Below.refl _ _ | (refine Below.drew ?_) | (refine Below.alloc ?_ (by simp <;> omega) _))
/-- a geometry. -/
abbrev gV (B N C K : Int) : Value := .agg #[.int .i64 B, .int .i64 N, .int .i64 C, .int .i64 K]
/-- where the data begin, how many. -/
def datF (B N C K : Int) : Int := 1 + C * K + (B + 511) / 512 + N + N
def datN (B N C K : Int) : Int := B - 1 - datF B N C K
def goodG (B N C K : Int) : Bool := btw B 64 1024 && btw N 4 64 && btw C 1 8 && btw K 16 110 && decide (1 ≤ datN B N C K)
theorem good_iff (B N C K : Int) : goodG B N C K = true ↔ (64 ≤ B ∧ B ≤ 1024) ∧ (4 ≤ N ∧ N ≤ 64) ∧ (1 ≤ C ∧ C ≤ 8) ∧ (16 ≤ K ∧ K ≤ 110) ∧ 1 ≤ datN B N C K := by
  simp [goodG, btw, and_assoc]
theorem good_no (B N C K : Int) (w : World) (hg : goodG B N C K = false) (h1 : btw B 64 1024 = false ∨ (btw B 64 1024 = true ∧ btw N 4 64 = false) ∨ (btw B 64 1024 = true ∧ btw N 4 64 = true ∧ btw C 1 8 = false) ∨ (btw B 64 1024 = true ∧ btw N 4 64 = true ∧ btw C 1 8 = true ∧ btw K 16 110 = false)) :
    Calls Try.prog 24 #[gV B N C K] w fun e w' => e = .returned (.bool (goodG B N C K)) ∧ Below w.heap.size w w' := by
  rw [hg]
  clear hg
  rcases h1 with h1 | ⟨h1, h2⟩ | ⟨h1, h2, h3⟩ | ⟨h1, h2, h3, h4⟩
  all_goals
    go_enter Try.func24, Try.ntmps24
    go_wp2_with (go_at_call 71; refine (between_any _ _ _ _).mono ?_; rintro e w' ⟨rfl, rfl⟩)
    go_ret
    exact ⟨rfl, (Below.refl _ _).alloc (Nat.le_refl _) _⟩
section
variable (x0 x1 x2 x3 x4 x5 x6 x7 x8 x9 : Int) (w : World)
theorem lay_f0 : (Instr.field 104 (.agg #[.int .i64 x0, .int .i64 x1, .int .i64 x2, .int .i64 x3, .int .i64 x4, .int .i64 x5, .int .i64 x6, .int .i64 x7, .int .i64 x8, .int .i64 x9]) 0).run Try.prog w = .ok (.agg #[.int .i64 x0, .int .i64 x1]) w := by kernel_rfl
theorem lay_f1 : (Instr.field 104 (.agg #[.int .i64 x0, .int .i64 x1, .int .i64 x2, .int .i64 x3, .int .i64 x4, .int .i64 x5, .int .i64 x6, .int .i64 x7, .int .i64 x8, .int .i64 x9]) 1).run Try.prog w = .ok (.agg #[.int .i64 x2, .int .i64 x3]) w := by kernel_rfl
theorem lay_f2 : (Instr.field 104 (.agg #[.int .i64 x0, .int .i64 x1, .int .i64 x2, .int .i64 x3, .int .i64 x4, .int .i64 x5, .int .i64 x6, .int .i64 x7, .int .i64 x8, .int .i64 x9]) 2).run Try.prog w = .ok (.agg #[.int .i64 x4, .int .i64 x5]) w := by kernel_rfl
theorem lay_f3 : (Instr.field 104 (.agg #[.int .i64 x0, .int .i64 x1, .int .i64 x2, .int .i64 x3, .int .i64 x4, .int .i64 x5, .int .i64 x6, .int .i64 x7, .int .i64 x8, .int .i64 x9]) 3).run Try.prog w = .ok (.agg #[.int .i64 x6, .int .i64 x7]) w := by kernel_rfl
theorem lay_f4 : (Instr.field 104 (.agg #[.int .i64 x0, .int .i64 x1, .int .i64 x2, .int .i64 x3, .int .i64 x4, .int .i64 x5, .int .i64 x6, .int .i64 x7, .int .i64 x8, .int .i64 x9]) 4).run Try.prog w = .ok (.agg #[.int .i64 x8, .int .i64 x9]) w := by kernel_rfl
theorem part_f0 : (Instr.field 102 (.agg #[.int .i64 x0, .int .i64 x1]) 0).run Try.prog w = .ok (.int .i64 x0) w := by kernel_rfl
theorem part_f1 : (Instr.field 102 (.agg #[.int .i64 x0, .int .i64 x1]) 1).run Try.prog w = .ok (.int .i64 x1) w := by kernel_rfl
end
attribute [local go_sem] lay_f0 lay_f1 lay_f2 lay_f3 lay_f4 part_f0 part_f1
set_option maxRecDepth 100000 in
theorem good_yes (B N C K : Int) (w : World) (hB : 64 ≤ B ∧ B ≤ 1024) (hN : 4 ≤ N ∧ N ≤ 64) (hC : 1 ≤ C ∧ C ≤ 8) (hK : 16 ≤ K ∧ K ≤ 110) :
    Calls Try.prog 24 #[gV B N C K] w fun e w' => e = .returned (.bool (goodG B N C K)) ∧ Below w.heap.size w w' := by
  have b1 : btw B 64 1024 = true := by simp [btw]; omega
  have b2 : btw N 4 64 = true := by simp [btw]; omega
  have b3 : btw C 1 8 = true := by simp [btw]; omega
  have b4 : btw K 16 110 = true := by simp [btw]; omega
  have hg := hid (show goodG B N C K = decide (1 ≤ B - 1 - (1 + C * K + (B + 511) / 512 + N + N)) by simp only [goodG, b1, b2, b3, b4, Bool.true_and]; rfl)
  go_enter Try.func24, Try.ntmps24
  go_wp2_with (go_at_call 71; refine (between_any _ _ _ _).mono ?_; rintro e w' ⟨rfl, rfl⟩)
  refine (lay_any B N C K hB hN hC hK _).mono ?_
  rintro e w1 ⟨rfl, hb⟩
  unfold layV
  go_wp2
  go_ret
  exact ⟨by rw [hg.out]; rfl, ((Below.refl _ _).alloc (Nat.le_refl _) _).trans (hb.mono (by simp))⟩
theorem good_any (B N C K : Int) (w : World) :
    Calls Try.prog 24 #[gV B N C K] w fun e w' => e = .returned (.bool (goodG B N C K)) ∧ Below w.heap.size w w' := by
  by_cases b1 : btw B 64 1024 = true
  case neg => exact good_no B N C K w (by simp [goodG, b1]) (.inl (by simpa using b1))
  by_cases b2 : btw N 4 64 = true
  case neg => exact good_no B N C K w (by simp [goodG, b1, b2]) (.inr (.inl ⟨b1, by simpa using b2⟩))
  by_cases b3 : btw C 1 8 = true
  case neg => exact good_no B N C K w (by simp [goodG, b1, b2, b3]) (.inr (.inr (.inl ⟨b1, b2, by simpa using b3⟩)))
  by_cases b4 : btw K 16 110 = true
  case neg => exact good_no B N C K w (by simp [goodG, b1, b2, b3, b4]) (.inr (.inr (.inr ⟨b1, b2, b3, by simpa using b4⟩)))
  simp [btw] at b1 b2 b3 b4
  exact good_yes B N C K w b1 b2 b3 b4
end Go.Proofs.Ytlkkpjiclgpimaa

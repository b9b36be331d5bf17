/-
  The law CheckShow: its frame's facts (what the listed variables read as).
-/
import Derived.Test.YtlonobfpogimgaaGreatDoorCsK
import Derived.Test.YtlonobfpogimgaaGreatDoorRows
import Derived.MakeChecks
import Derived.OpenShut
set_option linter.unusedSimpArgs false
set_option linter.unusedVariables false
namespace Go.Proofs.YtlonobfpogimgaaGreatDoor
open Go Go.RowKit Ev
theorem tens_laid : (Rows.laid_internal_strconv_uint64pow10 : DataW Unit) = .agg (Ev.tens.map fun (n : Nat) => .lit (.int .u64 (n : Int))) := rfl
set_option maxRecDepth 20000 in
theorem kept_of_laid {W : World} (h : laidMetH Tryz.prog Rows.checkShowRow.laid W) : Kept W.heap.size W := by
  rw [MakeChecks.laidMetH_plain _ _ _ (by kernel_rfl)] at h
  obtain ⟨ps, hv, _, hfr⟩ := h
  obtain ⟨g1, t1, cs1, f1, p1, q1, _, _, _, _, hv1, rfl⟩ := hv
  obtain ⟨g2, t2, cs2, f2, p2, q2, _, _, _, _, hv2, rfl⟩ := hv1
  obtain ⟨g, t, cs, fuel, p, q, hg, ht, hvar, htr, _, rfl⟩ := hv2
  have hg0 : Tryz.prog.globalNamed "internal/strconv.uint64pow10" = some 0 := by kernel_rfl
  rw [hg0] at hg
  injection hg with hg
  subst hg
  have ht0 : (Tryz.prog.globals[0]?).map (·.type) = some 167 := by kernel_rfl
  rw [ht0] at ht
  injection ht with ht
  subst ht
  have hcells : Tryz.prog.cellsOf 47 = 1 := by kernel_rfl
  have hcell2 : Tryz.prog.cellsOf 167 = 20 := by kernel_rfl
  obtain ⟨xs, m, rfl, hx, hlen, hxl, hel⟩ := DataW.trod_array Tryz.underlying167 htr
  rw [hcells] at hel
  rw [hcell2] at hlen
  injection hx with hx1 hx2
  rw [tens_laid] at hx1
  injection hx1 with hx1
  have hcs : cs.toList = Ev.tens.map fun (n : Nat) => Value.int .u64 (n : Int) := by
    apply List.ext_getElem?
    intro i
    by_cases hi : i < 20
    · have h1 := hel i hi
      obtain ⟨x, hxi⟩ : ∃ x, xs[i]? = some x := ⟨_, List.getElem?_eq_getElem (by omega)⟩
      rw [hxi] at h1
      obtain ⟨n, e1, e2, _⟩ := DataW.trod_int Tryz.underlying47 h1
      have e3 : (Ev.tens.map fun (n : Nat) => (DataW.lit (.int .u64 (n : Int)) : DataW Unit))[i]? = some (.lit (.int .u64 n)) := by
        rw [hx1, List.getElem?_map, hxi, e2]; rfl
      rw [List.getElem?_map] at e3 ⊢
      have e4 : cs.toList[i]? = some (.int .u64 n) := by
        have := congrArg (fun l => l[0]?) e1
        simpa [List.getElem?_take, List.getElem?_drop] using this
      rw [e4]
      cases ht : Ev.tens[i]? with
      | none => rw [ht] at e3; cases e3
      | some k =>
        rw [ht] at e3
        simp only [Option.map_some, Option.some.injEq, DataW.lit.injEq, Lit.int.injEq, true_and] at e3
        simp [e3]
    · rw [List.getElem?_eq_none (by omega), List.getElem?_eq_none (by simpa [Ev.tens] using hi)]
  have hcs' : cs = ⟨Ev.tens.map fun (n : Nat) => Value.int .u64 (n : Int)⟩ := by
    apply Array.ext'
    exact hcs
  have hsz : cs.size = 20 := by rw [← Array.length_toList]; exact hlen
  have hmem : MemPlace.cell 0 0 ∈ MemPlace.row ⟨0, 0, none⟩ cs.size := by
    unfold MemPlace.row
    rw [hsz]
    exact List.mem_map.2 ⟨0, List.mem_range.2 (by omega), rfl⟩
  obtain ⟨⟨c, ty, hh⟩, _⟩ := hfr 0 0 (by simp only [List.mem_append]; exact .inr (.inr (.inl (.inl hmem))))
  have hv2 : W.var? Tryz.prog "internal/strconv.uint64pow10" = some c := by
    unfold World.var?
    rw [hg0]
    simp only [Option.bind_some, hh]
  rw [hvar] at hv2
  injection hv2 with hv2
  subst hv2
  intro pp hpp
  have : pp = (0, ⟨Ev.tens.map fun (n : Nat) => Value.int .u64 (n : Int)⟩) := by simpa [Ev.pins] using hpp
  subst this
  refine ⟨?_, ty, by rw [hh, hcs']⟩
  rcases Nat.lt_or_ge 0 W.heap.size with h | h
  · exact h
  · rw [Array.getElem?_eq_none h] at hh; cases hh
theorem rel_fd {ρ : Rho} (p k a m : Int) : Rel ρ (.g [.int .i64 p, .int .i64 k, .int .i64 a, .int .i64 m]) (.agg #[.int .i64 p, .int .i64 k, .int .i64 a, .int .i64 m]) := by
  simp only [Rel]
  exact ⟨[.int .i64 p, .int .i64 k, .int .i64 a, .int .i64 m], rfl, .cons (rel_int _ _) (.cons (rel_int _ _) (.cons (rel_int _ _) (.cons (rel_int _ _) .nil))), rfl⟩
theorem fin_bd {n : Int} (h : -9223372036854775808 ≤ n ∧ n ≤ 9223372036854775807) : fin64 n := ⟨h.1, by omega⟩
theorem w_CheckShow (p k a m p' k' a' m' : Int) (W : World) (hK : Kept W.heap.size W) (hp : -9223372036854775808 ≤ p ∧ p ≤ 9223372036854775807) (hk : -9223372036854775808 ≤ k ∧ k ≤ 9223372036854775807) (ha : -9223372036854775808 ≤ a ∧ a ≤ 9223372036854775807) (hm : -9223372036854775808 ≤ m ∧ m ≤ 9223372036854775807)
    (hp' : -9223372036854775808 ≤ p' ∧ p' ≤ 9223372036854775807) (hk' : -9223372036854775808 ≤ k' ∧ k' ≤ 9223372036854775807) (ha' : -9223372036854775808 ≤ a' ∧ a' ≤ 9223372036854775807) (hm' : -9223372036854775808 ≤ m' ∧ m' ≤ 9223372036854775807) :
    Calls Tryz.prog 3 #[.agg #[.int .i64 p, .int .i64 k, .int .i64 a, .int .i64 m], .agg #[.int .i64 p', .int .i64 k', .int .i64 a', .int .i64 m']] W fun e W' => e = .returned (.bool true) ∧ Below W.heap.size W W' :=
  law_calls csL_sound (Begin.zero W hK) (.cons (rel_fd p k a m) (.cons (rel_fd p' k' a' m') .nil)) (cs_any p k a m p' k' a' m' (fin_bd hp) (fin_bd hk) (fin_bd ha) (fin_bd hm) (fin_bd hp') (fin_bd hk') (fin_bd ha') (fin_bd hm'))
end Go.Proofs.YtlonobfpogimgaaGreatDoor

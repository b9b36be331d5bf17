/-
  The walk of SpanSubs.
-/
import Derived.Test.YtdoennkmcloalaaSp
set_option linter.unusedSimpArgs false
namespace Go.Proofs.Ytdoennkmcloalaa
open Go.RowKit Ev
/-- what was stored is there -/
theorem load_store {s : AS} {n i : Nat} (h : okS s n i) (hf : s.fuse < 1) {a : Int} (ha : 0 ≤ a ∧ a < 8 * n) (w : BitVec 64) : (s.store a w).load a = w ∧ (s.store a w).loadE a = 0 := by
  have hin : s.in8 a := ⟨ha.1, by rw [h.len]; omega⟩
  obtain ⟨m, hm⟩ := in8_get hin
  obtain ⟨e, _⟩ := AS.store_on (w := w) h.off hf hin
  have hlt := lt_of_get hm
  have hin2 : (s.store a w).in8 a := by
    rw [e]; exact ⟨hin.1, by show a / 8 < ((s.L.set _ _).length : Int); rw [List.length_set]; exact hin.2⟩
  have hoff : (s.store a w).off = false := by rw [e]; exact h.off
  have hnl := (h.ok m (List.mem_of_getElem? hm)).nl
  have hg : (s.store a w).L[(a / 8).toNat]? = some (m.store (a % 8) w) := by
    rw [e, hm]; show (s.L.set _ _)[_]? = _
    rw [List.getElem?_set_self hlt]; rfl
  have hst : m.store (a % 8) w = { m with N := m.N.set (a % 8).toNat w, O := m.O ++ [(a % 8, w)] } := by unfold LM.store; rw [if_pos ⟨by omega, by omega⟩]
  refine ⟨?_, by simp [AS.loadE, hoff, hin2]⟩
  unfold AS.load
  rw [if_neg (by rw [hoff]; simp), if_pos hin2, hg, hst]
  show (m.N.set (a % 8).toNat w)[(a % 8).toNat]?.getD 0#64 = w
  rw [List.getElem?_set_self (by omega)]; rfl
end Go.Proofs.Ytdoennkmcloalaa

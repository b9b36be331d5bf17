/-
  Contracts of package strings: Split.
-/
import Derived.Test.YtlonobfpogimgaaGreatDoorPaA
set_option linter.unusedSimpArgs false
namespace Go.Proofs.YtlonobfpogimgaaGreatDoor
open Go.RowKit Ev
def sv (L : List Tx) : List V := L.map V.s
@[simp] theorem sv_length (L : List Tx) : (sv L).length = L.length := by simp [sv]
theorem sv_get {L : List Tx} {i : Nat} {p : Tx} (h : L[i]? = some p) : (sv L)[i]? = some (.s p) := by unfold sv; rw [List.getElem?_map, h]; rfl
theorem sv_of {L : List Tx} {i : Nat} {v : V} (h : (sv L)[i]? = some v) : ∃ p, L[i]? = some p ∧ v = .s p := by
  unfold sv at h
  rw [List.getElem?_map] at h
  cases hp : L[i]? with
  | none => rw [hp] at h; simp at h
  | some p => rw [hp] at h; simp at h; exact ⟨p, rfl, h.symm⟩
/-- a part of what is left -/
theorem spl_cut {r : Tx} (h : 47 ∈ r) : ∃ k, fidx 47 r = some k ∧ k < r.length ∧ spl r = r.take k :: spl (r.drop (k + 1)) := by
  cases hk : fidx 47 r with
  | none => exact absurd h (fidx_none hk)
  | some k =>
    obtain ⟨h1, h2⟩ := fidx_some hk
    have hlt := (List.getElem?_eq_some_iff.1 h1).1
    refine ⟨k, rfl, hlt, ?_⟩
    have e : r = r.take k ++ 47 :: r.drop (k + 1) := by
      have h47 : r[k] = 47 := by rw [List.getElem?_eq_getElem hlt] at h1; injection h1
      rw [← h47, List.getElem_cons_drop, List.take_append_drop]
    conv => lhs; rw [e]
    exact spl_part _ _ h2
theorem spl_one {r : Tx} (h : (spl r).length = 1) : spl r = [r] := by
  refine spl_last r fun hm => ?_
  rw [spl_count] at h
  have := List.count_pos_iff.2 hm
  omega
def gsI (st : St) (q : Nat) (ty : TypeId) (L : List Tx) (e : Env) (s : St) : Prop := ∃ (i : Nat) (r : Tx), i < L.length ∧ e.get 0 = some (.s r) ∧ e.get 1 = some (.s [47]) ∧ e.get 2 = some (.int .i64 0) ∧ e.get 3 = some (.int .i64 ((L.length - 1 : Nat) : Int)) ∧ e.get 9 = some (.sl q 0 L.length L.length) ∧ e.get 10 = some (.int .i64 (i : Int)) ∧
  L = L.take i ++ spl r ∧ okS r ∧ r.length ≤ 1000000 ∧ Ext st.nx st s ∧ q = st.nx ∧ q < s.nx ∧ ∃ t, s.h.get q = some (.cs ty L.length t) ∧ ∀ j p, j < i → L[j]? = some p → t.get j = some (.s p)
end Go.Proofs.YtlonobfpogimgaaGreatDoor

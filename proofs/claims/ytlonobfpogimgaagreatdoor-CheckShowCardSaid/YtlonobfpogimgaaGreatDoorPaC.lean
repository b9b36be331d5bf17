/-
  Contracts of package path: Split, Name.
-/
import Derived.Test.YtlonobfpogimgaaGreatDoorPaB
set_option linter.unusedSimpArgs false
namespace Go.Proofs.YtlonobfpogimgaaGreatDoor
open Go.RowKit Ev
theorem keep_dec (p : Tx) : keepT p = (!decide (p = []) && !decide (p = [46])) := rfl
theorem par_take {L : List Tx} {i : Nat} {p : Tx} (h : L[i]? = some p) : (L.take (i + 1)).filter keepT = (L.take i).filter keepT ++ (if keepT p then [p] else []) := by
  rw [List.take_add_one, h, List.filter_append]
  congr 1
  simp [List.filter_cons]
theorem sv_app (L K : List Tx) : sv (L ++ K) = sv L ++ sv K := by simp [sv]
theorem own_mono {b c : Nat} {st : St} {x : V} {z n : Nat} {l : List V} (h : OwnRow b st x z n l) (k : c ≤ b) : OwnRow c st x z n l := by
  obtain ⟨h1, h2⟩ := h
  refine ⟨h1, ?_⟩
  rcases h2 with h2 | ⟨m, ty, t, e, h3, h4⟩
  · exact .inl h2
  · exact .inr ⟨m, ty, t, e, by omega, h4⟩
def psI (s1 : St) (y : V) (L : List Tx) (e : Env) (s : St) : Prop := ∃ (i : Nat) (x : V), i ≤ L.length ∧ e.get 13 = some y ∧ e.get 14 = some (.int .i64 (L.length : Int)) ∧ e.get 15 = some (.int .i64 (i : Int)) ∧ e.get 4 = some x ∧
  OwnRow s1.nx s x 1 ((L.take i).filter keepT).length (sv ((L.take i).filter keepT)) ∧ (∀ p ∈ L.take i, ¬ badT p) ∧ Ext s1.nx s1 s
def pErr (s : Tx) : List Tx := if errS s = 0 then parS s else []
end Go.Proofs.YtlonobfpogimgaaGreatDoor

/-
  PLAIN: what a row names.
-/
import Derived.Test.YtcjddojcfdeflaaMid
set_option linter.unusedSimpArgs false
namespace Go.Proofs.Ytcjddojcfdeflaa
open Go.RowKit Ev
def Nm (v : V) (k : Nat) : Prop := (∃ o l z, v = .sg k o l z) ∨ (∃ o l q, v = .sl k o l q)
theorem Ev.RdRow.other {st st' : St} {v : V} {z n : Nat} {l : List V} (h : RdRow st v z n l) (hle : st.nx ≤ st'.nx) (k : ∀ q, Nm v q → st'.h.get q = st.h.get q) : RdRow st' v z n l := by
  obtain ⟨g1, g2⟩ := h
  refine ⟨g1, ?_⟩
  rcases g2 with g2 | ⟨m, o, q, ty, sz, t, rfl, g3, g4, g5, g6⟩ | ⟨m, o, ty, sz, t, rfl, g3, g4, g5, g6⟩
  · exact .inl g2
  · exact .inr (.inl ⟨m, o, q, ty, sz, t, rfl, by omega, by rw [k m (.inr ⟨_, _, _, rfl⟩)]; exact g4, g5, g6⟩)
  · exact .inr (.inr ⟨m, o, ty, sz, t, rfl, by omega, by rw [k m (.inl ⟨_, _, _, rfl⟩)]; exact g4, g5, g6⟩)
theorem Ev.RdRow.nm_lt {st : St} {v : V} {z n : Nat} {l : List V} (h : RdRow st v z n l) {k : Nat} (hk : Nm v k) : k < st.nx := by
  rcases hk with ⟨o, l, z, e⟩ | ⟨o, l, q, e⟩
  · exact h.lt_of.1 _ _ _ _ e
  · exact h.lt_of.2 _ _ _ _ e
theorem Ev.OwnRow.nm_ge {b : Nat} {st : St} {v : V} {z n : Nat} {l : List V} (h : OwnRow b st v z n l) {k : Nat} (hk : Nm v k) : b ≤ k := by
  obtain ⟨_, g2⟩ := h
  rcases g2 with ⟨rfl, _⟩ | ⟨m, ty, t, rfl, g3, _⟩
  · rcases hk with ⟨o, l, z, e⟩ | ⟨o, l, q, e⟩ <;> cases e
  · rcases hk with ⟨o, l, z, e⟩ | ⟨o, l, q, e⟩ <;> cases e
    exact g3
theorem nm_nil {k : Nat} (h : Nm (.c (.slice none 0 0)) k) : False := by
  rcases h with ⟨o, l, z, e⟩ | ⟨o, l, q, e⟩ <;> cases e
end Go.Proofs.Ytcjddojcfdeflaa

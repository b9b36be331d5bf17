/-
  Package image: what the bits of an image say; the document's own Open.
-/
import Derived.Test.YtgcpgidofikcdaaGreatDoorImE
import Derived.Test.YtgcpgidofikcdaaGreatDoorHdRS
set_option linter.unusedSimpArgs false
set_option linter.unusedVariables false
namespace Go.Proofs.YtgcpgidofikcdaaGreatDoor
open Go.RowKit Ev
theorem bit_setOne (K : List (BitVec 64)) (i : Int) (n : Nat) : bit (setOne true K i) n = (bit K n || (decide (i = (n : Int)) && decide (n < K.length * 64))) := by
  unfold setOne
  by_cases h : 0 ≤ i ∧ i < K.length * 64
  · rw [if_pos h]
    obtain ⟨m, rfl⟩ := Int.eq_ofNat_of_zero_le h.1
    have hm : m / 64 < K.length := by omega
    simp only [Int.toNat_natCast, if_true]
    unfold bit
    rw [List.getElem?_set]
    by_cases h1 : m / 64 = n / 64
    · rw [if_pos h1, if_pos hm, h1]
      simp only [Option.getD_some, BitVec.getLsbD_or, BitVec.getLsbD_shiftLeft]
      by_cases h2 : m = n
      · subst h2
        have h3 : m < K.length * 64 := by omega
        have h4 : m % 64 < 64 := by omega
        simp [h3, h4]
      · have h5 : ¬ ((m : Int) = (n : Int)) := by omega
        have h6 : m % 64 ≠ n % 64 := by omega
        rw [decide_eq_false h5]
        by_cases h7 : n % 64 < m % 64
        · simp [h7]
        · have h8 : (1#64).getLsbD (n % 64 - m % 64) = false := by
            obtain ⟨d, hd⟩ : ∃ d, n % 64 - m % 64 = d + 1 := ⟨n % 64 - m % 64 - 1, by omega⟩
            rw [hd]; simp
          simp [h8]
    · rw [if_neg h1]
      have h5 : ¬ ((m : Int) = (n : Int)) := by omega
      rw [decide_eq_false h5]; simp
  · rw [if_neg h]
    by_cases h2 : i = (n : Int)
    · have h3 : ¬ n < K.length * 64 := by omega
      simp [h3]
    · simp [h2]
theorem bit_setB (n : Nat) : ∀ (l : List Int) (K : List (BitVec 64)), bit (setB K true l) n = (bit K n || (l.any fun i => decide (i = (n : Int)) && decide (n < K.length * 64)))
  | [], K => by simp [setB]
  | i :: l, K => by
    show bit (setB (setOne true K i) true l) n = _
    rw [bit_setB n l, bit_setOne, setOne_length, List.any_cons]
    simp [Bool.or_assoc]

def bitsF (g : Gm) : Nat := (1 + g.c * g.k).toNat
def ibB (st : St) (g : Gm) (x : V) (s : St) : Prop := s.h.get st.nx = some (.cs 65 5 (((((T.lf.set 0 (V.int .i64 g.b)).set 1 (V.int .i64 g.n)).set 2 (V.int .i64 g.c)).set 3 (V.int .i64 g.k)).set 4 x)) ∧ s.h.get (st.nx + 1) = some (.cs 76 1 (sets [V.c (.slice none 0 0)] 0 .lf)) ∧ Ext st.nx st s ∧ st.nx + 1 < s.nx
theorem ibB.grow {st s s' : St} {g : Gm} {x : V} (h : ibB st g x s) (k : Ext (st.nx + 2) s s') : ibB st g x s' := by
  obtain ⟨h1, h2, h3, h4⟩ := h
  have := k.le
  exact ⟨(k.keep _ (by omega)).trans h1, (k.keep _ (by omega)).trans h2, h3.trans ⟨k.le, k.wf, fun n hn => k.keep n (by omega)⟩, by omega⟩
end Go.Proofs.YtgcpgidofikcdaaGreatDoor

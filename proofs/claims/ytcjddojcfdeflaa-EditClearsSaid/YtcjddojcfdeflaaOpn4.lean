/-
  PLAIN: rows of two whole numbers and a word.
-/
import Derived.Test.YtcjddojcfdeflaaSb
namespace Go.Proofs.Ytcjddojcfdeflaa
open Go.RowKit Ev
def trip (L : List (Int × Int × BitVec 64)) : List V := L.flatMap fun r => [.int .i64 r.1, .int .i64 r.2.1, wd r.2.2]
theorem trip_at : ∀ (L : List (Int × Int × BitVec 64)) (i : Nat) (r : Int × Int × BitVec 64), L[i]? = some r → (trip L)[i * 3 + 0]? = some (.int .i64 r.1) ∧ (trip L)[i * 3 + 1]? = some (.int .i64 r.2.1) ∧ (trip L)[i * 3 + 2]? = some (wd r.2.2)
  | [], i, r, h => by simp at h
  | q :: L, 0, r, h => by simp at h; subst h; exact ⟨rfl, rfl, rfl⟩
  | q :: L, i + 1, r, h => by
    have := trip_at L i r (by simpa using h)
    rw [show trip (q :: L) = .int .i64 q.1 :: .int .i64 q.2.1 :: wd q.2.2 :: trip L from rfl, show (i + 1) * 3 + 0 = i * 3 + 0 + 1 + 1 + 1 by omega, show (i + 1) * 3 + 1 = i * 3 + 1 + 1 + 1 + 1 by omega, show (i + 1) * 3 + 2 = i * 3 + 2 + 1 + 1 + 1 by omega]
    exact this
theorem trip_of : ∀ {L : List (Int × Int × Int)}, (∀ r ∈ L, (Lit.int .i64 r.1).wf = true ∧ (Lit.int .i64 r.2.1).wf = true ∧ (Lit.int .u64 r.2.2).wf = true) → ∃ K : List (Int × Int × BitVec 64), K.length = L.length ∧ triples L = trip K ∧ ∀ r ∈ K, (-9223372036854775808 ≤ r.1 ∧ r.1 ≤ 9223372036854775807) ∧ (-9223372036854775808 ≤ r.2.1 ∧ r.2.1 ≤ 9223372036854775807)
  | [], _ => ⟨[], rfl, rfl, fun r h => by simp at h⟩
  | r :: L, h => by
    obtain ⟨K, h1, h2, h3⟩ := trip_of (L := L) fun q hq => h q (by simp [hq])
    obtain ⟨w1, w2, w3⟩ := h r (by simp)
    obtain ⟨n, hn, hlt⟩ := u64_nat w3
    refine ⟨(r.1, r.2.1, BitVec.ofInt 64 r.2.2) :: K, by simp [h1], ?_, fun q hq => ?_⟩
    · show V.int .i64 r.1 :: V.int .i64 r.2.1 :: V.int .u64 r.2.2 :: triples L = V.int .i64 r.1 :: V.int .i64 r.2.1 :: wd (BitVec.ofInt 64 r.2.2) :: trip K
      rw [h2, wd_lit (by omega) (by omega)]
    · rcases List.mem_cons.1 hq with rfl | hq
      · exact ⟨i64_bd w1, i64_bd w2⟩
      · exact h3 q hq
end Go.Proofs.Ytcjddojcfdeflaa

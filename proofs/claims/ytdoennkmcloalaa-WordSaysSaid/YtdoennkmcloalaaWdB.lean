/-
  Contracts of package word and of the document's own answer: words turned; words of bytes.
-/
import Derived.Test.YtdoennkmcloalaaWdA
import Derived.Test.YtdoennkmcloalaaSc
set_option linter.unusedSimpArgs false
namespace Go.Proofs.Ytdoennkmcloalaa
open Go.RowKit Ev
def turnF (v : BitVec 64) (n : Int) : BitVec 64 := v <<< (n % 64).toNat ||| v >>> (64 - (n % 64).toNat)
theorem tmod64 (n : Int) : n.tmod 64 = n % 64 ∨ (n.tmod 64 = n % 64 - 64 ∧ 0 < n % 64) := by
  rw [Int.tmod_eq_emod]
  split
  · left; omega
  · right
    rename_i h
    constructor
    · rfl
    · have : ¬ (64 : Int) ∣ n := fun hd => h (.inr hd)
      omega
set_option maxHeartbeats 2000000 in
theorem turn_any (st : St) (v : BitVec 64) (n : Int) (nt : Nat) : Gd (callL Try.prog ⟨false, [], 0, nt⟩ 33 [wd v, .int .i64 n] st) fun r => r = (wd (turnF v n), st) := by
  rw [Gd_callL Try.func33 rfl]
  obtain ⟨k, hk⟩ : ∃ k : Nat, n % 64 = (k : Int) ∧ k < 64 := ⟨(n % 64).toNat, by omega⟩
  have h0 : ¬ (64 : Int) = 0 := by decide
  simp [evOp_call, sets, T.get_set, h0]
  rw [Gd_callL Try.func121 rfl]
  simp [evOp_call, sets, T.get_set, un179]
  have h1 : (n.tmod 64 % 18446744073709551616).toNat &&& 63 = k := by
    have := Nat.and_two_pow_sub_one_eq_mod (n.tmod 64 % 18446744073709551616).toNat 6
    have e : (2 ^ 6 - 1 : Nat) = 63 := rfl
    rw [e] at this
    rw [this]
    rcases tmod64 n with h | ⟨h, h2⟩ <;> omega
  have h2 : (18446744073709551616 - k + 64) % 18446744073709551616 = 64 - k := by omega
  rw [h1, h2]
  unfold turnF
  rw [hk.1]
  simp
set_option maxHeartbeats 2000000 in
theorem rturn_any (st : St) (v : BitVec 64) (n : Int) (nt : Nat) : Gd (callL Try.prog ⟨false, [], 0, nt⟩ 34 [wd v, .int .i64 n] st) fun r => r = (wd (turnF v n), st) := by
  rw [Gd_callL Try.func34 rfl]
  obtain ⟨k, hk, hk2⟩ : ∃ k : Nat, n % 64 = (k : Int) ∧ k < 64 := ⟨(n % 64).toNat, by omega⟩
  have ht : turnF v n = v <<< k ||| v >>> (64 - k) := by unfold turnF; rw [hk]; simp
  rw [ht]
  have w1 : IntKind.i64.wrap (64 - (k : Int)) = 64 - (k : Int) := wrap_in (by omega) (by omega)
  have w2 : IntKind.i64.wrap ((k : Int) - 64 + 64) = (k : Int) := by rw [show (k : Int) - 64 + 64 = (k : Int) by omega]; exact wrap_in (by omega) (by omega)
  have e1 : k % 18446744073709551616 = k := Nat.mod_eq_of_lt (by omega)
  have e2 : (BitVec.ofInt 64 (64 - (k : Int))).toNat = 64 - k := by rw [BitVec.toNat_ofInt]; omega
  have w3 : IntKind.i64.wrap (k : Int) = (k : Int) := wrap_in (by omega) (by omega)
  rcases tmod64 n with h | ⟨h, h2⟩
  · rw [hk] at h
    by_cases hz : k = 0
    · subst hz
      have hz' : n.tmod 64 = 0 := h
      have hv : v >>> 64 = 0#64 := BitVec.ushiftRight_eq_zero (by omega)
      simp [evOp_call, sets, T.get_set, hz', hv]
    · have h3 : ¬ (k : Int) < 0 := by omega
      have h4 : ¬ (k : Int) = 0 := by omega
      simp [evOp_call, sets, T.get_set, h, h3, h4, hz, un179, w1, e1, e2]
  · rw [hk] at h h2
    have h3 : (k : Int) - 64 < 0 := by omega
    have h4 : ¬ (k : Int) = 0 := by omega
    have hz : ¬ k = 0 := by omega
    simp [evOp_call, sets, T.get_set, h, h3, h4, hz, un179, w1, w2, w3, e1, e2]
end Go.Proofs.Ytdoennkmcloalaa

import Derived.Test.YtmefcjgoedhpkaaRows
import Derived.Test.YtmefcjgoedhpkaaBv
import Derived.WalkKit
import Derived.ProofKit
import Derived.WalkSpells
import Derived.WalkLawsBesides
import Derived.Outline
namespace Go.Proofs.Ytmefcjgoedhpkaa
open Go.ChangeShapes Go.WideShapes Go.ChangeAt Go.RowKit
attribute [local go_sem high] wrap_u64 bits_and_u64 bits_or_u64 bits_xor_u64 bits_andNot_u64 shl_u64 shr_u64
attribute [local go_sem] u_nonneg u_toNat
theorem and63 (k : Int) : (k % 18446744073709551616).toNat &&& 63 = (k % 64).toNat := by
  have h : ∀ n : Nat, n &&& 63 = n % 64 := fun n => Nat.and_two_pow_sub_one_eq_mod n 6
  rw [h]; omega
theorem u_and63 (k : Int) : u (BitVec.ofInt 64 k &&& 63#64) = k % 64 := by
  unfold u
  rw [BitVec.toNat_and, BitVec.toNat_ofInt]
  have := and63 k
  simp only [BitVec.reduceToNat]
  rw [show ((2 ^ 64 : Nat) : Int) = 18446744073709551616 from rfl, this]
  omega
theorem rot_plain (x : BitVec 64) (k : Int) : x <<< ((k % 18446744073709551616).toNat &&& 63) ||| x >>> ((64 - u (BitVec.ofInt 64 k &&& 63#64)) % 18446744073709551616).toNat = x.rotateLeft (k % 64).toNat := by
  rw [and63, u_and63]
  have e : ((64 - k % 64) % 18446744073709551616).toNat = 64 - (k % 64).toNat := by omega
  rw [e, BitVec.rotateLeft_eq_rotateLeftAux_of_lt (by omega)]
  rfl
theorem rot_any (x : BitVec 64) (k : Int) (w : World) :
    Calls Try.prog 41 #[.int .u64 (u x), .int .i64 k] w fun e w' => e = .returned (.int .u64 (u (x.rotateLeft (k % 64).toNat))) ∧ w = w' := by
  go_enter Try.func41, Try.ntmps41
  go_wp2
  go_ret
  exact ⟨by rw [← rot_plain]; rfl, rfl⟩
theorem rot_or (x : BitVec 64) (k : Nat) (h : k < 64) : x <<< k ||| x >>> (64 - k) = x.rotateLeft k := by
  rw [BitVec.rotateLeft_eq_rotateLeftAux_of_lt h]; rfl
theorem rot_zero (x : BitVec 64) : x.rotateLeft 0 = x := by
  have e : x >>> 64 = 0#64 := by
    apply BitVec.eq_of_toNat_eq
    have := x.isLt
    rw [BitVec.toNat_ushiftRight, Nat.shiftRight_eq_div_pow]
    simp
    omega
  rw [← rot_or x 0 (by omega)]
  simp [e]
theorem turn_any (x : BitVec 64) (n : Int) (w : World) :
    Calls Try.prog 20 #[.int .u64 (u x), .int .i64 n] w fun e w' => e = .returned (.int .u64 (u (x.rotateLeft (n % 64).toNat))) ∧ w = w' := by
  have h : (n.tmod 64) % 64 = n % 64 := by
    have := Int.tmod_add_mul_tdiv n 64
    omega
  go_enter Try.func20, Try.ntmps20
  go_wp2_with fail
  refine (rot_any _ _ _).mono ?_
  rintro e w' ⟨rfl, rfl⟩
  go_wp2
  go_ret
  exact ⟨rfl, rfl⟩
end Go.Proofs.Ytmefcjgoedhpkaa

/-
  PLAIN: the evaluator's numbers and texts are the model's.
-/
import Derived.Test.YtenncnbaoejekaaEvA
import Derived.WalkKit
namespace Go.Proofs.Ytenncnbaoejekaa.Ev

theorem eqI_eq (a b : Int) : eqI a b = (a == b) := by
  rw [Bool.eq_iff_iff]
  cases a <;> cases b <;> simp [eqI, Nat.beq_eq] <;> omega
theorem ltI_eq (a b : Int) : ltI a b = decide (a < b) := by
  rw [Bool.eq_iff_iff]
  cases a <;> cases b <;> simp [ltI, Nat.blt_eq] <;> omega
theorem eqKd_eq {a b : IntKind} (h : eqKd a b = true) : a = b := by
  cases a <;> cases b <;> first | rfl | (simp [eqKd] at h)
theorem wu_eq (M : Nat) (hM : 0 < M) (n : Int) : wu M n = n % (M : Int) := by
  cases n with
  | ofNat m => simp [wu]
  | negSucc m =>
    show ((M - 1 - m % M : Nat) : Int) = _
    have h1 : m % M < M := Nat.mod_lt _ hM
    have h2 : Int.negSucc m = -(m : Int) - 1 := by omega
    rw [h2]
    have h3 : -(m : Int) - 1 = ((M : Int) - 1 - ((m % M : Nat) : Int)) + (M : Int) * (-((m / M : Nat) : Int) - 1) := by
      have := Nat.mod_add_div m M
      have h4 : (m : Int) = ((m % M : Nat) : Int) + (M : Int) * ((m / M : Nat) : Int) := by
        exact_mod_cast this.symm
      rw [h4, Int.mul_sub, Int.mul_neg]
      omega
    rw [h3, Int.add_mul_emod_self_left, Int.emod_eq_of_lt (by omega) (by omega)]
    omega
theorem ws_eq (M H : Nat) (hM : 0 < M) (n : Int) : ws M H n = if n % (M : Int) ≥ (H : Int) then n % (M : Int) - M else n % (M : Int) := by
  have h0 : 0 ≤ n % (M : Int) := Int.emod_nonneg _ (by omega)
  have h1 : n % (M : Int) < M := Int.emod_lt_of_pos _ (by omega)
  unfold ws
  rw [wu_eq M hM]
  generalize n % (M : Int) = q at *
  obtain ⟨u, rfl⟩ := Int.eq_ofNat_of_zero_le h0
  show (match Nat.blt u H with | true => Int.ofNat u | false => Int.negSucc (M - 1 - u)) = _
  by_cases hu : u < H
  · have : Nat.blt u H = true := by simpa [Nat.blt_eq] using hu
    rw [this, if_neg (by omega)]
    rfl
  · have : Nat.blt u H = false := by
      rw [Bool.eq_false_iff]; intro h; exact hu (by simpa [Nat.blt_eq] using h)
    rw [this, if_pos (by omega)]
    show Int.negSucc (M - 1 - u) = _
    omega
theorem wr_eq (k : IntKind) (n : Int) : wr k n = k.wrap n := by
  cases k
  case u64 => exact (wu_eq _ (by decide) n).trans (by simp [IntKind.wrap, IntKind.signed, IntKind.bits])
  case u32 => exact (wu_eq _ (by decide) n).trans (by simp [IntKind.wrap, IntKind.signed, IntKind.bits])
  case u16 => exact (wu_eq _ (by decide) n).trans (by simp [IntKind.wrap, IntKind.signed, IntKind.bits])
  case u8 => exact (wu_eq _ (by decide) n).trans (by simp [IntKind.wrap, IntKind.signed, IntKind.bits])
  case i64 => exact (ws_eq _ _ (by decide) n).trans (by simp [IntKind.wrap, IntKind.signed, IntKind.bits])
  case i32 => exact (ws_eq _ _ (by decide) n).trans (by simp [IntKind.wrap, IntKind.signed, IntKind.bits])
  case i16 => exact (ws_eq _ _ (by decide) n).trans (by simp [IntKind.wrap, IntKind.signed, IntKind.bits])
  case i8 => exact (ws_eq _ _ (by decide) n).trans (by simp [IntKind.wrap, IntKind.signed, IntKind.bits])
theorem wrap_congr (k : IntKind) {x y : Int} (h : x % (2 ^ k.bits : Int) = y % (2 ^ k.bits : Int)) : k.wrap x = k.wrap y := by
  unfold IntKind.wrap
  rw [h]
theorem kbits_eq (k : IntKind) : kbits k = k.bits := by cases k <;> rfl

section
variable {P : Program} {w : World}
theorem bv_nat (n a : Nat) : (BitVec.ofInt n (Int.ofNat a)).toNat = a % 2 ^ n := by
  show (BitVec.ofInt n (a : Int)).toNat = _
  rw [BitVec.ofInt_natCast, BitVec.toNat_ofNat]
theorem emod_nat (k : IntKind) (x y : Nat) (h : x % 2 ^ k.bits = y % 2 ^ k.bits) : k.wrap (Int.ofNat x) = k.wrap ((y : Nat) : Int) := by
  apply wrap_congr
  show ((x : Nat) : Int) % _ = ((y : Nat) : Int) % _
  norm_cast
theorem intBits_and (k : IntKind) (a b : Nat) : (Op.intBits .and k (.ofNat a) (.ofNat b)).run P w = .ok (.int k (wr k (.ofNat (Nat.land a b)))) w := by
  have h : k.wrap (Int.ofNat (Nat.land a b)) = k.wrap (((BitVec.ofInt k.bits (Int.ofNat a) &&& BitVec.ofInt k.bits (Int.ofNat b)).toNat : Nat) : Int) := by
    apply emod_nat
    rw [BitVec.toNat_and, bv_nat, bv_nat]
    show (a &&& b) % _ = _
    rw [Nat.and_mod_two_pow, Nat.and_mod_two_pow]
    simp
  rw [wr_eq, h]
  rfl
theorem intBits_or (k : IntKind) (a b : Nat) : (Op.intBits .or k (.ofNat a) (.ofNat b)).run P w = .ok (.int k (wr k (.ofNat (Nat.lor a b)))) w := by
  have h : k.wrap (Int.ofNat (Nat.lor a b)) = k.wrap (((BitVec.ofInt k.bits (Int.ofNat a) ||| BitVec.ofInt k.bits (Int.ofNat b)).toNat : Nat) : Int) := by
    apply emod_nat
    rw [BitVec.toNat_or, bv_nat, bv_nat]
    show (a ||| b) % _ = _
    rw [Nat.or_mod_two_pow, Nat.or_mod_two_pow]
    simp
  rw [wr_eq, h]
  rfl
theorem intBits_xor (k : IntKind) (a b : Nat) : (Op.intBits .xor k (.ofNat a) (.ofNat b)).run P w = .ok (.int k (wr k (.ofNat (Nat.xor a b)))) w := by
  have h : k.wrap (Int.ofNat (Nat.xor a b)) = k.wrap (((BitVec.ofInt k.bits (Int.ofNat a) ^^^ BitVec.ofInt k.bits (Int.ofNat b)).toNat : Nat) : Int) := by
    apply emod_nat
    rw [BitVec.toNat_xor, bv_nat, bv_nat]
    show (a ^^^ b) % _ = _
    rw [Nat.xor_mod_two_pow, Nat.xor_mod_two_pow]
    simp
  rw [wr_eq, h]
  rfl
theorem bv_andNot {n : Nat} (x y : BitVec n) : x &&& ~~~y = x ^^^ (x &&& y) := by
  apply BitVec.eq_of_getLsbD_eq
  intro i hi
  simp [hi]
  cases x[i] <;> cases y[i] <;> rfl
theorem intBits_andNot (k : IntKind) (a b : Nat) : (Op.intBits .andNot k (.ofNat a) (.ofNat b)).run P w = .ok (.int k (wr k (.ofNat (Nat.xor a (Nat.land a b))))) w := by
  have h : k.wrap (Int.ofNat (Nat.xor a (Nat.land a b))) = k.wrap (((BitVec.ofInt k.bits (Int.ofNat a) &&& ~~~BitVec.ofInt k.bits (Int.ofNat b)).toNat : Nat) : Int) := by
    apply emod_nat
    rw [bv_andNot, BitVec.toNat_xor, BitVec.toNat_and, bv_nat, bv_nat]
    show (a ^^^ (a &&& b)) % _ = _
    rw [Nat.xor_mod_two_pow, Nat.and_mod_two_pow, Nat.xor_mod_two_pow, Nat.and_mod_two_pow]
    simp
  rw [wr_eq, h]
  rfl
theorem binI_ok {op : BinOp} {k : IntKind} {a b : Int} {v : Value} (t : TypeId) (h : binI op k a b = some v) (h1 : op ≠ .shl) (h2 : op ≠ .shr) :
    (Go.binOp op t (.int k a) (.int k b)).run P w = .ok v w := by
  cases op <;> simp only [binI] at h
  case add => injection h with h; subst h; rw [wr_eq]; simp [Go.binOp, Op.intArith]
  case sub => injection h with h; subst h; rw [wr_eq]; simp only [Go.binOp, ne_eq, not_true_eq_false, if_false]; rfl
  case mul => injection h with h; subst h; rw [wr_eq]; simp [Go.binOp, Op.intArith]
  case quo =>
    split at h
    · cases h
    · rename_i hb
      injection h with h; subst h; rw [wr_eq]
      rw [eqI_eq] at hb
      have hb' : b ≠ 0 := by simpa using hb
      simp [Go.binOp, Op.intDiv, hb']
  case rem =>
    split at h
    · cases h
    · rename_i hb
      injection h with h; subst h
      rw [eqI_eq] at hb
      have hb' : b ≠ 0 := by simpa using hb
      simp [Go.binOp, Op.intDiv, hb']
  case eql => injection h with h; subst h; rw [eqI_eq]; simp [Go.binOp, Op.intCmp]
  case neq => injection h with h; subst h; rw [eqI_eq]; simp [Go.binOp, Op.intCmp, bne]
  case lss => injection h with h; subst h; rw [ltI_eq]; simp [Go.binOp, Op.intCmp]
  case leq =>
    injection h with h; subst h; rw [ltI_eq]
    have : (!decide (b < a)) = decide (a ≤ b) := by rw [Bool.eq_iff_iff]; simp
    rw [this]; simp [Go.binOp, Op.intCmp]
  case gtr => injection h with h; subst h; rw [ltI_eq]; simp [Go.binOp, Op.intCmp]
  case geq =>
    injection h with h; subst h; rw [ltI_eq]
    have : (!decide (a < b)) = decide (b ≤ a) := by rw [Bool.eq_iff_iff]; simp
    rw [this]; simp [Go.binOp, Op.intCmp]
  case and =>
    split at h
    · injection h with h; subst h
      have := intBits_and (P := P) (w := w) k
      simp only [Go.binOp, ne_eq, not_true_eq_false, if_false]; exact this _ _
    · cases h
  case or =>
    split at h
    · injection h with h; subst h
      have := intBits_or (P := P) (w := w) k
      simp only [Go.binOp, ne_eq, not_true_eq_false, if_false]; exact this _ _
    · cases h
  case xor =>
    split at h
    · injection h with h; subst h
      have := intBits_xor (P := P) (w := w) k
      simp only [Go.binOp, ne_eq, not_true_eq_false, if_false]; exact this _ _
    · cases h
  case andNot =>
    split at h
    · injection h with h; subst h
      have := intBits_andNot (P := P) (w := w) k
      simp only [Go.binOp, ne_eq, not_true_eq_false, if_false]; exact this _ _
    · cases h
  all_goals cases h
theorem shI_ok {op : BinOp} {k k' : IntKind} {a b : Int} {v : Value} (t : TypeId) (h : shI op k a b = some v) :
    (Go.binOp op t (.int k a) (.int k' b)).run P w = .ok v w := by
  unfold shI at h
  split at h
  · rename_i a b
    split at h
    · injection h with h; subst h
      rw [wr_eq, kbits_eq]
      have hn : ¬ ((b : Int) < 0) := by omega
      have e : Int.ofNat (Nat.shiftLeft a (Nat.min b k.bits)) = Int.ofNat a * 2 ^ (min b k.bits) := by
        show ((a <<< (min b k.bits) : Nat) : Int) = (a : Int) * _
        rw [Nat.shiftLeft_eq]; norm_cast
      rw [e]
      simp only [Go.binOp]
      simp [Op.shift, hn]
    · injection h with h; subst h
      rw [kbits_eq]
      have hn : ¬ ((b : Int) < 0) := by omega
      have e : Int.ofNat (Nat.shiftRight a (Nat.min b k.bits)) = (Int.ofNat a).fdiv (2 ^ (min b k.bits)) := by
        show ((a >>> (min b k.bits) : Nat) : Int) = (a : Int).fdiv _
        rw [Nat.shiftRight_eq_div_pow, Int.fdiv_eq_ediv_of_nonneg _ (by exact_mod_cast Nat.zero_le _)]; norm_cast
      rw [e]
      simp only [Go.binOp]
      simp [Op.shift, hn]
    · cases h
  · cases h
end
end Go.Proofs.Ytenncnbaoejekaa.Ev

/-
  PLAIN: words of 64 bits and bytes as bit vectors, and the walk's rules for their operations.
-/
import Derived.WalkKit
import Derived.WalkSpells
import Derived.WalkLawsBesides
import Derived.Deep.QuietTactic
import Derived.WalkSmall
namespace Go.Proofs.Ytpbooljmkplnhaa
open Go.RowKit

theorem hid {p : Prop} (h : p) : Hid p := h
/-- a law at an operation that is wanted, guarded or not. -/
theorem wpList_want {P : Program} {ops : Array Oper} {Q : Exit → Act → World → Prop} {a : Act} {w : World} {rest : List Oper} {o : Oper} (hw : Region.wanted o (yielded ops a.tmps) = true)
    (h : ∀ K : Act → World → Prop, (∀ a w, wpList P ops Q rest a w → K a w) → o.wp P a w K Q) : wpList P ops Q (o :: rest) a w :=
  wpList_step fun K hK => by simp only [hw, if_true]; exact h K hK
/-- a quiet call behind draws. -/
theorem quiet_left {P : Program} {f : FuncId} {args : Array Value} {w : World} {n : Nat} {v : Value}
    (h : Calls P f args (w.drewN n) fun e w' => e = .returned v ∧ w.drewN n = w') : Calls P f args (w.drewN n) fun e w'' => e = .returned v ∧ ∃ m, w'' = w.drewN m :=
  h.mono fun _ _ ⟨he, hm⟩ => ⟨he, n, hm.symm⟩
/-- a world with draws alone behind it. -/
def Quiet (w w' : World) : Prop := ∃ n, w' = w.drewN n
theorem Quiet.mk {w : World} {n : Nat} : Quiet w (w.drewN n) := ⟨n, rfl⟩
theorem Quiet.drew1 {w : World} : Quiet w w.drew := ⟨1, rfl⟩
theorem Quiet.refl (w : World) : Quiet w w := ⟨0, rfl⟩
theorem Quiet.trans {a b c : World} (h : Quiet a b) (k : Quiet b c) : Quiet a c := by
  obtain ⟨n, rfl⟩ := h
  obtain ⟨m, rfl⟩ := k
  exact ⟨n + m, World.drewN_drewN _ _ _⟩
theorem Quiet.drewN {a b : World} (h : Quiet a b) (n : Nat) : Quiet a (b.drewN n) := h.trans ⟨n, rfl⟩
theorem Quiet.below {a b : World} (h : Quiet a b) (B : Nat) : Below B a b := by
  obtain ⟨n, rfl⟩ := h
  exact below_drewN (Below.refl _ _) n
theorem Quiet.size {a b : World} (h : Quiet a b) : b.heap.size = a.heap.size := by
  obtain ⟨n, rfl⟩ := h
  rfl
theorem Quiet.le {a b : World} (h : Quiet a b) : a.heap.size ≤ b.heap.size := by rw [h.size]; exact Nat.le_refl _
theorem quiet_more {P : Program} {f : FuncId} {args : Array Value} {w : World} {n : Nat} {v : Value}
    (h : Calls P f args (w.drewN n) fun e w' => e = .returned v ∧ Quiet (w.drewN n) w') : Calls P f args (w.drewN n) fun e w'' => e = .returned v ∧ ∃ m, w'' = w.drewN m :=
  h.mono fun _ _ ⟨he, m, hm⟩ => ⟨he, n + m, by rw [hm, World.drewN_drewN]⟩
/-- a word as the model's integer. -/
def u (v : BitVec 64) : Int := v.toNat
/-- a byte as the model's integer. -/
def ub (v : BitVec 8) : Int := v.toNat

theorem u_nonneg (v : BitVec 64) : 0 ≤ u v := Int.natCast_nonneg _
theorem u_lt (v : BitVec 64) : u v < 18446744073709551616 := by unfold u; have := v.isLt; omega
theorem ub_nonneg (v : BitVec 8) : 0 ≤ ub v := Int.natCast_nonneg _
theorem ub_lt (v : BitVec 8) : ub v < 256 := by unfold ub; have := v.isLt; omega
theorem u_toNat (v : BitVec 64) : (u v).toNat = v.toNat := by simp [u]
@[go_sem] theorem ofInt_u (v : BitVec 64) : BitVec.ofInt 64 (u v) = v := by
  unfold u; simp
@[go_sem] theorem ofInt_ub (v : BitVec 8) : BitVec.ofInt 8 (ub v) = v := by
  unfold ub; simp
theorem ofInt64_ub (v : BitVec 8) : BitVec.ofInt 64 (ub v) = v.setWidth 64 := by
  unfold ub; rw [BitVec.ofInt_natCast]; apply BitVec.eq_of_toNat_eq; simp
theorem ofInt8_u (v : BitVec 64) : BitVec.ofInt 8 (u v) = v.setWidth 8 := by
  unfold u; rw [BitVec.ofInt_natCast]; apply BitVec.eq_of_toNat_eq; simp
theorem ofInt_pred (a : BitVec 64) : BitVec.ofInt 64 (u a - 1) = a - 1#64 := by
  apply BitVec.eq_of_toNat_eq
  have := a.isLt
  rw [BitVec.toNat_ofInt, BitVec.toNat_sub]
  unfold u
  simp only [BitVec.reduceToNat]
  omega
theorem u_inj {a b : BitVec 64} (h : u a = u b) : a = b := by rw [← ofInt_u a, h, ofInt_u]
theorem ub_inj {a b : BitVec 8} (h : ub a = ub b) : a = b := by rw [← ofInt_ub a, h, ofInt_ub]
theorem u_beq (a b : BitVec 64) : (u a == u b) = (a == b) := by
  rw [Bool.eq_iff_iff]; simp only [beq_iff_eq]; exact ⟨u_inj, fun h => by rw [h]⟩
theorem u_bne (a b : BitVec 64) : (u a != u b) = (a != b) := by rw [bne, u_beq]; rfl
theorem ub_bne (a b : BitVec 8) : (ub a != ub b) = (a != b) := by rw [bne]; congr 1; rw [Bool.eq_iff_iff]; simp only [beq_iff_eq]; exact ⟨ub_inj, fun h => by rw [h]⟩
theorem ub_beq (a b : BitVec 8) : (ub a == ub b) = (a == b) := by
  rw [Bool.eq_iff_iff]; simp only [beq_iff_eq]; exact ⟨ub_inj, fun h => by rw [h]⟩
theorem wf_u (v : BitVec 64) : (Lit.int .u64 (u v)).wf = true := by
  have h1 := u_nonneg v; have h2 := u_lt v
  simp [Lit.wf, IntKind.bits, IntKind.signed, IntKind.min, IntKind.max]
  omega
theorem u_of_wf {n : Int} (h : (Lit.int .u64 n).wf = true) : ∃ v, n = u v := by
  simp [Lit.wf, IntKind.bits, IntKind.signed, IntKind.min, IntKind.max] at h
  refine ⟨BitVec.ofInt 64 n, ?_⟩
  obtain ⟨m, rfl⟩ := Int.eq_ofNat_of_zero_le h.1
  unfold u
  rw [BitVec.ofInt_natCast, BitVec.toNat_ofNat]
  omega
theorem ub_of_wf {n : Int} (h : (Lit.int .u8 n).wf = true) : ∃ v, n = ub v := by
  simp [Lit.wf, IntKind.bits, IntKind.signed, IntKind.min, IntKind.max] at h
  refine ⟨BitVec.ofInt 8 n, ?_⟩
  obtain ⟨m, rfl⟩ := Int.eq_ofNat_of_zero_le h.1
  unfold ub
  rw [BitVec.ofInt_natCast, BitVec.toNat_ofNat]
  omega
theorem wf_ub (v : BitVec 8) : (Lit.int .u8 (ub v)).wf = true := by
  have h1 := ub_nonneg v; have h2 := ub_lt v
  simp [Lit.wf, IntKind.bits, IntKind.signed, IntKind.min, IntKind.max]
  omega

theorem wrap_u64 (n : Int) : IntKind.u64.wrap n = u (BitVec.ofInt 64 n) := by
  unfold u
  rw [IntKind.wrap_u64, BitVec.toNat_ofInt]
  omega
theorem wrap_u8 (n : Int) : IntKind.u8.wrap n = ub (BitVec.ofInt 8 n) := by
  unfold ub
  rw [IntKind.wrap_u8', BitVec.toNat_ofInt]
  omega
theorem bits_and_u64 (x y : Int) : bits .and .u64 x y = u (BitVec.ofInt 64 x &&& BitVec.ofInt 64 y) := by
  show IntKind.u64.wrap ((BitVec.ofInt 64 x &&& BitVec.ofInt 64 y).toNat : Int) = _
  rw [wrap_u64]; exact congrArg u (ofInt_u _)
theorem bits_or_u64 (x y : Int) : bits .or .u64 x y = u (BitVec.ofInt 64 x ||| BitVec.ofInt 64 y) := by
  show IntKind.u64.wrap ((BitVec.ofInt 64 x ||| BitVec.ofInt 64 y).toNat : Int) = _
  rw [wrap_u64]; exact congrArg u (ofInt_u _)
theorem bits_xor_u64 (x y : Int) : bits .xor .u64 x y = u (BitVec.ofInt 64 x ^^^ BitVec.ofInt 64 y) := by
  show IntKind.u64.wrap ((BitVec.ofInt 64 x ^^^ BitVec.ofInt 64 y).toNat : Int) = _
  rw [wrap_u64]; exact congrArg u (ofInt_u _)
theorem bits_andNot_u64 (x y : Int) : bits .andNot .u64 x y = u (BitVec.ofInt 64 x &&& ~~~BitVec.ofInt 64 y) := by
  show IntKind.u64.wrap ((BitVec.ofInt 64 x &&& ~~~BitVec.ofInt 64 y).toNat : Int) = _
  rw [wrap_u64]; exact congrArg u (ofInt_u _)

theorem shl_u64 (x : BitVec 64) (yk : IntKind) (y : Int) (h : 0 ≤ y) : Op.shift .shl .u64 (u x) yk y = pure (.int .u64 (u (x <<< y.toNat))) := by
  rw [shift_shl_any _ _ _ _ h, wrap_u64]
  congr 2
  apply congrArg u
  apply BitVec.eq_of_toNat_eq
  rw [BitVec.toNat_ofInt, BitVec.toNat_shiftLeft]
  unfold u
  by_cases hy : y.toNat ≤ 64
  · have e : min y.toNat IntKind.u64.bits = y.toNat := by show min y.toNat 64 = _; omega
    rw [e, Nat.shiftLeft_eq]
    norm_cast
  · have e : min y.toNat IntKind.u64.bits = 64 := by show min y.toNat 64 = _; omega
    rw [e, Nat.shiftLeft_eq]
    have h2 : (x.toNat * 2 ^ y.toNat) % 2 ^ 64 = 0 := by
      apply Nat.mod_eq_zero_of_dvd
      exact Nat.dvd_trans (Nat.pow_dvd_pow 2 (by omega : 64 ≤ y.toNat)) (Nat.dvd_mul_left _ _)
    rw [h2]
    have h3 : (x.toNat : Int) * 2 ^ 64 % ((2 ^ 64 : Nat) : Int) = 0 := by omega
    rw [h3]; rfl
theorem shr_u64 (x : BitVec 64) (yk : IntKind) (y : Int) (h : 0 ≤ y) : Op.shift .shr .u64 (u x) yk y = pure (.int .u64 (u (x >>> y.toNat))) := by
  rw [shift_shr_any _ _ _ _ h]
  congr 2
  unfold u
  rw [BitVec.toNat_ushiftRight, Nat.shiftRight_eq_div_pow]
  by_cases hy : y.toNat ≤ 64
  · have e : min y.toNat IntKind.u64.bits = y.toNat := by show min y.toNat 64 = _; omega
    rw [e]
    norm_cast
  · have e : min y.toNat IntKind.u64.bits = 64 := by show min y.toNat 64 = _; omega
    rw [e]
    have hx := x.isLt
    have h2 : x.toNat / 2 ^ y.toNat = 0 := Nat.div_eq_of_lt (Nat.lt_of_lt_of_le hx (Nat.pow_le_pow_right (by decide) (by omega)))
    rw [h2]
    omega
theorem ofInt_mul_pow (x : BitVec 64) (n : Nat) : BitVec.ofInt 64 (u x * 2 ^ n) = x <<< n := by
  apply BitVec.eq_of_toNat_eq
  rw [BitVec.toNat_ofInt, BitVec.toNat_shiftLeft, Nat.shiftLeft_eq]
  unfold u
  norm_cast
theorem u_div_pow (x : BitVec 64) (n : Nat) : u x / 2 ^ n = u (x >>> n) := by
  unfold u
  rw [BitVec.toNat_ushiftRight, Nat.shiftRight_eq_div_pow]
  norm_cast
end Go.Proofs.Ytpbooljmkplnhaa

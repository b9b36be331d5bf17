/-
  Contracts of package word and of the document's own answer: bits of a word.
-/
import Derived.Test.YtdoennkmcloalaaTyWd
set_option linter.unusedSimpArgs false
namespace Go.Proofs.Ytdoennkmcloalaa
open Go.RowKit Ev
def maskW (n : Nat) : BitVec 64 := BitVec.allOnes 64 >>> (64 - n)
def fieldW (v : BitVec 64) (f n : Nat) : BitVec 64 := v >>> f &&& maskW n
def withW (v : BitVec 64) (f n : Nat) (x : BitVec 64) : BitVec 64 := v &&& ~~~(maskW n <<< f) ||| (x &&& maskW n) <<< f
theorem maskW_bit (n i : Nat) (hn : n ≤ 64) : (maskW n).getLsbD i = decide (i < n) := by
  unfold maskW
  rw [BitVec.getLsbD_ushiftRight, BitVec.getLsbD_allOnes]
  rw [decide_eq_decide]
  omega
theorem maskW_sub (n : Nat) (h : n < 64) : maskW n = 1#64 <<< n - 1#64 := by
  have e : 1#64 <<< n - 1#64 = BitVec.allOnes 64 >>> (64 - n) := by
    apply BitVec.eq_of_toNat_eq
    have hp : 2 ^ n < 2 ^ 64 := Nat.pow_lt_pow_right (by decide) h
    have hp1 : 0 < 2 ^ n := Nat.two_pow_pos n
    have e1 : (1#64 <<< n).toNat = 2 ^ n := by
      rw [BitVec.toNat_shiftLeft, Nat.shiftLeft_eq]
      simp only [BitVec.reduceToNat, Nat.one_mul]
      exact Nat.mod_eq_of_lt hp
    rw [BitVec.toNat_sub_of_le (by rw [BitVec.le_def, e1]; exact hp1), e1, BitVec.toNat_ushiftRight, BitVec.toNat_allOnes, Nat.shiftRight_eq_div_pow]
    have hs : 2 ^ 64 = 2 ^ (64 - n) * 2 ^ n := by rw [← Nat.pow_add]; congr 1; omega
    have hq : 0 < 2 ^ (64 - n) := Nat.two_pow_pos _
    rw [show (1#64).toNat = 1 from rfl]
    symm
    rw [Nat.div_eq_iff hq]
    have h2 : (2 ^ n - 1) * 2 ^ (64 - n) = 2 ^ 64 - 2 ^ (64 - n) := by rw [Nat.sub_mul, hs, Nat.mul_comm]; simp
    have h3 : 2 ^ (64 - n) ≤ 2 ^ 64 := Nat.pow_le_pow_right (by decide) (by omega)
    omega
  rw [e]; rfl
theorem withW_eq (v : BitVec 64) (f n : Nat) (x : BitVec 64) : v &&& ~~~(maskW n <<< f) ||| x <<< f &&& maskW n <<< f = withW v f n x := by
  unfold withW
  rw [BitVec.shiftLeft_and_distrib]
def okF (f n : Int) : Prop := 0 ≤ f ∧ f < 64 ∧ 1 ≤ n ∧ n ≤ 64 - f
instance (f n : Int) : Decidable (okF f n) := by unfold okF; infer_instance
set_option maxHeartbeats 2000000 in
theorem fits_any (c : Cx) (st : St) (f n : Int) : Gd (callL Try.prog c 117 [.int .i64 f, .int .i64 n] st) fun r => r = (.bool (decide (okF f n)), st) := by
  rw [Gd_callL Try.func117 rfl]
  unfold okF
  by_cases h1 : 0 ≤ f
  · by_cases h2 : f < 64
    · have w1 : IntKind.i64.wrap (64 - f) = 64 - f := wrap_in (by omega) (by omega)
      by_cases h3 : 1 ≤ n
      · by_cases h4 : n ≤ 64 - f <;> simp [evOp_call, sets, T.get_set, h1, h2, h3, h4, w1]
      · simp [evOp_call, sets, T.get_set, h1, h2, h3]
    · simp [evOp_call, sets, T.get_set, h1, h2]
  · simp [evOp_call, sets, T.get_set, h1]
set_option maxHeartbeats 2000000 in
theorem may_any (c : Cx) (st : St) (f n : Int) : Gd (callL Try.prog c 119 [.int .i64 f, .int .i64 n] st) fun r => r = (.bool (decide (okF f n)), st) := by
  rw [Gd_callL Try.func119 rfl]
  unfold okF
  by_cases h1 : 0 ≤ f
  · by_cases h2 : f < 64
    · have h2' : f ≤ 63 := by omega
      have w1 : IntKind.i64.wrap (64 - f) = 64 - f := wrap_in (by omega) (by omega)
      by_cases h3 : 1 ≤ n
      · by_cases h4 : n ≤ 64 - f <;> simp [evOp_call, sets, T.get_set, h1, h2, h2', h3, h4, w1]
      · simp [evOp_call, sets, T.get_set, h1, h2, h2', h3]
    · have h2' : ¬ f ≤ 63 := by omega
      simp [evOp_call, sets, T.get_set, h1, h2, h2']
  · simp [evOp_call, sets, T.get_set, h1]
theorem mask_any (c : Cx) (st : St) (n : Nat) (h0 : 1 ≤ n) (h : n ≤ 64) : Gd (callL Try.prog c 118 [.int .i64 (n : Int)] st) fun r => r = (wd (maskW n), st) := by
  rw [Gd_callL Try.func118 rfl]
  have w1 : IntKind.i64.wrap (64 - (n : Int)) = 64 - (n : Int) := wrap_in (by omega) (by omega)
  have h1 : (0 : Int) ≤ 64 - (n : Int) := by omega
  have h2 : (64 - (n : Int)).toNat = 64 - n := by omega
  have h3 : (n : Int) ≤ 64 := by omega
  simp [evOp_call, sets, T.get_set, w1, h, h1, h2, h3]
  rfl
theorem rmask_any (c : Cx) (st : St) (n : Nat) (h0 : 1 ≤ n) (h : n ≤ 64) : Gd (callL Try.prog c 120 [.int .i64 (n : Int)] st) fun r => r = (wd (maskW n), st) := by
  rw [Gd_callL Try.func120 rfl]
  by_cases h2 : n = 64
  · subst h2
    simp [evOp_call, sets, T.get_set]
    decide
  · have h3 : ¬ (64 : Int) ≤ (n : Int) := by omega
    simp [evOp_call, sets, T.get_set, h3, un179]
    rw [Nat.mod_eq_of_lt (by omega), maskW_sub n (by omega)]
/-- bits of a word -/
def fieldF (v : BitVec 64) (f n : Int) : BitVec 64 := if okF f n then fieldW v f.toNat n.toNat else 0#64
def withF (v : BitVec 64) (f n : Int) (x : BitVec 64) : BitVec 64 := if okF f n then withW v f.toNat n.toNat x else v
set_option maxHeartbeats 2000000 in
theorem field_any (st : St) (v : BitVec 64) (f n : Int) (nt : Nat) : Gd (callL Try.prog ⟨false, [], 0, nt⟩ 29 [wd v, .int .i64 f, .int .i64 n] st) fun r => r = (wd (fieldF v f n), st) := by
  rw [Gd_callL Try.func29 rfl]
  simp [evOp_call, sets, T.get_set]
  refine Gd.mono (fits_any _ st f n) ?_
  rintro _ rfl
  unfold fieldF
  by_cases h : okF f n
  · obtain ⟨h1, h2, h3, h4⟩ := h
    have h : okF f n := ⟨h1, h2, h3, h4⟩
    obtain ⟨m, hm⟩ : ∃ m : Nat, n = (m : Int) := ⟨n.toNat, by omega⟩
    subst hm
    simp [evOp_call, sets, T.get_set, h, h1]
    refine ⟨by kernel_rfl, ?_⟩
    refine Gd.mono (mask_any _ st m (by omega) (by omega)) ?_
    rintro _ rfl
    simp [evOp_call, sets, T.get_set, h, h1, fieldW]
  · simp [evOp_call, sets, T.get_set, h]
set_option maxHeartbeats 2000000 in
theorem rfield_any (st : St) (v : BitVec 64) (f n : Int) (nt : Nat) : Gd (callL Try.prog ⟨false, [], 0, nt⟩ 30 [wd v, .int .i64 f, .int .i64 n] st) fun r => r = (wd (fieldF v f n), st) := by
  rw [Gd_callL Try.func30 rfl]
  simp [evOp_call, sets, T.get_set]
  refine Gd.mono (may_any _ st f n) ?_
  rintro _ rfl
  unfold fieldF
  by_cases h : okF f n
  · obtain ⟨h1, h2, h3, h4⟩ := h
    have h : okF f n := ⟨h1, h2, h3, h4⟩
    obtain ⟨m, hm⟩ : ∃ m : Nat, n = (m : Int) := ⟨n.toNat, by omega⟩
    obtain ⟨k, hk⟩ : ∃ k : Nat, f = (k : Int) := ⟨f.toNat, by omega⟩
    subst hm
    subst hk
    have e : k % 18446744073709551616 = k := Nat.mod_eq_of_lt (by omega)
    simp [evOp_call, sets, T.get_set, h, un179, e]
    refine Gd.mono (rmask_any _ st m (by omega) (by omega)) ?_
    rintro _ rfl
    simp [evOp_call, sets, T.get_set, h, h1, fieldW]
  · simp [evOp_call, sets, T.get_set, h]
set_option maxHeartbeats 2000000 in
theorem with_any (st : St) (v x : BitVec 64) (f n : Int) (nt : Nat) : Gd (callL Try.prog ⟨false, [], 0, nt⟩ 31 [wd v, .int .i64 f, .int .i64 n, wd x] st) fun r => r = (wd (withF v f n x), st) := by
  rw [Gd_callL Try.func31 rfl]
  simp [evOp_call, sets, T.get_set]
  refine Gd.mono (fits_any _ st f n) ?_
  rintro _ rfl
  unfold withF
  by_cases h : okF f n
  · obtain ⟨h1, h2, h3, h4⟩ := h
    have h : okF f n := ⟨h1, h2, h3, h4⟩
    obtain ⟨m, hm⟩ : ∃ m : Nat, n = (m : Int) := ⟨n.toNat, by omega⟩
    subst hm
    simp [evOp_call, sets, T.get_set, h, h1]
    refine ⟨by kernel_rfl, ?_⟩
    refine Gd.mono (mask_any _ st m (by omega) (by omega)) ?_
    rintro _ rfl
    simp [evOp_call, sets, T.get_set, h, h1]
    refine Gd.mono (mask_any _ st m (by omega) (by omega)) ?_
    rintro _ rfl
    simp [evOp_call, sets, T.get_set, h, h1, withW]
  · simp [evOp_call, sets, T.get_set, h]
set_option maxHeartbeats 2000000 in
theorem rwith_any (st : St) (v x : BitVec 64) (f n : Int) (nt : Nat) : Gd (callL Try.prog ⟨false, [], 0, nt⟩ 32 [wd v, .int .i64 f, .int .i64 n, wd x] st) fun r => r = (wd (withF v f n x), st) := by
  rw [Gd_callL Try.func32 rfl]
  simp [evOp_call, sets, T.get_set]
  refine Gd.mono (may_any _ st f n) ?_
  rintro _ rfl
  unfold withF
  by_cases h : okF f n
  · obtain ⟨h1, h2, h3, h4⟩ := h
    have h : okF f n := ⟨h1, h2, h3, h4⟩
    obtain ⟨m, hm⟩ : ∃ m : Nat, n = (m : Int) := ⟨n.toNat, by omega⟩
    obtain ⟨k, hk⟩ : ∃ k : Nat, f = (k : Int) := ⟨f.toNat, by omega⟩
    subst hm
    subst hk
    have e : k % 18446744073709551616 = k := Nat.mod_eq_of_lt (by omega)
    simp [evOp_call, sets, T.get_set, h]
    refine Gd.mono (rmask_any _ st m (by omega) (by omega)) ?_
    rintro _ rfl
    simp [evOp_call, sets, T.get_set, h, h1, un179, e, withW_eq]
  · simp [evOp_call, sets, T.get_set, h]
end Go.Proofs.Ytdoennkmcloalaa

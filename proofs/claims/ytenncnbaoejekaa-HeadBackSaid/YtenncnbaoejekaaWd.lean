/-
  PLAIN: words as bit vectors: what operations on them come to, by rewriting.
-/
import Derived.Test.YtenncnbaoejekaaBw
import Derived.Test.YtenncnbaoejekaaOpn1
namespace Go.Proofs.Ytenncnbaoejekaa.Ev
open Go.RowKit
def wd (b : BitVec 64) : V := .int .u64 (b.toNat : Int)
@[simp] theorem wd_one (b : BitVec 64) : (wd b).one = true := Eq.symm (Eq.symm rfl)
@[simp] theorem wd_inj (a b : BitVec 64) : (wd a = wd b) = (a = b) := by
  apply propext
  constructor
  · intro h
    unfold wd at h
    injection h with h; injection h with _ h
    exact BitVec.eq_of_toNat_eq (by omega)
  · rintro rfl; rfl
section
variable {P : Program} {c : Cx} {e : Env} {st : St} {t : TypeId} {x y : Operand} {a b : BitVec 64} {β : Type}
@[simp] theorem cellsOf_wd (k : List V → Option β) : cellsOf (wd a) k = k [wd a] := rfl
@[simp] theorem storeK_wd (n i : Nat) : storeK P c st t n i (wd a) = szOf P t fun z => if 1 = z then putB c st n i [wd a] fun st => some (.u, st) else none := storeK_1 rfl t n i
theorem wd_lit {n : Int} (h1 : 0 ≤ n) (h2 : n < 18446744073709551616) : V.int .u64 n = wd (BitVec.ofInt 64 n) := by
  unfold wd
  rw [BitVec.toNat_ofInt, show ((2 ^ 64 : Nat) : Int) = 18446744073709551616 from rfl, Int.emod_eq_of_lt h1 h2]
  congr 2
  omega
theorem wd_0 : V.int .u64 0 = wd 0#64 := rfl
@[simp high] theorem opv_u64 (n : Int) (h1 : 0 ≤ n) (h2 : n < 18446744073709551616) : opv e (.const (.int .u64 n)) = some (wd (BitVec.ofInt 64 n)) := by
  rw [opv_int, wd_lit h1 h2]
theorem wrapZ (z : Int) : IntKind.u64.wrap z = z % 18446744073709551616 := by
  simp [IntKind.wrap, IntKind.signed, IntKind.bits]
theorem wrapN (n : Nat) : IntKind.u64.wrap (n : Int) = ((n % 18446744073709551616 : Nat) : Int) := by
  simp only [IntKind.wrap, IntKind.signed, IntKind.bits]
  simp
@[simp] theorem wd_and : binE P st .and t x y (wd a) (wd b) = some (wd (a &&& b), st) := by
  unfold wd; rw [bin_and, ← BitVec.toNat_and, wrap_u (BitVec.isLt _)]
@[simp] theorem wd_or : binE P st .or t x y (wd a) (wd b) = some (wd (a ||| b), st) := by
  unfold wd; rw [bin_or, ← BitVec.toNat_or, wrap_u (BitVec.isLt _)]
@[simp] theorem wd_xor : binE P st .xor t x y (wd a) (wd b) = some (wd (a ^^^ b), st) := by
  unfold wd; rw [bin_xor, ← BitVec.toNat_xor, wrap_u (BitVec.isLt _)]
@[simp] theorem wd_andNot : binE P st .andNot t x y (wd a) (wd b) = some (wd (a &&& ~~~b), st) := by
  have h : a &&& ~~~b = a ^^^ (a &&& b) := by
    ext i hi
    simp
    cases a[i] <;> cases b[i] <;> rfl
  rw [h]
  unfold wd; rw [bin_andNot, ← BitVec.toNat_and, ← BitVec.toNat_xor, wrap_u (BitVec.isLt _)]
@[simp] theorem wd_add : binE P st .add t x y (wd a) (wd b) = some (wd (a + b), st) := by
  unfold wd; rw [bin_add, BitVec.toNat_add, ← Int.natCast_add, wrapN]
@[simp] theorem wd_sub : binE P st .sub t x y (wd a) (wd b) = some (wd (a - b), st) := by
  unfold wd
  have h : IntKind.u64.wrap ((a.toNat : Int) - (b.toNat : Int)) = (((a - b).toNat : Nat) : Int) := by
    rw [wrapZ, BitVec.toNat_sub]
    have ha := a.isLt
    have hb := b.isLt
    omega
  rw [bin_sub, h]
@[simp] theorem wd_mul : binE P st .mul t x y (wd a) (wd b) = some (wd (a * b), st) := by
  unfold wd; rw [bin_mul, BitVec.toNat_mul, ← Int.natCast_mul, wrapN]
@[simp] theorem wd_eql : binE P st .eql t x y (wd a) (wd b) = some (.bool (decide (a = b)), st) := by
  unfold wd; rw [bin_eql]
  have : ((a.toNat : Int) = (b.toNat : Int)) = (a = b) := by
    apply propext
    exact ⟨fun h => BitVec.eq_of_toNat_eq (by omega), fun h => by rw [h]⟩
  simp only [this]
@[simp] theorem wd_neq : binE P st .neq t x y (wd a) (wd b) = some (.bool (!decide (a = b)), st) := by
  unfold wd; rw [bin_neq]
  have : ((a.toNat : Int) = (b.toNat : Int)) = (a = b) := by
    apply propext
    exact ⟨fun h => BitVec.eq_of_toNat_eq (by omega), fun h => by rw [h]⟩
  simp only [this]
@[simp] theorem wd_lss : binE P st .lss t x y (wd a) (wd b) = some (.bool (decide (a < b)), st) := by
  unfold wd; rw [bin_lss]
  have : ((a.toNat : Int) < (b.toNat : Int)) = (a < b) := by rw [BitVec.lt_def]; exact propext Int.ofNat_lt
  simp only [this]
@[simp] theorem wd_gtr : binE P st .gtr t x y (wd a) (wd b) = some (.bool (decide (b < a)), st) := by
  unfold wd; rw [bin_gtr]
  have : ((b.toNat : Int) < (a.toNat : Int)) = (b < a) := by rw [BitVec.lt_def]; exact propext Int.ofNat_lt
  simp only [this]
@[simp] theorem wd_leq : binE P st .leq t x y (wd a) (wd b) = some (.bool (decide (a ≤ b)), st) := by
  unfold wd; rw [bin_leq]
  have : ((a.toNat : Int) ≤ (b.toNat : Int)) = (a ≤ b) := by rw [BitVec.le_def]; exact propext Int.ofNat_le
  simp only [this]
@[simp] theorem wd_geq : binE P st .geq t x y (wd a) (wd b) = some (.bool (decide (b ≤ a)), st) := by
  unfold wd; rw [bin_geq]
  have : ((b.toNat : Int) ≤ (a.toNat : Int)) = (b ≤ a) := by rw [BitVec.le_def]; exact propext Int.ofNat_le
  simp only [this]
theorem shl_big {n k : Nat} (h : 64 ≤ k) : n <<< k % 2 ^ 64 = 0 := by
  rw [Nat.shiftLeft_eq, show 2 ^ k = 2 ^ 64 * 2 ^ (k - 64) by rw [← Nat.pow_add]; congr 1; omega, ← Nat.mul_assoc, Nat.mul_comm n, Nat.mul_assoc]
  exact Nat.mul_mod_right _ _
theorem shr_big {n k : Nat} (hn : n < 2 ^ 64) (h : 64 ≤ k) : n >>> k = 0 := by
  rw [Nat.shiftRight_eq_div_pow]
  exact Nat.div_eq_of_lt (Nat.lt_of_lt_of_le hn (Nat.pow_le_pow_right (by decide) h))
theorem shlN (n : Nat) (k : IntKind) : binE P st .shl t x y (wd a) (.c (.int k (n : Int))) = some (wd (a <<< n), st) := by
  unfold wd
  have h : a.toNat <<< min n 64 % 18446744073709551616 = (a <<< n).toNat := by
    rw [BitVec.toNat_shiftLeft]
    by_cases h : n ≤ 64
    · rw [Nat.min_eq_left h]
    · rw [Nat.min_eq_right (by omega), show (18446744073709551616 : Nat) = 2 ^ 64 from rfl, shl_big (Nat.le_refl 64), shl_big (by omega)]
  rw [bin_shl, kbits_u64, wrapN, h]
theorem shrN (n : Nat) (k : IntKind) : binE P st .shr t x y (wd a) (.c (.int k (n : Int))) = some (wd (a >>> n), st) := by
  unfold wd
  have h : a.toNat >>> min n 64 = (a >>> n).toNat := by
    rw [BitVec.toNat_ushiftRight]
    by_cases h : n ≤ 64
    · rw [Nat.min_eq_left h]
    · rw [Nat.min_eq_right (by omega), shr_big a.isLt (Nat.le_refl 64), shr_big a.isLt (by omega)]
  rw [bin_shr, kbits_u64, h]
@[simp] theorem wd_shl {n : Int} (h : 0 ≤ n) (k : IntKind) : binE P st .shl t x y (wd a) (.c (.int k n)) = some (wd (a <<< n.toNat), st) := by
  obtain ⟨m, rfl⟩ := Int.eq_ofNat_of_zero_le h
  exact shlN m k
@[simp] theorem wd_shr {n : Int} (h : 0 ≤ n) (k : IntKind) : binE P st .shr t x y (wd a) (.c (.int k n)) = some (wd (a >>> n.toNat), st) := by
  obtain ⟨m, rfl⟩ := Int.eq_ofNat_of_zero_le h
  exact shrN m k
@[simp] theorem wd_shlW : binE P st .shl t x y (wd a) (wd b) = some (wd (a <<< b.toNat), st) := shlN b.toNat .u64
@[simp] theorem wd_shrW : binE P st .shr t x y (wd a) (wd b) = some (wd (a >>> b.toNat), st) := shrN b.toNat .u64
end
/-- rows of words -/
def wv (L : List (BitVec 64)) : List V := L.map wd
@[simp] theorem wv_length (L : List (BitVec 64)) : (wv L).length = L.length := by simp [wv]
theorem wv_get {L : List (BitVec 64)} {i : Nat} {w : BitVec 64} (h : L[i]? = some w) : (wv L)[i]? = some (wd w) := by simp [wv, h]
theorem wv_app (L K : List (BitVec 64)) : wv (L ++ K) = wv L ++ wv K := by simp [wv]
theorem wv_of {L : List Int} (h : ∀ r ∈ L, (Lit.int .u64 r).wf = true) : ∃ K : List (BitVec 64), K.length = L.length ∧ L.map (fun v => V.int .u64 v) = wv K := by
  refine ⟨L.map (BitVec.ofInt 64), by simp, ?_⟩
  unfold wv
  rw [List.map_map]
  refine List.map_congr_left fun r hr => ?_
  obtain ⟨n, rfl, hn⟩ := u64_nat (h r hr)
  exact wd_lit (by omega) (by omega)
end Go.Proofs.Ytenncnbaoejekaa.Ev

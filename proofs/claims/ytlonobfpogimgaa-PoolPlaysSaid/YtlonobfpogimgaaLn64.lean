/-
  A contract of package math/bits: Len64 of any word.
-/
import Derived.Test.YtlonobfpogimgaaSrBH
import Derived.Test.YtlonobfpogimgaaTySort
import Derived.Test.YtlonobfpogimgaaStr
import Derived.Test.YtlonobfpogimgaaEx
set_option linter.unusedSimpArgs false
set_option linter.unusedVariables false
namespace Go.Proofs.Ytlonobfpogimgaa
open Go.RowKit Ev
/-! ### plain -/
def lenN (u : Nat) : Nat := if u = 0 then 0 else u.log2 + 1
theorem lenN_eq {u n : Nat} (h1 : u < 2 ^ n) (h2 : 0 < u → 0 < n ∧ 2 ^ (n - 1) ≤ u) (h3 : u = 0 → n = 0) : lenN u = n := by
  unfold lenN
  by_cases h : u = 0
  · rw [if_pos h, h3 h]
  · rw [if_neg h]
    obtain ⟨h4, h5⟩ := h2 (by omega)
    have k1 : u.log2 < n := (Nat.log2_lt h).2 h1
    have k2 : n - 1 ≤ u.log2 := (Nat.le_log2 h).2 h5
    omega
theorem lenN_sh {u s x l : Nat} (hx : u / 2 ^ s = x) (h1 : x < 2 ^ l) (h2 : 0 < x → 0 < l ∧ 2 ^ (l - 1) ≤ x) (h0 : x = 0 → l = 0 ∧ s = 0) : lenN u = s + l := by
  have hp : 0 < 2 ^ s := Nat.pow_pos (by omega)
  refine lenN_eq ?_ (fun hu => ?_) fun hu => ?_
  · rw [Nat.pow_add, Nat.mul_comm]
    rw [← hx, Nat.div_lt_iff_lt_mul hp] at h1
    exact h1
  · by_cases hz : x = 0
    · obtain ⟨rfl, rfl⟩ := h0 hz
      simp at hx
      omega
    · obtain ⟨h3, h4⟩ := h2 (by omega)
      refine ⟨by omega, ?_⟩
      have e : s + l - 1 = (l - 1) + s := by omega
      rw [e, Nat.pow_add]
      rw [← hx] at h4
      exact (Nat.le_div_iff_mul_le hp).1 h4
  · subst hu
    simp at hx
    obtain ⟨rfl, rfl⟩ := h0 hx.symm
    rfl
def l8 (k : Nat) : Nat := lenN k
end Go.Proofs.Ytlonobfpogimgaa
namespace Go.Proofs.Ytlonobfpogimgaa
open Go.RowKit Ev
def len8L : List Nat := [0, 1, 2, 2, 3, 3, 3, 3, 4, 4, 4, 4, 4, 4, 4, 4, 5, 5, 5, 5, 5, 5, 5, 5, 5, 5, 5, 5, 5, 5, 5, 5, 6, 6, 6, 6, 6, 6, 6, 6, 6, 6, 6, 6, 6, 6, 6, 6, 6, 6, 6, 6, 6, 6, 6, 6, 6, 6, 6, 6, 6, 6, 6, 6, 7, 7, 7, 7, 7, 7, 7, 7, 7, 7, 7, 7, 7, 7, 7, 7, 7, 7, 7, 7, 7, 7, 7, 7, 7, 7, 7, 7, 7, 7, 7, 7, 7, 7, 7, 7, 7, 7, 7, 7, 7, 7, 7, 7, 7, 7, 7, 7, 7, 7, 7, 7, 7, 7, 7, 7, 7, 7, 7, 7, 7, 7, 7, 7, 8, 8, 8, 8, 8, 8, 8, 8, 8, 8, 8, 8, 8, 8, 8, 8, 8, 8, 8, 8, 8, 8, 8, 8, 8, 8, 8, 8, 8, 8, 8, 8, 8, 8, 8, 8, 8, 8, 8, 8, 8, 8, 8, 8, 8, 8, 8, 8, 8, 8, 8, 8, 8, 8, 8, 8, 8, 8, 8, 8, 8, 8, 8, 8, 8, 8, 8, 8, 8, 8, 8, 8, 8, 8, 8, 8, 8, 8, 8, 8, 8, 8, 8, 8, 8, 8, 8, 8, 8, 8, 8, 8, 8, 8, 8, 8, 8, 8, 8, 8, 8, 8, 8, 8, 8, 8, 8, 8, 8, 8, 8, 8, 8, 8, 8, 8, 8, 8, 8, 8, 8, 8, 8, 8, 8, 8, 8, 8]
theorem len8_all : ((List.range 256).all fun k => len8L[k]? == some (lenN k)) = true := by kernel_rfl
theorem len8_at {k : Nat} (hk : k < 256) : len8L[k]? = some (lenN k) := by
  have := List.all_eq_true.1 len8_all k (List.mem_range.2 hk)
  simpa using this
theorem idx8 {st : St} {k : Nat} (hk : k < 256) : indexK Try.prog st 9 (.s [0, 1, 2, 2, 3, 3, 3, 3, 4, 4, 4, 4, 4, 4, 4, 4, 5, 5, 5, 5, 5, 5, 5, 5, 5, 5, 5, 5, 5, 5, 5, 5, 6, 6, 6, 6, 6, 6, 6, 6, 6, 6, 6, 6, 6, 6, 6, 6, 6, 6, 6, 6, 6, 6, 6, 6, 6, 6, 6, 6, 6, 6, 6, 6, 7, 7, 7, 7, 7, 7, 7, 7, 7, 7, 7, 7, 7, 7, 7, 7, 7, 7, 7, 7, 7, 7, 7, 7, 7, 7, 7, 7, 7, 7, 7, 7, 7, 7, 7, 7, 7, 7, 7, 7, 7, 7, 7, 7, 7, 7, 7, 7, 7, 7, 7, 7, 7, 7, 7, 7, 7, 7, 7, 7, 7, 7, 7, 7, 8, 8, 8, 8, 8, 8, 8, 8, 8, 8, 8, 8, 8, 8, 8, 8, 8, 8, 8, 8, 8, 8, 8, 8, 8, 8, 8, 8, 8, 8, 8, 8, 8, 8, 8, 8, 8, 8, 8, 8, 8, 8, 8, 8, 8, 8, 8, 8, 8, 8, 8, 8, 8, 8, 8, 8, 8, 8, 8, 8, 8, 8, 8, 8, 8, 8, 8, 8, 8, 8, 8, 8, 8, 8, 8, 8, 8, 8, 8, 8, 8, 8, 8, 8, 8, 8, 8, 8, 8, 8, 8, 8, 8, 8, 8, 8, 8, 8, 8, 8, 8, 8, 8, 8, 8, 8, 8, 8, 8, 8, 8, 8, 8, 8, 8, 8, 8, 8, 8, 8, 8, 8, 8, 8, 8, 8, 8, 8]) k = some (.int .u8 (lenN k : Int), st) := indexK_str un9 len8L k (lenN k) (len8_at hk)
theorem lenN_8 {k : Nat} (hk : k < 256) : lenN k ≤ 8 ∧ k < 2 ^ lenN k ∧ (0 < k → 0 < lenN k ∧ 2 ^ (lenN k - 1) ≤ k) := by
  unfold lenN
  by_cases h : k = 0
  · subst h; simp
  · rw [if_neg h]
    have h1 : k.log2 < 8 := (Nat.log2_lt h).2 hk
    exact ⟨by omega, Nat.lt_log2_self, fun _ => ⟨by omega, Nat.log2_self_le h⟩⟩
theorem len_sh {b : BitVec 64} {s x : Nat} (hx : b.toNat / 2 ^ s = x) (hk : x < 256) (h0 : x = 0 → s = 0) : lenN b.toNat = s + lenN x := by
  obtain ⟨_, h2, h3⟩ := lenN_8 hk
  exact lenN_sh hx h2 h3 fun h => ⟨by rw [h]; rfl, h0 h⟩
theorem shr_nat (b : BitVec 64) (s : Nat) : (b >>> s).toNat = b.toNat / 2 ^ s := by rw [BitVec.toNat_ushiftRight, Nat.shiftRight_eq_div_pow]
theorem wrap_i {n : Int} (h1 : -9223372036854775808 ≤ n) (h2 : n < 9223372036854775808) : IntKind.i64.wrap n = n := by
  simp only [IntKind.wrap, IntKind.signed, IntKind.bits]; simp; omega
theorem wr8 : IntKind.i64.wrap 8 = 8 := by decide
theorem wr16 : IntKind.i64.wrap 16 = 16 := by decide
theorem wr24 : IntKind.i64.wrap 24 = 24 := by decide
theorem wr32 : IntKind.i64.wrap 32 = 32 := by decide
theorem wr40 : IntKind.i64.wrap 40 = 40 := by decide
theorem wr48 : IntKind.i64.wrap 48 = 48 := by decide
theorem wr56 : IntKind.i64.wrap 56 = 56 := by decide
set_option maxRecDepth 20000 in
set_option maxHeartbeats 4000000 in
theorem len64_any (st : St) (b : BitVec 64) (nt : Nat) :
    Gd (callL Try.prog ⟨false, [], 0, nt⟩ 68 [wd b] st) fun r => r.1 = .int .i64 (lenN b.toNat : Int) ∧ r.2 = st := by
  rw [Gd_callL Try.func68 rfl]
  have hcv : ∀ (cx : Cx) (x : BitVec 64), x.toNat < 256 → convE Try.prog cx st 58 5 (wd x) = some (.int .u8 (x.toNat : Int), st) := fun cx x hx => by
    have h := conv_int (P := Try.prog) (c := cx) (st := st) (src := 58) (dst := 5) (k' := .u64) (by rw [un58]; rfl) un5 (x.toNat : Int)
    rw [show IntKind.u8.wrap (x.toNat : Int) = (x.toNat : Int) by simp only [IntKind.wrap, IntKind.signed, IntKind.bits]; simp; omega] at h
    exact h
  have hc2 : ∀ (cx : Cx) (K : Int), convE Try.prog cx st 5 3 (.int .u8 K) = some (.int .i64 (IntKind.i64.wrap K), st) := fun cx K => conv_int (by rw [un5]; rfl) un3 K
  have n1 : ∀ {x y : BitVec 64}, ¬ x ≤ y → y.toNat < x.toNat := fun {x y} h => by rw [BitVec.le_def] at h; omega
  have y1 : ∀ {x y : BitVec 64}, x ≤ y → x.toNat ≤ y.toNat := fun {x y} h => by rw [BitVec.le_def] at h; exact h
  have e1 : (4294967296#64).toNat = 2 ^ 32 := rfl
  have e2 : (65536#64).toNat = 2 ^ 16 := rfl
  have e3 : (256#64).toNat = 2 ^ 8 := rfl
  have hlt := b.isLt
  simp [evOp_call, sets, T.get_set]
  by_cases c1 : 4294967296#64 ≤ b
  case pos =>
    simp [evOp_call, sets, T.get_set, c1, wr8, wr16, wr24, wr32, wr40, wr48, wr56]
    by_cases c2 : 65536#64 ≤ (b >>> 32)
    case pos =>
      simp [evOp_call, sets, T.get_set, c2, wr8, wr16, wr24, wr32, wr40, wr48, wr56]
      by_cases c3 : 256#64 ≤ (b >>> 48)
      case pos =>
        have k1 := y1 c1; have k2 := y1 c2; have k3 := y1 c3
        simp only [shr_nat] at k1 k2 k3
        simp only [e1, e2, e3] at k1 k2 k3
        obtain ⟨x, hx⟩ : ∃ x, x = (b >>> 56).toNat := ⟨_, rfl⟩
        have hs : b.toNat / 2 ^ 56 = x := by rw [hx]; simp only [shr_nat]
        have hb : x < 256 := by omega
        have hl := (lenN_8 hb).1
        have he : lenN b.toNat = 56 + lenN x := len_sh hs hb (by intro h; omega)
        have hw : IntKind.i64.wrap (lenN x : Int) = (lenN x : Int) := wrap_i (by omega) (by omega)
        have hw2 : IntKind.i64.wrap (56 + (lenN x : Int)) = (56 + lenN x : Int) := wrap_i (by omega) (by omega)
        have hcb : ∀ cx : Cx, convE Try.prog cx st 58 5 (wd (b >>> 56)) = some (.int .u8 (x : Int), st) := fun cx => by rw [hx]; exact hcv cx _ (by rw [← hx]; exact hb)
        clear hx hcv
        rw [he]
        simp [evOp_call, sets, T.get_set, c3, hcb, hc2, idx8 hb, hw, hw2, wr8, wr16, wr24, wr32, wr40, wr48, wr56]
      case neg =>
        have k1 := y1 c1; have k2 := y1 c2; have k3 := n1 c3
        simp only [shr_nat] at k1 k2 k3
        simp only [e1, e2, e3] at k1 k2 k3
        obtain ⟨x, hx⟩ : ∃ x, x = (b >>> 48).toNat := ⟨_, rfl⟩
        have hs : b.toNat / 2 ^ 48 = x := by rw [hx]; simp only [shr_nat]
        have hb : x < 256 := by omega
        have hl := (lenN_8 hb).1
        have he : lenN b.toNat = 48 + lenN x := len_sh hs hb (by intro h; omega)
        have hw : IntKind.i64.wrap (lenN x : Int) = (lenN x : Int) := wrap_i (by omega) (by omega)
        have hw2 : IntKind.i64.wrap (48 + (lenN x : Int)) = (48 + lenN x : Int) := wrap_i (by omega) (by omega)
        have hcb : ∀ cx : Cx, convE Try.prog cx st 58 5 (wd (b >>> 48)) = some (.int .u8 (x : Int), st) := fun cx => by rw [hx]; exact hcv cx _ (by rw [← hx]; exact hb)
        clear hx hcv
        rw [he]
        simp [evOp_call, sets, T.get_set, c3, hcb, hc2, idx8 hb, hw, hw2, wr8, wr16, wr24, wr32, wr40, wr48, wr56]
    case neg =>
      simp [evOp_call, sets, T.get_set, c2, wr8, wr16, wr24, wr32, wr40, wr48, wr56]
      by_cases c3 : 256#64 ≤ (b >>> 32)
      case pos =>
        have k1 := y1 c1; have k2 := n1 c2; have k3 := y1 c3
        simp only [shr_nat] at k1 k2 k3
        simp only [e1, e2, e3] at k1 k2 k3
        obtain ⟨x, hx⟩ : ∃ x, x = (b >>> 40).toNat := ⟨_, rfl⟩
        have hs : b.toNat / 2 ^ 40 = x := by rw [hx]; simp only [shr_nat]
        have hb : x < 256 := by omega
        have hl := (lenN_8 hb).1
        have he : lenN b.toNat = 40 + lenN x := len_sh hs hb (by intro h; omega)
        have hw : IntKind.i64.wrap (lenN x : Int) = (lenN x : Int) := wrap_i (by omega) (by omega)
        have hw2 : IntKind.i64.wrap (40 + (lenN x : Int)) = (40 + lenN x : Int) := wrap_i (by omega) (by omega)
        have hcb : ∀ cx : Cx, convE Try.prog cx st 58 5 (wd (b >>> 40)) = some (.int .u8 (x : Int), st) := fun cx => by rw [hx]; exact hcv cx _ (by rw [← hx]; exact hb)
        clear hx hcv
        rw [he]
        simp [evOp_call, sets, T.get_set, c3, hcb, hc2, idx8 hb, hw, hw2, wr8, wr16, wr24, wr32, wr40, wr48, wr56]
      case neg =>
        have k1 := y1 c1; have k2 := n1 c2; have k3 := n1 c3
        simp only [shr_nat] at k1 k2 k3
        simp only [e1, e2, e3] at k1 k2 k3
        obtain ⟨x, hx⟩ : ∃ x, x = (b >>> 32).toNat := ⟨_, rfl⟩
        have hs : b.toNat / 2 ^ 32 = x := by rw [hx]; simp only [shr_nat]
        have hb : x < 256 := by omega
        have hl := (lenN_8 hb).1
        have he : lenN b.toNat = 32 + lenN x := len_sh hs hb (by intro h; omega)
        have hw : IntKind.i64.wrap (lenN x : Int) = (lenN x : Int) := wrap_i (by omega) (by omega)
        have hw2 : IntKind.i64.wrap (32 + (lenN x : Int)) = (32 + lenN x : Int) := wrap_i (by omega) (by omega)
        have hcb : ∀ cx : Cx, convE Try.prog cx st 58 5 (wd (b >>> 32)) = some (.int .u8 (x : Int), st) := fun cx => by rw [hx]; exact hcv cx _ (by rw [← hx]; exact hb)
        clear hx hcv
        rw [he]
        simp [evOp_call, sets, T.get_set, c3, hcb, hc2, idx8 hb, hw, hw2, wr8, wr16, wr24, wr32, wr40, wr48, wr56]
  case neg =>
    simp [evOp_call, sets, T.get_set, c1, wr8, wr16, wr24, wr32, wr40, wr48, wr56]
    by_cases c2 : 65536#64 ≤ b
    case pos =>
      simp [evOp_call, sets, T.get_set, c2, wr8, wr16, wr24, wr32, wr40, wr48, wr56]
      by_cases c3 : 256#64 ≤ (b >>> 16)
      case pos =>
        have k1 := n1 c1; have k2 := y1 c2; have k3 := y1 c3
        simp only [shr_nat] at k1 k2 k3
        simp only [e1, e2, e3] at k1 k2 k3
        obtain ⟨x, hx⟩ : ∃ x, x = (b >>> 24).toNat := ⟨_, rfl⟩
        have hs : b.toNat / 2 ^ 24 = x := by rw [hx]; simp only [shr_nat]
        have hb : x < 256 := by omega
        have hl := (lenN_8 hb).1
        have he : lenN b.toNat = 24 + lenN x := len_sh hs hb (by intro h; omega)
        have hw : IntKind.i64.wrap (lenN x : Int) = (lenN x : Int) := wrap_i (by omega) (by omega)
        have hw2 : IntKind.i64.wrap (24 + (lenN x : Int)) = (24 + lenN x : Int) := wrap_i (by omega) (by omega)
        have hcb : ∀ cx : Cx, convE Try.prog cx st 58 5 (wd (b >>> 24)) = some (.int .u8 (x : Int), st) := fun cx => by rw [hx]; exact hcv cx _ (by rw [← hx]; exact hb)
        clear hx hcv
        rw [he]
        simp [evOp_call, sets, T.get_set, c3, hcb, hc2, idx8 hb, hw, hw2, wr8, wr16, wr24, wr32, wr40, wr48, wr56]
      case neg =>
        have k1 := n1 c1; have k2 := y1 c2; have k3 := n1 c3
        simp only [shr_nat] at k1 k2 k3
        simp only [e1, e2, e3] at k1 k2 k3
        obtain ⟨x, hx⟩ : ∃ x, x = (b >>> 16).toNat := ⟨_, rfl⟩
        have hs : b.toNat / 2 ^ 16 = x := by rw [hx]; simp only [shr_nat]
        have hb : x < 256 := by omega
        have hl := (lenN_8 hb).1
        have he : lenN b.toNat = 16 + lenN x := len_sh hs hb (by intro h; omega)
        have hw : IntKind.i64.wrap (lenN x : Int) = (lenN x : Int) := wrap_i (by omega) (by omega)
        have hw2 : IntKind.i64.wrap (16 + (lenN x : Int)) = (16 + lenN x : Int) := wrap_i (by omega) (by omega)
        have hcb : ∀ cx : Cx, convE Try.prog cx st 58 5 (wd (b >>> 16)) = some (.int .u8 (x : Int), st) := fun cx => by rw [hx]; exact hcv cx _ (by rw [← hx]; exact hb)
        clear hx hcv
        rw [he]
        simp [evOp_call, sets, T.get_set, c3, hcb, hc2, idx8 hb, hw, hw2, wr8, wr16, wr24, wr32, wr40, wr48, wr56]
    case neg =>
      simp [evOp_call, sets, T.get_set, c2, wr8, wr16, wr24, wr32, wr40, wr48, wr56]
      by_cases c3 : 256#64 ≤ b
      case pos =>
        have k1 := n1 c1; have k2 := n1 c2; have k3 := y1 c3
        simp only [e1, e2, e3] at k1 k2 k3
        obtain ⟨x, hx⟩ : ∃ x, x = (b >>> 8).toNat := ⟨_, rfl⟩
        have hs : b.toNat / 2 ^ 8 = x := by rw [hx]; simp only [shr_nat]
        have hb : x < 256 := by omega
        have hl := (lenN_8 hb).1
        have he : lenN b.toNat = 8 + lenN x := len_sh hs hb (by intro h; omega)
        have hw : IntKind.i64.wrap (lenN x : Int) = (lenN x : Int) := wrap_i (by omega) (by omega)
        have hw2 : IntKind.i64.wrap (8 + (lenN x : Int)) = (8 + lenN x : Int) := wrap_i (by omega) (by omega)
        have hcb : ∀ cx : Cx, convE Try.prog cx st 58 5 (wd (b >>> 8)) = some (.int .u8 (x : Int), st) := fun cx => by rw [hx]; exact hcv cx _ (by rw [← hx]; exact hb)
        clear hx hcv
        rw [he]
        simp [evOp_call, sets, T.get_set, c3, hcb, hc2, idx8 hb, hw, hw2, wr8, wr16, wr24, wr32, wr40, wr48, wr56]
      case neg =>
        have k1 := n1 c1; have k2 := n1 c2; have k3 := n1 c3
        simp only [e1, e2, e3] at k1 k2 k3
        obtain ⟨x, hx⟩ : ∃ x, x = b.toNat := ⟨_, rfl⟩
        have hs : b.toNat / 2 ^ 0 = x := by rw [hx]; omega
        have hb : x < 256 := by omega
        have hl := (lenN_8 hb).1
        have he : lenN b.toNat = 0 + lenN x := len_sh hs hb (by intro h; omega)
        have hw : IntKind.i64.wrap (lenN x : Int) = (lenN x : Int) := wrap_i (by omega) (by omega)
        have hw2 : IntKind.i64.wrap (0 + (lenN x : Int)) = (0 + lenN x : Int) := wrap_i (by omega) (by omega)
        have hcb : ∀ cx : Cx, convE Try.prog cx st 58 5 (wd b) = some (.int .u8 (x : Int), st) := fun cx => by rw [hx]; exact hcv cx _ (by rw [← hx]; exact hb)
        clear hx hcv
        rw [he]
        simp [evOp_call, sets, T.get_set, c3, hcb, hc2, idx8 hb, hw, hw2, wr8, wr16, wr24, wr32, wr40, wr48, wr56]
end Go.Proofs.Ytlonobfpogimgaa

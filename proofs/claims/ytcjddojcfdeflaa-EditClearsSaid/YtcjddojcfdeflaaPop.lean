/-
  PLAIN: the count of a word's bits, as the standard library reckons it.
-/
namespace Go.Proofs.Ytcjddojcfdeflaa.Pop
/-- how many of the lowest n bits are set -/
def pc (x : Nat) : Nat → Nat
  | 0 => 0
  | n + 1 => pc x n + (x.testBit n).toNat
theorem pc_le (x : Nat) : ∀ n, pc x n ≤ n
  | 0 => Nat.le_refl _
  | n + 1 => by
    have h := pc_le x n
    have : (x.testBit n).toNat ≤ 1 := by cases x.testBit n <;> decide
    show pc x n + _ ≤ _
    omega
theorem pc_congr {x y : Nat} : ∀ n, (∀ i, i < n → x.testBit i = y.testBit i) → pc x n = pc y n
  | 0, _ => rfl
  | n + 1, h => by
    show pc x n + _ = pc y n + _
    rw [pc_congr n fun i hi => h i (by omega), h n (by omega)]
theorem pc_app (b : Nat) (hb : b < 256) (a : Nat) : ∀ n, pc (2 ^ 8 * a + b) (8 + n) = pc b 8 + pc a n
  | 0 => by
    show pc _ 8 = _
    rw [pc_congr (y := b) 8 fun i hi => by rw [Nat.testBit_two_pow_mul_add _ (by simpa using hb), if_pos hi]]
    rfl
  | n + 1 => by
    show pc _ (8 + n) + (Nat.testBit _ (8 + n)).toNat = pc b 8 + (pc a n + (a.testBit n).toNat)
    rw [pc_app b hb a n, Nat.testBit_two_pow_mul_add _ (by simpa using hb), if_neg (by omega), show 8 + n - 8 = n by omega]
    omega
theorem and_parts {a b c d : Nat} (hb : b < 256) (hd : d < 256) : (2 ^ 8 * a + b) &&& (2 ^ 8 * c + d) = 2 ^ 8 * (a &&& c) + (b &&& d) := by
  have hbd : b &&& d < 256 := Nat.lt_of_le_of_lt Nat.and_le_left hb
  apply Nat.eq_of_testBit_eq
  intro i
  rw [Nat.testBit_and, Nat.testBit_two_pow_mul_add _ (by simpa using hb), Nat.testBit_two_pow_mul_add _ (by simpa using hd), Nat.testBit_two_pow_mul_add _ (by simpa using hbd)]
  by_cases h : i < 8
  · simp [h, Nat.testBit_and]
  · simp [h, Nat.testBit_and]
def f1 (d : Nat) : Nat := (d / 2 &&& 0x55) + (d &&& 0x55)
def f2 (d : Nat) : Nat := (d / 4 &&& 0x33) + (d &&& 0x33)
def f3 (d : Nat) : Nat := (d / 16 + d) &&& 0x0f
theorem small1 : ∀ d, d < 256 → ∀ e, e < 2 → (e * 128 + d / 2) &&& 0x55 = d / 2 &&& 0x55 := by decide +kernel
theorem small2 : ∀ d, d < 256 → ∀ e, e < 4 → (e * 64 + d / 4) &&& 0x33 = d / 4 &&& 0x33 := by decide +kernel
theorem le1 : ∀ d, d < 256 → f1 d < 256 ∧ f2 (f1 d) < 256 ∧ f2 (f1 d) / 16 + f2 (f1 d) % 16 ≤ 8 ∧ f2 (f1 d) % 16 ≤ 4 ∧ f2 (f1 d) / 16 ≤ 4 ∧ f3 (f2 (f1 d)) = pc d 8 := by decide +kernel
def s1 (m x : Nat) : Nat := (x >>> 1 &&& m) + (x &&& m)
def s2 (m x : Nat) : Nat := (x >>> 2 &&& m) + (x &&& m)
def s3 (m x : Nat) : Nat := ((x >>> 4) + x) &&& m
theorem s1_step (m a d : Nat) (hd : d < 256) : s1 (2 ^ 8 * m + 0x55) (2 ^ 8 * a + d) = 2 ^ 8 * s1 m a + f1 d := by
  have h : (2 ^ 8 * a + d) >>> 1 = 2 ^ 8 * (a >>> 1) + (a % 2 * 128 + d / 2) := by
    simp only [Nat.shiftRight_eq_div_pow]; omega
  have hlt : a % 2 * 128 + d / 2 < 256 := by omega
  unfold s1
  rw [h, and_parts hlt (by decide), and_parts hd (by decide), small1 d hd _ (Nat.mod_lt _ (by decide))]
  unfold f1
  omega
theorem s2_step (m a d : Nat) (hd : d < 256) : s2 (2 ^ 8 * m + 0x33) (2 ^ 8 * a + d) = 2 ^ 8 * s2 m a + f2 d := by
  have h : (2 ^ 8 * a + d) >>> 2 = 2 ^ 8 * (a >>> 2) + (a % 4 * 64 + d / 4) := by
    simp only [Nat.shiftRight_eq_div_pow]; omega
  have hlt : a % 4 * 64 + d / 4 < 256 := by omega
  unfold s2
  rw [h, and_parts hlt (by decide), and_parts hd (by decide), small2 d hd _ (Nat.mod_lt _ (by decide))]
  unfold f2
  omega
theorem and15 : ∀ k, k < 16 → ∀ l, l < 16 → ∀ e, e < 16 → (e * 16 + k + 16 * l) &&& 0x0f = k := by decide +kernel
/-- the fields of four bits hold at most four each -/
def low (x : Nat) : Nat → Prop
  | 0 => True
  | n + 1 => x % 16 ≤ 4 ∧ x / 16 % 16 ≤ 4 ∧ low (x / 256) n
theorem s3_step (m a d : Nat) (hd : d < 256) (h1 : d % 16 ≤ 4) (h2 : d / 16 ≤ 4) (ha : a % 16 ≤ 4) : s3 (2 ^ 8 * m + 0x0f) (2 ^ 8 * a + d) = 2 ^ 8 * s3 m a + f3 d := by
  have h : (2 ^ 8 * a + d) >>> 4 + (2 ^ 8 * a + d) = 2 ^ 8 * (a >>> 4 + a) + (a % 16 * 16 + d / 16 + d) := by
    simp only [Nat.shiftRight_eq_div_pow]; omega
  have hlt : a % 16 * 16 + d / 16 + d < 256 := by omega
  unfold s3
  rw [h, and_parts hlt (by decide)]
  congr 1
  unfold f3
  have e1 : a % 16 * 16 + d / 16 + d = a % 16 * 16 + (d / 16 + d % 16) + 16 * (d / 16) := by omega
  have e2 : d / 16 + d = 0 * 16 + (d / 16 + d % 16) + 16 * (d / 16) := by omega
  rw [e1, e2, and15 _ (by omega) _ (by omega) _ (by omega), and15 _ (by omega) _ (by omega) _ (by decide)]
def m1 : Nat → Nat
  | 0 => 0
  | n + 1 => 2 ^ 8 * m1 n + 0x55
def m2 : Nat → Nat
  | 0 => 0
  | n + 1 => 2 ^ 8 * m2 n + 0x33
def m3 : Nat → Nat
  | 0 => 0
  | n + 1 => 2 ^ 8 * m3 n + 0x0f
/-- the sum of so many bytes -/
def bsum (x : Nat) : Nat → Nat
  | 0 => 0
  | n + 1 => x % 256 + bsum (x / 256) n
theorem folded : ∀ (n x : Nat), x < 256 ^ n → let y := s2 (m2 n) (s1 (m1 n) x); y % 16 ≤ 4 ∧ bsum (s3 (m3 n) y) n = pc x (8 * n) ∧ (∀ i, s3 (m3 n) y / 256 ^ i % 256 ≤ 8) ∧ s3 (m3 n) y < 256 ^ n
  | 0, x, h => by
    have h0 : x = 0 := by simpa using h
    subst h0
    refine ⟨by decide, rfl, fun i => ?_, by decide⟩
    have : s3 (m3 0) (s2 (m2 0) (s1 (m1 0) 0)) = 0 := by decide
    rw [this]; simp
  | n + 1, x, h => by
    have hd : x % 256 < 256 := Nat.mod_lt _ (by decide)
    have hx : x = 2 ^ 8 * (x / 256) + x % 256 := by omega
    have hlt : x / 256 < 256 ^ n := by
      rw [Nat.pow_succ] at h
      exact Nat.div_lt_of_lt_mul (by rw [Nat.mul_comm]; exact h)
    obtain ⟨i1, i2, i3, i4⟩ := folded n (x / 256) hlt
    obtain ⟨b1, b2, b3, b4, b5, b6⟩ := le1 (x % 256) hd
    have e1 : s1 (m1 (n + 1)) x = 2 ^ 8 * s1 (m1 n) (x / 256) + f1 (x % 256) := by
      conv => lhs; rw [hx]
      exact s1_step _ _ _ hd
    have e2 : s2 (m2 (n + 1)) (s1 (m1 (n + 1)) x) = 2 ^ 8 * s2 (m2 n) (s1 (m1 n) (x / 256)) + f2 (f1 (x % 256)) := by
      rw [e1]; exact s2_step _ _ _ b1
    have e3 : s3 (m3 (n + 1)) (s2 (m2 (n + 1)) (s1 (m1 (n + 1)) x)) = 2 ^ 8 * s3 (m3 n) (s2 (m2 n) (s1 (m1 n) (x / 256))) + f3 (f2 (f1 (x % 256))) := by
      rw [e2]; exact s3_step _ _ _ b2 b4 b5 i1
    have hp : pc (x % 256) 8 ≤ 8 := pc_le _ 8
    intro y
    have hy : y = s2 (m2 (n + 1)) (s1 (m1 (n + 1)) x) := rfl
    refine ⟨?_, ?_, ?_, ?_⟩
    · rw [hy, e2]; omega
    · rw [hy, e3, b6]
      show (2 ^ 8 * _ + pc (x % 256) 8) % 256 + bsum ((2 ^ 8 * _ + pc (x % 256) 8) / 256) n = _
      rw [show (2 ^ 8 * s3 (m3 n) (s2 (m2 n) (s1 (m1 n) (x / 256))) + pc (x % 256) 8) % 256 = pc (x % 256) 8 by omega, show (2 ^ 8 * s3 (m3 n) (s2 (m2 n) (s1 (m1 n) (x / 256))) + pc (x % 256) 8) / 256 = s3 (m3 n) (s2 (m2 n) (s1 (m1 n) (x / 256))) by omega]
      have hk := pc_app (x % 256) hd (x / 256) (8 * n)
      rw [← hx] at hk
      rw [show 8 * (n + 1) = 8 + 8 * n by omega, hk, i2]
    · intro i
      rw [hy, e3, b6]
      cases i with
      | zero => simp only [Nat.pow_zero, Nat.div_one]; omega
      | succ i =>
        rw [show 256 ^ (i + 1) = 256 * 256 ^ i by rw [Nat.pow_succ, Nat.mul_comm], ← Nat.div_div_eq_div_mul, show (2 ^ 8 * s3 (m3 n) (s2 (m2 n) (s1 (m1 n) (x / 256))) + pc (x % 256) 8) / 256 = s3 (m3 n) (s2 (m2 n) (s1 (m1 n) (x / 256))) by omega]
        exact i3 i
    · rw [hy, e3, b6, show 256 ^ (n + 1) = 256 * 256 ^ n by rw [Nat.pow_succ, Nat.mul_comm]]
      have hq := i4
      omega
def val : List Nat → Nat
  | [] => 0
  | d :: l => d + 256 * val l
theorem val_div (d : Nat) (l : List Nat) (h : d < 256) : val (d :: l) / 256 = val l := by
  show (d + 256 * val l) / 256 = val l
  omega
theorem val_lt : ∀ (l : List Nat), (∀ d ∈ l, d < 256) → val l < 256 ^ l.length
  | [], _ => by decide
  | d :: l, h => by
    have ih := val_lt l fun x hx => h x (by simp [hx])
    have hd := h d (by simp)
    show d + 256 * val l < 256 ^ (l.length + 1)
    rw [show 256 ^ (l.length + 1) = 256 * 256 ^ l.length by rw [Nat.pow_succ, Nat.mul_comm]]
    omega
theorem val_mod (l : List Nat) (h : ∀ d ∈ l, d < 256) (h8 : l.length = 8) : val l % 2 ^ 64 = val l := by
  have := val_lt l h
  rw [h8] at this
  exact Nat.mod_eq_of_lt (Nat.lt_of_lt_of_eq this (by decide))
def dig (z : Nat) : Nat → List Nat
  | 0 => []
  | n + 1 => z % 256 :: dig (z / 256) n
theorem val_dig : ∀ n z, z < 256 ^ n → val (dig z n) = z
  | 0, z, h => by have : z = 0 := by simpa using h
                  subst this; rfl
  | n + 1, z, h => by
    have hlt : z / 256 < 256 ^ n := by
      rw [Nat.pow_succ] at h
      exact Nat.div_lt_of_lt_mul (by rw [Nat.mul_comm]; exact h)
    show z % 256 + 256 * val (dig (z / 256) n) = z
    rw [val_dig n _ hlt]; omega
theorem dig_le : ∀ n z, (∀ i, z / 256 ^ i % 256 ≤ 8) → ∀ d ∈ dig z n, d ≤ 8
  | 0, _, _, _, h => by cases h
  | n + 1, z, h, d, hd => by
    rcases List.mem_cons.1 hd with rfl | hd
    · simpa using h 0
    · refine dig_le n (z / 256) (fun i => ?_) d hd
      have := h (i + 1)
      rwa [show 256 ^ (i + 1) = 256 * 256 ^ i by rw [Nat.pow_succ, Nat.mul_comm], ← Nat.div_div_eq_div_mul] at this
theorem bsum_dig : ∀ n z, bsum z n = (dig z n).foldr (· + ·) 0
  | 0, _ => rfl
  | n + 1, z => by
    show z % 256 + bsum (z / 256) n = z % 256 + _
    rw [bsum_dig n]
/-- the last three steps, over eight bytes of at most eight each -/
theorem tailV (d0 d1 d2 d3 d4 d5 d6 d7 : Nat) (h0 : d0 ≤ 8) (h1 : d1 ≤ 8) (h2 : d2 ≤ 8) (h3 : d3 ≤ 8) (h4 : d4 ≤ 8) (h5 : d5 ≤ 8) (h6 : d6 ≤ 8) (h7 : d7 ≤ 8) (z y x : Nat) (hz : z = val [d0, d1, d2, d3, d4, d5, d6, d7])
    (hy : y = (z + z >>> 8) % 2 ^ 64) (hx : x = (y + y >>> 16) % 2 ^ 64) : (x + x >>> 32) % 2 ^ 64 % 128 = d0 + d1 + d2 + d3 + d4 + d5 + d6 + d7 ∧ (x + x >>> 32) % 2 ^ 64 < 2 ^ 63 := by
  have e1 : y = val [d0 + d1, d1 + d2, d2 + d3, d3 + d4, d4 + d5, d5 + d6, d6 + d7, d7] := by
    have a1 : z >>> 8 = val [d1, d2, d3, d4, d5, d6, d7] := by rw [Nat.shiftRight_eq_div_pow, hz]; exact val_div _ _ (by omega)
    have a2 : z + z >>> 8 = val [d0 + d1, d1 + d2, d2 + d3, d3 + d4, d4 + d5, d5 + d6, d6 + d7, d7] := by
      rw [a1, hz]; simp only [val]; omega
    rw [hy, a2]
    refine val_mod _ (fun d hd => ?_) rfl
    simp only [List.mem_cons, List.not_mem_nil, or_false] at hd
    omega
  have e2 : x = val [d0 + d1 + d2 + d3, d1 + d2 + d3 + d4, d2 + d3 + d4 + d5, d3 + d4 + d5 + d6, d4 + d5 + d6 + d7, d5 + d6 + d7, d6 + d7, d7] := by
    have a1 : y >>> 16 = val [d2 + d3, d3 + d4, d4 + d5, d5 + d6, d6 + d7, d7] := by
      rw [Nat.shiftRight_eq_div_pow, show 2 ^ 16 = 256 * 256 from rfl, ← Nat.div_div_eq_div_mul, e1, val_div _ _ (by omega), val_div _ _ (by omega)]
    have a2 : y + y >>> 16 = val [d0 + d1 + d2 + d3, d1 + d2 + d3 + d4, d2 + d3 + d4 + d5, d3 + d4 + d5 + d6, d4 + d5 + d6 + d7, d5 + d6 + d7, d6 + d7, d7] := by
      rw [a1, e1]; simp only [val]; omega
    rw [hx, a2]
    refine val_mod _ (fun d hd => ?_) rfl
    simp only [List.mem_cons, List.not_mem_nil, or_false] at hd
    omega
  have a1 : x >>> 32 = val [d4 + d5 + d6 + d7, d5 + d6 + d7, d6 + d7, d7] := by
    rw [Nat.shiftRight_eq_div_pow, show 2 ^ 32 = 256 * 256 * 256 * 256 from rfl, ← Nat.div_div_eq_div_mul, ← Nat.div_div_eq_div_mul, ← Nat.div_div_eq_div_mul, e2, val_div _ _ (by omega), val_div _ _ (by omega), val_div _ _ (by omega), val_div _ _ (by omega)]
  have a2 : x + x >>> 32 = val [d0 + d1 + d2 + d3 + (d4 + d5 + d6 + d7), d1 + d2 + d3 + d4 + (d5 + d6 + d7), d2 + d3 + d4 + d5 + (d6 + d7), d3 + d4 + d5 + d6 + d7, d4 + d5 + d6 + d7, d5 + d6 + d7, d6 + d7, d7] := by
    rw [a1, e2]; simp only [val]; omega
  rw [a2, val_mod _ (fun d hd => by
    simp only [List.mem_cons, List.not_mem_nil, or_false] at hd
    omega) rfl]
  refine ⟨?_, ?_⟩
  · show (_ + 256 * _) % 128 = _
    omega
  · simp only [val, Nat.reducePow]
    omega
theorem tail8 (z y x : Nat) (h : ∀ i, z / 256 ^ i % 256 ≤ 8) (hz : z < 256 ^ 8) (hy : y = (z + z >>> 8) % 2 ^ 64) (hx : x = (y + y >>> 16) % 2 ^ 64) :
    (x + x >>> 32) % 2 ^ 64 % 128 = bsum z 8 ∧ (x + x >>> 32) % 2 ^ 64 < 2 ^ 63 := by
  have hl := dig_le 8 z h
  have hv := (val_dig 8 z hz).symm
  rw [bsum_dig]
  have hd : ∃ d0 d1 d2 d3 d4 d5 d6 d7, dig z 8 = [d0, d1, d2, d3, d4, d5, d6, d7] := ⟨_, _, _, _, _, _, _, _, rfl⟩
  obtain ⟨d0, d1, d2, d3, d4, d5, d6, d7, hd⟩ := hd
  rw [hd] at hl hv ⊢
  obtain ⟨k1, k2⟩ := tailV d0 d1 d2 d3 d4 d5 d6 d7 (hl _ (by simp)) (hl _ (by simp)) (hl _ (by simp)) (hl _ (by simp)) (hl _ (by simp)) (hl _ (by simp)) (hl _ (by simp)) (hl _ (by simp)) z y x hv hy hx
  refine ⟨?_, k2⟩
  rw [k1]
  simp only [List.foldr]
  omega
theorem ones (x : Nat) (h : x < 2 ^ 64) : bsum (s3 (m3 8) (s2 (m2 8) (s1 (m1 8) x))) 8 = pc x 64 ∧ (∀ i, s3 (m3 8) (s2 (m2 8) (s1 (m1 8) x)) / 256 ^ i % 256 ≤ 8) ∧ s3 (m3 8) (s2 (m2 8) (s1 (m1 8) x)) < 256 ^ 8 := by
  obtain ⟨_, h2, h3, h4⟩ := folded 8 x (by simpa using h)
  exact ⟨h2, h3, h4⟩
/-- the count, as it is reckoned, word by word -/
def onesR (w : BitVec 64) : BitVec 64 :=
  let x := (w >>> 1 &&& 6148914691236517205#64) + (w &&& 6148914691236517205#64)
  let x := (x >>> 2 &&& 3689348814741910323#64) + (x &&& 3689348814741910323#64)
  let x := (x >>> 4 + x) &&& 1085102592571150095#64
  let x := x + x >>> 8
  let x := x + x >>> 16
  x + x >>> 32
theorem bv_lt (b : BitVec 64) : b.toNat < 18446744073709551616 := b.isLt
theorem onesR_eq (w : BitVec 64) : (onesR w).toNat % 128 = pc w.toNat 64 ∧ (onesR w).toNat < 2 ^ 63 := by
  obtain ⟨h1, h2, h3⟩ := ones w.toNat w.isLt
  have hm1 : m1 8 = 6148914691236517205 := by decide
  have hm2 : m2 8 = 3689348814741910323 := by decide
  have hm3 : m3 8 = 1085102592571150095 := by decide
  rw [hm1, hm2, hm3] at h1 h2 h3
  have a1 : ((w >>> 1 &&& 6148914691236517205#64) + (w &&& 6148914691236517205#64)).toNat = s1 6148914691236517205 w.toNat := by
    rw [BitVec.toNat_add, BitVec.toNat_and, BitVec.toNat_and, BitVec.toNat_ushiftRight]
    show (s1 6148914691236517205 w.toNat) % 2 ^ 64 = _
    have k1 : w.toNat >>> 1 &&& 6148914691236517205 ≤ 6148914691236517205 := Nat.and_le_right
    have k2 : w.toNat &&& 6148914691236517205 ≤ 6148914691236517205 := Nat.and_le_right
    refine Nat.mod_eq_of_lt ?_
    unfold s1; omega
  generalize hx1 : (w >>> 1 &&& 6148914691236517205#64) + (w &&& 6148914691236517205#64) = x1 at a1
  have a2 : ((x1 >>> 2 &&& 3689348814741910323#64) + (x1 &&& 3689348814741910323#64)).toNat = s2 3689348814741910323 (s1 6148914691236517205 w.toNat) := by
    rw [BitVec.toNat_add, BitVec.toNat_and, BitVec.toNat_and, BitVec.toNat_ushiftRight, a1]
    show (s2 3689348814741910323 (s1 6148914691236517205 w.toNat)) % 2 ^ 64 = _
    have k1 : (s1 6148914691236517205 w.toNat) >>> 2 &&& 3689348814741910323 ≤ 3689348814741910323 := Nat.and_le_right
    have k2 : (s1 6148914691236517205 w.toNat) &&& 3689348814741910323 ≤ 3689348814741910323 := Nat.and_le_right
    refine Nat.mod_eq_of_lt ?_
    unfold s2; omega
  generalize hx2 : (x1 >>> 2 &&& 3689348814741910323#64) + (x1 &&& 3689348814741910323#64) = x2 at a2
  have b2 : x2.toNat < 2 ^ 63 := by
    rw [a2]
    have k1 : (s1 6148914691236517205 w.toNat) >>> 2 &&& 3689348814741910323 ≤ 3689348814741910323 := Nat.and_le_right
    have k2 : (s1 6148914691236517205 w.toNat) &&& 3689348814741910323 ≤ 3689348814741910323 := Nat.and_le_right
    unfold s2; omega
  have a3 : ((x2 >>> 4 + x2) &&& 1085102592571150095#64).toNat = s3 1085102592571150095 (s2 3689348814741910323 (s1 6148914691236517205 w.toNat)) := by
    rw [BitVec.toNat_and, BitVec.toNat_add, BitVec.toNat_ushiftRight, Nat.mod_eq_of_lt, a2]
    · rfl
    · rw [Nat.shiftRight_eq_div_pow]; omega
  generalize hx3 : (x2 >>> 4 + x2) &&& 1085102592571150095#64 = x3 at a3
  rw [← a3] at h1 h2 h3
  obtain ⟨k1, k2⟩ := tail8 x3.toNat (x3 + x3 >>> 8).toNat (x3 + x3 >>> 8 + (x3 + x3 >>> 8) >>> 16).toNat h2 h3 (by rw [BitVec.toNat_add, BitVec.toNat_ushiftRight]) (by rw [BitVec.toNat_add, BitVec.toNat_ushiftRight])
  have hw : onesR w = (x3 + x3 >>> 8 + (x3 + x3 >>> 8) >>> 16) + (x3 + x3 >>> 8 + (x3 + x3 >>> 8) >>> 16) >>> 32 := by
    unfold onesR
    simp only [hx1, hx2, hx3]
  rw [hw, BitVec.toNat_add, BitVec.toNat_ushiftRight]
  exact ⟨k1.trans h1, k2⟩
end Go.Proofs.Ytcjddojcfdeflaa.Pop

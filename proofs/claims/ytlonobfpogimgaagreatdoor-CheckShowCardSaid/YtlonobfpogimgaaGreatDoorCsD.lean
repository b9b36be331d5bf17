/-
  Contracts of a number's text: formatBase10.
-/
import Derived.Test.YtlonobfpogimgaaGreatDoorCsC
set_option linter.unusedSimpArgs false
set_option linter.unusedVariables false
namespace Go.Proofs.YtlonobfpogimgaaGreatDoor
open Go.RowKit Ev
theorem w32 {n : Nat} (h : n < 4294967296) : IntKind.u32.wrap (n : Int) = (n : Int) := by simp only [IntKind.wrap, IntKind.signed, IntKind.bits]; simp; omega
section
variable {st : St} {t : TypeId} {x y : Operand}
theorem b32_quo {P : Program} {a k c : Nat} (ha : a < 4294967296) (hk : k ≠ 0) (hc : c = a / k) : binE P st .quo t x y (.c (.int .u32 (a : Int))) (.c (.int .u32 (k : Int))) = some (.int .u32 (c : Int), st) := by
  rw [bin_quo, if_neg (by omega)]
  have e : ((a : Nat) : Int).tdiv (k : Int) = ((a / k : Nat) : Int) := rfl
  rw [e, w32 (Nat.lt_of_le_of_lt (Nat.div_le_self _ _) ha), hc]
theorem b32_rem {P : Program} {a k c : Nat} (hk : k ≠ 0) (hc : c = a % k) : binE P st .rem t x y (.c (.int .u32 (a : Int))) (.c (.int .u32 (k : Int))) = some (.int .u32 (c : Int), st) := by
  rw [bin_rem, if_neg (by omega), hc]
  rfl
theorem b32_mul {P : Program} {a k c : Nat} (h : c < 4294967296) (hc : c = a * k) : binE P st .mul t x y (.c (.int .u32 (a : Int))) (.c (.int .u32 (k : Int))) = some (.int .u32 (c : Int), st) := by
  rw [bin_mul, ← Int.natCast_mul, ← hc, w32 h]
end
noncomputable def dnAt (t : Nat) (e : Env) : Nat := match e.get t with
  | some (.c (.int _ k)) => k.toNat
  | _ => 0
theorem dnAt_eq {t : Nat} {e : Env} {i : IntKind} {k : Int} (h : e.get t = some (.int i k)) : dnAt t e = k.toNat := by simp [dnAt, h]
theorem dgt_at (u j r : Nat) : dgt u (j + r) = dgt (u / 10 ^ j) r := by
  unfold dgt
  rw [Nat.pow_add, Nat.div_div_eq_div_mul]
theorem dig_l0 (W : Nat) : 48 + W % 100000000 % 10000 % 100 % 10 = 48 + W / 1 % 10 := by omega
theorem dig_h0 (W : Nat) : 48 + W % 100000000 % 10000 % 100 / 10 = 48 + W / 10 % 10 := by omega
theorem dig_l1 (W : Nat) : 48 + W % 100000000 % 10000 / 100 % 10 = 48 + W / 100 % 10 := by omega
theorem dig_h1 (W : Nat) : 48 + W % 100000000 % 10000 / 100 / 10 = 48 + W / 1000 % 10 := by omega
theorem dig_l2 (W : Nat) : 48 + W % 100000000 / 10000 % 100 % 10 = 48 + W / 10000 % 10 := by omega
theorem dig_h2 (W : Nat) : 48 + W % 100000000 / 10000 % 100 / 10 = 48 + W / 100000 % 10 := by omega
theorem dig_l3 (W : Nat) : 48 + W % 100000000 / 10000 / 100 % 10 = 48 + W / 1000000 % 10 := by omega
theorem dig_h3 (W : Nat) : 48 + W % 100000000 / 10000 / 100 / 10 = 48 + W / 10000000 % 10 := by omega
def Lt10 (u nd : Nat) : Prop := u < 10 ^ nd
def upw (u j : Nat) : Nat := u / 10 ^ (8 * j)
theorem tail_lt {u nd n j W : Nat} (hu : Lt10 u nd) (hn : nd = n + 8 * j) (hw : W = upw u j) : W < 10 ^ n := by
  unfold Lt10 at hu
  unfold upw at hw
  rw [hw, Nat.div_lt_iff_lt_mul (Nat.pow_pos (by omega)), ← Nat.pow_add, ← hn]
  exact hu
theorem dt_4l0 (W : Nat) : 48 + W % 10000 % 100 % 10 = 48 + W / 1 % 10 := by omega
theorem dt_4h0 (W : Nat) : 48 + W % 10000 % 100 / 10 = 48 + W / 10 % 10 := by omega
theorem dt_4l1 (W : Nat) : 48 + W % 10000 / 100 % 10 = 48 + W / 100 % 10 := by omega
theorem dt_4h1 (W : Nat) : 48 + W % 10000 / 100 / 10 = 48 + W / 1000 % 10 := by omega
theorem dt_4l (W : Nat) : 48 + W / 10000 % 100 % 10 = 48 + W / 10000 % 10 := by omega
theorem dt_4h (W : Nat) : 48 + W / 10000 % 100 / 10 = 48 + W / 100000 % 10 := by omega
theorem dt_0l (W : Nat) : 48 + W % 100 % 10 = 48 + W / 1 % 10 := by omega
theorem dt_0h (W : Nat) : 48 + W % 100 / 10 = 48 + W / 10 % 10 := by omega
theorem dt_7 (W : Nat) (h : W < 10000000) : 48 + W / 10000 / 100 = 48 + W / 1000000 % 10 := by omega
theorem dt_5 (W : Nat) (h : W < 100000) : 48 + W / 10000 = 48 + W / 10000 % 10 := by omega
theorem dt_3 (W : Nat) (h : W < 1000) : 48 + W / 100 = 48 + W / 100 % 10 := by omega
theorem dt_1 (W : Nat) (h : W < 10) : 48 + W = 48 + W / 1 % 10 := by omega
/-- the last digit -/
theorem last_is (x : Nat) (hx : x < 10) : ∃ d : Nat, d = 48 + x ∧ (∀ {s : St} {t : TypeId} {p r : Operand}, binE Tryz.prog s .add t p r (.int .u32 48) (.int .u32 (x : Int)) = some (.int .u32 (d : Int), s)) ∧
    (∀ (c : Cx) (s : St), convE Tryz.prog c s 147 5 (.int .u32 (d : Int)) = some (.int .u8 (d : Int), s)) := by
  refine ⟨48 + x, rfl, fun {s t p r} => ?_, fun c s => ?_⟩
  · rw [bin_add, show ((48 : Int) + (x : Int)) = ((48 + x : Nat) : Int) by omega, w32 (by omega)]
  · rw [conv_int (by rw [un147]; rfl) un5, show IntKind.u8.wrap ((48 + x : Nat) : Int) = ((48 + x : Nat) : Int) by simp only [IntKind.wrap, IntKind.signed, IntKind.bits]; simp; omega]
theorem an2 {β : Type} (k : Nat → Option β) : asNat (V.int .i64 2) k = k 2 := rfl
theorem an3 {β : Type} (k : Nat → Option β) : asNat (V.int .i64 3) k = k 3 := rfl
theorem an4 {β : Type} (k : Nat → Option β) : asNat (V.int .i64 4) k = k 4 := rfl
theorem an5 {β : Type} (k : Nat → Option β) : asNat (V.int .i64 5) k = k 5 := rfl
theorem an6 {β : Type} (k : Nat → Option β) : asNat (V.int .i64 6) k = k 6 := rfl
theorem an7 {β : Type} (k : Nat → Option β) : asNat (V.int .i64 7) k = k 7 := rfl
theorem wi0 : IntKind.i64.wrap 0 = 0 := by decide
theorem wi1 : IntKind.i64.wrap 1 = 1 := by decide
theorem wi2 : IntKind.i64.wrap 2 = 2 := by decide
theorem wi3 : IntKind.i64.wrap 3 = 3 := by decide
theorem wi4 : IntKind.i64.wrap 4 = 4 := by decide
theorem wi5 : IntKind.i64.wrap 5 = 5 := by decide
theorem wi6 : IntKind.i64.wrap 6 = 6 := by decide
/-- two digits of a pair -/
theorem pair_is (v : Nat) (hv : v < 100) : ∃ y z dh dl : Nat, dh = 48 + v / 10 ∧ dl = 48 + v % 10 ∧
    (∀ {s : St} {t : TypeId} {p r : Operand}, binE Tryz.prog s .mul t p r (.int .u32 (v : Int)) (.int .u32 2) = some (.int .u32 (y : Int), s)) ∧
    IntKind.u32.wrap ((y : Int) + 1) = (z : Int) ∧
    (∀ s : St, indexK Tryz.prog s 9 (.s [48, 48, 48, 49, 48, 50, 48, 51, 48, 52, 48, 53, 48, 54, 48, 55, 48, 56, 48, 57, 49, 48, 49, 49, 49, 50, 49, 51, 49, 52, 49, 53, 49, 54, 49, 55, 49, 56, 49, 57, 50, 48, 50, 49, 50, 50, 50, 51, 50, 52, 50, 53, 50, 54, 50, 55, 50, 56, 50, 57, 51, 48, 51, 49, 51, 50, 51, 51, 51, 52, 51, 53, 51, 54, 51, 55, 51, 56, 51, 57, 52, 48, 52, 49, 52, 50, 52, 51, 52, 52, 52, 53, 52, 54, 52, 55, 52, 56, 52, 57, 53, 48, 53, 49, 53, 50, 53, 51, 53, 52, 53, 53, 53, 54, 53, 55, 53, 56, 53, 57, 54, 48, 54, 49, 54, 50, 54, 51, 54, 52, 54, 53, 54, 54, 54, 55, 54, 56, 54, 57, 55, 48, 55, 49, 55, 50, 55, 51, 55, 52, 55, 53, 55, 54, 55, 55, 55, 56, 55, 57, 56, 48, 56, 49, 56, 50, 56, 51, 56, 52, 56, 53, 56, 54, 56, 55, 56, 56, 56, 57, 57, 48, 57, 49, 57, 50, 57, 51, 57, 52, 57, 53, 57, 54, 57, 55, 57, 56, 57, 57]) y = some (.int .u8 (dh : Int), s)) ∧
    (∀ s : St, indexK Tryz.prog s 9 (.s [48, 48, 48, 49, 48, 50, 48, 51, 48, 52, 48, 53, 48, 54, 48, 55, 48, 56, 48, 57, 49, 48, 49, 49, 49, 50, 49, 51, 49, 52, 49, 53, 49, 54, 49, 55, 49, 56, 49, 57, 50, 48, 50, 49, 50, 50, 50, 51, 50, 52, 50, 53, 50, 54, 50, 55, 50, 56, 50, 57, 51, 48, 51, 49, 51, 50, 51, 51, 51, 52, 51, 53, 51, 54, 51, 55, 51, 56, 51, 57, 52, 48, 52, 49, 52, 50, 52, 51, 52, 52, 52, 53, 52, 54, 52, 55, 52, 56, 52, 57, 53, 48, 53, 49, 53, 50, 53, 51, 53, 52, 53, 53, 53, 54, 53, 55, 53, 56, 53, 57, 54, 48, 54, 49, 54, 50, 54, 51, 54, 52, 54, 53, 54, 54, 54, 55, 54, 56, 54, 57, 55, 48, 55, 49, 55, 50, 55, 51, 55, 52, 55, 53, 55, 54, 55, 55, 55, 56, 55, 57, 56, 48, 56, 49, 56, 50, 56, 51, 56, 52, 56, 53, 56, 54, 56, 55, 56, 56, 56, 57, 57, 48, 57, 49, 57, 50, 57, 51, 57, 52, 57, 53, 57, 54, 57, 55, 57, 56, 57, 57]) z = some (.int .u8 (dl : Int), s)) :=
  ⟨v * 2, v * 2 + 1, _, _, rfl, rfl, fun {s t p r} => b32_mul (k := 2) (by omega) rfl, by rw [show (((v * 2 : Nat) : Int) + 1) = ((v * 2 + 1 : Nat) : Int) by omega]; exact w32 (by omega), fun s => idxS (sm_at hv).1, fun s => idxS (sm_at hv).2⟩
/-- four digits -/
theorem four_is (b : Nat) (hb : b < 10000) : ∃ v1 v0 : Nat, v1 = b / 100 ∧ v0 = b % 100 ∧ v1 < 100 ∧ v0 < 100 ∧
    (∀ {s : St} {t : TypeId} {p r : Operand}, binE Tryz.prog s .quo t p r (.int .u32 (b : Int)) (.int .u32 100) = some (.int .u32 (v1 : Int), s)) ∧
    (∀ {s : St} {t : TypeId} {p r : Operand}, binE Tryz.prog s .rem t p r (.int .u32 (b : Int)) (.int .u32 100) = some (.int .u32 (v0 : Int), s)) :=
  ⟨b / 100, b % 100, rfl, rfl, by omega, by omega, fun {s t p r} => b32_quo (k := 100) (by omega) (by omega) rfl, fun {s t p r} => b32_rem (k := 100) (by omega) rfl⟩
theorem eight_is (x : Nat) (hx : x < 4294967296) : ∃ a b : Nat, a = x / 10000 ∧ b = x % 10000 ∧
    (∀ {s : St} {t : TypeId} {p r : Operand}, binE Tryz.prog s .quo t p r (.int .u32 (x : Int)) (.int .u32 10000) = some (.int .u32 (a : Int), s)) ∧
    (∀ {s : St} {t : TypeId} {p r : Operand}, binE Tryz.prog s .rem t p r (.int .u32 (x : Int)) (.int .u32 10000) = some (.int .u32 (b : Int), s)) :=
  ⟨x / 10000, x % 10000, rfl, rfl, fun {s t p r} => b32_quo (k := 10000) hx (by omega) rfl, fun {s t p r} => b32_rem (k := 10000) (by omega) rfl⟩
theorem sub_is (n k nd o sz : Nat) (kz : Int) (hz : (k : Int) = kz) (hk : k ≤ n) (hk0 : 0 < k) (hn : n ≤ nd) (hnd : nd ≤ 20) (ho : o + nd ≤ sz) : ∃ e : Nat, n = e + k ∧ IntKind.i64.wrap ((n : Int) - kz) = (e : Int) ∧ e < nd ∧ o + e + 1 ≤ sz :=
  ⟨n - k, by omega, by rw [wrap_i (by omega) (by omega)]; omega, by omega, by omega⟩
def fmtQ (st : St) (m o nd u : Nat) (ty : TypeId) (sz : Nat) (t0 : T V) (s : St) : Prop := ∃ t, s.h.get m = some (.cs ty sz t) ∧ Ext m st s ∧ s.nx = st.nx ∧ (∀ i, i < nd → t.get (o + i) = some (.int .u8 (dgt u (nd - 1 - i) : Int))) ∧ ∀ k, (k < o ∨ o + nd ≤ k) → t.get k = t0.get k
def fbI (st : St) (m o nd q u : Nat) (ty : TypeId) (sz : Nat) (t0 : T V) (e : Env) (s : St) : Prop := ∃ (n j : Nat) (w : BitVec 64) (t : T V), nd = n + 8 * j ∧ w.toNat = upw u j ∧ e.get 0 = some (.sl m o nd q) ∧ e.get 1 = some (wd w) ∧ e.get 4 = some (.int .i64 (n : Int)) ∧
  s.h.get m = some (.cs ty sz t) ∧ Ext m st s ∧ s.nx = st.nx ∧ (∀ i, n ≤ i → i < nd → t.get (o + i) = some (.int .u8 (dgt u (nd - 1 - i) : Int))) ∧ ∀ k, (k < o ∨ o + nd ≤ k) → t.get k = t0.get k
theorem conv_u32 {c : Cx} {s : St} (w : BitVec 64) (x : Nat) (hx : w.toNat = x) (h : x < 4294967296) : convE Tryz.prog c s 47 147 (wd w) = some (.int .u32 (x : Int), s) := by
  have h' := conv_int (P := Tryz.prog) (c := c) (st := s) (src := 47) (dst := 147) (k' := .u64) (by rw [un47]; rfl) un147 (w.toNat : Int)
  rw [hx, w32 h] at h'
  have e2 : wd w = .c (.int .u64 (x : Int)) := by unfold wd; rw [hx]
  rw [e2]; exact h'
set_option maxRecDepth 20000 in
set_option maxHeartbeats 8000000 in
theorem fb_round (st : St) (m o nd q u : Nat) (ty : TypeId) (sz : Nat) (t0 : T V) (hm : m < st.nx) (hro : Nat.beq ty roT = false) (ho : o + nd ≤ sz) (hnd : nd ≤ 20)
    (n j : Nat) (w : BitVec 64) (t : T V) (s : St) (hn : nd = n + 8 * j) (hw : w.toNat = upw u j) (hgm : s.h.get m = some (.cs ty sz t)) (hx : Ext m st s) (hnx : s.nx = st.nx)
    (hfil : ∀ i, n ≤ i → i < nd → t.get (o + i) = some (.int .u8 (dgt u (nd - 1 - i) : Int))) (hrest : ∀ k, (k < o ∨ o + nd ≤ k) → t.get k = t0.get k) (h8 : 8 ≤ n)
    (e1 e2 e3 e4 e5 e6 e7 e8 dl0 dh0 dl1 dh1 dl2 dh2 dl3 dh3 : Nat) (he1 : n = e1 + 1) (he2 : n = e2 + 2) (he3 : n = e3 + 3) (he4 : n = e4 + 4) (he5 : n = e5 + 5) (he6 : n = e6 + 6) (he7 : n = e7 + 7) (he8 : n = e8 + 8)
    (D0 : dl0 = dgt w.toNat 0) (D1 : dh0 = dgt w.toNat 1) (D2 : dl1 = dgt w.toNat 2) (D3 : dh1 = dgt w.toNat 3) (D4 : dl2 = dgt w.toNat 4) (D5 : dh2 = dgt w.toNat 5) (D6 : dl3 = dgt w.toNat 6) (D7 : dh3 = dgt w.toNat 7) (e' : Env)
    (g0 : e'.get 0 = some (.sl m o nd q)) (g1 : e'.get 1 = some (wd (w / 100000000#64))) (g4 : e'.get 4 = some (.int .i64 (e8 : Int))) :
    fbI st m o nd q u ty sz t0 e' ⟨s.nx, s.h.set m (.cs ty sz ((((((((t.set (o + e1) (V.c (.int .u8 (dl0 : Int)))).set (o + e2) (V.c (.int .u8 (dh0 : Int)))).set (o + e3) (V.c (.int .u8 (dl1 : Int)))).set (o + e4) (V.c (.int .u8 (dh1 : Int)))).set (o + e5) (V.c (.int .u8 (dl2 : Int)))).set (o + e6) (V.c (.int .u8 (dh2 : Int)))).set (o + e7) (V.c (.int .u8 (dl3 : Int)))).set (o + e8) (V.c (.int .u8 (dh3 : Int)))))⟩ := by
  refine ⟨e8, j + 1, w / 100000000#64, _, by omega, ?_, g0, g1, g4, T.get_set_same _ _ _, hx.set (Nat.le_refl _) (by omega) _, hnx, fun i h1 h2 => ?_, fun k hk => ?_⟩
  · unfold upw at hw ⊢
    rw [BitVec.toNat_udiv, hw, Nat.div_div_eq_div_mul, show 8 * (j + 1) = 8 * j + 8 by omega, Nat.pow_add]; rfl
  · have fin : ∀ (d r : Nat), nd - 1 - i = 8 * j + r → d = dgt w.toNat r → some (V.c (.int .u8 (d : Int))) = some (V.int .u8 (dgt u (nd - 1 - i) : Int)) := fun d r e1 e3 => by
      unfold upw at hw
      rw [e1, dgt_at, ← hw, e3]
    clear hw
    simp only [T.get_set]
    by_cases k8 : o + e8 = o + i
    · rw [if_pos k8]; exact fin dh3 7 (by omega) D7
    rw [if_neg k8]
    by_cases k7 : o + e7 = o + i
    · rw [if_pos k7]; exact fin dl3 6 (by omega) D6
    rw [if_neg k7]
    by_cases k6 : o + e6 = o + i
    · rw [if_pos k6]; exact fin dh2 5 (by omega) D5
    rw [if_neg k6]
    by_cases k5 : o + e5 = o + i
    · rw [if_pos k5]; exact fin dl2 4 (by omega) D4
    rw [if_neg k5]
    by_cases k4 : o + e4 = o + i
    · rw [if_pos k4]; exact fin dh1 3 (by omega) D3
    rw [if_neg k4]
    by_cases k3 : o + e3 = o + i
    · rw [if_pos k3]; exact fin dl1 2 (by omega) D2
    rw [if_neg k3]
    by_cases k2 : o + e2 = o + i
    · rw [if_pos k2]; exact fin dh0 1 (by omega) D1
    rw [if_neg k2]
    by_cases k1 : o + e1 = o + i
    · rw [if_pos k1]; exact fin dl0 0 (by omega) D0
    rw [if_neg k1]
    exact hfil i (by omega) h2
  · have k0 := hrest k hk
    clear hw
    simp only [T.get_set]
    rw [if_neg (by omega), if_neg (by omega), if_neg (by omega), if_neg (by omega), if_neg (by omega), if_neg (by omega), if_neg (by omega), if_neg (by omega)]
    exact k0
end Go.Proofs.YtlonobfpogimgaaGreatDoor

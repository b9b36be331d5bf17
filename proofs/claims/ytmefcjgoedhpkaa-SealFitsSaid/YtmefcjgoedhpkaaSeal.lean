/-
  CONTRACTS of package seal, and of the document's own sums.
-/
import Derived.Test.YtmefcjgoedhpkaaRows
import Derived.Test.YtmefcjgoedhpkaaTurn
import Derived.Test.YtmefcjgoedhpkaaOwn
import Derived.Deep.QuietTactic
import Derived.BigQuiet
import Derived.Outline
namespace Go.Proofs.Ytmefcjgoedhpkaa
open Go.ChangeShapes Go.WideShapes Go.ChangeAt Go.RowKit
attribute [local go_sem high] wrap_u64 wrap_u8 bits_and_u64 bits_or_u64 bits_xor_u64 bits_andNot_u64 shl_u64 shr_u64
attribute [local go_sem] u_nonneg u_toNat ofInt64_ub ofInt8_u ofInt_mul_pow u_div_pow

def sealStep (s v : BitVec 64) : BitVec 64 := s.rotateLeft 9 ^^^ v
def sealOn (s : BitVec 64) (l : List (BitVec 64)) : BitVec 64 := l.foldl sealStep s
def beginW : BitVec 64 := 7811896474847682849#64
def sealOf (l : List (BitVec 64)) : BitVec 64 := sealOn beginW l
theorem u_begin : u beginW = 7811896474847682849 := rfl
theorem sealOn_snoc (s : BitVec 64) (l : List (BitVec 64)) (v : BitVec 64) : sealOn s (l ++ [v]) = sealStep (sealOn s l) v := by simp [sealOn]
theorem take_snocU (l : List (BitVec 64)) (j : Nat) (h : j < l.length) : l.take (j + 1) = l.take j ++ [l[j]?.getD 0#64] := by
  rw [List.take_succ_eq_append_getElem h]; simp [h]
theorem sealOn_step (s : BitVec 64) (l : List (BitVec 64)) (j : Nat) (h : j < l.length) : sealOn s (l.take (j + 1)) = (sealOn s (l.take j)).rotateLeft 9 ^^^ (l[j]?.getD 0#64) := by
  rw [take_snocU l j h, sealOn_snoc]; rfl

set_option maxHeartbeats 400000 in
theorem sealOn_any (s : BitVec 64) (a : Option Addr) (l : List (BitVec 64)) (c B : Nat) (w : World) (hl : IsU B w a c l) :
    Calls Try.prog 33 #[.int .u64 (u s), .slice a l.length c] w fun e w' => e = .returned (.int .u64 (u (sealOn s l))) ∧ w = w' := by
  have hm := hl.max
  go_enter Try.func33, Try.ntmps33
  go_wp2
  go_loop [0, 9] (fun v k => ∃ j : Nat, j ≤ l.length ∧ k = .int .i64 j ∧ v = .int .u64 (u (sealOn s (l.take j)))) (fun _ k => l.length - (intOf k).toNat)
  case atStart => exact ⟨0, by omega, rfl, rfl⟩
  case round =>
    obtain ⟨j, hj, rfl, rfl⟩ := hrel
    by_cases hlt : j < l.length
    · obtain ⟨b, off, rfl, hcell⟩ := hl.cell hlt
      have hs := hid (sealOn_step s l j hlt)
      generalize l[j]?.getD 0#64 = x at *
      go_wp2_with (go_at_call 41; refine (rot_any _ _ _).mono ?_; rintro e w' ⟨rfl, rfl⟩)
      go_round
      case rel => exact ⟨j + 1, by omega, by go_num, by rw [hs.out]⟩
      case measure => simp [intOf]; omega
    · obtain rfl : j = l.length := by omega
      have e : l.take l.length = l := List.take_length
      go_wp2
      go_ret
      exact ⟨rfl, rfl⟩
theorem sealOf_any (a : Option Addr) (l : List (BitVec 64)) (c B : Nat) (w : World) (hl : IsU B w a c l) :
    Calls Try.prog 31 #[.slice a l.length c] w fun e w' => e = .returned (.int .u64 (u (sealOf l))) ∧ w = w' := by
  go_enter Try.func31, Try.ntmps31
  go_wp2_with fail
  refine (sealOn_any beginW _ _ _ _ _ hl).mono ?_
  rintro e w' ⟨rfl, rfl⟩
  go_wp2
  go_ret
  exact ⟨rfl, rfl⟩

theorem sealOf_n (a : Option Addr) (l : List (BitVec 64)) (n c B : Nat) (w : World) (hn : l.length = n) (hl : IsU B w a c l) :
    Calls Try.prog 31 #[.slice a n c] w fun e w' => e = .returned (.int .u64 (u (sealOf l))) ∧ w = w' := by
  subst hn; exact sealOf_any a l c B w hl
theorem sealOn_n (s : BitVec 64) (a : Option Addr) (l : List (BitVec 64)) (n c B : Nat) (w : World) (hn : l.length = n) (hl : IsU B w a c l) :
    Calls Try.prog 33 #[.int .u64 (u s), .slice a n c] w fun e w' => e = .returned (.int .u64 (u (sealOn s l))) ∧ w = w' := by
  subst hn; exact sealOn_any s a l c B w hl
theorem sealOn_parts (l : List (BitVec 64)) (n : Nat) : sealOn (sealOf (l.take n)) (l.drop n) = sealOf l := by
  unfold sealOf sealOn
  rw [← List.foldl_append, List.take_append_drop]
theorem rot_or (x : BitVec 64) (k : Nat) (h : k < 64) : x <<< k ||| x >>> (64 - k) = x.rotateLeft k := by
  rw [BitVec.rotateLeft_eq_rotateLeftAux_of_lt h]; rfl
theorem rot_zero (x : BitVec 64) : x.rotateLeft 0 = x := by
  have e : x >>> 64 = 0#64 := by
    apply BitVec.eq_of_toNat_eq
    have := x.isLt
    rw [BitVec.toNat_ushiftRight, Nat.shiftRight_eq_div_pow]
    simp
    omega
  rw [← rot_or x 0 (by omega)]
  simp [e]
theorem rturn_any (x : BitVec 64) (n : Int) (w : World) :
    Calls Try.prog 29 #[.int .u64 (u x), .int .i64 n] w fun e w' => e = .returned (.int .u64 (u (x.rotateLeft (n % 64).toNat))) ∧ w = w' := by
  have hb : -64 < n.tmod 64 ∧ n.tmod 64 < 64 := ⟨Int.lt_tmod_of_pos n (by omega), Int.tmod_lt_of_pos n (by omega)⟩
  have h := Int.tmod_add_mul_tdiv n 64
  by_cases hneg : n.tmod 64 < 0
  · have e1 : n % 64 = n.tmod 64 + 64 := by omega
    have hz : ((n.tmod 64 + 64 : Int) == 0) = false := by simp; omega
    have hr : x <<< ((n.tmod 64 + 64) % 18446744073709551616).toNat ||| x >>> ((64 - (n.tmod 64 + 64)) % 18446744073709551616).toNat = x.rotateLeft (n % 64).toNat := by
      rw [← rot_or x (n % 64).toNat (by omega)]
      congr 2 <;> omega
    have H := hid hr
    clear hr e1 h
    go_enter Try.func29, Try.ntmps29
    go_wp2
    go_ret
    exact ⟨by rw [← H.out]; rfl, rfl⟩
  · by_cases hz0 : n.tmod 64 = 0
    · have e1 : n % 64 = 0 := by omega
      have hz : ((n.tmod 64 : Int) == 0) = true := by simp; omega
      have H := hid (rot_zero x)
      have E1 := hid e1
      clear e1 h hz0
      go_enter Try.func29, Try.ntmps29
      go_wp2
      go_ret
      exact ⟨by rw [E1.out]; rw [show (0 : Int).toNat = 0 from rfl, H.out]; rfl, rfl⟩
    · have e1 : n % 64 = n.tmod 64 := by omega
      have hz : ((n.tmod 64 : Int) == 0) = false := by simp; omega
      have hr : x <<< ((n.tmod 64) % 18446744073709551616).toNat ||| x >>> ((64 - (n.tmod 64)) % 18446744073709551616).toNat = x.rotateLeft (n % 64).toNat := by
        rw [← rot_or x (n % 64).toNat (by omega)]
        congr 2 <;> omega
      have H := hid hr
      clear hr e1 h hz0
      go_enter Try.func29, Try.ntmps29
      go_wp2
      go_ret
      exact ⟨by rw [← H.out]; rfl, rfl⟩

set_option maxHeartbeats 400000 in
theorem rseal_any (s : BitVec 64) (a : Option Addr) (l : List (BitVec 64)) (c B : Nat) (w : World) (hl : IsU B w a c l) :
    Calls Try.prog 34 #[.int .u64 (u s), .slice a l.length c] w fun e w' => e = .returned (.int .u64 (u (sealOn s l))) ∧ Quiet w w' := by
  have hm := hl.max
  go_enter Try.func34, Try.ntmps34
  go_wp2
  go_loopw [0, 5] (fun v k wr => ∃ j : Nat, j ≤ l.length ∧ k = .int .i64 j ∧ v = .int .u64 (u (sealOn s (l.take j))) ∧ Quiet w wr) (fun _ k _ => l.length - (intOf k).toNat)
  case atStart => exact ⟨0, by omega, rfl, rfl, Quiet.refl _⟩
  case round =>
    obtain ⟨j, hj, rfl, rfl, hq⟩ := hrel
    replace hl := hl.quiet hq
    by_cases hlt : j < l.length
    · obtain ⟨b, off, rfl, hcell⟩ := hl.cell hlt
      have hs := hid (sealOn_step s l j hlt)
      have hj0 : (0 : Int) ≤ j := by omega
      have hj1 : (j : Int) < l.length := by omega
      generalize l[j]?.getD 0#64 = x at *
      go_wp2
      go_quiet ((go_at_call 29; exact quiet_left (rturn_any _ _ _)))
      go_wp2
      go_roundw
      case rel => exact ⟨j + 1, by omega, by go_num, by rw [hs.out], hq.drewN _⟩
      case measure => simp [intOf]; omega
    · obtain rfl : j = l.length := by omega
      rw [List.take_length]
      go_wp2
      go_ret
      exact ⟨rfl, hq⟩

theorem seal_last (l : List (BitVec 64)) (h : 0 < l.length) : ∃ x r, l = r ++ [x] := by
  rcases List.eq_nil_or_concat l with rfl | ⟨r, x, rfl⟩
  · simp at h
  · exact ⟨x, r, by simp⟩
/-- does the last one sum up all others? -/
def sealFits (l : List (BitVec 64)) : Bool := decide (0 < l.length) && (l[l.length - 1]?.getD 0#64 == sealOf (l.take (l.length - 1)))
theorem IsU.front {B : Nat} {w : World} {b off c : Nat} {l : List (BitVec 64)} (h : IsU B w (some ⟨b, off, none⟩) c l) (n : Nat) (hn : n ≤ l.length) : IsU B w (some ⟨b, off, none⟩) c (l.take n) := by
  rcases h with ⟨rfl, h2, _⟩ | ⟨b, off, e, h1, h2, hb, hc⟩
  · exact .inl ⟨by simp, h2, fun h => by cases h⟩
  · refine .inr ⟨b, off, e, by simp; omega, h2, hb, fun i hi => ?_⟩
    simp at hi
    have := hc i (by omega)
    rw [List.getElem?_take_of_lt (by omega)]
    exact this

set_option maxHeartbeats 400000 in
theorem fits_no (a : Option Addr) (c : Nat) (w : World) :
    Calls Try.prog 35 #[.slice a 0 c] w fun e w' => e = .returned (.bool false) ∧ Quiet w w' := by
  go_enter Try.func35, Try.ntmps35
  go_wp2
  go_quiet (fail)
  go_wp2
  go_ret
  exact ⟨rfl, _, rfl⟩
set_option maxHeartbeats 400000 in
theorem fits_yes (a : Option Addr) (l : List (BitVec 64)) (c B : Nat) (w : World) (hl : IsU B w a c l) (h0 : 0 < l.length) :
    Calls Try.prog 35 #[.slice a l.length c] w fun e w' => e = .returned (.bool (l[l.length - 1]?.getD 0#64 == sealOf (l.take (l.length - 1)))) ∧ Quiet w w' := by
  have hm := hl.max
  obtain ⟨b, off, rfl, hcell⟩ := hl.cell (j := l.length - 1) (by omega)
  have hf := hl.front (l.length - 1) (by omega)
  have hl2 : (l.take (l.length - 1)).length = l.length - 1 := by simp
  have H2 := hid hl2
  obtain ⟨n, hn⟩ : ∃ n, l.length = n + 1 := ⟨l.length - 1, by omega⟩
  rw [hn] at hm hf H2 hcell h0 ⊢
  rw [Nat.add_sub_cancel] at hf H2 hcell ⊢
  generalize l[n]?.getD 0#64 = x at *
  generalize l.take n = r at *
  clear hn hl hl2
  go_enter Try.func35, Try.ntmps35
  go_wp2
  have hn0 : (0 : Int) ≤ n := by omega
  have hn1 : (n : Int) < n + 1 := by omega
  have hc1 : (n : Int) ≤ c := by omega
  go_quiet ((go_at_call 31; exact quiet_left (sealOf_n _ r _ _ B _ H2.out (hf.quiet ⟨_, rfl⟩))))
  go_wp2
  go_ret
  exact ⟨by rw [u_beq]; rfl, ⟨_, rfl⟩⟩
theorem sealFits_pos (l : List (BitVec 64)) (h0 : 0 < l.length) : sealFits l = (l[l.length - 1]?.getD 0#64 == sealOf (l.take (l.length - 1))) := by
  simp [sealFits, h0]
theorem fits_any (a : Option Addr) (l : List (BitVec 64)) (c B : Nat) (w : World) (hl : IsU B w a c l) :
    Calls Try.prog 35 #[.slice a l.length c] w fun e w' => e = .returned (.bool (sealFits l)) ∧ Quiet w w' := by
  by_cases h0 : 0 < l.length
  · rw [sealFits_pos l h0]
    exact fits_yes a l c B w hl h0
  · obtain rfl : l = [] := by cases l with
      | nil => rfl
      | cons => simp at h0
    exact fits_no a c w
theorem fits_n (a : Option Addr) (l : List (BitVec 64)) (n c B : Nat) (w : World) (hn : l.length = n) (hl : IsU B w a c l) :
    Calls Try.prog 35 #[.slice a n c] w fun e w' => e = .returned (.bool (sealFits l)) ∧ Quiet w w' := by
  subst hn; exact fits_any a l c B w hl
theorem rof_any (a : Option Addr) (l : List (BitVec 64)) (n c B : Nat) (w : World) (hn : l.length = n) (hl : IsU B w a c l) :
    Calls Try.prog 32 #[.slice a n c] w fun e w' => e = .returned (.int .u64 (u (sealOf l))) ∧ Quiet w w' := by
  subst hn
  go_enter Try.func32, Try.ntmps32
  go_wp2_with fail
  refine (rseal_any beginW _ _ _ _ _ hl).mono ?_
  rintro e w' ⟨rfl, hq⟩
  go_wp2
  go_ret
  exact ⟨rfl, hq⟩
set_option maxHeartbeats 400000 in
theorem rfits_no (a : Option Addr) (c : Nat) (w : World) :
    Calls Try.prog 36 #[.slice a 0 c] w fun e w' => e = .returned (.bool false) ∧ Quiet w w' := by
  go_enter Try.func36, Try.ntmps36
  go_wp2
  go_quiet (fail)
  go_wp2
  go_ret
  exact ⟨rfl, _, rfl⟩
set_option maxHeartbeats 400000 in
theorem rfits_yes (a : Option Addr) (l : List (BitVec 64)) (c B : Nat) (w : World) (hl : IsU B w a c l) (h0 : 0 < l.length) :
    Calls Try.prog 36 #[.slice a l.length c] w fun e w' => e = .returned (.bool (l[l.length - 1]?.getD 0#64 == sealOf (l.take (l.length - 1)))) ∧ Quiet w w' := by
  have hm := hl.max
  obtain ⟨b, off, rfl, hcell⟩ := hl.cell (j := l.length - 1) (by omega)
  have hf := hl.front (l.length - 1) (by omega)
  have hl2 : (l.take (l.length - 1)).length = l.length - 1 := by simp
  have H2 := hid hl2
  obtain ⟨n, hn⟩ : ∃ n, l.length = n + 1 := ⟨l.length - 1, by omega⟩
  rw [hn] at hm hf H2 hcell h0 ⊢
  rw [Nat.add_sub_cancel] at hf H2 hcell ⊢
  generalize l[n]?.getD 0#64 = x at *
  generalize l.take n = r at *
  clear hn hl hl2
  have hn0 : (0 : Int) ≤ n := by omega
  have hn1 : (n : Int) < n + 1 := by omega
  have hn2 : (0 : Int) < n + 1 := by omega
  have hc1 : (n : Int) ≤ c := by omega
  have hc2 : (n : Int) ≤ 9223372036854775806 := by omega
  go_enter Try.func36, Try.ntmps36
  go_wp2
  go_quiet ((go_at_call 32; exact quiet_more (rof_any _ r _ _ B _ H2.out (hf.quiet ⟨_, rfl⟩))))
  go_wp2
  go_ret
  exact ⟨by rw [u_beq]; rfl, ⟨_, rfl⟩⟩
theorem rfits_any (a : Option Addr) (l : List (BitVec 64)) (c B : Nat) (w : World) (hl : IsU B w a c l) :
    Calls Try.prog 36 #[.slice a l.length c] w fun e w' => e = .returned (.bool (sealFits l)) ∧ Quiet w w' := by
  by_cases h0 : 0 < l.length
  · rw [sealFits_pos l h0]
    exact rfits_yes a l c B w hl h0
  · obtain rfl : l = [] := by cases l with
      | nil => rfl
      | cons => simp at h0
    exact rfits_no a c w
theorem lit1 (w : World) (x : BitVec 64) (e : TypeId) : IsU (w.heap.size + 1) (w.alloc (.cells #[.int .u64 (u x)] e)) (some ⟨w.heap.size, 0, none⟩) 1 [x] :=
  isU_lit w e [x] _ rfl (by simp)
set_option maxHeartbeats 400000 in
theorem sealAwake (w : World) : Calls Try.prog 30 #[] w fun e w' => e = .returned (.bool true) ∧ Below w.heap.size w w' := by
  have hb : (u (sealOf []) == 7811896474847682849) = true := by decide
  have hs0 : sealOf [] = beginW := rfl
  have hf : sealFits [beginW] = true := by decide
  have hf0 : sealFits [] = false := by decide
  have F := hid hf
  have F0 := hid hf0
  clear hf hf0
  rw [hs0] at hb
  go_enter Try.func30, Try.ntmps30
  go_wp2_with fail
  refine (sealOf_any none [] 0 0 _ (isU_nil _ _)).mono ?_
  rintro e w' ⟨rfl, rfl⟩
  go_wp2_with fail
  refine (sealOf_any none [] 0 0 _ (isU_nil _ _)).mono ?_
  rintro e w' ⟨rfl, rfl⟩
  go_wp2_with fail
  refine (fits_any _ [beginW] 1 _ _ (lit1 _ _ _)).mono ?_
  rintro e w' ⟨rfl, hq⟩
  rw [F.out]
  go_wp2_with fail
  refine (fits_any none [] 0 0 _ (isU_nil _ _)).mono ?_
  rintro e w2 ⟨rfl, hq2⟩
  rw [F0.out]
  go_wp2
  go_ret
  exact ⟨rfl, (((Below.refl _ _).alloc (Nat.le_refl _) _).trans (hq.below _)).trans (hq2.below _)⟩
end Go.Proofs.Ytmefcjgoedhpkaa

/-
  THE WALKS of layer 1's laws.
-/
import Derived.Test.YtmefcjgoedhpkaaWordP
namespace Go.Proofs.Ytmefcjgoedhpkaa
open Go.ChangeShapes Go.WideShapes Go.ChangeAt Go.RowKit
attribute [local go_sem high] wrap_u64 wrap_u8 bits_and_u64 bits_or_u64 bits_xor_u64 bits_andNot_u64 shl_u64 shr_u64 ite_sub1 ite_subS
attribute [local go_sem] u_nonneg u_toNat ofInt64_ub ofInt8_u ofInt_mul_pow u_div_pow u_beq ub_beq u_bne subA_zero

theorem lit2 (w : World) (x y : BitVec 64) (e : TypeId) : IsU (w.heap.size + 1) (w.alloc (.cells #[.int .u64 (u x), .int .u64 (u y)] e)) (some ⟨w.heap.size, 0, none⟩) 2 [x, y] :=
  isU_lit w e [x, y] _ rfl (by simp)
theorem wordAwake (w : World) : Calls Try.prog 14 #[] w fun e w' => e = .returned (.bool true) ∧ Below w.heap.size w w' := by
  have f1 := hid (show fieldI 43981#64 4 8 = 188#64 by decide)
  have g1 : (u 188#64 == 188) = true := by decide
  have f2 := hid (show toBytesAll [1#64, 2#64] = [1#8, 0#8, 0#8, 0#8, 0#8, 0#8, 0#8, 0#8, 2#8, 0#8, 0#8, 0#8, 0#8, 0#8, 0#8, 0#8] by decide)
  have f3 := hid (show wordI [1#8, 0#8, 0#8, 0#8, 0#8, 0#8, 0#8, 0#8, 2#8, 0#8, 0#8, 0#8, 0#8, 0#8, 0#8, 0#8] 1 = 2#64 by decide)
  have g3 : (u 2#64 == 2) = true := by decide
  have f4 := hid (show (1#64).rotateLeft ((1 : Int) % 64).toNat = 2#64 by decide)
  have f5 := hid (show withI 0#64 4 4 3#64 = 48#64 by decide)
  have g5 : (u 48#64 == 48) = true := by decide
  go_enter Try.func14, Try.ntmps14
  go_wp2_with fail
  refine (bytes_any _ [1#64, 2#64] 2 (w.heap.size + 1) (by simp) _ (lit2 w 1#64 2#64 _) (by simp)).mono ?_
  rintro e w1 ⟨v, rfl, o1, b1⟩
  rw [f2.out] at o1
  obtain ⟨a, c, rfl, r1⟩ := o1.read
  go_wp2_with fail
  refine (field_any 43981#64 4 8 (by omega) _).mono ?_
  rintro e w2 ⟨rfl, q2⟩
  rw [f1.out]
  go_wp2_with fail
  refine (get_any a _ c _ 1 _ (r1.quiet q2)).mono ?_
  rintro e w3 ⟨rfl, rfl⟩
  rw [f3.out]
  go_wp2_with fail
  refine (turn_any 1#64 1 _).mono ?_
  rintro e w3 ⟨rfl, rfl⟩
  rw [f4.out]
  go_wp2_with fail
  refine (with_any 0#64 4 4 3#64 (by omega) _).mono ?_
  rintro e w4 ⟨rfl, q4⟩
  rw [f5.out]
  go_wp2
  go_ret
  exact ⟨rfl, (((((Below.refl _ _).alloc (Nat.le_refl _) _).trans (b1.mono (by simp))).trans (q2.below _)).trans (q4.below _))⟩

set_option maxHeartbeats 800000 in
theorem w_WordBits (v : BitVec 64) (f a b : Int) (w : World) (hf : -9223372036854775808 ≤ f ∧ f ≤ 9223372036854775807) (ha : -9223372036854775808 ≤ a ∧ a ≤ 9223372036854775807) (hb : -9223372036854775808 ≤ b ∧ b ≤ 9223372036854775807) :
    Calls Try.prog 6 #[.int .u64 (u v), .int .i64 f, .int .i64 a, .int .i64 b] w fun e w' => e = .returned (.bool true) ∧ Below w.heap.size w w' := by
  go_enter Try.func6, Try.ntmps6
  go_wp2_with fail
  refine (wordAwake _).mono ?_
  rintro e w1 ⟨rfl, hb1⟩
  by_cases h1 : f < 0
  · go_wp2
    go_ret
    exact ⟨rfl, hb1⟩
  by_cases h2 : 63 < f
  · go_wp2
    go_ret
    exact ⟨rfl, hb1⟩
  by_cases h3 : a < 1
  · go_wp2
    go_ret
    exact ⟨rfl, hb1⟩
  by_cases h4 : b < 1
  · go_wp2
    go_ret
    exact ⟨rfl, hb1⟩
  by_cases h5 : 63 - f < a
  · go_wp2
    go_ret
    exact ⟨rfl, hb1⟩
  by_cases h6 : 64 - f - a < b
  · go_wp2
    go_ret
    exact ⟨rfl, hb1⟩
  obtain ⟨F, rfl⟩ := Int.eq_ofNat_of_zero_le (a := f) (by omega)
  obtain ⟨A, rfl⟩ := Int.eq_ofNat_of_zero_le (a := a) (by omega)
  obtain ⟨C, rfl⟩ := Int.eq_ofNat_of_zero_le (a := b) (by omega)
  have hp := hid (field_parts v F A C (by omega) (by omega) (by omega) (by omega) (by omega))
  have hA := hid (show ((A : Int) % 18446744073709551616).toNat = A by omega)
  have hA2 := hid (show A % 18446744073709551616 = A by omega)
  go_wp2_with fail
  refine (field_any v _ _ (by omega) _).mono ?_
  rintro e w2 ⟨rfl, q2⟩
  go_wp2_with fail
  refine (field_any v _ _ (by omega) _).mono ?_
  rintro e w3 ⟨rfl, q3⟩
  go_wp2_with fail
  refine (field_any v _ _ (by omega) _).mono ?_
  rintro e w4 ⟨rfl, q4⟩
  go_wp2
  go_ret
  exact ⟨by rw [hp.out]; simp [hA2.out], ((hb1.trans (q2.below _)).trans (q3.below _)).trans (q4.below _)⟩

set_option maxHeartbeats 800000 in
theorem w_WordTurns (v : BitVec 64) (a b : Int) (w : World) (ha : -9223372036854775808 ≤ a ∧ a ≤ 9223372036854775807) (hb : -9223372036854775808 ≤ b ∧ b ≤ 9223372036854775807) :
    Calls Try.prog 8 #[.int .u64 (u v), .int .i64 a, .int .i64 b] w fun e w' => e = .returned (.bool true) ∧ Below w.heap.size w w' := by
  have t1 := hid (rot_rot v a b)
  have t2 := hid (rot_64 v a)
  have t3 := hid (field_turn v)
  go_enter Try.func8, Try.ntmps8
  go_wp2_with fail
  refine (wordAwake _).mono ?_
  rintro e w1 ⟨rfl, hb1⟩
  by_cases h1 : a < -1000
  · go_wp2
    go_ret
    exact ⟨rfl, hb1⟩
  by_cases h2 : 1000 < a
  · go_wp2
    go_ret
    exact ⟨rfl, hb1⟩
  by_cases h3 : b < -1000
  · go_wp2
    go_ret
    exact ⟨rfl, hb1⟩
  by_cases h4 : 1000 < b
  · go_wp2
    go_ret
    exact ⟨rfl, hb1⟩
  go_wp2_with fail
  refine (turn_any v _ _).mono ?_
  rintro e w2 ⟨rfl, rfl⟩
  go_wp2_with fail
  refine (turn_any _ _ _).mono ?_
  rintro e w2 ⟨rfl, rfl⟩
  rw [t1.out]
  go_wp2_with fail
  refine (turn_any v _ _).mono ?_
  rintro e w2 ⟨rfl, rfl⟩
  go_wp2_with fail
  refine (turn_any v _ _).mono ?_
  rintro e w2 ⟨rfl, rfl⟩
  rw [t2.out]
  go_wp2_with fail
  refine (turn_any v _ _).mono ?_
  rintro e w2 ⟨rfl, rfl⟩
  go_wp2_with fail
  refine (turn_any v _ _).mono ?_
  rintro e w2 ⟨rfl, rfl⟩
  go_wp2_with fail
  refine (field_any _ _ _ (by omega) _).mono ?_
  rintro e w2 ⟨rfl, q2⟩
  rw [t3.out]
  go_wp2_with fail
  refine (field_any _ _ _ (by omega) _).mono ?_
  rintro e w3 ⟨rfl, q3⟩
  go_wp2
  go_ret
  exact ⟨rfl, (hb1.trans (q2.below _)).trans (q3.below _)⟩

set_option maxHeartbeats 1600000 in
theorem w_WordParts (a : Option Addr) (c : Nat) (l : List (BitVec 64)) (k : Int) (w : World) (hl : IsU w.heap.size w a c l) (hk : -9223372036854775808 ≤ k ∧ k ≤ 9223372036854775807) :
    Calls Try.prog 7 #[.slice a l.length c, .int .i64 k] w fun e w' => e = .returned (.bool true) ∧ Below w.heap.size w w' := by
  have hm := hl.max
  go_enter Try.func7, Try.ntmps7
  go_wp2_with fail
  refine (wordAwake _).mono ?_
  rintro e w1 ⟨rfl, hb1⟩
  have hl1 := hl.below hb1 (Nat.le_refl _)
  by_cases h1 : 30 < l.length
  · go_wp2
    go_ret
    exact ⟨rfl, hb1⟩
  by_cases h2 : k < 0
  · go_wp2
    go_ret
    exact ⟨rfl, hb1⟩
  by_cases h3 : 8 * (l.length : Int) ≤ k
  · go_wp2
    go_ret
    exact ⟨rfl, hb1⟩
  obtain ⟨n, rfl⟩ := Int.eq_ofNat_of_zero_le (a := k) (by omega)
  go_wp2_with fail
  refine (bytes_any _ l _ _ (by omega) _ hl1 hb1.size).mono ?_
  rintro e w2 ⟨v, rfl, o2, b2⟩
  have hl2 := hl1.below b2 hb1.size
  obtain ⟨a2, c2, rfl, r2⟩ := o2.read
  have hlen : (toBytesAll l).length = 8 * l.length := toBytesAll_length l
  have hg := toBytesAll_getD l n (by omega)
  have hw := wordAt_toBytesAll l (n / 8) (by omega)
  obtain ⟨x1, y1, rfl, q1⟩ := r2.cell (j := n) (by omega)
  obtain ⟨x2, y2, rfl, q2⟩ := hl2.cell (j := n / 8) (by omega)
  rw [List.getD_eq_getElem?_getD] at hg
  rw [List.getD_eq_getElem?_getD] at hw hg
  rw [hg] at q1
  generalize l[n / 8]?.getD 0#64 = x at *
  have hf : (BitVec.setWidth 64 (byteOf x (n % 8)) == fieldI x (((n : Int) % 8) * 8) 8) = true := by rw [byte_field x (n % 8) (by omega)]; simp
  have hw2 := hid (show wordI (toBytesAll l) ((n : Int) / 8) = x by rw [show (n : Int) / 8 = ((n / 8 : Nat) : Int) by omega, wordI_nat, hw])
  have e8 : ((8 : Int) * l.length == 8 * l.length) = true := by simp
  replace hlen := hid hlen
  have k0 : (0 : Int) ≤ n := by omega
  have k1 : (n : Int) < 8 * l.length := by omega
  have k2 : (n : Int) / 8 < l.length := by omega
  have k3 : (0 : Int) ≤ (n : Int) / 8 := by omega
  clear hg hw hl1 hl o2
  rw [hlen.out]
  have r3 := fun W (hq : Quiet w2 W) => get_any (some ⟨x1, y1, none⟩) (toBytesAll l) c2 w2.heap.size ((n : Int) / 8) W (r2.quiet hq)
  rw [hlen.out] at r3
  replace r3 := hid r3
  go_wp2_with fail
  have z1 : IntKind.i64.wrap ((n : Int) / 8) = (n : Int) / 8 := IntWalk.i64_in _ (by omega)
  have z2 : (n : Int).tmod 8 = (n : Int) % 8 := Int.tmod_eq_emod_of_nonneg (by omega)
  have z3 : IntKind.i64.wrap ((n : Int) % 8 * 8) = (n : Int) % 8 * 8 := IntWalk.i64_in _ (by omega)
  have z4 : ((n : Int) / 8).toNat = n / 8 := by omega
  have z5 : IntKind.i64.wrap (8 * (l.length : Int)) = 8 * l.length := IntWalk.i64_in _ (by omega)
  have z6 : (((8 * l.length : Nat) : Int) == 8 * (l.length : Int)) = true := by simp
  go_quiet ((first | (go_at_call 18; exact quiet_more (field_any x _ 8 (by omega) _)) | (go_at_call 16; exact quiet_left (r3.out _ Quiet.mk))))
  go_wp2
  go_ret
  exact ⟨by rw [hw2.out]; simp, (hb1.trans (b2.mono hb1.size)).trans (Quiet.mk.below _)⟩

set_option maxHeartbeats 1600000 in
theorem w_WordBack (a : Option Addr) (c : Nat) (l : List (BitVec 64)) (v : BitVec 64) (f n : Int) (x : BitVec 64) (w : World) (hl : IsU w.heap.size w a c l)
    (hf : -9223372036854775808 ≤ f ∧ f ≤ 9223372036854775807) (hn : -9223372036854775808 ≤ n ∧ n ≤ 9223372036854775807) :
    Calls Try.prog 5 #[.slice a l.length c, .int .u64 (u v), .int .i64 f, .int .i64 n, .int .u64 (u x)] w fun e w' => e = .returned (.bool true) ∧ Below w.heap.size w w' := by
  have hm := hl.max
  have sm := hid (show decide (toWords (toBytesAll l) = l) = true by rw [toWords_toBytesAll]; simp)
  have rb := hid (rot_back v n)
  go_enter Try.func5, Try.ntmps5
  go_wp2_with fail
  refine (wordAwake _).mono ?_
  rintro e w1 ⟨rfl, hb1⟩
  have hl1 := hl.below hb1 (Nat.le_refl _)
  by_cases h30 : 30 < l.length
  · go_wp2
    go_ret
    exact ⟨rfl, hb1⟩
  have hsz1 := hb1.size
  go_wp2_with fail
  refine (bytes_any _ l _ _ (by omega) _ hl1 hsz1).mono ?_
  rintro e w2 ⟨v2, rfl, o2, b2⟩
  have hl2 := hl1.below b2 hsz1
  obtain ⟨a2, c2, rfl, r2⟩ := o2.read
  have hlen := hid (toBytesAll_length l)
  have hsz2 := b2.size
  go_wp2_with fail
  refine (words_any _ (toBytesAll l) _ _ (by rw [hlen.out]; omega) _ r2 (Nat.le_refl _)).mono ?_
  rintro e w3 ⟨v3, rfl, o3, b3⟩
  have hl3 := hl2.below b3 (by omega)
  obtain ⟨a3, c3, rfl, r3⟩ := o3.read
  go_wp2_with fail
  refine (same_any _ _ _ _ _ l _ _ _ r3 hl3).mono ?_
  rintro e w4 ⟨rfl, q4⟩
  rw [sm.out]
  have hb4 := ((hb1.trans (b2.mono hsz1)).trans (b3.mono (show w.heap.size ≤ w2.heap.size by omega))).trans (q4.below _)
  clear o2 o3 r2 r3 hl1 hl2 hl3 b2 b3 q4 hb1 sm
  go_wp2_with fail
  refine (with_any v f n x (by omega) _).mono ?_
  rintro e w5 ⟨rfl, q5⟩
  have hb5 := hb4.trans (q5.below _)
  have fin : ∀ W, Below w.heap.size w W → True := fun _ _ => trivial
  by_cases hmay : mayF f n = true
  · have h' := (mayF_iff f n).1 hmay
    obtain ⟨F, rfl⟩ := Int.eq_ofNat_of_zero_le h'.1
    obtain ⟨N, rfl⟩ := Int.eq_ofNat_of_zero_le (show 0 ≤ n by omega)
    have p1 := hid (field_with v F N x (by omega) (by omega) (by omega))
    have p2 := hid (with_field v F N x (by omega) (by omega) (by omega))
    have g1 : (F : Int) ≤ 63 := by omega
    have g2 : (1 : Int) ≤ N := by omega
    have g3 : (N : Int) ≤ 64 - F := by omega
    have g4 : ((N : Int) == -9223372036854775808) = false := by simp
    have rb2 := hid (show (v.rotateLeft (N % 64)).rotateLeft (-(N : Int) % 64).toNat = v by have := rb.out; rwa [show ((N : Int) % 64).toNat = N % 64 by omega] at this)
    clear hmay h'
    go_wp2_with fail
    refine (field_any _ _ _ (by omega) _).mono ?_
    rintro e w6 ⟨rfl, q6⟩
    rw [p1.out]
    go_wp2_with fail
    refine (field_any _ _ _ (by omega) _).mono ?_
    rintro e w7 ⟨rfl, q7⟩
    go_wp2_with fail
    refine (field_any _ _ _ (by omega) _).mono ?_
    rintro e w8 ⟨rfl, q8⟩
    go_wp2_with fail
    refine (with_any _ _ _ _ (by omega) _).mono ?_
    rintro e w9 ⟨rfl, q9⟩
    rw [p2.out]
    go_wp2_with fail
    refine (turn_any v _ _).mono ?_
    rintro e w10 ⟨rfl, rfl⟩
    go_wp2_with fail
    refine (turn_any _ _ _).mono ?_
    rintro e w10 ⟨rfl, rfl⟩
    rw [rb2.out]
    go_wp2
    go_ret
    exact ⟨rfl, (((hb5.trans (q6.below _)).trans (q7.below _)).trans (q8.below _)).trans (q9.below _)⟩
  · have hwi := hid (show withI v f n x = v by simp [withI, hmay])
    have hno : ¬ (0 ≤ f ∧ f < 64 ∧ 1 ≤ n ∧ n ≤ 64 - f) := fun h => hmay ((mayF_iff f n).2 h)
    clear hmay
    rw [hwi.out]
    have parts : f < 0 ∨ (0 ≤ f ∧ 63 < f) ∨ (0 ≤ f ∧ f ≤ 63 ∧ n < 1) ∨ (0 ≤ f ∧ f ≤ 63 ∧ 1 ≤ n ∧ 64 - f < n) := by omega
    clear hno
    by_cases n0 : n = -9223372036854775808
    · have g4 : (n == -9223372036854775808) = true := by simp [n0]
      clear n0
      replace g4 := hid g4
      have g4' := g4.out
      rcases parts with p | ⟨p0, p⟩ | ⟨p0, p1, p⟩ | ⟨p0, p1, p2, p⟩
      all_goals
        go_wp2_with fail
        refine (turn_any v _ _).mono ?_
        rintro e w10 ⟨rfl, rfl⟩
        go_wp2_with fail
        refine (turn_any _ _ _).mono ?_
        rintro e w10 ⟨rfl, rfl⟩
        generalize (v.rotateLeft (n % 64).toNat).rotateLeft _ = y
        cases hyv : (y == v)
        all_goals
          go_wp2
          go_ret
          exact ⟨rfl, hb5⟩
    · have g4 : -9223372036854775807 ≤ n := by omega
      clear n0
      rcases parts with p | ⟨p0, p⟩ | ⟨p0, p1, p⟩ | ⟨p0, p1, p2, p⟩
      all_goals
        go_wp2_with fail
        refine (turn_any v _ _).mono ?_
        rintro e w10 ⟨rfl, rfl⟩
        go_wp2_with fail
        refine (turn_any _ _ _).mono ?_
        rintro e w10 ⟨rfl, rfl⟩
        rw [rb.out]
        go_wp2
        go_ret
        exact ⟨rfl, hb5⟩
end Go.Proofs.Ytmefcjgoedhpkaa

/-
  THE WALKS of layer 2's laws.
-/
import Derived.Test.YtmefcjgoedhpkaaSeal
namespace Go.Proofs.Ytmefcjgoedhpkaa
open Go.ChangeShapes Go.WideShapes Go.ChangeAt Go.RowKit
attribute [local go_sem high] wrap_u64 wrap_u8 bits_and_u64 bits_or_u64 bits_xor_u64 bits_andNot_u64 shl_u64 shr_u64 ite_sub1 ite_subS
attribute [local go_sem] u_nonneg u_toNat ofInt64_ub ofInt8_u ofInt_mul_pow u_div_pow u_beq subA_zero

theorem w_SealSays (a : Option Addr) (c : Nat) (l : List (BitVec 64)) (at' : Int) (s : BitVec 64) (w : World) (hl : IsU w.heap.size w a c l) (hat : -9223372036854775808 ≤ at' ∧ at' ≤ 9223372036854775807) :
    Calls Try.prog 9 #[.slice a l.length c, .int .i64 at', .int .u64 (u s)] w fun e w' => e = .returned (.bool true) ∧ Below w.heap.size w w' := by
  go_enter Try.func9, Try.ntmps9
  go_wp2_with fail
  refine (sealAwake _).mono ?_
  rintro e w1 ⟨rfl, hb⟩
  have hl1 := hl.below hb (Nat.le_refl _)
  by_cases h100 : 100 < l.length
  · go_wp2
    go_ret
    exact ⟨rfl, hb⟩
  · go_wp2_with fail
    refine (sealOf_any _ l _ _ _ hl1).mono ?_
    rintro e w2 ⟨rfl, rfl⟩
    go_wp2_with fail
    refine (rof_any _ l _ _ _ _ rfl hl1).mono ?_
    rintro e w2 ⟨rfl, hq⟩
    go_wp2_with fail
    refine (sealOn_any s _ l _ _ _ (hl1.quiet hq)).mono ?_
    rintro e w3 ⟨rfl, rfl⟩
    go_wp2_with fail
    refine (rseal_any s _ l _ _ _ (hl1.quiet hq)).mono ?_
    rintro e w3 ⟨rfl, hq3⟩
    go_wp2_with fail
    refine (fits_any _ l _ _ _ ((hl1.quiet hq).quiet hq3)).mono ?_
    rintro e w4 ⟨rfl, hq4⟩
    go_wp2_with fail
    refine (rfits_any _ l _ _ _ (((hl1.quiet hq).quiet hq3).quiet hq4)).mono ?_
    rintro e w5 ⟨rfl, hq5⟩
    have hqq := ((hq.trans hq3).trans hq4).trans hq5
    have hl5 := hl1.quiet hqq
    have hb5 := hb.trans (hqq.below w.heap.size)
    clear hq hq3 hq4 hq5 hqq hl1 hb hl
    have hm := hl5.max
    by_cases hneg : at' < 0
    · go_wp2
      go_ret
      exact ⟨rfl, hb5⟩
    · by_cases hbig : (l.length : Int) < at'
      · go_wp2
        go_ret
        exact ⟨rfl, hb5⟩
      · obtain ⟨n, rfl⟩ := Int.eq_ofNat_of_zero_le (a := at') (by omega)
        have hn : n ≤ l.length := by omega
        go_wp2
        have ht := hl5.take n hn
        have hd := hl5.drop n hn
        have H1 := hid (show (l.take n).length = n by simp; omega)
        have H2 := hid (show (l.drop n).length = l.length - n by simp)
        have hn0 : (0 : Int) ≤ n := by omega
        have hn1 : (n : Int) ≤ l.length := by omega
        have hn2 : (n : Int) ≤ c := by omega
        have E := hid (sealOn_parts l n)
        go_quiet ((first | (go_at_call 31; with_reducible exact quiet_left (sealOf_n _ _ _ _ _ _ H1.out (ht.quiet Quiet.mk))) | (go_at_call 33; exact quiet_left (sealOn_n _ _ _ _ _ _ _ H2.out (hd.quiet Quiet.mk))) | (go_at_call 31; exact quiet_left (sealOf_n _ l _ _ _ _ rfl (hl5.quiet Quiet.mk)))))
        go_wp2
        go_ret
        exact ⟨by rw [E.out]; simp, hb5.trans (Quiet.mk.below _)⟩
end Go.Proofs.Ytmefcjgoedhpkaa

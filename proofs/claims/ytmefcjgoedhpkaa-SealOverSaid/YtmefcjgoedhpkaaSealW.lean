/-
  THE WALKS of layer 2's laws.
-/
import Derived.Test.YtmefcjgoedhpkaaSealP
import Derived.StillTailTactics
namespace Go.Proofs.Ytmefcjgoedhpkaa
open Go.ChangeShapes Go.WideShapes Go.ChangeAt Go.RowKit
attribute [local go_sem high] wrap_u64 wrap_u8 bits_and_u64 bits_or_u64 bits_xor_u64 bits_andNot_u64 shl_u64 shr_u64 ite_sub1 ite_subS
attribute [local go_sem] u_nonneg u_toNat ofInt64_ub ofInt8_u ofInt_mul_pow u_div_pow u_beq subA_zero

theorem info26 : (Try.prog.info? 26).map (fun i => (i.zero, i.size, i.bytes)) = some (some (.int .u64 0), 1, 8) := by kernel_rfl

set_option maxHeartbeats 800000 in
theorem w_SealTwo (x y : BitVec 64) (a : Option Addr) (c : Nat) (l : List (BitVec 64)) (w : World) (hl : IsU w.heap.size w a c l) :
    Calls Try.prog 12 #[.int .u64 (u x), .int .u64 (u y), .slice a l.length c] w fun e w' => e = .returned (.bool true) ∧ Below w.heap.size w w' := by
  obtain ⟨i8, hi, hz, hs, hb⟩ := info_parts info26
  replace hi := hid hi
  replace hz := hid hz
  replace hs := hid hs
  replace hb := hid hb
  have hr := hid (rot_or (x ^^^ y) 9 (by omega))
  have ht := hid (beq_two x y l)
  go_enter Try.func12, Try.ntmps12
  go_wp2_with fail
  refine (sealAwake _).mono ?_
  rintro e w1 ⟨rfl, hb1⟩
  have hl1 := hl.below hb1 (Nat.le_refl _)
  have hsz1 := hb1.size
  by_cases h30 : 30 < l.length
  · go_wp2
    go_ret
    exact ⟨rfl, hb1⟩
  · go_wp2_with (at_builtin; refine appLitU (l := l) Try.underlying28 hi.out hz.out hs.out hb.out rfl w.heap.size ?_ ?_ hl1 ?_ rfl ?_ [x, y] rfl rfl rfl rfl rfl ?_)
    · exact hsz1
    · simp
    · exact hsz1
    · omega
    intro v1 w2 l1 e1 ho1 hb2
    obtain ⟨a1, c1, rfl, hr1⟩ := ho1.read
    go_wp2_with fail
    refine (sealOf_any _ _ _ _ _ hr1).mono ?_
    rintro e w3 ⟨rfl, rfl⟩
    have hl2 := hl1.below hb2 (Nat.le_refl _)
    have hsz2 := hb2.size
    clear hr1 ho1
    go_wp2_with (at_builtin; refine appLitU (l := l) Try.underlying28 hi.out hz.out hs.out hb.out rfl w.heap.size ?_ ?_ hl2 ?_ rfl ?_ [y, x] rfl rfl rfl rfl rfl ?_)
    · omega
    · simp
    · omega
    · omega
    intro v2 w3 l2 e2 ho2 hb3
    obtain ⟨a2, c2, rfl, hr2⟩ := ho2.read
    go_wp2_with fail
    refine (sealOf_any _ _ _ _ _ hr2).mono ?_
    rintro e w3 ⟨rfl, rfl⟩
    go_wp2
    go_ret
    exact ⟨by rw [e1.out, e2.out]; have := ht.out; rw [← hr.out] at this; simp [this], (hb1.trans hb2).trans hb3⟩
set_option maxHeartbeats 1600000 in
theorem w_SealFits (a : Option Addr) (c : Nat) (l : List (BitVec 64)) (k : Int) (y : BitVec 64) (w : World) (hl : IsU w.heap.size w a c l) (hk : -9223372036854775808 ≤ k ∧ k ≤ 9223372036854775807) :
    Calls Try.prog 13 #[.slice a l.length c, .int .i64 k, .int .u64 (u y)] w fun e w' => e = .returned (.bool true) ∧ Below w.heap.size w w' := by
  obtain ⟨i8, hi, hz, hs, hb⟩ := info_parts info26
  replace hi := hid hi
  replace hz := hid hz
  replace hs := hid hs
  replace hb := hid hb
  have f1 := hid (show sealFits (l ++ [sealOf l]) = true by rw [sealFits_snoc]; simp)
  have f2 := hid (show sealFits (l ++ [sealOf l] ++ [y]) = (sealOf (l ++ [sealOf l]) == y) by rw [sealFits_snoc, BEq.comm])
  have hm := hl.max
  go_enter Try.func13, Try.ntmps13
  go_wp2_with fail
  refine (sealAwake _).mono ?_
  rintro e w1 ⟨rfl, hb1⟩
  have hl1 := hl.below hb1 (Nat.le_refl _)
  have hsz1 := hb1.size
  by_cases h60 : 60 < l.length
  · go_wp2
    go_ret
    exact ⟨rfl, hb1⟩
  by_cases hneg : k < 0
  · go_wp2
    go_ret
    exact ⟨rfl, hb1⟩
  by_cases hbig : (l.length : Int) < k
  · go_wp2
    go_ret
    exact ⟨rfl, hb1⟩
  obtain ⟨n, rfl⟩ := Int.eq_ofNat_of_zero_le (a := k) (by omega)
  have hn : n ≤ l.length := by omega
  go_wp2_with (at_builtin; refine appLitU (l := l) Try.underlying28 hi.out hz.out hs.out hb.out rfl w.heap.size ?_ ?_ hl1 ?_ rfl ?_ [] rfl rfl rfl rfl rfl ?_)
  · omega
  · simp
  · omega
  · omega
  intro v1 w2 l1 e1 ho1 hb2
  have hl2 := hl1.below hb2 (Nat.le_refl _)
  have hsz2 := hb2.size
  have n1 : l1.length ≤ 60 := by rw [e1.out]; omega
  go_wp2_with fail
  refine (sealOf_any _ l _ _ _ hl2).mono ?_
  rintro e w3 ⟨rfl, rfl⟩
  go_wp2_with (at_builtin; refine app1U Try.underlying28 hi.out hz.out hs.out hb.out rfl ho1 ?_ ?_ rfl rfl rfl rfl ?_)
  · omega
  · omega
  intro v2 w3 l2 e2 ho2 hb3
  have e3 := hid (show l2 = l ++ [sealOf l] by rw [e2.out, e1.out])
  have n2 : l2.length ≤ 61 := by rw [e3.out]; simp; omega
  clear ho1 e2 e1 n1
  obtain ⟨a2, c2, rfl, hr2⟩ := ho2.read
  have hl3 := hl2.below hb3 (by omega)
  have hsz3 := hb3.size
  go_wp2_with fail
  refine (fits_any _ l2 _ _ _ hr2).mono ?_
  rintro e w4 ⟨rfl, hq4⟩
  rw [show sealFits l2 = true by rw [e3.out]; exact f1.out]
  have hl4 := hl3.quiet hq4
  have hr4 := hr2.quiet hq4
  have hsz4 := hq4.le
  have hbb := ((hb1.trans hb2).trans hb3).trans (hq4.below _)
  clear hl1 hl2 hl3 hr2 hq4 hb1 hb2 hb3 hl ho2
  go_wp2_with (at_builtin; refine appLitU (l := l2) Try.underlying28 hi.out hz.out hs.out hb.out rfl w4.heap.size (Nat.le_refl _) ?_ hr4 ?_ rfl ?_ [] rfl rfl rfl rfl rfl ?_)
  · simp
  · omega
  · omega
  intro v4 w5 l4 e4 ho5 hb5
  have hsz5 := hb5.size
  have hl5 := hl4.below hb5 (by omega)
  have hr5 := hr4.below hb5 (by omega)
  have n4 : l4.length ≤ 61 := by rw [e4.out]; exact n2
  go_wp2_with (at_builtin; refine app1U Try.underlying28 hi.out hz.out hs.out hb.out rfl ho5 ?_ hsz5 rfl rfl rfl rfl ?_)
  · omega
  intro v6 w6 l6 e6 ho6 hb6
  clear ho5
  obtain ⟨a6, c6, rfl, hr6⟩ := ho6.read
  clear ho6
  have hl6 := hl5.below hb6 (by omega)
  have hr7 := hr5.below hb6 (by omega)
  go_wp2_with fail
  refine (fits_any _ l6 _ _ _ hr6).mono ?_
  rintro e w7 ⟨rfl, hq7⟩
  rw [show sealFits l6 = (sealOf l2 == y) by rw [e6.out, e4.out, e3.out]; exact f2.out]
  go_wp2_with fail
  refine (sealOf_any _ l2 _ _ _ (hr7.quiet hq7)).mono ?_
  rintro e w8 ⟨rfl, rfl⟩
  have hl7 := hl6.quiet hq7
  have hb7 := (hbb.trans (hb5.mono (by omega))).trans ((hb6.mono (show w.heap.size ≤ w4.heap.size by omega)).trans (hq7.below _))
  clear hl4 hl5 hl6 hr4 hr5 hr6 hr7 hq7 hb5 hb6 hbb f1 f2 hi hz hs hb
  by_cases hn0 : n = 0
  · subst hn0
    go_wp2
    go_quiet (fail)
    go_wp2
    go_ret
    exact ⟨rfl, hb7.trans (Quiet.mk.below _)⟩
  · obtain ⟨k, rfl⟩ : ∃ k, n = k + 1 := ⟨n - 1, by omega⟩
    have hz0 : (((k + 1 : Nat) : Int) == 0) = false := by simp; omega
    have hz1 : ((k : Int) + 1 == 0) = false := by simp; omega
    have h1 : (0 : Int) ≤ k := by omega
    have h2 : (k : Int) < l.length := by omega
    have h3 : (k : Int) + 1 ≤ c := by omega
    have h4 : (k : Int) ≤ c := by omega
    obtain ⟨b, off, rfl, hcell⟩ := hl7.cell (j := k) (by omega)
    have t1 := hl7.take (k + 1) hn
    have t2 := hl7.take k (by omega)
    have H1 := hid (show (l.take (k + 1)).length = k + 1 by simp; omega)
    have H2 := hid (show (l.take k).length = k by simp; omega)
    have F := hid (show sealFits (l.take (k + 1)) = (sealOf (l.take k) == l[k]?.getD 0#64) by rw [take_snocU l k (by omega), sealFits_snoc, BEq.comm])
    generalize l[k]?.getD 0#64 = x at *
    go_wp2
    go_quiet ((first | (go_at_call 35; exact quiet_more (fits_n _ _ _ _ _ _ H1.out (t1.quiet Quiet.mk))) | (go_at_call 31; exact quiet_left (sealOf_n _ _ _ _ _ _ H2.out (t2.quiet Quiet.mk)))))
    go_wp2
    go_ret
    exact ⟨by rw [F.out]; simp, hb7.trans (Quiet.mk.below _)⟩
set_option maxHeartbeats 1600000 in
theorem w_SealOne (a : Option Addr) (c : Nat) (l : List (BitVec 64)) (k : Int) (y : BitVec 64) (w : World) (hl : IsU w.heap.size w a c l) (hk : -9223372036854775808 ≤ k ∧ k ≤ 9223372036854775807) :
    Calls Try.prog 10 #[.slice a l.length c, .int .i64 k, .int .u64 (u y)] w fun e w' => e = .returned (.bool true) ∧ Below w.heap.size w w' := by
  obtain ⟨i8, hi, hz, hs, hb⟩ := info_parts info26
  replace hi := hid hi
  replace hz := hid hz
  replace hs := hid hs
  replace hb := hid hb
  have hm := hl.max
  go_enter Try.func10, Try.ntmps10
  go_wp2_with fail
  refine (sealAwake _).mono ?_
  rintro e w1 ⟨rfl, hb1⟩
  have hl1 := hl.below hb1 (Nat.le_refl _)
  have hsz1 := hb1.size
  by_cases h1 : l.length < 1
  · go_wp2
    go_ret
    exact ⟨rfl, hb1⟩
  by_cases h100 : 100 < l.length
  · go_wp2
    go_ret
    exact ⟨rfl, hb1⟩
  by_cases hneg : k < 0
  · go_wp2
    go_ret
    exact ⟨rfl, hb1⟩
  by_cases hbig : (l.length : Int) ≤ k
  · go_wp2
    go_ret
    exact ⟨rfl, hb1⟩
  by_cases hy : y = 0#64
  · have hy0 : (u y == 0) = true := by rw [hy]; rfl
    clear hy
    go_wp2
    go_ret
    exact ⟨rfl, hb1⟩
  have hy0 : (u y == 0) = false := by
    rw [show (0 : Int) = u 0#64 from rfl, u_beq]; simpa using hy
  replace hy := hid hy
  obtain ⟨n, rfl⟩ := Int.eq_ofNat_of_zero_le (a := k) (by omega)
  have hn : n < l.length := by omega
  have hne := hid (sealOf_set_ne l n y hn hy.out)
  have hf1 := hid (show sealFits (l ++ [sealOf l]) = true by rw [sealFits_snoc]; simp)
  have hf2 := hid (show sealFits (l.set n (l[n]?.getD 0#64 ^^^ y) ++ [sealOf l]) = false by rw [sealFits_snoc]; simpa using fun h => hne.out h.symm)
  have hf3 := hid (show sealFits (l ++ [sealOf l ^^^ y]) = false by
    rw [sealFits_snoc]
    simp only [beq_eq_false_iff_ne]
    intro h
    exact hy.out (xor_left (c := sealOf l) (by rw [h]; simp)))
  generalize hx0 : l[n]?.getD 0#64 = x0 at *
  have hx := hid hx0
  clear hx0
  go_wp2_with (at_builtin; refine appLitU (l := l) Try.underlying28 hi.out hz.out hs.out hb.out rfl w.heap.size ?_ ?_ hl1 ?_ rfl ?_ [] rfl rfl rfl rfl rfl ?_)
  · omega
  · simp
  · omega
  · omega
  intro v1 w2 l1 e1 ho1 hb2
  have hl2 := hl1.below hb2 (Nat.le_refl _)
  have hsz2 := hb2.size
  have e2 := hid (show l1 = l from e1.out)
  clear e1
  obtain rfl := e2.out
  clear e2
  obtain ⟨g, cap, rfl, hgB, hgs, hcap, hcapm, hcell, hfr, hset⟩ := ho1.row (by omega)
  have hc1 := hcell n hn
  have hf := hfr n
  rw [hx.out] at hc1
  obtain ⟨ho2, hb3⟩ := hset n (x0 ^^^ y)
  have hcapm' : cap ≤ 9223372036854775807 := by unfold maxLen at hcapm; omega
  clear hset hcell hfr ho1
  obtain ⟨hlen2, hr2⟩ := ho2.isU
  replace hlen2 := hid hlen2
  have hl3 := hl2.below hb3 (Nat.le_refl _)
  generalize hw3 : w2.setCell ⟨g, n, none⟩ (.int .u64 (u (x0 ^^^ y))) = w3 at *
  have HW3 := hid hw3
  clear hw3
  go_wp2_with fail
  rw [HW3.out]
  generalize l1.set n (x0 ^^^ y) = m at *
  have hl4 := hl3
  have hsz3 := hb3.size
  refine (sealOf_any _ l1 _ _ _ hl3).mono ?_
  rintro e w4 ⟨rfl, rfl⟩
  go_wp2_with fail
  refine (sealOf_n _ m _ _ _ _ hlen2.out hr2).mono ?_
  rintro e w4 ⟨rfl, rfl⟩
  have hne2 : (sealOf m == sealOf l1) = false := by simpa using hne.out
  have hne3 : (sealOf m != sealOf l1) = true := by simpa using hne.out
  have hne4 : (u (sealOf m) != u (sealOf l1)) = true := by rw [bne, u_beq]; simpa using hne.out
  go_wp2_with (at_builtin; refine appLitU (l := l1) Try.underlying28 hi.out hz.out hs.out hb.out rfl w3.heap.size (Nat.le_refl _) ?_ hl3 ?_ rfl ?_ [] rfl rfl rfl rfl rfl ?_)
  · simp
  · omega
  · omega
  intro v5 p5 l5 e5 o5 b5
  have z5 := b5.size
  have n5 : l5.length ≤ 100 := by rw [e5.out]; omega
  go_wp2_with (at_builtin; refine app1U Try.underlying28 hi.out hz.out hs.out hb.out rfl o5 ?_ z5 rfl rfl rfl rfl ?_)
  · omega
  intro v5' q5 m5 f5 r5 c5
  clear o5
  obtain ⟨a5, d5, rfl, i5⟩ := r5.read
  clear r5
  have t5 := c5.size
  go_wp2_with fail
  refine (fits_any _ m5 _ _ _ i5).mono ?_
  rintro e w5 ⟨rfl, Q5⟩
  rw [show sealFits m5 = true by rw [f5.out, e5.out]; exact hf1.out]
  have y5 := Q5.le
  have hl5 := ((hl3.below b5 (by omega)).below c5 (by omega)).quiet Q5
  have hm5 := ((hr2.below b5 (Nat.le_refl _)).below c5 (Nat.le_refl _)).quiet Q5
  have hb5 := (((hb1.trans hb2).trans hb3).trans (b5.mono (by omega))).trans ((c5.mono (show w.heap.size ≤ w3.heap.size by omega)).trans (Q5.below _))
  clear hl3 hl4 hr2 b5 c5 Q5 i5 hl2 hl1 hl hb1 hb2 hb3
  go_wp2_with (at_builtin; refine appLitU (l := m) Try.underlying28 hi.out hz.out hs.out hb.out rfl w5.heap.size (Nat.le_refl _) ?_ hm5 ?_ hlen2.out ?_ [] rfl rfl rfl rfl rfl ?_)
  · simp
  · omega
  · omega
  intro v6 p6 l6 e6 o6 b6
  have z6 := b6.size
  have n6 : l6.length ≤ 100 := by rw [e6.out]; have := hlen2.out; omega
  go_wp2_with (at_builtin; refine app1U Try.underlying28 hi.out hz.out hs.out hb.out rfl o6 ?_ z6 rfl rfl rfl rfl ?_)
  · omega
  intro v6' q6 m6 f6 r6 c6
  clear o6
  obtain ⟨a6, d6, rfl, i6⟩ := r6.read
  clear r6
  have t6 := c6.size
  go_wp2_with fail
  refine (fits_any _ m6 _ _ _ i6).mono ?_
  rintro e w6 ⟨rfl, Q6⟩
  rw [show sealFits m6 = false by rw [f6.out, e6.out]; exact hf2.out]
  have y6 := Q6.le
  have hl6 := ((hl5.below b6 (by omega)).below c6 (by omega)).quiet Q6
  have hb6 := (hb5.trans (b6.mono (by omega))).trans ((c6.mono (show w.heap.size ≤ w5.heap.size by omega)).trans (Q6.below _))
  clear hl5 hm5 b6 c6 Q6 i6 hb5
  go_wp2_with (at_builtin; refine appLitU (l := l1) Try.underlying28 hi.out hz.out hs.out hb.out rfl w6.heap.size (Nat.le_refl _) ?_ hl6 ?_ rfl ?_ [] rfl rfl rfl rfl rfl ?_)
  · simp
  · omega
  · omega
  intro v7 p7 l7 e7 o7 b7
  have z7 := b7.size
  have n7 : l7.length ≤ 100 := by rw [e7.out]; omega
  go_wp2_with (at_builtin; refine app1U Try.underlying28 hi.out hz.out hs.out hb.out rfl o7 ?_ z7 rfl rfl rfl rfl ?_)
  · omega
  intro v7' q7 m7 f7 r7 c7
  clear o7
  obtain ⟨a7, d7, rfl, i7⟩ := r7.read
  clear r7
  have t7 := c7.size
  go_wp2_with fail
  refine (fits_any _ m7 _ _ _ i7).mono ?_
  rintro e w7 ⟨rfl, Q7⟩
  rw [show sealFits m7 = false by rw [f7.out, e7.out]; exact hf3.out]
  have y7 := Q7.le
  have hb7 := (hb6.trans (b7.mono (by omega))).trans ((c7.mono (show w.heap.size ≤ w6.heap.size by omega)).trans (Q7.below _))
  go_wp2
  go_ret
  exact ⟨rfl, hb7⟩
theorem madeU {n : Nat} {i0 : TypeInfo} (hi : Try.prog.info? 26 = some i0) (hz0 : i0.zero = some (.int .u64 0)) (hz1 : i0.size = 1) (hz2 : i0.bytes = 8) (hn : n ≤ 1000000) (w : World) :
    (Instr.makeSlice 28 (.int .i64 (n : Int)) (.int .i64 (n : Int))).run Try.prog w = .ok (.slice (some ⟨w.heap.size, 0, none⟩) n n) (w.alloc (.cells (madeCells #[.int .u64 0] n) 26)) := by
  have h := run_make (P := Try.prog) w 28 26 i0 (.int .u64 0) Try.underlying28 hi hz0 .i64 .i64 (n : Int) (n : Int) (by omega) (by omega) (by rw [hz2]; omega) (by omega)
  rw [h, hz1, Int.toNat_natCast, Nat.mul_one]
  rfl
/-- a list that is made element by element. -/
def mk3 (f : Nat → BitVec 64) (n j : Nat) : List (BitVec 64) := (List.range n).map fun i => if i < j then f i else 0#64
theorem mk3_zero (f : Nat → BitVec 64) (n : Nat) : mk3 f n 0 = List.replicate n 0#64 := by
  apply List.ext_getElem <;> simp [mk3]
theorem mk3_succ (f : Nat → BitVec 64) (n j : Nat) : (mk3 f n j).set j (f j) = mk3 f n (j + 1) := by
  apply List.ext_getElem
  · simp [mk3]
  · intro i h1 h2
    simp [mk3] at h2
    rw [List.getElem_set]
    simp only [mk3, List.getElem_map, List.getElem_range]
    by_cases hij : j = i
    · subst hij; simp
    · have : (i < j + 1) = (i < j) := by apply propext; omega
      simp [hij, this]
theorem mk3_all (f : Nat → BitVec 64) (n : Nat) : mk3 f n n = (List.range n).map f := by
  apply List.ext_getElem
  · simp [mk3]
  · intro i h1 h2
    simp [mk3] at h1
    simp [mk3, h1]
theorem mk3_len (f : Nat → BitVec 64) (n j : Nat) : (mk3 f n j).length = n := by simp [mk3]

set_option maxHeartbeats 1600000 in
theorem w_SealOver (a1 : Option Addr) (c1 : Nat) (l1 : List (BitVec 64)) (a2 : Option Addr) (c2 : Nat) (l2 : List (BitVec 64)) (a3 : Option Addr) (c3 : Nat) (l3 : List (BitVec 64)) (w : World)
    (h1 : IsU w.heap.size w a1 c1 l1) (h2 : IsU w.heap.size w a2 c2 l2) (h3 : IsU w.heap.size w a3 c3 l3) :
    Calls Try.prog 11 #[.slice a1 l1.length c1, .slice a2 l2.length c2, .slice a3 l3.length c3] w fun e w' => e = .returned (.bool true) ∧ Below w.heap.size w w' := by
  obtain ⟨i8, hi, hz, hs, hb⟩ := info_parts info26
  have hm1 := h1.max
  have hm2 := h2.max
  have hm3 := h3.max
  by_cases h60 : l1.length ≤ 60
  case neg =>
    go_enter Try.func11, Try.ntmps11
    go_wp2_with fail
    refine (sealAwake _).mono ?_
    rintro e w1 ⟨rfl, hb1⟩
    go_wp2
    go_ret
    exact ⟨rfl, hb1⟩
  by_cases e2 : l2.length = l1.length
  case neg =>
    have e2' : ((l2.length : Int) == l1.length) = false := by simp; omega
    go_enter Try.func11, Try.ntmps11
    go_wp2_with fail
    refine (sealAwake _).mono ?_
    rintro e w1 ⟨rfl, hb1⟩
    go_wp2
    go_ret
    exact ⟨rfl, hb1⟩
  by_cases e3 : l3.length = l1.length
  case neg =>
    have e3' : ((l3.length : Int) == l1.length) = false := by simp; omega
    have e3'' : ((l3.length : Int) != l1.length) = true := by simp; omega
    have e2' : ((l2.length : Int) == l1.length) = true := by simp; omega
    have e2'' : ((l2.length : Int) != l1.length) = false := by simp; omega
    replace e2 := hid e2
    go_enter Try.func11, Try.ntmps11
    go_wp2_with fail
    refine (sealAwake _).mono ?_
    rintro e w1 ⟨rfl, hb1⟩
    go_wp2
    go_ret
    exact ⟨rfl, hb1⟩
  have hmk := madeU hi hz hs hb (n := l1.length) (by omega)
  have F := hid (sealOf_over l1 l2 l3 e2 e3)
  clear hi hz hs hb
  generalize hn : l1.length = n at *
  replace hn := hid hn
  rw [e2, e3]
  replace e2 := hid e2
  replace e3 := hid e3
  go_enter Try.func11, Try.ntmps11
  go_wp2_with fail
  refine (sealAwake _).mono ?_
  rintro e w1 ⟨rfl, hb1⟩
  go_wp2
  have hmade := own_made w1 26 n w.heap.size hb1.size (by omega)
  rw [← mk3_zero (fun i => l1[i]?.getD 0#64 ^^^ l2[i]?.getD 0#64 ^^^ l3[i]?.getD 0#64)] at hmade
  clear hmk
  go_loopw [8] (fun k wr => ∃ j : Nat, j ≤ n ∧ k = .int .i64 j ∧ OwnU wr w.heap.size 26 (.slice (some ⟨w1.heap.size, 0, none⟩) n n) (mk3 (fun i => l1[i]?.getD 0#64 ^^^ l2[i]?.getD 0#64 ^^^ l3[i]?.getD 0#64) n j) ∧ Below w.heap.size w wr) (fun k _ => n - (intOf k).toNat)
  case atStart => exact ⟨0, by omega, rfl, hmade, hb1.trans ((Below.refl _ _).alloc hb1.size _)⟩
  case round =>
    obtain ⟨j, hj, rfl, ho, hbr⟩ := hrel
    have r1 := h1.below hbr (Nat.le_refl _)
    have r2 := h2.below hbr (Nat.le_refl _)
    have r3 := h3.below hbr (Nat.le_refl _)
    by_cases hlt : j < n
    · obtain ⟨b1, o1, rfl, q1⟩ := r1.cell (j := j) (by rw [hn.out]; exact hlt)
      obtain ⟨b2, o2, rfl, q2⟩ := r2.cell (j := j) (by rw [e2.out]; exact hlt)
      obtain ⟨b3, o3, rfl, q3⟩ := r3.cell (j := j) (by rw [e3.out]; exact hlt)
      obtain ⟨g, cap, hv, hgB, hgs, hcap, hcapm, hcell, hfr, hset⟩ := ho.row (by rw [mk3_len]; omega)
      have hg : g = w1.heap.size := by simpa using (congrArg (fun v => match v with | .slice (some a) _ _ => a.block | _ => 0) hv).symm
      subst hg
      have hc1 := hcell j (by rw [mk3_len]; exact hlt)
      have hf := hfr j
      obtain ⟨ho2, hb2⟩ := hset j (l1[j]?.getD 0#64 ^^^ l2[j]?.getD 0#64 ^^^ l3[j]?.getD 0#64)
      rw [mk3_succ (fun i => l1[i]?.getD 0#64 ^^^ l2[i]?.getD 0#64 ^^^ l3[i]?.getD 0#64) n j] at ho2
      clear hset hcell hfr ho hv hcap hcapm
      have hj0 : (0 : Int) ≤ j := by omega
      have hj1 : (j : Int) < n := by omega
      generalize l1[j]?.getD 0#64 = x1 at *
      generalize l2[j]?.getD 0#64 = x2 at *
      generalize l3[j]?.getD 0#64 = x3 at *
      go_wp2
      go_still_tail 17, (by kernel_rfl)
      go_wp2
      go_roundw
      case rel => exact ⟨j + 1, by omega, by go_num, ho2.quiet Quiet.drew1, (hbr.trans hb2).trans (Quiet.drew1.below _)⟩
      case measure => simp [intOf]; omega
    · obtain rfl : j = n := by omega
      rw [mk3_all] at ho
      obtain ⟨hlen, rd⟩ := ho.isU
      generalize (List.range j).map (fun i => l1[i]?.getD 0#64 ^^^ l2[i]?.getD 0#64 ^^^ l3[i]?.getD 0#64) = d at *
      replace hlen := hid hlen
      go_wp2_with fail
      refine (sealOf_n _ d _ _ _ _ hlen.out rd).mono ?_
      rintro e w3 ⟨rfl, rfl⟩
      go_wp2_with fail
      refine (sealOf_n _ l1 _ _ _ _ hn.out r1).mono ?_
      rintro e w3 ⟨rfl, rfl⟩
      go_wp2_with fail
      refine (sealOf_n _ l2 _ _ _ _ e2.out r2).mono ?_
      rintro e w3 ⟨rfl, rfl⟩
      go_wp2_with fail
      refine (sealOf_n _ l3 _ _ _ _ e3.out r3).mono ?_
      rintro e w3 ⟨rfl, rfl⟩
      go_wp2
      go_ret
      exact ⟨by rw [F.out]; simp, hbr⟩
theorem w_SealSays (a : Option Addr) (c : Nat) (l : List (BitVec 64)) (at' : Int) (s : BitVec 64) (w : World) (hl : IsU w.heap.size w a c l) (hat : -9223372036854775808 ≤ at' ∧ at' ≤ 9223372036854775807) :
    Calls Try.prog 9 #[.slice a l.length c, .int .i64 at', .int .u64 (u s)] w fun e w' => e = .returned (.bool true) ∧ Below w.heap.size w w' := by
  go_enter Try.func9, Try.ntmps9
  go_wp2_with fail
  refine (sealAwake _).mono ?_
  rintro e w1 ⟨rfl, hb⟩
  have hl1 := hl.below hb (Nat.le_refl _)
  by_cases h100 : 100 < l.length
  · go_wp2
    go_ret
    exact ⟨rfl, hb⟩
  · go_wp2_with fail
    refine (sealOf_any _ l _ _ _ hl1).mono ?_
    rintro e w2 ⟨rfl, rfl⟩
    go_wp2_with fail
    refine (rof_any _ l _ _ _ _ rfl hl1).mono ?_
    rintro e w2 ⟨rfl, hq⟩
    go_wp2_with fail
    refine (sealOn_any s _ l _ _ _ (hl1.quiet hq)).mono ?_
    rintro e w3 ⟨rfl, rfl⟩
    go_wp2_with fail
    refine (rseal_any s _ l _ _ _ (hl1.quiet hq)).mono ?_
    rintro e w3 ⟨rfl, hq3⟩
    go_wp2_with fail
    refine (fits_any _ l _ _ _ ((hl1.quiet hq).quiet hq3)).mono ?_
    rintro e w4 ⟨rfl, hq4⟩
    go_wp2_with fail
    refine (rfits_any _ l _ _ _ (((hl1.quiet hq).quiet hq3).quiet hq4)).mono ?_
    rintro e w5 ⟨rfl, hq5⟩
    have hqq := ((hq.trans hq3).trans hq4).trans hq5
    have hl5 := hl1.quiet hqq
    have hb5 := hb.trans (hqq.below w.heap.size)
    clear hq hq3 hq4 hq5 hqq hl1 hb hl
    have hm := hl5.max
    by_cases hneg : at' < 0
    · go_wp2
      go_ret
      exact ⟨rfl, hb5⟩
    · by_cases hbig : (l.length : Int) < at'
      · go_wp2
        go_ret
        exact ⟨rfl, hb5⟩
      · obtain ⟨n, rfl⟩ := Int.eq_ofNat_of_zero_le (a := at') (by omega)
        have hn : n ≤ l.length := by omega
        go_wp2
        have ht := hl5.take n hn
        have hd := hl5.drop n hn
        have H1 := hid (show (l.take n).length = n by simp; omega)
        have H2 := hid (show (l.drop n).length = l.length - n by simp)
        have hn0 : (0 : Int) ≤ n := by omega
        have hn1 : (n : Int) ≤ l.length := by omega
        have hn2 : (n : Int) ≤ c := by omega
        have E := hid (sealOn_parts l n)
        go_quiet ((first | (go_at_call 31; with_reducible exact quiet_left (sealOf_n _ _ _ _ _ _ H1.out (ht.quiet Quiet.mk))) | (go_at_call 33; exact quiet_left (sealOn_n _ _ _ _ _ _ _ H2.out (hd.quiet Quiet.mk))) | (go_at_call 31; exact quiet_left (sealOf_n _ l _ _ _ _ rfl (hl5.quiet Quiet.mk)))))
        go_wp2
        go_ret
        exact ⟨by rw [E.out]; simp, hb5.trans (Quiet.mk.below _)⟩
end Go.Proofs.Ytmefcjgoedhpkaa

/-
  CONTRACTS of package word.
-/
import Derived.Test.YtmefcjgoedhpkaaRows
import Derived.Test.YtmefcjgoedhpkaaTurn
import Derived.Test.YtmefcjgoedhpkaaLe8
import Derived.Test.YtmefcjgoedhpkaaOwn
import Derived.Deep.QuietTactic
import Derived.BigQuiet
import Derived.Outline
namespace Go.Proofs.Ytmefcjgoedhpkaa
open Go.ChangeShapes Go.WideShapes Go.ChangeAt Go.RowKit
attribute [local go_sem high] wrap_u64 wrap_u8 bits_and_u64 bits_or_u64 bits_xor_u64 bits_andNot_u64 shl_u64 shr_u64 ite_sub1 ite_subS
attribute [local go_sem] u_nonneg u_toNat ofInt64_ub ofInt8_u ofInt_mul_pow u_div_pow u_beq ub_beq u_bne subA_zero

theorem info5 : (Try.prog.info? 5).map (fun i => (i.zero, i.size, i.bytes)) = some (some (.int .u8 0), 1, 1) := by kernel_rfl
theorem info26 : (Try.prog.info? 26).map (fun i => (i.zero, i.size, i.bytes)) = some (some (.int .u64 0), 1, 8) := by kernel_rfl
theorem has_yes (a : Option Addr) (n c : Nat) (i : Int) (hn : n ≤ 9223372036854775807) (h0 : 0 ≤ i) (h1 : i < n / 8) (w : World) :
    Calls Try.prog 38 #[.slice a n c, .int .i64 i] w fun e w' => e = .returned (.bool true) ∧ w = w' := by
  go_enter Try.func38, Try.ntmps38
  go_wp2
  go_ret
  exact ⟨rfl, rfl⟩
theorem has_no (a : Option Addr) (n c : Nat) (i : Int) (hn : n ≤ 9223372036854775807) (h : ¬ (0 ≤ i ∧ i < n / 8)) (w : World) :
    Calls Try.prog 38 #[.slice a n c, .int .i64 i] w fun e w' => e = .returned (.bool false) ∧ w = w' := by
  by_cases h0 : 0 ≤ i
  · have h1 : ¬ i < n / 8 := fun h' => h ⟨h0, h'⟩
    clear h
    go_enter Try.func38, Try.ntmps38
    go_wp2
    go_ret
    exact ⟨rfl, rfl⟩
  · clear h
    go_enter Try.func38, Try.ntmps38
    go_wp2
    go_ret
    exact ⟨rfl, rfl⟩
theorem take_toBytes (x : BitVec 64) (i : Nat) (h : i < 8) : (toBytes x).take (i + 1) = (toBytes x).take i ++ [byteOf x i] := by
  rw [List.take_succ_eq_append_getElem (by rw [toBytes_length]; exact h)]
  simp [toBytes]
theorem take_snoc8 (l : List (BitVec 8)) (p j : Nat) (h : p + j < l.length) : (l.drop p).take (j + 1) = (l.drop p).take j ++ [l[p + j]?.getD 0#8] := by
  rw [List.take_succ_eq_append_getElem (by simp; omega)]
  simp [h]
theorem le8_step (l : List (BitVec 8)) (p j : Nat) (h : p + j < l.length) : le8 ((l.drop p).take (j + 1)) = le8 ((l.drop p).take j) ||| (l[p + j]?.getD 0#8).setWidth 64 <<< (8 * j) := by
  rw [take_snoc8 l p j h, le8_snoc, show (List.take j (List.drop p l)).length = j by simp; omega]
set_option maxHeartbeats 400000 in
theorem get_yes (a : Option Addr) (l : List (BitVec 8)) (c B : Nat) (i : Nat) (h1 : i < l.length / 8) (w : World) (hl : IsB B w a c l) :
    Calls Try.prog 16 #[.slice a l.length c, .int .i64 i] w fun e w' => e = .returned (.int .u64 (u (wordAt l i))) ∧ w = w' := by
  have hm := hl.max
  obtain ⟨b, off, rfl, _⟩ := hl.cell (j := 0) (by omega)
  go_enter Try.func16, Try.ntmps16
  go_wp2_with (go_at_call 38; refine (has_yes _ _ _ _ (by omega) (by omega) (by omega) _).mono ?_; rintro e w' ⟨rfl, rfl⟩)
  go_loop [5, 20] (fun v k => ∃ j : Nat, j ≤ 8 ∧ k = .int .i64 j ∧ v = .int .u64 (u (le8 ((l.drop (8 * i)).take j)))) (fun _ k => 8 - (intOf k).toNat)
  case atStart => exact ⟨0, by omega, rfl, rfl⟩
  case round =>
    obtain ⟨j, hj, rfl, rfl⟩ := hrel
    by_cases hlt : j < 8
    · obtain ⟨b', off', he, hc1⟩ := hl.cell (j := 8 * i + j) (by omega)
      simp only [Option.some.injEq, Addr.mk.injEq, and_true] at he
      obtain ⟨rfl, rfl⟩ := he
      have hs := hid (le8_step l (8 * i) j (by omega))
      rw [← Nat.add_assoc] at hc1
      generalize l[8 * i + j]?.getD 0#8 = x at *
      go_wp2
      go_round
      case rel => exact ⟨j + 1, by omega, by go_num, by rw [hs.out]⟩
      case measure => simp [intOf]; omega
    · have : j = 8 := by omega
      subst this
      go_wp2
      go_ret
      exact ⟨by rw [wordAt, if_pos h1]; rfl, rfl⟩
theorem get_no (a : Option Addr) (n c : Nat) (i : Int) (hn : n ≤ 9223372036854775807) (h1 : ¬ (0 ≤ i ∧ i < n / 8)) (w : World) :
    Calls Try.prog 16 #[.slice a n c, .int .i64 i] w fun e w' => e = .returned (.int .u64 (u 0#64)) ∧ w = w' := by
  have H := hid h1
  clear h1
  go_enter Try.func16, Try.ntmps16
  go_wp2_with (go_at_call 38; refine (has_no _ _ _ _ (by omega) H.out _).mono ?_; rintro e w' ⟨rfl, rfl⟩)
  go_ret
  exact ⟨rfl, rfl⟩
/-- word i of bytes, any i. -/
def wordI (l : List (BitVec 8)) (i : Int) : BitVec 64 := if 0 ≤ i then wordAt l i.toNat else 0#64
theorem get_any (a : Option Addr) (l : List (BitVec 8)) (c B : Nat) (i : Int) (w : World) (hl : IsB B w a c l) :
    Calls Try.prog 16 #[.slice a l.length c, .int .i64 i] w fun e w' => e = .returned (.int .u64 (u (wordI l i))) ∧ w = w' := by
  have hm := hl.max
  by_cases h : 0 ≤ i ∧ i < (l.length : Int) / 8
  · obtain ⟨n, rfl⟩ := Int.eq_ofNat_of_zero_le h.1
    have e : wordI l n = wordAt l n := by simp [wordI]
    rw [e]
    exact get_yes a l c B n (by omega) w hl
  · have e : wordI l i = 0#64 := by
      unfold wordI
      split
      · rw [wordAt, if_neg]; omega
      · rfl
    rw [e]
    exact get_no a l.length c i (by omega) h w

theorem toBytesAll_step (l : List (BitVec 64)) (j : Nat) (h : j < l.length) : toBytesAll (l.take (j + 1)) = toBytesAll (l.take j) ++ toBytes (l[j]?.getD 0#64) := by
  rw [List.take_succ_eq_append_getElem h, toBytesAll_snoc]; simp [h]
theorem makeB {n : Nat} {i0 : TypeInfo} (hi : Try.prog.info? 5 = some i0) (hz0 : i0.zero = some (.int .u8 0)) (hz1 : i0.size = 1) (hz2 : i0.bytes = 1) (hn : n ≤ 100000000) (w : World) :
    (Instr.makeSlice 23 (.int .i64 0) (.int .i64 (8 * (n : Int)))).run Try.prog w = .ok (.slice (some ⟨w.heap.size, 0, none⟩) 0 (8 * n)) (w.alloc (.cells (madeCells #[.int .u8 0] (8 * n)) 5)) := by
  have h := run_make (P := Try.prog) w 23 5 i0 (.int .u8 0) Try.underlying23 hi hz0 .i64 .i64 0 (8 * (n : Int)) (by omega) (by omega) (by rw [hz2]; omega) (by omega)
  rw [h, hz1, show (8 * (n : Int)).toNat = 8 * n by omega, Nat.mul_one]
  rfl
theorem own_madeB0 (W : World) (e : TypeId) (n B : Nat) (hB : B ≤ W.heap.size) (hn : n ≤ 1000000000) :
    OwnB (W.alloc (.cells (madeCells #[.int .u8 0] n) e)) B e (.slice (some ⟨W.heap.size, 0, none⟩) 0 n) [] :=
  World.ownsRow_made _ _ _ hB (by unfold maxLen; omega) (by rw [size_madeCells]; simp)

set_option maxHeartbeats 1600000 in
theorem bytes_any (a : Option Addr) (l : List (BitVec 64)) (c B : Nat) (hc : l.length ≤ 1000000) (w : World) (hl : IsU B w a c l) (hB : B ≤ w.heap.size) :
    Calls Try.prog 21 #[.slice a l.length c] w fun e w' => ∃ v, e = .returned v ∧ OwnB w' w.heap.size 5 v (toBytesAll l) ∧ Below w.heap.size w w' := by
  obtain ⟨i0, hi, hz0, hz1, hz2⟩ := info_parts info5
  have hmk := makeB hi hz0 hz1 hz2 (n := l.length) (by omega)
  replace hi := hid hi
  replace hz0 := hid hz0
  replace hz1 := hid hz1
  replace hz2 := hid hz2
  go_enter Try.func21, Try.ntmps21
  go_wp2
  have hmade := own_madeB0 w 5 (8 * l.length) w.heap.size (Nat.le_refl _) (by omega)
  clear hmk
  go_loopw [3, 13] (fun v k wr => ∃ j : Nat, j ≤ l.length ∧ k = .int .i64 j ∧ OwnB wr w.heap.size 5 v (toBytesAll (l.take j)) ∧ Below w.heap.size w wr) (fun _ k _ => l.length - (intOf k).toNat)
  case atStart => exact ⟨0, by omega, rfl, hmade, (Below.refl _ _).alloc (Nat.le_refl _) _⟩
  case round =>
    obtain ⟨j, hj, rfl, hown, hbel⟩ := hrel
    by_cases hlt : j < l.length
    · obtain ⟨b, off, rfl, hcell1⟩ := (hl.below hbel hB).cell hlt
      have HX := hid (toBytesAll_step l j hlt)
      have hlen0 : (toBytesAll (l.take j)).length ≤ 8000000 := by rw [toBytesAll_length]; simp; omega
      generalize l[j]?.getD 0#64 = x at *
      generalize hp : toBytesAll (l.take j) = p at *
      clear hp
      go_wp2
      obtain ⟨wo, rfl⟩ : ∃ wo : World, wo = wr := ⟨_, rfl⟩
      go_loopw [3, 17] (fun v k wr => ∃ i : Nat, i ≤ 8 ∧ k = .int .i64 i ∧ OwnB wr w.heap.size 5 v (p ++ (toBytes x).take i) ∧ Below w.heap.size w wr) (fun _ k _ => 8 - (intOf k).toNat)
      case atStart => exact ⟨0, by omega, rfl, by simpa using hown, hbel⟩
      case round =>
        obtain ⟨i, hi8, rfl, hown2, hbel2⟩ := hrel
        clear hown hbel hcell1
        by_cases hi9 : i < 8
        · have hsz : w.heap.size ≤ wr.heap.size := hbel2.size
          have hlen : (p ++ (toBytes x).take i).length ≤ 8000010 := by
            rw [List.length_append]
            simp [toBytes_length]; omega
          have HT := hid (take_toBytes x i hi9)
          go_wp2_with (at_builtin; refine app1B Try.underlying23 hi.out hz0.out hz1.out hz2.out rfl hown2 ?_ hsz rfl rfl rfl rfl ?_)
          · omega
          intro v' w' l' e' hown3 hbel3
          clear hown2
          go_wp2
          go_roundw
          case rel =>
            refine ⟨i + 1, by omega, by go_num, ?_, hbel2.trans hbel3⟩
            rw [HT.out, ← List.append_assoc]
            rw [e'.out] at hown3
            simpa [byteOf] using hown3
          case measure => simp [intOf]; omega
        · obtain rfl : i = 8 := by omega
          go_wp2
          go_roundw
          case rel =>
            refine ⟨j + 1, by omega, by go_num, ?_, hbel2⟩
            rw [List.take_of_length_le (l := toBytes x) (by simp [toBytes_length])] at hown2
            rw [HX.out]
            exact hown2
          case measure => simp [intOf]; omega
    · obtain rfl : j = l.length := by omega
      rw [List.take_length] at hown
      go_wp2
      go_ret
      exact ⟨_, rfl, hown, hbel⟩

set_option maxHeartbeats 800000 in
theorem same_any (a1 : Option Addr) (l1 : List (BitVec 64)) (c1 B1 : Nat) (a2 : Option Addr) (l2 : List (BitVec 64)) (c2 B2 : Nat) (w : World) (h1 : IsU B1 w a1 c1 l1) (h2 : IsU B2 w a2 c2 l2) :
    Calls Try.prog 25 #[.slice a1 l1.length c1, .slice a2 l2.length c2] w fun e w' => e = .returned (.bool (decide (l1 = l2))) ∧ Quiet w w' := by
  have hm1 := h1.max
  have hm2 := h2.max
  by_cases hlen : l1.length = l2.length
  case neg =>
    have hne : decide (l1 = l2) = false := by simpa using fun h => hlen (by rw [h])
    have h3 : ((l1.length : Int) == l2.length) = false := by simp; omega
    have h4 : ((l1.length : Int) != l2.length) = true := by simp; omega
    replace hne := hid hne
    replace hlen := hid hlen
    go_enter Try.func25, Try.ntmps25
    go_wp2
    go_ret
    exact ⟨by rw [hne.out]; rfl, Quiet.refl _⟩
  generalize hn : l1.length = n at *
  rw [← hlen]
  replace hn := hid hn
  replace hlen := hid hlen
  go_enter Try.func25, Try.ntmps25
  go_wp2
  go_loopw [5] (fun k wr => ∃ j : Nat, j ≤ n ∧ k = .int .i64 j ∧ Hid (l1.take j = l2.take j) ∧ Quiet w wr) (fun k _ => n - (intOf k).toNat)
  case atStart => exact ⟨0, by omega, rfl, hid (by simp), Quiet.refl _⟩
  case round =>
    obtain ⟨j, hj, rfl, hjj, hq⟩ := hrel
    by_cases hlt : j < n
    · obtain ⟨b1, o1, rfl, q1⟩ := (h1.quiet hq).cell (j := j) (by rw [hn.out]; exact hlt)
      obtain ⟨b2, o2, rfl, q2⟩ := (h2.quiet hq).cell (j := j) (by rw [← hlen.out]; exact hlt)
      have t1 := hid (take_snocU l1 j (by rw [hn.out]; exact hlt))
      have t2 := hid (take_snocU l2 j (by rw [← hlen.out]; exact hlt))
      have g1 := hid (show l1[j]? = some (l1[j]?.getD 0#64) by have := hn.out; simp [show j < l1.length by omega])
      have g2 := hid (show l2[j]? = some (l2[j]?.getD 0#64) by have := hlen.out; simp [show j < l2.length by omega])
      have hj0 : (0 : Int) ≤ j := by omega
      have hj1 : (j : Int) < n := by omega
      generalize l1[j]?.getD 0#64 = x1 at *
      generalize l2[j]?.getD 0#64 = x2 at *
      by_cases hx : x1 = x2
      · subst hx
        go_wp2
        go_quiet (fail)
        go_wp2
        go_roundw
        case rel => exact ⟨j + 1, by omega, by go_num, hid (by rw [t1.out, t2.out, hjj.out]), hq.trans Quiet.mk⟩
        case measure => simp [intOf]; omega
      · have hne : decide (l1 = l2) = false := by
          simp only [decide_eq_false_iff_not]
          intro h
          have := g1.out
          rw [h, g2.out] at this
          exact hx (by injection this with h; exact h.symm)
        have hx1 : (x1 != x2) = true := by simpa using hx
        replace hne := hid hne
        replace hx := hid hx
        go_wp2
        go_quiet (fail)
        go_wp2
        go_ret
        exact ⟨by rw [hne.out]; rfl, hq.trans Quiet.mk⟩
    · obtain rfl : j = n := by omega
      have he : decide (l1 = l2) = true := by
        have := hjj.out
        rw [List.take_of_length_le (by rw [hn.out]; omega), List.take_of_length_le (by rw [← hlen.out]; omega)] at this
        simpa using this
      replace he := hid he
      go_wp2
      go_ret
      exact ⟨by rw [he.out]; rfl, hq⟩

/-! ### the document's own -/
theorem le8_down (l : List (BitVec 8)) (p k : Nat) (hk : k < 8) (h : p + 8 ≤ l.length) : le8 ((l.drop (p + k)).take (8 - k)) = le8 ((l.drop (p + (k + 1))).take (8 - (k + 1))) <<< 8 ||| (l[p + k]?.getD 0#8).setWidth 64 := by
  have e : l.drop (p + k) = l[p + k] :: l.drop (p + k + 1) := List.drop_eq_getElem_cons (by omega)
  obtain ⟨n, hn⟩ : ∃ n, 8 - k = n + 1 := ⟨7 - k, by omega⟩
  have hn2 : 8 - (k + 1) = n := by omega
  rw [e, hn, hn2, List.take_succ_cons]
  show le8 (List.take n (List.drop (p + k + 1) l)) <<< 8 ||| _ = _
  have e2 : l[p + k]?.getD 0#8 = l[p + k] := by simp [show p + k < l.length by omega]
  rw [e2, Nat.add_assoc]
set_option maxHeartbeats 800000 in
theorem rget_yes (a : Option Addr) (l : List (BitVec 8)) (c B : Nat) (i : Nat) (h1 : i < l.length / 8) (w : World) (hl : IsB B w a c l) :
    Calls Try.prog 23 #[.slice a l.length c, .int .i64 i] w fun e w' => e = .returned (.int .u64 (u (wordAt l i))) ∧ w = w' := by
  have hm := hl.max
  obtain ⟨b, off, rfl, _⟩ := hl.cell (j := 0) (by omega)
  have hi0 : (0 : Int) ≤ i := by omega
  have hi1 : (i : Int) < (l.length : Int) / 8 := by omega
  go_enter Try.func23, Try.ntmps23
  go_wp2
  go_loop [5, 6] (fun v k => ∃ j : Nat, j ≤ 8 ∧ k = .int .i64 ((j : Int) - 1) ∧ v = .int .u64 (u (le8 ((l.drop (8 * i + j)).take (8 - j))))) (fun _ k => (intOf k + 1).toNat)
  case atStart => exact ⟨8, by omega, rfl, by simp [le8]; rfl⟩
  case round =>
    obtain ⟨j, hj, rfl, rfl⟩ := hrel
    by_cases hlt : j = 0
    · subst hlt
      go_wp2
      go_ret
      exact ⟨by rw [wordAt, if_pos h1]; rfl, rfl⟩
    · obtain ⟨k, rfl⟩ : ∃ k, j = k + 1 := ⟨j - 1, by omega⟩
      obtain ⟨b', off', he, hc1⟩ := hl.cell (j := 8 * i + k) (by omega)
      simp only [Option.some.injEq, Addr.mk.injEq, and_true] at he
      obtain ⟨rfl, rfl⟩ := he
      have hs := hid (le8_down l (8 * i) k (by omega) (by omega))
      generalize l[8 * i + k]?.getD 0#8 = x at *
      generalize le8 ((l.drop (8 * i + (k + 1))).take (8 - (k + 1))) = y at *
      have hk1 : ((k + 1 : Nat) : Int) - 1 = k := by omega
      rw [hk1]
      clear hk1
      go_wp2
      go_round
      case rel => exact ⟨k, by omega, by go_num, by rw [hs.out]⟩
      case measure => simp [intOf]
theorem rget_no (a : Option Addr) (n c : Nat) (i : Int) (hn : n ≤ 9223372036854775807) (h1 : ¬ (0 ≤ i ∧ i < (n : Int) / 8)) (w : World) :
    Calls Try.prog 23 #[.slice a n c, .int .i64 i] w fun e w' => e = .returned (.int .u64 (u 0#64)) ∧ w = w' := by
  by_cases h0 : i < 0
  · clear h1
    go_enter Try.func23, Try.ntmps23
    go_wp2
    go_ret
    exact ⟨rfl, rfl⟩
  · have h2 : (n : Int) / 8 ≤ i := by omega
    clear h1
    go_enter Try.func23, Try.ntmps23
    go_wp2
    go_ret
    exact ⟨rfl, rfl⟩
theorem rget_any (a : Option Addr) (l : List (BitVec 8)) (c B : Nat) (i : Int) (w : World) (hl : IsB B w a c l) :
    Calls Try.prog 23 #[.slice a l.length c, .int .i64 i] w fun e w' => e = .returned (.int .u64 (u (wordI l i))) ∧ w = w' := by
  have hm := hl.max
  by_cases h : 0 ≤ i ∧ i < (l.length : Int) / 8
  · obtain ⟨n, rfl⟩ := Int.eq_ofNat_of_zero_le h.1
    have e : wordI l n = wordAt l n := by simp [wordI]
    rw [e]
    exact rget_yes a l c B n (by omega) w hl
  · have e : wordI l i = 0#64 := by
      unfold wordI
      split
      · rw [wordAt, if_neg]; omega
      · rfl
    rw [e]
    exact rget_no a l.length c i (by omega) h w
theorem toWords_take (l : List (BitVec 8)) (j : Nat) : (toWords l).take (j + 1) = (toWords l).take j ++ (if j < l.length / 8 then [wordAt l j] else []) := by
  unfold toWords
  by_cases h : j < l.length / 8
  · rw [if_pos h, List.take_succ_eq_append_getElem (by simpa using h)]
    simp
  · rw [if_neg h, List.take_of_length_le (by simp; omega), List.take_of_length_le (by simp; omega), List.append_nil]
theorem toWords_length (l : List (BitVec 8)) : (toWords l).length = l.length / 8 := by simp [toWords]
set_option maxHeartbeats 800000 in
theorem rwords_any (a : Option Addr) (l : List (BitVec 8)) (c B : Nat) (hc : l.length ≤ 1000000) (w : World) (hl : IsB B w a c l) (hB : B ≤ w.heap.size) :
    Calls Try.prog 26 #[.slice a l.length c] w fun e w' => ∃ v, e = .returned v ∧ OwnU w' w.heap.size 26 v (toWords l) ∧ Below w.heap.size w w' := by
  obtain ⟨i0, hi, hz0, hz1, hz2⟩ := info_parts info26
  replace hi := hid hi
  replace hz0 := hid hz0
  replace hz1 := hid hz1
  replace hz2 := hid hz2
  go_enter Try.func26, Try.ntmps26
  go_wp2
  go_loopw [3, 4] (fun v k wr => ∃ j : Nat, j ≤ l.length / 8 ∧ k = .int .i64 j ∧ OwnU wr w.heap.size 26 v ((toWords l).take j) ∧ Below w.heap.size w wr) (fun _ k _ => l.length / 8 - (intOf k).toNat)
  case atStart => exact ⟨0, by omega, rfl, World.ownsRow_nil _ _ _ _, Below.refl _ _⟩
  case round =>
    obtain ⟨j, hj, rfl, hown, hbel⟩ := hrel
    by_cases hlt : j < l.length / 8
    · have hj1 : (j : Int) < (l.length : Int) / 8 := by omega
      have HT := hid (toWords_take l j)
      have hsz := hbel.size
      have hlen : ((toWords l).take j).length ≤ 1000000 := by rw [List.length_take, toWords_length]; omega
      generalize (toWords l).take j = p at *
      go_wp2_with fail
      refine (rget_yes _ l _ _ _ hlt _ (hl.below hbel hB)).mono ?_
      rintro e w2 ⟨rfl, rfl⟩
      go_wp2_with (at_builtin; refine app1U Try.underlying28 hi.out hz0.out hz1.out hz2.out rfl hown ?_ hsz rfl rfl rfl rfl ?_)
      · omega
      intro v' w' l' e' hown3 hbel3
      clear hown
      go_wp2
      go_roundw
      case rel =>
        refine ⟨j + 1, by omega, by go_num, ?_, hbel.trans hbel3⟩
        rw [HT.out, if_pos hlt]
        rw [e'.out] at hown3
        exact hown3
      case measure => simp [intOf]; omega
    · have hj2 : j = l.length / 8 := by omega
      have hj3 : ¬ (j : Int) < (l.length : Int) / 8 := by omega
      rw [List.take_of_length_le (by rw [toWords_length]; omega)] at hown
      replace hj2 := hid hj2
      go_wp2
      go_ret
      exact ⟨_, rfl, hown, hbel⟩
set_option maxHeartbeats 1600000 in
theorem rbytes_any (a : Option Addr) (l : List (BitVec 64)) (c B : Nat) (hc : l.length ≤ 1000000) (w : World) (hl : IsU B w a c l) (hB : B ≤ w.heap.size) :
    Calls Try.prog 24 #[.slice a l.length c] w fun e w' => ∃ v, e = .returned v ∧ OwnB w' w.heap.size 5 v (toBytesAll l) ∧ Below w.heap.size w w' := by
  obtain ⟨i0, hi, hz0, hz1, hz2⟩ := info_parts info5
  replace hi := hid hi
  replace hz0 := hid hz0
  replace hz1 := hid hz1
  replace hz2 := hid hz2
  go_enter Try.func24, Try.ntmps24
  go_wp2
  go_loopw [3, 4] (fun v k wr => ∃ j : Nat, j ≤ l.length ∧ k = .int .i64 j ∧ OwnB wr w.heap.size 5 v (toBytesAll (l.take j)) ∧ Below w.heap.size w wr) (fun _ k _ => l.length - (intOf k).toNat)
  case atStart => exact ⟨0, by omega, rfl, World.ownsRow_nil _ _ _ _, Below.refl _ _⟩
  case round =>
    obtain ⟨j, hj, rfl, hown, hbel⟩ := hrel
    by_cases hlt : j < l.length
    · obtain ⟨b, off, rfl, hcell1⟩ := (hl.below hbel hB).cell hlt
      have hbB : b < B := by
        rcases hl with ⟨h, _, _⟩ | ⟨b', off', e, h1, h2, h3, _⟩
        · rw [h] at hlt; simp at hlt
        · simp at e; omega
      have HX := hid (toBytesAll_step l j hlt)
      have hlen0 : (toBytesAll (l.take j)).length ≤ 8000000 := by rw [toBytesAll_length]; simp; omega
      have hcellw : ∀ wr' : World, Below w.heap.size w wr' → wr'.cell? ⟨b, off + j, none⟩ = some (.int .u64 (u (l[j]?.getD 0#64))) := fun wr' hb' => by
        rw [hb'.cell (p := ⟨b, off + j, none⟩) (by show b < _; omega), ← hbel.cell (p := ⟨b, off + j, none⟩) (by show b < _; omega)]
        exact hcell1
      generalize l[j]?.getD 0#64 = x at *
      generalize hp : toBytesAll (l.take j) = p at *
      clear hp hcell1
      replace hcellw := hid hcellw
      go_wp2
      obtain ⟨wo, rfl⟩ : ∃ wo : World, wo = wr := ⟨_, rfl⟩
      go_loopw [3, 5] (fun v k wr => ∃ i : Nat, i ≤ 8 ∧ k = .int .i64 i ∧ OwnB wr w.heap.size 5 v (p ++ (toBytes x).take i) ∧ Below w.heap.size w wr) (fun _ k _ => 8 - (intOf k).toNat)
      case atStart => exact ⟨0, by omega, rfl, by simpa using hown, hbel⟩
      case round =>
        obtain ⟨i, hi8, rfl, hown2, hbel2⟩ := hrel
        clear hown hbel
        by_cases hi9 : i < 8
        · have hsz : w.heap.size ≤ wr.heap.size := hbel2.size
          have hlen : (p ++ (toBytes x).take i).length ≤ 8000010 := by
            rw [List.length_append]
            simp [toBytes_length]; omega
          have HT := hid (take_toBytes x i hi9)
          have hc2 := hcellw.out wr hbel2
          go_wp2_with (at_builtin; refine app1B Try.underlying23 hi.out hz0.out hz1.out hz2.out rfl hown2 ?_ hsz rfl rfl rfl rfl ?_)
          · omega
          intro v' w' l' e' hown3 hbel3
          clear hown2
          go_wp2
          go_roundw
          case rel =>
            refine ⟨i + 1, by omega, by go_num, ?_, hbel2.trans hbel3⟩
            rw [HT.out, ← List.append_assoc]
            rw [e'.out] at hown3
            have h8 : 8 * i % 18446744073709551616 = 8 * i := by omega
            simpa [byteOf, h8] using hown3
          case measure => simp [intOf]; omega
        · obtain rfl : i = 8 := by omega
          go_wp2
          go_roundw
          case rel =>
            refine ⟨j + 1, by omega, by go_num, ?_, hbel2⟩
            rw [List.take_of_length_le (l := toBytes x) (by simp [toBytes_length])] at hown2
            rw [HX.out]
            exact hown2
          case measure => simp [intOf]; omega
    · obtain rfl : j = l.length := by omega
      rw [List.take_length] at hown
      go_wp2
      go_ret
      exact ⟨_, rfl, hown, hbel⟩

/-! ### Words -/
theorem wordI_nat (l : List (BitVec 8)) (j : Nat) : wordI l (j : Int) = wordAt l j := by simp [wordI]
theorem toWords_mk3 (l : List (BitVec 8)) : toWords l = (List.range (l.length / 8)).map (wordAt l) := rfl
theorem makeU {n : Nat} {i0 : TypeInfo} (hi : Try.prog.info? 26 = some i0) (hz0 : i0.zero = some (.int .u64 0)) (hz1 : i0.size = 1) (hz2 : i0.bytes = 8) (hn : n ≤ 100000000) (x : Int) (hx : x = (n : Int)) (w : World) :
    (Instr.makeSlice 28 (.int .i64 x) (.int .i64 x)).run Try.prog w = .ok (.slice (some ⟨w.heap.size, 0, none⟩) n n) (w.alloc (.cells (madeCells #[.int .u64 0] n) 26)) := by
  subst hx
  have h := run_make (P := Try.prog) w 28 26 i0 (.int .u64 0) Try.underlying28 hi hz0 .i64 .i64 (n : Int) (n : Int) (by omega) (by omega) (by rw [hz2]; omega) (by omega)
  rw [h, hz1, Int.toNat_natCast, Nat.mul_one]
  rfl
set_option maxHeartbeats 800000 in
theorem words_any (a : Option Addr) (l : List (BitVec 8)) (c B : Nat) (hc : l.length ≤ 1000000) (w : World) (hl : IsB B w a c l) (hB : B ≤ w.heap.size) :
    Calls Try.prog 17 #[.slice a l.length c] w fun e w' => ∃ v, e = .returned v ∧ OwnU w' w.heap.size 26 v (toWords l) ∧ Below w.heap.size w w' := by
  obtain ⟨i0, hi, hz0, hz1, hz2⟩ := info_parts info26
  have hmk := fun w' => makeU (n := l.length / 8) hi hz0 hz1 hz2 (by omega) ((l.length : Int) / 8) (by omega) w'
  clear hi hz0 hz1 hz2
  obtain ⟨n, hn⟩ : ∃ n, l.length / 8 = n := ⟨_, rfl⟩
  rw [hn] at hmk
  have hn2 : n ≤ 1000000 := by omega
  replace hn := hid hn
  go_enter Try.func17, Try.ntmps17
  go_wp2
  have hmade := own_made w 26 n w.heap.size (Nat.le_refl _) hn2
  rw [← mk3_zero (wordAt l)] at hmade
  clear hmk
  go_loopw [11] (fun k wr => ∃ j : Nat, j ≤ n ∧ k = .int .i64 j ∧ OwnU wr w.heap.size 26 (.slice (some ⟨w.heap.size, 0, none⟩) n n) (mk3 (wordAt l) n j) ∧ Below w.heap.size w wr) (fun k _ => n - (intOf k).toNat)
  case atStart => exact ⟨0, by omega, rfl, hmade, (Below.refl _ _).alloc (Nat.le_refl _) _⟩
  case round =>
    obtain ⟨j, hj, rfl, ho, hbr⟩ := hrel
    by_cases hlt : j < n
    · obtain ⟨g, cap, hv, hgB, hgs, hcap, hcapm, hcell, hfr, hset⟩ := ho.row (by rw [mk3_len]; omega)
      have hg : g = w.heap.size := by simpa using (congrArg (fun v => match v with | .slice (some a) _ _ => a.block | _ => 0) hv).symm
      subst hg
      have hc1 := hcell j (by rw [mk3_len]; exact hlt)
      have hf := hfr j
      obtain ⟨ho2, hb2⟩ := hset j (wordAt l j)
      rw [mk3_succ] at ho2
      clear hset hcell hfr ho hv hcap hcapm
      have hj1 : (j : Int) < n := by omega
      have hw0 := hid (wordI_nat l j)
      go_wp2_with fail
      refine (get_any _ l _ _ _ _ (hl.below hbr hB)).mono ?_
      rintro e w2 ⟨rfl, rfl⟩
      rw [hw0.out]
      go_wp2
      go_roundw
      case rel => exact ⟨j + 1, by omega, by go_num, ho2, hbr.trans hb2⟩
      case measure => simp [intOf]; omega
    · obtain rfl : j = n := by omega
      rw [mk3_all, ← hn.out, ← toWords_mk3] at ho
      rw [hn.out] at ho
      go_wp2
      go_ret
      exact ⟨_, rfl, ho, hbr⟩

/-! ### fields of bits -/
/-- n ones in the lowest bits. -/
def maskW (n : Nat) : BitVec 64 := BitVec.allOnes 64 >>> (64 - n)
def fieldW (v : BitVec 64) (f n : Nat) : BitVec 64 := v >>> f &&& maskW n
def withW (v : BitVec 64) (f n : Nat) (x : BitVec 64) : BitVec 64 := v &&& ~~~(maskW n <<< f) ||| (x &&& maskW n) <<< f
def mayF (f n : Int) : Bool := decide (0 ≤ f ∧ f < 64 ∧ 1 ≤ n ∧ n ≤ 64 - f)
theorem maskW_bit (n i : Nat) (hn : n ≤ 64) : (maskW n).getLsbD i = decide (i < n) := by
  unfold maskW
  rw [BitVec.getLsbD_ushiftRight, BitVec.getLsbD_allOnes]
  rw [decide_eq_decide]
  omega
theorem ones_div (k : Nat) : (18446744073709551615 : Int) / 2 ^ k = u (BitVec.allOnes 64 >>> k) := by
  rw [← u_div_pow]; rfl
theorem mask_any (n : Nat) (h : n ≤ 64) (w : World) :
    Calls Try.prog 40 #[.int .i64 n] w fun e w' => e = .returned (.int .u64 (u (maskW n))) ∧ w = w' := by
  go_enter Try.func40, Try.ntmps40
  go_wp2
  go_ret
  exact ⟨by unfold maskW; rw [← ones_div]; rfl, rfl⟩
theorem fits_any (f n : Int) (hn : -9223372036854775808 ≤ n) (w : World) :
    Calls Try.prog 39 #[.int .i64 f, .int .i64 n] w fun e w' => e = .returned (.bool (mayF f n)) ∧ w = w' := by
  by_cases h1 : 0 ≤ f
  case neg =>
    have h := hid (show mayF f n = false by simp [mayF]; omega)
    go_enter Try.func39, Try.ntmps39
    go_wp2
    go_ret
    exact ⟨by rw [h.out]; rfl, rfl⟩
  by_cases h2 : f < 64
  case neg =>
    have h := hid (show mayF f n = false by simp [mayF]; omega)
    go_enter Try.func39, Try.ntmps39
    go_wp2
    go_ret
    exact ⟨by rw [h.out]; rfl, rfl⟩
  by_cases h3 : 1 ≤ n
  case neg =>
    have h := hid (show mayF f n = false by simp [mayF]; omega)
    go_enter Try.func39, Try.ntmps39
    go_wp2
    go_ret
    exact ⟨by rw [h.out]; rfl, rfl⟩
  by_cases h4 : n ≤ 64 - f
  case neg =>
    have h := hid (show mayF f n = false by simp [mayF]; omega)
    go_enter Try.func39, Try.ntmps39
    go_wp2
    go_ret
    exact ⟨by rw [h.out]; rfl, rfl⟩
  have h := hid (show mayF f n = true by simp [mayF]; omega)
  go_enter Try.func39, Try.ntmps39
  go_wp2
  go_ret
  exact ⟨by rw [h.out]; rfl, rfl⟩

theorem mayF_iff (f n : Int) : mayF f n = true ↔ 0 ≤ f ∧ f < 64 ∧ 1 ≤ n ∧ n ≤ 64 - f := by simp [mayF]
set_option maxHeartbeats 400000 in
theorem field_yes (v : BitVec 64) (f n : Nat) (h1 : f < 64) (h2 : 1 ≤ n) (h3 : n ≤ 64 - f) (w : World) :
    Calls Try.prog 18 #[.int .u64 (u v), .int .i64 f, .int .i64 n] w fun e w' => e = .returned (.int .u64 (u (fieldW v f n))) ∧ Quiet w w' := by
  have hm := hid ((mayF_iff f n).2 (by omega))
  go_enter Try.func18, Try.ntmps18
  go_wp2_with fail
  refine (fits_any _ _ (by omega) _).mono ?_
  rintro e w1 ⟨rfl, rfl⟩
  rw [hm.out]
  go_wp2
  go_quiet ((go_at_call 40; exact quiet_left (mask_any _ (by omega) _)))
  go_wp2
  go_ret
  exact ⟨rfl, Quiet.mk⟩
theorem field_no (v : BitVec 64) (f n : Int) (hn : -9223372036854775808 ≤ n) (h : mayF f n = false) (w : World) :
    Calls Try.prog 18 #[.int .u64 (u v), .int .i64 f, .int .i64 n] w fun e w' => e = .returned (.int .u64 (u 0#64)) ∧ Quiet w w' := by
  replace h := hid h
  go_enter Try.func18, Try.ntmps18
  go_wp2_with fail
  refine (fits_any _ _ (by omega) _).mono ?_
  rintro e w1 ⟨rfl, rfl⟩
  rw [h.out]
  go_wp2
  go_ret
  exact ⟨rfl, Quiet.refl _⟩
/-- Field of any numbers. -/
def fieldI (v : BitVec 64) (f n : Int) : BitVec 64 := if mayF f n then fieldW v f.toNat n.toNat else 0#64
def withI (v : BitVec 64) (f n : Int) (x : BitVec 64) : BitVec 64 := if mayF f n then withW v f.toNat n.toNat x else v
theorem field_any (v : BitVec 64) (f n : Int) (hn : -9223372036854775808 ≤ n) (w : World) :
    Calls Try.prog 18 #[.int .u64 (u v), .int .i64 f, .int .i64 n] w fun e w' => e = .returned (.int .u64 (u (fieldI v f n))) ∧ Quiet w w' := by
  by_cases h : mayF f n = true
  · have h' := (mayF_iff f n).1 h
    obtain ⟨F, rfl⟩ := Int.eq_ofNat_of_zero_le h'.1
    obtain ⟨N, rfl⟩ := Int.eq_ofNat_of_zero_le (show 0 ≤ n by omega)
    have e : fieldI v F N = fieldW v F N := by simp [fieldI, h]
    rw [e]
    exact field_yes v F N (by omega) (by omega) (by omega) w
  · have h' : mayF f n = false := by simpa using h
    have e : fieldI v f n = 0#64 := by simp [fieldI, h']
    rw [e]
    exact field_no v f n hn h' w
set_option maxHeartbeats 400000 in
theorem with_yes (v : BitVec 64) (f n : Nat) (x : BitVec 64) (h1 : f < 64) (h2 : 1 ≤ n) (h3 : n ≤ 64 - f) (w : World) :
    Calls Try.prog 19 #[.int .u64 (u v), .int .i64 f, .int .i64 n, .int .u64 (u x)] w fun e w' => e = .returned (.int .u64 (u (withW v f n x))) ∧ Quiet w w' := by
  have hm := hid ((mayF_iff f n).2 (by omega))
  go_enter Try.func19, Try.ntmps19
  go_wp2_with fail
  refine (fits_any _ _ (by omega) _).mono ?_
  rintro e w1 ⟨rfl, rfl⟩
  rw [hm.out]
  go_wp2
  go_quiet ((go_at_call 40; exact quiet_left (mask_any _ (by omega) _)))
  go_wp2
  go_ret
  exact ⟨rfl, Quiet.mk⟩
theorem with_no (v : BitVec 64) (f n : Int) (x : BitVec 64) (hn : -9223372036854775808 ≤ n) (h : mayF f n = false) (w : World) :
    Calls Try.prog 19 #[.int .u64 (u v), .int .i64 f, .int .i64 n, .int .u64 (u x)] w fun e w' => e = .returned (.int .u64 (u v)) ∧ Quiet w w' := by
  replace h := hid h
  go_enter Try.func19, Try.ntmps19
  go_wp2_with fail
  refine (fits_any _ _ (by omega) _).mono ?_
  rintro e w1 ⟨rfl, rfl⟩
  rw [h.out]
  go_wp2
  go_ret
  exact ⟨rfl, Quiet.refl _⟩
theorem with_any (v : BitVec 64) (f n : Int) (x : BitVec 64) (hn : -9223372036854775808 ≤ n) (w : World) :
    Calls Try.prog 19 #[.int .u64 (u v), .int .i64 f, .int .i64 n, .int .u64 (u x)] w fun e w' => e = .returned (.int .u64 (u (withI v f n x))) ∧ Quiet w w' := by
  by_cases h : mayF f n = true
  · have h' := (mayF_iff f n).1 h
    obtain ⟨F, rfl⟩ := Int.eq_ofNat_of_zero_le h'.1
    obtain ⟨N, rfl⟩ := Int.eq_ofNat_of_zero_le (show 0 ≤ n by omega)
    have e : withI v F N x = withW v F N x := by simp [withI, h]
    rw [e]
    exact with_yes v F N x (by omega) (by omega) (by omega) w
  · have h' : mayF f n = false := by simpa using h
    have e : withI v f n x = v := by simp [withI, h']
    rw [e]
    exact with_no v f n x hn h' w
/-! the document's own -/
theorem rmay_any (f n : Int) (hn : -9223372036854775808 ≤ n) (w : World) :
    Calls Try.prog 42 #[.int .i64 f, .int .i64 n] w fun e w' => e = .returned (.bool (mayF f n)) ∧ w = w' := by
  by_cases h1 : 0 ≤ f
  case neg =>
    have h := hid (show mayF f n = false by simp [mayF]; omega)
    go_enter Try.func42, Try.ntmps42
    go_wp2
    go_ret
    exact ⟨by rw [h.out]; rfl, rfl⟩
  by_cases h2 : f ≤ 63
  case neg =>
    have h := hid (show mayF f n = false by simp [mayF]; omega)
    go_enter Try.func42, Try.ntmps42
    go_wp2
    go_ret
    exact ⟨by rw [h.out]; rfl, rfl⟩
  by_cases h3 : 1 ≤ n
  case neg =>
    have h := hid (show mayF f n = false by simp [mayF]; omega)
    go_enter Try.func42, Try.ntmps42
    go_wp2
    go_ret
    exact ⟨by rw [h.out]; rfl, rfl⟩
  by_cases h4 : n ≤ 64 - f
  case neg =>
    have h := hid (show mayF f n = false by simp [mayF]; omega)
    go_enter Try.func42, Try.ntmps42
    go_wp2
    go_ret
    exact ⟨by rw [h.out]; rfl, rfl⟩
  have h := hid (show mayF f n = true by simp [mayF]; omega)
  go_enter Try.func42, Try.ntmps42
  go_wp2
  go_ret
  exact ⟨by rw [h.out]; rfl, rfl⟩
theorem maskW_sub (n : Nat) (h : n < 64) : maskW n = 1#64 <<< n - 1#64 := by
  have e : 1#64 <<< n - 1#64 = BitVec.allOnes 64 >>> (64 - n) := by
    apply BitVec.eq_of_toNat_eq
    have hp : 2 ^ n < 2 ^ 64 := Nat.pow_lt_pow_right (by decide) h
    have hp1 : 0 < 2 ^ n := Nat.two_pow_pos n
    have e1 : (1#64 <<< n).toNat = 2 ^ n := by
      rw [BitVec.toNat_shiftLeft, Nat.shiftLeft_eq]
      simp only [BitVec.reduceToNat, Nat.one_mul]
      exact Nat.mod_eq_of_lt hp
    rw [BitVec.toNat_sub_of_le (by rw [BitVec.le_def, e1]; exact hp1), e1, BitVec.toNat_ushiftRight, BitVec.toNat_allOnes, Nat.shiftRight_eq_div_pow]
    have hs : 2 ^ 64 = 2 ^ (64 - n) * 2 ^ n := by rw [← Nat.pow_add]; congr 1; omega
    have hq : 0 < 2 ^ (64 - n) := Nat.two_pow_pos _
    rw [show (1#64).toNat = 1 from rfl]
    symm
    rw [Nat.div_eq_iff hq]
    have h2 : (2 ^ n - 1) * 2 ^ (64 - n) = 2 ^ 64 - 2 ^ (64 - n) := by rw [Nat.sub_mul, hs, Nat.mul_comm]; simp
    have h3 : 2 ^ (64 - n) ≤ 2 ^ 64 := Nat.pow_le_pow_right (by decide) (by omega)
    omega
  rw [e]; rfl
theorem mask_spelt (n : Nat) (h : n < 64) : u (BitVec.ofInt 64 (u (BitVec.ofInt 64 (2 ^ min (n % 18446744073709551616) 64)) - 1)) = u (maskW n) := by
  rw [maskW_sub n h]
  have e1 : min (n % 18446744073709551616) 64 = n := by omega
  have e2 : BitVec.ofInt 64 (2 ^ n) = 1#64 <<< n := by
    have := ofInt_mul_pow 1#64 n
    rw [show u 1#64 = 1 from rfl, Int.one_mul] at this
    exact this
  rw [e1, e2]
  rw [ofInt_pred]
theorem rmask_any (n : Nat) (h0 : n ≤ 64) (w : World) :
    Calls Try.prog 43 #[.int .i64 n] w fun e w' => e = .returned (.int .u64 (u (maskW n))) ∧ w = w' := by
  by_cases h : n = 64
  · subst h
    have hm : u (maskW 64) = 18446744073709551615 := by decide
    replace hm := hid hm
    go_enter Try.func43, Try.ntmps43
    go_wp2
    go_ret
    exact ⟨by rw [hm.out]; rfl, rfl⟩
  · have h1 : (n : Int) < 64 := by omega
    have hm := hid (mask_spelt n (by omega))
    clear h
    go_enter Try.func43, Try.ntmps43
    go_wp2
    go_ret
    exact ⟨by rw [← hm.out]; rfl, rfl⟩
theorem toNat_mod64 (f : Nat) (h : f ≤ 64) : f % 18446744073709551616 = f := by omega
theorem rfield_any (v : BitVec 64) (f n : Int) (hn : -9223372036854775808 ≤ n) (w : World) :
    Calls Try.prog 27 #[.int .u64 (u v), .int .i64 f, .int .i64 n] w fun e w' => e = .returned (.int .u64 (u (fieldI v f n))) ∧ Quiet w w' := by
  by_cases h : mayF f n = true
  · have h' := (mayF_iff f n).1 h
    obtain ⟨F, rfl⟩ := Int.eq_ofNat_of_zero_le h'.1
    obtain ⟨N, rfl⟩ := Int.eq_ofNat_of_zero_le (show 0 ≤ n by omega)
    have e : fieldI v F N = fieldW v F N := by simp [fieldI, h]
    rw [e]
    replace h := hid h
    clear e
    have h2 := hid (toNat_mod64 F (by omega))
    go_enter Try.func27, Try.ntmps27
    go_wp2_with fail
    refine (rmay_any _ _ (by omega) _).mono ?_
    rintro e w1 ⟨rfl, rfl⟩
    rw [h.out]
    go_wp2_with fail
    refine (rmask_any _ (by omega) _).mono ?_
    rintro e w1 ⟨rfl, rfl⟩
    go_wp2
    go_ret
    exact ⟨by unfold fieldW; rw [← h2.out]; simp, Quiet.refl _⟩
  · have h' : mayF f n = false := by simpa using h
    have e : fieldI v f n = 0#64 := by simp [fieldI, h']
    rw [e]
    replace h' := hid h'
    clear h e
    go_enter Try.func27, Try.ntmps27
    go_wp2_with fail
    refine (rmay_any _ _ (by omega) _).mono ?_
    rintro e w1 ⟨rfl, rfl⟩
    rw [h'.out]
    go_wp2
    go_ret
    exact ⟨rfl, Quiet.refl _⟩
theorem withW_eq (v : BitVec 64) (f n : Nat) (x : BitVec 64) : v &&& ~~~(maskW n <<< f) ||| x <<< f &&& maskW n <<< f = withW v f n x := by
  unfold withW
  rw [BitVec.shiftLeft_and_distrib]
theorem rwith_any (v : BitVec 64) (f n : Int) (x : BitVec 64) (hn : -9223372036854775808 ≤ n) (w : World) :
    Calls Try.prog 28 #[.int .u64 (u v), .int .i64 f, .int .i64 n, .int .u64 (u x)] w fun e w' => e = .returned (.int .u64 (u (withI v f n x))) ∧ Quiet w w' := by
  by_cases h : mayF f n = true
  · have h' := (mayF_iff f n).1 h
    obtain ⟨F, rfl⟩ := Int.eq_ofNat_of_zero_le h'.1
    obtain ⟨N, rfl⟩ := Int.eq_ofNat_of_zero_le (show 0 ≤ n by omega)
    have e : withI v F N x = withW v F N x := by simp [withI, h]
    rw [e]
    replace h := hid h
    clear e
    have h2 := hid (toNat_mod64 F (by omega))
    go_enter Try.func28, Try.ntmps28
    go_wp2_with fail
    refine (rmay_any _ _ (by omega) _).mono ?_
    rintro e w1 ⟨rfl, rfl⟩
    rw [h.out]
    go_wp2_with fail
    refine (rmask_any _ (by omega) _).mono ?_
    rintro e w1 ⟨rfl, rfl⟩
    go_wp2
    go_ret
    exact ⟨by rw [← withW_eq, ← h2.out]; simp, Quiet.refl _⟩
  · have h' : mayF f n = false := by simpa using h
    have e : withI v f n x = v := by simp [withI, h']
    rw [e]
    replace h' := hid h'
    clear h e
    go_enter Try.func28, Try.ntmps28
    go_wp2_with fail
    refine (rmay_any _ _ (by omega) _).mono ?_
    rintro e w1 ⟨rfl, rfl⟩
    rw [h'.out]
    go_wp2
    go_ret
    exact ⟨rfl, Quiet.refl _⟩
end Go.Proofs.Ytmefcjgoedhpkaa

/-
  CONTRACTS of package word that write bytes, and the document's own.
-/
import Derived.Test.YtmefcjgoedhpkaaWord
import Derived.Laws.CopyOwn
import Derived.Laws.BytesArg
import Derived.Deep.RegionLaw
import Derived.IntWalk
import Derived.Deep.AppendLies
import Derived.Lib.SliceRun
namespace Go.Proofs.Ytmefcjgoedhpkaa
open Go.ChangeShapes Go.WideShapes Go.ChangeAt Go.RowKit
attribute [local go_sem high] wrap_u64 wrap_u8 bits_and_u64 bits_or_u64 bits_xor_u64 bits_andNot_u64 shl_u64 shr_u64 ite_sub1 ite_subS
attribute [local go_sem] u_nonneg u_toNat ofInt64_ub ofInt8_u ofInt_mul_pow u_div_pow u_beq ub_beq u_bne subA_zero

theorem clone_any (a : Option Addr) (l : List (BitVec 8)) (c B : Nat) (hc : l.length ≤ 1000000) (w : World) (hl : IsB B w a c l) (hB : B ≤ w.heap.size) :
    Calls Try.prog 37 #[.slice a l.length c] w fun e w' => ∃ v, e = .returned v ∧ OwnB w' w.heap.size 5 v l ∧ Below w.heap.size w w' := by
  obtain ⟨i0, hi, hz0, hz1, hz2⟩ := info_parts info5
  replace hi := hid hi
  replace hz0 := hid hz0
  replace hz1 := hid hz1
  replace hz2 := hid hz2
  have heq := fun (w : World) (a : Option Addr) (n c : Nat) => Lib.run_eql_slice_nil (P := Try.prog) w 23 5 a n c 0 0 Try.underlying23
  cases a with
  | none =>
    have hl0 : l = [] := by
      rcases hl with ⟨h, _⟩ | ⟨b, off, e, _⟩
      · exact h
      · cases e
    subst hl0
    go_enter Try.func37, Try.ntmps37
    go_wp2
    go_ret
    exact ⟨_, rfl, World.ownsRow_nil _ _ _ _, Below.refl _ _⟩
  | some x =>
    go_enter Try.func37, Try.ntmps37
    go_wp2_with (at_builtin; refine appLitB (l := l) Try.underlying23 hi.out hz0.out hz1.out hz2.out rfl w.heap.size (Nat.le_refl _) ?_ hl hB rfl ?_ [] rfl rfl rfl rfl rfl ?_)
    · simp
    · omega
    intro v1 w2 l1 e1 ho1 hb2
    have ho2 : OwnB w2 w.heap.size 5 v1 l := by have := e1.out; rw [← this]; exact ho1
    clear ho1
    go_wp2
    go_ret
    exact ⟨_, rfl, ho2, hb2⟩

theorem OwnB.block {w : World} {B : Nat} {e : TypeId} {v : Value} {l : List (BitVec 8)} (h : OwnB w B e v l) (h0 : 0 < l.length) :
    ∃ g cap cur, v = .slice (some ⟨g, 0, none⟩) l.length cap ∧ B ≤ g ∧ g < w.heap.size ∧ w.heap[g]? = some (.cells cur e (0, 0)) ∧ l.length ≤ cap ∧ cap ≤ maxLen ∧ cur.size = cap ∧ cur.toList.take l.length = l.map vB := by
  have hlt := World.ownsRow.lt h
  obtain ⟨hlen, h' | ⟨g, cap, cur, rfl, hg, hb, h1, h2, h3, h4⟩⟩ := h
  · omega
  · exact ⟨g, cap, cur, rfl, hg, (hlt g rfl).2, hb, h1, h2, by omega, by rw [Nat.mul_one] at h4; exact h4⟩
/-- bytes with one word in their midst. -/
def putW (l : List (BitVec 8)) (i : Nat) (x : BitVec 64) : List (BitVec 8) := l.take (8 * i) ++ toBytes x ++ l.drop (8 * i + 8)
theorem putW_length (l : List (BitVec 8)) (i : Nat) (x : BitVec 64) (h : 8 * i + 8 ≤ l.length) : (putW l i x).length = l.length := by
  simp [putW, toBytes_length]; omega
/-- a block in which a piece was written over, as a row of the call's own. -/
theorem own_splice {w : World} {B g cap i : Nat} {e : TypeId} {cur : List Value} {l : List (BitVec 8)} {x : BitVec 64} (hB : B ≤ g) (hb : w.heap[g]? = some (.cells (splice cur (8 * i) ((toBytes x).map vB)).toArray e (0, 0)))
    (h1 : l.length ≤ cap) (h2 : cap ≤ maxLen) (h3 : cur.length = cap) (h4 : cur.take l.length = l.map vB) (hi : 8 * i + 8 ≤ l.length) :
    OwnB w B e (.slice (some ⟨g, 0, none⟩) l.length cap) (putW l i x) := by
  have hlen := putW_length l i x hi
  unfold OwnB
  rw [hlen]
  have hs : (splice cur (8 * i) ((toBytes x).map vB)).length = cap := by rw [length_splice _ _ _ (by simp [toBytes_length]; omega), h3]
  refine ⟨by simp [hlen], .inr ⟨g, cap, _, rfl, hB, hb, h1, h2, by simp [hs], ?_⟩⟩
  have hc : cur = l.map vB ++ cur.drop l.length := by rw [← h4, List.take_append_drop]
  rw [Nat.mul_one]
  show (splice cur (8 * i) ((toBytes x).map vB)).take l.length = (putW l i x).map vB
  unfold splice putW
  rw [List.map_append, List.map_append, List.append_assoc]
  have t1 : cur.take (8 * i) = (l.take (8 * i)).map vB := by
    rw [hc, List.take_append_of_le_length (by simp; omega), ← List.map_take]
  have t2 : cur.drop (8 * i + ((toBytes x).map vB).length) = (l.drop (8 * i + 8)).map vB ++ cur.drop l.length := by
    have e8 : ((toBytes x).map vB).length = 8 := by simp [toBytes_length]
    rw [e8]
    conv => lhs; rw [hc]
    rw [List.drop_append_of_le_length (by simp; omega), ← List.map_drop]
  rw [t1, t2, ← List.append_assoc, ← List.append_assoc, List.take_append_of_le_length (by simp [toBytes_length]; omega), List.take_of_length_le (by simp [toBytes_length]; omega), List.append_assoc]

/-- eight bytes copied into a row of the call's own, as a step of a region. -/
theorem step_copy8 {P : Program} {ops : Array Oper} {o : Oper} {a : Act} {w : World} {K : Act → World → Prop} {Q : Exit → Act → World → Prop} {E : Prop} {d s : Operand} {dT sT e : TypeId}
    (hu : P.underlying dT = some (.slice e)) (hsz : (P.info? e).map (·.size) = some 1) (hgd : o.guard = none)
    (ho : o.op = .call { callee := .builtin .copy, args := #[d, s], argTypes := #[dT, sT] })
    {g i dLen dCap sCap cap B B0 : Nat} {sp : Option Addr} {x : BitVec 64} {cur : Array Value} {l : List (BitVec 8)}
    (hd : a.eval d = .slice (some ⟨g, 8 * i, none⟩) dLen dCap) (hs : a.eval s = .slice sp 8 sCap) (hdl : 8 ≤ dLen) (src : IsB B0 w sp sCap (toBytes x))
    (hg : w.heap[g]? = some (.cells cur e (0, 0))) (hB : B ≤ g) (h1 : l.length ≤ cap) (h2 : cap ≤ maxLen) (h3 : cur.size = cap) (h4 : cur.toList.take l.length = l.map vB) (hi : 8 * i + 8 ≤ l.length)
    (h : ∀ w', OwnB w' B e (.slice (some ⟨g, 0, none⟩) l.length cap) (putW l i x) → Below B w w' → K (a.put o.dst (goInt 8)) w') :
    if Region.wanted o (yielded ops a.tmps) = true then Oper.wp P o a w K Q else E := by
  have e8 : ((toBytes x).map vB).length = 8 := by simp [toBytes_length]
  refine step_copy_splice hgd d s dT sT ho e hu hsz (some ⟨g, 8 * i, none⟩) sp dLen dCap 8 sCap hd hs g (8 * i) cur.toList e (by simpa using hg) ((toBytes x).map vB) (by rw [e8]; exact (Nat.min_eq_left hdl).symm) ?_ ?_ (one_vB _) B w (Below.refl _ _) hB ?_
  · intro _
    refine ⟨rfl, ?_⟩
    rcases src.news with ⟨_, _, h⟩ | h
    · rw [h] at e8; simp at e8
    · exact h
  · rw [e8, Array.length_toList]; omega
  · intro w' hw' hb'
    rw [e8]
    exact h w' (own_splice hB hw'.out h1 h2 (by rw [Array.length_toList]; exact h3) h4 hi) hb'
theorem toBytesAll_one (x : BitVec 64) : toBytesAll [x] = toBytes x := by simp [toBytesAll]
set_option maxHeartbeats 800000 in
theorem put_yes (a : Option Addr) (l : List (BitVec 8)) (c B : Nat) (i : Nat) (x : BitVec 64) (hc : l.length ≤ 1000000) (hi8 : i < l.length / 8) (w : World) (hl : IsB B w a c l) (hB : B ≤ w.heap.size) :
    Calls Try.prog 15 #[.slice a l.length c, .int .i64 i, .int .u64 (u x)] w fun e w' => ∃ v, e = .returned (.tuple #[v, .bool true]) ∧ OwnB w' w.heap.size 5 v (putW l i x) ∧ Below w.heap.size w w' := by
  obtain ⟨i0, hi, hz0, hz1, hz2⟩ := info_parts info5
  have hsz1 : (Try.prog.info? 5).map (·.size) = some 1 := by rw [hi]; simp [hz1]
  replace hsz1 := hid hsz1
  clear hi hz0 hz1 hz2
  go_enter Try.func15, Try.ntmps15
  go_wp2_with fail
  refine (clone_any _ l _ _ hc _ hl hB).mono ?_
  rintro e w1 ⟨v1, rfl, ho1, hb1⟩
  obtain ⟨g, cap, cur, rfl, hgB, hgs, hblk, hcap, hcapm, hcs, htake⟩ := ho1.block (by omega)
  clear ho1
  have hcapm' : cap ≤ 9223372036854775807 := by unfold maxLen at hcapm; omega
  have hsub : subA (some ⟨g, 0, none⟩) cap (8 * i) 1 = some ⟨g, 8 * i, none⟩ := by
    unfold subA
    rw [if_neg (by omega)]
    simp [Addr.add]
    omega
  have k0 : (0 : Int) ≤ 8 * (i : Int) := by omega
  have k1 : 8 * (i : Int) ≤ l.length := by omega
  have k2 : 8 * (i : Int) ≤ cap := by omega
  replace hcs := hid hcs
  replace htake := hid htake
  have hcne : ¬ cap = 8 * i := by omega
  have hw8 : IntKind.i64.wrap (8 * (i : Int)) = 8 * (i : Int) := IntWalk.i64_in _ (by omega)
  have hn8 : (8 * (i : Int)).toNat = 8 * i := by omega
  go_wp2_with fail
  refine (has_yes _ _ _ _ (by omega) (by omega) (by omega) _).mono ?_
  rintro e w2 ⟨rfl, rfl⟩
  go_wp2_with fail
  have hb0 : Below w1.heap.size w1 (w1.alloc (.cells #[.int .u64 (u x)] 26)).drew := ((Below.refl _ _).alloc (Nat.le_refl _) _).drew
  replace hblk := hid hblk
  go_region_law (first | (refine step_copy8 Try.underlying23 hsz1.out rfl rfl rfl rfl (by omega) i3 hblk3.out hgB hcap hcapm hcs.out htake.out (by omega) ?_; intro w4 o4 b4) | (go_simp; go_at_call 21; refine (bytes_any _ [x] 1 (w1.heap.size + 1) (by simp) _ ((lit1 _ _ _).quiet Quiet.drew1) (by simp)).mono ?_; rintro e w3 ⟨v3, rfl, o3, b3⟩; rw [toBytesAll_one] at o3; obtain ⟨a3, c3, hv3, i3⟩ := o3.read; rw [toBytes_length] at hv3; subst hv3; have hblk3 := hid (((b3.block g (by simp; omega)).trans (hb0.block g hgs)).trans hblk.out)))
  go_wp2
  go_ret2
  exact ⟨_, rfl, o4, ((hb1.trans (hb0.mono hb1.size)).trans (b3.mono (by have := hb1.size; simp; omega))).trans b4⟩
theorem put_no (a : Option Addr) (l : List (BitVec 8)) (c B : Nat) (i : Int) (x : BitVec 64) (hc : l.length ≤ 1000000) (h1 : ¬ (0 ≤ i ∧ i < (l.length : Int) / 8)) (w : World) (hl : IsB B w a c l) (hB : B ≤ w.heap.size) :
    Calls Try.prog 15 #[.slice a l.length c, .int .i64 i, .int .u64 (u x)] w fun e w' => ∃ v, e = .returned (.tuple #[v, .bool false]) ∧ OwnB w' w.heap.size 5 v l ∧ Below w.heap.size w w' := by
  replace h1 := hid h1
  go_enter Try.func15, Try.ntmps15
  go_wp2_with fail
  refine (clone_any _ l _ _ hc _ hl hB).mono ?_
  rintro e w1 ⟨v1, rfl, ho1, hb1⟩
  go_wp2_with fail
  refine (has_no _ _ _ _ (by omega) h1.out _).mono ?_
  rintro e w2 ⟨rfl, rfl⟩
  go_wp2
  go_ret2
  exact ⟨_, rfl, ho1, hb1⟩
/-- Put of any number. -/
def putI (l : List (BitVec 8)) (i : Int) (x : BitVec 64) : List (BitVec 8) := if 0 ≤ i ∧ i < (l.length : Int) / 8 then putW l i.toNat x else l
theorem put_any (a : Option Addr) (l : List (BitVec 8)) (c B : Nat) (i : Int) (x : BitVec 64) (hc : l.length ≤ 1000000) (w : World) (hl : IsB B w a c l) (hB : B ≤ w.heap.size) :
    Calls Try.prog 15 #[.slice a l.length c, .int .i64 i, .int .u64 (u x)] w fun e w' => ∃ v, e = .returned (.tuple #[v, .bool (decide (0 ≤ i ∧ i < (l.length : Int) / 8))]) ∧ OwnB w' w.heap.size 5 v (putI l i x) ∧ Below w.heap.size w w' := by
  by_cases h : 0 ≤ i ∧ i < (l.length : Int) / 8
  · obtain ⟨n, rfl⟩ := Int.eq_ofNat_of_zero_le h.1
    rw [putI, if_pos h, decide_eq_true h]
    exact put_yes a l c B n x hc (by omega) w hl hB
  · rw [putI, if_neg h, decide_eq_false h]
    exact put_no a l c B i x hc h w hl hB

/-! the document's own Put: byte by byte. -/
def putS (l : List (BitVec 8)) (i : Nat) (x : BitVec 64) (k : Nat) : List (BitVec 8) := l.take (8 * i) ++ (toBytes x).take k ++ l.drop (8 * i + k)
theorem putS_zero (l : List (BitVec 8)) (i : Nat) (x : BitVec 64) : putS l i x 0 = l := by simp [putS]
theorem putS_all (l : List (BitVec 8)) (i : Nat) (x : BitVec 64) : putS l i x 8 = putW l i x := by
  unfold putS putW
  rw [List.take_of_length_le (l := toBytes x) (by rw [toBytes_length]; omega)]
theorem putS_length (l : List (BitVec 8)) (i : Nat) (x : BitVec 64) (k : Nat) (hk : k ≤ 8) (h : 8 * i + 8 ≤ l.length) : (putS l i x k).length = l.length := by
  simp [putS, toBytes_length]; omega
theorem putS_set (l : List (BitVec 8)) (i : Nat) (x : BitVec 64) (k : Nat) (hk : k < 8) (h : 8 * i + 8 ≤ l.length) : (putS l i x k).set (8 * i + k) (byteOf x k) = putS l i x (k + 1) := by
  unfold putS
  have e : l.drop (8 * i + k) = l[8 * i + k] :: l.drop (8 * i + (k + 1)) := List.drop_eq_getElem_cons (by omega)
  rw [e, List.set_append_right _ _ (by simp [toBytes_length]; omega), take_toBytes x k hk]
  have e2 : 8 * i + k - (l.take (8 * i) ++ (toBytes x).take k).length = 0 := by simp [toBytes_length]; omega
  rw [e2]
  simp
set_option maxHeartbeats 800000 in
theorem rput_yes (a : Option Addr) (l : List (BitVec 8)) (c B : Nat) (i : Nat) (x : BitVec 64) (hc : l.length ≤ 1000000) (hi8 : i < l.length / 8) (w : World) (hl : IsB B w a c l) (hB : B ≤ w.heap.size) :
    Calls Try.prog 22 #[.slice a l.length c, .int .i64 i, .int .u64 (u x)] w fun e w' => ∃ v, e = .returned (.tuple #[v, .bool true]) ∧ OwnB w' w.heap.size 5 v (putW l i x) ∧ Below w.heap.size w w' := by
  obtain ⟨i0, hi, hz0, hz1, hz2⟩ := info_parts info5
  replace hi := hid hi
  replace hz0 := hid hz0
  replace hz1 := hid hz1
  replace hz2 := hid hz2
  have hm := hl.max
  have k0 : (0 : Int) ≤ i := by omega
  have k1 : (i : Int) < (l.length : Int) / 8 := by omega
  go_enter Try.func22, Try.ntmps22
  go_wp2_with (at_builtin; refine appLitB (l := l) Try.underlying23 hi.out hz0.out hz1.out hz2.out rfl w.heap.size (Nat.le_refl _) ?_ hl hB rfl ?_ [] rfl rfl rfl rfl rfl ?_)
  · simp
  · omega
  intro v1 w2 l1 e1 ho1 hb2
  have ho2 : OwnB w2 w.heap.size 5 v1 (putS l i x 0) := by rw [putS_zero]; have := e1.out; rw [← this]; exact ho1
  clear ho1 e1
  obtain ⟨g, cap, _, hv, hgB, hgs, hblk, hcap, hcapm, _, _⟩ := ho2.block (by rw [putS_length _ _ _ _ (by omega) (by omega)]; omega)
  rw [putS_length _ _ _ _ (by omega) (by omega)] at hv hcap
  subst hv
  have hcapm' : cap ≤ 9223372036854775807 := by unfold maxLen at hcapm; omega
  clear hblk hcapm
  go_wp2
  go_loopw [9] (fun k wr => ∃ j : Nat, j ≤ 8 ∧ k = .int .i64 j ∧ OwnB wr w.heap.size 5 (.slice (some ⟨g, 0, none⟩) l.length cap) (putS l i x j) ∧ Below w.heap.size w wr) (fun k _ => 8 - (intOf k).toNat)
  case atStart => exact ⟨0, by omega, rfl, ho2, hb2⟩
  case round =>
    obtain ⟨j, hj, rfl, ho, hbr⟩ := hrel
    clear ho2 hb2
    by_cases hlt : j < 8
    · obtain ⟨g', cap', hv, _, _, _, _, hcell, hfr, hset⟩ := ho.row (by rw [putS_length _ _ _ _ (by omega) (by omega)]; omega)
      have hg : g = g' := by simpa using (congrArg (fun v => match v with | .slice (some a) _ _ => a.block | _ => 0) hv)
      subst hg
      have hc1 := hcell (8 * i + j) (by rw [putS_length _ _ _ _ (by omega) (by omega)]; omega)
      have hf := hfr (8 * i + j)
      obtain ⟨ho3, hb3⟩ := hset (8 * i + j) (byteOf x j)
      rw [putS_set _ _ _ _ hlt (by omega)] at ho3
      have h8 : 8 * j % 18446744073709551616 = 8 * j := by omega
      replace h8 := hid h8
      clear hset hcell hfr ho hv
      go_wp2
      go_roundw
      case rel => exact ⟨j + 1, by omega, by go_num, by simpa [byteOf, h8.out] using ho3, hbr.trans (by simpa [byteOf, h8.out] using hb3)⟩
      case measure => simp [intOf]; omega
    · obtain rfl : j = 8 := by omega
      rw [putS_all] at ho
      go_wp2
      go_ret2
      exact ⟨_, rfl, ho, hbr⟩
theorem rput_no (a : Option Addr) (l : List (BitVec 8)) (c B : Nat) (i : Int) (x : BitVec 64) (hc : l.length ≤ 1000000) (h1 : ¬ (0 ≤ i ∧ i < (l.length : Int) / 8)) (w : World) (hl : IsB B w a c l) (hB : B ≤ w.heap.size) :
    Calls Try.prog 22 #[.slice a l.length c, .int .i64 i, .int .u64 (u x)] w fun e w' => ∃ v, e = .returned (.tuple #[v, .bool false]) ∧ OwnB w' w.heap.size 5 v l ∧ Below w.heap.size w w' := by
  obtain ⟨i0, hi, hz0, hz1, hz2⟩ := info_parts info5
  replace hi := hid hi
  replace hz0 := hid hz0
  replace hz1 := hid hz1
  replace hz2 := hid hz2
  by_cases h0 : i < 0
  · clear h1
    go_enter Try.func22, Try.ntmps22
    go_wp2_with (at_builtin; refine appLitB (l := l) Try.underlying23 hi.out hz0.out hz1.out hz2.out rfl w.heap.size (Nat.le_refl _) ?_ hl hB rfl ?_ [] rfl rfl rfl rfl rfl ?_)
    · simp
    · omega
    intro v1 w2 l1 e1 ho1 hb2
    have ho2 : OwnB w2 w.heap.size 5 v1 l := by have := e1.out; rw [← this]; exact ho1
    clear ho1 e1
    go_wp2
    go_ret2
    exact ⟨_, rfl, ho2, hb2⟩
  · have h2 : (l.length : Int) / 8 ≤ i := by omega
    clear h1
    go_enter Try.func22, Try.ntmps22
    go_wp2_with (at_builtin; refine appLitB (l := l) Try.underlying23 hi.out hz0.out hz1.out hz2.out rfl w.heap.size (Nat.le_refl _) ?_ hl hB rfl ?_ [] rfl rfl rfl rfl rfl ?_)
    intro v1 w2 l1 e1 ho1 hb2
    have ho2 : OwnB w2 w.heap.size 5 v1 l := by have := e1.out; rw [← this]; exact ho1
    clear ho1 e1
    go_wp2
    go_ret2
    exact ⟨_, rfl, ho2, hb2⟩
theorem rput_any (a : Option Addr) (l : List (BitVec 8)) (c B : Nat) (i : Int) (x : BitVec 64) (hc : l.length ≤ 1000000) (w : World) (hl : IsB B w a c l) (hB : B ≤ w.heap.size) :
    Calls Try.prog 22 #[.slice a l.length c, .int .i64 i, .int .u64 (u x)] w fun e w' => ∃ v, e = .returned (.tuple #[v, .bool (decide (0 ≤ i ∧ i < (l.length : Int) / 8))]) ∧ OwnB w' w.heap.size 5 v (putI l i x) ∧ Below w.heap.size w w' := by
  by_cases h : 0 ≤ i ∧ i < (l.length : Int) / 8
  · obtain ⟨n, rfl⟩ := Int.eq_ofNat_of_zero_le h.1
    rw [putI, if_pos h, decide_eq_true h]
    exact rput_yes a l c B n x hc (by omega) w hl hB
  · rw [putI, if_neg h, decide_eq_false h]
    exact rput_no a l c B i x hc h w hl hB

/-! ### bytes as a text -/
def strB (l : List (BitVec 8)) : ByteArray := strOfNums (l.map ub)
theorem conv_B {B : Nat} {w : World} {a : Option Addr} {c : Nat} {l : List (BitVec 8)} (h : IsB B w a c l) (n : Nat) (hn : l.length = n) :
    (convert 23 9 (.slice a n c)).run Try.prog w = .ok (.string (strB l)) w := by
  subst hn
  rcases h with ⟨rfl, h1, h2⟩ | ⟨b, off, rfl, h1, h2, hb, hc⟩
  · rw [run_convert_bytes_string w 23 9 5 a _ c Try.underlying23 Try.underlying5 Try.underlying9]
    cases a with
    | none => rfl
    | some x => rfl
  · exact run_convert_bytes_arg w 23 5 Try.underlying23 Try.underlying5 b off _ c (l.map ub) (by simp) (fun i hi => by
      rw [hc i hi, List.getD_eq_getElem?_getD, List.getElem?_map]
      simp [hi]) 9 Try.underlying9
end Go.Proofs.Ytmefcjgoedhpkaa

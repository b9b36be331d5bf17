/-
  The walk of PmemSure.
-/
import Derived.Test.YtenncnbaoejekaaPmQ
import Derived.Test.YtenncnbaoejekaaMmG
import Derived.Test.YtenncnbaoejekaaIn
set_option linter.unusedSimpArgs false
namespace Go.Proofs.Ytenncnbaoejekaa
open Go.RowKit Ev
theorem namesOkP : Ev.namesOk Try.prog = true := by kernel_rfl
theorem mixesP : Try.prog.follows .mixedOrders = true := by kernel_rfl
theorem ranPm : Ev.yesQ Try.prog 100000 23 = true := by kernel_rfl
theorem pmAwake (W : World) : Calls Try.prog 23 #[] W fun e W' => e = .returned (.bool true) ∧ Below W.heap.size W W' := Ev.yesQ_ok namesOkP mixesP ranPm W
/-- a whole number's lowest bits -/
theorem and_low {P : Program} {st : St} {t : TypeId} {x y : Operand} (a : Int) (k : Nat) (hk : k ≤ 62) : binE P st .and t x y (.c (.int .i64 a)) (.c (.int .i64 ((2 ^ k - 1 : Nat) : Int))) = some (.int .i64 (a % ((2 ^ k : Nat) : Int)), st) := by
  have hp : 0 < 2 ^ k := Nat.two_pow_pos k
  have hle : 2 ^ k ≤ 2 ^ 62 := Nat.pow_le_pow_right (by omega) hk
  cases a with
  | ofNat n =>
    have h := bin_and (P := P) (st := st) (t := t) (x := x) (y := y) (k := .i64) (a := n) (b := 2 ^ k - 1)
    rw [Nat.and_two_pow_sub_one_eq_mod] at h
    have hlt := Nat.mod_lt n hp
    rw [wrap_in (by omega) (by omega)] at h
    exact h
  | negSucc n =>
    have hlt := Nat.mod_lt n hp
    have e : (2 ^ k - 1) ^^^ ((2 ^ k - 1) &&& n) = 2 ^ k - 1 - n % 2 ^ k := by
      rw [Nat.and_comm, Nat.and_two_pow_sub_one_eq_mod]
      apply Nat.eq_of_testBit_eq
      intro i
      rw [Nat.testBit_xor, Nat.testBit_two_pow_sub_one]
      rw [show 2 ^ k - 1 - n % 2 ^ k = 2 ^ k - (n % 2 ^ k + 1) by omega, Nat.testBit_two_pow_sub_succ hlt]
      by_cases hi : i < k
      · simp [hi]
      · have : n % 2 ^ k < 2 ^ i := Nat.lt_of_lt_of_le hlt (Nat.pow_le_pow_right (by omega) (by omega))
        simp [hi, Nat.testBit_lt_two_pow this]
    have e2 : (Int.negSucc n) % ((2 ^ k : Nat) : Int) = ((2 ^ k - 1 - n % 2 ^ k : Nat) : Int) := by
      rw [Int.negSucc_emod n (by exact_mod_cast hp)]
      omega
    rw [e2, ← e]
    have hb : binE P st .and t x y (.c (.int .i64 (Int.negSucc n))) (.c (.int .i64 ((2 ^ k - 1 : Nat) : Int))) = some (.int .i64 (IntKind.i64.wrap (((2 ^ k - 1) ^^^ ((2 ^ k - 1) &&& n) : Nat) : Int)), st) := by
      have h : binI .and .i64 (Int.negSucc n) ((2 ^ k - 1 : Nat) : Int) = some (.int .i64 (IntKind.i64.wrap (((2 ^ k - 1) ^^^ ((2 ^ k - 1) &&& n) : Nat) : Int))) := by
        show some (Value.int .i64 (wr .i64 _)) = _
        rw [wr_eq]; rfl
      simp only [binE, eqKd, h, ofV, fA, ret, fi_eq]
    rw [hb, wrap_in (by rw [e]; omega) (by rw [e]; omega)]
@[simp] theorem and_31 {P : Program} {st : St} {t : TypeId} {x y : Operand} (a : Int) : binE P st .and t x y (.c (.int .i64 a)) (.c (.int .i64 31)) = some (.int .i64 (a % 32), st) := and_low a 5 (by omega)
@[simp] theorem and_15 {P : Program} {st : St} {t : TypeId} {x y : Operand} (a : Int) : binE P st .and t x y (.c (.int .i64 a)) (.c (.int .i64 15)) = some (.int .i64 (a % 16), st) := and_low a 4 (by omega)
@[simp] theorem and_1 {P : Program} {st : St} {t : TypeId} {x y : Operand} (a : Int) : binE P st .and t x y (.c (.int .i64 a)) (.c (.int .i64 1)) = some (.int .i64 (a % 2), st) := and_low a 1 (by omega)
/-- calls of a memory -/
def actC : Codec (Int × Int × BitVec 64 × List Int) := pairC iC (pairC iC (pairC wC (rowC iC)))
theorem actC_at {st : St} {y : Nat → V} {a : Int × Int × BitVec 64 × List Int} (h : actC.at' st y a) : y 0 = .int .i64 a.1 ∧ y 1 = .int .i64 a.2.1 ∧ y 2 = wd a.2.2.1 ∧ (rowC iC).at' st (fun j => y (3 + j)) a.2.2.2 ∧ (-9223372036854775808 ≤ a.1 ∧ a.1 ≤ 9223372036854775807) ∧ (-9223372036854775808 ≤ a.2.1 ∧ a.2.1 ≤ 9223372036854775807) := by
  obtain ⟨⟨h1, h2⟩, ⟨h3, h4⟩, ⟨h5, _⟩, h6⟩ := h
  refine ⟨h1, h3, h5, ?_, h2, h4⟩
  refine (rowC iC).locA (fun j _ => ?_) h6
  show y (1 + (1 + (1 + j))) = y (3 + j)
  rw [show 1 + (1 + (1 + j)) = 3 + j by omega]
theorem okS.R {v : MV} {n i : Nat} (h : okS (absV v) n i) : v.R.length = n ∧ ∀ r ∈ v.R, r.m.O.length ≤ i := by
  refine ⟨by have := h.len; simpa [absV] using this, fun r hr => h.op r.m (List.mem_map_of_mem hr)⟩
theorem lineM_ok (W : List (BitVec 64)) (i : Nat) : okP (lineM W i) := ⟨initS_len _, rfl, fun r hr => by cases hr⟩
theorem fromA_ok (W : List (BitVec 64)) (n : Nat) : okS (fromA W n) n 0 := ⟨by simp [fromA], rfl, fun m hm => by
  obtain ⟨i, _, rfl⟩ := List.mem_map.1 hm
  exact lineM_ok W i, fun m hm => by
  obtain ⟨i, _, rfl⟩ := List.mem_map.1 hm
  exact Nat.zero_le _⟩
theorem store_fuse {s : AS} {n i : Nat} (h : okS s n i) (hf : s.fuse < 1) {a : Int} (ha : 0 ≤ a ∧ a < 8 * n) (w : BitVec 64) : (s.store a w).fuse < 1 ∧ s.storeE a = 0 := by
  obtain ⟨h1, h2⟩ := AS.store_on (w := w) h.off hf ⟨ha.1, by rw [h.len]; omega⟩
  rw [h1]; exact ⟨hf, h2⟩
def psI (st : St) (x y k : V) (q n : Nat) (e : Env) (s : St) : Prop := ∃ (i : Nat) (v : MV), i ≤ n ∧ e.get 0 = some x ∧ e.get 1 = some y ∧ e.get 2 = some k ∧ e.get 7 = some (.p q 0) ∧ e.get 9 = some (.int .i64 (i : Int)) ∧ MLive st s q v ∧ okS (absV v) 4 i ∧ (absV v).fuse < 1
def psJ (st : St) (x y k wx : V) (q nb n : Nat) (was : List (BitVec 64)) (e : Env) (s : St) : Prop := ∃ (i : Nat) (v : MV) (ov : Nat → Bool) (t : T V), i ≤ n ∧ e.get 0 = some x ∧ e.get 1 = some y ∧ e.get 2 = some k ∧ e.get 7 = some (.p q 0) ∧ e.get 10 = some wx ∧ e.get 11 = some (.p nb 0) ∧ e.get 12 = some (.int .i64 (i : Int)) ∧
  MLive st s q v ∧ RowAp s q v wx 1 32 (wv was) ∧ sureB was ov (absV v) i ∧ s.h.get nb = some (.cs 54 32 t) ∧ (∀ j, j < 32 → t.get j = some (.bool (ov j))) ∧ nb < s.nx ∧ ¬ MOw q v nb
def psK (sf : St) (wx nx : V) (nb : Nat) (e : Env) (s : St) : Prop := ∃ i : Nat, i ≤ 32 ∧ e.get 10 = some wx ∧ e.get 13 = some nx ∧ e.get 11 = some (.p nb 0) ∧ e.get 14 = some (.int .i64 (i : Int)) ∧ s = sf
set_option maxRecDepth 20000 in
set_option maxHeartbeats 8000000 in
theorem g_PmemSure (st : St) (x y k : Nat → V) (L M : List (Int × Int × BitVec 64 × List Int)) (K : List Int) (hx : (rowC actC).at' st x L) (hy : (rowC actC).at' st y M) (hk : (rowC iC).at' st k K) :
    Gd (lawC Try.prog 23 ⟨false, [], 0, 0⟩ 4 [x 0, y 0, k 0] st) fun r => r.1 = .bool true := by
  rw [Gd_lawC Try.func4 rfl]
  by_cases c1 : (30 : Int) < L.length
  · simp [evOp_call, sets, T.get_set, rowC_len hx, rowC_len hy, rowC_len hk, c1]
  by_cases c2 : (30 : Int) < M.length
  · simp [evOp_call, sets, T.get_set, rowC_len hx, rowC_len hy, rowC_len hk, c1, c2]
  by_cases c3 : (10 : Int) < K.length
  · simp [evOp_call, sets, T.get_set, rowC_len hx, rowC_len hy, rowC_len hk, c1, c2, c3]
  simp [evOp_call, sets, T.get_set, rowC_len hx, rowC_len hy, rowC_len hk, c1, c2, c3, oracF_cons]
  refine Gd.mono (mnew_any st 4 (by omega) _) ?_
  rintro ⟨r, s0⟩ ⟨q, v0, hr, hv0, ha0⟩
  simp only at hr hv0
  subst hr
  simp [evOp_call, sets, T.get_set]
  refine Gd_loop (psI st (x 0) (y 0) (k 0) q L.length) (fun e _ => muAt 9 L.length e) ?_ ?_
  · exact ⟨0, v0, Nat.zero_le _, by simp [T.get_set], by simp [T.get_set], by simp [T.get_set], by simp [T.get_set], by simp [T.get_set], hv0, by rw [ha0]; exact fromA_ok _ _, by rw [ha0]; decide⟩
  · rintro e s ⟨i, v, hi, g0, g1, g2, g7, g9, hm, hok, hf⟩
    obtain ⟨hR, hO⟩ := hok.R
    by_cases hlt : i < L.length
    · have hlt' : (i : Int) < L.length := by omega
      have hwi := wrap_nat (n := i) (by omega)
      obtain ⟨a, ha⟩ : ∃ a, L[i]? = some a := ⟨_, List.getElem?_eq_getElem hlt⟩
      obtain ⟨m1, o1, ty1, sz1, t1, z1, i1, b1, k1, d1, ha1⟩ := rowC_idx (c := actC) un22 io34 ((rowC actC).ext hx hm.ext) ha
      obtain ⟨p0, p1, p2, p3, p4, p5⟩ := actC_at ha1
      have e1 : t1.get (o1 + 1) = some (.int .i64 a.2.1) := (d1 1 (by decide)).trans (by rw [p1])
      have e2 : t1.get (o1 + 2) = some (wd a.2.2.1) := (d1 2 (by decide)).trans (by rw [p2])
      simp [evOp_call, T.get_set, g0, g1, g2, g7, g9, rowC_len hx, hlt', i1, loadE_eq, getC_eq, k1, e1, e2]
      refine ⟨by kernel_rfl, ?_⟩
      simp [evOp_call, T.get_set, g0, g1, g2, g7, g9, rowC_len hx, hlt', i1, loadE_eq, getC_eq, k1, e1, e2, oracF_cons]
      refine Gd_cxC (c' := ⟨false, [], 0, 121⟩) (by kernel_rfl) ?_
      have hin : 0 ≤ a.2.1 % 32 ∧ a.2.1 % 32 < 8 * (4 : Nat) := by omega
      have hf' : v.fuse < 1 := hf
      refine Gd.mono (mstore_any s q v hm.at' (a.2.1 % 32) a.2.2.1 (by omega) (by omega) (by omega) (fun r hr => by have := hO r hr; omega) _) ?_
      rintro ⟨r, s2⟩ ⟨hr, v2, hs2, ha2⟩
      simp only at hr hs2
      subst hr
      have hst := store_fuse hok hf hin a.2.2.1
      simp [evOp_call, T.get_set, g0, g1, g2, g7, g9, hwi]
      exact ⟨⟨i + 1, v2, hlt, by simp [T.get_set, g0], by simp [T.get_set, g1], by simp [T.get_set, g2], by simp [T.get_set, g7], by simp [T.get_set], hm.step hs2, by rw [ha2]; exact hok.store hf hin _, by rw [ha2]; exact hst.1⟩, muAt_lt g9 (by simp [T.get_set]) hlt⟩
    · obtain rfl : i = L.length := by omega
      have hf' : v.fuse < 1 := hf
      simp [evOp_call, T.get_set, g0, g1, g2, g7, g9, rowC_len hx]
      refine Gd_buildW (vs := ivs [0, 1, 2, 3]) (fun k => el32 k) (fun k => ze3 k) rfl (by simp [T.get_set, ivs]) (by simp [ivs]) rfl rfl (by omega) ?_
      have hb := built_row (st := s) (el := 3) (vs := ivs [0, 1, 2, 3]) (n := 4) (by decide) rfl
      have hmb := hm.more ((Ext.refl s.nx s).new (Nat.le_refl _) (.cs 3 4 (sets (ivs [0, 1, 2, 3]) 0 .lf)))
      simp [evOp_call, T.get_set, g7, oracF_cons]
      refine Gd.mono (mflush_any _ q v hmb.at' _ [0, 1, 2, 3] hb (fun k hk e => by have := nm_sl hk; have := hm.at'.own_lt e; omega) (by simp) (by omega) (by omega) _) ?_
      rintro ⟨r, s2⟩ ⟨hr, v2, hs2, ha2⟩
      simp only at hr hs2
      subst hr
      have hm2 := hmb.step hs2
      obtain ⟨hb0, hfe, hfl⟩ := sureB_begin hok hf
      rw [← ha2] at hb0 hfe
      have hR2 : v2.R.length = 4 := by
        have h1 := congrArg (fun s => s.L.length) ha2
        have h2 := (flush4 hok hf).2
        simp only [h2, List.length_map, hok.len] at h1
        simpa [absV] using h1
      have hfu2 : v2.fuse < 1 := by
        have h1 : v2.fuse = ((absV v).flush [0, 1, 2, 3]).fuse := congrArg (fun s => s.fuse) ha2
        rw [h1, (AS.flush_on hok.off hf (flush4 hok hf).1).1]; exact hf
      simp [evOp_call, T.get_set, g7, oracF_cons]
      refine Gd.mono (mfence_any s2 q v2 hm2.at' (by omega) (by omega) _) ?_
      rintro ⟨r, s3⟩ ⟨hr, v3, hs3, ha3⟩
      simp only at hr hs3
      rw [hfe] at hr
      subst hr
      rw [← ha3] at hb0
      have hm3 := hm2.step hs3
      obtain ⟨hR3, _⟩ := hb0.1.R
      simp [evOp_call, T.get_set, g7, oracF_cons]
      refine Gd.mono (mwords_any s3 q v3 hm3.at' (by omega) _) ?_
      rintro ⟨wv', s4⟩ ⟨hw4, e4⟩
      simp only at hw4 e4
      have hm4 := hm3.more e4
      have hwa := hw4.apart hm3.at'
      rw [hR3] at hwa
      obtain ⟨was, hwas⟩ : ∃ was, was = allN (absV v3).L := ⟨_, rfl⟩
      rw [← hwas] at hwa hb0
      have hwl : was.length = 32 := by have := hwa.1.1; simpa using this
      simp [evOp_call, T.get_set, newC_is]
      have hq4 := hm4.at'.lt
      have own4 : ¬ MOw q v3 s4.nx := fun e => by have := hm4.at'.own_lt e; omega
      have hm5 := hm4.more ((Ext.refl s4.nx s4).new (Nat.le_refl _) (.cs 54 32 (sets (List.replicate 32 (V.bool false)) 0 .lf)))
      have hwa5 := hwa.more ((Ext.refl s4.nx s4).new (Nat.le_refl _) (.cs 54 32 (sets (List.replicate 32 (V.bool false)) 0 .lf)))
      have hnw : ¬ Nm wv' s4.nx := fun e => by have := hwa.1.nm_lt e; omega
      have hst4 := hm4.ext.le
      refine Gd_loop (psJ st (x 0) (y 0) (k 0) wv' q s4.nx M.length was) (fun e _ => muAt 12 M.length e) ?_ ?_
      · exact ⟨0, v3, fun _ => false, sets (List.replicate 32 (V.bool false)) 0 .lf, Nat.zero_le _, by simp [T.get_set, g0], by simp [T.get_set, g1], by simp [T.get_set, g2], by simp [T.get_set, g7], by simp [T.get_set], by simp [T.get_set], by simp [T.get_set], hm5, hwa5, hb0, T.get_set_same _ _ _, fun j hj => by
          rw [get_sets, if_pos ⟨by omega, by simpa using hj⟩, List.getElem?_replicate, if_pos (by omega)], Nat.lt_succ_self _, own4⟩
      · clear g0 g1 g2 g7 g9 hs2 hs3 hm2 hm3 hm4 hm5 hwa hwa5 hb0 hw4 hb hmb hm hok hf
        rintro e s ⟨i, v, ov, tb, hi, g0, g1, g2, g7, g10, g11, g12, hm, hwa, hbo, hkb, htb, hnb, hno⟩
        obtain ⟨hok, hf, hsu⟩ := id hbo
        obtain ⟨hR, hO⟩ := hok.R
        have hf' : v.fuse < 1 := hf
        by_cases hlt : i < M.length
        · have hlt' : (i : Int) < M.length := by omega
          have hwi := wrap_nat (n := i) (by omega)
          obtain ⟨a, ha⟩ : ∃ a, M[i]? = some a := ⟨_, List.getElem?_eq_getElem hlt⟩
          obtain ⟨m1, o1, ty1, sz1, t1, z1, i1, b1, hk1, d1, ha1⟩ := rowC_old (c := actC) un22 io34 hy ha
          have k1 := hk1 s hm.ext
          obtain ⟨p0, p1, p2, p3, p4, p5⟩ := actC_at ha1
          have e1 : t1.get (o1 + 1) = some (.int .i64 a.2.1) := (d1 1 (by decide)).trans (by rw [p1])
          have e2 : t1.get (o1 + 2) = some (wd a.2.2.1) := (d1 2 (by decide)).trans (by rw [p2])
          obtain ⟨n, hn⟩ : ∃ n : Nat, a.2.1 % 32 = (n : Int) := ⟨(a.2.1 % 32).toNat, by omega⟩
          have hn32 : n < 32 := by omega
          simp [evOp_call, T.get_set, g0, g1, g2, g7, g10, g11, g12, rowC_len hy, hlt', i1, loadE_eq, getC_eq, k1, e1, e2]
          refine ⟨by kernel_rfl, ?_⟩
          simp [evOp_call, T.get_set, g0, g1, g2, g7, g10, g11, g12, rowC_len hy, hlt', i1, loadE_eq, getC_eq, k1, e1, e2, oracF_cons]
          refine Gd_cxC (c' := ⟨false, [], 0, 121⟩) (by kernel_rfl) ?_
          rw [hn]
          refine Gd.mono (mstore_any s q v hm.at' (n : Int) a.2.2.1 (by omega) (by omega) (by omega) (fun r hr => by have := hO r hr; omega) _) ?_
          rintro ⟨r, s2⟩ ⟨hr, v2, hs2, ha2⟩
          simp only at hr hs2
          subst hr
          have hm2 := hm.step hs2
          have hkb2 : s2.h.get s4.nx = some (.cs 54 32 tb) := (hs2.kept.keep s4.nx hnb hno).trans hkb
          have hno2 := hs2.not_own hno hnb
          have hle2 := hs2.kept.le
          have k2 := hk1 s2 hm2.ext
          have hneq : ¬ s4.nx = m1 := by omega
          simp [evOp_call, T.get_set, g0, g1, g2, g7, g10, g11, g12, i1, loadE_eq, getC_eq, k2, e1, hn, hn32, putB_eq, hkb2, roT, hwi, show n ≤ 31 by omega]
          refine ⟨⟨i + 1, v2, fun j => if j = n then true else ov j, tb.set n (.bool true), hlt, by simp [T.get_set, g0], by simp [T.get_set, g1], by simp [T.get_set, g2], by simp [T.get_set, g7], by simp [T.get_set, g10], by simp [T.get_set, g11], by simp [T.get_set], hm2.poke hno2 hst4 (by omega) _, (hwa.step hs2).poke hnw _, by rw [ha2]; exact sureB_store hbo hn32 _, T.get_set_same _ _ _, fun j hj => ?_, by show s4.nx < s2.nx; omega, hno2⟩, muAt_lt g12 (by simp [T.get_set]) hlt⟩
          rw [T.get_set]
          by_cases e : n = j
          · subst e; simp
          · rw [if_neg e]
            simp only
            rw [if_neg (fun h => e h.symm)]; exact htb j hj
        · obtain rfl : i = M.length := by omega
          have hkr := hm.row (rowC_ints hk).1
          simp [evOp_call, T.get_set, g0, g1, g2, g7, g10, g11, g12, rowC_len hy, oracF_cons]
          refine Gd.mono (mcrash_on s q v hm.at' hok.off (k 0) K (fun st' v' hs _ _ => (hkr.step hs).1) (by omega) _) ?_
          rintro ⟨r, s5⟩ ⟨hr, hs5⟩
          simp only at hr hs5
          subst hr
          have hm5 := hm.step hs5
          have hwa5 := hwa.step hs5
          have hkb5 : s5.h.get s4.nx = some (.cs 54 32 tb) := (hs5.kept.keep s4.nx hnb hno).trans hkb
          have hno5 := hs5.not_own hno hnb
          have hnb5 : s4.nx < s5.nx := Nat.lt_of_lt_of_le hnb hs5.kept.le
          simp [evOp_call, T.get_set, g0, g1, g2, g7, g10, g11, g12, oracF_cons]
          refine Gd.mono (mon_any s5 q _ hm5.at' _) ?_
          rintro ⟨r, s6⟩ ⟨hr, hs6⟩
          simp only at hr hs6
          subst hr
          have hm6 := hm5.step hs6
          have hwa6 := hwa5.step hs6
          have hkb6 : s6.h.get s4.nx = some (.cs 54 32 tb) := (hs6.kept.keep s4.nx hnb5 hno5).trans hkb5
          have hno6 := hs6.not_own hno5 hnb5
          have hnb6 : s4.nx < s6.nx := Nat.lt_of_lt_of_le hnb5 hs6.kept.le
          have hL6 : (absV ({ v.fell K with off := false } : MV)).L = fallM K (absV v).L := by
            show (v.fell K).R.map (·.m) = _
            exact fallN_m K v.R
          have hR6 : ({ v.fell K with off := false } : MV).R.length = 4 := by
            have : ({ v.fell K with off := false } : MV).R.length = v.R.length := fallN_length K v.R _
            rw [this, hR]
          simp [evOp_call, T.get_set, g0, g1, g2, g7, g10, g11, g12, oracF_cons]
          refine Gd.mono (mwords_any s6 q _ hm6.at' (Nat.le_trans (Nat.le_of_eq hR6) (by omega)) _) ?_
          rintro ⟨nx, s7⟩ ⟨hw7, e7⟩
          simp only at hw7 e7
          have hna := hw7.rd
          rw [hL6, hR6] at hna
          have hwa7 := (hwa6.more e7).1
          have hkb7 : s7.h.get s4.nx = some (.cs 54 32 tb) := (e7.keep s4.nx hnb6).trans hkb6
          obtain ⟨now, hnow⟩ : ∃ now, now = allN (fallM K (absV v).L) := ⟨_, rfl⟩
          have hend : ∀ j, j < 32 → ov j = false → now[j]? = was[j]? := fun j hj ho => by rw [hnow]; exact sureB_fall hbo K hj ho
          rw [← hnow] at hna
          have hnl : now.length = 32 := by have := hna.1; simpa using this
          simp [evOp_call, T.get_set, g0, g1, g2, g7, g10, g11, g12, hna.lenS, hwa7.lenS]
          refine Gd_loop (psK s7 wv' nx s4.nx) (fun e _ => muAt 14 32 e) ?_ ?_
          · exact ⟨0, Nat.zero_le _, by simp [T.get_set, g10], by simp [T.get_set], by simp [T.get_set, g11], by simp [T.get_set], rfl⟩
          · rintro e s ⟨i, hi, f10, f13, f11, f14, rfl⟩
            by_cases hlt : i < 32
            · have hlt' : (i : Int) < 32 := by omega
              have hwi := wrap_nat (n := i) (by omega)
              obtain ⟨m1, o1, ty1, sz1, t1, i1, b1, k1, l1, d1⟩ := hna.idx (st := s) un30 io31 hlt
              obtain ⟨m2, o2, ty2, sz2, t2, i2, b2, k2, l2, d2⟩ := hwa7.idx (st := s) un30 io31 hlt
              obtain ⟨wn, hwn⟩ : ∃ wn, now[i]? = some wn := ⟨_, List.getElem?_eq_getElem (by omega)⟩
              obtain ⟨ww, hww⟩ : ∃ ww, was[i]? = some ww := ⟨_, List.getElem?_eq_getElem (by omega)⟩
              have q1 : t1.get o1 = some (wd wn) := d1 0 _ (by omega) (by simpa using wv_get hwn)
              have q2 : t2.get o2 = some (wd ww) := d2 0 _ (by omega) (by simpa using wv_get hww)
              have q3 := htb i hlt
              cases ho : ov i with
              | true =>
                rw [ho] at q3
                simp [evOp_call, T.get_set, f10, f11, f13, f14, hlt', hlt]
                refine ⟨by kernel_rfl, ?_⟩
                simp [evOp_call, T.get_set, f10, f11, f13, f14, hlt', hlt, loadE_eq, getC_eq, hkb7, q3, hwi]
                exact ⟨⟨i + 1, hlt, by simp [T.get_set, f10], by simp [T.get_set, f13], by simp [T.get_set, f11], by simp [T.get_set], rfl⟩, muAt_lt f14 (by simp [T.get_set]) hlt⟩
              | false =>
                rw [ho] at q3
                have heq := hend i hlt ho
                rw [hwn, hww] at heq
                injection heq with heq
                subst heq
                simp [evOp_call, T.get_set, f10, f11, f13, f14, hlt', hlt]
                refine ⟨by kernel_rfl, ?_⟩
                simp [evOp_call, T.get_set, f10, f11, f13, f14, hlt', hlt, loadE_eq, getC_eq, hkb7, q3, hwi, i1, i2, k1, k2, q1, q2]
                exact ⟨⟨i + 1, hlt, by simp [T.get_set, f10], by simp [T.get_set, f13], by simp [T.get_set, f11], by simp [T.get_set], rfl⟩, muAt_lt f14 (by simp [T.get_set]) hlt⟩
            · obtain rfl : i = 32 := by omega
              simp [evOp_call, T.get_set, f10, f11, f13, f14]
theorem fits_act : Fits Try.prog actC 34 :=
  fits_struct Try.underlying34 (by kernel_rfl) (FitsF.cons rfl (by kernel_rfl) (fits_i Try.underlying3) (FitsF.cons rfl (by kernel_rfl) (fits_i Try.underlying3) (FitsF.cons rfl (by kernel_rfl) (fits_w Try.underlying31) (FitsF.one rfl (by kernel_rfl) (fits_row Try.underlying32 (by kernel_rfl) (by decide) (fits_i Try.underlying3))))))
theorem fits_acts : Fits Try.prog (rowC actC) 22 := fits_row Try.underlying22 (by kernel_rfl) (by decide) fits_act
theorem fits_ints : Fits Try.prog (rowC iC) 32 := fits_row Try.underlying32 (by kernel_rfl) (by decide) (fits_i Try.underlying3)
theorem w_PmemSure (l m : List (Int × Int × BitVec 64 × List Int)) (k : List Int) (W : World) (x : Value) (hx : (rowC actC).rel W (fun j => [x][j]?.getD default) l) (y : Value) (hy : (rowC actC).rel W (fun j => [y][j]?.getD default) m) (z : Value) (hz : (rowC iC).rel W (fun j => [z][j]?.getD default) k) :
    Calls Try.prog 4 #[x, y, z] W fun e W' => e = .returned (.bool true) ∧ Below W.heap.size W W' := by
  obtain ⟨s1, r1, v1, b1, l1, q1, e1, a1⟩ := (rowC actC).enter (Begin.zero W) hx
  obtain ⟨s2, r2, v2, b2, l2, q2, e2, a2⟩ := (rowC actC).enter b1 hy
  obtain ⟨s3, r3, v3, b3, l3, q3, e3, a3⟩ := (rowC iC).enter b2 hz
  exact law_calls (lawC_sound namesOkP mixesP Try.func23 rfl pmAwake) b3 (.cons (Rel.mono l3 _ _ (Rel.mono l2 _ _ (q1 0 (by decide)).2)) (.cons (Rel.mono l3 _ _ (q2 0 (by decide)).2) (.cons (q3 0 (by decide)).2 .nil)))
    (g_PmemSure s3 v1 v2 v3 l m k ((rowC actC).ext ((rowC actC).ext a1 e2) e3) ((rowC actC).ext a2 e3) a3)
end Go.Proofs.Ytenncnbaoejekaa

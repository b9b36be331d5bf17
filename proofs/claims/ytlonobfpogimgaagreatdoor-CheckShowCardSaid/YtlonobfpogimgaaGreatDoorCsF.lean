/-
  Contracts of a number's text: FormatInt, Itoa.
-/
import Derived.Test.YtlonobfpogimgaaGreatDoorCsE
set_option linter.unusedSimpArgs false
set_option linter.unusedVariables false
namespace Go.Proofs.YtlonobfpogimgaaGreatDoor
open Go.RowKit Ev
/-! ### plain -/
theorem len_tab : ((List.range 65).all fun l => decide (2 ^ l ≤ 10 ^ (l * 78913 / 262144 + 1)) && decide (l * 78913 / 262144 + 1 ≤ 20) && (Ev.tens.getD (l * 78913 / 262144) 0 == 10 ^ (l * 78913 / 262144))) = true := by kernel_rfl
theorem lenN_lt (u : Nat) : u < 2 ^ lenN u := by
  unfold lenN
  by_cases h : u = 0
  · rw [if_pos h, h]; decide
  · rw [if_neg h]; exact Nat.lt_log2_self
theorem ndN_ok {u : Nat} (h : u < 2 ^ 64) : Lt10 u (ndN u) ∧ ndN u ≤ 20 := by
  have h1 := lenN_64 h
  have h2 := List.all_eq_true.1 len_tab (lenN u) (List.mem_range.2 (by omega))
  simp only [Bool.and_eq_true, decide_eq_true_eq, beq_iff_eq] at h2
  obtain ⟨⟨h3, h4⟩, h5⟩ := h2
  have h6 := lenN_lt u
  unfold ndN Lt10
  rw [h5]
  split
  · exact ⟨Nat.lt_of_lt_of_le h6 h3, h4⟩
  · rename_i hn
    exact ⟨Nat.lt_of_not_le hn, by omega⟩
theorem dgt_lt (u j : Nat) : 48 ≤ dgt u j ∧ dgt u j < 58 := by
  unfold dgt
  have := Nat.mod_lt (u / 10 ^ j) (show 10 > 0 by decide)
  omega
theorem dg_len (nd u : Nat) : (dg nd u).length = nd := by simp [dg]
theorem dg_get {nd u i : Nat} (h : i < nd) : (dg nd u)[i]? = some (dgt u (nd - 1 - i)) := by simp [dg, h]
theorem dg_ok (nd u : Nat) : okS (dg nd u) := fun b hb => by
  obtain ⟨i, _, rfl⟩ := List.mem_map.1 hb
  have := dgt_lt u (nd - 1 - i)
  omega
/-- a number's text -/
def itT (n : Int) : Tx := if 0 ≤ n ∧ n < 100 then smN n.toNat else if n < 0 then 45 :: dg (ndN n.natAbs) n.natAbs else dg (ndN n.natAbs) n.natAbs
/-! ### rules -/
theorem Gd_arrMid {P : Program} {c : Cx} {e : Env} {st : St} {Q : V × St → Prop} {t len el : Nat} (hu : P.underlying t = some (.array len el)) (hz : ∀ k : Nat → Res, szOf P el k = k 1) {lo hi : Option Operand} {a b : Nat} (h1 : ∀ f : Nat → Res, bnd e 0 lo f = f a) (h2 : ∀ f : Nat → Res, bnd e len hi f = f b) (hab : a ≤ b) (hb : b ≤ len) (hne : a < len) {n o : Nat} (hQ : Q (.sl n (o + a) (b - a) (len - a), st)) : Gd (sliceK P c e st t (.p n o) lo hi) Q := by
  unfold sliceK sliceE
  rw [hu]
  have b1 : Nat.ble a b = true := by rw [Nat.ble_eq]; exact hab
  have b2 : Nat.ble b len = true := by rw [Nat.ble_eq]; exact hb
  have b3 : Nat.beq len a = false := by
    cases hh : Nat.beq len a with
    | false => rfl
    | true => have := Nat.eq_of_beq_eq_true hh; omega
  simp only [hz, h1, h2, b1, b2, b3, fn_eq, Nat.mul_one]
  exact ⟨_, rfl, hQ⟩
theorem conv_sl {st : St} {nt m o len cap ty sz : Nat} {t : T V} {L : Tx} (hg : st.h.get m = some (.cs ty sz t)) (hL : okS L) (hlen : L.length = len) (h : ∀ (i b : Nat), L[i]? = some b → t.get (o + i) = some (.int .u8 (b : Int))) :
    convE Tryz.prog ⟨false, [], 0, nt⟩ st 77 9 (.sl m o len cap) = some (.s L, st) := by
  have e : convE Tryz.prog ⟨false, [], 0, nt⟩ st 77 9 (.sl m o len cap) = lenA (.sl m o len cap) fun len' => firsts ⟨false, [], 0, nt⟩ st 1 len' (.sl m o len cap) fun l => bytesOfAs l fun l => some (.s l, st) := by
    unfold convE
    rw [un77, un9]
    simp only [un5]
    rfl
  rw [e, lenA_sl, firsts_sl, if_pos (Nat.le_refl _), getC_eq, hg]
  simp only [ok_top, inF_nil, Bool.not_false, cond_true, Option.bind_some, csK_cs]
  have hy : len * 1 = (yv L).length := by rw [yv_length, hlen, Nat.mul_one]
  rw [hy]
  rw [getsB_list (l := yv L) (fun j v hj => ?_), bytes_back L hL]
  unfold yv at hj
  rw [List.getElem?_map] at hj
  cases hh : L[j]? with
  | none => rw [hh] at hj; cases hj
  | some b =>
    rw [hh] at hj
    simp only [Option.map_some, Option.some.injEq] at hj
    rw [← hj]
    exact h j b hh
noncomputable def cF0 : CallF := ndF (callL Tryz.prog)
theorem cF0_both : CallSound Tryz.prog cF0 ∧ HasBody Tryz.prog cF0 := ndF_sound (callL_both namesOkS mixesS)
noncomputable def cF1 : CallF := addF Tryz.prog cF0 69
theorem cF1_both : CallSound Tryz.prog cF1 ∧ HasBody Tryz.prog cF1 := addF_both namesOkS mixesS _ cF0_both
theorem cF0_ne {f : Nat} (h : Nat.beq f 97 = false) (c : Cx) (l : List V) (st : St) : cF0 c f l st = callL Tryz.prog c f l st := ndF_ne _ h c l st
theorem neg_W (b : BitVec 64) {P : Program} {st : St} : unK P st .neg (wd b) = some (wd (-b), st) := by
  have h : unK P st .neg (wd b) = pu P (Op.unary .neg (.int .u64 (b.toNat : Int))) (ret st) := rfl
  rw [h]
  have h2 : pureRun P (Op.unary .neg (.int .u64 (b.toNat : Int))) = some (.int .u64 (IntKind.u64.wrap (-(b.toNat : Int)))) := by
    have e : (-(b.toNat : Int)) = 0 - (b.toNat : Int) := by omega
    rw [e]
    rfl
  unfold pu
  rw [h2]
  have h3 : IntKind.u64.wrap (-(b.toNat : Int)) = ((-b).toNat : Int) := by
    rw [wrapZ, BitVec.toNat_neg]
    have := b.isLt
    omega
  rw [h3]
  show ofV (Value.int .u64 ((-b).toNat : Int)) (ret st) = _
  simp [ofV, fA, ret]
  rfl
set_option maxRecDepth 20000 in
set_option maxHeartbeats 4000000 in
theorem fmtI_any (st : St) (n : Int) (h1 : -9223372036854775808 ≤ n) (h2 : n < 9223372036854775808) (nt : Nat) :
    Gd (cF1 ⟨false, [], 0, nt⟩ 69 [.int .i64 n, .int .i64 10] st) fun r => r.1 = .s (itT n) ∧ Ext st.nx st r.2 := by
  unfold cF1
  rw [Gd_addF Tryz.func69 rfl]
  simp [evOp_call, sets, T.get_set]
  by_cases hs : 0 ≤ n ∧ n < 100
  · obtain ⟨v, rfl⟩ : ∃ v : Nat, n = v := ⟨n.toNat, by omega⟩
    have hv : (v : Int) < 100 := hs.2
    have hv' : v < 100 := by omega
    have e : itT (v : Int) = smN v := by unfold itT; rw [if_pos hs]; rfl
    rw [e]
    simp [evOp_call, sets, T.get_set, hs, hv]
    rw [cF0_ne (by rfl)]
    refine Gd.mono (small_any st v hv' _) ?_
    rintro ⟨r, s1⟩ ⟨k1, k2⟩
    simp only at k1 k2
    subst k1 k2
    simp [evOp_call, sets, T.get_set]
    exact Ext.refl _ _
  · obtain ⟨u, hu⟩ : ∃ u, u = n.natAbs := ⟨_, rfl⟩
    have hu64 : u < 2 ^ 64 := by omega
    obtain ⟨hlt, h20⟩ := ndN_ok hu64
    have e : itT n = if n < 0 then 45 :: dg (ndN u) u else dg (ndN u) u := by unfold itT; rw [if_neg hs, ← hu]
    rw [e]
    obtain ⟨nd, hnd⟩ : ∃ nd, nd = ndN u := ⟨_, rfl⟩
    rw [← hnd] at hlt h20 ⊢
    obtain ⟨b, hb⟩ : ∃ b : BitVec 64, b.toNat = u := ⟨BitVec.ofNat 64 u, by rw [BitVec.toNat_ofNat, Nat.mod_eq_of_lt hu64]⟩
    have w1 : IntKind.i64.wrap (1 + (nd : Int)) = ((nd + 1 : Nat) : Int) := by rw [wrap_i (by omega) (by omega)]; omega
    have h97 : ∀ (c : Cx) (st : St), cF0 c 97 [wd b] st = some (.int .i64 (nd : Int), st) := fun c st => by rw [hnd, ← hb]; exact ndF_nd _ c b st
    by_cases hneg : n < 0
    · have hc : -(BitVec.ofInt 64 n) = b := by
        apply BitVec.eq_of_toNat_eq
        rw [hb, BitVec.toNat_neg, BitVec.toNat_ofInt]
        omega
      have hp : ¬ (0 : Int) ≤ n := by omega
      rw [if_pos hneg]
      simp [evOp_call, sets, T.get_set, hp, hneg, neg_W, hc]
      rw [newC_is]
      generalize sets _ 0 T.lf = T0
      simp [evOp_call, sets, T.get_set, hp, hneg, neg_W, hc, h97, w1, -Int.natCast_add]
      refine Gd_arrMid un149 (fun k => sz5 k) (a := 1) (b := nd + 1) (fun f => bnd_at (k := 1) (i := .i64) (by simp [T.get_set]; try rfl) f) (fun f => bnd_at (k := nd + 1) (i := .i64) (by simp [T.get_set]; try rfl) f) (by omega) (by omega) (by omega) ?_
      simp [evOp_call, sets, T.get_set, hp, hneg, neg_W, hc, h97, w1, -Int.natCast_add]
      rw [cF0_ne (by rfl)]
      refine Gd.mono (fmt10_any _ st.nx 1 nd 23 b 149 24 T0 (by simp) (T.get_set_same _ _ _) (by rfl) (by omega) h20 (by rw [hb]; exact hlt) _) ?_
      rintro ⟨r, s1⟩ ⟨t1, k1, k2, k3, k4, k5⟩
      simp only at k1 k2 k3 k4 k5
      rw [hb] at k4
      have hx1 : Ext st.nx st s1 := ((Ext.refl _ _).new (Nat.le_refl _) _).trans k2
      have hnx1 : s1.nx = st.nx + 1 := k3
      have hgL : ∀ (i b : Nat), (dg nd u)[i]? = some b → t1.get (1 + i) = some (.int .u8 (b : Int)) := fun i b hi => by
        have hlt := (List.getElem?_eq_some_iff.1 hi).1
        rw [dg_len] at hlt
        rw [dg_get hlt] at hi
        injection hi with hi
        rw [← hi]
        exact k4 i hlt
      simp [evOp_call, sets, T.get_set, hp, hneg, w1, putB_eq, k1, roT, -Int.natCast_add]
      refine Gd_arrMid un149 (fun k => sz5 k) (a := 0) (b := nd + 1) (fun f => rfl) (fun f => bnd_at (k := nd + 1) (i := .i64) (by simp [T.get_set]; try rfl) f) (by omega) (by omega) (by omega) ?_
      simp [evOp_call, sets, T.get_set, -Int.natCast_add]
      rw [conv_sl (L := 45 :: dg nd u) (T.get_set_same _ _ _) (fun b hb => ?_) (by rw [List.length_cons, dg_len]) (fun i b hi => ?_)]
      · simp [evOp_call, sets, T.get_set]
        exact hx1.set (Nat.le_refl _) (by omega) _
      · rcases List.mem_cons.1 hb with rfl | hb
        · omega
        · exact dg_ok nd u b hb
      · cases i with
        | zero => simp at hi; subst hi; simp [T.get_set]
        | succ i =>
          simp at hi
          rw [T.get_set_ne _ _ (by omega), Nat.zero_add, Nat.add_comm i 1]
          exact hgL i b hi
    · have hc : BitVec.ofInt 64 n = b := by
        apply BitVec.eq_of_toNat_eq
        rw [hb, BitVec.toNat_ofInt]
        omega
      have hp : (0 : Int) ≤ n := by omega
      have hq : ¬ n < 100 := fun h => hs ⟨hp, h⟩
      rw [if_neg hneg]
      simp [evOp_call, sets, T.get_set, hp, hq, hneg, hc]
      rw [newC_is]
      generalize sets _ 0 T.lf = T0
      simp [evOp_call, sets, T.get_set, hp, hq, hneg, hc, h97, w1, -Int.natCast_add]
      refine Gd_arrMid un149 (fun k => sz5 k) (a := 1) (b := nd + 1) (fun f => bnd_at (k := 1) (i := .i64) (by simp [T.get_set]; try rfl) f) (fun f => bnd_at (k := nd + 1) (i := .i64) (by simp [T.get_set]; try rfl) f) (by omega) (by omega) (by omega) ?_
      simp [evOp_call, sets, T.get_set, hp, hq, hneg, hc, h97, w1, -Int.natCast_add]
      rw [cF0_ne (by rfl)]
      refine Gd.mono (fmt10_any _ st.nx 1 nd 23 b 149 24 T0 (by simp) (T.get_set_same _ _ _) (by rfl) (by omega) h20 (by rw [hb]; exact hlt) _) ?_
      rintro ⟨r, s1⟩ ⟨t1, k1, k2, k3, k4, k5⟩
      simp only at k1 k2 k3 k4 k5
      rw [hb] at k4
      have hx1 : Ext st.nx st s1 := ((Ext.refl _ _).new (Nat.le_refl _) _).trans k2
      have hnx1 : s1.nx = st.nx + 1 := k3
      have hgL : ∀ (i b : Nat), (dg nd u)[i]? = some b → t1.get (1 + i) = some (.int .u8 (b : Int)) := fun i b hi => by
        have hlt := (List.getElem?_eq_some_iff.1 hi).1
        rw [dg_len] at hlt
        rw [dg_get hlt] at hi
        injection hi with hi
        rw [← hi]
        exact k4 i hlt
      simp [evOp_call, sets, T.get_set, hp, hq, hneg, w1, -Int.natCast_add]
      refine Gd_arrMid un149 (fun k => sz5 k) (a := 1) (b := nd + 1) (fun f => bnd_at (k := 1) (i := .i64) (by simp [T.get_set]; try rfl) f) (fun f => bnd_at (k := nd + 1) (i := .i64) (by simp [T.get_set]; try rfl) f) (by omega) (by omega) (by omega) ?_
      simp [evOp_call, sets, T.get_set, -Int.natCast_add]
      rw [conv_sl (L := dg nd u) k1 (dg_ok nd u) (by rw [dg_len]) (fun i b hi => hgL i b hi)]
      simp [evOp_call, sets, T.get_set]
      exact hx1
end Go.Proofs.YtlonobfpogimgaaGreatDoor

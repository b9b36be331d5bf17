/-
  PLAIN: SrI, SrJ, SrK, SrL, SrM, SrN, in one text.
-/
import Derived.Test.YtlonobfpogimgaaLn64
set_option linter.unusedSimpArgs false
set_option linter.unusedVariables false
namespace Go.Proofs.Ytlonobfpogimgaa
open Go.RowKit Ev
def XoAt (s : St) (q : Nat) (x : BitVec 64) : Prop := q < s.nx ∧ ∃ ty t, s.h.get q = some (.cs ty 1 t) ∧ ty ≠ roT ∧ t.get 0 = some (wd x)
/-- only block q has changed -/
structure Only (s : St) (q : Nat) (s' : St) : Prop where
  nx : s'.nx = s.nx
  get : ∀ k, k ≠ q → s'.h.get k = s.h.get k
theorem Only.set (s : St) (q : Nat) (x : B) : Only s q ⟨s.nx, s.h.set q x⟩ := ⟨rfl, fun k hk => T.get_set_ne _ _ fun e => hk e.symm⟩
theorem Only.trans {s1 s2 s3 : St} {q : Nat} (h : Only s1 q s2) (k : Only s2 q s3) : Only s1 q s3 := ⟨k.nx.trans h.nx, fun n hn => (k.get n hn).trans (h.get n hn)⟩
theorem Out.only {st s s' : St} {m n a b q : Nat} {D D' : Nat → El} (h : Out st m n D a b s D') (k : Only s q s') (h1 : st.nx ≤ q) (h2 : q < s.nx) (hm : m < st.nx) : Out st m n D a b s' D' := by
  obtain ⟨r1, ty, t, r2, r3⟩ := h.row
  refine ⟨h.pm, ⟨by rw [k.nx]; exact r1, ty, t, (k.get m (by omega)).trans r2, r3⟩, ⟨by rw [k.nx]; exact h.keep.le, fun p p1 p2 => (k.get p (by omega)).trans (h.keep.get p p1 p2), fun w n hn => ?_⟩⟩
  rw [k.nx] at hn
  rw [k.get n (by omega)]
  exact h.keep.wf w n hn
def xoNextQ (s : St) (q : Nat) (r : V × St) : Prop := ∃ y, r.1 = wd y ∧ Only s q r.2 ∧ XoAt r.2 q y
set_option maxRecDepth 20000 in
set_option maxHeartbeats 4000000 in
theorem xoNext_any (st : St) (q : Nat) (x : BitVec 64) (hx : XoAt st q x) (nt : Nat) :
    Gd (callL Try.prog ⟨false, [], 0, nt⟩ 72 [.p q 0] st) (xoNextQ st q) := by
  rw [Gd_callL Try.func72 rfl]
  obtain ⟨hq, ty, t, hg, hro, h0⟩ := hx
  simp [evOp_call, sets, T.get_set]
  refine ⟨by kernel_rfl, ?_⟩
  simp [evOp_call, sets, T.get_set, loadE_eq, getC_eq, getsB_succ, getsB_zero, hg, h0, hro, putB_eq]
  rw [cxOf_store]
  rotate_left
  · kernel_rfl
  simp [evOp_call, sets, T.get_set, loadE_eq, getC_eq, getsB_succ, getsB_zero, hg, h0, hro, putB_eq, -seqC_n]
  rw [seqC_n]
  simp [evOp_call, sets, T.get_set]
  refine ⟨by kernel_rfl, ?_⟩
  simp [evOp_call, sets, T.get_set, loadE_eq, getC_eq, getsB_succ, getsB_zero, hg, h0, hro, putB_eq]
  rw [cxOf_store]
  rotate_left
  · kernel_rfl
  simp [evOp_call, sets, T.get_set, loadE_eq, getC_eq, getsB_succ, getsB_zero, hg, h0, hro, putB_eq, -seqC_n]
  rw [seqC_n]
  simp [evOp_call, sets, T.get_set]
  refine ⟨by kernel_rfl, ?_⟩
  simp [evOp_call, sets, T.get_set, loadE_eq, getC_eq, getsB_succ, getsB_zero, hg, h0, hro, putB_eq]
  rw [cxOf_store]
  rotate_left
  · kernel_rfl
  simp [evOp_call, sets, T.get_set, loadE_eq, getC_eq, getsB_succ, getsB_zero, hg, h0, hro, putB_eq, -seqC_n]
  rw [seqC_n]
  simp [evOp_call, sets, T.get_set, loadE_eq, getC_eq, getsB_succ, getsB_zero, hg, h0, hro, putB_eq]
  exact ⟨_, rfl, ⟨rfl, fun k hk => by simp [T.get_set, hk]; exact fun e => absurd e.symm hk⟩, hq, ty, _, T.get_set_same _ _ _, hro, T.get_set_same _ _ _⟩
theorem lenW_any (st : St) (b : BitVec 64) (nt : Nat) :
    Gd (callL Try.prog ⟨false, [], 0, nt⟩ 56 [wd b] st) fun r => r.1 = .int .i64 (lenN b.toNat : Int) ∧ r.2 = st := by
  rw [Gd_callL Try.func56 rfl]
  simp [evOp_call, sets, T.get_set]
  refine Gd.mono (len64_any st b _) ?_
  rintro ⟨r, s1⟩ ⟨hr, e1⟩
  simp only at hr e1
  subst hr
  subst e1
  simp [evOp_call, sets, T.get_set]
theorem pow2_any (st : St) (n : Nat) (hn : n < 9223372036854775808) (nt : Nat) :
    Gd (callL Try.prog ⟨false, [], 0, nt⟩ 71 [.int .i64 (n : Int)] st) fun r => r.1 = wd (1#64 <<< lenN n) ∧ r.2 = st := by
  rw [Gd_callL Try.func71 rfl]
  have hnn : (BitVec.ofNat 64 n).toNat = n := by rw [BitVec.toNat_ofNat]; omega
  simp [evOp_call, sets, T.get_set]
  refine Gd.mono (lenW_any st (BitVec.ofNat 64 n) _) ?_
  rintro ⟨r, s1⟩ ⟨hr, e1⟩
  simp only at hr e1
  subst hr
  subst e1
  simp [evOp_call, sets, T.get_set, hnn]
/-- what the random place is below -/
theorem other_lt {n : Nat} (x : BitVec 64) (h1 : 0 < n) (h2 : n < 9223372036854775808) : (x &&& ((1#64 <<< lenN n) - 1#64)).toNat < 2 * n ∧ (x &&& ((1#64 <<< lenN n) - 1#64)).toNat < 9223372036854775808 := by
  have hl : lenN n = n.log2 + 1 := by unfold lenN; rw [if_neg (by omega)]
  have h3 : n.log2 < 63 := (Nat.log2_lt (by omega)).2 h2
  have h4 := Nat.log2_self_le (n := n) (by omega)
  have h5 : 2 ^ (n.log2 + 1) ≤ 2 ^ 63 := Nat.pow_le_pow_right (by omega) (by omega)
  have h6 : (1#64 <<< lenN n).toNat = 2 ^ lenN n := by
    rw [BitVec.toNat_shiftLeft, hl, Nat.shiftLeft_eq]
    show 1 * 2 ^ (n.log2 + 1) % 2 ^ 64 = _
    rw [Nat.one_mul, Nat.mod_eq_of_lt (by omega)]
  have h7 : 0 < 2 ^ lenN n := Nat.pow_pos (by omega)
  have h8 : ((1#64 <<< lenN n) - 1#64).toNat = 2 ^ lenN n - 1 := by
    rw [BitVec.toNat_sub_of_le (by rw [BitVec.le_def, h6]; exact h7), h6]
    rfl
  have h9 : (x &&& ((1#64 <<< lenN n) - 1#64)).toNat ≤ 2 ^ lenN n - 1 := by
    rw [BitVec.toNat_and, h8]
    exact Nat.and_le_right
  have h10 : 2 ^ lenN n = 2 * 2 ^ n.log2 := by rw [hl, Nat.pow_succ, Nat.mul_comm]
  rw [hl] at h9 h10 h7
  constructor <;> rw [hl] <;> omega
end Go.Proofs.Ytlonobfpogimgaa
set_option linter.unusedSimpArgs false
set_option linter.unusedVariables false
namespace Go.Proofs.Ytlonobfpogimgaa
open Go.RowKit Ev
def bpI (st : St) (m n : Nat) (D : Nat → El) (a l u : Nat) (md : BitVec 64) (e : Env) (s : St) : Prop := ∃ (i : Nat) (D1 : Nat → El) (y : BitVec 64), a + u * 2 - 1 ≤ i ∧ i ≤ a + u * 2 + 2 ∧ e.get 0 = some (.sg m 0 n 2) ∧ e.get 1 = some (.int .i64 (a : Int)) ∧ e.get 8 = some (.int .i64 (l : Int)) ∧ e.get 9 = some (.p st.nx 0) ∧ e.get 10 = some (wd md) ∧ e.get 11 = some (.int .i64 (i : Int)) ∧ Out st m n D a (a + l) s D1 ∧ XoAt s st.nx y
def bpM (st : St) (m n : Nat) (D : Nat → El) (a l u i : Nat) (md : BitVec 64) (e : Env) (s : St) : Prop := ∃ (o : Nat) (D1 : Nat → El) (y : BitVec 64), o < l ∧ e.get 0 = some (.sg m 0 n 2) ∧ e.get 1 = some (.int .i64 (a : Int)) ∧ e.get 8 = some (.int .i64 (l : Int)) ∧ e.get 9 = some (.p st.nx 0) ∧ e.get 10 = some (wd md) ∧ e.get 11 = some (.int .i64 (i : Int)) ∧ e.get 12 = some (.int .i64 (o : Int)) ∧ Out st m n D a (a + l) s D1 ∧ XoAt s st.nx y
def bpQ (st : St) (m n : Nat) (D : Nat → El) (a b : Nat) (r : V × St) : Prop := r.1 = .t [] ∧ ∃ D' : Nat → El, Out st m n D a b r.2 D'
set_option maxRecDepth 20000 in
set_option maxHeartbeats 4000000 in
theorem bp_any (F : V) (st : St) (m n : Nat) (D : Nat → El) (hD : RowB st m n D) (a l : Nat) (hb : a + l ≤ n) (hn : n ≤ 1073741824) (nt : Nat) :
    Gd (callL Try.prog ⟨false, [], 0, nt⟩ 61 [.sg m 0 n 2, .int .i64 (a : Int), .int .i64 ((a + l : Nat) : Int), F] st) (bpQ st m n D a (a + l)) := by
  rw [Gd_callL Try.func61 rfl]
  obtain ⟨u, hu⟩ : ∃ u, u = l / 4 := ⟨_, rfl⟩
  have hu4 : u * 4 ≤ l ∧ l < u * 4 + 4 := by omega
  have hq : ∀ {s : St} {t : TypeId} {x y : Operand}, binE Try.prog s .quo t x y (.int .i64 (l : Int)) (.int .i64 4) = some (.int .i64 (u : Int), s) := fun {s t x y} => by
    rw [bin_quo, if_neg (by omega)]
    have e : ((l : Nat) : Int).tdiv 4 = ((l / 4 : Nat) : Int) := rfl
    rw [e, ← hu, wrapI (by omega) (by omega)]
  clear hu
  have w1 : IntKind.i64.wrap (((a + l : Nat) : Int) - (a : Int)) = (l : Int) := by rw [wrapI (by omega) (by omega)]; omega
  have w2 : IntKind.i64.wrap ((u : Int) * 2) = ((u * 2 : Nat) : Int) := by rw [wrapI (by omega) (by omega)]; omega
  have w3 : IntKind.i64.wrap ((a : Int) + ((u * 2 : Nat) : Int)) = ((a + u * 2 : Nat) : Int) := by rw [wrapI (by omega) (by omega)]; omega
  by_cases h8 : 8 ≤ l
  case neg =>
    have h8' : ¬ (8 : Int) ≤ (l : Int) := by omega
    simp [evOp_call, sets, T.get_set, w1, h8', -Int.natCast_add, -Int.natCast_mul]
    exact ⟨rfl, D, Out.refl _ _ hD⟩
  have h8' : (8 : Int) ≤ (l : Int) := by omega
  have w4 : IntKind.i64.wrap (((a + u * 2 : Nat) : Int) - 1) = ((a + u * 2 - 1 : Nat) : Int) := by rw [wrapI (by omega) (by omega)]; omega
  have w5 : IntKind.i64.wrap (((a + u * 2 : Nat) : Int) + 1) = ((a + u * 2 + 1 : Nat) : Int) := by rw [wrapI (by omega) (by omega)]; omega
  have hcv : ∀ (cx : Cx) (s : St), convE Try.prog cx s 3 110 (.int .i64 (l : Int)) = some (wd (BitVec.ofNat 64 l), s) := fun cx s => by
    have h := conv_int (P := Try.prog) (c := cx) (st := s) (src := 3) (dst := 110) (k' := .i64) (by rw [un3]; rfl) un110 (l : Int)
    rw [h]
    unfold wd
    rw [wrapN]
    rfl
  have hrx : ¬ (110 : TypeId) = roT := by decide
  simp [evOp_call, sets, T.get_set, w1, h8', hcv, hrx, newC_is, putB_eq, -bin_quo, -Int.natCast_add, -Int.natCast_mul]
  refine Gd.mono (pow2_any _ l (by omega) _) ?_
  rintro ⟨r, s0⟩ ⟨hr, e1⟩
  simp only at hr e1
  subst hr
  have x0 : Ext st.nx st s0 := by rw [e1]; exact (Ext.refl _ _).new (Nat.le_refl _) _
  have hq0 : XoAt s0 st.nx (BitVec.ofNat 64 l) := by rw [e1]; exact ⟨Nat.lt_succ_self _, _, _, T.get_set_same _ _ _, by decide, by simp [T.get_set]⟩
  clear e1
  obtain ⟨md, hmd⟩ : ∃ md, md = 1#64 <<< lenN l := ⟨_, rfl⟩
  rw [← hmd]
  have hot : ∀ x : BitVec 64, (x &&& (md - 1#64)).toNat < 2 * l ∧ (x &&& (md - 1#64)).toNat < 9223372036854775808 := fun x => by rw [hmd]; exact other_lt x (by omega) (by omega)
  clear hmd
  have hm2 : m < st.nx := hD.1
  simp [evOp_call, sets, T.get_set, w2, w3, w4, hq, -bin_quo, -Int.natCast_add, -Int.natCast_mul]
  refine Gd_loop (bpI st m n D a l u md) (fun e _ => muAt 11 (a + u * 2 + 2) e) ?_ ?_
  · exact ⟨a + u * 2 - 1, D, BitVec.ofNat 64 l, Nat.le_refl _, by omega, by simp [T.get_set], by simp [T.get_set], by simp [T.get_set], by simp [T.get_set], by simp [T.get_set], by simp [T.get_set], (Out.refl _ _ hD).ext x0, hq0⟩
  clear x0 hq0 s0
  rintro e s ⟨i, D1, y, h1, h2, g0, g1, g8, g9, g10, g11, ho, hy⟩
  have g11e := g11
  by_cases hi : i < a + u * 2 + 2
  case neg =>
    have hi' : ¬ (i : Int) ≤ ((a + u * 2 + 1 : Nat) : Int) := by omega
    simp [evOp_call, T.get_set, g0, g1, g8, g9, g10, g11, w2, w3, w5, hq, hi', sets, -bin_quo, -Int.natCast_add, -Int.natCast_mul]
    exact ⟨rfl, D1, ho⟩
  have hi' : (i : Int) ≤ ((a + u * 2 + 1 : Nat) : Int) := by omega
  have wi : IntKind.i64.wrap ((i : Int) + 1) = ((i + 1 : Nat) : Int) := by rw [wrapI (by omega) (by omega)]; omega
  simp [evOp_call, T.get_set, g0, g1, g8, g9, g10, g11, w2, w3, w5, hq, hi', sets, -bin_quo, -Int.natCast_add, -Int.natCast_mul]
  refine Gd.mono (xoNext_any s st.nx y hy _) ?_
  rintro ⟨r, s1⟩ ⟨z, hr, ho1, hz⟩
  simp only at hr ho1 hz
  subst hr
  have hO := ho.only ho1 (Nat.le_refl _) hy.1 hm2
  obtain ⟨k, hk⟩ : ∃ k, k = (z &&& (md - 1#64)).toNat := ⟨_, rfl⟩
  have hkl := hot z
  rw [← hk] at hkl
  have hcz : ∀ cx : Cx, convE Try.prog cx s1 96 3 (wd (z &&& (md - 1#64))) = some (.int .i64 (k : Int), s1) := fun cx => by
    have h := conv_int (P := Try.prog) (c := cx) (st := s1) (src := 96) (dst := 3) (k' := .u64) (by rw [un96]; rfl) un3 (k : Int)
    rw [wrapI (by omega) (by omega)] at h
    unfold wd
    rw [← hk]
    exact h
  simp [evOp_call, T.get_set, g0, g1, g8, g9, g10, g11, hcz, -seqC_n]
  rw [seqC_n]
  refine Gd_seqJ (JE fun e s => bpM st m n D a l u i md e s) ?_ ?_
  · by_cases hkl2 : l ≤ k
    · have hkl' : (l : Int) ≤ (k : Int) := by omega
      have wk : IntKind.i64.wrap ((k : Int) - (l : Int)) = ((k - l : Nat) : Int) := by rw [wrapI (by omega) (by omega)]; omega
      simp [evOp_call, T.get_set, g0, g1, g8, g9, g10, g11, hkl', wk, sets]
      exact ⟨_, _, rfl, k - l, D1, z, by omega, by simp [T.get_set, g0], by simp [T.get_set, g1], by simp [T.get_set, g8], by simp [T.get_set, g9], by simp [T.get_set, g10], by simp [T.get_set, g11], by simp [T.get_set], hO, hz⟩
    · have hkl' : ¬ (l : Int) ≤ (k : Int) := by omega
      simp [evOp_call, T.get_set, g0, g1, g8, g9, g10, g11, hkl', sets]
      exact ⟨_, _, rfl, k, D1, z, by omega, by simp [T.get_set, g0], by simp [T.get_set, g1], by simp [T.get_set, g8], by simp [T.get_set, g9], by simp [T.get_set, g10], by simp [T.get_set, g11], by simp [T.get_set], hO, hz⟩
  clear g0 g1 g8 g9 g10 g11 ho hy hO hz hcz hkl hk ho1 D1 y k z s1
  rintro _ ⟨e, s, rfl, o, D1, y, hol, g0, g1, g8, g9, g10, g11, g12, ho, hy⟩
  have wo : IntKind.i64.wrap ((a : Int) + (o : Int)) = ((a + o : Nat) : Int) := by rw [wrapI (by omega) (by omega)]; omega
  obtain ⟨hm3, ty, t, hg, hro, hc⟩ := id ho.row
  have i0 : i < n := by omega
  have i1 : a + o < n := by omega
  obtain ⟨a1, a2⟩ := hc _ i0
  obtain ⟨b1, b2⟩ := hc _ i1
  have hr1 : i * 2 + 2 ≤ n * 2 := by omega
  have hr2 : (a + o) * 2 + 2 ≤ n * 2 := by omega
  simp [evOp_call, T.get_set, g0, g1, g8, g9, g10, g11, g12, -Int.natCast_add]
  refine ⟨by kernel_rfl, ?_⟩
  simp [evOp_call, T.get_set, g0, g1, g8, g9, g10, g11, g12, wo, wi, loadE_eq, getC_eq, getsB_succ, getsB_zero, hg, a1, a2, b1, b2, i0, i1, storeK_g, putB_eq, hr1, hr2, hro, sets, -Int.natCast_add]
  rw [cxOf_store]
  rotate_left
  · kernel_rfl
  simp [evOp_call, T.get_set, g0, g1, g8, g9, g10, g11, g12, wo, wi, loadE_eq, getC_eq, getsB_succ, getsB_zero, hg, a1, a2, b1, b2, i0, i1, storeK_g, putB_eq, hr1, hr2, hro, sets, -Int.natCast_add]
  rw [cxOf_store]
  rotate_left
  · kernel_rfl
  simp [evOp_call, T.get_set, g0, g1, g8, g9, g10, g11, g12, wo, wi, loadE_eq, getC_eq, getsB_succ, getsB_zero, hg, a1, a2, b1, b2, i0, i1, storeK_g, putB_eq, hr1, hr2, hro, sets, -Int.natCast_add]
  refine ⟨⟨i + 1, _, y, by omega, by omega, by simp [T.get_set, g0], by simp [T.get_set, g1], by simp [T.get_set, g8], by simp [T.get_set, g9], by simp [T.get_set, g10], by simp [T.get_set], ho.swap hg hro hc i0 i1 (by omega) (by omega) (by omega) (by omega), ?_⟩, muAt_lt g11e (by simp [T.get_set]) hi⟩
  obtain ⟨y1, ty1, t1, y2, y3, y4⟩ := hy
  exact ⟨y1, ty1, t1, (T.get_set_ne _ _ (by omega)).trans y2, y3, y4⟩
end Go.Proofs.Ytlonobfpogimgaa
set_option linter.unusedSimpArgs false
set_option linter.unusedVariables false
namespace Go.Proofs.Ytlonobfpogimgaa
open Go.RowKit Ev
def PmD (D : Nat → El) (a b : Nat) (D' : Nat → El) : Prop := ∃ σ, Pm a b σ ∧ ∀ k, D' k = D (σ k)
theorem PmD.out {D D' : Nat → El} {a b k : Nat} (h : PmD D a b D') (hk : k < a ∨ b ≤ k) : D' k = D k := by
  obtain ⟨σ, k1, k2⟩ := h
  rw [k2, k1.out k hk]
theorem PmD.mono {D D' : Nat → El} {a b a' b' : Nat} (h : PmD D a b D') (h1 : a' ≤ a) (h2 : b ≤ b') : PmD D a' b' D' := by
  obtain ⟨σ, k1, k2⟩ := h
  exact ⟨σ, k1.mono h1 h2, k2⟩
theorem PmD.all {D D' : Nat → El} {a b : Nat} (h : PmD D a b D') {p : El → Prop} (hp : ∀ i, a ≤ i → i < b → p (D i)) : ∀ i, a ≤ i → i < b → p (D' i) := fun i h1 h2 => by
  obtain ⟨σ, k1, k2⟩ := h
  rw [k2]
  obtain ⟨k3, k4⟩ := k1.ins h1 h2
  exact hp _ k3 k4
structure PdI (lt : El → El → Prop) (D : Nat → El) (a b x y : Nat) : Prop where
  h1 : a ≤ x
  h2 : x ≤ y
  h3 : y ≤ b
  lo : 0 < x → ∀ i, x ≤ i → i < y → ¬ lt (D i) (D (x - 1))
  out : ∀ p q, a ≤ p → p < q → q < b → (p < x ∨ y ≤ q) → ¬ lt (D q) (D p)
theorem PdI.pm {lt : El → El → Prop} {D D' : Nat → El} {a b x y : Nat} (h : PdI lt D a b x y) (k : PmD D x y D') : PdI lt D' a b x y := by
  obtain ⟨g1, g2, g3, g4, g5⟩ := h
  refine ⟨g1, g2, g3, fun h0 i i1 i2 => ?_, fun p q p1 p2 p3 p4 => ?_⟩
  · rw [k.out (k := x - 1) (by omega)]
    exact k.all (p := fun z => ¬ lt z (D (x - 1))) (g4 h0) i i1 i2
  · obtain ⟨σ, k1, k2⟩ := k
    rw [k2, k2]
    by_cases e1 : x ≤ p ∧ p < y
    · rw [k1.out q (by omega)]
      have := k1.ins e1.1 e1.2
      exact g5 _ q (by omega) (by omega) p3 (by omega)
    · by_cases e2 : x ≤ q ∧ q < y
      · rw [k1.out p (by omega)]
        have := k1.ins e2.1 e2.2
        exact g5 p _ p1 (by omega) (by omega) (by omega)
      · rw [k1.out p (by omega), k1.out q (by omega)]
        exact g5 p q p1 p2 p3 p4
theorem PdI.fin {lt : El → El → Prop} {D : Nat → El} {a b x y : Nat} (h : PdI lt D a b x y) (k : Srt lt D x y) : Srt lt D a b := fun p q p1 p2 p3 => by
  by_cases e : p < x ∨ y ≤ q
  · exact h.out p q p1 p2 p3 e
  · exact k p q (by omega) p2 (by omega)
theorem Parted.pmL {lt : El → El → Prop} {D D' : Nat → El} {x y j : Nat} (h : Parted lt D x y j) (k : PmD D x j D') : Parted lt D' x y j := by
  obtain ⟨g1, g2, g3, g4⟩ := h
  refine ⟨g1, g2, ?_, fun q q1 q2 => ?_⟩
  · rw [k.out (k := j) (by omega)]
    exact k.all (p := fun z => lt z (D j)) g3
  · rw [k.out (k := j) (by omega), k.out (k := q) (by omega)]
    exact g4 q q1 q2
theorem Parted.pmR {lt : El → El → Prop} {D D' : Nat → El} {x y j : Nat} (h : Parted lt D x y j) (k : PmD D (j + 1) y D') : Parted lt D' x y j := by
  obtain ⟨g1, g2, g3, g4⟩ := h
  refine ⟨g1, g2, fun q q1 q2 => ?_, fun q q1 q2 => ?_⟩
  · rw [k.out (k := j) (by omega), k.out (k := q) (by omega)]
    exact g3 q q1 q2
  · rw [k.out (k := j) (by omega)]
    exact k.all (p := fun z => ¬ lt z (D j)) (fun i i1 i2 => g4 i (by omega) i2) q (by omega) q2
theorem PdI.left {lt : El → El → Prop} (ho : Ord lt) {D : Nat → El} {a b x y j : Nat} (h : PdI lt D a b x y) (k : Parted lt D x y j) (hs : Srt lt D x j) : PdI lt D a b (j + 1) y := by
  obtain ⟨g1, g2, g3, g4, g5⟩ := h
  obtain ⟨k1, k2, k3, k4⟩ := k
  refine ⟨by omega, by omega, g3, fun _ i i1 i2 => k4 i (by omega) i2, fun p q p1 p2 p3 p4 => ?_⟩
  by_cases e : p < x ∨ y ≤ q
  · exact g5 p q p1 p2 p3 e
  · have hp : p ≤ j := by omega
    by_cases e1 : q < j
    · exact hs p q (by omega) p2 e1
    · by_cases e2 : p = j
      · subst e2; exact k4 q (by omega) (by omega)
      · have hl := k3 p (by omega) (by omega)
        by_cases e3 : q = j
        · subst e3; exact ho.asym _ _ hl
        · exact ho.tr _ _ _ (ho.asym _ _ hl) (k4 q (by omega) (by omega))
theorem PdI.right {lt : El → El → Prop} (ho : Ord lt) {D : Nat → El} {a b x y j : Nat} (h : PdI lt D a b x y) (k : Parted lt D x y j) (hs : Srt lt D (j + 1) y) : PdI lt D a b x j := by
  obtain ⟨g1, g2, g3, g4, g5⟩ := h
  obtain ⟨k1, k2, k3, k4⟩ := k
  refine ⟨by omega, by omega, by omega, fun h0 i i1 i2 => g4 h0 i i1 (by omega), fun p q p1 p2 p3 p4 => ?_⟩
  by_cases e : p < x ∨ y ≤ q
  · exact g5 p q p1 p2 p3 e
  · by_cases e1 : j < p
    · exact hs p q (by omega) p2 (by omega)
    · by_cases e2 : p = j
      · subst e2; exact k4 q (by omega) (by omega)
      · have hl := k3 p (by omega) (by omega)
        by_cases e3 : q = j
        · subst e3; exact ho.asym _ _ hl
        · exact ho.tr _ _ _ (ho.asym _ _ hl) (k4 q (by omega) (by omega))
/-- all that is not greater than what lies ahead is in its place -/
theorem PdI.eq {lt : El → El → Prop} (ho : Ord lt) {D : Nat → El} {a b x y j : Nat} (h : PdI lt D a b x y) (h0 : 0 < x) (hx : ¬ lt (D (x - 1)) (D x)) (j1 : x < j) (j2 : j ≤ y) (k3 : ∀ p, x ≤ p → p < j → ¬ lt (D x) (D p)) (k4 : ∀ q, j ≤ q → q < y → lt (D x) (D q)) : PdI lt D a b j y := by
  obtain ⟨g1, g2, g3, g4, g5⟩ := h
  have low : ∀ p q, x ≤ p → p < j → x ≤ q → q < y → ¬ lt (D q) (D p) := fun p q p1 p2 q1 q2 =>
    ho.tr _ _ _ (ho.tr _ _ _ (k3 p p1 p2) hx) (g4 h0 q q1 q2)
  refine ⟨by omega, j2, g3, fun _ i i1 i2 => low (j - 1) i (by omega) (by omega) (by omega) i2, fun p q p1 p2 p3 p4 => ?_⟩
  by_cases e : p < x ∨ y ≤ q
  · exact g5 p q p1 p2 p3 e
  · exact low p q (by omega) (by omega) (by omega) (by omega)
end Go.Proofs.Ytlonobfpogimgaa
set_option linter.unusedSimpArgs false
set_option linter.unusedVariables false
namespace Go.Proofs.Ytlonobfpogimgaa
open Go.RowKit Ev
/-- a join: what goes on, or what leaves -/
def JO (x : X) (P R : Env → St → Prop) (r : X × Env × St) : Prop := (∃ (e : Env) (s : St), r = (.n, e, s) ∧ P e s) ∨ ∃ (e : Env) (s : St), r = (x, e, s) ∧ R e s
def pdG (m n x y k : Nat) (F : V) (c1 c2 : Bool) (e : Env) : Prop := k ≤ 64 ∧ e.get 0 = some (.sg m 0 n 2) ∧ e.get 1 = some (.int .i64 (x : Int)) ∧ e.get 2 = some (.int .i64 (y : Int)) ∧ e.get 3 = some (.int .i64 (k : Int)) ∧ e.get 4 = some F ∧ e.get 10 = some (.bool c1) ∧ e.get 11 = some (.bool c2)
/-- at the loop's head -/
def pdL (lt : El → El → Prop) (st : St) (m n : Nat) (D : Nat → El) (a b : Nat) (F : V) (e : Env) (s : St) : Prop := ∃ (x y k : Nat) (c1 c2 : Bool) (D1 : Nat → El), pdG m n x y k F c1 c2 e ∧ Out st m n D a b s D1 ∧ PdI lt D1 a b x y
/-- ahead of the pivot -/
def pdA (lt : El → El → Prop) (st : St) (m n : Nat) (D : Nat → El) (a b x y : Nat) (F : V) (e : Env) (s : St) : Prop := ∃ (k : Nat) (c1 c2 : Bool) (D1 : Nat → El), pdG m n x y k F c1 c2 e ∧ e.get 12 = some (.int .i64 ((y - x : Nat) : Int)) ∧ Out st m n D a b s D1 ∧ PdI lt D1 a b x y
/-- behind it -/
def pdB (lt : El → El → Prop) (st : St) (m n : Nat) (D : Nat → El) (a b x y : Nat) (F : V) (e : Env) (s : St) : Prop := ∃ (k p : Nat) (h : Int) (c1 c2 : Bool) (D1 : Nat → El), pdG m n x y k F c1 c2 e ∧ e.get 12 = some (.int .i64 ((y - x : Nat) : Int)) ∧ e.get 13 = some (.int .i64 (p : Int)) ∧ e.get 14 = some (.int .i64 h) ∧ x ≤ p ∧ p < y ∧ Out st m n D a b s D1 ∧ PdI lt D1 a b x y
def pdR (lt : El → El → Prop) (st : St) (m n : Nat) (D : Nat → El) (a b : Nat) (e : Env) (s : St) : Prop := ∃ D' : Nat → El, Out st m n D a b s D' ∧ Srt lt D' a b
def pdX (lt : El → El → Prop) (st : St) (m n : Nat) (D : Nat → El) (a b M : Nat) (F : V) (e : Env) (s : St) : Prop := pdL lt st m n D a b F e s ∧ jAt 2 e - jAt 1 e < M
def pdQ (lt : El → El → Prop) (st : St) (m n : Nat) (D : Nat → El) (a b : Nat) (r : V × St) : Prop := r.1 = .t [] ∧ ∃ D' : Nat → El, Out st m n D a b r.2 D' ∧ Srt lt D' a b
set_option maxRecDepth 20000 in
set_option maxHeartbeats 8000000 in
theorem pdq_any {lt : El → El → Prop} {F : V} (hF : CmpF F lt) : ∀ (L : Nat) (st : St) (m n : Nat) (D : Nat → El) (hD : RowB st m n D) (a b k : Nat) (hL : b - a < L) (hab : a ≤ b) (hb : b ≤ n) (hn : n ≤ 1000000000) (hk64 : k ≤ 64) (hlo : 0 < a → ∀ i, a ≤ i → i < b → ¬ lt (D i) (D (a - 1))) (nt : Nat),
    Gd (callL Try.prog ⟨false, [], 0, nt⟩ 55 [.sg m 0 n 2, .int .i64 (a : Int), .int .i64 (b : Int), .int .i64 (k : Int), F] st) (pdQ lt st m n D a b) := by
  intro L
  induction L with
  | zero => intro st m n D hD a b k hL; omega
  | succ L ih =>
  intro st m n D hD a b k hL hab hb hn hk64 hlo nt
  rw [Gd_callL Try.func55 rfl]
  simp [evOp_call, sets, T.get_set]
  refine Gd_loop (pdL lt st m n D a b F) (fun e _ => jAt 2 e - jAt 1 e) ?_ ?_
  · exact ⟨a, b, k, true, true, D, ⟨hk64, by simp [T.get_set], by simp [T.get_set], by simp [T.get_set], by simp [T.get_set], by simp [T.get_set], by simp [T.get_set], by simp [T.get_set]⟩, Out.refl _ _ hD, ⟨Nat.le_refl _, hab, Nat.le_refl _, hlo, fun p q p1 p2 p3 p4 => by omega⟩⟩
  clear hlo hk64 k
  rintro e s ⟨x, y, k, c1, c2, D1, ⟨hk64, g0, g1, g2, g3, g4, g10, g11⟩, ho, hi⟩
  have g1e := g1
  have g2e := g2
  have hi1 := hi.h1
  have hi2 := hi.h2
  have hi3 := hi.h3
  have hnn : n ≤ 1073741824 := by omega
  have w0 : IntKind.i64.wrap ((y : Int) - (x : Int)) = ((y - x : Nat) : Int) := by rw [wrapI (by omega) (by omega)]; omega
  by_cases h12 : y - x ≤ 12
  · have h12' : ((y - x : Nat) : Int) ≤ 12 := by omega
    simp [evOp_call, T.get_set, g0, g1, g2, g3, g4, g10, g11, w0, h12', sets]
    refine Gd.mono (ins_any hF s m n D1 ho.row x y hi2 (by omega) hnn _) ?_
    rintro ⟨r, s1⟩ ⟨hr, D2, ho2, hs2⟩
    simp only at hr ho2
    subst hr
    simp [evOp_call, T.get_set, sets]
    exact ⟨rfl, D2, ho.trans (ho2.mono hi1 hi3), (hi.pm ho2.pm).fin hs2⟩
  have h12' : ¬ ((y - x : Nat) : Int) ≤ 12 := by omega
  by_cases hk : k = 0
  · subst hk
    simp [evOp_call, T.get_set, g0, g1, g2, g3, g4, g10, g11, w0, h12', sets]
    refine Gd.mono (heap_any hF s m n D1 ho.row x y (by omega) (by omega) hn _) ?_
    rintro ⟨r, s1⟩ ⟨hr, D2, ho2, hs2⟩
    simp only at hr ho2
    subst hr
    simp [evOp_call, T.get_set, sets]
    exact ⟨rfl, D2, ho.trans (ho2.mono hi1 hi3), (hi.pm ho2.pm).fin hs2⟩
  have hk' : ¬ (k : Int) = 0 := by omega
  rw [Gd_block]
  simp [evOp_call, T.get_set, g0, g1, g2, g3, g4, g10, g11, w0, h12', hk, hk', sets, -seqC_n]
  rw [seqC_n]
  simp [evOp_call, T.get_set, g0, g1, g2, g3, g4, g10, g11, w0, h12', hk, hk', sets, -seqC_n]
  rw [seqC_n]
  simp [evOp_call, T.get_set, g0, g1, g2, g3, g4, g10, g11, w0, h12', hk, hk', sets, -seqC_n]
  rw [seqC_n]
  simp [evOp_call, T.get_set, g0, g1, g2, g3, g4, g10, g11, w0, h12', hk, hk', sets, -seqC_n]
  rw [seqC_n]
  simp [evOp_call, T.get_set, g0, g1, g2, g3, g4, g10, g11, w0, h12', hk, hk', sets, -seqC_n]
  rw [seqC_n]
  refine Gd_seqJ (JE fun e s => pdA lt st m n D a b x y F e s) ?_ ?_
  · cases c1 with
    | true =>
      simp [evOp_call, T.get_set, g0, g1, g2, g3, g4, g10, g11, sets]
      exact ⟨_, _, rfl, k, true, c2, D1, ⟨by omega, by simp [T.get_set, g0], by simp [T.get_set, g1], by simp [T.get_set, g2], by simp [T.get_set, g3], by simp [T.get_set, g4], by simp [T.get_set, g10], by simp [T.get_set, g11]⟩, by simp [T.get_set], ho, hi⟩
    | false =>
      simp [evOp_call, T.get_set, g0, g1, g2, g3, g4, g10, g11, sets]
      obtain ⟨l, rfl⟩ : ∃ l, y = x + l := ⟨y - x, by omega⟩
      refine Gd.mono (bp_any F s m n D1 ho.row x l (by omega) hnn _) ?_
      rintro ⟨r, s1⟩ ⟨hr, D2, ho2⟩
      simp only at hr ho2
      subst hr
      have wk : IntKind.i64.wrap ((k : Int) - 1) = ((k - 1 : Nat) : Int) := by rw [wrapI (by omega) (by omega)]; omega
      simp [evOp_call, T.get_set, g0, g1, g2, g3, g4, g10, g11, wk, sets, -Int.natCast_add]
      exact ⟨_, _, rfl, k - 1, false, c2, D2, ⟨by omega, by simp [T.get_set, g0], by simp [T.get_set, g1], by simp [T.get_set, g2], by simp [T.get_set], by simp [T.get_set, g4], by simp [T.get_set, g10], by simp [T.get_set, g11]⟩, by simp [T.get_set], ho.trans (ho2.mono hi1 hi3), hi.pm ho2.pm⟩
  clear hk64 g0 g1 g2 g3 g4 g10 g11 ho hi hk hk' D1 c1 c2 k
  rintro _ ⟨e1, s, rfl, k, c1, c2, D1, ⟨hk64, g0, g1, g2, g3, g4, g10, g11⟩, g12, ho, hi⟩
  rw [seqC_n]
  simp [evOp_call, T.get_set, g0, g1, g2, g3, g4, g10, g11, sets]
  refine Gd.mono (pivot_any hF s m n D1 ho.row hnn x y (by omega) (by omega) _) ?_
  rintro ⟨r, s1⟩ ⟨p, h, hr, hp1, hp2, x1⟩
  simp only at hr x1
  subst hr
  have ho1 := ho.ext x1
  simp [evOp_call, T.get_set, g0, g1, g2, g3, g4, g10, g11, sets, -seqC_n]
  rw [seqC_n]
  refine Gd_seqJ (JE fun e s => pdB lt st m n D a b x y F e s) ?_ ?_
  · by_cases hh : h = 2
    · subst hh
      simp [evOp_call, T.get_set, g0, g1, g2, g3, g4, g10, g11, sets]
      refine Gd.mono (rev_any F s1 m n D1 ho1.row x y (by omega) (by omega) hnn _) ?_
      rintro ⟨r, s2⟩ ⟨hr, D2, ho2⟩
      simp only at hr ho2
      subst hr
      have w1 : IntKind.i64.wrap ((y : Int) - 1) = ((y - 1 : Nat) : Int) := by rw [wrapI (by omega) (by omega)]; omega
      have w2 : IntKind.i64.wrap ((p : Int) - (x : Int)) = ((p - x : Nat) : Int) := by rw [wrapI (by omega) (by omega)]; omega
      have w3 : IntKind.i64.wrap (((y - 1 : Nat) : Int) - ((p - x : Nat) : Int)) = ((y - 1 - (p - x) : Nat) : Int) := by rw [wrapI (by omega) (by omega)]; omega
      simp [evOp_call, T.get_set, g0, g1, g2, g3, g4, g10, g11, w1, w2, w3, sets]
      exact ⟨_, _, rfl, k, y - 1 - (p - x), 1, c1, c2, D2, ⟨by omega, by simp [T.get_set, g0], by simp [T.get_set, g1], by simp [T.get_set, g2], by simp [T.get_set, g3], by simp [T.get_set, g4], by simp [T.get_set, g10], by simp [T.get_set, g11]⟩, by simp [T.get_set, g12], by simp [T.get_set], by simp [T.get_set], by omega, by omega, ho1.trans (ho2.mono hi1 hi3), hi.pm ho2.pm⟩
    · have hh' : ¬ (h : Int) = 2 := by omega
      simp [evOp_call, T.get_set, g0, g1, g2, g3, g4, g10, g11, sets, hh, hh']
      exact ⟨_, _, rfl, k, p, h, c1, c2, D1, ⟨by omega, by simp [T.get_set, g0], by simp [T.get_set, g1], by simp [T.get_set, g2], by simp [T.get_set, g3], by simp [T.get_set, g4], by simp [T.get_set, g10], by simp [T.get_set, g11]⟩, by simp [T.get_set, g12], by simp [T.get_set], by simp [T.get_set], hp1, hp2, ho1, hi⟩
  clear hk64 g0 g1 g2 g3 g4 g10 g11 g12 ho hi ho1 x1 hp1 hp2 D1 c1 c2 k p h s1
  rintro _ ⟨e2, s, rfl, k, p, h, c1, c2, D1, ⟨hk64, g0, g1, g2, g3, g4, g10, g11⟩, g12, g13, g14, hp1, hp2, ho, hi⟩
  rw [seqC_n]
  refine Gd_seqJ (JO .ret (fun e s => pdB lt st m n D a b x y F e s) fun e s => pdR lt st m n D a b e s) ?_ ?_
  · by_cases hc : c1 = true ∧ c2 = true ∧ h = 1
    · obtain ⟨rfl, rfl, rfl⟩ := hc
      simp [evOp_call, T.get_set, g0, g1, g2, g3, g4, g10, g11, g12, g13, g14, sets]
      refine Gd.mono (pins_any hF s m n D1 ho.row x y (by omega) (by omega) hnn hi.lo _) ?_
      rintro ⟨r, s1⟩ ⟨c, D2, hr, ho2, hs2⟩
      simp only at hr ho2
      subst hr
      cases c with
      | true =>
        simp [evOp_call, T.get_set, sets]
        exact .inr ⟨_, _, rfl, D2, ho.trans (ho2.mono hi1 hi3), (hi.pm ho2.pm).fin (hs2 rfl)⟩
      | false =>
        simp [evOp_call, T.get_set, sets]
        exact .inl ⟨_, _, rfl, k, p, 1, true, true, D2, ⟨by omega, by simp [T.get_set, g0], by simp [T.get_set, g1], by simp [T.get_set, g2], by simp [T.get_set, g3], by simp [T.get_set, g4], by simp [T.get_set, g10], by simp [T.get_set, g11]⟩, by simp [T.get_set, g12], by simp [T.get_set, g13], by simp [T.get_set, g14], hp1, hp2, ho.trans (ho2.mono hi1 hi3), hi.pm ho2.pm⟩
    · cases c1 with
      | false =>
        simp [evOp_call, T.get_set, g0, g1, g2, g3, g4, g10, g11, g12, g13, g14, sets]
        exact .inl ⟨_, _, rfl, k, p, h, false, c2, D1, ⟨by omega, by simp [T.get_set, g0], by simp [T.get_set, g1], by simp [T.get_set, g2], by simp [T.get_set, g3], by simp [T.get_set, g4], by simp [T.get_set, g10], by simp [T.get_set, g11]⟩, by simp [T.get_set, g12], by simp [T.get_set, g13], by simp [T.get_set, g14], hp1, hp2, ho, hi⟩
      | true =>
        cases c2 with
        | false =>
          simp [evOp_call, T.get_set, g0, g1, g2, g3, g4, g10, g11, g12, g13, g14, sets]
          exact .inl ⟨_, _, rfl, k, p, h, true, false, D1, ⟨by omega, by simp [T.get_set, g0], by simp [T.get_set, g1], by simp [T.get_set, g2], by simp [T.get_set, g3], by simp [T.get_set, g4], by simp [T.get_set, g10], by simp [T.get_set, g11]⟩, by simp [T.get_set, g12], by simp [T.get_set, g13], by simp [T.get_set, g14], hp1, hp2, ho, hi⟩
        | true =>
          have hh : ¬ h = 1 := fun q => hc ⟨rfl, rfl, q⟩
          simp [evOp_call, T.get_set, g0, g1, g2, g3, g4, g10, g11, g12, g13, g14, hh, sets]
          exact .inl ⟨_, _, rfl, k, p, h, true, true, D1, ⟨by omega, by simp [T.get_set, g0], by simp [T.get_set, g1], by simp [T.get_set, g2], by simp [T.get_set, g3], by simp [T.get_set, g4], by simp [T.get_set, g10], by simp [T.get_set, g11]⟩, by simp [T.get_set, g12], by simp [T.get_set, g13], by simp [T.get_set, g14], hp1, hp2, ho, hi⟩
  clear hk64 g0 g1 g2 g3 g4 g10 g11 g12 g13 g14 ho hi hp1 hp2 D1 c1 c2 k p h
  rintro _ (⟨e2, s, rfl, k, p, h, c1, c2, D1, ⟨hk64, g0, g1, g2, g3, g4, g10, g11⟩, g12, g13, g14, hp1, hp2, ho, hi⟩ | ⟨e2, s, rfl, D2, ho, hs⟩)
  case inr =>
    simp [sets]
    exact ⟨rfl, D2, ho, hs⟩
  rw [seqC_n]
  refine Gd_seqJ (JO (.ex 1) (fun e s => pdB lt st m n D a b x y F e s) fun e s => pdX lt st m n D a b (y - x) F e s) ?_ ?_
  · by_cases hx : 0 < x
    case neg =>
      have hx' : ¬ (0 : Int) < (x : Int) := by omega
      obtain rfl : x = 0 := by omega
      simp [evOp_call, T.get_set, g0, g1, g2, g3, g4, g10, g11, g12, g13, g14, sets]
      refine ⟨by kernel_rfl, ?_⟩
      exact .inl ⟨_, _, rfl, k, p, h, c1, c2, D1, ⟨by omega, by simp [T.get_set, g0], by simp [T.get_set, g1], by simp [T.get_set, g2], by simp [T.get_set, g3], by simp [T.get_set, g4], by simp [T.get_set, g10], by simp [T.get_set, g11]⟩, by simp [T.get_set, g12], by simp [T.get_set, g13], by simp [T.get_set, g14], hp1, hp2, ho, hi⟩
    have hx' : (0 : Int) < (x : Int) := by omega
    have wx : IntKind.i64.wrap ((x : Int) - 1) = ((x - 1 : Nat) : Int) := by rw [wrapI (by omega) (by omega)]; omega
    obtain ⟨hm2, ty, t, hg, hro, hcc⟩ := id ho.row
    have i0 : x - 1 < n := by omega
    have i1 : p < n := by omega
    obtain ⟨a1, a2⟩ := hcc _ i0
    obtain ⟨b1, b2⟩ := hcc _ i1
    simp [evOp_call, T.get_set, g0, g1, g2, g3, g4, g10, g11, g12, g13, g14, hx, hx', sets]
    refine ⟨by kernel_rfl, ?_⟩
    simp [evOp_call, T.get_set, g0, g1, g2, g3, g4, g10, g11, g12, g13, g14, hx, hx', wx, loadE_eq, getC_eq, getsB_succ, getsB_zero, hg, a1, a2, b1, b2, i0, i1, evOp_callV]
    rw [cxOf_call (by kernel_rfl) (by kernel_rfl), forb_nil]
    refine Gd.mono (hF.run s (D1 (x - 1)) (D1 p) _) ?_
    rintro ⟨r, s3⟩ ⟨kk, hr, hiff, e3⟩
    simp only at hr hiff e3
    subst hr
    have ho3 := ho.ext e3
    by_cases hl : lt (D1 (x - 1)) (D1 p)
    case pos =>
      have hcm : kk < 0 := hiff.2 hl
      simp [evOp_call, T.get_set, g0, g1, g2, g3, g4, g10, g11, g12, g13, g14, hcm, sets]
      exact .inl ⟨_, _, rfl, k, p, h, c1, c2, D1, ⟨by omega, by simp [T.get_set, g0], by simp [T.get_set, g1], by simp [T.get_set, g2], by simp [T.get_set, g3], by simp [T.get_set, g4], by simp [T.get_set, g10], by simp [T.get_set, g11]⟩, by simp [T.get_set, g12], by simp [T.get_set, g13], by simp [T.get_set, g14], hp1, hp2, ho3, hi⟩
    have hcm : ¬ kk < 0 := fun h => hl (hiff.1 h)
    simp [evOp_call, T.get_set, g0, g1, g2, g3, g4, g10, g11, g12, g13, g14, hcm, sets]
    refine Gd.mono (pareq_any hF s3 m n D1 ho3.row x y p hp1 hp2 (by omega) hnn _) ?_
    rintro ⟨r, s4⟩ ⟨mid, D2, hr, ho4, hpv, hm3, hm4, k3, k4⟩
    simp only at hr ho4
    subst hr
    have hgo := (hi.pm ho4.pm).eq hF.ord hx (by rw [hpv, ho4.out (k := x - 1) (.inl (by omega))]; exact hl) hm3 hm4 k3 k4
    simp [evOp_call, T.get_set, g0, g1, g2, g3, g4, g10, g11, g12, g13, g14, sets]
    refine .inr ⟨_, _, rfl, ⟨mid, y, k, c1, c2, D2, ⟨by omega, by simp [T.get_set, g0], by simp [T.get_set], by simp [T.get_set, g2], by simp [T.get_set, g3], by simp [T.get_set, g4], by simp [T.get_set, g10], by simp [T.get_set, g11]⟩, ho3.trans (ho4.mono hi1 hi3), hgo⟩, ?_⟩
    rw [jAt_eq (k := (y : Int)) (i := .i64) (by simp [T.get_set, g2]), jAt_eq (k := (mid : Int)) (i := .i64) (by simp [T.get_set])]
    omega
  clear hk64 g0 g1 g2 g3 g4 g10 g11 g12 g13 g14 ho hi hp1 hp2 D1 c1 c2 k p h
  rintro _ (⟨e2, s, rfl, k, p, h, c1, c2, D1, ⟨hk64, g0, g1, g2, g3, g4, g10, g11⟩, g12, g13, g14, hp1, hp2, ho, hi⟩ | ⟨e2, s, rfl, hX, hM⟩)
  case inr =>
    simp [sets]
    refine ⟨hX, ?_⟩
    rw [jAt_eq g2e, jAt_eq g1e]
    omega
  rw [seqC_n]
  simp [evOp_call, T.get_set, g0, g1, g2, g3, g4, g10, g11, g12, g13, g14, sets]
  refine Gd.mono (part_any hF s m n D1 ho.row x y p hp1 hp2 (by omega) hnn _) ?_
  rintro ⟨r, s1⟩ ⟨j, c, D2, hr, ho2, hP⟩
  simp only at hr ho2
  subst hr
  have hP1 := hP.h1
  have hP2 := hP.h2
  have hi2' := hi.pm ho2.pm
  have hO2 := ho.trans (ho2.mono hi1 hi3)
  have wl : IntKind.i64.wrap ((j : Int) - (x : Int)) = ((j - x : Nat) : Int) := by rw [wrapI (by omega) (by omega)]; omega
  have wr : IntKind.i64.wrap ((y : Int) - (j : Int)) = ((y - j : Nat) : Int) := by rw [wrapI (by omega) (by omega)]; omega
  have wj : IntKind.i64.wrap ((j : Int) + 1) = ((j + 1 : Nat) : Int) := by rw [wrapI (by omega) (by omega)]; omega
  obtain ⟨v, hv⟩ : ∃ v : Int, v = (((y - x) / 8 : Nat) : Int) := ⟨_, rfl⟩
  have hq : ∀ {s : St} {t : TypeId} {x1 y1 : Operand}, binE Try.prog s .quo t x1 y1 (.int .i64 ((y - x : Nat) : Int)) (.int .i64 8) = some (.int .i64 v, s) := fun {s t x1 y1} => by
    rw [bin_quo, if_neg (by omega)]
    have e : ((y - x : Nat) : Int).tdiv 8 = (((y - x) / 8 : Nat) : Int) := rfl
    rw [e, wrapI (by omega) (by omega), ← hv]
  clear hv
  by_cases hlt : j - x < y - j
  · have hlt' : ((j - x : Nat) : Int) < ((y - j : Nat) : Int) := by omega
    simp [evOp_call, T.get_set, g0, g1, g2, g3, g4, g10, g11, g12, wl, wr, hq, hlt, hlt', sets, -bin_quo]
    refine Gd.mono (ih s1 m n D2 ho2.row x j k (by omega) (by omega) (by omega) hn hk64 (fun h0 i i1 i2 => hi2'.lo h0 i i1 (by omega)) _) ?_
    rintro ⟨r, s2⟩ ⟨hr, D3, ho3, hs3⟩
    simp only at hr ho3
    subst hr
    have hk3 := (hi2'.pm (PmD.mono ho3.pm (Nat.le_refl _) (by omega))).left hF.ord (hP.pmL ho3.pm) hs3
    simp [evOp_call, T.get_set, g0, g1, g2, g3, g4, g10, g11, wj, sets, -Int.natCast_add]
    refine ⟨⟨j + 1, y, k, decide (v ≤ ((j - x : Nat) : Int)), c, D3, ⟨by omega, by simp [T.get_set, g0], by simp [T.get_set], by simp [T.get_set, g2], by simp [T.get_set, g3], by simp [T.get_set, g4], by simp [T.get_set], by simp [T.get_set]⟩, hO2.trans (ho3.mono hi1 (by omega)), hk3⟩, ?_⟩
    rw [jAt_eq g2e, jAt_eq g1e, jAt_eq (k := (y : Int)) (i := .i64) (by simp [T.get_set, g2]), jAt_eq (k := ((j + 1 : Nat) : Int)) (i := .i64) (by simp [T.get_set])]
    omega
  · have hlt' : ¬ ((j - x : Nat) : Int) < ((y - j : Nat) : Int) := by omega
    simp [evOp_call, T.get_set, g0, g1, g2, g3, g4, g10, g11, g12, wl, wr, wj, hq, hlt, hlt', sets, -bin_quo, -Int.natCast_add]
    refine Gd.mono (ih s1 m n D2 ho2.row (j + 1) y k (by omega) (by omega) (by omega) hn hk64 (fun h0 i i1 i2 => hP.hi i (by omega) i2) _) ?_
    rintro ⟨r, s2⟩ ⟨hr, D3, ho3, hs3⟩
    simp only at hr ho3
    subst hr
    have hk3 := (hi2'.pm (PmD.mono ho3.pm (by omega) (Nat.le_refl _))).right hF.ord (hP.pmR ho3.pm) hs3
    simp [evOp_call, T.get_set, g0, g1, g2, g3, g4, g10, g11, wj, sets, -Int.natCast_add]
    refine ⟨⟨x, j, k, decide (v ≤ ((y - j : Nat) : Int)), c, D3, ⟨by omega, by simp [T.get_set, g0], by simp [T.get_set, g1], by simp [T.get_set], by simp [T.get_set, g3], by simp [T.get_set, g4], by simp [T.get_set], by simp [T.get_set]⟩, hO2.trans (ho3.mono (by omega) hi3), hk3⟩, ?_⟩
    rw [jAt_eq g2e, jAt_eq g1e, jAt_eq (k := (j : Int)) (i := .i64) (by simp [T.get_set]), jAt_eq (k := (x : Int)) (i := .i64) (by simp [T.get_set, g1])]
    omega
end Go.Proofs.Ytlonobfpogimgaa
set_option linter.unusedSimpArgs false
set_option linter.unusedVariables false
namespace Go.Proofs.Ytlonobfpogimgaa
open Go.RowKit Ev
theorem lenN_64 (b : BitVec 64) : lenN b.toNat ≤ 64 := by
  unfold lenN
  by_cases h : b.toNat = 0
  · rw [if_pos h]; omega
  · rw [if_neg h]
    have := (Nat.log2_lt h).2 b.isLt
    omega
set_option maxRecDepth 20000 in
set_option maxHeartbeats 4000000 in
theorem sort_any {lt : El → El → Prop} {F : V} (hF : CmpF F lt) (st : St) (m n : Nat) (D : Nat → El) (hD : RowB st m n D) (hn : n ≤ 1000000000) (nt : Nat) :
    Gd (callL Try.prog ⟨false, [], 0, nt⟩ 49 [.sg m 0 n 2, F] st) (pdQ lt st m n D 0 n) := by
  rw [Gd_callL Try.func49 rfl]
  have hls : lenS st (.sg m 0 n 2) = some (.int .i64 (n : Int), st) := rfl
  simp [evOp_call, sets, T.get_set, hls]
  refine Gd.mono (lenW_any st (BitVec.ofNat 64 n) _) ?_
  rintro ⟨r, s1⟩ ⟨hr, e1⟩
  simp only at hr e1
  subst hr
  subst e1
  simp [evOp_call, sets, T.get_set]
  refine Gd.mono (pdq_any hF (n + 1) s1 m n D hD 0 n (lenN (BitVec.ofNat 64 n).toNat) (by omega) (by omega) (Nat.le_refl _) hn (lenN_64 _) (fun h => absurd h (by omega)) _) ?_
  rintro ⟨r, s2⟩ ⟨hr, D2, ho, hs⟩
  simp only at hr ho
  subst hr
  simp [evOp_call, sets, T.get_set]
  exact ⟨rfl, D2, ho, hs⟩
end Go.Proofs.Ytlonobfpogimgaa
set_option linter.unusedSimpArgs false
set_option linter.unusedVariables false
namespace Go.Proofs.Ytlonobfpogimgaa
open Go.RowKit Ev
def stNI (x F : V) (b : Nat) (Q : St → Prop) (e : Env) (s : St) : Prop := e.get 0 = some x ∧ e.get 1 = some (.int .i64 (b : Int)) ∧ e.get 2 = some F ∧ e.get 6 = some (.int .i64 20) ∧ e.get 7 = some (.int .i64 0) ∧ e.get 8 = some (.int .i64 20) ∧ Q s
def stNQ (lt : El → El → Prop) (st : St) (m n : Nat) (D : Nat → El) (a b : Nat) (s : St) : Prop := ∃ D' : Nat → El, Out st m n D a b s D' ∧ Srt lt D' a b
set_option maxRecDepth 20000 in
set_option maxHeartbeats 4000000 in
theorem stableN_any {lt : El → El → Prop} {F : V} (hF : CmpF F lt) (st : St) (m n : Nat) (D : Nat → El) (hD : RowB st m n D) (hn : n < 20) (nt : Nat) :
    Gd (callL Try.prog ⟨false, [], 0, nt⟩ 52 [.sg m 0 n 2, .int .i64 (n : Int), F] st) (pdQ lt st m n D 0 n) := by
  rw [Gd_callL Try.func52 rfl]
  have h1 : ¬ (20 : Int) ≤ n := by omega
  have h2 : ¬ (20 : Int) < n := by omega
  simp [evOp_call, sets, T.get_set]
  refine Gd_loop (stNI (.sg m 0 n 2) F n (fun s => s = st)) (fun e _ => 0) ?_ ?_
  · exact ⟨by simp [T.get_set], by simp [T.get_set], by simp [T.get_set], by simp [T.get_set], by simp [T.get_set], by simp [T.get_set], rfl⟩
  rintro e s ⟨g0, g1, g2, g6, g7, g8, hs⟩
  subst hs
  simp [evOp_call, T.get_set, g0, g1, g2, g6, g7, g8, h1]
  refine Gd.mono (ins_any hF s m n D hD 0 n (by omega) (Nat.le_refl _) (by omega) _) ?_
  rintro ⟨r, s1⟩ ⟨hr, D2, ho, hso⟩
  simp only at hr ho
  subst hr
  simp [evOp_call, T.get_set, g0, g1, g2, g6, g7, g8]
  refine Gd_loop (stNI (.sg m 0 n 2) F n (stNQ lt s m n D 0 n)) (fun e _ => 0) ?_ ?_
  · exact ⟨by simp [T.get_set, g0], by simp [T.get_set, g1], by simp [T.get_set, g2], by simp [T.get_set, g6], by simp [T.get_set, g7], by simp [T.get_set, g8], D2, ho, hso⟩
  rintro e s2 ⟨g0, g1, g2, g6, g7, g8, D3, ho3, hs3⟩
  simp [evOp_call, T.get_set, g0, g1, g2, g6, g7, g8, h2, sets]
  exact ⟨rfl, D3, ho3, hs3⟩
set_option maxRecDepth 20000 in
set_option maxHeartbeats 4000000 in
theorem sortSN_any {lt : El → El → Prop} {F : V} (hF : CmpF F lt) (st : St) (m n : Nat) (D : Nat → El) (hD : RowB st m n D) (hn : n < 20) (nt : Nat) :
    Gd (callL Try.prog ⟨false, [], 0, nt⟩ 44 [.sg m 0 n 2, F] st) (pdQ lt st m n D 0 n) := by
  rw [Gd_callL Try.func44 rfl]
  have hls : lenS st (.sg m 0 n 2) = some (.int .i64 (n : Int), st) := rfl
  simp [evOp_call, sets, T.get_set, hls]
  refine Gd.mono (stableN_any hF st m n D hD hn _) ?_
  rintro ⟨r, s2⟩ ⟨hr, D2, ho, hs⟩
  simp only at hr ho
  subst hr
  simp [evOp_call, sets, T.get_set]
  exact ⟨rfl, D2, ho, hs⟩
end Go.Proofs.Ytlonobfpogimgaa

/-
  Contracts of package book: what is kept, what is cleared.
-/
import Derived.Test.YtdoennkmcloalaaBkP
import Derived.Test.YtdoennkmcloalaaSpBE
set_option linter.unusedSimpArgs false
namespace Go.Proofs.Ytdoennkmcloalaa
open Go.RowKit Ev
/-- a book as a value -/
def bkV (q : Nat) (f n c : Int) : V := .g [.p q 0, .int .i64 f, .int .i64 n, .int .i64 c]
theorem bwords_any (st : St) (q : Nat) (f n c : Int) (hn : 1 ≤ n ∧ n ≤ 1024) (nt : Nat) :
    Gd (callL Try.prog ⟨false, [], 0, nt⟩ 161 [bkV q f n c] st) fun r => r.1 = .int .i64 (n * 8 - 8) ∧ Ext st.nx st r.2 := by
  rw [Gd_callL Try.func161 rfl]
  have w1 : IntKind.i64.wrap (n * 8) = n * 8 := wrap_in (by omega) (by omega)
  have w2 : IntKind.i64.wrap (n * 8 - 8) = n * 8 - 8 := wrap_in (by omega) (by omega)
  simp [bkV, evOp_call, sets, T.get_set, newC_is, cellsOf, loadE_eq, getC_eq, w1, w2]
  exact (Ext.refl _ _).new (Nat.le_refl _) _
theorem bld_book (x y : Operand) (a b c d : V) (hd : d.one = true) (zs : List V) (hzs : zs.length = 4) (st : St) : bldK Try.prog 122 [(0, x), (1, y)] [.g [a, b, c], d] zs st = some (.g [a, b, c, d], st) := by
  rw [bldK_ok so122, partsK_cells rfl (fun k => rfl) rfl (by simp [hzs]), partsK_one rfl hd (by simp [hzs])]
  match zs, hzs with
  | [z0, z1, z2, z3], _ => rfl
theorem bnewB_any (st : St) (q : Nat) (f n c : Int) (nt : Nat) :
    Gd (callL Try.prog ⟨false, [], 0, nt⟩ 159 [spV q f n, .int .i64 c] st) fun r => r.1 = bkV q f n c ∧ Ext st.nx st r.2 := by
  rw [Gd_callL Try.func159 rfl]
  simp [bkV, spV, evOp_call, sets, T.get_set, newC_is, cellsOf, loadE_eq, getC_eq, getsB_succ, getsB_zero]
  rw [bld_book _ _ _ _ _ _ rfl _ rfl]
  simp [evOp_call, sets, T.get_set, newC_is, cellsOf, loadE_eq, getC_eq, getsB_succ, getsB_zero, putB_eq, storeK_g, roT]
  exact ((Ext.refl _ _).new (Nat.le_refl _) _).new (Nat.le_succ _) _
theorem putR_nil {num : BitVec 64} {K : List (Int × BitVec 64)} : (putR num K).length = 0 ↔ ¬ fitsR num K := by
  constructor
  · intro h hf
    have := putR_length hf
    omega
  · intro h; unfold putR; rw [if_neg h]; rfl
theorem nm_from {b k : Nat} {y : V} (h : RowFrom b y) (hk : Nm y k) : b ≤ k := by
  rcases hk with ⟨o, l, q, e⟩ | ⟨o, l, q, e⟩
  · first | exact h.1 _ _ _ _ e | exact h.2 _ _ _ _ e
  · first | exact h.1 _ _ _ _ e | exact h.2 _ _ _ _ e
set_option maxRecDepth 20000 in
set_option maxHeartbeats 8000000 in
theorem bkeep_any (st : St) (q : Nat) (v : MV) (h : MemAt st q v) (N i0 : Nat) (hsz : szB (absV v) N i0) (hN : N ≤ 1024) (f n c : Int) (hn : 1 ≤ n ∧ n ≤ 1024) (num : BitVec 64) (y : V) (K : List (Int × BitVec 64)) (hy : RdRow st y 2 K.length (iw K)) (hK : K.length ≤ 1000000) (hi0 : i0 + (putR num K).length + 1 < 1000) (nt : Nat) :
    Gd (callL Try.prog ⟨false, [], 0, nt⟩ 86 [bkV q f n c, .g [wd num, y]] st) fun r => r.1 = .int .i64 (keepA (absV v) f n num K).2 ∧ ∃ v', MStep q v v' st r.2 ∧ absV v' = (keepA (absV v) f n num K).1 := by
  have hone := hy.one
  rw [Gd_callL Try.func86 rfl]
  obtain ⟨hRv, hFv, hOv⟩ := hsz.v
  have hsp : V.g [V.p q 0, V.int .i64 f, V.int .i64 n] = spV q f n := rfl
  have hbk : V.g [V.p q 0, V.int .i64 f, V.int .i64 n, V.int .i64 c] = bkV q f n c := rfl
  have he2 : ∀ a b, Ext st.nx st ⟨st.nx + 1 + 1, (st.h.set st.nx a).set (st.nx + 1) b⟩ := fun a b => ((Ext.refl _ _).new (Nat.le_refl _) a).new (Nat.le_succ _) b
  simp [bkV, evOp_call, sets, T.get_set, newC_is, cellsOf, loadE_eq, getC_eq, getsB_succ, getsB_zero]
  refine Gd.mono (put_any _ num y K (hy.ext (he2 _ _)) hK _) ?_
  rintro ⟨z, s1⟩ ⟨hz, hzf, e1⟩
  simp only at hz hzf e1
  have hl1 : st.nx + 1 + 1 ≤ s1.nx := e1.le
  have x1 : Ext st.nx st s1 := (he2 _ _).trans (e1.mono (by omega))
  have kb1 : s1.h.get st.nx = some (.cs 122 4 ((((T.lf.set 0 (.p q 0)).set 1 (.int .i64 f)).set 2 (.int .i64 n)).set 3 (.int .i64 c))) := by
    rw [e1.keep st.nx (by show st.nx < st.nx + 1 + 1; omega)]
    simp [T.get_set]
  have kr1 : s1.h.get (st.nx + 1) = _ := (e1.keep (st.nx + 1) (by show st.nx + 1 < st.nx + 1 + 1; omega)).trans (T.get_set_same _ _ _)
  unfold keepA
  by_cases c0 : (putR num K).length = 0
  · simp [evOp_call, sets, T.get_set, hz.lenS, c0]
    exact ⟨v, MStep.ofExt h x1, rfl⟩
  simp [evOp_call, sets, T.get_set, hz.lenS, c0, loadE_eq, getC_eq, getsB_succ, getsB_zero, kb1]
  rw [hbk]
  refine Gd.mono (bwords_any s1 q f n c hn _) ?_
  rintro ⟨r, s2⟩ ⟨hr, e2⟩
  simp only at hr e2
  subst hr
  have x2 := x1.trans (e2.mono x1.le)
  have kb2 := (e2.keep st.nx (by omega)).trans kb1
  have kr2 := (e2.keep (st.nx + 1) (by omega)).trans kr1
  by_cases c1 : n * 8 - 8 < ((putR num K).length : Int)
  · simp [evOp_call, sets, T.get_set, c0, c1]
    exact ⟨v, MStep.ofExt h x2, rfl⟩
  simp [evOp_call, sets, T.get_set, c0, c1, loadE_eq, getC_eq, getsB_succ, getsB_zero, kb2]
  rw [hsp]
  refine Gd.mono (sword_any s2 q v (h.ext x2) (by omega) f n 0 _) ?_
  rintro ⟨r, s3⟩ ⟨hr, e3⟩
  simp only at hr e3
  subst hr
  have x3 := x2.trans (e3.mono x2.le)
  have kb3 := (e3.keep st.nx (by have := x2.le; have := e2.le; omega)).trans kb2
  have kr3 := (e3.keep (st.nx + 1) (by have := e2.le; omega)).trans kr2
  have hz3 := (hz.ext e2).ext e3
  by_cases c2 : (absV v).swordE f n 0 = 0
  case neg =>
    simp [evOp_call, sets, T.get_set, c2, tupK]
    exact ⟨v, MStep.ofExt h x3, rfl⟩
  by_cases c3 : (absV v).sword f n 0 = 0#64
  case neg =>
    simp [evOp_call, sets, T.get_set, c2, c3, tupK]
    exact ⟨v, MStep.ofExt h x3, rfl⟩
  simp [evOp_call, sets, T.get_set, c2, c3, tupK, loadE_eq, getC_eq, getsB_succ, getsB_zero, kb3]
  rw [hsp]
  have hm3 := MStep.ofExt h x3
  refine Gd.mono (spush_any s3 q v hm3.at' N i0 hsz hN f n 8 z _ hz3 (fun k hk e => by have := nm_from hzf hk; have := h.own_lt e; omega) (by omega) _) ?_
  rintro ⟨r, s4⟩ ⟨hr, v4, hs4, ha4⟩
  simp only at hr hs4
  subst hr
  have hm4 := hm3.trans hs4
  have hnx3 : st.nx + 1 + 1 ≤ s3.nx := by have := e2.le; have := e3.le; omega
  have kb4 := (hs4.kept.keep st.nx (by omega) (fun e => by have := h.own_lt e; omega)).trans kb3
  have kr4 := (hs4.kept.keep (st.nx + 1) (by omega) (fun e => by have := h.own_lt e; omega)).trans kr3
  by_cases c4 : (pushA (absV v) f n 8 (putR num K)).2 = 0
  case neg =>
    simp [evOp_call, sets, T.get_set, c4]
    exact ⟨v4, hm4, ha4⟩
  simp [evOp_call, sets, T.get_set, c4, loadE_eq, getC_eq, getsB_succ, getsB_zero, kb4, kr4]
  rw [hsp]
  refine Gd_buildW (vs := [wd num]) (fun k => el23 k) (fun k => ze24 k) rfl (by simp [T.get_set]) (by simp) rfl rfl (by omega) ?_
  have hx5 := fun b => (Ext.refl s4.nx s4).new (Nat.le_refl _) b
  simp [evOp_call, sets, T.get_set]
  have hsz4 : szB (absV v4) N (i0 + (putR num K).length) := by rw [ha4]; exact hsz.push f n 8 _
  have hrow : RdRow ⟨s4.nx + 1, s4.h.set s4.nx (.cs 24 1 (sets [wd num] 0 .lf))⟩ (.sl s4.nx 0 1 1) 1 1 (wv [num]) := (AppRow.built (b := 0) (el := 24) (st := s4) (n := 1) (vs := [wd num]) (Nat.zero_le _) (by decide) rfl).rd
  refine Gd.mono (spush_any _ q v4 (hs4.at'.ext (hx5 _)) N (i0 + (putR num K).length) hsz4 hN f n 0 _ [num] hrow (fun k hk e => ?_) (by simp; omega) _) ?_
  · have := hs4.at'.own_lt e
    rcases hk with ⟨o, l, w, e⟩ | ⟨o, l, w, e⟩ <;> first | (cases e; done) | (injection e with e; omega)
  rintro ⟨r, s5⟩ ⟨hr, v5, hs5, ha5⟩
  simp only at hr hs5
  subst hr
  simp [evOp_call, sets, T.get_set, ha4]
  exact ⟨v5, (hm4.trans (MStep.ofExt hs4.at' (hx5 _))).trans hs5, by rw [ha5, ha4]⟩
set_option maxRecDepth 20000 in
set_option maxHeartbeats 4000000 in
theorem bclear_any (st : St) (q : Nat) (v : MV) (h : MemAt st q v) (N i0 : Nat) (hsz : szB (absV v) N i0) (hN : N ≤ 1024) (f n c : Int) (hi0 : i0 + 1 < 1000) (nt : Nat) :
    Gd (callL Try.prog ⟨false, [], 0, nt⟩ 88 [bkV q f n c] st) fun r => r.1 = .int .i64 (clearA (absV v) f n).2 ∧ ∃ v', MStep q v v' st r.2 ∧ absV v' = (clearA (absV v) f n).1 := by
  rw [Gd_callL Try.func88 rfl]
  have hsp : V.g [V.p q 0, V.int .i64 f, V.int .i64 n] = spV q f n := rfl
  have hx1 := fun b => (Ext.refl st.nx st).new (Nat.le_refl _) b
  simp [bkV, evOp_call, sets, T.get_set, newC_is, cellsOf, loadE_eq, getC_eq, getsB_succ, getsB_zero]
  rw [hsp]
  refine Gd_buildW (vs := [wd 0#64]) (fun k => el23 k) (fun k => ze24 k) rfl (by simp [T.get_set, wd_0]) (by simp) rfl rfl (by omega) ?_
  simp [evOp_call, sets, T.get_set]
  have hx2 := fun a b => (hx1 a).new (Nat.le_succ _) b
  have hrow : ∀ s4 : St, RdRow ⟨s4.nx + 1, s4.h.set s4.nx (.cs 24 1 (sets [wd 0#64] 0 .lf))⟩ (.sl s4.nx 0 1 1) 1 1 (wv [0#64]) := fun s4 => (AppRow.built (b := 0) (el := 24) (st := s4) (n := 1) (vs := [wd 0#64]) (Nat.zero_le _) (by decide) rfl).rd
  refine Gd.mono (spush_any _ q v (h.ext (hx2 _ _)) N i0 hsz hN f n 0 _ [0#64] (hrow _) (fun k hk e => ?_) (by simp; omega) _) ?_
  · have := h.own_lt e
    rcases hk with ⟨o, l, w, e⟩ | ⟨o, l, w, e⟩ <;> first | (cases e; done) | (injection e with e; subst e; exact absurd this (by show ¬ st.nx + 1 < st.nx; omega))
  rintro ⟨r, s5⟩ ⟨hr, v5, hs5, ha5⟩
  simp only at hr hs5
  subst hr
  simp [evOp_call, sets, T.get_set]
  exact ⟨rfl, v5, (MStep.ofExt h (hx2 _ _)).trans hs5, ha5⟩
end Go.Proofs.Ytdoennkmcloalaa

/-
  PLAIN: PoP, PoR, PoS, PoT, PoU, PoV, PoW, in one text.
-/
import Derived.Test.YtlonobfpogimgaaPoAQ
import Derived.Test.YtlonobfpogimgaaIn
import Derived.Test.YtlonobfpogimgaaPlBG
import Derived.Test.YtlonobfpogimgaaEx
import Derived.Test.YtlonobfpogimgaaDrw
set_option linter.unusedSimpArgs false
set_option linter.unusedVariables false
namespace Go.Proofs.Ytlonobfpogimgaa
open Go.RowKit Ev
def lnG (q e : Nat) (n k : Int) (en : Env) : Prop := en.get 2 = some (.int .i64 (e : Int)) ∧ en.get 3 = some (.int .i64 n) ∧ en.get 4 = some (.int .i64 k) ∧ en.get 5 = some (.p q 0)
def lnI (s0 : St) (q : Nat) (L : List (BitVec 64)) (f e : Nat) (n k : Int) (RK : List Int) (en : Env) (s : St) : Prop := ∃ (i : Nat) (y : V) (R : List Int) (w : Int), f ≤ i ∧ i ≤ e + 1 ∧ lnG q e n k en ∧ en.get 12 = some y ∧ en.get 13 = some (.int .i64 w) ∧ en.get 14 = some (.int .i64 (i : Int)) ∧ rowsG L e (e + 1 - i) i (R, w) = (RK, 0) ∧ 0 ≤ w ∧ w ≤ i ∧ R.length ≤ i ∧ Ext s0.nx s0 s ∧ OwnRow s0.nx s y 1 R.length (iv R)
/-- the rows are all there -/
def lnP (s0 : St) (e : Nat) (n k : Int) (q : Nat) (RK : List Int) (en : Env) (s : St) : Prop := ∃ y : V, lnG q e n k en ∧ en.get 12 = some y ∧ Ext s0.nx s0 s ∧ OwnRow s0.nx s y 1 RK.length (iv RK)
def lnK (s0 : St) (q e : Nat) (k : Int) (S : List Int) (ans : Option Nat) (en : Env) (s : St) : Prop := ∃ (j z : Nat) (n : Int) (y : V) (R : List Int), lnG q e n k en ∧ en.get 12 = some y ∧ en.get 15 = some (.int .i64 (j : Int)) ∧ j ≤ S.length ∧ n ≤ 9223372036854775807 ∧ -9223372036854775808 ≤ n ∧ (n ≤ 0 → ans = some 0) ∧ (0 < n → ans = grF (S.drop j) n j k) ∧ R.Perm (S.drop j ++ List.replicate z 0) ∧ R.length = S.length ∧ Ext s0.nx s0 s ∧ OwnRow s0.nx s y 1 R.length (iv R)
def lnB (q e j : Nat) (n k : Int) (y : V) (R : List Int) (s : St) (en : Env) (s' : St) : Prop := ∃ (i : Nat) (b : Int), i ≤ R.length ∧ lnG q e n k en ∧ en.get 12 = some y ∧ en.get 15 = some (.int .i64 (j : Int)) ∧ en.get 16 = some (.int .i64 b) ∧ en.get 17 = some (.int .i64 (i : Int)) ∧ s' = s ∧ ((b = -1 ∧ i = 0) ∨ ∃ c : Nat, b = (c : Int) ∧ c < i ∧ ∀ p, p < i → R.getD p 0 ≤ R.getD c 0)
def lnE (q e j : Nat) (n k : Int) (y : V) (R : List Int) (s : St) (en : Env) (s' : St) : Prop := ∃ b : Int, lnG q e n k en ∧ en.get 12 = some y ∧ en.get 15 = some (.int .i64 (j : Int)) ∧ en.get 16 = some (.int .i64 b) ∧ s' = s ∧ ((b = -1 ∧ R.length = 0) ∨ ∃ c : Nat, b = (c : Int) ∧ c < R.length ∧ ∀ p, p < R.length → R.getD p 0 ≤ R.getD c 0)
set_option maxRecDepth 20000 in
set_option maxHeartbeats 8000000 in
theorem long_any (st : St) (x : V) (L : List (BitVec 64)) (hx : RdRow st x 1 L.length (wv L)) (hL : L.length ≤ 100000) (f e : Nat) (hfe : f ≤ e) (he2 : e ≤ 100000) (he3 : e ≤ L.length * 64) (K : List Rn) (hK : gapsP L e K f) (hKl : K.length ≤ 100000) (S : List Int) (hSp : (K.map fun r => r.2).Perm S) (hSs : S.Pairwise fun a b => b ≤ a) (hS1 : ∀ t ∈ S, 1 ≤ t ∧ t ≤ 100000) (n k : Int) (hn : 0 ≤ n ∧ n ≤ 9223372036854775807) (hk : 1 ≤ k ∧ k ≤ 9223372036854775807) (nt : Nat) :
    Gd (callL Try.prog ⟨false, [], 0, nt⟩ 10 [.g [x], .int .i64 (f : Int), .int .i64 (e : Int), .int .i64 n, .int .i64 k] st) fun r => r.1 = grV (if n ≤ 0 then some 0 else grF S n 0 k) ∧ Ext st.nx st r.2 := by
  rw [Gd_callL Try.func10 rfl]
  have hone := hx.one
  have hrg := rows_gaps he3 K f [] hfe hK
  obtain ⟨RK, hRK⟩ : ∃ RK, RK = K.map (fun r => r.2) := ⟨_, rfl⟩
  rw [← hRK, List.nil_append] at hrg
  simp [evOp_call, sets, T.get_set, newC_is, cellsOf, storeK_g, putB_eq, -seqC_n]
  rw [seqC_n]
  simp [evOp_call, sets, T.get_set, -seqC_n]
  rw [seqC_n]
  simp [evOp_call, sets, T.get_set, -seqC_n]
  rw [seqC_n]
  obtain ⟨s0, hs0⟩ : ∃ s0 : St, s0 = ⟨st.nx + 1, st.h.set st.nx (.cs 33 1 (T.lf.set 0 x))⟩ := ⟨_, rfl⟩
  have x0 : Ext st.nx st s0 := by rw [hs0]; exact (Ext.refl _ _).new (Nat.le_refl _) _
  have hbox : ∃ t, s0.h.get st.nx = some (.cs 33 1 t) ∧ t.get 0 = some x := by rw [hs0]; exact ⟨_, T.get_set_same _ _ _, by simp [T.get_set]⟩
  have hx0 := hx.ext x0
  have hnx0 : st.nx < s0.nx := by rw [hs0]; exact Nat.lt_succ_self _
  rw [← hs0]
  clear hs0
  refine Gd_seqJ (JE fun e1 s => lnP s0 e n k st.nx RK e1 s) ?_ ?_
  · simp [evOp_call, sets, T.get_set]
    refine Gd_loop (lnI s0 st.nx L f e n k RK) (fun en _ => muAt 14 (e + 1) en) ?_ ?_
    · exact ⟨f, _, [], 0, Nat.le_refl _, by omega, ⟨by simp [T.get_set], by simp [T.get_set], by simp [T.get_set], by simp [T.get_set]⟩, by simp [T.get_set], by simp [T.get_set], by simp [T.get_set], hrg, Int.le_refl _, by omega, by simp, Ext.refl _ _, OwnRow.nil _ _ _⟩
    rintro en s ⟨i, y, R, w, h1, h2, ⟨g2, g3, g4, g5⟩, g12, g13, g14, hrw, hw0, hw1, hRl, hs, hy⟩
    by_cases hie : i ≤ e
    case neg =>
      obtain rfl : i = e + 1 := by omega
      have hie' : ¬ ((e + 1 : Nat) : Int) ≤ (e : Int) := by omega
      rw [Nat.sub_self] at hrw
      have hR : R = RK := congrArg Prod.fst hrw
      subst hR
      simp [evOp_call, T.get_set, g2, g3, g4, g5, g12, g13, g14, hie', -Int.natCast_add]
      exact ⟨_, _, rfl, y, ⟨by simp [T.get_set, g2], by simp [T.get_set, g3], by simp [T.get_set, g4], by simp [T.get_set, g5]⟩, by simp [T.get_set, g12], hs, hy⟩
    have hie' : (i : Int) ≤ (e : Int) := by omega
    have hwi := wrap_nat (n := i) (by omega)
    have hstep : rowsG L e (e + 1 - (i + 1)) (i + 1) (rowS L e (R, w) i) = (RK, 0) := by
      rw [show e + 1 - i = (e + 1 - (i + 1)) + 1 by omega] at hrw
      exact hrw
    have hb0 := hs.le
    by_cases hi : i < e
    · have hi' : (i : Int) < (e : Int) := by omega
      obtain ⟨tb, kb, kb0⟩ := hbox
      have kbs := (hs.keep st.nx hnx0).trans kb
      simp [evOp_call, T.get_set, g2, g3, g4, g5, g12, g13, g14, hie', hi', loadE_eq, getC_eq, getsB_succ, getsB_zero, kbs, kb0]
      refine Gd.mono (bhas_any s x L (hx0.ext hs) (i : Int) (by omega) _) ?_
      rintro ⟨r, s2⟩ ⟨hr, x2⟩
      simp only at hr x2
      subst hr
      have hhas : hasI L (i : Int) = bit L i := by simp [hasI]
      rw [hhas]
      have hs2 : Ext s0.nx s0 s2 := hs.trans (x2.mono hb0)
      have hy2 := hy.ext x2
      cases hbt : bit L i with
      | false =>
        have hws : rowS L e (R, w) i = (R, w + 1) := by unfold rowS; rw [if_pos ⟨hi, hbt⟩]
        rw [hws] at hstep
        have ww : IntKind.i64.wrap (w + 1) = w + 1 := wrapI (by omega) (by omega)
        simp [evOp_call, T.get_set, g2, g3, g4, g5, g12, g13, g14, ww, hwi]
        exact ⟨⟨i + 1, y, R, w + 1, by omega, by omega, ⟨by simp [T.get_set, g2], by simp [T.get_set, g3], by simp [T.get_set, g4], by simp [T.get_set, g5]⟩, by simp [T.get_set, g12], by simp [T.get_set], by simp [T.get_set], hstep, by omega, by omega, by omega, hs2, hy2⟩, muAt_lt (n := e + 1) g14 (by simp [T.get_set]) (by omega)⟩
      | true =>
        have nsp : ¬ (i < e ∧ bit L i = false) := by rw [hbt]; simp
        by_cases hw : 0 < w
        · have hws : rowS L e (R, w) i = (R ++ [w], 0) := by unfold rowS; rw [if_neg nsp, if_pos hw]
          rw [hws] at hstep
          simp [evOp_call, T.get_set, g2, g3, g4, g5, g12, g13, g14, hie', hi', hw]
          refine evOp_build1 (v := .int .i64 w) (cs := [.int .i64 w]) (fun k => el76 k) (fun k => ze3 k) rfl (by omega) (by simp [T.get_set]) (fun k => rfl) rfl ?_
          simp [evOp_call, T.get_set, g2, g3, g4, g5, g12, g13, g14]
          refine Gd_append un76 un76 io3 (n := R.length) (lx := 1) (new := [.int .i64 w]) (hy2.ext ((Ext.refl _ _).new (Nat.le_refl _) _)) (by show s0.nx ≤ s2.nx + 1; have := hs2.le; omega) (by decide) (fun s' h => by cases h) (fun k => rfl) (fun k => by simp [getC_eq, getsB_1, T.get_set, sets]) rfl (by omega) ?_
          intro y3 s3 hy3 x3 _ _
          have hs3 : Ext s0.nx s0 s3 := (hs2.new hs2.le _).trans x3
          simp [evOp_call, T.get_set, g2, g3, g4, g5, g12, g13, g14, hwi]
          refine ⟨⟨i + 1, y3, R ++ [w], 0, by omega, by omega, ⟨by simp [T.get_set, g2], by simp [T.get_set, g3], by simp [T.get_set, g4], by simp [T.get_set, g5]⟩, by simp [T.get_set], by simp [T.get_set], by simp [T.get_set], hstep, by omega, by omega, by simp; omega, hs3, ?_⟩, muAt_lt (n := e + 1) g14 (by simp [T.get_set]) (by omega)⟩
          rw [iv_app, List.length_append]
          exact hy3
        · have hws : rowS L e (R, w) i = (R, 0) := by unfold rowS; rw [if_neg nsp, if_neg hw]
          rw [hws] at hstep
          simp [evOp_call, T.get_set, g2, g3, g4, g5, g12, g13, g14, hie', hi', hw, hwi]
          exact ⟨⟨i + 1, y, R, 0, by omega, by omega, ⟨by simp [T.get_set, g2], by simp [T.get_set, g3], by simp [T.get_set, g4], by simp [T.get_set, g5]⟩, by simp [T.get_set, g12], by simp [T.get_set], by simp [T.get_set], hstep, by omega, by omega, by omega, hs2, hy2⟩, muAt_lt (n := e + 1) g14 (by simp [T.get_set]) (by omega)⟩
    · have hi' : ¬ (i : Int) < (e : Int) := by omega
      have x2 : Ext s.nx s s := Ext.refl _ _
      have hs2 := hs
      have hy2 := hy
      have nsp : ¬ (i < e ∧ bit L i = false) := fun h => hi h.1
      by_cases hw : 0 < w
      · have hws : rowS L e (R, w) i = (R ++ [w], 0) := by unfold rowS; rw [if_neg nsp, if_pos hw]
        rw [hws] at hstep
        simp [evOp_call, T.get_set, g2, g3, g4, g5, g12, g13, g14, hie', hi', hw]
        refine evOp_build1 (v := .int .i64 w) (cs := [.int .i64 w]) (fun k => el76 k) (fun k => ze3 k) rfl (by omega) (by simp [T.get_set]) (fun k => rfl) rfl ?_
        simp [evOp_call, T.get_set, g2, g3, g4, g5, g12, g13, g14]
        refine Gd_append un76 un76 io3 (n := R.length) (lx := 1) (new := [.int .i64 w]) (hy2.ext ((Ext.refl _ _).new (Nat.le_refl _) _)) (by show s0.nx ≤ s.nx + 1; have := hs2.le; omega) (by decide) (fun s' h => by cases h) (fun k => rfl) (fun k => by simp [getC_eq, getsB_1, T.get_set, sets]) rfl (by omega) ?_
        intro y3 s3 hy3 x3 _ _
        have hs3 : Ext s0.nx s0 s3 := (hs2.new hs2.le _).trans x3
        simp [evOp_call, T.get_set, g2, g3, g4, g5, g12, g13, g14, hwi]
        refine ⟨⟨i + 1, y3, R ++ [w], 0, by omega, by omega, ⟨by simp [T.get_set, g2], by simp [T.get_set, g3], by simp [T.get_set, g4], by simp [T.get_set, g5]⟩, by simp [T.get_set], by simp [T.get_set], by simp [T.get_set], hstep, by omega, by omega, by simp; omega, hs3, ?_⟩, muAt_lt (n := e + 1) g14 (by simp [T.get_set]) (by omega)⟩
        rw [iv_app, List.length_append]
        exact hy3
      · have hws : rowS L e (R, w) i = (R, 0) := by unfold rowS; rw [if_neg nsp, if_neg hw]
        rw [hws] at hstep
        simp [evOp_call, T.get_set, g2, g3, g4, g5, g12, g13, g14, hie', hi', hw, hwi]
        exact ⟨⟨i + 1, y, R, 0, by omega, by omega, ⟨by simp [T.get_set, g2], by simp [T.get_set, g3], by simp [T.get_set, g4], by simp [T.get_set, g5]⟩, by simp [T.get_set, g12], by simp [T.get_set], by simp [T.get_set], hstep, by omega, by omega, by omega, hs2, hy2⟩, muAt_lt (n := e + 1) g14 (by simp [T.get_set]) (by omega)⟩
  rintro _ ⟨e1, s, rfl, y, ⟨g2, g3, g4, g5⟩, g12, hs, hy⟩
  rw [seqC_n]
  rw [← hRK] at hSp
  have hlS := hSp.length_eq
  obtain ⟨ans, hans⟩ : ∃ ans, ans = if n ≤ 0 then some 0 else grF S n 0 k := ⟨_, rfl⟩
  rw [← hans]
  simp [evOp_call, sets, T.get_set]
  refine Gd_loop (lnK s0 st.nx e k S ans) (fun en _ => muAt 15 (S.length + 1) en) ?_ ?_
  · exact ⟨0, 0, n, y, RK, ⟨by simp [T.get_set, g2], by simp [T.get_set, g3], by simp [T.get_set, g4], by simp [T.get_set, g5]⟩, by simp [T.get_set, g12], by simp [T.get_set], Nat.zero_le _, hn.2, by omega, fun h => by rw [hans, if_pos h], fun h => by rw [hans, if_neg (by omega)]; rfl, by simpa using hSp, hlS, hs, hy⟩
  have hSl : S.length ≤ 100000 := by rw [← hlS, hRK]; simpa using hKl
  clear hans g2 g3 g4 g5 g12 hs hy hn hSp hlS n y
  rintro en s ⟨j, z, n, y, R, ⟨g2, g3, g4, g5⟩, g12, g15, hj, hn1, hn2, ha0, ha1, hpm, hRl, hs, hy⟩
  by_cases hn0 : 0 < n
  case neg =>
    simp [evOp_call, T.get_set, g2, g3, g4, g5, g12, g15, hn0, sets]
    rw [ha0 (by omega)]
    exact ⟨rfl, x0.trans (hs.mono x0.le)⟩
  have ha := ha1 hn0
  simp [evOp_call, T.get_set, g2, g3, g4, g5, g12, g15, hn0, sets, -seqC_n]
  rw [seqC_n]
  simp [evOp_call, T.get_set, g2, g3, g4, g5, g12, g15, hn0, sets, -seqC_n]
  rw [seqC_n]
  rw [Gd_seq, Gd_block]
  simp [evOp_call, T.get_set, g2, g3, g4, g5, g12, g15, hn0, sets, -seqC_n]
  rw [seqC_n]
  have hRd := hy.rd
  refine Gd_seqJ (JE fun e1 s' => lnE st.nx e j n k y R s e1 s') ?_ ?_
  · simp [evOp_call, T.get_set, g2, g3, g4, g5, g12, g15, sets]
    refine Gd_loop (lnB st.nx e j n k y R s) (fun en _ => muAt 17 R.length en) ?_ ?_
    · exact ⟨0, -1, Nat.zero_le _, ⟨by simp [T.get_set, g2], by simp [T.get_set, g3], by simp [T.get_set, g4], by simp [T.get_set, g5]⟩, by simp [T.get_set, g12], by simp [T.get_set, g15], by simp [T.get_set], by simp [T.get_set], rfl, .inl ⟨rfl, rfl⟩⟩
    clear g2 g3 g4 g5 g12 g15
    rintro e2 s' ⟨i, b, hi, ⟨g2, g3, g4, g5⟩, g12, g15, g16, g17, rfl, hbst⟩
    by_cases hlt : i < R.length
    case neg =>
      obtain rfl : i = R.length := by omega
      have hlt' : ¬ (R.length : Int) < (R.length : Int) := by omega
      simp [evOp_call, T.get_set, g2, g3, g4, g5, g12, g15, g16, g17, hRd.lenS]
      exact ⟨_, _, rfl, b, ⟨by simp [T.get_set, g2], by simp [T.get_set, g3], by simp [T.get_set, g4], by simp [T.get_set, g5]⟩, by simp [T.get_set, g12], by simp [T.get_set, g15], by simp [T.get_set, g16], rfl, hbst⟩
    have hlt' : (i : Int) < (R.length : Int) := by omega
    have hwi := wrap_nat (n := i) (by omega)
    have hat : ∀ p, p < R.length → (iv R)[p * 1 + 0]? = some (.int .i64 (R.getD p 0)) := fun p hp => by
      simp [iv, List.getElem?_map, List.getD_eq_getElem?_getD, List.getElem?_eq_getElem hp]
    obtain ⟨m1, o1, ty1, sz1, tr1, i1, b1, k1, l1, q1⟩ := hRd.idx (st := s') un76 io3 hlt
    have d0 : tr1.get o1 = some (.int .i64 (R.getD i 0)) := q1 0 _ (by omega) (hat i hlt)
    have hLP : ∀ (b' : Int) (e3 : Env), e3 = ((e2.set 17 (.int .i64 ((i + 1 : Nat) : Int)))) → True := fun _ _ _ => trivial
    rcases hbst with ⟨rfl, rfl⟩ | ⟨c, rfl, hc1, hc2⟩
    · simp [evOp_call, T.get_set, g2, g3, g4, g5, g12, g15, g16, g17, hRd.lenS, hlt, hlt']
      refine ⟨by kernel_rfl, ?_⟩
      have w11 : IntKind.i64.wrap 1 = 1 := by decide
      exact ⟨⟨1, 0, by omega, ⟨by simp [T.get_set, g2], by simp [T.get_set, g3], by simp [T.get_set, g4], by simp [T.get_set, g5]⟩, by simp [T.get_set, g12], by simp [T.get_set, g15], by simp [T.get_set], by simp [T.get_set, w11], rfl, .inr ⟨0, rfl, by omega, fun p hp => by
        obtain rfl : p = 0 := by omega
        exact Int.le_refl _⟩⟩, muAt_lt g17 (by simp [T.get_set, w11]) hlt⟩
    have hc3 : c < R.length := by omega
    obtain ⟨m2, o2, ty2, sz2, tr2, i2, b2, k2, l2, q2⟩ := hRd.idx (st := s') un76 io3 hc3
    have d1 : tr2.get o2 = some (.int .i64 (R.getD c 0)) := q2 0 _ (by omega) (hat c hc3)
    have hcn : ¬ (c : Int) < 0 := by omega
    simp [evOp_call, T.get_set, g2, g3, g4, g5, g12, g15, g16, g17, hRd.lenS, hlt, hlt', hcn]
    refine ⟨by kernel_rfl, ?_⟩
    by_cases hgt : R.getD c 0 < R.getD i 0
    · simp [evOp_call, T.get_set, g2, g3, g4, g5, g12, g15, g16, g17, hwi, i1, i2, loadE_eq, getC_eq, k1, k2, d0, d1, hgt, -List.getD_eq_getElem?_getD]
      exact ⟨⟨i + 1, (i : Int), by omega, ⟨by simp [T.get_set, g2], by simp [T.get_set, g3], by simp [T.get_set, g4], by simp [T.get_set, g5]⟩, by simp [T.get_set, g12], by simp [T.get_set, g15], by simp [T.get_set], by simp [T.get_set], rfl, .inr ⟨i, rfl, by omega, fun p hp => by
        by_cases e9 : p = i
        · subst e9; exact Int.le_refl _
        · have := hc2 p (by omega); omega⟩⟩, muAt_lt g17 (by simp [T.get_set]) hlt⟩
    · simp [evOp_call, T.get_set, g2, g3, g4, g5, g12, g15, g16, g17, hwi, i1, i2, loadE_eq, getC_eq, k1, k2, d0, d1, hgt, -List.getD_eq_getElem?_getD]
      exact ⟨⟨i + 1, (c : Int), by omega, ⟨by simp [T.get_set, g2], by simp [T.get_set, g3], by simp [T.get_set, g4], by simp [T.get_set, g5]⟩, by simp [T.get_set, g12], by simp [T.get_set, g15], by simp [T.get_set, g16], by simp [T.get_set], rfl, .inr ⟨c, rfl, by omega, fun p hp => by
        by_cases e9 : p = i
        · subst e9; omega
        · exact hc2 p (by omega)⟩⟩, muAt_lt g17 (by simp [T.get_set]) hlt⟩
  have g15E := g15
  rintro _ ⟨e1, s', rfl, b, ⟨g2, g3, g4, g5⟩, g12, g15, g16, rfl, hbst⟩
  rw [seqC_n]
  have hRl2 := hpm.length_eq
  rw [List.length_append, List.length_replicate] at hRl2
  have hdl : (S.drop j).length = S.length - j := by simp
  have hlow := hs.le
  rcases hbst with ⟨rfl, hR0⟩ | ⟨c, rfl, hc, hmax⟩
  · have hd0 : S.drop j = [] := List.eq_nil_of_length_eq_zero (by omega)
    rw [hd0] at ha
    rw [ha]
    simp [evOp_call, T.get_set, g2, g3, g4, g5, g12, g15, g16, sets]
    exact ⟨rfl, x0.trans (hs.mono x0.le)⟩
  have hcn : ¬ (c : Int) < 0 := by omega
  obtain ⟨m2, ty2, tr2, rfl, hb2, hm2, k2, hro2, hc2, hput⟩ := OwnRow.put2 hy (i := c) hc
  have d1 : tr2.get c = some (.int .i64 (R.getD c 0)) := hc2 _ _ (by simp [iv, List.getElem?_map, List.getD_eq_getElem?_getD, List.getElem?_eq_getElem hc])
  cases hdr : S.drop j with
  | nil =>
    rw [hdr] at ha hpm
    have hz : R.getD c 0 = 0 := by
      have hm : R.getD c 0 ∈ R := by rw [List.getD_eq_getElem?_getD, List.getElem?_eq_getElem hc]; exact List.getElem_mem hc
      exact List.eq_of_mem_replicate (hpm.mem_iff.1 hm)
    rw [hz] at d1
    rw [ha]
    simp [evOp_call, T.get_set, g2, g3, g4, g5, g12, g15, g16, sets, hcn, hc, loadE_eq, getC_eq, k2, d1]
    exact ⟨rfl, x0.trans (hs.mono x0.le)⟩
  | cons t0 S' =>
    rw [hdr] at ha hpm
    have hjl : j < S.length := by
      by_cases h : j < S.length
      · exact h
      · rw [List.drop_eq_nil_of_le (by omega)] at hdr; cases hdr
    have hS' : S.drop (j + 1) = S' := by
      rw [← List.tail_drop, hdr]
      rfl
    have ht0 : t0 ∈ S := List.mem_of_mem_drop (by rw [hdr]; exact List.mem_cons_self ..)
    have ht1 := hS1 t0 ht0
    have hsd : (t0 :: S').Pairwise fun a b => b ≤ a := by rw [← hdr]; exact List.Pairwise.sublist (List.drop_sublist _ _) hSs
    have hmx : ∀ p (h : p < R.length), R[p] ≤ R[c] := fun p hp => by
      have := hmax p hp
      rwa [List.getD_eq_getElem?_getD, List.getElem?_eq_getElem hp, List.getD_eq_getElem?_getD, List.getElem?_eq_getElem hc] at this
    obtain ⟨hbc, hbp⟩ := best_is hpm (List.pairwise_cons.1 hsd).1 (by omega) hc hmx
    have hgc : R.getD c 0 = t0 := by rw [List.getD_eq_getElem?_getD, List.getElem?_eq_getElem hc]; exact hbc
    rw [hgc] at d1
    have hg : ans = (if (j : Int) = k then none else if n - t0 ≤ 0 then some (j + 1) else grF S' (n - t0) (j + 1) k) := ha
    have hnz : ¬ t0 = 0 := by omega
    by_cases hjk : (j : Int) = k
    · rw [if_pos hjk] at hg
      rw [hg]
      simp [evOp_call, T.get_set, g2, g3, g4, g5, g12, g15, g16, sets, hcn, hc, loadE_eq, getC_eq, k2, d1, hnz, hjk]
      exact ⟨rfl, x0.trans (hs.mono x0.le)⟩
    rw [if_neg hjk] at hg
    have hsub : IntKind.i64.wrap (n - t0) = n - t0 := wrapI (by omega) (by omega)
    simp [evOp_call, T.get_set, g2, g3, g4, g5, g12, g15, g16, sets, hcn, hc, loadE_eq, getC_eq, k2, d1, hnz, hjk, hsub, putB_eq, hro2]
    have hc1 : c + 1 ≤ R.length := hc
    rw [if_pos hc1]
    have hwj := wrap_nat (n := j) (by omega)
    have hiv : (iv R).set c (.int .i64 0) = iv (R.set c 0) := by unfold iv; rw [List.map_set]
    have hp := hput s' hm2 (.int .i64 0)
    rw [hiv] at hp
    by_cases hle : n - t0 ≤ 0
    · rw [if_pos hle] at hg
      rw [hg]
      simp [evOp_call, T.get_set, g2, g3, g4, g5, g12, g15, g16, sets, hle, hwj]
      exact ⟨rfl, x0.trans ((hs.set hb2 hm2 _).mono x0.le)⟩
    · rw [if_neg hle] at hg
      simp [evOp_call, T.get_set, g2, g3, g4, g5, g12, g15, g16, sets, hle, hwj]
      refine ⟨⟨j + 1, z + 1, n - t0, .sg m2 0 R.length 1, R.set c 0, ⟨by simp [T.get_set, g2], by simp [T.get_set], by simp [T.get_set, g4], by simp [T.get_set, g5]⟩, by simp [T.get_set, g12], by simp [T.get_set], by omega, by omega, by omega, fun h => absurd h hle, fun _ => by rw [hS']; exact hg, by rw [hS']; exact hbp, by rw [List.length_set]; exact hRl, hs.set hb2 hm2 _, ?_⟩, ?_⟩
      · rw [List.length_set]; exact hp
      · exact muAt_lt (n := S.length + 1) g15E (by simp [T.get_set]) (by omega)
end Go.Proofs.Ytlonobfpogimgaa
set_option linter.unusedSimpArgs false
set_option linter.unusedVariables false
namespace Go.Proofs.Ytlonobfpogimgaa
open Go.RowKit Ev
theorem bit_setOneB (yes : Bool) (K : List (BitVec 64)) (i : Int) (n : Nat) : bit (setOne yes K i) n = if i = (n : Int) ∧ n < K.length * 64 then yes else bit K n := by
  unfold setOne
  by_cases h : 0 ≤ i ∧ i < K.length * 64
  · rw [if_pos h]
    obtain ⟨m, rfl⟩ := Int.eq_ofNat_of_zero_le h.1
    have hm : m / 64 < K.length := by omega
    simp only [Int.toNat_natCast]
    unfold bit
    rw [List.getElem?_set]
    by_cases h1 : m / 64 = n / 64
    · rw [if_pos h1, if_pos hm, h1]
      simp only [Option.getD_some]
      by_cases h2 : m = n
      · subst h2
        have h3 : m < K.length * 64 := by omega
        have h4 : m % 64 < 64 := by omega
        cases yes <;> simp [h3, h4]
      · have h5 : ¬ ((m : Int) = (n : Int) ∧ n < K.length * 64) := by omega
        have h6 : m % 64 ≠ n % 64 := by omega
        have h9 : n % 64 < 64 := by omega
        rw [if_neg h5]
        have h10 : (1#64 <<< (m % 64)).getLsbD (n % 64) = false := by
          rw [BitVec.getLsbD_shiftLeft]
          by_cases h7 : n % 64 < m % 64
          · simp [h7]
          · have h8 : (1#64).getLsbD (n % 64 - m % 64) = false := by
              obtain ⟨d, hd⟩ : ∃ d, n % 64 - m % 64 = d + 1 := ⟨n % 64 - m % 64 - 1, by omega⟩
              rw [hd]; simp
            simp [h8]
        cases yes
        · rw [if_neg (by simp), BitVec.getLsbD_and, BitVec.getLsbD_not, h10]; simp [h9]
        · rw [if_pos rfl, BitVec.getLsbD_or, h10]; simp
    · rw [if_neg h1]
      have h5 : ¬ ((m : Int) = (n : Int) ∧ n < K.length * 64) := by
        rintro ⟨e, _⟩
        have : m = n := by omega
        exact h1 (by rw [this])
      rw [if_neg h5]
  · rw [if_neg h, if_neg (by omega)]
theorem bit_setBB (yes : Bool) (n : Nat) : ∀ (l : List Int) (K : List (BitVec 64)), bit (setB K yes l) n = if (n : Int) ∈ l ∧ n < K.length * 64 then yes else bit K n
  | [], K => by rw [if_neg (by simp)]; rfl
  | i :: l, K => by
    show bit (setB (setOne yes K i) yes l) n = _
    rw [bit_setBB yes n l, bit_setOneB, setOne_length]
    by_cases h1 : (n : Int) ∈ l ∧ n < K.length * 64
    · rw [if_pos h1, if_pos ⟨List.mem_cons_of_mem _ h1.1, h1.2⟩]
    · rw [if_neg h1]
      by_cases h2 : i = (n : Int) ∧ n < K.length * 64
      · rw [if_pos h2, if_pos ⟨by rw [h2.1]; exact List.mem_cons_self .., h2.2⟩]
      · rw [if_neg h2, if_neg]
        rintro ⟨h3, h4⟩
        rcases List.mem_cons.1 h3 with h3 | h3
        · exact h2 ⟨h3.symm, h4⟩
        · exact h1 ⟨h3, h4⟩
theorem setB_app (L : List (BitVec 64)) (yes : Bool) (a b : List Int) : setB L yes (a ++ b) = setB (setB L yes a) yes b := by simp [setB]
/-- is it of the runs? -/
def inR (R : List Rn) (j : Nat) : Prop := ∃ r ∈ R, r.1 ≤ (j : Int) ∧ (j : Int) < r.1 + r.2
theorem mem_runJ {a i : Int} {n : Int} : i ∈ runJ a n.toNat ↔ a ≤ i ∧ i < a + n := by
  unfold runJ
  rw [List.mem_map]
  constructor
  · rintro ⟨j, hj, rfl⟩
    have := List.mem_range.1 hj
    omega
  · rintro ⟨h1, h2⟩
    exact ⟨(i - a).toNat, List.mem_range.2 (by omega), by omega⟩
theorem mem_allJ {R : List Rn} {j : Nat} : (j : Int) ∈ allJ R ↔ inR R j := by
  unfold allJ inR
  rw [List.mem_flatMap]
  constructor
  · rintro ⟨r, hr, h⟩
    exact ⟨r, hr, mem_runJ.1 h⟩
  · rintro ⟨r, hr, h⟩
    exact ⟨r, hr, mem_runJ.2 h⟩
theorem bit_in {L : List (BitVec 64)} {yes : Bool} {R : List Rn} {j : Nat} (h : inR R j) (hj : j < L.length * 64) : bit (setB L yes (allJ R)) j = yes := by
  rw [bit_setBB, if_pos ⟨mem_allJ.2 h, hj⟩]
theorem bit_off {L : List (BitVec 64)} {yes : Bool} {R : List Rn} {j : Nat} (h : ¬ inR R j) : bit (setB L yes (allJ R)) j = bit L j := by
  rw [bit_setBB, if_neg fun k => h (mem_allJ.1 k.1)]
/-- the places where the bits change are among these -/
structure Cov (L : List (BitVec 64)) (f e : Nat) (C : List Int) : Prop where
  lo : (f : Int) ∈ C
  hi : (e : Int) ∈ C
  chg : ∀ i : Nat, f < i → i < e → bit L (i - 1) ≠ bit L i → (i : Int) ∈ C
theorem Cov.set {L : List (BitVec 64)} {f e : Nat} {C C' : List Int} (h : Cov L f e C) (hs : ∀ x ∈ C, x ∈ C') {R : List Rn} (hR : ∀ r ∈ R, r.1 ∈ C' ∧ r.1 + r.2 ∈ C') (yes : Bool) (he : e ≤ L.length * 64) : Cov (setB L yes (allJ R)) f e C' := by
  refine ⟨hs _ h.lo, hs _ h.hi, fun i h1 h2 h3 => ?_⟩
  by_cases a : inR R (i - 1)
  · by_cases b : inR R i
    · exact absurd ((bit_in (yes := yes) a (by omega)).trans (bit_in (yes := yes) b (by omega)).symm) h3
    · obtain ⟨r, hr, r1, r2⟩ := a
      have : (i : Int) = r.1 + r.2 := by
        by_cases c : (i : Int) < r.1 + r.2
        · exact absurd ⟨r, hr, by omega, c⟩ b
        · omega
      rw [this]
      exact (hR r hr).2
  · by_cases b : inR R i
    · obtain ⟨r, hr, r1, r2⟩ := b
      have : (i : Int) = r.1 := by
        by_cases c : r.1 ≤ ((i - 1 : Nat) : Int)
        · exact absurd ⟨r, hr, c, by omega⟩ a
        · omega
      rw [this]
      exact (hR r hr).1
    · rw [bit_off a, bit_off b] at h3
      exact hs _ (h.chg i h1 h2 h3)
theorem nodup_len : ∀ (l C : List Int), l.Nodup → (∀ x ∈ l, x ∈ C) → l.length ≤ C.length
  | [], C, _, _ => by simp
  | a :: l, C, hn, hs => by
    obtain ⟨h1, h2⟩ := List.nodup_cons.1 hn
    have ha : a ∈ C := hs a (List.mem_cons_self ..)
    have := nodup_len l (C.erase a) h2 fun x hx => (List.mem_erase_of_ne (fun e => h1 (by rw [← e]; exact hx))).2 (hs x (List.mem_cons_of_mem _ hx))
    rw [List.length_erase_of_mem ha] at this
    have := List.length_pos_of_mem ha
    simp only [List.length_cons]
    omega
def endsR : List Rn → List Int
  | [] => []
  | r :: K => r.1 :: (r.1 + r.2) :: endsR K
theorem endsR_len : ∀ K : List Rn, (endsR K).length = 2 * K.length
  | [] => rfl
  | r :: K => by simp only [endsR, List.length_cons, endsR_len K]; omega
theorem endsR_mem : ∀ {K : List Rn} {x : Int}, x ∈ endsR K → ∃ r ∈ K, x = r.1 ∨ x = r.1 + r.2
  | [], x, h => by cases h
  | r :: K, x, h => by
    rcases List.mem_cons.1 h with h | h
    · exact ⟨r, List.mem_cons_self .., .inl h⟩
    rcases List.mem_cons.1 h with h | h
    · exact ⟨r, List.mem_cons_self .., .inr h⟩
    obtain ⟨q, h1, h2⟩ := endsR_mem h
    exact ⟨q, List.mem_cons_of_mem _ h1, h2⟩
theorem endsR_up : ∀ {K : List Rn}, (∀ r ∈ K, 1 ≤ r.2) → K.Pairwise (fun p q => p.1 + p.2 < q.1) → (endsR K).Pairwise (fun a b => a < b)
  | [], _, _ => List.Pairwise.nil
  | r :: K, h, hp => by
    obtain ⟨p1, p2⟩ := List.pairwise_cons.1 hp
    have ih := endsR_up (fun q hq => h q (List.mem_cons_of_mem _ hq)) p2
    have h1 := h r (List.mem_cons_self ..)
    have hb : ∀ x ∈ endsR K, r.1 + r.2 < x := fun x hx => by
      obtain ⟨q, hq, e⟩ := endsR_mem hx
      have := p1 q hq
      have := h q (List.mem_cons_of_mem _ hq)
      omega
    refine List.pairwise_cons.2 ⟨fun x hx => ?_, List.pairwise_cons.2 ⟨hb, ih⟩⟩
    rcases List.mem_cons.1 hx with rfl | hx
    · omega
    · have := hb x hx; omega
/-- a gap begins where the data does, or behind what is taken -/
theorem gap_from {L : List (BitVec 64)} {f e : Nat} {K : List Rn} (hfe : f ≤ e) (he3 : e ≤ L.length * 64) (hK : gapsP L e K f) {r : Rn} (hr : r ∈ K) : r.1 = (f : Int) ∨ ∃ j : Nat, (j : Int) + 1 = r.1 ∧ f ≤ j ∧ bit L j = true := by
  obtain ⟨k1, k2, k3⟩ := gapsP_all he3 hfe hK
  obtain ⟨g1, g2, g3, g4, g5⟩ := k1 r hr
  by_cases c : r.1 = (f : Int)
  · exact .inl c
  · obtain ⟨u, hu⟩ := Int.eq_ofNat_of_zero_le (show 0 ≤ r.1 - 1 by omega)
    refine .inr ⟨u, by omega, by omega, ?_⟩
    cases hb : bit L u with
    | true => rfl
    | false =>
      exfalso
      obtain ⟨p, hp, p1, p2⟩ := k3 u (by omega) (by omega) hb
      obtain ⟨a, ha, ea⟩ := List.getElem_of_mem hr
      obtain ⟨b, hb', eb⟩ := List.getElem_of_mem hp
      have ea' : K[a]? = some r := by rw [List.getElem?_eq_getElem ha, ea]
      have eb' : K[b]? = some p := by rw [List.getElem?_eq_getElem hb', eb]
      have := (k1 p hp).one
      rcases Nat.lt_trichotomy a b with h | h | h
      · have := pair_at k2 h ea' eb'; omega
      · subst h
        rw [ea'] at eb'
        injection eb' with eb'
        subst eb'
        omega
      · have := pair_at k2 h eb' ea'; omega
theorem Cov.ends {L : List (BitVec 64)} {f e : Nat} {C : List Int} (h : Cov L f e C) {K : List Rn} (hfe : f ≤ e) (he3 : e ≤ L.length * 64) (hK : gapsP L e K f) {r : Rn} (hr : r ∈ K) : r.1 ∈ C ∧ r.1 + r.2 ∈ C := by
  obtain ⟨k1, k2, k3⟩ := gapsP_all he3 hfe hK
  obtain ⟨g1, g2, g3, g4, g5⟩ := k1 r hr
  constructor
  · rcases gap_from hfe he3 hK hr with c | ⟨j, j1, j2, j3⟩
    · rw [c]; exact h.lo
    · have e1 : bit L (j + 1) = false := g4 _ (by omega) (by omega)
      have := h.chg (j + 1) (by omega) (by omega) (by rw [Nat.add_sub_cancel, j3, e1]; decide)
      rw [← j1]
      exact this
  · rcases g5 with c | ⟨j, j1, j2⟩
    · rw [c]; exact h.hi
    · by_cases c : r.1 + r.2 = (e : Int)
      · rw [c]; exact h.hi
      · have e1 : bit L (j - 1) = false := g4 _ (by omega) (by omega)
        have := h.chg j (by omega) (by omega) (by rw [e1, j2]; decide)
        rw [← j1]
        exact this
theorem Cov.gaps {L : List (BitVec 64)} {f e : Nat} {C : List Int} (h : Cov L f e C) {K : List Rn} (hfe : f ≤ e) (he3 : e ≤ L.length * 64) (hK : gapsP L e K f) : 2 * K.length ≤ C.length := by
  obtain ⟨k1, k2, k3⟩ := gapsP_all he3 hfe hK
  have hu := endsR_up (fun r hr => (k1 r hr).one) k2
  have hn : (endsR K).Nodup := List.Pairwise.imp (fun h => by omega) hu
  have := nodup_len _ C hn fun x hx => by
    obtain ⟨r, hr, e⟩ := endsR_mem hx
    have := h.ends hfe he3 hK hr
    rcases e with rfl | rfl
    · exact this.1
    · exact this.2
  rw [endsR_len] at this
  exact this
/-- how many are taken ahead of a place -/
def cntN (L : List (BitVec 64)) : Nat → Nat
  | 0 => 0
  | n + 1 => cntN L n + (bit L n).toNat
theorem cntN_word {L : List (BitVec 64)} {i : Nat} {w : BitVec 64} (h : L[i]? = some w) : ∀ j, j ≤ 64 → cntN L (64 * i + j) = cntN L (64 * i) + Pop.pc w.toNat j
  | 0, _ => rfl
  | j + 1, hj => by
    have hb : bit L (64 * i + j) = w.toNat.testBit j := by
      unfold bit
      rw [show (64 * i + j) / 64 = i by omega, show (64 * i + j) % 64 = j by omega, h]
      rfl
    show cntN L (64 * i + j) + (bit L (64 * i + j)).toNat = cntN L (64 * i) + (Pop.pc w.toNat j + (w.toNat.testBit j).toNat)
    rw [cntN_word h j (by omega), hb]; omega
theorem cntN_take (L : List (BitVec 64)) : ∀ i, i ≤ L.length → cntN L (64 * i) = cntL (L.take i)
  | 0, _ => rfl
  | i + 1, hi => by
    obtain ⟨w, hw⟩ : ∃ w, L[i]? = some w := ⟨_, List.getElem?_eq_getElem hi⟩
    rw [show 64 * (i + 1) = 64 * i + 64 by omega, cntN_word hw 64 (Nat.le_refl _), cntN_take L i (by omega), cntL_take hw]
theorem cntN_all (L : List (BitVec 64)) : cntN L (64 * L.length) = cntL L := by
  rw [cntN_take L _ (Nat.le_refl _), List.take_length]
theorem cntN_free {L : List (BitVec 64)} {a : Nat} : ∀ k, (∀ j, a ≤ j → j < a + k → bit L j = false) → cntN L (a + k) = cntN L a
  | 0, _ => rfl
  | k + 1, h => by
    show cntN L (a + k) + (bit L (a + k)).toNat = _
    rw [cntN_free k fun j h1 h2 => h j h1 (by omega), h (a + k) (by omega) (by omega)]; rfl
theorem cntN_full {L : List (BitVec 64)} {a : Nat} : ∀ k, (∀ j, a ≤ j → j < a + k → bit L j = true) → cntN L (a + k) = cntN L a + k
  | 0, _ => rfl
  | k + 1, h => by
    show cntN L (a + k) + (bit L (a + k)).toNat = _
    rw [cntN_full k fun j h1 h2 => h j h1 (by omega), h (a + k) (by omega) (by omega)]; rfl
theorem cntN_same {L L' : List (BitVec 64)} {a : Nat} : ∀ k, (∀ j, a ≤ j → j < a + k → bit L' j = bit L j) → cntN L' (a + k) + cntN L a = cntN L (a + k) + cntN L' a
  | 0, _ => Nat.add_comm _ _
  | k + 1, h => by
    have := cntN_same k fun j h1 h2 => h j h1 (by omega)
    show cntN L' (a + k) + (bit L' (a + k)).toNat + _ = cntN L (a + k) + (bit L (a + k)).toNat + _
    rw [h (a + k) (by omega) (by omega)]
    omega
/-- how many are free -/
theorem gaps_cnt {L : List (BitVec 64)} {e : Nat} (he : e ≤ L.length * 64) : ∀ (K : List Rn) (f : Nat), f ≤ e → gapsP L e K f → lens K + ((cntN L e : Int) - (cntN L f : Int)) = (e : Int) - (f : Int)
  | [], f, hfe, h => by
    have h1 := nextB_none hfe he h
    have := cntN_full (L := L) (a := f) (e - f) fun j j1 j2 => h1 j j1 (by omega)
    rw [show f + (e - f) = e by omega] at this
    rw [lens_nil]
    omega
  | r :: K, f, hfe, h => by
    obtain ⟨a, b, rfl, h1, h2, h3, h4, h5, h6⟩ := h
    obtain ⟨u1, u2, u3, u4⟩ := nextB_some hfe he h1
    have c1 := cntN_full (L := L) (a := f) (a - f) fun j j1 j2 => u4 j j1 (by omega)
    rw [show f + (a - f) = a by omega] at c1
    have hfr : ∀ j, a ≤ j → j < b → bit L j = false := by
      rcases h5 with h5 | ⟨h5, rfl⟩
      · exact (nextB_some (by omega) he h5).2.2.2
      · exact nextB_none (by omega) he h5
    have c2 := cntN_free (L := L) (a := a) (b - a) fun j j1 j2 => hfr j j1 (by omega)
    rw [show a + (b - a) = b by omega] at c2
    have ih := gaps_cnt he K b h4 h6
    rw [lens_cons]
    simp only
    omega
/-- runs that are taken, given back -/
theorem give_cnt {f e : Nat} : ∀ (R : List Rn) (L : List (BitVec 64)), e ≤ L.length * 64 → (∀ r ∈ R, r.2 < 1 ∨ ((f : Int) ≤ r.1 ∧ r.1 + r.2 ≤ (e : Int) ∧ ∀ j : Nat, r.1 ≤ (j : Int) → (j : Int) < r.1 + r.2 → bit L j = true)) → (R.filter fun r => decide (1 ≤ r.2)).Pairwise Dis → ∀ n, e ≤ n → (cntN (setB L false (allJ R)) n : Int) + lens (R.filter fun r => decide (1 ≤ r.2)) = cntN L n ∧ cntN (setB L false (allJ R)) f = cntN L f
  | [], L, _, _, _ => fun n hn => ⟨by simp [allJ, setB, lens], rfl⟩
  | r :: R, L, hl, h, hp => by
    have hsp : setB L false (allJ (r :: R)) = setB (setB L false (allJ [r])) false (allJ R) := by
      rw [← setB_app]
      simp [allJ]
    intro n hn
    rw [hsp]
    rcases h r (List.mem_cons_self ..) with h1 | ⟨h1, h2, h3⟩
    · have e0 : allJ [r] = [] := by
        have : r.2.toNat = 0 := by omega
        simp [allJ, this, runJ]
      rw [e0]
      have hf : (r :: R).filter (fun r => decide (1 ≤ r.2)) = R.filter (fun r => decide (1 ≤ r.2)) := List.filter_cons_of_neg (by simp; omega)
      rw [hf] at hp ⊢
      exact give_cnt R L hl (fun q hq => h q (List.mem_cons_of_mem _ hq)) hp n hn
    · by_cases c1 : r.2 < 1
      · have e0 : allJ [r] = [] := by
          have : r.2.toNat = 0 := by omega
          simp [allJ, this, runJ]
        rw [e0]
        have hf : (r :: R).filter (fun r => decide (1 ≤ r.2)) = R.filter (fun r => decide (1 ≤ r.2)) := List.filter_cons_of_neg (by simp; omega)
        rw [hf] at hp ⊢
        exact give_cnt R L hl (fun q hq => h q (List.mem_cons_of_mem _ hq)) hp n hn
      have hf : (r :: R).filter (fun r => decide (1 ≤ r.2)) = r :: R.filter (fun r => decide (1 ≤ r.2)) := List.filter_cons_of_pos (by simp; omega)
      rw [hf] at hp ⊢
      obtain ⟨p1, p2⟩ := List.pairwise_cons.1 hp
      obtain ⟨a, ha⟩ := Int.eq_ofNat_of_zero_le (show 0 ≤ r.1 by omega)
      obtain ⟨k, hk⟩ := Int.eq_ofNat_of_zero_le (show 0 ≤ r.2 by omega)
      have hin : ∀ j : Nat, a ≤ j → j < a + k → inR [r] j := fun j j1 j2 => ⟨r, List.mem_cons_self .., by omega, by omega⟩
      have hout : ∀ j : Nat, (j < a ∨ a + k ≤ j) → ¬ inR [r] j := by
        rintro j hj ⟨q, hq, q1, q2⟩
        obtain rfl : q = r := by simpa using hq
        omega
      obtain ⟨L1, hL1⟩ : ∃ L1, L1 = setB L false (allJ [r]) := ⟨_, rfl⟩
      have b1 : ∀ j : Nat, a ≤ j → j < a + k → bit L1 j = false := fun j j1 j2 => by rw [hL1]; exact bit_in (hin j j1 j2) (by omega)
      have b2 : ∀ j : Nat, (j < a ∨ a + k ≤ j) → bit L1 j = bit L j := fun j hj => by rw [hL1]; exact bit_off (hout j hj)
      have hl1 : L1.length = L.length := by rw [hL1, setB_length]
      rw [← hL1]
      have ih := give_cnt R L1 (by omega) (fun q hq => by
        rcases h q (List.mem_cons_of_mem _ hq) with q1 | ⟨q1, q2, q3⟩
        · exact .inl q1
        · by_cases c2 : q.2 < 1
          · exact .inl c2
          · refine .inr ⟨q1, q2, fun j j1 j2 => ?_⟩
            have hd := p1 q (List.mem_filter.2 ⟨hq, by simp; omega⟩)
            unfold Dis at hd
            rw [b2 j (by omega)]
            exact q3 j j1 j2) p2 n hn
      have t1 := cntN_same (L := L) (L' := L1) (a := 0) a fun j j1 j2 => b2 j (.inl (by omega))
      have t2 := cntN_free (L := L1) (a := a) k fun j j1 j2 => b1 j j1 j2
      have t3 := cntN_full (L := L) (a := a) k fun j j1 j2 => h3 j (by omega) (by omega)
      have t4 := cntN_same (L := L) (L' := L1) (a := a + k) (n - (a + k)) fun j j1 j2 => b2 j (.inr j1)
      have t5 := cntN_same (L := L) (L' := L1) (a := 0) f fun j j1 j2 => b2 j (.inl (by omega))
      rw [show a + k + (n - (a + k)) = n by omega] at t4
      rw [Nat.zero_add] at t1 t5
      have z1 : cntN L 0 = 0 := rfl
      have z2 : cntN L1 0 = 0 := rfl
      rw [lens_cons]
      refine ⟨?_, by rw [ih.2]; omega⟩
      have := ih.1
      omega
end Go.Proofs.Ytlonobfpogimgaa
set_option linter.unusedSimpArgs false
set_option linter.unusedVariables false
namespace Go.Proofs.Ytlonobfpogimgaa
open Go.RowKit Ev
theorem bit_empty (g : Gm) (hg : isGood g) (j : Nat) : ∀ i : Nat, (i : Int) ≤ g.b → bit (emptyI g i) j = decide (j < i ∧ ((j : Int) < dF g ∨ dF g + dN g ≤ (j : Int)))
  | 0, _ => by
    unfold emptyI bit
    rw [List.getElem?_replicate]
    by_cases h : j / 64 < (g.b.toNat + 63) / 64
    · rw [if_pos h]; simp
    · rw [if_neg h]; simp
  | i + 1, hi => by
    have ih := bit_empty g hg j i (by omega)
    unfold emptyI
    by_cases h : (i : Int) < dF g ∨ dF g + dN g ≤ (i : Int)
    · rw [if_pos h, bit_setBB, emptyI_length]
      by_cases e : j = i
      · subst e
        rw [if_pos ⟨List.mem_cons_self .., by omega⟩]
        exact (decide_eq_true ⟨by omega, h⟩).symm
      · rw [if_neg (by simp; omega), ih]
        congr 1
        apply propext
        constructor
        · rintro ⟨h1, h2⟩; exact ⟨by omega, h2⟩
        · rintro ⟨h1, h2⟩; exact ⟨by omega, h2⟩
    · rw [if_neg h, ih]
      congr 1
      apply propext
      constructor
      · rintro ⟨h1, h2⟩; exact ⟨by omega, h2⟩
      · rintro ⟨h1, h2⟩
        refine ⟨?_, h2⟩
        by_cases e : j = i
        · subst e; exact absurd h2 h
        · omega
/-- what lies outside the data -/
def OutD (L : List (BitVec 64)) (b f e : Nat) : Prop := ∀ j : Nat, (j < f ∨ e ≤ j) → bit L j = decide (j < b)
theorem OutD.set {L : List (BitVec 64)} {b f e : Nat} (h : OutD L b f e) {R : List Rn} (hR : ∀ r ∈ R, r.2 < 1 ∨ ((f : Int) ≤ r.1 ∧ r.1 + r.2 ≤ (e : Int))) (yes : Bool) : OutD (setB L yes (allJ R)) b f e := fun j hj => by
  rw [bit_off]
  · exact h j hj
  · rintro ⟨r, hr, r1, r2⟩
    have := hR r hr
    omega
theorem out_empty (g : Gm) (hg : isGood g) {f e : Nat} (hf : dF g = (f : Int)) (he : dF g + dN g = (e : Int)) (hfe : f ≤ e) : OutD (emptyI g g.b.toNat) g.b.toNat f e := fun j hj => by
  have := hg.1.1
  rw [bit_empty g hg j _ (by omega)]
  congr 1
  apply propext
  constructor
  · exact fun h => h.1
  · exact fun h => ⟨h, by omega⟩
theorem cov_empty (g : Gm) (hg : isGood g) {f e : Nat} (hf : dF g = (f : Int)) (he : dF g + dN g = (e : Int)) (hfe : f ≤ e) {C : List Int} (h1 : (f : Int) ∈ C) (h2 : (e : Int) ∈ C) : Cov (emptyI g g.b.toNat) f e C := ⟨h1, h2, fun i i1 i2 i3 => by
  have := hg.1.1
  rw [bit_empty g hg _ _ (by omega), bit_empty g hg _ _ (by omega), decide_eq_false (by omega), decide_eq_false (by omega)] at i3
  exact absurd rfl i3⟩
/-- all that is free at last -/
theorem last_cnt {L : List (BitVec 64)} {b f e : Nat} (hl : b ≤ L.length * 64) (hfe : f ≤ e) (heb : e ≤ b) (h : OutD L b f e) {K : List Rn} (hK : gapsP L e K f) : lens K = (b : Int) - (cntL L : Int) := by
  have h1 := gaps_cnt (by omega) K f hfe hK
  have h2 := cntN_full (L := L) (a := 0) f fun j j1 j2 => by rw [h j (.inl (by omega))]; exact decide_eq_true (by omega)
  have h3 := cntN_full (L := L) (a := e) (b - e) fun j j1 j2 => by rw [h j (.inr (by omega))]; exact decide_eq_true (by omega)
  have h4 := cntN_free (L := L) (a := b) (64 * L.length - b) fun j j1 j2 => by rw [h j (.inr (by omega))]; exact decide_eq_false (by omega)
  rw [show e + (b - e) = b by omega] at h3
  rw [show b + (64 * L.length - b) = 64 * L.length by omega, cntN_all] at h4
  rw [Nat.zero_add] at h2
  have z1 : cntN L 0 = 0 := rfl
  omega
theorem ins_ex (a : Int) : ∀ S : List Int, S.Pairwise (fun a b => b ≤ a) → ∃ S', (a :: S).Perm S' ∧ S'.Pairwise fun a b => b ≤ a
  | [], _ => ⟨[a], List.Perm.refl _, List.pairwise_singleton _ _⟩
  | s :: S, h => by
    obtain ⟨h1, h2⟩ := List.pairwise_cons.1 h
    by_cases c : s ≤ a
    · exact ⟨a :: s :: S, List.Perm.refl _, List.pairwise_cons.2 ⟨fun x hx => by
        rcases List.mem_cons.1 hx with rfl | hx
        · exact c
        · have := h1 x hx; omega, h⟩⟩
    · obtain ⟨S', p1, p2⟩ := ins_ex a S h2
      refine ⟨s :: S', (List.Perm.swap s a S).trans (List.Perm.cons s p1), List.pairwise_cons.2 ⟨fun x hx => ?_, p2⟩⟩
      rcases List.mem_cons.1 (p1.mem_iff.2 hx) with rfl | hx
      · omega
      · exact h1 x hx
theorem sort_ex : ∀ l : List Int, ∃ S, l.Perm S ∧ S.Pairwise fun a b => b ≤ a
  | [] => ⟨[], List.Perm.refl _, List.Pairwise.nil⟩
  | a :: l => by
    obtain ⟨S, h1, h2⟩ := sort_ex l
    obtain ⟨S', h3, h4⟩ := ins_ex a S h2
    exact ⟨S', (List.Perm.cons a h1).trans h3, h4⟩
theorem spA_from : ∀ (K : List Rn) (n : Int), (∀ r ∈ K, 1 ≤ r.2) → ∃ p : Int, ∀ r ∈ spA K n, ∃ x ∈ K, r.1 = x.1 ∧ 1 ≤ r.2 ∧ r.2 ≤ x.2 ∧ (r.2 = x.2 ∨ r.1 + r.2 = p)
  | [], n, _ => ⟨0, fun r hr => by simp [spA] at hr⟩
  | x :: K, n, h => by
    have h1 := h x (List.mem_cons_self ..)
    obtain ⟨p, hp⟩ := spA_from K (n - x.2) fun q hq => h q (List.mem_cons_of_mem _ hq)
    unfold spA
    by_cases c0 : n ≤ 0
    · rw [if_pos c0]; exact ⟨0, fun r hr => by cases hr⟩
    · rw [if_neg c0]
      by_cases c1 : x.2 ≤ n
      · rw [if_pos c1]
        refine ⟨p, fun r hr => ?_⟩
        rcases List.mem_cons.1 hr with rfl | hr
        · exact ⟨_, List.mem_cons_self .., rfl, h1, Int.le_refl _, .inl rfl⟩
        · obtain ⟨y, hy, e⟩ := hp r hr
          exact ⟨y, List.mem_cons_of_mem _ hy, e⟩
      · rw [if_neg c1]
        refine ⟨x.1 + n, fun r hr => ?_⟩
        obtain rfl : r = (x.1, n) := by simpa using hr
        exact ⟨x, List.mem_cons_self .., rfl, by show 1 ≤ n; omega, by show n ≤ x.2; omega, .inr rfl⟩
theorem spA_dis : ∀ (K : List Rn) (n : Int), (∀ r ∈ K, 1 ≤ r.2) → K.Pairwise Dis → (spA K n).Pairwise Dis
  | [], n, _, _ => List.Pairwise.nil
  | x :: K, n, h, hd => by
    obtain ⟨d1, d2⟩ := List.pairwise_cons.1 hd
    have hK : ∀ q ∈ K, 1 ≤ q.2 := fun q hq => h q (List.mem_cons_of_mem _ hq)
    unfold spA
    by_cases c0 : n ≤ 0
    · rw [if_pos c0]; exact List.Pairwise.nil
    · rw [if_neg c0]
      by_cases c1 : x.2 ≤ n
      · rw [if_pos c1]
        refine List.pairwise_cons.2 ⟨fun r hr => ?_, spA_dis K _ hK d2⟩
        obtain ⟨p, hp⟩ := spA_from K (n - x.2) hK
        obtain ⟨y, hy, e1, e2, e3, e4⟩ := hp r hr
        have := d1 y hy
        unfold Dis at this ⊢
        omega
      · rw [if_neg c1]
        exact List.pairwise_singleton _ _
/-- what Take tells -/
structure TkOk (L : List (BitVec 64)) (f e : Nat) (C : List Int) (R : List Rn) (p n : Int) : Prop where
  ok : okB R
  lie : ∀ r ∈ R, (f : Int) ≤ r.1 ∧ r.1 + r.2 ≤ (e : Int)
  free : ∀ j : Nat, inR R j → bit L j = false
  dis : R.Pairwise Dis
  noT : NoT R
  sum : lens R = n
  ends : ∀ r ∈ R, r.1 ∈ C ∧ (r.1 + r.2 ∈ C ∨ r.1 + r.2 = p)
  len : R.length ≤ 20
def tkU (st : St) (q m : Nat) (g : Gm) (L : List (BitVec 64)) (f e : Nat) (K : List Rn) (C : List Int) (n k : Int) (r : V × St) : Prop :=
  ∃ S : List Int, (K.map fun r => r.2).Perm S ∧ (S.Pairwise fun a b => b ≤ a) ∧ (((if n ≤ 0 then some 0 else grF S n 0 k) = none ∧ tkNo st 7 r) ∨ ∃ R p, (if n ≤ 0 then some 0 else grF S n 0 k) = some R.length ∧ TkOk L f e C R p n ∧ tkYes st q m g (setB L true (allJ R)) R r)
theorem takeU_any (st : St) (q m : Nat) (g : Gm) (z : V) (L : List (BitVec 64)) (f e : Nat) (P : PG st q m g z L f e) (he4 : e ≤ 1000) (C : List Int) (hC : Cov L f e C) (hgC : ∀ c : Int, 0 ≤ c → c < g.c → gF g c ∈ C) (hCl : C.length < 40) (K : List Rn) (hK : gapsP L e K f) (c n k : Int) (hc : 0 ≤ c ∧ c < g.c) (hn : 0 ≤ n ∧ n ≤ 9223372036854775807) (hk : 1 ≤ k) (nt : Nat) :
    Gd (callL Try.prog ⟨false, [], 0, nt⟩ 9 [.p q 0, .int .i64 c, .int .i64 n, .int .i64 k] st) (tkU st q m g L f e K C n k) := by
  have hfe : f ≤ e := Nat.le_of_lt P.hfe
  have hg2 := hC.gaps hfe P.he3 hK
  obtain ⟨k1, k2, k3⟩ := gapsP_all P.he3 hfe hK
  by_cases h0 : n = 0
  · refine Gd.mono (takeG_zero st q m g z L f e P c hc.1 hc.2 n k hk h0 nt) fun r hr => ?_
    obtain ⟨S, s1, s2⟩ := sort_ex (K.map fun r => r.2)
    refine ⟨S, s1, s2, .inr ⟨[], 0, by rw [if_pos (by omega)]; rfl, ⟨nofun, nofun, fun j h => (by obtain ⟨r, hr, _⟩ := h; cases hr), List.Pairwise.nil, fun j a b h => (by simp at h), by rw [h0]; rfl, nofun, by simp⟩, hr⟩⟩
  have hn1 : 1 ≤ n := by omega
  obtain ⟨N, hN⟩ := Int.eq_ofNat_of_zero_le hn.1
  cases ho : oneO L g f e c n with
  | some a =>
    rw [hN] at ho
    obtain ⟨u, rfl, u1, u2, u3, u4⟩ := one_some P.hg P.hf P.he hfe P.he3 hc.1 hc.2 (by omega) ho
    rw [← hN] at ho
    refine Gd.mono (takeG_some st q m g z L f e P c hc.1 hc.2 n k hk ⟨hn1, by omega⟩ (u : Int) ⟨by omega, by omega⟩ ho nt) fun r hr => ?_
    obtain ⟨S, s1, s2⟩ := sort_ex (K.map fun r => r.2)
    obtain ⟨x, hx, x1, x2⟩ := k3 u u1 (by omega) (u3 u (Nat.le_refl _) (by omega))
    have hx2 : n ≤ x.2 := by
      obtain ⟨g1, g2, g3, g4, g5⟩ := k1 x hx
      by_cases cc : n ≤ x.2
      · exact cc
      · exfalso
        rcases g5 with g5 | ⟨j, j1, j2⟩
        · omega
        · have := u3 j (by omega) (by omega)
          rw [j2] at this; cases this
    have hm : x.2 ∈ S := s1.mem_iff.1 (List.mem_map_of_mem hx)
    have hgr : grF S n 0 k = some 1 := by
      cases S with
      | nil => cases hm
      | cons s S =>
        have hs : x.2 ≤ s := by
          rcases List.mem_cons.1 hm with h | h
          · omega
          · exact (List.pairwise_cons.1 s2).1 _ h
        show (if ((0 : Nat) : Int) = k then none else if n - s ≤ 0 then some (0 + 1) else grF S (n - s) (0 + 1) k) = some 1
        rw [if_neg (by omega), if_pos (by omega)]
    refine ⟨S, s1, s2, .inr ⟨[((u : Int), n)], (u : Int) + n, by rw [if_neg (by omega), hgr]; rfl, ⟨fun r h => ?_, fun r h => ?_, fun j h => ?_, List.pairwise_singleton _ _, fun j a b h1 h2 => by simp at h2, by simp [lens], fun r h => ?_, by simp⟩, hr⟩⟩
    · obtain rfl : r = ((u : Int), n) := by simpa using h
      simp only
      omega
    · obtain rfl : r = ((u : Int), n) := by simpa using h
      simp only
      omega
    · obtain ⟨r, h, r1, r2⟩ := h
      obtain rfl : r = ((u : Int), n) := by simpa using h
      simp only at r1 r2
      exact u3 j (by omega) (by omega)
    · obtain rfl : r = ((u : Int), n) := by simpa using h
      refine ⟨?_, .inr rfl⟩
      rcases u4 with u4 | u4 | ⟨u4, u5⟩
      · show (u : Int) ∈ C
        rw [u4]; exact hC.lo
      · show (u : Int) ∈ C
        rw [u4]; exact hgC c hc.1 hc.2
      · exact hC.chg u u4 (by omega) (by rw [u5, u3 u (Nat.le_refl _) (by omega)]; decide)
  | none =>
    refine Gd.mono (takeG_few st q m g z L f e P c hc.1 hc.2 n k hk ⟨hn1, hn.2⟩ ho K hK (by omega) he4 nt) fun r hr => ?_
    obtain ⟨K', hpm, hso, hr⟩ := hr
    obtain ⟨kB, kS⟩ := gaps_ok P.hfe P.he2 P.he3 hK
    have hB' : okB K' := fun r hr => kB r (hpm.mem_iff.1 hr)
    have hS' : K'.Pairwise Sep := (hpm.pairwise_iff fun h => Sep.symm h).2 kS
    have h1' : ∀ r ∈ K', 1 ≤ r.2 := fun r hr => (hB' r hr).2.1
    have hD' : K'.Pairwise Dis := (hpm.pairwise_iff fun h => Dis.symm h).2 (List.Pairwise.imp (fun h => by unfold Dis; omega) k2)
    obtain ⟨c1, c2, c3, c4, c5, c6, c7⟩ := cut_ok hB' hS' (i := n) (by omega)
    have hsA : (splF K' n).1 = spA K' n := by
      have := spA_is K' [] n (by omega) h1'
      rwa [List.nil_append] at this
    have hdA := spA_dis K' n h1' hD'
    obtain ⟨p, hp⟩ := spA_from K' n h1'
    have hgr := gr_spA K' n k 0 (by omega) (by omega) h1'
    have hpl := hpm.length_eq
    rw [hsA] at hr c1 c3 c5 c7
    refine ⟨K'.map fun r => r.2, (hpm.map _).symm, List.pairwise_map.2 hso, ?_⟩
    rw [if_neg (by omega), hgr]
    by_cases hno : lens (spA K' n) < n ∨ k < ((spA K' n).length : Int)
    · rw [if_pos hno] at hr
      rw [if_pos (by omega)]
      exact .inl ⟨rfl, hr⟩
    · rw [if_neg hno] at hr
      rw [if_neg (by omega)]
      refine .inr ⟨spA K' n, p, by rw [Nat.zero_add], ⟨c1, fun r hr => ?_, fun j hj => ?_, hdA, c3, by omega, fun r hr => ?_, by omega⟩, hr⟩
      · obtain ⟨x, hx, e1, e2, e3, e4⟩ := hp r hr
        obtain ⟨g1, g2, g3, g4, g5⟩ := k1 x (hpm.mem_iff.1 hx)
        omega
      · obtain ⟨r, hr, r1, r2⟩ := hj
        obtain ⟨x, hx, e1, e2, e3, e4⟩ := hp r hr
        obtain ⟨g1, g2, g3, g4, g5⟩ := k1 x (hpm.mem_iff.1 hx)
        exact g4 j (by omega) (by omega)
      · obtain ⟨x, hx, e1, e2, e3, e4⟩ := hp r hr
        have := hC.ends hfe P.he3 hK (hpm.mem_iff.1 hx)
        rw [← e1] at this
        refine ⟨this.1, ?_⟩
        rcases e4 with e4 | e4
        · rw [← e4] at this
          exact .inl this.2
        · exact .inr e4
end Go.Proofs.Ytlonobfpogimgaa
set_option linter.unusedSimpArgs false
set_option linter.unusedVariables false
namespace Go.Proofs.Ytlonobfpogimgaa
open Go.RowKit Ev
set_option maxRecDepth 20000 in
set_option maxHeartbeats 4000000 in
theorem empty_anyR (st : St) (g : Gm) (hg : isGood g) (nt : Nat) :
    Gd (callL Try.prog ⟨false, [], 0, nt⟩ 7 [gV g] st) fun r => ∃ y, r.1 = .g [y] ∧ RdRow r.2 y 1 ((g.b.toNat + 63) / 64) (wv (emptyI g g.b.toNat)) ∧ (∀ b, rowIn y b → st.nx ≤ b) ∧ Ext st.nx st r.2 := by
  rw [Gd_callL Try.func7 rfl]
  have e0 := box_ext st g
  have hs4 := hg.1
  have hck := ck_le hs4
  obtain ⟨h1, h2, h3, h4, h5, h6, h7, h8⟩ := hs4
  have hd1 := hg.2
  have hdF : 0 ≤ dF g ∧ dF g ≤ 1024 := by unfold dF nF bN dN dF nF bN at *; omega
  have hdN : 1 ≤ dN g ∧ dN g ≤ 1024 := by unfold dN at *; omega
  obtain ⟨n, hn⟩ : ∃ n : Nat, g.b = (n : Int) := ⟨g.b.toNat, by omega⟩
  have hnt : g.b.toNat = n := by omega
  have q1 : ¬ st.nx + 1 = st.nx := by omega
  have e1 := e0.new (Nat.le_succ _) (.cs 33 1 (sets [.c (.slice none 0 0)] 0 .lf))
  simp [gV, evOp_call, sets, T.get_set, cellsOf, newC_is, loadE_eq, getC_eq, getsB_succ, getsB_zero, q1]
  refine Gd.mono (gdata_any _ [] (fun _ _ => rfl) 0 (Nat.zero_le _) g _) ?_
  rintro ⟨r, s1⟩ ⟨hr, x1⟩
  simp only at hr x1
  subst hr
  have b1 : st.nx + 2 ≤ s1.nx := x1.le
  have k0 : s1.h.get st.nx = some (.cs 23 4 ((((T.lf.set 0 (.int .i64 g.b)).set 1 (.int .i64 g.n)).set 2 (.int .i64 g.c)).set 3 (.int .i64 g.k))) := by
    rw [x1.keep st.nx (by show st.nx < st.nx + 1 + 1; omega)]
    exact (T.get_set_ne (n := st.nx + 1) (m := st.nx) _ _ (by omega)).trans (T.get_set_same _ _ _)
  have k1 : s1.h.get (st.nx + 1) = some (.cs 33 1 (sets [.c (.slice none 0 0)] 0 .lf)) := by
    rw [x1.keep (st.nx + 1) (by show st.nx + 1 < st.nx + 1 + 1; omega)]; exact T.get_set_same _ _ _
  have ex1 : Ext st.nx st s1 := e1.trans (x1.mono (by show st.nx ≤ st.nx + 1 + 1; omega))
  simp [at2, hg, evOp_call, sets, T.get_set, tupK, cellsOf, newC_is, loadE_eq, getC_eq, k0, hn]
  refine Gd.mono (bnew_any s1 n (by omega) _) ?_
  rintro ⟨r, s2⟩ ⟨y, hr, hy, hyf0, x2⟩
  simp only at hr hy hyf0 x2
  subst hr
  have b2 := x2.le
  have hone := hy.one
  simp [evOp_call, sets, T.get_set, tupK, cellsOf, newC_is, loadE_eq, getC_eq, storeK_g, putB_eq, roT, hone, hn]
  have k0' : s2.h.get st.nx = some (.cs 23 4 ((((T.lf.set 0 (.int .i64 g.b)).set 1 (.int .i64 g.n)).set 2 (.int .i64 g.c)).set 3 (.int .i64 g.k))) := (x2.keep _ (by omega)).trans k0
  have k1' := (x2.keep (st.nx + 1) (by omega)).trans k1
  have ex2 : Ext st.nx st s2 := ex1.trans (x2.mono (by omega))
  have ex3 : Ext s2.nx s2 ⟨s2.nx + 1, s2.h.set s2.nx (.cs 33 1 (T.lf.set 0 y))⟩ := (Ext.refl _ _).new (Nat.le_refl _) _
  refine Gd_loop (emJ st s2.nx g) (fun en _ => muAt 6 n en) ?_ ?_
  · refine ⟨0, y, by omega, by simp [T.get_set], by simp [T.get_set], by simp [T.get_set], by simp [T.get_set], by simp [T.get_set], by simp [T.get_set], ?_, ⟨sets [.c (.slice none 0 0)] 0 .lf, ?_⟩, ⟨_, T.get_set_same _ _ _, by simp [T.get_set]⟩, by omega, Nat.lt_succ_self _, ?_, ?_, ?_, ?_, ex2.trans (ex3.mono (by omega))⟩
    · rw [ex3.keep _ (by omega)]; exact k0'
    · rw [ex3.keep _ (by omega)]; exact k1'
    · rw [hnt]
      have := hy.ext ex3
      simpa [emptyI, hnt] using this
    · exact hyf0.mono (by omega)
    · intro o l z e; have := hy.lt_of.1 _ _ _ _ e; omega
    · intro o l z e; have := hy.lt_of.2 _ _ _ _ e; omega
  · rintro en s ⟨i, y, hi, g1, g2, g3, g4, g5, g6, m0, ⟨t1, m1⟩, ⟨tq, mq, mq0⟩, hq1, hq2, hyr, hyf, hn1, hn2, hx⟩
    have hyone := hyr.one
    by_cases hlt : (i : Int) < g.b
    · have hlt' : (i : Int) < (n : Int) := by omega
      have w1 : IntKind.i64.wrap ((i : Int) + 1) = ((i + 1 : Nat) : Int) := by rw [show ((i : Int) + 1) = ((i + 1 : Nat) : Int) by omega]; exact wrap_in (by omega) (by omega)
      have w2 : IntKind.i64.wrap (dF g + dN g) = dF g + dN g := wrap_in (by omega) (by omega)
      have fin : ∀ (en2 : Env) (s3 : St), True := fun _ _ => trivial
      by_cases c : (i : Int) < dF g ∨ dF g + dN g ≤ (i : Int)
      · have hem : emptyI g (i + 1) = setB (emptyI g i) true [(i : Int)] := by rw [emptyI, if_pos c]
        have step : ∀ (en2 : Env), True := fun _ => trivial
        by_cases c1 : (i : Int) < dF g
        · simp [evOp_call, T.get_set, g1, g2, g3, g4, g5, g6, loadE_eq, getC_eq, m0, mq, mq0, hlt, c1, getsB_1]
          refine evOp_build1 (v := .int .i64 (i : Int)) (cs := [.int .i64 (i : Int)]) (fun k => el76 k) (fun k => ze3 k) rfl (by omega) (by simp [T.get_set]) (fun k => rfl) rfl ?_
          have hbv := builtR (st := s) (el := 3) (vs := iv [(i : Int)]) (n := 1) (by decide) rfl
          have exb : Ext s.nx s ⟨s.nx + 1, s.h.set s.nx (.cs 3 1 (sets [.int .i64 (i : Int)] 0 .lf))⟩ := (Ext.refl _ _).new (Nat.le_refl _) _
          simp [evOp_call, T.get_set, g1, g2, g3, g4, g5, g6]
          refine Gd.mono (set_any _ y _ (emptyI g i) (by rw [emptyI_length]; exact hyr.ext exb) (by rw [emptyI_length]; omega) true [(i : Int)] hbv (by simp) (by simp; omega) _) ?_
          rintro ⟨r, s3⟩ ⟨z, hr, hz, hzf, x3⟩
          simp only at hr hz hzf x3
          subst hr
          have b3 : s.nx + 1 ≤ s3.nx := x3.le
          have ex3 : Ext s.nx s s3 := exb.trans (x3.mono (Nat.le_succ _))
          have hzone := hz.one
          have mq3 := (ex3.keep _ hq2).trans mq
          rw [emptyI_length] at hz
          have hzf2 : RowFrom (s.nx + 1) z := hzf
          simp [evOp_call, T.get_set, g1, g2, g3, g4, g5, g6, storeK_g, putB_eq, roT, mq3, hzone, w1, sets]
          refine ⟨⟨i + 1, z, by omega, by simp [T.get_set, g1], by simp [T.get_set, g2], by simp [T.get_set, g3], by simp [T.get_set, g4], by simp [T.get_set, g5], by simp [T.get_set], ?_, ⟨t1, ?_⟩, ⟨_, T.get_set_same _ _ _, by simp [T.get_set]⟩, hq1, by show s2.nx < s3.nx; omega, ?_, hzf2.mono (by omega), fun o l z' e => by have := hzf2.1 _ _ _ _ e; omega, fun o l z' e => by have := hzf2.2 _ _ _ _ e; omega, (hx.trans (ex3.mono hx.le)).set (by omega) (by omega) _⟩, muAt_lt g6 (by simp [T.get_set]) (by omega)⟩
          · show (s3.h.set s2.nx _).get st.nx = _
            rw [T.get_set_ne _ _ (by omega)]; exact (ex3.keep _ (by omega)).trans m0
          · show (s3.h.set s2.nx _).get (st.nx + 1) = _
            rw [T.get_set_ne _ _ (by omega)]; exact (ex3.keep _ (by omega)).trans m1
          · rw [hem]
            exact hz.setOther (k := s2.nx) (fun o l z' e => by have := hzf2.1 _ _ _ _ e; omega) (fun o l z' e => by have := hzf2.2 _ _ _ _ e; omega) _
        · have c2 : dF g + dN g ≤ (i : Int) := c.resolve_left c1
          simp [evOp_call, T.get_set, g1, g2, g3, g4, g5, g6, loadE_eq, getC_eq, m0, mq, mq0, hlt, c1, c2, w2, getsB_1]
          refine evOp_build1 (v := .int .i64 (i : Int)) (cs := [.int .i64 (i : Int)]) (fun k => el76 k) (fun k => ze3 k) rfl (by omega) (by simp [T.get_set]) (fun k => rfl) rfl ?_
          have hbv := builtR (st := s) (el := 3) (vs := iv [(i : Int)]) (n := 1) (by decide) rfl
          have exb : Ext s.nx s ⟨s.nx + 1, s.h.set s.nx (.cs 3 1 (sets [.int .i64 (i : Int)] 0 .lf))⟩ := (Ext.refl _ _).new (Nat.le_refl _) _
          simp [evOp_call, T.get_set, g1, g2, g3, g4, g5, g6]
          refine Gd.mono (set_any _ y _ (emptyI g i) (by rw [emptyI_length]; exact hyr.ext exb) (by rw [emptyI_length]; omega) true [(i : Int)] hbv (by simp) (by simp; omega) _) ?_
          rintro ⟨r, s3⟩ ⟨z, hr, hz, hzf, x3⟩
          simp only at hr hz hzf x3
          subst hr
          have b3 : s.nx + 1 ≤ s3.nx := x3.le
          have ex3 : Ext s.nx s s3 := exb.trans (x3.mono (Nat.le_succ _))
          have hzone := hz.one
          have mq3 := (ex3.keep _ hq2).trans mq
          rw [emptyI_length] at hz
          have hzf2 : RowFrom (s.nx + 1) z := hzf
          simp [evOp_call, T.get_set, g1, g2, g3, g4, g5, g6, storeK_g, putB_eq, roT, mq3, hzone, w1, sets]
          refine ⟨⟨i + 1, z, by omega, by simp [T.get_set, g1], by simp [T.get_set, g2], by simp [T.get_set, g3], by simp [T.get_set, g4], by simp [T.get_set, g5], by simp [T.get_set], ?_, ⟨t1, ?_⟩, ⟨_, T.get_set_same _ _ _, by simp [T.get_set]⟩, hq1, by show s2.nx < s3.nx; omega, ?_, hzf2.mono (by omega), fun o l z' e => by have := hzf2.1 _ _ _ _ e; omega, fun o l z' e => by have := hzf2.2 _ _ _ _ e; omega, (hx.trans (ex3.mono hx.le)).set (by omega) (by omega) _⟩, muAt_lt g6 (by simp [T.get_set]) (by omega)⟩
          · show (s3.h.set s2.nx _).get st.nx = _
            rw [T.get_set_ne _ _ (by omega)]; exact (ex3.keep _ (by omega)).trans m0
          · show (s3.h.set s2.nx _).get (st.nx + 1) = _
            rw [T.get_set_ne _ _ (by omega)]; exact (ex3.keep _ (by omega)).trans m1
          · rw [hem]
            exact hz.setOther (k := s2.nx) (fun o l z' e => by have := hzf2.1 _ _ _ _ e; omega) (fun o l z' e => by have := hzf2.2 _ _ _ _ e; omega) _
      · have hem : emptyI g (i + 1) = emptyI g i := by rw [emptyI, if_neg c]
        have c1 : ¬ (i : Int) < dF g := fun h => c (.inl h)
        have c2 : ¬ dF g + dN g ≤ (i : Int) := fun h => c (.inr h)
        simp [evOp_call, T.get_set, g1, g2, g3, g4, g5, g6, loadE_eq, getC_eq, m0, mq, mq0, hlt, c1, c2, w1, w2, getsB_1]
        exact ⟨⟨i + 1, y, by omega, by simp [T.get_set, g1], by simp [T.get_set, g2], by simp [T.get_set, g3], by simp [T.get_set, g4], by simp [T.get_set, g5], by simp [T.get_set], m0, ⟨t1, m1⟩, ⟨tq, mq, mq0⟩, hq1, hq2, by rw [hem]; exact hyr, hyf, hn1, hn2, hx⟩, muAt_lt g6 (by simp [T.get_set]) (by omega)⟩
    · have hin : g.b.toNat = i := by omega
      simp [evOp_call, T.get_set, g1, g2, g3, g4, g5, g6, loadE_eq, getC_eq, m0, mq, mq0, hlt, getsB_1, storeK_g, putB_eq, roT, m1, hyone, sets]
      rw [hnt] at hin hyr
      rw [hin] at hyr ⊢
      exact ⟨hyr.setOther (k := st.nx + 1) (fun o l z e => by have := hyf.1 _ _ _ _ e; omega) (fun o l z e => by have := hyf.2 _ _ _ _ e; omega) _, (fun b hb => by
        rcases hb with ⟨_, _, _, e⟩ | ⟨_, _, _, e⟩
        · have := hyf.2 _ _ _ _ e; omega
        · have := hyf.1 _ _ _ _ e; omega), hx.set (by omega) (by omega) _⟩
abbrev LAct := Int × Int × Int × Int × List Rn
abbrev actC : Codec LAct := pairC iC (pairC iC (pairC iC (pairC iC (rowC (pairC iC iC)))))
theorem rowC_runs {st : St} {x : Nat → V} {l : List Rn} (h : (rowC (pairC iC iC)).at' st x l) : RdRow st (x 0) 2 l.length (cells l) := by
  obtain ⟨_, _, _, xs, h1, h2⟩ := h
  have hz : (pairC iC iC).z = 2 := rfl
  have e : (List.range (l.length * (pairC iC iC).z)).map xs = cells l := by
    apply List.ext_getElem?
    intro j
    rw [hz, List.getElem?_map]
    by_cases hj : j < l.length * 2
    · rw [List.getElem?_range hj]
      obtain ⟨r, hr⟩ : ∃ r, l[j / 2]? = some r := ⟨_, List.getElem?_eq_getElem (by omega)⟩
      obtain ⟨g0, g1⟩ := cells_get l (j / 2) r hr
      have h3 := h2 (j / 2) r hr
      have a0 : xs (j / 2 * 2 + 0) = .int .i64 r.1 := h3.1.1
      have a1 : xs (j / 2 * 2 + 1) = .int .i64 r.2 := h3.2.1
      rcases (show j = j / 2 * 2 + 0 ∨ j = j / 2 * 2 + 1 by omega) with e | e
      · rw [e, g0, Option.map_some, a0]
      · rw [e, g1, Option.map_some, a1]
    · rw [List.getElem?_eq_none (by rw [List.length_range]; omega), List.getElem?_eq_none (by rw [cells_length]; omega)]; rfl
  rw [e, hz] at h1
  exact h1
/-- a thing to do, as it came in -/
def i64in (a : Int) : Prop := -9223372036854775808 ≤ a ∧ a ≤ 9223372036854775807
theorem actC_in {st : St} {x : Nat → V} {o : LAct} (h : actC.at' st x o) : x 0 = .int .i64 o.1 ∧ x 1 = .int .i64 o.2.1 ∧ x 2 = .int .i64 o.2.2.1 ∧ x 3 = .int .i64 o.2.2.2.1 ∧ i64in o.2.1 ∧ i64in o.2.2.1 ∧ i64in o.2.2.2.1 ∧ RdRow st (x 4) 2 o.2.2.2.2.length (cells o.2.2.2.2) := by
  obtain ⟨h0, h1, h2, h3, h4⟩ := h
  exact ⟨h0.1, h1.1, h2.1, h3.1, h1.2, h2.2, h3.2, rowC_runs h4⟩
theorem fits_acts : Fits Try.prog (rowC actC) 24 := fits_row Try.underlying24 (by kernel_rfl) (by decide)
  (fits_struct Try.underlying40 (by kernel_rfl) (FitsF.cons rfl (by kernel_rfl) (fits_i Try.underlying3) (FitsF.cons rfl (by kernel_rfl) (fits_i Try.underlying3) (FitsF.cons rfl (by kernel_rfl) (fits_i Try.underlying3) (FitsF.cons rfl (by kernel_rfl) (fits_i Try.underlying3) (FitsF.one rfl (by kernel_rfl)
    (fits_row Try.underlying38 (by kernel_rfl) (by decide) (fits_struct Try.underlying52 (by kernel_rfl) (FitsF.cons rfl (by kernel_rfl) (fits_i Try.underlying3) (FitsF.one rfl (by kernel_rfl) (fits_i Try.underlying3)))))))))))
theorem rd_notint {s : St} {v : V} {z n : Nat} {l : List V} (h : RdRow s v z n l) : ∀ k a, v ≠ .int k a := by
  obtain ⟨_, ⟨rfl | rfl, _⟩ | ⟨m, o, q, ty, sz, t, rfl, _⟩ | ⟨m, o, ty, sz, t, rfl, _⟩⟩ := h <;> intro k a e <;> cases e
theorem own_ge {b z n m o ln w : Nat} {s : St} {y : V} {l : List V} (h : OwnRow b s y z n l) (e : y = .sg m o ln w) : b ≤ m ∧ m < s.nx := by
  obtain ⟨h1, ⟨h2, _⟩ | ⟨m', ty, t, h2, h3, h4, h5, h6⟩⟩ := h
  · rw [h2] at e; cases e
  · rw [h2] at e; injection e with e; omega
/-- a row of numbers does not lie where these things do -/
theorem rd_off {s : St} {v : V} {z n : Nat} {l : List V} (h : RdRow s v z n l) (hn : 0 < n * z) (hl : ∀ u ∈ l, ∃ k a, u = .int k a) {m ty N : Nat} {t : T V} (hg : s.h.get m = some (.cs ty N t)) (ht : ∀ j, j < N → ∃ w, t.get j = some w ∧ ∀ k a, w ≠ .int k a) : ¬ rowIn v m := by
  obtain ⟨h1, h2⟩ := h
  obtain ⟨u, hu⟩ : ∃ u, l[0]? = some u := ⟨_, List.getElem?_eq_getElem (by omega)⟩
  obtain ⟨k, a, rfl⟩ := hl u (List.mem_of_getElem? hu)
  have key : ∀ (m' o ty' sz : Nat) (t' : T V), m' = m → s.h.get m' = some (.cs ty' sz t') → o + n * z ≤ sz → (∀ j v, l[j]? = some v → t'.get (o + j) = some v) → False := fun m' o ty' sz t' e g1 g2 g3 => by
    subst e
    rw [hg] at g1
    injection g1 with g1
    injection g1 with e1 e2 e3
    subst e2 e3
    have := g3 0 _ hu
    rw [Nat.add_zero] at this
    obtain ⟨w, w1, w2⟩ := ht o (by omega)
    rw [w1] at this
    injection this with this
    exact w2 _ _ this
  rintro hm
  rcases h2 with ⟨rfl | rfl, _⟩ | ⟨m', o, q, ty', sz, t', rfl, h3, h4, h5, h6⟩ | ⟨m', o, ty', sz, t', rfl, h3, h4, h5, h6⟩
  · rcases hm with ⟨_, _, _, e⟩ | ⟨_, _, _, e⟩ <;> cases e
  · rcases hm with ⟨_, _, _, e⟩ | ⟨_, _, _, e⟩ <;> cases e
  · rcases hm with ⟨_, _, _, e⟩ | ⟨_, _, _, e⟩
    · injection e with e; exact key m' o ty' sz t' e h4 h5 h6
    · cases e
  · rcases hm with ⟨_, _, _, e⟩ | ⟨_, _, _, e⟩
    · cases e
    · injection e with e; exact key m' o ty' sz t' e h4 h5 h6
theorem wv_int (L : List (BitVec 64)) : ∀ u ∈ wv L, ∃ k a, u = .int k a := fun u hu => by
  unfold wv at hu
  obtain ⟨b, _, rfl⟩ := List.mem_map.1 hu
  exact ⟨_, _, rfl⟩
/-- what the law's memory is: the geometry, the pool, its own bits, what was told -/
structure PlM (g : Gm) (q0 q q9 m : Nat) (z y9 yt : V) (Lp Ll : List (BitVec 64)) (D : List (List Rn)) (TV : List V) (s : St) : Prop where
  m1 : 1 ≤ m
  q01 : q0 < q
  q19 : q < q9
  n9 : q9 < s.nx
  k0 : ∃ t, s.h.get q0 = some (.cs 23 4 t) ∧ t.get 0 = some (.int .i64 g.b) ∧ t.get 2 = some (.int .i64 g.c)
  hp : PoolAt s q g z m Lp
  hb : ∃ t, s.h.get q9 = some (.cs 33 1 t) ∧ t.get 0 = some y9
  hy : RdRow s y9 1 m (wv Ll)
  zf : ∀ b, rowIn z b → q0 < b
  yf : ∀ b, rowIn y9 b → q < b
  ht : OwnRow (q9 + 1) s yt 1 TV.length TV
  hT : TV.length = D.length
  hr : ∀ (j : Nat) R v, D[j]? = some R → TV[j]? = some v → RdRow s v 2 R.length (cells R) ∧ ∀ b, rowIn v b → q9 < b ∧ ∀ o k w, yt ≠ .sg b o k w
theorem PlM.tv {g : Gm} {q0 q q9 m : Nat} {z y9 yt : V} {Lp Ll : List (BitVec 64)} {D : List (List Rn)} {TV : List V} {s : St} (h : PlM g q0 q q9 m z y9 yt Lp Ll D TV s) : ∀ w ∈ TV, ∀ k a, w ≠ .int k a := fun w hw => by
  obtain ⟨j, hj, e⟩ := List.getElem_of_mem hw
  have e1 : TV[j]? = some w := by rw [List.getElem?_eq_getElem hj, e]
  exact rd_notint (h.hr j _ w (List.getElem?_eq_getElem (by rw [← h.hT]; exact hj)) e1).1
theorem PlM.offT {g : Gm} {q0 q q9 m : Nat} {z y9 yt : V} {Lp Ll : List (BitVec 64)} {D : List (List Rn)} {TV : List V} {s : St} (h : PlM g q0 q q9 m z y9 yt Lp Ll D TV s) {v : V} {L : List (BitVec 64)} (hv : RdRow s v 1 m (wv L)) : ∀ b, rowIn v b → ∀ o k w, yt ≠ .sg b o k w := fun b hb o k w e => by
  have hm := h.m1
  have h2 := h.ht
  obtain ⟨h1, ⟨h3, _⟩ | ⟨M, ty, t, h3, h4, h5, h6, h7, h8⟩⟩ := h2
  · rw [h3] at e; cases e
  · rw [h3] at e
    injection e with e
    subst e
    refine rd_off hv (by omega) (wv_int L) h6 (fun j hj => ?_) hb
    obtain ⟨w, hw⟩ : ∃ w, TV[j]? = some w := ⟨_, List.getElem?_eq_getElem (by omega)⟩
    exact ⟨w, h8 j w hw, h.tv w (List.mem_of_getElem? hw)⟩
theorem PlM.off9 {g : Gm} {q0 q q9 m : Nat} {z y9 yt : V} {Lp Ll : List (BitVec 64)} {D : List (List Rn)} {TV : List V} {s : St} (h : PlM g q0 q q9 m z y9 yt Lp Ll D TV s) {v : V} {L : List (BitVec 64)} (hv : RdRow s v 1 m (wv L)) : ¬ rowIn v q9 := by
  have hm := h.m1
  obtain ⟨t, t1, t2⟩ := h.hb
  exact rd_off hv (by omega) (wv_int L) t1 fun j hj => by
    obtain rfl : j = 0 := by omega
    exact ⟨y9, t2, rd_notint h.hy⟩
theorem PlM.ext {g : Gm} {q0 q q9 m : Nat} {z y9 yt : V} {Lp Ll : List (BitVec 64)} {D : List (List Rn)} {TV : List V} {s s' : St} (h : PlM g q0 q q9 m z y9 yt Lp Ll D TV s) (k : Ext s.nx s s') : PlM g q0 q q9 m z y9 yt Lp Ll D TV s' := by
  obtain ⟨a1, a2, a3, a4, ⟨t, a5, a6⟩, a7, ⟨t', a8, a9⟩, b1, b2, b3, b4, b5, b6⟩ := h
  exact ⟨a1, a2, a3, Nat.lt_of_lt_of_le a4 k.le, ⟨t, (k.keep _ (by omega)).trans a5, a6⟩, a7.ext k, ⟨t', (k.keep _ a4).trans a8, a9⟩, b1.ext k, b2, b3, b4.ext k, b5, fun j R v e1 e2 => ⟨(b6 j R v e1 e2).1.ext k, (b6 j R v e1 e2).2⟩⟩
theorem PlM.mark {g : Gm} {q0 q q9 m : Nat} {z y9 yt : V} {Lp Ll L' : List (BitVec 64)} {D : List (List Rn)} {TV : List V} {s : St} {r : V × St} (h : PlM g q0 q q9 m z y9 yt Lp Ll D TV s) (k : mkR s q m g L' r) : ∃ z', PlM g q0 q q9 m z' y9 yt L' Ll D TV r.2 := by
  obtain ⟨a1, a2, a3, a4, ⟨t, a5, a6⟩, a7, ⟨t', a8, a9⟩, b1, b2, b3, b4, b5, b6⟩ := h
  obtain ⟨z', k1, k2, k3, k4, k5⟩ := k
  have kr : ∀ {v : V} {z n : Nat} {l : List V}, RdRow s v z n l → (∀ b, rowIn v b → q < b) → RdRow r.2 v z n l := fun hv hq => row_keep hv fun b hb hlt => ⟨Nat.lt_of_lt_of_le hlt k2, k3 b hlt (by have := hq b hb; omega)⟩
  exact ⟨z', a1, a2, a3, Nat.lt_of_lt_of_le a4 k2, ⟨t, (k3 _ (by omega) (by omega)).trans a5, a6⟩, k1, ⟨t', (k3 _ a4 (by omega)).trans a8, a9⟩, kr b1 b3, fun b hb => (by have := k5 b hb; omega), b3, OwnRow.kept b4 k2 (fun M ⟨o, ln, e⟩ hlt => k3 M hlt (by have := (own_ge b4 e).1; omega)), b5, fun j R v e1 e2 => ⟨kr (b6 j R v e1 e2).1 (fun b hb => by have := ((b6 j R v e1 e2).2 b hb).1; omega), (b6 j R v e1 e2).2⟩⟩
theorem PlM.setb {g : Gm} {q0 q q9 m : Nat} {z y9 yt y' : V} {Lp Ll L' : List (BitVec 64)} {D : List (List Rn)} {TV : List V} {s : St} (h : PlM g q0 q q9 m z y9 yt Lp Ll D TV s) {t : T V} (ht : t.get 0 = some y') (hy : RdRow s y' 1 m (wv L')) (hf : ∀ b, rowIn y' b → q9 < b) : PlM g q0 q q9 m z y' yt Lp L' D TV ⟨s.nx, s.h.set q9 (.cs 33 1 t)⟩ := by
  have o9 : ∀ {v : V} {L : List (BitVec 64)}, RdRow s v 1 m (wv L) → ¬ rowIn v q9 := fun hv => h.off9 hv
  obtain ⟨a1, a2, a3, a4, ⟨t0, a5, a6⟩, a7, ⟨t', a8, a9⟩, b1, b2, b3, b4, b5, b6⟩ := h
  have kr : ∀ {v : V} {z n : Nat} {l : List V}, RdRow s v z n l → ¬ rowIn v q9 → RdRow ⟨s.nx, s.h.set q9 (.cs 33 1 t)⟩ v z n l := fun hv hq => row_keep hv fun b hb hlt => ⟨hlt, T.get_set_ne _ _ (fun e => hq (by rw [e]; exact hb))⟩
  obtain ⟨p1, ⟨tp, p2, p3⟩, p4⟩ := a7
  exact ⟨a1, a2, a3, a4, ⟨t0, (T.get_set_ne _ _ (by omega)).trans a5, a6⟩, ⟨p1, ⟨tp, (T.get_set_ne _ _ (by omega)).trans p2, p3⟩, kr p4 (o9 p4)⟩, ⟨t, T.get_set_same _ _ _, ht⟩, kr hy (o9 hy), b2, fun b hb => by have := hf b hb; omega, OwnRow.kept b4 (Nat.le_refl _) (fun M ⟨o, ln, e⟩ hlt => T.get_set_ne _ _ (by have := (own_ge b4 e).1; omega)), b5, fun j R v e1 e2 => ⟨kr (b6 j R v e1 e2).1 (fun hb => by have := ((b6 j R v e1 e2).2 _ hb).1; omega), (b6 j R v e1 e2).2⟩⟩
theorem PlM.app {g : Gm} {q0 q q9 m : Nat} {z y9 yt v yt' : V} {Lp Ll : List (BitVec 64)} {D : List (List Rn)} {TV : List V} {R : List Rn} {s s' : St} (h : PlM g q0 q q9 m z y9 yt Lp Ll D TV s) (hv : RdRow s v 2 R.length (cells R)) (hq : ∀ b, rowIn v b → q9 < b ∧ ∀ o k w, yt ≠ .sg b o k w)
    (ho : OwnRow (q9 + 1) s' yt' 1 (TV.length + 1) (TV ++ [v])) (hx : Ext (q9 + 1) s s') (hk : ∀ M, M < s.nx → (∀ o ln, yt ≠ .sg M o ln 1) → s'.h.get M = s.h.get M) (hn : yt' = yt ∨ ∃ ln, yt' = .sg s.nx 0 ln 1) : PlM g q0 q q9 m z y9 yt' Lp Ll (D ++ [R]) (TV ++ [v]) s' := by
  have oT : ∀ {v : V} {L : List (BitVec 64)}, RdRow s v 1 m (wv L) → ∀ b, rowIn v b → ∀ o k w, yt ≠ .sg b o k w := fun hv => h.offT hv
  obtain ⟨a1, a2, a3, a4, ⟨t0, a5, a6⟩, a7, ⟨t', a8, a9⟩, b1, b2, b3, b4, b5, b6⟩ := h
  have kr : ∀ {v : V} {z n : Nat} {l : List V}, RdRow s v z n l → (∀ b, rowIn v b → ∀ o k w, yt ≠ .sg b o k w) → RdRow s' v z n l := fun hv hq => row_keep hv fun b hb hlt => ⟨Nat.lt_of_lt_of_le hlt hx.le, hk b hlt fun o ln => hq b hb o ln 1⟩
  have k9 : ∀ b, b ≤ q9 → b < s.nx → s'.h.get b = s.h.get b := fun b hb hlt => hx.keep b (by omega)
  obtain ⟨p1, ⟨tp, p2, p3⟩, p4⟩ := a7
  have hoff : ∀ {v : V} {z n : Nat} {l : List V}, RdRow s v z n l → (∀ b, rowIn v b → ∀ o k w, yt ≠ .sg b o k w) → ∀ b, rowIn v b → ∀ o k w, yt' ≠ .sg b o k w := fun hv hq b hb o k w e => by
    rcases hn with hn | ⟨ln, hn⟩
    · rw [hn] at e; exact hq b hb o k w e
    · rw [hn] at e
      injection e with e
      have hlt := rowAt_none hv hb
      omega
  refine ⟨a1, a2, a3, Nat.lt_of_lt_of_le a4 hx.le, ⟨t0, (k9 _ (by omega) (by omega)).trans a5, a6⟩, ⟨Nat.lt_of_lt_of_le p1 hx.le, ⟨tp, (k9 _ (by omega) p1).trans p2, p3⟩, kr p4 (oT p4)⟩, ⟨t', (k9 _ (Nat.le_refl _) a4).trans a8, a9⟩, kr b1 (oT b1), b2, b3, by rw [List.length_append]; exact ho, by rw [List.length_append, List.length_append, b5]; rfl, fun j R' v' e1 e2 => ?_⟩
  by_cases hj : j < D.length
  · rw [List.getElem?_append_left hj] at e1
    rw [List.getElem?_append_left (by omega)] at e2
    have := b6 j R' v' e1 e2
    exact ⟨kr this.1 fun b hb => (this.2 b hb).2, fun b hb => ⟨(this.2 b hb).1, hoff this.1 (fun b hb => (this.2 b hb).2) b hb⟩⟩
  · rw [List.getElem?_append_right (by omega)] at e1 e2
    have h0 : j - D.length = 0 := by
      have := lt_of_get e1
      simp at this
      omega
    rw [h0] at e1
    rw [show j - TV.length = 0 by omega] at e2
    simp at e1 e2
    subst e1 e2
    exact ⟨kr hv fun b hb => (hq b hb).2, fun b hb => ⟨(hq b hb).1, hoff hv (fun b hb => (hq b hb).2) b hb⟩⟩
theorem PlM.put {g : Gm} {q0 q q9 m : Nat} {z y9 yt : V} {Lp Ll : List (BitVec 64)} {D : List (List Rn)} {TV : List V} {s : St} (h : PlM g q0 q q9 m z y9 yt Lp Ll D TV s) {j : Nat} (hj : j < TV.length) {M ty : Nat} {t : T V} (e : yt = .sg M 0 TV.length 1)
    (ho : OwnRow (q9 + 1) ⟨s.nx, s.h.set M (.cs ty TV.length t)⟩ yt 1 TV.length (TV.set j (.c (.slice none 0 0)))) : PlM g q0 q q9 m z y9 yt Lp Ll (D.set j []) (TV.set j (.c (.slice none 0 0))) ⟨s.nx, s.h.set M (.cs ty TV.length t)⟩ := by
  have oT : ∀ {v : V} {L : List (BitVec 64)}, RdRow s v 1 m (wv L) → ∀ b, rowIn v b → ∀ o k w, yt ≠ .sg b o k w := fun hv => h.offT hv
  obtain ⟨a1, a2, a3, a4, ⟨t0, a5, a6⟩, a7, ⟨t', a8, a9⟩, b1, b2, b3, b4, b5, b6⟩ := h
  have hM := (own_ge b4 e).1
  have kr : ∀ {v : V} {z n : Nat} {l : List V}, RdRow s v z n l → (∀ b, rowIn v b → ∀ o k w, yt ≠ .sg b o k w) → RdRow ⟨s.nx, s.h.set M (.cs ty TV.length t)⟩ v z n l := fun hv hq => row_keep hv fun b hb hlt => ⟨hlt, T.get_set_ne _ _ fun e' => hq b hb 0 TV.length 1 (by rw [← e']; exact e)⟩
  obtain ⟨p1, ⟨tp, p2, p3⟩, p4⟩ := a7
  refine ⟨a1, a2, a3, a4, ⟨t0, (T.get_set_ne _ _ (by omega)).trans a5, a6⟩, ⟨p1, ⟨tp, (T.get_set_ne _ _ (by omega)).trans p2, p3⟩, kr p4 (oT p4)⟩, ⟨t', (T.get_set_ne _ _ (by omega)).trans a8, a9⟩, kr b1 (oT b1), b2, b3, by rw [List.length_set]; exact ho, by rw [List.length_set, List.length_set, b5], fun i R' v' e1 e2 => ?_⟩
  by_cases hij : j = i
  · subst hij
    rw [List.getElem?_set_self (by omega)] at e1 e2
    injection e1 with e1
    injection e2 with e2
    subst e1 e2
    exact ⟨(OwnRow.nil 0 _ 2).rd, fun b hb => by rcases hb with ⟨_, _, _, e⟩ | ⟨_, _, _, e⟩ <;> cases e⟩
  · rw [List.getElem?_set_ne hij] at e1 e2
    have := b6 i R' v' e1 e2
    exact ⟨kr this.1 fun b hb => (this.2 b hb).2, this.2⟩
end Go.Proofs.Ytlonobfpogimgaa
set_option linter.unusedSimpArgs false
set_option linter.unusedVariables false
namespace Go.Proofs.Ytlonobfpogimgaa
open Go.RowKit Ev
theorem nextF_allno {p : Nat → Bool} : ∀ {n i : Nat}, (∀ j, i ≤ j → j < i + n → p j = false) → nextF p n i = none
  | 0, _, _ => rfl
  | n + 1, i, h => by
    unfold nextF
    rw [h i (Nat.le_refl _) (by omega)]
    exact nextF_allno fun j h1 h2 => h j (by omega) (by omega)
theorem nextB_full {L : List (BitVec 64)} {a b : Nat} (hab : a ≤ b) (hb : b ≤ L.length * 64) (h : ∀ j, a ≤ j → j < b → bit L j = true) : nextB L false (a : Int) (b : Int) = none := by
  rw [nextB_nat L false hab hb]
  exact nextF_allno fun j h1 h2 => by rw [h j h1 (by omega)]; rfl
structure TkOld (L : List (BitVec 64)) (f e : Nat) (C : List Int) (R : List Rn) : Prop where
  one : ∀ r ∈ R, 1 ≤ r.2 ∧ (f : Int) ≤ r.1 ∧ r.1 + r.2 ≤ (e : Int) ∧ r.1 ∈ C ∧ r.1 + r.2 ∈ C
  dis : R.Pairwise Dis
  tk : ∀ j : Nat, inR R j → bit L j = true
  len : R.length ≤ 20
structure PlP (g : Gm) (f e : Nat) (L : List (BitVec 64)) (D : List (List Rn)) (C : List Int) (n : Nat) : Prop where
  cov : Cov L f e C
  cl : C.length ≤ n
  gs : ∀ c : Int, 0 ≤ c → c < g.c → gF g c ∈ C
  out : OutD L g.b.toNat f e
  old : ∀ R ∈ D, TkOld L f e C R
  dj : D.Pairwise fun A B => ∀ j : Nat, inR A j → ¬ inR B j
  ll : e ≤ L.length * 64
  dn : D.length ≤ n
theorem PlP.mono {g : Gm} {f e : Nat} {L : List (BitVec 64)} {D : List (List Rn)} {C : List Int} {n n' : Nat} (h : PlP g f e L D C n) (k : n ≤ n') : PlP g f e L D C n' := ⟨h.cov, Nat.le_trans h.cl k, h.gs, h.out, h.old, h.dj, h.ll, Nat.le_trans h.dn k⟩
theorem PlP.take {g : Gm} {f e : Nat} {L : List (BitVec 64)} {D : List (List Rn)} {C : List Int} {n : Nat} (h : PlP g f e L D C n) {R : List Rn} {p N : Int} (k : TkOk L f e C R p N) : PlP g f e (setB L true (allJ R)) (D ++ [R]) (p :: C) (n + 1) := by
  obtain ⟨h1, h2, h3, h4, h5, h6, h7, h8⟩ := h
  have hsub : ∀ x ∈ C, x ∈ p :: C := fun x hx => List.mem_cons_of_mem _ hx
  have hends : ∀ r ∈ R, r.1 ∈ p :: C ∧ r.1 + r.2 ∈ p :: C := fun r hr => by
    obtain ⟨e1, e2⟩ := k.ends r hr
    refine ⟨hsub _ e1, ?_⟩
    rcases e2 with e2 | e2
    · exact hsub _ e2
    · rw [e2]; exact List.mem_cons_self ..
  refine ⟨h1.set hsub hends true h7, by simp only [List.length_cons]; omega, fun c c0 c1 => hsub _ (h3 c c0 c1), h4.set (fun r hr => .inr (k.lie r hr)) true, fun A hA => ?_, ?_, by rw [setB_length]; exact h7, by rw [List.length_append]; simp only [List.length_cons, List.length_nil]; omega⟩
  · rcases List.mem_append.1 hA with hA | hA
    · obtain ⟨a1, a2, a3, a4⟩ := h5 A hA
      refine ⟨fun r hr => by
        obtain ⟨b1, b2, b3, b4, b5⟩ := a1 r hr
        exact ⟨b1, b2, b3, hsub _ b4, hsub _ b5⟩, a2, fun j hj => ?_, a4⟩
      by_cases c : inR R j
      · obtain ⟨r, hr, r1, r2⟩ := c
        have := k.lie r hr
        exact bit_in ⟨r, hr, r1, r2⟩ (by omega)
      · rw [bit_off c]; exact a3 j hj
    · obtain rfl : A = R := by simpa using hA
      refine ⟨fun r hr => ⟨(k.ok r hr).2.1, (k.lie r hr).1, (k.lie r hr).2, hends r hr⟩, k.dis, fun j hj => ?_, k.len⟩
      obtain ⟨r, hr, r1, r2⟩ := hj
      have := k.lie r hr
      exact bit_in ⟨r, hr, r1, r2⟩ (by omega)
  · refine List.pairwise_append.2 ⟨h6, List.pairwise_singleton _ _, fun A hA B hB j ja jb => ?_⟩
    obtain rfl : B = R := by simpa using hB
    have t1 := (h5 A hA).tk j ja
    rw [k.free j jb] at t1
    cases t1
theorem PlP.give {g : Gm} {f e : Nat} {L : List (BitVec 64)} {D : List (List Rn)} {C : List Int} {n : Nat} (h : PlP g f e L D C n) {x : Nat} {R : List Rn} (hx : D[x]? = some R) : PlP g f e (setB L false (allJ R)) (D.set x []) C n := by
  obtain ⟨h1, h2, h3, h4, h5, h6, h7, h8⟩ := h
  have hR := h5 R (List.mem_of_getElem? hx)
  have hlt : x < D.length := lt_of_get hx
  rw [List.pairwise_iff_getElem] at h6
  have hdj : ∀ (i : Nat) (A : List Rn), i ≠ x → D[i]? = some A → ∀ j : Nat, inR A j → ¬ inR R j := fun i A hi hA j ja jr => by
    have hil := lt_of_get hA
    rw [List.getElem?_eq_getElem hil] at hA
    injection hA with hA
    rw [List.getElem?_eq_getElem hlt] at hx
    injection hx with hx
    rcases Nat.lt_or_gt_of_ne hi with c | c
    · exact h6 i x hil hlt c j (by rw [hA]; exact ja) (by rw [hx]; exact jr)
    · exact h6 x i hlt hil c j (by rw [hx]; exact jr) (by rw [hA]; exact ja)
  refine ⟨h1.set (fun x hx => hx) (fun r hr => ⟨(hR.one r hr).2.2.2.1, (hR.one r hr).2.2.2.2⟩) false h7, h2, h3, h4.set (fun r hr => .inr ⟨(hR.one r hr).2.1, (hR.one r hr).2.2.1⟩) false, fun A hA => ?_, ?_, by rw [setB_length]; exact h7, by rw [List.length_set]; exact h8⟩
  · obtain ⟨i, hi, e⟩ := List.getElem_of_mem hA
    have e1 : (D.set x [])[i]? = some A := by rw [List.getElem?_eq_getElem hi, e]
    by_cases c : x = i
    · subst c
      rw [List.getElem?_set_self hlt] at e1
      injection e1 with e1
      subst e1
      exact ⟨nofun, List.Pairwise.nil, fun j ⟨r, hr, _⟩ => (by cases hr), by simp⟩
    · rw [List.getElem?_set_ne c] at e1
      obtain ⟨a1, a2, a3, a4⟩ := h5 A (List.mem_of_getElem? e1)
      exact ⟨a1, a2, fun j hj => by rw [bit_off (hdj i A (fun k => c k.symm) e1 j hj)]; exact a3 j hj, a4⟩
  · rw [List.pairwise_iff_getElem]
    intro i j hi hj hij k ka kb
    rw [List.getElem_set] at ka kb
    have hi' : i < D.length := by simpa using hi
    have hj' : j < D.length := by simpa using hj
    by_cases c1 : x = i
    · rw [if_pos c1] at ka; obtain ⟨r, hr, _⟩ := ka; cases hr
    · rw [if_neg c1] at ka
      by_cases c2 : x = j
      · rw [if_pos c2] at kb; obtain ⟨r, hr, _⟩ := kb; cases hr
      · rw [if_neg c2] at kb
        exact h6 i j hi' hj' hij k ka kb
theorem cnt_of {r : Rn} (h1 : 1 ≤ r.2) (h2 : 0 ≤ r.1) (h3 : r.1 + r.2 ≤ 100000) : cnt r = true := by unfold cnt; simp; omega
theorem TkOld.giveP {L : List (BitVec 64)} {f e : Nat} {C : List Int} {R : List Rn} (h : TkOld L f e C R) (ll : e ≤ L.length * 64) (he : e ≤ 1000) : giveP L f e R := by
  refine ⟨fun r hr => .inr ?_, ?_⟩
  · obtain ⟨b1, b2, b3, _, _⟩ := h.one r hr
    obtain ⟨a, ha⟩ := Int.eq_ofNat_of_zero_le (show 0 ≤ r.1 by omega)
    obtain ⟨k, hk⟩ := Int.eq_ofNat_of_zero_le (show 0 ≤ r.1 + r.2 by omega)
    refine ⟨b2, by omega, by omega, ?_⟩
    rw [hk, ha]
    exact nextB_full (by omega) (by omega) fun j j1 j2 => h.tk j ⟨r, hr, by omega, by omega⟩
  · rw [List.filter_eq_self.2 fun r hr => by
      obtain ⟨b1, b2, b3, _, _⟩ := h.one r hr
      exact cnt_of b1 (by omega) (by omega)]
    exact h.dis
/-- runs given back: so many more are free -/
theorem give_free {L : List (BitVec 64)} {f e : Nat} {K A B : List Rn} (hfe : f ≤ e) (he : e ≤ 1000) (ll : e ≤ L.length * 64) (h : giveP L f e K) (hA : gapsP L e A f) (hB : gapsP (setB L false (allJ K)) e B f) : lens B = lens A + lens (K.filter cnt) := by
  have hfl : K.filter cnt = K.filter fun r => decide (1 ≤ r.2) := by
    apply List.filter_congr
    intro r hr
    rcases h.1 r hr with h1 | ⟨h1, h2, h3, h4⟩
    · rw [decide_eq_false (by omega)]
      unfold cnt
      rw [decide_eq_false (show ¬ 1 ≤ r.2 by omega)]; rfl
    · by_cases c : 1 ≤ r.2
      · rw [decide_eq_true c]; exact cnt_of c (by omega) (by omega)
      · rw [decide_eq_false c]
        unfold cnt
        rw [decide_eq_false c]; rfl
  have hd := h.2
  rw [hfl] at hd ⊢
  have hc := give_cnt (f := f) (e := e) K L ll (fun r hr => by
    rcases h.1 r hr with h1 | ⟨h1, h2, h3, h4⟩
    · exact .inl h1
    · by_cases c : r.2 < 1
      · exact .inl c
      · refine .inr ⟨h1, by omega, fun j j1 j2 => ?_⟩
        obtain ⟨a, ha⟩ := Int.eq_ofNat_of_zero_le (show 0 ≤ r.1 by omega)
        obtain ⟨k, hk⟩ := Int.eq_ofNat_of_zero_le (show 0 ≤ r.1 + r.2 by omega)
        rw [hk, ha] at h4
        have := nextB_none (yes := false) (by omega) (by omega) h4 j (by omega) (by omega)
        simpa using this) hd e (Nat.le_refl _)
  have g1 := gaps_cnt ll A f hfe hA
  have g2 := gaps_cnt (by rw [setB_length]; exact ll) B f hfe hB
  omega
/-- of what Take tells, the next block is free still -/
theorem has_free {L : List (BitVec 64)} {f e : Nat} {C : List Int} {R : List Rn} {p N : Int} (k : TkOk L f e C R p N) {i j : Nat} {r : Rn} (hr : R[i]? = some r) (hj : (j : Int) < r.2) : hasI (setB L true (allJ (R.take i) ++ runJ r.1 j)) (r.1 + (j : Int)) = false := by
  have hm := List.mem_of_getElem? hr
  have hk := k.ok r hm
  obtain ⟨a, ha⟩ := Int.eq_ofNat_of_zero_le (show 0 ≤ r.1 + (j : Int) by omega)
  rw [ha, hasI_nat, bit_setBB, if_neg]
  · exact k.free a ⟨r, hm, by omega, by omega⟩
  · rintro ⟨h1, _⟩
    rcases List.mem_append.1 h1 with h1 | h1
    · obtain ⟨q, hq, q1, q2⟩ := mem_allJ.1 h1
      obtain ⟨i', hi', e⟩ := List.getElem_of_mem hq
      have e1 : (R.take i)[i']? = some q := by rw [List.getElem?_eq_getElem hi', e]
      have hii : i' < i := by simp at hi'; omega
      rw [List.getElem?_take_of_lt hii] at e1
      have hd := pair_at k.dis hii e1 hr
      unfold Dis at hd
      omega
    · unfold runJ at h1
      obtain ⟨t, ht, e⟩ := List.mem_map.1 h1
      have := List.mem_range.1 ht
      omega
theorem pl_start (g : Gm) (hg : isGood g) {f e : Nat} (hf : dF g = (f : Int)) (he : dF g + dN g = (e : Int)) (hfe : f ≤ e) (ll : e ≤ (emptyI g g.b.toNat).length * 64) : ∃ C, PlP g f e (emptyI g g.b.toNat) [] C 9 := by
  obtain ⟨h1, h2, h3, h4, h5, h6, h7, h8⟩ := hg.1
  let C : List Int := (e : Int) :: (List.range g.c.toNat).map fun (k : Nat) => gF g (k : Int)
  have hgs : ∀ c : Int, 0 ≤ c → c < g.c → gF g c ∈ C := fun c c0 c1 => List.mem_cons_of_mem _ (List.mem_map.2 ⟨c.toNat, List.mem_range.2 (by omega), by simp only [Int.toNat_of_nonneg c0]⟩)
  have h0 : (f : Int) ∈ C := by
    have := hgs 0 (Int.le_refl _) (by omega)
    unfold gF at this
    rw [Int.zero_mul, Int.add_zero, hf] at this
    exact this
  exact ⟨C, cov_empty g hg hf he hfe h0 (List.mem_cons_self ..), by show ((List.range g.c.toNat).map _).length + 1 ≤ 9; rw [List.length_map, List.length_range]; omega, hgs, out_empty g hg hf he hfe, nofun, List.Pairwise.nil, ll, by simp⟩
end Go.Proofs.Ytlonobfpogimgaa
set_option linter.unusedSimpArgs false
set_option linter.unusedVariables false
namespace Go.Proofs.Ytlonobfpogimgaa
open Go.RowKit Ev
def ppE (x1 : V) (q0 q q9 f e i : Nat) (yt : V) (en : Env) : Prop := en.get 1 = some x1 ∧ en.get 2 = some (.p q0 0) ∧ en.get 5 = some (.p q 0) ∧ en.get 7 = some (.int .i64 (f : Int)) ∧ en.get 8 = some (.int .i64 ((e : Int) - (f : Int))) ∧ en.get 9 = some (.p q9 0) ∧ en.get 10 = some yt ∧ en.get 11 = some (.int .i64 (i : Int))
def ppI (st : St) (x1 : V) (n : Nat) (g : Gm) (q0 q q9 f e m : Nat) (en : Env) (s : St) : Prop := ∃ (i : Nat) (z y9 yt : V) (L : List (BitVec 64)) (D : List (List Rn)) (TV : List V) (C : List Int), i ≤ n ∧ ppE x1 q0 q q9 f e i yt en ∧ Ext st.nx st s ∧ L.length = m ∧ PlM g q0 q q9 m z y9 yt L L D TV s ∧ PlP g f e L D C (9 + i)
/-- behind the switch -/
def ppJ (st : St) (x1 : V) (i : Nat) (g : Gm) (q0 q q9 f e m : Nat) (en : Env) (s : St) : Prop := ∃ (z y9 yt : V) (L : List (BitVec 64)) (D : List (List Rn)) (TV : List V) (C : List Int), ppE x1 q0 q q9 f e i yt en ∧ Ext st.nx st s ∧ L.length = m ∧ PlM g q0 q q9 m z y9 yt L L D TV s ∧ PlP g f e L D C (10 + i)
def ppR (st : St) (x1 : V) (i : Nat) (g : Gm) (q0 q q9 f e m : Nat) (r : X × Env × St) : Prop := JE (fun en s => ppJ st x1 i g q0 q q9 f e m en s) r ∨ ∃ (en : Env) (s : St), r = (.ret, en, s) ∧ en.get 4 = some (.bool true)
def ppC (x1 : V) (q0 q q9 f e i : Nat) (yt : V) (c m : Nat) (s0 : St) (en : Env) (s : St) : Prop := ∃ k : Nat, k ≤ m ∧ ppE x1 q0 q q9 f e i yt en ∧ en.get 22 = some (.p c 0) ∧ en.get 23 = some (.int .i64 (k : Int)) ∧ s0 = s
def ppO (st : St) (x1 : V) (g : Gm) (q0 q q9 f e i m : Nat) (z yt y : V) (Lp L : List (BitVec 64)) (R : List Rn) (D : List (List Rn)) (TV : List V) (en : Env) (s : St) : Prop := ∃ (k : Nat) (y9 : V), k ≤ R.length ∧ ppE x1 q0 q q9 f e i yt en ∧ en.get 13 = some y ∧ en.get 17 = some (.int .i64 (k : Int)) ∧ Ext st.nx st s ∧ PlM g q0 q q9 m z y9 yt Lp (setB L true (allJ (R.take k))) D TV s ∧ RdRow s y 2 R.length (cells R)
def ppN (st : St) (x1 : V) (g : Gm) (q0 q q9 f e i m : Nat) (z yt y : V) (Lp L : List (BitVec 64)) (R : List Rn) (D : List (List Rn)) (TV : List V) (k : Nat) (r : Rn) (en : Env) (s : St) : Prop := ∃ (j : Nat) (y9 : V), (j : Int) ≤ r.2 ∧ ppE x1 q0 q q9 f e i yt en ∧ en.get 13 = some y ∧ en.get 17 = some (.int .i64 (k : Int)) ∧ en.get 18 = some (.int .i64 (j : Int)) ∧ Ext st.nx st s ∧ PlM g q0 q q9 m z y9 yt Lp (setB L true (allJ (R.take k) ++ runJ r.1 j)) D TV s ∧ RdRow s y 2 R.length (cells R)
def ppS (st : St) (x1 : V) (g : Gm) (q0 q q9 f e i m xb : Nat) (n : Int) (z yt : V) (Lp L : List (BitVec 64)) (R : List Rn) (D : List (List Rn)) (TV : List V) (en : Env) (s : St) : Prop := ∃ (k : Nat) (y9 : V), k ≤ R.length ∧ ppE x1 q0 q q9 f e i yt en ∧ en.get 12 = some (.p xb 0) ∧ en.get 19 = some (.int .i64 (k : Int)) ∧ Ext st.nx st s ∧ PlM g q0 q q9 m z y9 yt Lp (setB L false (allJ (R.take k))) D TV s ∧ xb < s.nx ∧ ∃ t, s.h.get xb = some (.cs 40 5 t) ∧ t.get 2 = some (.int .i64 n)
def ppT (st : St) (x1 : V) (g : Gm) (q0 q q9 f e i m xb : Nat) (n : Int) (z yt : V) (Lp L : List (BitVec 64)) (R : List Rn) (D : List (List Rn)) (TV : List V) (k : Nat) (r : Rn) (en : Env) (s : St) : Prop := ∃ (j : Nat) (y9 : V), (j : Int) ≤ r.2 ∧ ppE x1 q0 q q9 f e i yt en ∧ en.get 12 = some (.p xb 0) ∧ en.get 19 = some (.int .i64 (k : Int)) ∧ en.get 20 = some (.int .i64 (j : Int)) ∧ Ext st.nx st s ∧ PlM g q0 q q9 m z y9 yt Lp (setB L false (allJ (R.take k) ++ runJ r.1 j)) D TV s ∧ xb < s.nx ∧ ∃ t, s.h.get xb = some (.cs 40 5 t) ∧ t.get 2 = some (.int .i64 n)
theorem rd_offP {P : V → Prop} {s : St} {v : V} {z n : Nat} {l : List V} (h : RdRow s v z n l) (hn : 0 < n * z) (hl : ∀ u ∈ l, P u) {m ty N : Nat} {t : T V} (hg : s.h.get m = some (.cs ty N t)) (ht : ∀ j, j < N → ∃ w, t.get j = some w ∧ ¬ P w) : ¬ rowIn v m := by
  obtain ⟨h1, h2⟩ := h
  obtain ⟨u, hu⟩ : ∃ u, l[0]? = some u := ⟨_, List.getElem?_eq_getElem (by omega)⟩
  have hPu := hl u (List.mem_of_getElem? hu)
  have key : ∀ (m' o ty' sz : Nat) (t' : T V), m' = m → s.h.get m' = some (.cs ty' sz t') → o + n * z ≤ sz → (∀ j v, l[j]? = some v → t'.get (o + j) = some v) → False := fun m' o ty' sz t' e g1 g2 g3 => by
    subst e
    rw [hg] at g1
    injection g1 with g1
    injection g1 with e1 e2 e3
    subst e2 e3
    have := g3 0 _ hu
    rw [Nat.add_zero] at this
    obtain ⟨w, w1, w2⟩ := ht o (by omega)
    rw [w1] at this
    injection this with this
    exact w2 (by rw [this]; exact hPu)
  rintro hm
  rcases h2 with ⟨rfl | rfl, _⟩ | ⟨m', o, q, ty', sz, t', rfl, h3, h4, h5, h6⟩ | ⟨m', o, ty', sz, t', rfl, h3, h4, h5, h6⟩
  · rcases hm with ⟨_, _, _, e⟩ | ⟨_, _, _, e⟩ <;> cases e
  · rcases hm with ⟨_, _, _, e⟩ | ⟨_, _, _, e⟩ <;> cases e
  · rcases hm with ⟨_, _, _, e⟩ | ⟨_, _, _, e⟩
    · injection e with e; exact key m' o ty' sz t' e h4 h5 h6
    · cases e
  · rcases hm with ⟨_, _, _, e⟩ | ⟨_, _, _, e⟩
    · cases e
    · injection e with e; exact key m' o ty' sz t' e h4 h5 h6
theorem clash_off {e : Env} {t : Nat} {w : V} {fl : List (Nat × Nat)} {s : St} {z n : Nat} {l : List V} (hg : e.get t = some w) (hr : RdRow s w z n l) (hq : ∀ b, rowIn w b → inF fl b = false) : clashes e fl (.tmp t) = false := by
  rw [clashes_tmp, hg]
  rcases hr.2 with ⟨rfl | rfl, _⟩ | ⟨m, o, q, ty, sz, t, rfl, _⟩ | ⟨m, o, ty, sz, t, rfl, _⟩
  · rfl
  · rfl
  · exact hq m (.inl ⟨_, _, _, rfl⟩)
  · exact hq m (.inr ⟨_, _, _, rfl⟩)
theorem own_from {b z n : Nat} {s : St} {y : V} {l : List V} (h : OwnRow b s y z n l) : ∀ k, rowIn y k → b ≤ k := fun k hk => by
  rcases hk with ⟨o, q, r, e⟩ | ⟨o, q, r, e⟩
  · obtain ⟨_, ⟨h2, _⟩ | ⟨m', ty, t, h2, _⟩⟩ := h <;> rw [h2] at e <;> cases e
  · exact (own_ge h e).1
theorem apart_dis {R : List Rn} (h : R.Pairwise Dis) : apartR R R.length := fun i hi k hk ht => by
  have hd := pair_at h hk (ra_get (by omega)) (ra_get hi)
  unfold Dis at hd
  unfold hit at ht
  omega
theorem Gd_gen {P : Program} {M : Mach P} {c : Cx} {code : Code} {Q : X × Env × St → Prop} {E : Env} {s : St} (R : Env → Prop) (h : R E) (k : ∀ E', R E' → Gd (M.E c code E' s) Q) : Gd (M.E c code E s) Q := k E h
set_option maxRecDepth 20000 in
set_option maxHeartbeats 8000000 in
theorem g_PoolPlays (st : St) (g : Gm) (x : Nat → V) (l : List LAct) (hat : (rowC actC).at' st x l) :
    Gd (lawX Try.prog (callL Try.prog) 4 ⟨false, [], 0, 0⟩ 3 [gV g, x 0] st) fun r => r.1 = .bool true := by
  rw [Gd_lawX Try.func3 rfl]
  have hwf : wantK false (some V.u) = false := rfl
  have hwu : wantK true (some V.u) = false := rfl
  have hlen := fun s => rowC_len hat s
  simp [gV, evOp_call, sets, T.get_set, oracF_cons, cellsOf, newC_is, loadE_eq, getC_eq, getsB_succ, getsB_zero]
  refine Gd.mono (good_any _ [] (fun _ _ => rfl) 0 (Nat.zero_le _) g _) ?_
  rintro ⟨r, s1⟩ ⟨hr, x1⟩
  simp only at hr x1
  subst hr
  by_cases hg : isGood g
  case neg => simp [hg, evOp_call, sets, T.get_set, oracF_cons]
  have b1 : st.nx + 1 ≤ s1.nx := x1.le
  have k0 : s1.h.get st.nx = some (.cs 23 4 ((((T.lf.set 0 (.int .i64 g.b)).set 1 (.int .i64 g.n)).set 2 (.int .i64 g.c)).set 3 (.int .i64 g.k))) := by
    rw [x1.keep st.nx (by show st.nx < st.nx + 1; omega)]; exact T.get_set_same _ _ _
  by_cases hb : 200 < g.b
  · simp [hg, hb, evOp_call, sets, T.get_set, oracF_cons, loadE_eq, getC_eq, getsB_succ, getsB_zero, k0, hwu]
  by_cases hl : 30 < l.length
  · have hl' : (30 : Int) < l.length := by omega
    simp [hg, hb, hl, hl', hlen, evOp_call, sets, T.get_set, oracF_cons, loadE_eq, getC_eq, getsB_succ, getsB_zero, k0, hwu]
  have hl' : ¬ (30 : Int) < l.length := by omega
  simp [hg, hb, hl, hl', hlen, evOp_call, sets, T.get_set, oracF_cons, loadE_eq, getC_eq, getsB_succ, getsB_zero, k0, hwu]
  refine ⟨by kernel_rfl, ?_⟩
  rw [cxOf_callL [(st.nx, st.nx + 1)] (by kernel_rfl) (by kernel_rfl) (looseW_at 2 (.p st.nx 0) (by simp [T.get_set]) (by kernel_rfl)) (fun x hx => by simp at hx; subst hx; simp [clashes_tmp, T.get_set, blkOf]) (fun p hp => by simp at hp; subst hp; rw [isRo_cs k0]; decide), forb_nil]
  simp only [List.append_nil]
  refine Gd_lift (R := fun v s' => ∃ y, v = .g [y] ∧ RdRow s' y 1 ((g.b.toNat + 63) / 64) (wv (emptyI g g.b.toNat))) (Gd.mono (empty_any _ g hg _) fun r h => by
    obtain ⟨y, h1, h2, h3⟩ := h
    exact ⟨⟨y, h1, h2⟩, h3⟩) ?_
  rintro _ _ s2 ⟨y, rfl, hy⟩ k2 x2
  have hy2 := RdRow.sub k2 hy
  clear hy k2
  have b2 := x2.le
  have k02 := (x2.keep _ (by omega)).trans k0
  simp [hg, evOp_call, sets, T.get_set, oracF_cons, loadE_eq, getC_eq, getsB_succ, getsB_zero, k02]
  rw [cxOf_call (by kernel_rfl) (by kernel_rfl), forb_rsOf (by kernel_rfl), liftF_nil]
  refine Gd.mono (pnew_any s2 g hg y _ hy2 _) ?_
  rintro ⟨r, s3⟩ ⟨q, z, hr, hp, hq, hzf, x3⟩
  simp only at hr hp x3
  subst hr
  have b3 := x3.le
  have k03 := (x3.keep _ (by omega)).trans k02
  simp [hg, evOp_call, sets, T.get_set, oracF_cons, tupK, loadE_eq, getC_eq, getsB_succ, getsB_zero, k03, hwf]
  refine Gd.mono (gdata_any s3 [] (fun _ _ => rfl) 0 (Nat.zero_le _) g _) ?_
  rintro ⟨r, s4⟩ ⟨hr, x4⟩
  simp only at hr x4
  subst hr
  have b4 := x4.le
  have k04 := (x4.keep _ (by omega)).trans k03
  have hp4 := hp.ext x4
  simp [at2, hg, evOp_call, sets, T.get_set, oracF_cons, tupK, loadE_eq, getC_eq, getsB_succ, getsB_zero, k04]
  refine Gd.mono (empty_anyR s4 g hg _) ?_
  rintro ⟨r, s5⟩ ⟨y9, hr, hy9, hyf, x5⟩
  simp only at hr hy9 hyf x5
  subst hr
  have b5 := x5.le
  have k05 := (x5.keep _ (by omega)).trans k04
  have hp5 := hp4.ext x5
  have y9one := hy9.one
  have hs4 := hg.1
  obtain ⟨h1, h2, h3, h4, h5, h6, h7, h8⟩ := hs4
  obtain ⟨i1, i2, i3, i4, i5, i6⟩ := grp_in hg (c := 0) (Int.le_refl _) (by omega)
  have hdN := hg.2
  have hdE : dF g + dN g = g.b - 1 := by unfold dN; omega
  obtain ⟨f, hf⟩ := Int.eq_ofNat_of_zero_le i6
  obtain ⟨e, he⟩ := Int.eq_ofNat_of_zero_le (show 0 ≤ dF g + dN g by omega)
  have hN : dN g = (e : Int) - (f : Int) := by omega
  have hpq : q < s3.nx := hp.1
  simp [evOp_call, sets, T.get_set, oracF_cons, newC_is, cellsOf, storeK_g, putB_eq, roT, y9one]
  rw [hf, hN]
  have hmL : (emptyI g g.b.toNat).length = (g.b.toNat + 63) / 64 := emptyI_length g _
  obtain ⟨C0, hC0⟩ := pl_start g hg hf he (by omega) (by rw [hmL]; omega)
  obtain ⟨m, hm⟩ : ∃ m, m = (g.b.toNat + 63) / 64 := ⟨_, rfl⟩
  rw [← hm] at hmL hp5 hy9
  have xs0 : Ext st.nx st s5 := ((((((Ext.refl st.nx st).new (Nat.le_refl _) _).trans (x1.mono (by show st.nx ≤ st.nx + 1; omega))).trans (x2.mono (by omega))).trans (x3.mono (by omega))).trans (x4.mono (by omega))).trans (x5.mono (by omega))
  refine Gd_loop (ppI st (x 0) l.length g st.nx q s5.nx f e m) (fun en _ => muAt 11 l.length en) ?_ ?_
  · refine ⟨0, z, y9, .c (.slice none 0 0), emptyI g g.b.toNat, [], [], C0, Nat.zero_le _, ⟨by simp [T.get_set], by simp [T.get_set], by simp [T.get_set], by simp [T.get_set], by simp [T.get_set], by simp [T.get_set], by simp [T.get_set], by simp [T.get_set]⟩, xs0.new (by omega) _, hmL, ?_, hC0⟩
    have xb : Ext s5.nx s5 ⟨s5.nx + 1, s5.h.set s5.nx (.cs 33 1 (T.lf.set 0 y9))⟩ := (Ext.refl _ _).new (Nat.le_refl _) _
    refine ⟨by omega, by omega, by omega, Nat.lt_succ_self _, ⟨_, (xb.keep _ (by omega)).trans k05, by simp [T.get_set], by simp [T.get_set]⟩, hp5.ext xb, ⟨_, T.get_set_same _ _ _, by simp [T.get_set]⟩, hy9.ext xb, fun b hb => ?_, fun b hb => by have := hyf b hb; omega, OwnRow.nil _ _ _, rfl, fun j R v e => by simp at e⟩
    rcases hb with ⟨_, _, _, e⟩ | ⟨_, _, _, e⟩
    · have := hzf.2 _ _ _ _ e; omega
    · have := hzf.1 _ _ _ _ e; omega
  rintro en s ⟨i, z, y9, yt, L, D, TV, C, hi, ⟨g1, g2, g5, g7, g8, g9, g10, g11⟩, hs, hLm, hM, hP⟩
  clear hp hp4 hp5 hy9 hyf hzf k0 k02 k03 k04 k05 x1 x2 x3 x4 x5 xs0 C0 hC0
  obtain ⟨q0, hq0⟩ : ∃ q0, q0 = st.nx := ⟨_, rfl⟩
  have hPG : ∀ {s : St} {z : V} {L : List (BitVec 64)}, PoolAt s q g z m L → e ≤ L.length * 64 → PG s q m g z L f e := fun hp hl => ⟨hg, hp, by omega, hf, he, by omega, by omega, hl⟩
  obtain ⟨K, hK, hKl⟩ := gapsP_ex L e hP.ll (e - f) f (Nat.le_refl _) (by omega)
  obtain ⟨tg, tg0, tg1, tg2⟩ := hM.k0
  by_cases hlt : i < l.length
  case neg =>
    obtain rfl : i = l.length := by omega
    simp [evOp_call, T.get_set, oracF_cons, g1, g2, g5, g7, g8, g9, g10, g11, hlen]
    refine ⟨by kernel_rfl, ?_⟩
    obtain ⟨tb0, tb00, tb01⟩ := hM.hb
    have h01 := hM.q01
    have h19 := hM.q19
    have hfg2 : ∀ b, b ≠ st.nx → b ≠ s5.nx → inF [(st.nx, st.nx + 1), (s5.nx, s5.nx + 1)] b = false := fun b hb hb' => by rw [inF_cons, if_neg (by omega), inF_cons, if_neg (by omega)]; rfl
    rw [cxOf_callL [(st.nx, st.nx + 1), (s5.nx, s5.nx + 1)] (by kernel_rfl) (by kernel_rfl) (looseW_at2 2 9 (.p st.nx 0) (.p s5.nx 0) (by simp [T.get_set, g2]) (by simp [T.get_set, g9]) (by kernel_rfl)) (fun x hx => by simp at hx; subst hx; simp [clashes_tmp, T.get_set, blkOf]; exact hfg2 q (by omega) (by omega)) (fun p hp => by simp at hp; rcases hp with rfl | rfl <;> first | (rw [isRo_cs tg0]; decide) | (rw [isRo_cs tb00]; decide)), forb_nil]
    simp only [List.append_nil]
    refine Gd_lift (R := fun v s' => v = .int .i64 (lens K)) (Gd.mono (pfreeA_any _ q m g z L f e (hPG (hM.hp.er (hfg2 q (by omega) (by omega)) fun b hb => hfg2 b (by have := hM.zf b hb; omega) (fun e => hM.off9 hM.hp.2.2 (by rw [← e]; exact hb))) hP.ll) K hK (by omega) _) fun r h => h) ?_
    rintro _ _ s6 rfl - x6
    have b6 := x6.le
    have hM6 := hM.ext x6
    have h09 : st.nx < s.nx := by have := hM.q01; have := hM.q19; have := hM.n9; omega
    have tg6 := (x6.keep _ h09).trans tg0
    obtain ⟨tb6, tb60, tb61⟩ := hM6.hb
    have y9o := hM6.hy.one
    have hl1 : ∀ b nx, inF ((0, st.nx) :: (st.nx + 1, nx) :: forb b (rsOf [] 1 s.nx s6.nx) []) st.nx = false := fun b nx => inF_ld h09
    have hl2 : ∀ b nx, inF ((0, s5.nx) :: (s5.nx + 1, nx) :: forb b (rsOf [] 1 s.nx s6.nx) []) s5.nx = false := fun b nx => inF_ld hM.n9
    simp (maxDischargeDepth := 12) [evOp_call, T.get_set, oracF_cons, g1, g2, g5, g7, g8, g9, g10, g11, hwu, loadE_eq, getC_eq, getsB_succ, getsB_zero, tg6, tg1, tb60, tb61, y9o, hl1, hl2]
    rw [cxOf_callL [(st.nx, st.nx + 1)] (by kernel_rfl) (by kernel_rfl) (looseW_at 348 (.p st.nx 0) (by simp [T.get_set]) (by kernel_rfl)) (fun x hx => by simp at hx; subst hx; simp [clashes_tmp, T.get_set, blkOf]) (fun p hp => by simp at hp; subst hp; rw [isRo_cs tg6]; decide), forb_step (by kernel_rfl) rfl]
    simp only [List.append_nil]
    have hfg : ∀ b, st.nx < b → inF [(st.nx, st.nx + 1)] b = false := fun b hb => by rw [inF_cons, if_neg (by omega)]; rfl
    refine Gd_lift (R := fun v s' => v = .int .i64 (cntL L : Int)) (Gd.mono (count_any _ y9 L (by rw [hLm]; exact hM6.hy.er fun b hb => hfg b (by have := hM6.yf b hb; have := hM6.q01; omega)) (by omega) _) fun r h => h) ?_
    rintro _ _ s8 rfl - x8
    have hlast := last_cnt (b := g.b.toNat) (by omega) (by omega) (by omega) hP.out hK
    have hgb : (g.b.toNat : Int) = g.b := by omega
    rw [hgb] at hlast
    have hcl := cntL_le L L.length (Nat.le_refl _)
    rw [List.take_length] at hcl
    have hww : IntKind.i64.wrap (g.b - (cntL L : Int)) = g.b - (cntL L : Int) := wrap_in (by omega) (by omega)
    simp (maxDischargeDepth := 12) [evOp_call, T.get_set, oracF_cons, hww, hlast]
  have g11E := g11
  obtain ⟨o, ho⟩ : ∃ o, l[i]? = some o := ⟨_, List.getElem?_eq_getElem hlt⟩
  obtain ⟨mx, ox, tyx, szx, trx, yx, ix, bx, kx, cx, ax⟩ := rowC_old un24 io40 hat ho
  obtain ⟨y0, y1, y2, y3, r1, r2, r3, hK0⟩ := actC_in ax
  obtain ⟨op, cl, n, most, KR⟩ := o
  simp only at y0 y1 y2 y3 r1 r2 r3 hK0
  have d0 : trx.get ox = some (.int .i64 op) := by rw [← y0]; exact cx 0 (by decide)
  have d1 : trx.get (ox + 1) = some (.int .i64 cl) := by rw [← y1]; exact cx 1 (by decide)
  have d2 : trx.get (ox + 2) = some (.int .i64 n) := by rw [← y2]; exact cx 2 (by decide)
  have d3 : trx.get (ox + 3) = some (.int .i64 most) := by rw [← y3]; exact cx 3 (by decide)
  have d4 : trx.get (ox + 4) = some (yx 4) := cx 4 (by decide)
  obtain ⟨yR, hyR⟩ : ∃ y, y = yx 4 := ⟨_, rfl⟩
  rw [← hyR] at d4 hK0
  have yRo := hK0.one
  have hKlt : ∀ b, rowIn yR b → b < st.nx := fun b hb => rowAt_none hK0 hb
  have hKs := hK0.ext hs
  have hlt' : (i : Int) < (l.length : Int) := by omega
  simp [evOp_call, T.get_set, oracF_cons, g1, g2, g5, g7, g8, g9, g10, g11, hlen, hlt', ix, loadE_eq, getC_eq, kx s hs, getsB_succ, getsB_zero, d0, d1, d2, d3, d4, newC_is, storeK_g, cellsOf, putB_eq, roT, sets, yRo, hK0.lenS]
  by_cases hK6 : 6 < KR.length
  · have hK6' : (6 : Int) < (KR.length : Int) := by omega
    simp [hK6', evOp_call, T.get_set, oracF_cons]
  have hK6' : ¬ (6 : Int) < (KR.length : Int) := by omega
  simp only [hK6', decide_false]
  obtain ⟨xb, hxb⟩ : ∃ xb, xb = s.nx := ⟨_, rfl⟩
  obtain ⟨s7, hS7⟩ : ∃ s7 : St, s7 = ⟨s.nx + 1, s.h.set s.nx (.cs 40 5 ((((((((((T.lf.set 0 (V.int IntKind.i64 0)).set 1 (V.int IntKind.i64 0)).set 2 (V.int IntKind.i64 0)).set 3 (V.int IntKind.i64 0)).set 4 (V.c (Value.slice none 0 0))).set 0 (V.int IntKind.i64 op)).set 1 (V.int IntKind.i64 cl)).set 2 (V.int IntKind.i64 n)).set 3 (V.int IntKind.i64 most)).set 4 yR))⟩ := ⟨_, rfl⟩
  have n7 : s7.nx = xb + 1 := by rw [hS7, hxb]
  have x7 : Ext s.nx s s7 := by rw [hS7]; exact (Ext.refl _ _).new (Nat.le_refl _) _
  obtain ⟨tx, kx7, e0, e1, e2, e3, e4⟩ : ∃ t, s7.h.get xb = some (.cs 40 5 t) ∧ t.get 0 = some (.int .i64 op) ∧ t.get 1 = some (.int .i64 cl) ∧ t.get 2 = some (.int .i64 n) ∧ t.get 3 = some (.int .i64 most) ∧ t.get 4 = some yR := ⟨_, by rw [hS7, hxb]; exact T.get_set_same _ _ _, by simp [T.get_set], by simp [T.get_set], by simp [T.get_set], by simp [T.get_set], by simp [T.get_set]⟩
  rw [← hS7, ← hxb]
  have hM7 := hM.ext x7
  have hs7 : Ext st.nx st s7 := hs.trans (x7.mono hs.le)
  have hK7 := hKs.ext x7
  have h9b : s5.nx < xb := by rw [hxb]; exact hM.n9
  clear hM hs hKs hxb hS7 x7 kx bx d0 d1 d2 d3 d4 cx ax ix hK0
  simp [evOp_call, T.get_set, oracF_cons, -seqC_n]
  rw [seqC_n]
  refine Gd_gen (fun E => ppE (x 0) st.nx q s5.nx f e i yt E ∧ E.get 12 = some (.p xb 0)) ⟨⟨by simp [T.get_set, g1], by simp [T.get_set, g2], by simp [T.get_set, g5], by simp [T.get_set, g7], by simp [T.get_set, g8], by simp [T.get_set, g9], by simp [T.get_set, g10], by simp [T.get_set, g11]⟩, by simp [T.get_set]⟩ ?_
  clear g1 g2 g5 g7 g8 g9 g10 g11
  rintro en1 ⟨⟨g1, g2, g5, g7, g8, g9, g10, g11⟩, g12⟩
  refine Gd_seqJ (ppR st (x 0) i g st.nx q s5.nx f e m) ?_ ?_
  · have hln : ∀ s : St, lenS s (V.c (.slice none 0 0)) = some (.int .i64 0, s) := fun s => (OwnRow.nil 0 s 2).rd.lenS s
    have h01 := hM7.q01
    have h19 := hM7.q19
    obtain ⟨tg', tg7, _, tg2'⟩ := hM7.k0
    clear tg0 tg1 tg2 tg
    have tg2 := tg2'
    have hwfe : IntKind.i64.wrap ((f : Int) + ((e : Int) - (f : Int))) = (e : Int) := by rw [show (f : Int) + ((e : Int) - (f : Int)) = (e : Int) by omega]; exact wrap_in (by omega) (by omega)
    by_cases hop0 : op = 0
    · subst hop0
      simp [evOp_call, T.get_set, oracF_cons, g1, g2, g5, g7, g8, g9, g10, g11, g12, loadE_eq, getC_eq, kx7, e0, e1, e2, e3, e4]
      by_cases c1 : cl < 0
      · have c2 : True := trivial
        have c3 : True := trivial
        have c4 : True := trivial
        refine Gd.mono (takeG_arg s7 q m g z L hM7.hp cl n most (by omega) _) ?_
        rintro ⟨r, s8⟩ ⟨hr, x8⟩
        simp only at hr x8
        subst hr
        have kx8 := (x8.keep xb (by omega)).trans kx7
        have tg8 := (x8.keep st.nx (by omega)).trans tg7
        simp [evOp_call, T.get_set, oracF_cons, tupK, g1, g2, g5, g7, g8, g9, g10, g11, g12, loadE_eq, getC_eq, kx8, tg8, tg2, e1, e2, e3, c1, c2, c3, c4, hwf, hwu, hln]
        exact .inl ⟨_, _, rfl, z, y9, yt, L, D, TV, C, ⟨by simp [T.get_set, g1], by simp [T.get_set, g2], by simp [T.get_set, g5], by simp [T.get_set, g7], by simp [T.get_set, g8], by simp [T.get_set, g9], by simp [T.get_set, g10], by simp [T.get_set, g11]⟩, hs7.trans (x8.mono hs7.le), hLm, hM7.ext x8, hP.mono (by omega)⟩
      by_cases c2 : g.c ≤ cl
      · have c3 : True := trivial
        have c4 : True := trivial
        refine Gd.mono (takeG_arg s7 q m g z L hM7.hp cl n most (by omega) _) ?_
        rintro ⟨r, s8⟩ ⟨hr, x8⟩
        simp only at hr x8
        subst hr
        have kx8 := (x8.keep xb (by omega)).trans kx7
        have tg8 := (x8.keep st.nx (by omega)).trans tg7
        simp [evOp_call, T.get_set, oracF_cons, tupK, g1, g2, g5, g7, g8, g9, g10, g11, g12, loadE_eq, getC_eq, kx8, tg8, tg2, e1, e2, e3, c1, c2, c3, c4, hwf, hwu, hln]
        exact .inl ⟨_, _, rfl, z, y9, yt, L, D, TV, C, ⟨by simp [T.get_set, g1], by simp [T.get_set, g2], by simp [T.get_set, g5], by simp [T.get_set, g7], by simp [T.get_set, g8], by simp [T.get_set, g9], by simp [T.get_set, g10], by simp [T.get_set, g11]⟩, hs7.trans (x8.mono hs7.le), hLm, hM7.ext x8, hP.mono (by omega)⟩
      by_cases c3 : n < 0
      · have c4 : True := trivial
        refine Gd.mono (takeG_arg s7 q m g z L hM7.hp cl n most (by omega) _) ?_
        rintro ⟨r, s8⟩ ⟨hr, x8⟩
        simp only at hr x8
        subst hr
        have kx8 := (x8.keep xb (by omega)).trans kx7
        have tg8 := (x8.keep st.nx (by omega)).trans tg7
        simp [evOp_call, T.get_set, oracF_cons, tupK, g1, g2, g5, g7, g8, g9, g10, g11, g12, loadE_eq, getC_eq, kx8, tg8, tg2, e1, e2, e3, c1, c2, c3, c4, hwf, hwu, hln]
        exact .inl ⟨_, _, rfl, z, y9, yt, L, D, TV, C, ⟨by simp [T.get_set, g1], by simp [T.get_set, g2], by simp [T.get_set, g5], by simp [T.get_set, g7], by simp [T.get_set, g8], by simp [T.get_set, g9], by simp [T.get_set, g10], by simp [T.get_set, g11]⟩, hs7.trans (x8.mono hs7.le), hLm, hM7.ext x8, hP.mono (by omega)⟩
      by_cases c4 : most < 1
      · skip
        refine Gd.mono (takeG_arg s7 q m g z L hM7.hp cl n most (by omega) _) ?_
        rintro ⟨r, s8⟩ ⟨hr, x8⟩
        simp only at hr x8
        subst hr
        have kx8 := (x8.keep xb (by omega)).trans kx7
        have tg8 := (x8.keep st.nx (by omega)).trans tg7
        simp [evOp_call, T.get_set, oracF_cons, tupK, g1, g2, g5, g7, g8, g9, g10, g11, g12, loadE_eq, getC_eq, kx8, tg8, tg2, e1, e2, e3, c1, c2, c3, c4, hwf, hwu, hln]
        exact .inl ⟨_, _, rfl, z, y9, yt, L, D, TV, C, ⟨by simp [T.get_set, g1], by simp [T.get_set, g2], by simp [T.get_set, g5], by simp [T.get_set, g7], by simp [T.get_set, g8], by simp [T.get_set, g9], by simp [T.get_set, g10], by simp [T.get_set, g11]⟩, hs7.trans (x8.mono hs7.le), hLm, hM7.ext x8, hP.mono (by omega)⟩
      refine Gd.mono (takeU_any s7 q m g z L f e (hPG hM7.hp hP.ll) (by omega) C hP.cov hP.gs (by have := hP.cl; omega) K hK cl n most ⟨by omega, by omega⟩ ⟨by omega, r2.2⟩ (by omega) _) ?_
      rintro ⟨r, s8⟩ ⟨S, hS1, hS2, hcase⟩
      have hSb : ∀ t ∈ S, 1 ≤ t ∧ t ≤ 100000 := fun t ht => by
        obtain ⟨r, hr, rfl⟩ := List.mem_map.1 (hS1.mem_iff.2 ht)
        have := (gaps_ok (by omega) (by omega) hP.ll hK).1 r hr
        omega
      rcases hcase with ⟨hnone, hr, x8⟩ | ⟨R, p, hsome, hTk, hYes⟩
      · simp only at hr x8
        subst hr
        have kx8 := (x8.keep xb (by omega)).trans kx7
        have tg8 := (x8.keep st.nx (by omega)).trans tg7
        have hM8 := hM7.ext x8
        obtain ⟨tb, tb0, tb1⟩ := hM8.hb
        have y9o := hM8.hy.one
        simp [evOp_call, T.get_set, oracF_cons, tupK, g1, g2, g5, g7, g8, g9, g10, g11, g12, loadE_eq, getC_eq, getsB_succ, getsB_zero, kx8, tg8, tg2, e1, e2, e3, c1, c2, c3, c4, hwf, hwu, hln, tb0, tb1, y9o, hwfe]
        refine Gd.mono (long_any s8 y9 L (by rw [hLm]; exact hM8.hy) (by omega) f e (by omega) (by omega) hP.ll K hK (by omega) S hS1 hS2 hSb n most ⟨by omega, r2.2⟩ ⟨by omega, r3.2⟩ _) ?_
        rintro ⟨r, s9⟩ ⟨hr, x9⟩
        simp only at hr x9
        rw [hnone] at hr
        subst hr
        simp [grV, evOp_call, T.get_set, oracF_cons, tupK, g1, g2, g5, g7, g8, g9, g10, g11, g12, hwf, hwu, hln]
        exact .inl ⟨_, _, rfl, z, y9, yt, L, D, TV, C, ⟨by simp [T.get_set, g1], by simp [T.get_set, g2], by simp [T.get_set, g5], by simp [T.get_set, g7], by simp [T.get_set, g8], by simp [T.get_set, g9], by simp [T.get_set, g10], by simp [T.get_set, g11]⟩, (hs7.trans (x8.mono hs7.le)).trans (x9.mono (hs7.trans (x8.mono hs7.le)).le), hLm, hM8.ext x9, hP.mono (by omega)⟩
      obtain ⟨y, hr, hy8, hyf8, hmk⟩ := hYes
      simp only at hr hy8
      subst hr
      obtain ⟨z', hM8⟩ := hM7.mark hmk
      obtain ⟨_, _, hle8, hkp8, x8, _⟩ := hmk
      simp only at hM8 hle8 hkp8 x8
      have kx8 := (hkp8 xb (by omega) (by omega)).trans kx7
      have tg8 := (hkp8 st.nx (by omega) (by omega)).trans tg7
      have hs8 : Ext st.nx st s8 := hs7.trans (x8.mono (by omega))
      obtain ⟨tb, tb0, tb1⟩ := hM8.hb
      have y9o := hM8.hy.one
      have hyo := hy8.one
      simp [evOp_call, T.get_set, oracF_cons, tupK, g1, g2, g5, g7, g8, g9, g10, g11, g12, loadE_eq, getC_eq, getsB_succ, getsB_zero, kx8, tg8, tg2, e1, e2, e3, c1, c2, c3, c4, hwf, hwu, tb0, tb1, y9o, hwfe]
      refine Gd.mono (long_any s8 y9 L (by rw [hLm]; exact hM8.hy) (by omega) f e (by omega) (by omega) hP.ll K hK (by omega) S hS1 hS2 hSb n most ⟨by omega, r2.2⟩ ⟨by omega, r3.2⟩ _) ?_
      rintro ⟨r, s9⟩ ⟨hr, x9⟩
      simp only at hr x9
      rw [hsome] at hr
      subst hr
      have hM9 := hM8.ext x9
      have hs9 : Ext st.nx st s9 := hs8.trans (x9.mono hs8.le)
      have hle9 := x9.le
      have kx9 := (x9.keep xb (by omega)).trans kx8
      have hy9 := hy8.ext x9
      simp [grV, evOp_call, T.get_set, oracF_cons, tupK, g1, g2, g5, g7, g8, g9, g10, g11, g12, -seqC_n]
      rw [seqC_n]
      simp [evOp_call, T.get_set, oracF_cons, -seqC_n]
      rw [seqC_n]
      simp [evOp_call, T.get_set, oracF_cons, -seqC_n]
      rw [seqC_n]
      refine Gd_gen (fun E => ppE (x 0) st.nx q s5.nx f e i yt E ∧ E.get 12 = some (.p xb 0) ∧ E.get 13 = some y ∧ E.get 14 = some (.int .i64 0) ∧ E.get 15 = some (.int .i64 (R.length : Int))) ⟨⟨by simp [T.get_set, g1], by simp [T.get_set, g2], by simp [T.get_set, g5], by simp [T.get_set, g7], by simp [T.get_set, g8], by simp [T.get_set, g9], by simp [T.get_set, g10], by simp [T.get_set, g11]⟩, by simp [T.get_set, g12], by simp [T.get_set], by simp [T.get_set], by simp [T.get_set]⟩ ?_
      clear g1 g2 g5 g7 g8 g9 g10 g11 g12
      rintro en2 ⟨⟨g1, g2, g5, g7, g8, g9, g10, g11⟩, g12, g13, g14, g15⟩
      simp [evOp_call, T.get_set, oracF_cons, g1, g2, g5, g7, g8, g9, g10, g11, g12, g13, g14, g15, hwf, hwu, hy9.lenS]
      refine ⟨by kernel_rfl, ?_⟩
      have hxbs : xb < s9.nx := by omega
      have hfg : ∀ b, xb < b → inF [(xb, xb + 1)] b = false := fun b hb => by rw [inF_cons, if_neg (by omega)]; rfl
      have hyb : ∀ b, rowIn y b → xb < b := fun b hb => by have := hyf8 b hb; omega
      have hcR : R.filter cnt = R := hTk.ok.cnt
      have hRl := hTk.len
      have hsR : ∀ r ∈ R, smallR r := fun r hr => by
        have h1 := hTk.ok r hr
        have h2 := hTk.lie r hr
        unfold smallR
        omega
      rw [cxOf_callL [(xb, xb + 1)] (by kernel_rfl) (by kernel_rfl) (looseW_at 12 (.p xb 0) (by simp [T.get_set, g12]) (by kernel_rfl)) (fun x hx => by simp at hx; subst hx; exact clash_off (w := y) (by simp [T.get_set]) hy9 fun b hb => hfg b (hyb b hb)) (fun p hp => by simp at hp; subst hp; rw [isRo_cs kx9]; decide), forb_nil]
      simp only [List.append_nil]
      refine Gd_lift (R := fun v s' => OwnRow s9.nx s' v 2 R.length (cells R)) (Gd.mono (own12 _ [] (fun _ _ => rfl) y R (hy9.er fun b hb => hfg b (hyb b hb)) (by omega) (fun _ _ => rfl) _) fun r h => h) ?_
      rintro z1 _ s10 hz1 k10 x10
      have hz10 := OwnRow.sub k10 hz1
      clear hz1 k10
      have n10 := x10.le
      have kx10 := (x10.keep xb hxbs).trans kx9
      simp [evOp_call, T.get_set, oracF_cons, g1, g2, g5, g7, g8, g9, g10, g11, g12, g13, g14, g15]
      have hz10b : ∀ b, rowIn z1 b → xb < b := fun b hb => by have := own_from hz10 b hb; omega
      rw [cxOf_callL [(xb, xb + 1)] (by kernel_rfl) (by kernel_rfl) (looseW_at 12 (.p xb 0) (by simp [T.get_set, g12]) (by kernel_rfl)) (fun x hx => by simp at hx; subst hx; exact clash_off (w := z1) (by simp [T.get_set]) hz10.rd fun b hb => hfg b (hz10b b hb)) (fun p hp => by simp at hp; subst hp; rw [isRo_cs kx10]; decide), forb_step (by kernel_rfl) rfl]
      simp only [List.append_nil]
      refine Gd_lift (R := fun v s' => v = .int .i64 n) (Gd.mono (rtotal_any _ z1 R (hz10.rd.er fun b hb => hfg b (hz10b b hb)) (by omega) _) fun r h => ⟨by rw [h.1, hcR, hTk.sum], h.2⟩) ?_
      rintro _ _ s11 rfl - x11
      have n11 := x11.le
      have kx11 := (x11.keep xb (by omega)).trans kx10
      have hy11 := (hy9.ext x10).ext x11
      have hlm : ∀ (b nx : Nat), inF ((0, xb) :: (xb + 1, nx) :: forb b (rsOf (rsOf [] 10 s9.nx s10.nx) 11 s10.nx s11.nx) []) xb = false := fun b nx => inF_lds (rsOf_lt (rsOf_lt (fun e h => by cases h) (by omega)) (by omega))
      simp (maxDischargeDepth := 12) [evOp_call, T.get_set, oracF_cons, g1, g2, g5, g7, g8, g9, g10, g11, g12, g13, g14, g15, loadE_eq, getC_eq, kx11, e2, hlm, hwf, hwu]
      rw [cxOf_call (by kernel_rfl) (by kernel_rfl), forb_step (by kernel_rfl) (forb_step (by kernel_rfl) rfl), liftF_nil]
      refine Gd.mono (own12 s11 [] (fun _ _ => rfl) y R hy11 (by omega) (fun _ _ => rfl) _) ?_
      rintro ⟨z2, s12⟩ ⟨hz2, x12⟩
      simp only at hz2 x12
      have n12 := x12.le
      have hy12 := hy11.ext x12
      simp (maxDischargeDepth := 12) [evOp_call, T.get_set, oracF_cons, g1, g2, g5, g7, g8, g9, g10, g11, g12, g13, g14, g15]
      rw [cxOf_call (by kernel_rfl) (by kernel_rfl), forb_step (by kernel_rfl) (forb_step (by kernel_rfl) (forb_step (by kernel_rfl) rfl)), liftF_nil]
      refine Gd.mono (own12 s12 [] (fun _ _ => rfl) y R hy12 (by omega) (fun _ _ => rfl) _) ?_
      rintro ⟨z3, s13⟩ ⟨hz3, x13⟩
      simp only at hz3 x13
      have n13 := x13.le
      simp (maxDischargeDepth := 12) [evOp_call, T.get_set, oracF_cons, g1, g2, g5, g7, g8, g9, g10, g11, g12, g13, g14, g15]
      rw [cxOf_call (by kernel_rfl) (by kernel_rfl), forb_step (by kernel_rfl) (forb_step (by kernel_rfl) (forb_step (by kernel_rfl) (forb_step (by kernel_rfl) rfl))), liftF_nil]
      refine Gd.mono (rmergeN_any s13 z3 R hz3.rd (by omega) hcR hTk.noT _) ?_
      rintro ⟨z4, s14⟩ ⟨hz4, x14⟩
      simp only at hz4 x14
      have n14 := x14.le
      simp (maxDischargeDepth := 12) [evOp_call, T.get_set, oracF_cons, g1, g2, g5, g7, g8, g9, g10, g11, g12, g13, g14, g15]
      rw [cxOf_call (by kernel_rfl) (by kernel_rfl), forb_step (by kernel_rfl) (forb_step (by kernel_rfl) (forb_step (by kernel_rfl) (forb_step (by kernel_rfl) (forb_step (by kernel_rfl) rfl)))), liftF_nil]
      refine Gd.mono (alike12 s14 z2 z4 R R ((hz2.rd.ext x13).ext x14) hz4.rd (by omega) _) ?_
      rintro _ rfl
      simp (maxDischargeDepth := 12) [evOp_call, T.get_set, oracF_cons, g1, g2, g5, g7, g8, g9, g10, g11, g12, g13, g14, g15, hwf, hwu]
      rw [cxOf_call (by kernel_rfl) (by kernel_rfl), forb_step (by kernel_rfl) (forb_step (by kernel_rfl) (forb_step (by kernel_rfl) (forb_step (by kernel_rfl) (forb_step (by kernel_rfl) rfl)))), liftF_nil]
      refine Gd.mono (own12 s14 [] (fun _ _ => rfl) y R ((hy12.ext x13).ext x14) (by omega) (fun _ _ => rfl) _) ?_
      rintro ⟨z5, s15⟩ ⟨hz5, x15⟩
      simp only at hz5 x15
      have n15 := x15.le
      simp (maxDischargeDepth := 12) [evOp_call, T.get_set, oracF_cons, g1, g2, g5, g7, g8, g9, g10, g11, g12, g13, g14, g15]
      rw [cxOf_call (by kernel_rfl) (by kernel_rfl), forb_step (by kernel_rfl) (forb_step (by kernel_rfl) (forb_step (by kernel_rfl) (forb_step (by kernel_rfl) (forb_step (by kernel_rfl) (forb_step (by kernel_rfl) rfl))))), liftF_nil]
      refine Gd.mono (rapart_any s15 z5 R hz5.rd (by omega) hsR _) ?_
      rintro _ rfl
      have hap : decide (apartR R R.length) = true := decide_eq_true (apart_dis hTk.dis)
      have x9f : Ext s9.nx s9 s15 := ((((x10.trans (x11.mono n10)).trans (x12.mono (by omega))).trans (x13.mono (by omega))).trans (x14.mono (by omega))).trans (x15.mono (by omega))
      simp (maxDischargeDepth := 12) [evOp_call, T.get_set, oracF_cons, g1, g2, g5, g7, g8, g9, g10, g11, g12, g13, g14, g15, hwf, hwu, hap]
      have hm1 := hM9.m1
      refine Gd_loop (ppO st (x 0) g st.nx q s5.nx f e i m z' yt y (setB L true (allJ R)) L R D TV) (fun en _ => muAt 17 R.length en) ?_ ?_
      · exact ⟨0, y9, Nat.zero_le _, ⟨by simp [T.get_set, g1], by simp [T.get_set, g2], by simp [T.get_set, g5], by simp [T.get_set, g7], by simp [T.get_set, g8], by simp [T.get_set, g9], by simp [T.get_set, g10], by simp [T.get_set, g11]⟩, by simp [T.get_set, g13], by simp [T.get_set], hs9.trans (x9f.mono hs9.le), hM9.ext x9f, hy9.ext x9f⟩
      clear g1 g2 g5 g7 g8 g9 g10 g11 g12 g13 g14 g15 y9o tb tb0 tb1
      rintro en3 s16 ⟨k, y9, hk, ⟨g1, g2, g5, g7, g8, g9, g10, g11⟩, g13, g17, hs16, hM16, hy16⟩
      by_cases hkR : k < R.length
      · have hkR' : (k : Int) < (R.length : Int) := by omega
        obtain ⟨r, hr⟩ : ∃ r, R[k]? = some r := ⟨_, List.getElem?_eq_getElem hkR⟩
        have hrm := List.mem_of_getElem? hr
        have hrk := hTk.ok r hrm
        have hrl := hTk.lie r hrm
        obtain ⟨q0c, q1c⟩ := cells_get R k r hr
        obtain ⟨m1, o1, ty1, sz1, tr1, i1, b1, k1, l1, q1⟩ := hy16.idx un38 io52 hkR
        have d0 : tr1.get o1 = some (.int .i64 r.1) := q1 0 _ (by omega) q0c
        have d1 : tr1.get (o1 + 1) = some (.int .i64 r.2) := q1 1 _ (by omega) q1c
        have nl1 : ¬ r.2 < 1 := by omega
        have nl2 : ¬ r.1 < (f : Int) := by omega
        have nl3 : ¬ (e : Int) < r.1 + r.2 := by omega
        have ws : IntKind.i64.wrap (r.1 + r.2) = r.1 + r.2 := wrap_in (by omega) (by omega)
        have hwk := wrap_nat (n := k) (by omega)
        simp [evOp_call, T.get_set, oracF_cons, g1, g2, g5, g7, g8, g9, g10, g11, g13, g17, hy16.lenS, hkR']
        refine ⟨by kernel_rfl, ?_⟩
        simp [evOp_call, T.get_set, oracF_cons, g1, g2, g5, g7, g8, g9, g10, g11, g13, g17, hkR, hkR', i1, loadE_eq, getC_eq, k1, d0, d1, nl1, nl2, nl3, ws, hwfe, hwf, hwu]
        refine Gd_loop (ppN st (x 0) g st.nx q s5.nx f e i m z' yt y (setB L true (allJ R)) L R D TV k r) (fun en _ => muAt 18 r.2.toNat en) ?_ ?_
        · exact ⟨0, y9, by omega, ⟨by simp [T.get_set, g1], by simp [T.get_set, g2], by simp [T.get_set, g5], by simp [T.get_set, g7], by simp [T.get_set, g8], by simp [T.get_set, g9], by simp [T.get_set, g10], by simp [T.get_set, g11]⟩, by simp [T.get_set, g13], by simp [T.get_set, g17], by simp [T.get_set], hs16, by simpa [runJ] using hM16, hy16⟩
        clear g1 g2 g5 g7 g8 g9 g10 g11 g13 k1 d0 d1 i1 b1 l1 q1
        have g17E := g17
        clear g17
        rintro en4 s17 ⟨j, y9, hj, ⟨g1, g2, g5, g7, g8, g9, g10, g11⟩, g13, g17, g18, hs17, hM17, hy17⟩
        obtain ⟨m1, o1, ty1, sz1, tr1, i1, b1, k1, l1, q1⟩ := hy17.idx un38 io52 hkR
        have d0 : tr1.get o1 = some (.int .i64 r.1) := q1 0 _ (by omega) q0c
        have d1 : tr1.get (o1 + 1) = some (.int .i64 r.2) := q1 1 _ (by omega) q1c
        by_cases hjr : (j : Int) < r.2
        · have hwj := wrap_nat (n := j) (by omega)
          have wsj : IntKind.i64.wrap (r.1 + (j : Int)) = r.1 + (j : Int) := wrap_in (by omega) (by omega)
          obtain ⟨tb, tb0, tb1⟩ := hM17.hb
          have y9o := hM17.hy.one
          have hLX : (setB L true (allJ (R.take k) ++ runJ r.1 j)).length = m := by rw [setB_length]; exact hLm
          simp [evOp_call, T.get_set, oracF_cons, g1, g2, g5, g7, g8, g9, g10, g11, g13, g17, g18, hkR, i1, loadE_eq, getC_eq, k1, d0, d1, hjr]
          refine ⟨by kernel_rfl, ?_⟩
          simp [evOp_call, T.get_set, oracF_cons, g1, g2, g5, g7, g8, g9, g10, g11, g13, g17, g18, hkR, i1, loadE_eq, getC_eq, getsB_succ, getsB_zero, k1, d0, d1, tb0, tb1, y9o, wsj]
          rw [cxOf_call (by kernel_rfl) (by kernel_rfl), forb_nil, liftF_nil]
          refine Gd.mono (bhas_any s17 y9 _ (by rw [hLX]; exact hM17.hy) (r.1 + (j : Int)) (by omega) _) ?_
          rintro ⟨v, s18⟩ ⟨hr18, x18⟩
          simp only at hr18 x18
          subst hr18
          rw [has_free hTk hr hjr]
          have hM18 := hM17.ext x18
          have hy18 := hy17.ext x18
          have n18 := x18.le
          have k18 := (x18.keep _ b1).trans k1
          obtain ⟨tb, tb0, tb1⟩ := hM18.hb
          simp [evOp_call, T.get_set, oracF_cons, g1, g2, g5, g7, g8, g9, g10, g11, g13, g17, g18, hwf, hwu]
          refine ⟨by kernel_rfl, ?_⟩
          simp [evOp_call, T.get_set, oracF_cons, g1, g2, g5, g7, g8, g9, g10, g11, g13, g17, g18, hkR, i1, loadE_eq, getC_eq, getsB_succ, getsB_zero, k18, d0, d1, tb0, tb1, y9o, wsj]
          refine evOp_build1 (v := .int .i64 (r.1 + (j : Int))) (cs := [.int .i64 (r.1 + (j : Int))]) (fun k => el76 k) (fun k => ze3 k) rfl (by omega) (by simp [T.get_set]) (fun k => rfl) rfl ?_
          have hbv := builtR (st := s18) (el := 3) (vs := iv [r.1 + (j : Int)]) (n := 1) (by decide) rfl
          have exb : Ext s18.nx s18 ⟨s18.nx + 1, s18.h.set s18.nx (.cs 3 1 (sets [.int .i64 (r.1 + (j : Int))] 0 .lf))⟩ := (Ext.refl _ _).new (Nat.le_refl _) _
          simp [evOp_call, T.get_set, oracF_cons, g1, g2, g5, g7, g8, g9, g10, g11]
          rw [cxOf_call (by kernel_rfl) (by kernel_rfl), forb_oneR (by kernel_rfl), liftF_nil]
          refine Gd.mono (set_any _ y9 _ (setB L true (allJ (R.take k) ++ runJ r.1 j)) (by rw [hLX]; exact hM18.hy.ext exb) (by omega) true [r.1 + (j : Int)] hbv (by simp) (by simp; omega) _) ?_
          rintro ⟨v, s19⟩ ⟨y9', hv, hy9', hyf9, x19⟩
          simp only at hv hy9' hyf9 x19
          subst hv
          have x19' : Ext s18.nx s18 s19 := exb.trans (x19.mono (Nat.le_succ _))
          have hM19 := hM18.ext x19'
          have hy19 := hy18.ext x19'
          obtain ⟨tb, tb0, tb1⟩ := hM19.hb
          have y9o' := hy9'.one
          rw [hLX] at hy9'
          have hset : setB (setB L true (allJ (R.take k) ++ runJ r.1 j)) true [r.1 + (j : Int)] = setB L true (allJ (R.take k) ++ runJ r.1 (j + 1)) := by rw [← setB_app, runJ_succ, List.append_assoc]
          rw [hset] at hy9'
          simp [evOp_call, T.get_set, oracF_cons, g1, g2, g5, g7, g8, g9, g10, g11]
          rw [cxOf_store]
          rotate_left
          · kernel_rfl
          rw [forb_step (by kernel_rfl) (forb_oneR (by kernel_rfl))]
          simp [evOp_call, T.get_set, oracF_cons, g1, g2, g5, g7, g8, g9, g10, g11, g13, g17, g18, storeK_g, putB_eq, roT, tb0, y9o', sets, hwj]
          have hs19 : Ext st.nx st s19 := (hs17.trans (x18.mono hs17.le)).trans (x19'.mono (hs17.trans (x18.mono hs17.le)).le)
          exact ⟨⟨j + 1, y9', by omega, ⟨by simp [T.get_set, g1], by simp [T.get_set, g2], by simp [T.get_set, g5], by simp [T.get_set, g7], by simp [T.get_set, g8], by simp [T.get_set, g9], by simp [T.get_set, g10], by simp [T.get_set, g11]⟩, by simp [T.get_set, g13], by simp [T.get_set, g17], by simp [T.get_set], hs19.set (by omega) hM19.n9 _, hM19.setb (by simp [T.get_set]) hy9' (fun b hb => by have h1 := hM18.n9; have h2 : s18.nx + 1 ≤ b := (by rcases hb with ⟨_, _, _, e⟩ | ⟨_, _, _, e⟩; exact hyf9.2 _ _ _ _ e; exact hyf9.1 _ _ _ _ e); omega), row_keep hy19 fun b hb hlt => ⟨hlt, T.get_set_ne _ _ (by have := hyb b hb; omega)⟩⟩, muAt_lt (n := r.2.toNat) g18 (by simp [T.get_set]) (by omega)⟩
        · have hje : (j : Int) = r.2 := by omega
          have hjn : j = r.2.toNat := by omega
          have hall : setB L true (allJ (R.take k) ++ runJ r.1 j) = setB L true (allJ (R.take (k + 1))) := by rw [allJ_take hr, hjn]
          rw [hall] at hM17
          simp [evOp_call, T.get_set, oracF_cons, g1, g2, g5, g7, g8, g9, g10, g11, g13, g17, g18, hkR, i1, loadE_eq, getC_eq, k1, d0, d1, hjr, hwk]
          exact ⟨⟨k + 1, y9, hkR, ⟨by simp [T.get_set, g1], by simp [T.get_set, g2], by simp [T.get_set, g5], by simp [T.get_set, g7], by simp [T.get_set, g8], by simp [T.get_set, g9], by simp [T.get_set, g10], by simp [T.get_set, g11]⟩, by simp [T.get_set, g13], by simp [T.get_set], hs17, hM17, hy17⟩, muAt_lt g17E (by simp [T.get_set]) hkR⟩
      obtain rfl : k = R.length := by omega
      have hkR' : ¬ (R.length : Int) < (R.length : Int) := by omega
      have hall : setB L true (allJ (R.take R.length)) = setB L true (allJ R) := by rw [List.take_length]
      rw [hall] at hM16
      have hyo16 := hy16.one
      simp [evOp_call, T.get_set, oracF_cons, g1, g2, g5, g7, g8, g9, g10, g11, g13, g17, hy16.lenS]
      refine evOp_build1 (v := y) (cs := [y]) (fun k => el37 k) (fun k => ze38 k) rfl (by decide) (by simp [T.get_set]) (fun k => cellsOf_one hyo16 k) rfl ?_
      have exb : Ext s16.nx s16 ⟨s16.nx + 1, s16.h.set s16.nx (.cs 38 1 (sets [y] 0 .lf))⟩ := (Ext.refl _ _).new (Nat.le_refl _) _
      have hM17 := hM16.ext exb
      simp [evOp_call, T.get_set, oracF_cons, g1, g2, g5, g7, g8, g9, g10, g11]
      refine Gd_append un37 un37 io38 (b := s5.nx + 1) (n := TV.length) (lx := 1) (l := TV) (new := [y]) hM17.ht (by have := hM17.n9; omega) (by decide) (fun s' h => by cases h) (fun k => rfl) (fun k => by simp [getC_eq, getsB_1, T.get_set, sets]) rfl (by have := hM17.hT; have := hP.dn; omega) ?_
      intro yt3 s18 hyt3 x18 hk18 hn18
      have hs18 : Ext st.nx st s18 := (hs16.trans (exb.mono hs16.le)).trans (x18.mono (by omega))
      have hM18 := hM17.app (hy16.ext exb) (fun b hb => ⟨by have := hyb b hb; omega, fun o k w e => by have h1 := (own_ge hM7.ht e).2; have h2 := hyf8 b hb; omega⟩) hyt3 x18 hk18 hn18
      simp [evOp_call, T.get_set, oracF_cons, g1, g2, g5, g7, g8, g9, g10, g11]
      exact .inl ⟨_, _, rfl, z', y9, yt3, setB L true (allJ R), D ++ [R], TV ++ [y], p :: C, ⟨by simp [T.get_set, g1], by simp [T.get_set, g2], by simp [T.get_set, g5], by simp [T.get_set, g7], by simp [T.get_set, g8], by simp [T.get_set, g9], by simp [T.get_set, g10], by simp [T.get_set, g11]⟩, hs18, by rw [setB_length]; exact hLm, hM18, (hP.take hTk).mono (by omega)⟩
    by_cases hop1 : op = 1
    · subst hop1
      simp [evOp_call, T.get_set, oracF_cons, g1, g2, g5, g7, g8, g9, g10, g11, g12, loadE_eq, getC_eq, kx7, e0, e1, e2, e3, e4, hM7.ht.rd.lenS]
      have hend : ∀ (en' : Env), ppE (x 0) st.nx q s5.nx f e i yt en' → ppR st (x 0) i g st.nx q s5.nx f e m (.n, en', s7) := fun en' h => .inl ⟨_, _, rfl, z, y9, yt, L, D, TV, C, h, hs7, hLm, hM7, hP.mono (by omega)⟩
      by_cases c1 : n < 0
      · simp [evOp_call, T.get_set, oracF_cons, g1, g2, g5, g7, g8, g9, g10, g11, g12, loadE_eq, getC_eq, kx7, e0, e1, e2, e3, e4, hwf, hwu, c1]
        exact hend _ ⟨by simp [T.get_set, g1], by simp [T.get_set, g2], by simp [T.get_set, g5], by simp [T.get_set, g7], by simp [T.get_set, g8], by simp [T.get_set, g9], by simp [T.get_set, g10], by simp [T.get_set, g11]⟩
      by_cases c2 : (TV.length : Int) ≤ n
      · simp [evOp_call, T.get_set, oracF_cons, g1, g2, g5, g7, g8, g9, g10, g11, g12, loadE_eq, getC_eq, kx7, e0, e1, e2, e3, e4, hwf, hwu, c1, c2, hM7.ht.rd.lenS]
        exact hend _ ⟨by simp [T.get_set, g1], by simp [T.get_set, g2], by simp [T.get_set, g5], by simp [T.get_set, g7], by simp [T.get_set, g8], by simp [T.get_set, g9], by simp [T.get_set, g10], by simp [T.get_set, g11]⟩
      obtain ⟨nn, hnn⟩ := Int.eq_ofNat_of_zero_le (show 0 ≤ n by omega)
      subst hnn
      have hnT : nn < TV.length := by omega
      obtain ⟨R, hR⟩ : ∃ R, D[nn]? = some R := ⟨_, List.getElem?_eq_getElem (by rw [← hM7.hT]; exact hnT)⟩
      obtain ⟨v, hv⟩ : ∃ v, TV[nn]? = some v := ⟨_, List.getElem?_eq_getElem hnT⟩
      have hOld := hP.old R (List.mem_of_getElem? hR)
      have hgv := hOld.giveP hP.ll (by omega)
      have hRl := hOld.len
      obtain ⟨mt, ot, tyt, szt, trt, it, bt, kt, lt, qt⟩ := hM7.ht.rd.idx un37 io38 hnT
      have dt : trt.get ot = some v := qt 0 _ (by omega) (by simpa using hv)
      simp [evOp_call, T.get_set, oracF_cons, g1, g2, g5, g7, g8, g9, g10, g11, g12, loadE_eq, getC_eq, kx7, e0, e1, e2, e3, e4, hwf, hwu, c1, c2, hnT, hM7.ht.rd.lenS, it, kt, dt]
      refine Gd.mono (giveG_any s7 q m g z L f e (hPG hM7.hp hP.ll) (by omega) v R (hM7.hr nn R v hR hv).1 (by omega) _) ?_
      rintro ⟨r, s8⟩ hr
      rcases hr with ⟨_, hr, hmk⟩ | ⟨hno, _⟩
      case inr => exact absurd hgv hno
      simp only at hr
      subst hr
      obtain ⟨z', hM8⟩ := hM7.mark hmk
      obtain ⟨_, _, hle8, hkp8, x8, _⟩ := hmk
      simp only at hM8 hle8 hkp8 x8
      have kx8 := (hkp8 xb (by omega) (by omega)).trans kx7
      have hs8 : Ext st.nx st s8 := hs7.trans (x8.mono (by omega))
      simp [evOp_call, T.get_set, oracF_cons, g1, g2, g5, g7, g8, g9, g10, g11, g12]
      refine Gd_loop (ppS st (x 0) g st.nx q s5.nx f e i m xb (nn : Int) z' yt (setB L false (allJ R)) L R D TV) (fun en _ => muAt 19 R.length en) ?_ ?_
      · exact ⟨0, y9, Nat.zero_le _, ⟨by simp [T.get_set, g1], by simp [T.get_set, g2], by simp [T.get_set, g5], by simp [T.get_set, g7], by simp [T.get_set, g8], by simp [T.get_set, g9], by simp [T.get_set, g10], by simp [T.get_set, g11]⟩, by simp [T.get_set, g12], by simp [T.get_set], hs8, hM8, by omega, _, kx8, e2⟩
      clear g1 g2 g5 g7 g8 g9 g10 g11 g12 kt dt it bt lt qt kx7
      rintro en3 s16 ⟨k, y9, hk, ⟨g1, g2, g5, g7, g8, g9, g10, g11⟩, g12, g19, hs16, hM16, hxl6, tx6, kx6, ex6⟩
      have hv16 := (hM16.hr nn R v hR hv).1
      by_cases hkR : k < R.length
      · have hkR' : (k : Int) < (R.length : Int) := by omega
        obtain ⟨r, hr⟩ : ∃ r, R[k]? = some r := ⟨_, List.getElem?_eq_getElem hkR⟩
        have hrk := hOld.one r (List.mem_of_getElem? hr)
        obtain ⟨q0c, q1c⟩ := cells_get R k r hr
        have hwk := wrap_nat (n := k) (by omega)
        obtain ⟨mt, ot, tyt, szt, trt, it, bt, kt, lt, qt⟩ := hM16.ht.rd.idx un37 io38 hnT
        have dt : trt.get ot = some v := qt 0 _ (by omega) (by simpa using hv)
        simp [evOp_call, T.get_set, oracF_cons, g1, g2, g5, g7, g8, g9, g10, g11, g12, g19, hnT, it, loadE_eq, getC_eq, kx6, ex6, kt, dt, hv16.lenS, hkR']
        refine Gd_loop (ppT st (x 0) g st.nx q s5.nx f e i m xb (nn : Int) z' yt (setB L false (allJ R)) L R D TV k r) (fun en _ => muAt 20 r.2.toNat en) ?_ ?_
        · exact ⟨0, y9, by omega, ⟨by simp [T.get_set, g1], by simp [T.get_set, g2], by simp [T.get_set, g5], by simp [T.get_set, g7], by simp [T.get_set, g8], by simp [T.get_set, g9], by simp [T.get_set, g10], by simp [T.get_set, g11]⟩, by simp [T.get_set, g12], by simp [T.get_set, g19], by simp [T.get_set], hs16, by simpa [runJ] using hM16, hxl6, tx6, kx6, ex6⟩
        clear g1 g2 g5 g7 g8 g9 g10 g11 g12 kt dt it bt lt qt kx6 ex6 hv16
        have g19E := g19
        clear g19
        rintro en4 s17 ⟨j, y9, hj, ⟨g1, g2, g5, g7, g8, g9, g10, g11⟩, g12, g19, g20, hs17, hM17, hxb17, tx6, kx6, ex6⟩
        obtain ⟨mt, ot, tyt, szt, trt, it, bt, kt, lt, qt⟩ := hM17.ht.rd.idx un37 io38 hnT
        have dt : trt.get ot = some v := qt 0 _ (by omega) (by simpa using hv)
        have hv17 := (hM17.hr nn R v hR hv).1
        obtain ⟨m1, o1, ty1, sz1, tr1, i1, b1, k1, l1, q1⟩ := hv17.idx un38 io52 hkR
        have d0 : tr1.get o1 = some (.int .i64 r.1) := q1 0 _ (by omega) q0c
        have d1 : tr1.get (o1 + 1) = some (.int .i64 r.2) := q1 1 _ (by omega) q1c
        by_cases hjr : (j : Int) < r.2
        · have hwj := wrap_nat (n := j) (by omega)
          have wsj : IntKind.i64.wrap (r.1 + (j : Int)) = r.1 + (j : Int) := wrap_in (by omega) (by omega)
          obtain ⟨tb, tb0, tb1⟩ := hM17.hb
          have y9o := hM17.hy.one
          have hLX : (setB L false (allJ (R.take k) ++ runJ r.1 j)).length = m := by rw [setB_length]; exact hLm
          simp [evOp_call, T.get_set, oracF_cons, g1, g2, g5, g7, g8, g9, g10, g11, g12, g19, g20, hnT, it, loadE_eq, getC_eq, kx6, ex6, kt, dt, hkR, i1, k1, d0, d1, hjr]
          refine ⟨by kernel_rfl, ?_⟩
          simp [evOp_call, T.get_set, oracF_cons, g1, g2, g5, g7, g8, g9, g10, g11, g12, g19, g20, hnT, it, loadE_eq, getC_eq, getsB_succ, getsB_zero, kx6, ex6, kt, dt, hkR, i1, k1, d0, d1, tb0, tb1, y9o, wsj]
          refine evOp_build1 (v := .int .i64 (r.1 + (j : Int))) (cs := [.int .i64 (r.1 + (j : Int))]) (fun k => el76 k) (fun k => ze3 k) rfl (by omega) (by simp [T.get_set]) (fun k => rfl) rfl ?_
          have hbv := builtR (st := s17) (el := 3) (vs := iv [r.1 + (j : Int)]) (n := 1) (by decide) rfl
          have exb : Ext s17.nx s17 ⟨s17.nx + 1, s17.h.set s17.nx (.cs 3 1 (sets [.int .i64 (r.1 + (j : Int))] 0 .lf))⟩ := (Ext.refl _ _).new (Nat.le_refl _) _
          simp [evOp_call, T.get_set, oracF_cons, g1, g2, g5, g7, g8, g9, g10, g11]
          rw [cxOf_call (by kernel_rfl) (by kernel_rfl), forb_oneR (by kernel_rfl), liftF_nil]
          refine Gd.mono (set_any _ y9 _ (setB L false (allJ (R.take k) ++ runJ r.1 j)) (by rw [hLX]; exact hM17.hy.ext exb) (by omega) false [r.1 + (j : Int)] hbv (by simp) (by simp; omega) _) ?_
          rintro ⟨v', s19⟩ ⟨y9', hv', hy9', hyf9, x19⟩
          simp only at hv' hy9' hyf9 x19
          subst hv'
          have x19' : Ext s17.nx s17 s19 := exb.trans (x19.mono (Nat.le_succ _))
          have hM19 := hM17.ext x19'
          obtain ⟨tb, tb0, tb1⟩ := hM19.hb
          have y9o' := hy9'.one
          rw [hLX] at hy9'
          have hset : setB (setB L false (allJ (R.take k) ++ runJ r.1 j)) false [r.1 + (j : Int)] = setB L false (allJ (R.take k) ++ runJ r.1 (j + 1)) := by rw [← setB_app, runJ_succ, List.append_assoc]
          rw [hset] at hy9'
          have h17n := hM17.n9
          simp [evOp_call, T.get_set, oracF_cons, g1, g2, g5, g7, g8, g9, g10, g11]
          rw [cxOf_store]
          rotate_left
          · kernel_rfl
          rw [forb_step (by kernel_rfl) (forb_oneR (by kernel_rfl))]
          simp [evOp_call, T.get_set, oracF_cons, g1, g2, g5, g7, g8, g9, g10, g11, g12, g19, g20, storeK_g, putB_eq, roT, tb0, y9o', sets, hwj]
          have hs19 : Ext st.nx st s19 := hs17.trans (x19'.mono hs17.le)
          have kx9 := (x19'.keep xb hxb17).trans kx6
          exact ⟨⟨j + 1, y9', by omega, ⟨by simp [T.get_set, g1], by simp [T.get_set, g2], by simp [T.get_set, g5], by simp [T.get_set, g7], by simp [T.get_set, g8], by simp [T.get_set, g9], by simp [T.get_set, g10], by simp [T.get_set, g11]⟩, by simp [T.get_set, g12], by simp [T.get_set, g19], by simp [T.get_set], hs19.set (by omega) hM19.n9 _, hM19.setb (by simp [T.get_set]) hy9' (fun b hb => by have h2 : s17.nx + 1 ≤ b := (by rcases hb with ⟨_, _, _, e⟩ | ⟨_, _, _, e⟩; exact hyf9.2 _ _ _ _ e; exact hyf9.1 _ _ _ _ e); omega), by have := x19'.le; show xb < s19.nx; omega, tx6, (T.get_set_ne _ _ (by omega)).trans kx9, ex6⟩, muAt_lt (n := r.2.toNat) g20 (by simp [T.get_set]) (by omega)⟩
        · have hje : (j : Int) = r.2 := by omega
          have hjn : j = r.2.toNat := by omega
          have hall : setB L false (allJ (R.take k) ++ runJ r.1 j) = setB L false (allJ (R.take (k + 1))) := by rw [allJ_take hr, hjn]
          rw [hall] at hM17
          simp [evOp_call, T.get_set, oracF_cons, g1, g2, g5, g7, g8, g9, g10, g11, g12, g19, g20, hnT, it, loadE_eq, getC_eq, kx6, ex6, kt, dt, hkR, i1, k1, d0, d1, hjr, hwk]
          exact ⟨⟨k + 1, y9, hkR, ⟨by simp [T.get_set, g1], by simp [T.get_set, g2], by simp [T.get_set, g5], by simp [T.get_set, g7], by simp [T.get_set, g8], by simp [T.get_set, g9], by simp [T.get_set, g10], by simp [T.get_set, g11]⟩, by simp [T.get_set, g12], by simp [T.get_set], hs17, hM17, hxb17, tx6, kx6, ex6⟩, muAt_lt g19E (by simp [T.get_set]) hkR⟩
      obtain rfl : k = R.length := by omega
      have hkR' : ¬ (R.length : Int) < (R.length : Int) := by omega
      have hall : setB L false (allJ (R.take R.length)) = setB L false (allJ R) := by rw [List.take_length]
      rw [hall] at hM16
      obtain ⟨mt, tyt, trt, ht0, bt, lt, kt, hrt, ct, hput⟩ := OwnRow.put2 hM16.ht (i := nn) hnT
      subst ht0
      have dt : trt.get nn = some v := ct _ _ hv
      simp [evOp_call, T.get_set, oracF_cons, g1, g2, g5, g7, g8, g9, g10, g11, g12, g19, hnT, loadE_eq, getC_eq, kx6, ex6, kt, dt, hv16.lenS, putB_eq, hrt, sets]
      rw [if_pos (show nn + 1 ≤ TV.length from hnT)]
      simp [evOp_call, T.get_set, oracF_cons, g1, g2, g5, g7, g8, g9, g10, g11]
      exact .inl ⟨_, _, rfl, z', y9, .sg mt 0 TV.length 1, setB L false (allJ R), D.set nn [], TV.set nn (.c (.slice none 0 0)), C, ⟨by simp [T.get_set, g1], by simp [T.get_set, g2], by simp [T.get_set, g5], by simp [T.get_set, g7], by simp [T.get_set, g8], by simp [T.get_set, g9], by simp [T.get_set, g10], by simp [T.get_set, g11]⟩, hs16.set (by omega) lt _, by rw [setB_length]; exact hLm, hM16.put hnT rfl (hput s16 lt _), (hP.give hR).mono (by omega)⟩
    simp [evOp_call, T.get_set, oracF_cons, g1, g2, g5, g7, g8, g9, g10, g11, g12, loadE_eq, getC_eq, kx7, e0, e1, e2, e3, e4, hop0, hop1]
    refine Gd.mono (pfreeA_any s7 q m g z L f e (hPG hM7.hp hP.ll) K hK (by omega) _) ?_
    rintro ⟨r, s8⟩ ⟨hr, x8⟩
    simp only at hr x8
    subst hr
    have n8 := x8.le
    have hM8 := hM7.ext x8
    have hs8 : Ext st.nx st s8 := hs7.trans (x8.mono hs7.le)
    have kx8 := (x8.keep xb (by omega)).trans kx7
    simp [evOp_call, T.get_set, oracF_cons, g1, g2, g5, g7, g8, g9, g10, g11, g12, loadE_eq, getC_eq, kx8, e0, e1, e2, e3, e4]
    refine Gd.mono (giveG_any s8 q m g z L f e (hPG hM8.hp hP.ll) (by omega) yR KR (hK7.ext x8) (by omega) _) ?_
    rintro ⟨r, s9⟩ hr
    rcases hr with ⟨hgv, hr, hmk⟩ | ⟨hno, hr, x9⟩
    · simp only at hr
      subst hr
      obtain ⟨z', hM9⟩ := hM8.mark hmk
      obtain ⟨_, _, hle9, hkp9, x9, _⟩ := hmk
      simp only at hM9 hle9 hkp9 x9
      have kx9 := (hkp9 xb (by omega) (by omega)).trans kx8
      have hs9 : Ext st.nx st s9 := hs8.trans (x9.mono (by omega))
      simp [evOp_call, T.get_set, oracF_cons, g1, g2, g5, g7, g8, g9, g10, g11, g12]
      refine ⟨by kernel_rfl, ?_⟩
      have hll : e ≤ (setB L false (allJ KR)).length * 64 := by rw [setB_length]; exact hP.ll
      obtain ⟨K2, hK2, hK2l⟩ := gapsP_ex (setB L false (allJ KR)) e hll (e - f) f (Nat.le_refl _) (by omega)
      have hfree := give_free (by omega) (by omega) hP.ll hgv hK hK2
      have hB2 := lensB_le (gaps_ok (by omega) (by omega) hll hK2).1
      have hfg : ∀ b, b ≠ xb → inF [(xb, xb + 1)] b = false := fun b hb => by rw [inF_cons, if_neg (by omega)]; rfl
      have hzx : ¬ rowIn z' xb := rd_offP (P := fun u => ∃ a, u = .int .u64 a) hM9.hp.2.2 (by have := hM9.m1; omega) (fun u hu => by unfold wv at hu; obtain ⟨b, _, rfl⟩ := List.mem_map.1 hu; exact ⟨_, rfl⟩) kx9 fun j hj => by
        rcases (show j = 0 ∨ j = 1 ∨ j = 2 ∨ j = 3 ∨ j = 4 by omega) with rfl | rfl | rfl | rfl | rfl
        · exact ⟨_, e0, by rintro ⟨a, e⟩; cases e⟩
        · exact ⟨_, e1, by rintro ⟨a, e⟩; cases e⟩
        · exact ⟨_, e2, by rintro ⟨a, e⟩; cases e⟩
        · exact ⟨_, e3, by rintro ⟨a, e⟩; cases e⟩
        · exact ⟨_, e4, by rintro ⟨a, e⟩; exact rd_notint hK7 _ _ e⟩
      have hK9 := row_keep (hK7.ext x8) fun b hb hlt => ⟨Nat.lt_of_lt_of_le hlt hle9, hkp9 b hlt (by have := hKlt b hb; omega)⟩
      rw [cxOf_callL [(xb, xb + 1)] (by kernel_rfl) (by kernel_rfl) (looseW_at 12 (.p xb 0) (by simp [T.get_set, g12]) (by kernel_rfl)) (fun x hx => by simp at hx; subst hx; simp [clashes_tmp, T.get_set, blkOf]; exact hfg q (by omega)) (fun p hp => by simp at hp; subst hp; rw [isRo_cs kx9]; decide), forb_nil]
      simp only [List.append_nil]
      refine Gd_lift (R := fun v s' => v = .int .i64 (lens K2)) (Gd.mono (pfreeA_any _ q m g z' _ f e (hPG (hM9.hp.er (hfg q (by omega)) fun b hb => hfg b (fun e => hzx (by rw [← e]; exact hb))) hll) K2 hK2 (by omega) _) fun r h => h) ?_
      rintro _ _ s10 rfl - x10
      have n10 := x10.le
      have hxb9 : xb < s9.nx := by omega
      have kx10 := (x10.keep xb hxb9).trans kx9
      have hlm : ∀ (b nx : Nat), inF ((0, xb) :: (xb + 1, nx) :: forb b (rsOf [] 1 s9.nx s10.nx) []) xb = false := fun b nx => inF_ld hxb9
      simp (maxDischargeDepth := 12) [evOp_call, T.get_set, oracF_cons, g1, g2, g5, g7, g8, g9, g10, g11, g12, loadE_eq, getC_eq, kx10, e4, hlm, hwf, hwu]
      rw [cxOf_call (by kernel_rfl) (by kernel_rfl), forb_step (by kernel_rfl) rfl, liftF_nil]
      refine Gd.mono (own12 s10 [] (fun _ _ => rfl) yR KR (hK9.ext x10) (by omega) (fun _ _ => rfl) _) ?_
      rintro ⟨z2, s11⟩ ⟨hz2, x11⟩
      simp only at hz2 x11
      simp (maxDischargeDepth := 12) [evOp_call, T.get_set, oracF_cons, g1, g2, g5, g7, g8, g9, g10, g11, g12]
      rw [cxOf_call (by kernel_rfl) (by kernel_rfl), forb_step (by kernel_rfl) (forb_step (by kernel_rfl) rfl), liftF_nil]
      refine Gd.mono (rtotal_any s11 z2 KR hz2.rd (by omega) _) ?_
      rintro ⟨r, s12⟩ ⟨hr, x12⟩
      simp only at hr x12
      subst hr
      have hww : IntKind.i64.wrap (lens K + lens (KR.filter cnt)) = lens K2 := by rw [← hfree]; exact wrap_in (by omega) (by omega)
      simp (maxDischargeDepth := 12) [evOp_call, T.get_set, oracF_cons, g1, g2, g5, g7, g8, g9, g10, g11, g12, hww]
      exact .inr ⟨_, _, rfl, by simp [T.get_set]⟩
    · simp only at hr x9
      subst hr
      have n9 := x9.le
      have hM9 := hM8.ext x9
      have hs9 : Ext st.nx st s9 := hs8.trans (x9.mono hs8.le)
      simp [evOp_call, T.get_set, oracF_cons, g1, g2, g5, g7, g8, g9, g10, g11, g12]
      refine Gd.mono (pfreeA_any s9 q m g z L f e (hPG hM9.hp hP.ll) K hK (by omega) _) ?_
      rintro ⟨r, s10⟩ ⟨hr, x10⟩
      simp only at hr x10
      subst hr
      simp [evOp_call, T.get_set, oracF_cons, g1, g2, g5, g7, g8, g9, g10, g11, g12]
      exact .inl ⟨_, _, rfl, z, y9, yt, L, D, TV, C, ⟨by simp [T.get_set, g1], by simp [T.get_set, g2], by simp [T.get_set, g5], by simp [T.get_set, g7], by simp [T.get_set, g8], by simp [T.get_set, g9], by simp [T.get_set, g10], by simp [T.get_set, g11]⟩, hs9.trans (x10.mono hs9.le), hLm, hM9.ext x10, hP.mono (by omega)⟩
  clear hM7 hs7 hK7 kx7 g1 g2 g5 g7 g8 g9 g10 hLm hP K hK hKl L D TV C z y9 yt tg tg0 tg1 tg2
  rintro _ (⟨en2, s8, rfl, z, y9, yt, L, D, TV, C, ⟨g1, g2, g5, g7, g8, g9, g10, g11⟩, hs8, hLm, hM8, hP8⟩ | ⟨en2, s8, rfl, h4⟩)
  · rw [seqC_n]
    simp [evOp_call, T.get_set, oracF_cons, g1, g2, g5, g7, g8, g9, g10, g11]
    refine Gd.mono (pbits_any s8 q m g z L hM8.hp (by omega) _) ?_
    rintro ⟨r, s9⟩ ⟨yn, hr, hyn, hynf, x9⟩
    simp only at hr hyn hynf x9
    subst hr
    have hM9 := hM8.ext x9
    have yno := hyn.one
    obtain ⟨s10, hS10⟩ : ∃ s10 : St, s10 = ⟨s9.nx + 1, s9.h.set s9.nx (.cs 33 1 (sets [yn] 0 (sets [V.c (Value.slice none 0 0)] 0 T.lf)))⟩ := ⟨_, rfl⟩
    have x10 : Ext s9.nx s9 s10 := by rw [hS10]; exact (Ext.refl _ _).new (Nat.le_refl _) _
    obtain ⟨tn, kn, kn0⟩ : ∃ t, s10.h.get s9.nx = some (.cs 33 1 t) ∧ t.get 0 = some yn := ⟨_, by rw [hS10]; exact T.get_set_same _ _ _, by simp [sets, T.get_set]⟩
    have hM10 := hM9.ext x10
    have hyn10 := hyn.ext x10
    have hs10 : Ext st.nx st s10 := (hs8.trans (x9.mono hs8.le)).trans (x10.mono (Nat.le_trans hs8.le x9.le))
    obtain ⟨tb, tb0, tb1⟩ := hM10.hb
    have hlq : ¬ (m : Int) ≠ (m : Int) := fun h => h rfl
    simp [evOp_call, T.get_set, oracF_cons, g1, g2, g5, g7, g8, g9, g10, g11, newC_is, cellsOf, storeK_g, putB_eq, roT, yno]
    rw [← hS10]
    simp [evOp_call, T.get_set, oracF_cons, g1, g2, g5, g7, g8, g9, g10, g11, loadE_eq, getC_eq, kn, kn0, tb0, tb1, hyn10.lenS, hM10.hy.lenS]
    refine Gd_loop (ppC (x 0) st.nx q s5.nx f e i yt s9.nx m s10) (fun en _ => muAt 23 m en) ?_ ?_
    · exact ⟨0, Nat.zero_le _, ⟨by simp [T.get_set, g1], by simp [T.get_set, g2], by simp [T.get_set, g5], by simp [T.get_set, g7], by simp [T.get_set, g8], by simp [T.get_set, g9], by simp [T.get_set, g10], by simp [T.get_set, g11]⟩, by simp [T.get_set], by simp [T.get_set], rfl⟩
    clear g1 g2 g5 g7 g8 g9 g10 g11
    rintro e3 _ ⟨k, hk, ⟨g1, g2, g5, g7, g8, g9, g10, g11⟩, g22, g23, rfl⟩
    by_cases hkm : k < m
    · have hkm' : (k : Int) < (m : Int) := by omega
      have hwk := wrap_nat (n := k) (by omega)
      obtain ⟨w, hw0⟩ : ∃ w, L[k]? = some w := ⟨_, List.getElem?_eq_getElem (by omega)⟩
      have hw : (wv L)[k]? = some (wd w) := wv_get hw0
      obtain ⟨ma, oa, tya, sza, tra, ia, ba, ka, la, qa⟩ := hyn10.idx (st := s10) un31 io58 hkm
      obtain ⟨mb, ob, tyb, szb, trb, ib, bb, kb, lb, qb⟩ := hM10.hy.idx (st := s10) un31 io58 hkm
      have da : tra.get oa = some (wd w) := qa 0 _ (by omega) (by simpa using hw)
      have db : trb.get ob = some (wd w) := qb 0 _ (by omega) (by simpa using hw)
      simp [evOp_call, T.get_set, oracF_cons, g1, g2, g5, g7, g8, g9, g10, g11, g22, g23, loadE_eq, getC_eq, kn, kn0, tb0, tb1, hM10.hy.lenS, hkm, hkm']
      refine ⟨by kernel_rfl, ?_⟩
      simp [evOp_call, T.get_set, oracF_cons, g1, g2, g5, g7, g8, g9, g10, g11, g22, g23, loadE_eq, getC_eq, kn, kn0, tb0, tb1, ia, ib, ka, kb, da, db, hwk]
      exact ⟨⟨k + 1, hkm, ⟨by simp [T.get_set, g1], by simp [T.get_set, g2], by simp [T.get_set, g5], by simp [T.get_set, g7], by simp [T.get_set, g8], by simp [T.get_set, g9], by simp [T.get_set, g10], by simp [T.get_set, g11]⟩, by simp [T.get_set, g22], by simp [T.get_set], rfl⟩, muAt_lt g23 (by simp [T.get_set]) hkm⟩
    · obtain rfl : k = m := by omega
      have hkm' : ¬ (k : Int) < (k : Int) := by omega
      have hwi := wrap_nat (n := i) (by omega)
      simp [evOp_call, T.get_set, oracF_cons, g1, g2, g5, g7, g8, g9, g10, g11, g22, g23, loadE_eq, getC_eq, kn, kn0, tb0, tb1, hM10.hy.lenS, hkm', hwi]
      exact ⟨⟨i + 1, z, y9, yt, L, D, TV, C, hlt, ⟨by simp [T.get_set, g1], by simp [T.get_set, g2], by simp [T.get_set, g5], by simp [T.get_set, g7], by simp [T.get_set, g8], by simp [T.get_set, g9], by simp [T.get_set, g10], by simp [T.get_set]⟩, hs10, hLm, hM10, hP8.mono (by omega)⟩, muAt_lt g11E (by simp [T.get_set]) hlt⟩
  · simp [seqC_ret, h4]
end Go.Proofs.Ytlonobfpogimgaa
set_option linter.unusedVariables false
namespace Go.Proofs.Ytlonobfpogimgaa
open Go.RowKit Ev
theorem w_PoolPlays (b n c k : Int) (l : List LAct) (W : World) (_ : -9223372036854775808 ≤ b ∧ b ≤ 9223372036854775807) (_ : -9223372036854775808 ≤ n ∧ n ≤ 9223372036854775807) (_ : -9223372036854775808 ≤ c ∧ c ≤ 9223372036854775807) (_ : -9223372036854775808 ≤ k ∧ k ≤ 9223372036854775807) (y : Value) (hy : (rowC actC).rel W (fun j => [y][j]?.getD default) l) :
    Calls Try.prog 3 #[.agg #[.int .i64 b, .int .i64 n, .int .i64 c, .int .i64 k], y] W fun e W' => e = .returned (.bool true) ∧ Below W.heap.size W W' := by
  obtain ⟨s1, r1, v1, b1, l1, q1, e1, a1⟩ := (rowC actC).enter (Begin.zero W) hy
  exact law_calls (lawX_sound namesOkL mixesL (callL_both namesOkL mixesL) Try.func4 rfl plAwake) b1 (.cons (rel_gV _ ⟨b, n, c, k⟩) (.cons (q1 0 (by decide)).2 .nil)) (g_PoolPlays s1 ⟨b, n, c, k⟩ v1 l a1)
end Go.Proofs.Ytlonobfpogimgaa

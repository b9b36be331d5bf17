/-
  Contracts of package pool: one, fewest, Take (a pool for one client).
-/
import Derived.Test.YtdoennkmcloalaaPbD
set_option linter.unusedSimpArgs false
set_option linter.unusedVariables false
namespace Go.Proofs.Ytdoennkmcloalaa
open Go.RowKit Ev
/-- a pool for one client, of which this is known -/
structure P1 (st : St) (q m : Nat) (g : Gm) (z : V) (L : List (BitVec 64)) (f e : Nat) : Prop where
  hg : isGood g
  hp : PoolAt st q g z m L
  hm : m ≤ 100000
  hc : g.c = 1
  hf : dF g = (f : Int)
  he : dF g + dN g = (e : Int)
  hfe : f < e
  he2 : e ≤ 1000
theorem P1.ext {st s' : St} {q m : Nat} {g : Gm} {z : V} {L : List (BitVec 64)} {f e : Nat} (h : P1 st q m g z L f e) (k : Ext st.nx st s') : P1 s' q m g z L f e :=
  ⟨h.hg, h.hp.ext k, h.hm, h.hc, h.hf, h.he, h.hfe, h.he2⟩
def oneR (st : St) (o : Option Int) (n : Int) (r : V × St) : Prop := (match o with
  | some a => RdRow r.2 r.1 2 1 (cells [(a, n)]) ∧ RowFrom st.nx r.1
  | none => r.1 = .c (.slice none 0 0)) ∧ Ext st.nx st r.2
set_option maxRecDepth 20000 in
set_option maxHeartbeats 4000000 in
theorem one_any (st : St) (q m : Nat) (g : Gm) (z : V) (L : List (BitVec 64)) (f e : Nat) (P : P1 st q m g z L f e) (n : Int) (nt : Nat) :
    Gd (callL Try.prog ⟨false, [], 0, nt⟩ 147 [.p q 0, .int .i64 0, .int .i64 n] st) (oneR st (freeB L (f : Int) (e : Int) n) n) := by
  rw [Gd_callL Try.func147 rfl]
  have P0 := P
  obtain ⟨hg, hp, hm, hc, hf, he, hfe, he2⟩ := P
  have hgv : grpV g 0 = .t [.int .i64 (f : Int), .int .i64 ((e : Int) - (f : Int))] := by
    unfold grpV
    rw [if_pos (by omega)]
    unfold grpN
    rw [if_pos (by omega), Int.zero_mul, show dF g + 0 = (f : Int) by omega, show dN g - 0 = (e : Int) - (f : Int) by omega]
  simp [evOp_call, sets, T.get_set]
  refine Gd.mono (group_any st q m g z L hg hp 0 _) ?_
  rintro ⟨r, s1⟩ ⟨hr, x1⟩
  simp only at hr x1
  subst hr
  rw [hgv]
  have hp1 := hp.ext x1
  have hp10 := hp1
  obtain ⟨hq, ⟨t, ht, t0, t1, t2, t3, t4⟩, hrz⟩ := hp1
  have hLm : L.length = m := by have := hrz.1; simpa using this
  have hrL : RdRow s1 z 1 L.length (wv L) := by rw [hLm]; exact hrz
  have w1 : IntKind.i64.wrap ((f : Int) + ((e : Int) - (f : Int))) = (e : Int) := by rw [show (f : Int) + ((e : Int) - (f : Int)) = (e : Int) by omega]; exact wrap_in (by omega) (by omega)
  simp [tupK, evOp_call, sets, T.get_set, loadE_eq, getC_eq, ht, t4, getsB_succ, getsB_zero, w1]
  refine Gd.mono (free_any s1 z L hrL (by omega) (f : Int) (e : Int) n (by omega) _) ?_
  rintro ⟨r, s2⟩ ⟨hr, x2⟩
  simp only at hr x2
  subst hr
  have hs2 : Ext st.nx st s2 := x1.trans (x2.mono x1.le)
  cases hfr : freeB L (f : Int) (e : Int) n with
  | some a =>
    simp [freeV, tupK, evOp_call, T.get_set]
    refine evOp_build1 (v := .g [.int .i64 a, .int .i64 n]) (cs := [.int .i64 a, .int .i64 n]) (fun k => el39 k) (fun k => ze47 k) rfl (by omega) (by simp [T.get_set]) (fun k => rfl) rfl ?_
    simp [evOp_call, T.get_set]
    have hb := hs2.le
    refine ⟨⟨⟨rfl, .inr (.inl ⟨s2.nx, 0, 1, _, _, _, rfl, Nat.lt_succ_self _, T.get_set_same _ _ _, by simp, fun j v hj => ?_⟩)⟩, ⟨fun _ _ _ _ e => (by cases e), fun _ _ _ _ e => (by injection e with e; omega)⟩⟩, hs2.new hb _⟩
    have hj2 : ([.int .i64 a, .int .i64 n] : List V)[j]? = some v := hj
    have hlt := lt_of_get hj2
    rw [get_sets, if_pos ⟨Nat.zero_le _, by omega⟩]
    simpa using hj2
  | none =>
    simp [freeV, tupK, evOp_call, T.get_set]
    refine Gd.mono (pdata_any s2 q m g z L hg (hp10.ext x2) _) ?_
    rintro ⟨r, s3⟩ ⟨hr, x3⟩
    simp only at hr x3
    subst hr
    rw [he, hf]
    have ht3 := (x3.keep _ (Nat.lt_of_lt_of_le hq x2.le)).trans ((x2.keep _ hq).trans ht)
    have hs3 : Ext st.nx st s3 := hs2.trans (x3.mono hs2.le)
    simp [tupK, evOp_call, sets, T.get_set, loadE_eq, getC_eq, ht3, t4, getsB_succ, getsB_zero]
    refine Gd.mono (free_any s3 z L ((hrL.ext x2).ext x3) (by omega) (f : Int) (e : Int) n (by omega) _) ?_
    rintro ⟨r, s4⟩ ⟨hr, x4⟩
    simp only at hr x4
    subst hr
    rw [hfr]
    simp [freeV, tupK, evOp_call, T.get_set]
    exact ⟨rfl, hs3.trans (x4.mono hs3.le)⟩
set_option maxRecDepth 20000 in
set_option maxHeartbeats 4000000 in
theorem few_any (st : St) (q m : Nat) (g : Gm) (z : V) (L : List (BitVec 64)) (f e : Nat) (P : P1 st q m g z L f e) (a k n : Int) (hK : gapsC L f e [(a, k)]) (hc : cnt (a, k) = true) (hn : k ≤ n ∧ n ≤ 9223372036854775807) (nt : Nat) :
    Gd (callL Try.prog ⟨false, [], 0, nt⟩ 148 [.p q 0, .int .i64 n] st) (gapR st [(a, k)]) := by
  rw [Gd_callL Try.func148 rfl]
  simp [evOp_call, sets, T.get_set]
  refine Gd.mono (gaps_any st q m g z L P.hg P.hp P.hm f e P.hf P.he P.hfe (by have := P.he2; omega) [(a, k)] hK _) ?_
  rintro ⟨y, s1⟩ ⟨hy, x1⟩
  simp only at hy x1
  simp [evOp_call, sets, T.get_set]
  refine Gd.mono (sortS1_any s1 y _ [(a, k)] hy.rd (by simp) _) ?_
  rintro _ rfl
  simp [evOp_call, sets, T.get_set]
  refine Gd.mono (cut1_any s1 y a k n hy.rd hc hn _) ?_
  rintro ⟨r, s2⟩ ⟨y2, w, hr, hy2, x2⟩
  simp only at hr hy2 x2
  subst hr
  simp [tupK, evOp_call, sets, T.get_set]
  exact ⟨ownLow hy2 x1.le, x1.trans (x2.mono x1.le)⟩
end Go.Proofs.Ytdoennkmcloalaa

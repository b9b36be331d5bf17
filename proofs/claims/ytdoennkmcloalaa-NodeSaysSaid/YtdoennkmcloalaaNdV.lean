/-
  The document's own nodes: runs apart, those of Lost; a node read.
-/
import Derived.Test.YtdoennkmcloalaaNdU
import Derived.Test.YtdoennkmcloalaaGmR
set_option linter.unusedSimpArgs false
namespace Go.Proofs.Ytdoennkmcloalaa
open Go.RowKit Ev
def raI (st : St) (y : V) (R : List (Int × Int)) (e : Env) (s : St) : Prop := ∃ i : Nat, i ≤ R.length ∧ e.get 0 = some y ∧ e.get 3 = some (.int .i64 (i : Int)) ∧ apartR R i ∧ s = st
def raJ (st : St) (y : V) (R : List (Int × Int)) (i : Nat) (e : Env) (s : St) : Prop := ∃ k : Nat, k ≤ i ∧ e.get 0 = some y ∧ e.get 3 = some (.int .i64 (i : Int)) ∧ e.get 4 = some (.int .i64 (k : Int)) ∧ (∀ q, q < k → ¬ hit (ra R i) (ra R q)) ∧ s = st
set_option maxRecDepth 20000 in
set_option maxHeartbeats 4000000 in
theorem rapart_any (st : St) (y : V) (R : List (Int × Int)) (hy : RdRow st y 2 R.length (pairs R)) (hK : R.length ≤ 1000000) (hR : ∀ r ∈ R, smallR r) (nt : Nat) :
    Gd (callL Try.prog ⟨false, [], 0, nt⟩ 75 [y] st) fun r => r = (.bool (decide (apartR R R.length)), st) := by
  rw [Gd_callL Try.func75 rfl]
  simp [evOp_call, sets, T.get_set]
  refine Gd_loop (raI st y R) (fun en _ => muAt 3 R.length en) ?_ ?_
  · exact ⟨0, Nat.zero_le _, by simp [T.get_set], by simp [T.get_set], fun i hi => by omega, rfl⟩
  · rintro en s ⟨i, hi, g0, g3, hap, rfl⟩
    by_cases hlt : i < R.length
    · have hlt' : (i : Int) < R.length := by omega
      have hwi := wrap_nat (n := i) (by omega)
      simp [evOp_call, T.get_set, g0, g3, hy.lenS, hlt']
      refine Gd_loop (raJ s y R i) (fun en _ => muAt 4 i en) ?_ ?_
      · exact ⟨0, Nat.zero_le _, by simp [T.get_set, g0], by simp [T.get_set, g3], by simp [T.get_set], fun q hq => by omega, rfl⟩
      · have G3 := g3
        clear g0 g3
        rintro e2 s2 ⟨k, hk, g0, g3, g4, hno, rfl⟩
        by_cases hkl : k < i
        · have hkl' : (k : Int) < i := by omega
          have hwk := wrap_nat (n := k) (by omega)
          obtain ⟨m, o, ty, sz, tr, hid, hm, hg, ho, hc⟩ := hy.idx (st := s2) un42 io182 hlt
          obtain ⟨m2, o2, ty2, sz2, tr2, hid2, hm2, hg2, ho2, hc2⟩ := hy.idx (st := s2) un42 io182 (show k < R.length by omega)
          have hri := ra_get hlt
          have hrk := ra_get (show k < R.length by omega)
          have hcl := pairs_at R i _ hri
          have hcl2 := pairs_at R k _ hrk
          have t0 : tr.get o = some (.int .i64 (ra R i).1) := hc 0 _ (by omega) hcl.1
          have t1 : tr.get (o + 1) = some (.int .i64 (ra R i).2) := hc 1 _ (by omega) hcl.2
          have u0 : tr2.get o2 = some (.int .i64 (ra R k).1) := hc2 0 _ (by omega) hcl2.1
          have u1 : tr2.get (o2 + 1) = some (.int .i64 (ra R k).2) := hc2 1 _ (by omega) hcl2.2
          have si := hR _ (List.mem_of_getElem? hri)
          have sk := hR _ (List.mem_of_getElem? hrk)
          obtain ⟨⟨a1, a2⟩, a3, a4⟩ := si
          obtain ⟨⟨b1, b2⟩, b3, b4⟩ := sk
          have w1 : IntKind.i64.wrap ((ra R k).1 + (ra R k).2) = (ra R k).1 + (ra R k).2 := wrap_in (by omega) (by omega)
          have w2 : IntKind.i64.wrap ((ra R i).1 + (ra R i).2) = (ra R i).1 + (ra R i).2 := wrap_in (by omega) (by omega)
          simp [evOp_call, T.get_set, g0, g3, g4, hkl']
          refine ⟨by kernel_rfl, ?_⟩
          have go : ¬ hit (ra R i) (ra R k) → raJ s2 y R i ((e2.set 4 (.int .i64 ((k + 1 : Nat) : Int)))) s2 → True := fun _ _ => trivial
          have more : ¬ hit (ra R i) (ra R k) → ∀ q, q < k + 1 → ¬ hit (ra R i) (ra R q) := fun h q hq => by
            rcases (by omega : q < k ∨ q = k) with h2 | rfl
            · exact hno q h2
            · exact h
          by_cases c1 : (ra R i).1 < (ra R k).1 + (ra R k).2
          · by_cases c2 : (ra R k).1 < (ra R i).1 + (ra R i).2
            · have hd : decide (apartR R R.length) = false := decide_eq_false fun h => h i hlt k hkl ⟨c1, c2⟩
              simp [evOp_call, T.get_set, g0, g3, g4, hid, hid2, loadE_eq, getC_eq, hg, hg2, t0, t1, u0, u1, w1, w2, c1, c2, hd]
            · simp [evOp_call, T.get_set, g0, g3, g4, hid, hid2, loadE_eq, getC_eq, hg, hg2, t0, t1, u0, u1, w1, w2, c1, c2, hwk]
              exact ⟨⟨k + 1, hkl, by simp [T.get_set, g0], by simp [T.get_set, g3], by simp [T.get_set], more fun h => c2 h.2, rfl⟩, muAt_lt g4 (by simp [T.get_set]) hkl⟩
          · simp [evOp_call, T.get_set, g0, g3, g4, hid, hid2, loadE_eq, getC_eq, hg, hg2, t0, t1, u0, u1, w1, w2, c1, hwk]
            exact ⟨⟨k + 1, hkl, by simp [T.get_set, g0], by simp [T.get_set, g3], by simp [T.get_set], more fun h => c1 h.1, rfl⟩, muAt_lt g4 (by simp [T.get_set]) hkl⟩
        · obtain rfl : k = i := by omega
          simp [evOp_call, T.get_set, g0, g3, g4, hwi]
          refine ⟨⟨k + 1, hlt, by simp [T.get_set, g0], by simp [T.get_set], fun j hj => ?_, rfl⟩, muAt_lt G3 (by simp [T.get_set]) hlt⟩
          rcases (by omega : j < k ∨ j = k) with h2 | rfl
          · exact hap j h2
          · exact hno
    · obtain rfl : i = R.length := by omega
      have hd : decide (apartR R R.length) = true := decide_eq_true hap
      simp [evOp_call, T.get_set, g0, g3, hy.lenS, hd]
set_option maxRecDepth 20000 in
set_option maxHeartbeats 4000000 in
theorem rislost_any (st : St) (g : Gm) (hg : isGood g) (y : V) (R : List (Int × Int)) (hy : RdRow st y 2 R.length (pairs R)) (nt : Nat) :
    Gd (callL Try.prog ⟨false, [], 0, nt⟩ 131 [gV g, y] st) fun r => r.1 = .bool (decide (R = lostR g)) ∧ Ext st.nx st r.2 := by
  rw [Gd_callL Try.func131 rfl]
  have e0 := rbox_ext st g
  have gVg : V.g [V.int .i64 g.b, V.int .i64 g.n, V.int .i64 g.c, V.int .i64 g.k] = gV g := rfl
  simp [gV, evOp_call, sets, T.get_set, cellsOf, newC_is, loadE_eq, getC_eq, getsB_succ, getsB_zero]
  rw [gVg]
  refine Gd.mono (rlost_any _ g _) ?_
  rintro ⟨r, s1⟩ ⟨hr, x1⟩
  simp only at hr x1
  have hl : at2 g (nF g + g.n) g.n = .t [.int .i64 (nF g + g.n), .int .i64 g.n] := by unfold at2; rw [if_pos hg]
  rw [hl] at hr
  subst hr
  have hs1 : Ext st.nx st s1 := e0.trans (x1.mono (Nat.le_succ _))
  have hy1 := hy.ext hs1
  by_cases h1 : R.length = 1
  · have h1' : (R.length : Int) = 1 := by omega
    obtain ⟨⟨F, L⟩, rfl⟩ := List.length_eq_one_iff.1 h1
    obtain ⟨m, o, ty, sz, tr, hid, hm, hgt, ho, hc⟩ := hy1.idx (st := s1) un42 io182 (i := 0) (by simp)
    have t0 : tr.get o = some (.int .i64 F) := hc 0 _ (by omega) rfl
    have t1 : tr.get (o + 1) = some (.int .i64 L) := hc 1 _ (by omega) rfl
    have hlen := hy1.lenS
    simp at hlen
    by_cases c1 : F = nF g + g.n
    · by_cases c2 : L = g.n
      · have hd : decide ([(F, L)] = lostR g) = true := decide_eq_true (by unfold lostR; rw [c1, c2])
        simp [evOp_call, T.get_set, hlen, hid, loadE_eq, getC_eq, hgt, t0, t1, c1, c2]
        exact ⟨by rw [← c1, ← c2]; exact of_decide_eq_true hd, hs1⟩
      · have hd : ¬ ([(F, L)] = lostR g) := fun e => by unfold lostR at e; simp at e; exact c2 e.2
        simp [evOp_call, T.get_set, hlen, hid, loadE_eq, getC_eq, hgt, t0, t1, c1, c2]
        exact ⟨by rw [← c1]; exact hd, hs1⟩
    · have hd : ¬ ([(F, L)] = lostR g) := fun e => by unfold lostR at e; simp at e; exact c1 e.1
      simp [evOp_call, T.get_set, hlen, hid, loadE_eq, getC_eq, hgt, t0, t1, c1, hd]
      exact hs1
  · have h1' : ¬ (R.length : Int) = 1 := by omega
    have hd : ¬ (R = lostR g) := fun e => h1 (by rw [e]; rfl)
    simp [evOp_call, T.get_set, hy1.lenS, h1, h1', hd]
    exact hs1
end Go.Proofs.Ytdoennkmcloalaa

/-
  GeomParts' walk.
-/
import Derived.Test.YtnigikccijjihaaGmM
set_option linter.unusedSimpArgs false
namespace Go.Proofs.Ytnigikccijjihaa
open Go.RowKit Ev
/-- a geometry's box -/
structure G1 (st s : St) (g : Gm) : Prop where
  k0 : s.h.get st.nx = some (.cs 56 4 ((((T.lf.set 0 (.int .i64 g.b)).set 1 (.int .i64 g.n)).set 2 (.int .i64 g.c)).set 3 (.int .i64 g.k)))
  lt : st.nx < s.nx
theorem G1.ext {st s s' : St} {g : Gm} (w : G1 st s g) (k : Ext s.nx s s') : G1 st s' g :=
  ⟨(k.keep _ w.lt).trans w.k0, Nat.lt_of_lt_of_le w.lt k.le⟩
def booksV (g : Gm) (c : Int) : V := if isGood g ∧ 0 ≤ c ∧ c < g.c then .t [.int .i64 (1 + c * g.k), .int .i64 g.k] else .t [.int .i64 0, .int .i64 0]
set_option maxRecDepth 20000 in
set_option maxHeartbeats 4000000 in
theorem gbooks_any (st : St) (g : Gm) (c : Int) (nt : Nat) :
    Gd (callL Try.prog ⟨false, [], 0, nt⟩ 58 [gV g, .int .i64 c] st) fun r => r.1 = booksV g c ∧ Ext st.nx st r.2 := by
  rw [Gd_callL Try.func58 rfl]
  have e0 := box_ext st g
  simp [gV, evOp_call, sets, T.get_set, cellsOf, newC_is, loadE_eq, getC_eq, getsB_succ, getsB_zero]
  refine Gd.mono (good_any _ [] (fun _ _ => rfl) 0 (Nat.zero_le _) g _) ?_
  rintro ⟨r, s1⟩ ⟨hr, x1⟩
  simp only at hr x1
  subst hr
  have hs1 : Ext st.nx st s1 := e0.trans (x1.mono (Nat.le_succ _))
  have l1 : st.nx < s1.nx := x1.le
  have k0 : s1.h.get st.nx = some (.cs 56 4 ((((T.lf.set 0 (.int .i64 g.b)).set 1 (.int .i64 g.n)).set 2 (.int .i64 g.c)).set 3 (.int .i64 g.k))) := by
    rw [x1.keep st.nx (Nat.lt_succ_self _)]
    exact T.get_set_same _ _ _
  by_cases hg : isGood g
  · have hd : decide (isGood g) = true := by simpa using hg
    have hck := ck_le hg.1
    obtain ⟨h1, h2, h3, h4, h5, h6, h7, h8⟩ := hg.1
    have w1 : IntKind.i64.wrap (g.c - 1) = g.c - 1 := wrap_in (by omega) (by omega)
    simp [evOp_call, T.get_set, hd, loadE_eq, getC_eq, k0, w1]
    refine Gd.mono (between_any _ _ _ _ _ _ _) ?_
    rintro _ rfl
    by_cases hn : 0 ≤ c ∧ c < g.c
    · have hd2 : decide (0 ≤ c ∧ c ≤ g.c - 1) = true := by simp; omega
      simp only [hd2]
      have hckb : 0 ≤ c * g.k ∧ c * g.k ≤ 880 := by
        rcases (by omega : c = 0 ∨ c = 1 ∨ c = 2 ∨ c = 3 ∨ c = 4 ∨ c = 5 ∨ c = 6 ∨ c = 7) with e | e | e | e | e | e | e | e <;> rw [e] <;> omega
      have w2 : IntKind.i64.wrap (c * g.k) = c * g.k := wrap_in (by omega) (by omega)
      have w3 : IntKind.i64.wrap (1 + c * g.k) = 1 + c * g.k := wrap_in (by omega) (by omega)
      simp [evOp_call, T.get_set, loadE_eq, getC_eq, k0, getsB_succ, getsB_zero]
      refine ⟨by kernel_rfl, ?_⟩
      rw [cxOf_callL [(st.nx, st.nx + 1), (st.nx, st.nx + 1)] (by kernel_rfl) (by kernel_rfl) (looseW_at 2 (.p st.nx 0) (by simp [T.get_set]) (by kernel_rfl)) (fun x hx => by simp at hx; subst hx; simp [clashes_tmp, T.get_set])]
      simp only [forb_nil, List.append_nil]
      refine Gd.mono (lay_any s1 [(st.nx, st.nx + 1), (st.nx, st.nx + 1)] (fun k hk => by rw [inF_cons, if_neg (by omega), inF_cons, if_neg (by omega)]; rfl) 0 (Nat.zero_le _) g hg.1 _) ?_
      rintro ⟨r, s2⟩ ⟨hr, x2⟩
      simp only at hr x2
      subst hr
      have k2 := (x2.keep _ l1).trans k0
      have hld : ∀ (b i nx' : Nat), inF ((0, st.nx) :: (st.nx + 1, nx') :: forb b (rsOf [] i s1.nx s2.nx) []) st.nx = false := fun b i nx' => inF_ld (by omega)
      simp [evOp_call, T.get_set, layV, loadE_eq, getC_eq, k2, hld, w2, w3, booksV, hg, hn]
      exact hs1.trans (x2.mono hs1.le)
    · have hd2 : decide (0 ≤ c ∧ c ≤ g.c - 1) = false := by simp; omega
      simp only [hd2]
      have hno : booksV g c = .t [.int .i64 0, .int .i64 0] := by unfold booksV; rw [if_neg fun h => hn h.2]
      rw [hno]
      simp [evOp_call, T.get_set]
      exact hs1
  · have hd : decide (isGood g) = false := by simpa using hg
    have hno : booksV g c = .t [.int .i64 0, .int .i64 0] := by unfold booksV; rw [if_neg fun h => hg h.1]
    rw [hno]
    simp [evOp_call, T.get_set, hd]
    exact hs1
def io (p : Prop) [Decidable p] : Int := if p then 1 else 0
def gpQ (st : St) (g : Gm) (q n : Int) (r : X × Env × St) : Prop := ∃ en s, r = (.n, en, s) ∧ en.get 1 = some (.int .i64 q) ∧ en.get 2 = some (.p st.nx 0) ∧ en.get 5 = some (.int .i64 n) ∧ G1 st s g
def gpB (st : St) (g : Gm) (q n0 : Int) (en : Env) (s : St) : Prop := ∃ i : Nat, (i : Int) ≤ g.c ∧ en.get 1 = some (.int .i64 q) ∧ en.get 2 = some (.p st.nx 0) ∧ en.get 5 = some (.int .i64 (n0 + io (1 ≤ q ∧ q < 1 + i * g.k))) ∧ en.get 6 = some (.int .i64 (i : Int)) ∧ G1 st s g
def gpBQ (st : St) (g : Gm) (q n : Int) (i : Nat) (r : X × Env × St) : Prop := ∃ en s, r = (.n, en, s) ∧ en.get 1 = some (.int .i64 q) ∧ en.get 2 = some (.p st.nx 0) ∧ en.get 5 = some (.int .i64 n) ∧ en.get 6 = some (.int .i64 (i : Int)) ∧ G1 st s g
def gpN (st : St) (g : Gm) (q n0 : Int) (en : Env) (s : St) : Prop := ∃ i : Nat, 1 ≤ i ∧ (i : Int) ≤ g.n + 1 ∧ en.get 1 = some (.int .i64 q) ∧ en.get 2 = some (.p st.nx 0) ∧ en.get 5 = some (.int .i64 (n0 + io (nF g ≤ q ∧ q < nF g + i - 1))) ∧ en.get 9 = some (.int .i64 (i : Int)) ∧ G1 st s g
def gpNQ (st : St) (g : Gm) (q n : Int) (i : Nat) (r : X × Env × St) : Prop := ∃ en s, r = (.n, en, s) ∧ en.get 1 = some (.int .i64 q) ∧ en.get 2 = some (.p st.nx 0) ∧ en.get 5 = some (.int .i64 n) ∧ en.get 9 = some (.int .i64 (i : Int)) ∧ G1 st s g
def gpZ (st : St) (g : Gm) (q n : Int) (r : X × Env × St) : Prop := ∃ en s, r = (.n, en, s) ∧ en.get 1 = some (.int .i64 q) ∧ en.get 2 = some (.p st.nx 0) ∧ en.get 5 = some (.int .i64 n) ∧ en.get 11 = some (.int .i64 (bN g)) ∧ en.get 12 = some (.int .i64 (nF g + g.n)) ∧ en.get 13 = some (.int .i64 g.n) ∧ en.get 14 = some (.int .i64 (dF g)) ∧ en.get 15 = some (.int .i64 (dN g)) ∧ G1 st s g
set_option maxRecDepth 20000 in
set_option maxHeartbeats 8000000 in
theorem g_GeomParts (st : St) (g : Gm) (q : Int) :
    Gd (lawC Try.prog 56 ⟨false, [], 0, 0⟩ 8 [gV g, .int .i64 q] st) fun r => r.1 = .bool true := by
  rw [Gd_lawC Try.func8 rfl]
  have gVg : V.g [V.int .i64 g.b, V.int .i64 g.n, V.int .i64 g.c, V.int .i64 g.k] = gV g := rfl
  rw [show sets [gV g, V.int .i64 q] 0 T.lf = (T.set .lf 0 (gV g)).set 1 (.int .i64 q) from rfl]
  have hcell : ∀ k : List V → Res, cellsOf (gV g) k = k [V.int .i64 g.b, V.int .i64 g.n, V.int .i64 g.c, V.int .i64 g.k] := fun k => rfl
  simp [evOp_call, sets, T.get_set, hcell, newC_is, loadE_eq, getC_eq, getsB_succ, getsB_zero, storeK_g, putB_eq, roT, oracF_cons]
  rw [gVg]
  refine Gd.mono (good_any _ [] (fun _ _ => rfl) 0 (Nat.zero_le _) g _) ?_
  rintro ⟨r, s1⟩ ⟨hr, x1⟩
  simp only at hr x1
  subst hr
  have w0 : G1 st s1 g := by
    refine G1.ext (s := ⟨st.nx + 1, _⟩) ⟨?_, Nat.lt_succ_self _⟩ x1
    exact T.get_set_same _ _ _
  by_cases hg : isGood g
  · have hd : decide (isGood g) = true := by simpa using hg
    have hck := ck_le hg.1
    have hdn := hg.2
    obtain ⟨h1, h2, h3, h4, h5, h6, h7, h8⟩ := hg.1
    have hbn : 1 ≤ bN g ∧ bN g ≤ 2 := by unfold bN; omega
    have hnF : nF g = 1 + g.c * g.k + bN g := rfl
    have hdF : dF g = nF g + g.n + g.n := rfl
    have hdN : dN g = g.b - 1 - dF g := rfl
    by_cases hq0 : q < 0
    · simp [evOp_call, T.get_set, hd, hq0]
    · by_cases hqb : g.b ≤ q
      · simp [evOp_call, T.get_set, hd, hq0, loadE_eq, getC_eq, w0.k0, hqb]
      · simp [evOp_call, T.get_set, hd, hq0, loadE_eq, getC_eq, w0.k0, hqb]
        refine condK_join (gpQ st g q (io (q = 0))) ?_ ?_
        · by_cases hz : q = 0
          · have dz : decide (q = 0) = true := by simpa using hz
            simp [evOp_call, T.get_set, dz, show IntKind.i64.wrap 1 = 1 from by decide]
            exact ⟨_, _, rfl, by simp [T.get_set], by simp [T.get_set], by simp [T.get_set, io, hz], w0⟩
          · have dz : decide (q = 0) = false := by simpa using hz
            simp [evOp_call, T.get_set, dz]
            exact ⟨_, _, rfl, by simp [T.get_set], by simp [T.get_set], by simp [T.get_set, io, hz], w0⟩
        · clear w0 x1
          rintro _ ⟨en, s, rfl, g1, g2, g5, w0⟩
          have hio : 0 ≤ io (q = 0) ∧ io (q = 0) ≤ 1 := by unfold io; split <;> omega
          simp [evOp_call, T.get_set, g1, g2, g5, loadE_eq, getC_eq, w0.k0, getsB_succ, getsB_zero, oracF_cons]
          rw [gVg]
          refine Gd.mono (gback_any s [] (fun _ _ => rfl) 0 (Nat.zero_le _) g _) ?_
          rintro ⟨r, s2⟩ ⟨hr, x2⟩
          simp only at hr x2
          rw [if_pos hg] at hr
          subst hr
          have w2 := w0.ext x2
          simp [evOp_call, T.get_set, g1, g2, g5]
          refine condK_join (gpQ st g q (io (q = 0) + io (q = g.b - 1))) ?_ ?_
          · by_cases hz : q = g.b - 1
            · have dz : decide (q = g.b - 1) = true := by simpa using hz
              have wz : IntKind.i64.wrap (io (q = 0) + 1) = io (q = 0) + 1 := wrap_in (by omega) (by omega)
              simp [evOp_call, T.get_set, dz, g1, g2, g5, wz]
              exact ⟨_, _, rfl, by simp [T.get_set, g1], by simp [T.get_set, g2], by simp [T.get_set]; simp [io, hz], w2⟩
            · have dz : decide (q = g.b - 1) = false := by simpa using hz
              simp [evOp_call, T.get_set, dz, g1, g2, g5]
              exact ⟨_, _, rfl, by simp [T.get_set, g1], by simp [T.get_set, g2], by simp [T.get_set, g5]; simp [io, hz], w2⟩
          · clear w0 w2 x2 g1 g2 g5
            rintro _ ⟨en, s, rfl, g1, g2, g5, w0⟩
            obtain ⟨n0, hn0⟩ : ∃ n0, n0 = io (q = 0) + io (q = g.b - 1) := ⟨_, rfl⟩
            have hn0b : 0 ≤ n0 ∧ n0 ≤ 2 := by rw [hn0]; unfold io; split <;> split <;> omega
            rw [← hn0] at g5
            simp [evOp_call, T.get_set, g1, g2, g5]
            refine Gd_loop (gpB st g q n0) (fun e _ => gapAt 6 g.c e) ?_ ?_
            · refine ⟨0, by omega, by simp [T.get_set, g1], by simp [T.get_set, g2], ?_, by simp [T.get_set], w0⟩
              have : io (1 ≤ q ∧ q < 1 + ((0 : Nat) : Int) * g.k) = 0 := by unfold io; rw [if_neg (by omega)]
              simp only [this]; simp [T.get_set, g5]
            · clear g1 g2 g5 w0
              rintro en s ⟨i, hi, g1, g2, g5, g6, w0⟩
              by_cases hlt : (i : Int) < g.c
              · simp [evOp_call, T.get_set, g1, g2, g5, g6, loadE_eq, getC_eq, w0.k0, hlt, getsB_succ, getsB_zero, oracF_cons]
                rw [gVg]
                refine Gd.mono (gbooks_any s g i _) ?_
                rintro ⟨r, s2⟩ ⟨hr, x2⟩
                simp only at hr x2
                unfold booksV at hr
                rw [if_pos ⟨hg, by omega, hlt⟩] at hr
                subst hr
                have w2 := w0.ext x2
                have hle : ((i : Int) + 1) * g.k ≤ g.c * g.k := Int.mul_le_mul_of_nonneg_right (by omega) (by omega)
                have hge : 0 ≤ (i : Int) * g.k := Int.mul_nonneg (by omega) (by omega)
                have hst : ((i : Int) + 1) * g.k = (i : Int) * g.k + g.k := by rw [Int.add_mul, Int.one_mul]
                have w3 : IntKind.i64.wrap (1 + (i : Int) * g.k + g.k) = 1 + (i : Int) * g.k + g.k := wrap_in (by omega) (by omega)
                have hib : 0 ≤ io (1 ≤ q ∧ q < 1 + (i : Int) * g.k) ∧ io (1 ≤ q ∧ q < 1 + (i : Int) * g.k) ≤ 1 := by unfold io; split <;> omega
                have w4 : IntKind.i64.wrap (n0 + io (1 ≤ q ∧ q < 1 + (i : Int) * g.k) + 1) = n0 + io (1 ≤ q ∧ q < 1 + (i : Int) * g.k) + 1 := wrap_in (by omega) (by omega)
                have wi := wrap_nat (n := i) (by omega)
                have join : ∀ r, gpBQ st g q (n0 + io (1 ≤ q ∧ q < 1 + ((i + 1 : Nat) : Int) * g.k)) i r → gpBQ st g q (n0 + io (1 ≤ q ∧ q < 1 + ((i + 1 : Nat) : Int) * g.k)) i r := fun _ h => h
                have eN : ((i + 1 : Nat) : Int) * g.k = (i : Int) * g.k + g.k := by rw [← hst]; rfl
                rw [eN] at join
                by_cases a : 1 + (i : Int) * g.k ≤ q
                · by_cases b : q < 1 + (i : Int) * g.k + g.k
                  · have e1 : io (1 ≤ q ∧ q < 1 + (i : Int) * g.k) = 0 := by unfold io; rw [if_neg (by omega)]
                    have e2 : io (1 ≤ q ∧ q < 1 + ((i + 1 : Nat) : Int) * g.k) = 1 := by rw [eN]; unfold io; rw [if_pos (by omega)]
                    rw [e1] at g5 w4
                    simp [evOp_call, T.get_set, g1, g2, g5, g6, a, b, w3, w4, wi]
                    simp only [Int.add_zero] at w4
                    simp [T.get_set, w4]
                    exact ⟨⟨i + 1, by omega, by simp [T.get_set, g1], by simp [T.get_set, g2], by rw [e2]; simp [T.get_set], by simp [T.get_set], w2⟩, gapAt_lt g6 (by simp [T.get_set]; rfl) hlt (by omega)⟩
                  · have e2 : io (1 ≤ q ∧ q < 1 + ((i + 1 : Nat) : Int) * g.k) = io (1 ≤ q ∧ q < 1 + (i : Int) * g.k) := by rw [eN]; unfold io; rw [if_neg (by omega), if_neg (by omega)]
                    simp [evOp_call, T.get_set, g1, g2, g5, g6, a, b, w3, wi]
                    exact ⟨⟨i + 1, by omega, by simp [T.get_set, g1], by simp [T.get_set, g2], by rw [e2]; simp [T.get_set, g5], by simp [T.get_set], w2⟩, gapAt_lt g6 (by simp [T.get_set]; rfl) hlt (by omega)⟩
                · have e2 : io (1 ≤ q ∧ q < 1 + ((i + 1 : Nat) : Int) * g.k) = io (1 ≤ q ∧ q < 1 + (i : Int) * g.k) := by
                    rw [eN]; unfold io
                    by_cases h1q : 1 ≤ q
                    · rw [if_pos (by omega), if_pos (by omega)]
                    · rw [if_neg (by omega), if_neg (by omega)]
                  simp [evOp_call, T.get_set, g1, g2, g5, g6, a, wi]
                  exact ⟨⟨i + 1, by omega, by simp [T.get_set, g1], by simp [T.get_set, g2], by rw [e2]; simp [T.get_set, g5], by simp [T.get_set], w2⟩, gapAt_lt g6 (by simp [T.get_set]; rfl) hlt (by omega)⟩
              · have hic : (i : Int) = g.c := by omega
                rw [hic] at g5
                simp [evOp_call, T.get_set, g1, g2, g5, g6, loadE_eq, getC_eq, w0.k0, hlt]
                obtain ⟨n1, hn1⟩ : ∃ n1, n1 = n0 + io (1 ≤ q ∧ q < 1 + g.c * g.k) := ⟨_, rfl⟩
                have hn1b : 0 ≤ n1 ∧ n1 ≤ 3 := by rw [hn1]; unfold io; split <;> omega
                rw [← hn1] at g5
                refine Gd_loop (gpN st g q n1) (fun e _ => gapAt 9 (g.n + 1) e) ?_ ?_
                · refine ⟨1, Nat.le_refl _, by omega, by simp [T.get_set, g1], by simp [T.get_set, g2], ?_, by simp [T.get_set], w0⟩
                  have : io (nF g ≤ q ∧ q < nF g + ((1 : Nat) : Int) - 1) = 0 := by unfold io; rw [if_neg (by omega)]
                  simp only [this]; simp [T.get_set, g5]
                · clear g1 g2 g5 g6 w0
                  rintro en s ⟨i, hi1, hi, g1, g2, g5, g9, w0⟩
                  by_cases hlt : (i : Int) ≤ g.n
                  · simp [evOp_call, T.get_set, g1, g2, g5, g9, loadE_eq, getC_eq, w0.k0, hlt, getsB_succ, getsB_zero, oracF_cons]
                    rw [gVg]
                    refine Gd.mono (gnode_any s [] (fun _ _ => rfl) 0 (Nat.zero_le _) g i _) ?_
                    rintro ⟨r, s2⟩ ⟨hr, x2⟩
                    simp only at hr x2
                    rw [if_pos ⟨hg, by omega, hlt⟩] at hr
                    subst hr
                    have w2 := w0.ext x2
                    have hib : 0 ≤ io (nF g ≤ q ∧ q < nF g + (i : Int) - 1) ∧ io (nF g ≤ q ∧ q < nF g + (i : Int) - 1) ≤ 1 := by unfold io; split <;> omega
                    have wi := wrap_nat (n := i) (by omega)
                    by_cases a : q = nF g + (i : Int) - 1
                    · have da : decide (q = nF g + (i : Int) - 1) = true := by simpa using a
                      have e1 : io (nF g ≤ q ∧ q < nF g + (i : Int) - 1) = 0 := by unfold io; rw [if_neg (by omega)]
                      have e2 : io (nF g ≤ q ∧ q < nF g + ((i + 1 : Nat) : Int) - 1) = 1 := by unfold io; rw [if_pos (by omega)]
                      rw [e1, Int.add_zero] at g5
                      have w4 : IntKind.i64.wrap (n1 + 1) = n1 + 1 := wrap_in (by omega) (by omega)
                      simp [evOp_call, T.get_set, g1, g2, g5, g9, da, w4, wi]
                      exact ⟨⟨i + 1, by omega, by omega, by simp [T.get_set, g1], by simp [T.get_set, g2], by rw [e2]; simp [T.get_set], by simp [T.get_set], w2⟩, gapAt_lt g9 (by simp [T.get_set]; rfl) (by omega) (by omega)⟩
                    · have da : decide (q = nF g + (i : Int) - 1) = false := by simpa using a
                      have e2 : io (nF g ≤ q ∧ q < nF g + ((i + 1 : Nat) : Int) - 1) = io (nF g ≤ q ∧ q < nF g + (i : Int) - 1) := by
                        unfold io
                        by_cases hh : nF g ≤ q ∧ q < nF g + (i : Int) - 1
                        · rw [if_pos hh, if_pos (by omega)]
                        · rw [if_neg hh, if_neg (by omega)]
                      simp [evOp_call, T.get_set, g1, g2, g5, g9, da, wi]
                      exact ⟨⟨i + 1, by omega, by omega, by simp [T.get_set, g1], by simp [T.get_set, g2], by rw [e2]; simp [T.get_set, g5], by simp [T.get_set], w2⟩, gapAt_lt g9 (by simp [T.get_set]; rfl) (by omega) (by omega)⟩
                  · have hin : (i : Int) = g.n + 1 := by omega
                    rw [hin] at g5
                    obtain ⟨n2, hn2⟩ : ∃ n2, n2 = n1 + io (nF g ≤ q ∧ q < nF g + (g.n + 1) - 1) := ⟨_, rfl⟩
                    have hn2b : 0 ≤ n2 ∧ n2 ≤ 4 := by rw [hn2]; unfold io; split <;> omega
                    rw [← hn2] at g5
                    simp [evOp_call, T.get_set, g1, g2, g5, g9, loadE_eq, getC_eq, w0.k0, hlt, getsB_succ, getsB_zero, oracF_cons]
                    rw [gVg]
                    refine Gd.mono (gbits_any s [] (fun _ _ => rfl) 0 (Nat.zero_le _) g _) ?_
                    rintro ⟨r, s2⟩ ⟨hr, x2⟩
                    simp only at hr x2
                    unfold at2 at hr
                    rw [if_pos hg] at hr
                    subst hr
                    have w2 := w0.ext x2
                    simp [evOp_call, T.get_set, g1, g2, g5, g9, loadE_eq, getC_eq, w2.k0, getsB_succ, getsB_zero, oracF_cons]
                    rw [gVg]
                    refine Gd.mono (glost_any s2 [] (fun _ _ => rfl) 0 (Nat.zero_le _) g _) ?_
                    rintro ⟨r, s3⟩ ⟨hr, x3⟩
                    simp only at hr x3
                    unfold at2 at hr
                    rw [if_pos hg] at hr
                    subst hr
                    have w3 := w2.ext x3
                    simp [evOp_call, T.get_set, g1, g2, g5, g9, loadE_eq, getC_eq, w3.k0, getsB_succ, getsB_zero, oracF_cons]
                    rw [gVg]
                    refine Gd.mono (gdata_any s3 [] (fun _ _ => rfl) 0 (Nat.zero_le _) g _) ?_
                    rintro ⟨r, s4⟩ ⟨hr, x4⟩
                    simp only at hr x4
                    unfold at2 at hr
                    rw [if_pos hg] at hr
                    subst hr
                    have w4 := w3.ext x4
                    have v1 : IntKind.i64.wrap (1 + g.c * g.k + bN g) = 1 + g.c * g.k + bN g := wrap_in (by omega) (by omega)
                    have v2 : IntKind.i64.wrap (nF g + g.n + g.n) = nF g + g.n + g.n := wrap_in (by omega) (by omega)
                    have v3 : IntKind.i64.wrap (dF g + dN g) = dF g + dN g := wrap_in (by omega) (by omega)
                    have v4 : IntKind.i64.wrap (bN g * 512) = bN g * 512 := wrap_in (by omega) (by omega)
                    have v5 : g.b ≤ bN g * 512 := by unfold bN; omega
                    have wn : ∀ m : Int, 0 ≤ m → m ≤ 10 → IntKind.i64.wrap (m + 1) = m + 1 := fun m a b => wrap_in (by omega) (by omega)
                    simp [evOp_call, T.get_set, g1, g2, g5, g9, v1, v2, v3]
                    have wone : IntKind.i64.wrap 1 = 1 := by decide
                    by_cases a1 : 1 + g.c * g.k ≤ q
                    · by_cases b1 : q < 1 + g.c * g.k + bN g
                      · have a2 : ¬ nF g + g.n ≤ q := by omega
                        have a3 : ¬ dF g ≤ q := by omega
                        have e : n2 = 0 := by rw [hn2, hn1, hn0]; simp only [io]; split <;> split <;> split <;> split <;> omega
                        rw [e] at g5
                        simp [evOp_call, T.get_set, g1, g2, g5, g9, a1, b1, a2, a3, v1, v2, v3, v4, v5, loadE_eq, getC_eq, w4.k0, hdn, wone]
                      · by_cases a2 : nF g + g.n ≤ q
                        · by_cases b2 : q < nF g + g.n + g.n
                          · have a3 : ¬ dF g ≤ q := by omega
                            have e : n2 = 0 := by rw [hn2, hn1, hn0]; simp only [io]; split <;> split <;> split <;> split <;> omega
                            rw [e] at g5
                            simp [evOp_call, T.get_set, g1, g2, g5, g9, a1, b1, a2, b2, a3, v1, v2, v3, v4, v5, loadE_eq, getC_eq, w4.k0, hdn, wone]
                          · have a3 : dF g ≤ q := by omega
                            by_cases b3 : q < dF g + dN g
                            · have e : n2 = 0 := by rw [hn2, hn1, hn0]; simp only [io]; split <;> split <;> split <;> split <;> omega
                              rw [e] at g5
                              simp [evOp_call, T.get_set, g1, g2, g5, g9, a1, b1, a2, b2, a3, b3, v1, v2, v3, v4, v5, loadE_eq, getC_eq, w4.k0, hdn, wone]
                            · have e : n2 = 1 := by rw [hn2, hn1, hn0]; simp only [io]; split <;> split <;> split <;> split <;> omega
                              rw [e] at g5
                              simp [evOp_call, T.get_set, g1, g2, g5, g9, a1, b1, a2, b2, a3, b3, v1, v2, v3, v4, v5, loadE_eq, getC_eq, w4.k0, hdn, wone]
                        · have a3 : ¬ dF g ≤ q := by omega
                          have e : n2 = 1 := by rw [hn2, hn1, hn0]; simp only [io]; split <;> split <;> split <;> split <;> omega
                          rw [e] at g5
                          simp [evOp_call, T.get_set, g1, g2, g5, g9, a1, b1, a2, a3, v1, v2, v3, v4, v5, loadE_eq, getC_eq, w4.k0, hdn, wone]
                    · have a2 : ¬ nF g + g.n ≤ q := by omega
                      have a3 : ¬ dF g ≤ q := by omega
                      have e : n2 = 1 := by rw [hn2, hn1, hn0]; simp only [io]; split <;> split <;> split <;> split <;> omega
                      rw [e] at g5
                      simp [evOp_call, T.get_set, g1, g2, g5, g9, a1, a2, a3, v1, v2, v3, v4, v5, loadE_eq, getC_eq, w4.k0, hdn, wone]
  · have hd : decide (isGood g) = false := by simpa using hg
    simp [evOp_call, T.get_set, hd]
theorem w_GeomParts (b n c k : Int) (q : Int) (W : World) (_ : -9223372036854775808 ≤ b ∧ b ≤ 9223372036854775807) (_ : -9223372036854775808 ≤ n ∧ n ≤ 9223372036854775807) (_ : -9223372036854775808 ≤ c ∧ c ≤ 9223372036854775807) (_ : -9223372036854775808 ≤ k ∧ k ≤ 9223372036854775807) (_ : -9223372036854775808 ≤ q ∧ q ≤ 9223372036854775807) :
    Calls Try.prog 8 #[.agg #[.int .i64 b, .int .i64 n, .int .i64 c, .int .i64 k], .int .i64 q] W fun e W' => e = .returned (.bool true) ∧ Below W.heap.size W W' :=
  law_calls (lawC_sound namesOkG mixesG Try.func56 rfl geomAwake) (Begin.zero W) (.cons (rel_gV _ ⟨b, n, c, k⟩) (.cons (rel_int _ _) .nil)) (g_GeomParts ⟨0, .lf⟩ ⟨b, n, c, k⟩ q)
end Go.Proofs.Ytnigikccijjihaa

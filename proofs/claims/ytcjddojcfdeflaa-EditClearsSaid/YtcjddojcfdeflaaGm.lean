/-
  Contracts of package geom.
-/
import Derived.Test.YtcjddojcfdeflaaSb
import Derived.Test.YtcjddojcfdeflaaTyAll
set_option linter.unusedSimpArgs false
namespace Go.Proofs.Ytcjddojcfdeflaa
open Go.RowKit Ev
structure Gm where
  b : Int
  n : Int
  c : Int
  k : Int
deriving DecidableEq
def gV (g : Gm) : V := .g [.int .i64 g.b, .int .i64 g.n, .int .i64 g.c, .int .i64 g.k]
/-- all bounds, but that there are data -/
def small4 (g : Gm) : Prop := 64 ≤ g.b ∧ g.b ≤ 1024 ∧ 4 ≤ g.n ∧ g.n ≤ 64 ∧ 1 ≤ g.c ∧ g.c ≤ 8 ∧ 16 ≤ g.k ∧ g.k ≤ 110
@[simp] theorem blkOf_g (l : List V) : blkOf (.g l) = none := rfl
theorem end_any (st : St) (fl : List (Nat × Nat)) (wb : Nat) (hfn : inF fl st.nx = false) (a b : Int) (h : -4611686018427387904 ≤ a ∧ a ≤ 4611686018427387903) (h2 : -4611686018427387904 ≤ b ∧ b ≤ 4611686018427387903) (nt : Nat) :
    Gd (callL Try.prog ⟨false, fl, wb, nt⟩ 58 [.g [.int .i64 a, .int .i64 b]] st) fun r => r.1 = .int .i64 (a + b) ∧ Ext st.nx st r.2 := by
  rw [Gd_callL Try.func58 rfl]
  have he : Ext st.nx st ⟨st.nx + 1, st.h.set st.nx (.cs 91 2 (sets [.int .i64 a, .int .i64 b] 0 .lf))⟩ := (Ext.refl _ _).new (Nat.le_refl _) _
  have hw : IntKind.i64.wrap (a + b) = a + b := wrap_in (by omega) (by omega)
  simp [sets, T.get_set, cellsOf, newC_is, loadE_eq, getC_eq, hw, hfn]
  exact he
theorem between_any (st : St) (fl : List (Nat × Nat)) (wb : Nat) (a l m : Int) (nt : Nat) :
    Gd (callL Try.prog ⟨false, fl, wb, nt⟩ 40 [.int .i64 a, .int .i64 l, .int .i64 m] st) fun r => r = (.bool (decide (l ≤ a ∧ a ≤ m)), st) := by
  rw [Gd_callL Try.func40 rfl]
  by_cases h1 : l ≤ a
  · by_cases h2 : a ≤ m
    · simp [sets, T.get_set, h1, h2]
    · simp [sets, T.get_set, h1, h2]
  · simp [sets, T.get_set, h1]
def bN (g : Gm) : Int := (g.b + 511) / 512
def nF (g : Gm) : Int := 1 + g.c * g.k + bN g
def dF (g : Gm) : Int := nF g + g.n + g.n
def dN (g : Gm) : Int := g.b - 1 - dF g
def layV (g : Gm) : List V := [.int .i64 1, .int .i64 (g.c * g.k), .int .i64 (1 + g.c * g.k), .int .i64 (bN g), .int .i64 (nF g), .int .i64 g.n, .int .i64 (nF g + g.n), .int .i64 g.n, .int .i64 (dF g), .int .i64 (dN g)]
theorem ck_le {g : Gm} (h : small4 g) : 16 ≤ g.c * g.k ∧ g.c * g.k ≤ 880 := by
  obtain ⟨_, _, _, _, h1, h2, h3, h4⟩ := h
  rcases (by omega : g.c = 1 ∨ g.c = 2 ∨ g.c = 3 ∨ g.c = 4 ∨ g.c = 5 ∨ g.c = 6 ∨ g.c = 7 ∨ g.c = 8) with e | e | e | e | e | e | e | e <;> rw [e] <;> omega
/-- the memory of lay's walk -/
structure LayS (st s : St) (g : Gm) (t : T V) : Prop where
  g0 : s.h.get st.nx = some (.cs 45 4 ((((T.lf.set 0 (.int .i64 g.b)).set 1 (.int .i64 g.n)).set 2 (.int .i64 g.c)).set 3 (.int .i64 g.k)))
  g1 : ∃ t, s.h.get (st.nx + 1) = some (.cs 93 10 t)
  g2 : s.h.get (st.nx + 1 + 1) = some (.cs 93 10 t)
  lt : st.nx + 2 < s.nx
  ex : Ext st.nx st s
theorem LayS.ext {st s s' : St} {g : Gm} {t : T V} (h : LayS st s g t) (k : Ext s.nx s s') : LayS st s' g t := by
  have := h.lt
  obtain ⟨t1, h1⟩ := h.g1
  exact ⟨(k.keep _ (by omega)).trans h.g0, ⟨t1, (k.keep _ (by omega)).trans h1⟩, (k.keep _ (by omega)).trans h.g2, Nat.lt_of_lt_of_le h.lt k.le, h.ex.trans (k.mono h.ex.le)⟩
theorem LayS.set {st s : St} {g : Gm} {t : T V} (h : LayS st s g t) (t' : T V) : LayS st ⟨s.nx, s.h.set (st.nx + 1 + 1) (.cs 93 10 t')⟩ g t' := by
  have := h.lt
  obtain ⟨t1, h1⟩ := h.g1
  have key : ∀ k, k ≠ st.nx + 1 + 1 → (s.h.set (st.nx + 1 + 1) (.cs 93 10 t')).get k = s.h.get k := fun k hk => T.get_set_ne _ _ (fun e => hk e.symm)
  exact ⟨(key _ (by omega)).trans h.g0, ⟨t1, (key _ (by omega)).trans h1⟩, T.get_set_same _ _ _, h.lt, h.ex.set (by omega) (by omega) _⟩
set_option maxRecDepth 20000 in
set_option maxHeartbeats 4000000 in
theorem lay_any (st : St) (fl : List (Nat × Nat)) (hfn : ∀ k, st.nx ≤ k → inF fl k = false) (wb : Nat) (hwb : wb ≤ st.nx) (g : Gm) (h : small4 g) (nt : Nat) :
    Gd (callL Try.prog ⟨false, fl, wb, nt⟩ 41 [gV g] st) fun r => r.1 = .g (layV g) ∧ Ext st.nx st r.2 := by
  have hck := ck_le h
  have f0 := hfn st.nx (Nat.le_refl _)
  have f1 := hfn (st.nx + 1) (by omega)
  have f2 := hfn (st.nx + 1 + 1) (by omega)
  have o0 : ∀ nx, inF ((0, st.nx) :: (st.nx + 1, nx) :: fl) st.nx = false := fun nx => inF_ownF f0
  have o2 : ∀ nx, inF ((0, st.nx + 1 + 1) :: (st.nx + 1 + 1 + 1, nx) :: fl) (st.nx + 1 + 1) = false := fun nx => inF_ownF f2
  obtain ⟨h1, h2, h3, h4, h5, h6, h7, h8⟩ := h
  have w1 : IntKind.i64.wrap (g.c * g.k) = g.c * g.k := wrap_in (by omega) (by omega)
  have w2 : IntKind.i64.wrap (g.b + 512) = g.b + 512 := wrap_in (by omega) (by omega)
  have w3 : IntKind.i64.wrap (g.b + 512 - 1) = g.b + 512 - 1 := wrap_in (by omega) (by omega)
  have w4 : (g.b + 512 - 1).tdiv 512 = bN g := by rw [Int.tdiv_eq_ediv_of_nonneg (by omega)]; unfold bN; omega
  have hbn : 1 ≤ bN g ∧ bN g ≤ 2 := by unfold bN; omega
  have w5 : IntKind.i64.wrap (bN g) = bN g := wrap_in (by omega) (by omega)
  have w6 : IntKind.i64.wrap (g.b - 1) = g.b - 1 := wrap_in (by omega) (by omega)
  have q1 : ¬ st.nx + 1 + 1 = st.nx := by omega
  have q2 : ¬ st.nx + 1 = st.nx := by omega
  have q3 : ¬ st.nx + 1 + 1 = st.nx + 1 := by omega
  have q4 : wb ≤ st.nx + 1 + 1 := by omega
  have q5 : wb ≤ st.nx + 1 := by omega
  have hnF : nF g = 1 + g.c * g.k + bN g := rfl
  have hdF : dF g = nF g + g.n + g.n := rfl
  rw [Gd_callL Try.func41 rfl]
  simp [f0, f1, f2, o0, o2, q1, q2, q3, q4, gV, evOp_call, sets, T.get_set, cellsOf, newC_is, loadE_eq, getC_eq, getsB_2, getsB_succ, getsB_zero, storeK_g, putB_eq, roT, w1, hwb]
  refine ⟨by kernel_rfl, ?_⟩
  have hS0 : LayS st ⟨st.nx + 1 + 1 + 1, ((st.h.set st.nx (.cs 45 4 ((((T.lf.set 0 (.int .i64 g.b)).set 1 (.int .i64 g.n)).set 2 (.int .i64 g.c)).set 3 (.int .i64 g.k)))).set (st.nx + 1) (.cs 93 10 ((((((((((T.lf.set 0 (.int .i64 0)).set 1 (.int .i64 0)).set 2 (.int .i64 0)).set 3 (.int .i64 0)).set 4 (.int .i64 0)).set 5 (.int .i64 0)).set 6 (.int .i64 0)).set 7 (.int .i64 0)).set 8 (.int .i64 0)).set 9 (.int .i64 0)))).set (st.nx + 1 + 1) (.cs 93 10 ((((((((((((T.lf.set 0 (.int .i64 0)).set 1 (.int .i64 0)).set 2 (.int .i64 0)).set 3 (.int .i64 0)).set 4 (.int .i64 0)).set 5 (.int .i64 0)).set 6 (.int .i64 0)).set 7 (.int .i64 0)).set 8 (.int .i64 0)).set 9 (.int .i64 0)).set 0 (.int .i64 1)).set 1 (.int .i64 (g.c * g.k))))⟩ g ((((((((((((T.lf.set 0 (.int .i64 0)).set 1 (.int .i64 0)).set 2 (.int .i64 0)).set 3 (.int .i64 0)).set 4 (.int .i64 0)).set 5 (.int .i64 0)).set 6 (.int .i64 0)).set 7 (.int .i64 0)).set 8 (.int .i64 0)).set 9 (.int .i64 0)).set 0 (.int .i64 1)).set 1 (.int .i64 (g.c * g.k))) := by
    refine ⟨?_, ⟨((((((((((T.lf.set 0 (.int .i64 0)).set 1 (.int .i64 0)).set 2 (.int .i64 0)).set 3 (.int .i64 0)).set 4 (.int .i64 0)).set 5 (.int .i64 0)).set 6 (.int .i64 0)).set 7 (.int .i64 0)).set 8 (.int .i64 0)).set 9 (.int .i64 0)), ?_⟩, T.get_set_same _ _ _, by show st.nx + 2 < st.nx + 1 + 1 + 1; omega, (((Ext.refl _ _).new (Nat.le_refl _) _).new (Nat.le_succ _) _).new (by show st.nx ≤ st.nx + 1 + 1; omega) _⟩
    · show ((T.set _ (st.nx + 1) _).set (st.nx + 1 + 1) _).get st.nx = _
      rw [T.get_set_ne _ _ q1, T.get_set_ne _ _ q2, T.get_set_same]
    · show ((T.set _ (st.nx + 1) _).set (st.nx + 1 + 1) _).get (st.nx + 1) = _
      rw [T.get_set_ne _ _ q3, T.get_set_same]
  rw [cxOf_callL [(st.nx, st.nx + 1)] (by kernel_rfl) (by kernel_rfl) (looseW_at 1 (.p st.nx 0) (by simp [T.get_set]) (by kernel_rfl)) (fun x hx => by simp at hx; subst hx; simp [clashes_tmp, T.get_set]) (fun p hp => by simp at hp; subst hp; rw [isRo_cs hS0.g0]; decide)]
  simp only [forb_nil]
  refine Gd.mono (end_any _ ([(st.nx, st.nx + 1)] ++ fl) wb (by refine inF_app ?_ (hfn _ (by first | omega | (dsimp only; omega))); show inF _ (st.nx + 1 + 1 + 1) = false; rw [inF_cons, if_neg (by omega)]; rfl) 1 (g.c * g.k) (by omega) (by omega) _) ?_
  rintro ⟨r, s1⟩ ⟨hr, e1⟩
  simp only at hr e1
  subst hr
  have hS1 := hS0.ext e1
  have l1 := hS1.lt
  have hld1 : ∀ (b i nx' : Nat), inF ((0, st.nx) :: (st.nx + 1, nx') :: forb b (rsOf [] i (st.nx + 1 + 1 + 1) s1.nx) fl) st.nx = false := fun b i nx' => inF_ldF (by first | exact f0 | exact f2) (by omega)
  simp [f0, f1, f2, o0, o2, T.get_set, loadE_eq, getC_eq, hS1.g0, hld1, w2, w3, w4, w5, w6]
  rw [cxOf_store]
  rotate_left
  · kernel_rfl
  rw [forb_rsOf (by kernel_rfl)]
  simp [f0, f1, f2, o0, o2, evOp_call, T.get_set, storeK_g, putB_eq, hS1.g0, hS1.g2, sets, roT, q1, q4, loadE_eq, getC_eq, getsB_2, w2, w3, w4, w5, w6]
  refine ⟨by kernel_rfl, ?_⟩
  rw [cxOf_callL [(st.nx, st.nx + 1)] (by kernel_rfl) (by kernel_rfl) (looseW_at 1 (.p st.nx 0) (by simp [T.get_set]) (by kernel_rfl)) (fun x hx => by simp at hx; subst hx; simp [clashes_tmp, T.get_set]) (fun p hp => by simp at hp; subst hp; rw [isRo_cs (hS1.set _).g0]; decide)]
  simp only [forb_nil]
  refine Gd.mono (end_any _ ([(st.nx, st.nx + 1)] ++ fl) wb (by refine inF_app ?_ (hfn _ (by first | omega | (dsimp only; omega))); show inF _ s1.nx = false; rw [inF_cons, if_neg (by omega)]; rfl) (1 + g.c * g.k) (bN g) (by omega) (by omega) _) ?_
  rintro ⟨r, s2⟩ ⟨hr, e2⟩
  simp only at hr e2
  subst hr
  have hS2 := (hS1.set _).ext e2
  have l2 := hS2.lt
  have hld2 : ∀ (b i nx' : Nat), inF ((0, st.nx) :: (st.nx + 1, nx') :: forb b (rsOf [] i (s1.nx) s2.nx) fl) st.nx = false := fun b i nx' => inF_ldF (by first | exact f0 | exact f2) (by omega)
  simp [f0, f1, f2, o0, o2, T.get_set, loadE_eq, getC_eq, hS2.g0, hld2, w2, w3, w4, w5, w6]
  rw [cxOf_store]
  rotate_left
  · kernel_rfl
  rw [forb_rsOf (by kernel_rfl)]
  simp [f0, f1, f2, o0, o2, evOp_call, T.get_set, storeK_g, putB_eq, hS2.g0, hS2.g2, sets, roT, q1, q4, loadE_eq, getC_eq, getsB_2, w2, w3, w4, w5, w6]
  refine ⟨by kernel_rfl, ?_⟩
  rw [cxOf_callL [(st.nx, st.nx + 1)] (by kernel_rfl) (by kernel_rfl) (looseW_at 1 (.p st.nx 0) (by simp [T.get_set]) (by kernel_rfl)) (fun x hx => by simp at hx; subst hx; simp [clashes_tmp, T.get_set]) (fun p hp => by simp at hp; subst hp; rw [isRo_cs (hS2.set _).g0]; decide)]
  simp only [forb_nil]
  refine Gd.mono (end_any _ ([(st.nx, st.nx + 1)] ++ fl) wb (by refine inF_app ?_ (hfn _ (by first | omega | (dsimp only; omega))); show inF _ s2.nx = false; rw [inF_cons, if_neg (by omega)]; rfl) (1 + g.c * g.k + bN g) (g.n) (by omega) (by omega) _) ?_
  rintro ⟨r, s3⟩ ⟨hr, e3⟩
  simp only at hr e3
  subst hr
  have hS3 := (hS2.set _).ext e3
  have l3 := hS3.lt
  have hld3 : ∀ (b i nx' : Nat), inF ((0, st.nx) :: (st.nx + 1, nx') :: forb b (rsOf [] i (s2.nx) s3.nx) fl) st.nx = false := fun b i nx' => inF_ldF (by first | exact f0 | exact f2) (by omega)
  simp [f0, f1, f2, o0, o2, T.get_set, loadE_eq, getC_eq, hS3.g0, hld3, w2, w3, w4, w5, w6]
  rw [cxOf_store]
  rotate_left
  · kernel_rfl
  rw [forb_rsOf (by kernel_rfl)]
  simp [f0, f1, f2, o0, o2, evOp_call, T.get_set, storeK_g, putB_eq, hS3.g0, hS3.g2, sets, roT, q1, q4, loadE_eq, getC_eq, getsB_2, w2, w3, w4, w5, w6]
  refine ⟨by kernel_rfl, ?_⟩
  rw [cxOf_callL [(st.nx, st.nx + 1), (st.nx + 1 + 1, st.nx + 1 + 1 + 1)] (by kernel_rfl) (by kernel_rfl) (looseW_at2 1 3 (.p st.nx 0) (.p (st.nx + 1 + 1) 0) (by simp [T.get_set]) (by simp [T.get_set]) (by kernel_rfl)) (fun x hx => by simp at hx; subst hx; simp [clashes_tmp, T.get_set]) (fun p hp => by simp at hp; rcases hp with rfl | rfl; (rw [isRo_cs (hS3.set _).g0]; decide); (rw [isRo_cs (hS3.set _).g2]; decide))]
  simp only [forb_nil]
  refine Gd.mono (end_any _ ([(st.nx, st.nx + 1), (st.nx + 1 + 1, st.nx + 1 + 1 + 1)] ++ fl) wb (by refine inF_app ?_ (hfn _ (by first | omega | (dsimp only; omega))); show inF _ s3.nx = false; rw [inF_cons, if_neg (by omega), inF_cons, if_neg (by omega)]; rfl) (1 + g.c * g.k + bN g + g.n) g.n (by omega) (by omega) _) ?_
  rintro ⟨r, s4⟩ ⟨hr, e4⟩
  simp only at hr e4
  subst hr
  have hS4 := (hS3.set _).ext e4
  have l4 := hS4.lt
  have hld4 : ∀ (b i nx' : Nat), inF ((0, st.nx) :: (st.nx + 1, nx') :: forb b (rsOf [] i s3.nx s4.nx) fl) st.nx = false := fun b i nx' => inF_ldF (by first | exact f0 | exact f2) (by omega)
  have hld5 : ∀ (b i nx' : Nat), inF ((0, st.nx + 1 + 1) :: (st.nx + 1 + 1 + 1, nx') :: forb b (rsOf [] i s3.nx s4.nx) fl) (st.nx + 1 + 1) = false := fun b i nx' => inF_ldF (by first | exact f0 | exact f2) (by omega)
  simp [f0, f1, f2, o0, o2, evOp_call, T.get_set, loadE_eq, getC_eq, getsB_2, hS4.g0, hS4.g2, hld4, hld5, w2, w3, w4, w5, w6]
  rw [cxOf_callL [(st.nx, st.nx + 1)] (by kernel_rfl) (by kernel_rfl) (looseW_at 38 (.p st.nx 0) (by simp [T.get_set]) (by kernel_rfl)) (fun x hx => by simp at hx; subst hx; simp [clashes_tmp, T.get_set]) (fun p hp => by simp at hp; subst hp; rw [isRo_cs hS4.g0]; decide), forb_rsOf (by kernel_rfl)]
  refine Gd.mono (end_any _ ([(st.nx, st.nx + 1)] ++ fl) wb (by refine inF_app ?_ (hfn _ (by omega)); rw [inF_cons, if_neg (by omega)]; rfl) (1 + g.c * g.k + bN g + g.n) g.n (by omega) (by omega) _) ?_
  rintro ⟨r, s5⟩ ⟨hr, e5⟩
  simp only at hr e5
  subst hr
  have hS5 := hS4.ext e5
  have w7 : IntKind.i64.wrap (g.b - 1 - (1 + g.c * g.k + bN g + g.n + g.n)) = g.b - 1 - (1 + g.c * g.k + bN g + g.n + g.n) := wrap_in (by omega) (by omega)
  simp [evOp_call, T.get_set, w7]
  rw [cxOf_store]
  rotate_left
  · kernel_rfl
  rw [forb_rsOf2 (by kernel_rfl) (by kernel_rfl)]
  obtain ⟨t1, ht1⟩ := hS5.g1
  simp [f0, f1, f2, o0, o2, evOp_call, T.get_set, storeK_g, putB_eq, hS5.g0, hS5.g2, ht1, sets, roT, q1, q2, q3, q4, q5, loadE_eq, getC_eq, getsB_succ, getsB_zero]
  have l5 := hS5.lt
  refine ⟨rfl, ?_⟩
  exact (hS5.ex.set (m := st.nx + 1 + 1) (by omega) (by omega) _).set (m := st.nx + 1) (by omega) (by show st.nx + 1 < s5.nx; omega) _
section
variable (a0 a1 a2 a3 a4 a5 a6 a7 a8 a9 : V) (k : V → Res)
@[simp] theorem fdP0 : fldK Try.prog 91 0 (.g [a0, a1]) k = k a0 := by kernel_rfl
@[simp] theorem fdP1 : fldK Try.prog 91 1 (.g [a0, a1]) k = k a1 := by kernel_rfl
@[simp] theorem fdL0 : fldK Try.prog 93 0 (.g [a0, a1, a2, a3, a4, a5, a6, a7, a8, a9]) k = k (.g [a0, a1]) := by kernel_rfl
@[simp] theorem fdL1 : fldK Try.prog 93 1 (.g [a0, a1, a2, a3, a4, a5, a6, a7, a8, a9]) k = k (.g [a2, a3]) := by kernel_rfl
@[simp] theorem fdL2 : fldK Try.prog 93 2 (.g [a0, a1, a2, a3, a4, a5, a6, a7, a8, a9]) k = k (.g [a4, a5]) := by kernel_rfl
@[simp] theorem fdL3 : fldK Try.prog 93 3 (.g [a0, a1, a2, a3, a4, a5, a6, a7, a8, a9]) k = k (.g [a6, a7]) := by kernel_rfl
@[simp] theorem fdL4 : fldK Try.prog 93 4 (.g [a0, a1, a2, a3, a4, a5, a6, a7, a8, a9]) k = k (.g [a8, a9]) := by kernel_rfl
end
/-- the box of a geometry -/
noncomputable def gB (g : Gm) : B := .cs 45 4 ((((T.lf.set 0 (.int .i64 g.b)).set 1 (.int .i64 g.n)).set 2 (.int .i64 g.c)).set 3 (.int .i64 g.k))
def isGood (g : Gm) : Prop := small4 g ∧ 1 ≤ dN g
instance (g : Gm) : Decidable (isGood g) := by unfold isGood small4; infer_instance
set_option maxRecDepth 20000 in
set_option maxHeartbeats 4000000 in
theorem good_any (st : St) (fl : List (Nat × Nat)) (hfn : ∀ k, st.nx ≤ k → inF fl k = false) (wb : Nat) (hwb : wb ≤ st.nx) (g : Gm) (nt : Nat) :
    Gd (callL Try.prog ⟨false, fl, wb, nt⟩ 34 [gV g] st) fun r => r.1 = .bool (decide (isGood g)) ∧ Ext st.nx st r.2 := by
  rw [Gd_callL Try.func34 rfl]
  have f0 := hfn st.nx (Nat.le_refl _)
  have e0 : Ext st.nx st ⟨st.nx + 1, st.h.set st.nx (gB g)⟩ := (Ext.refl _ _).new (Nat.le_refl _) _
  unfold gB at e0
  have hno : ∀ p : Prop, ¬ p → (isGood g → p) → decide (isGood g) = false := fun p h k => decide_eq_false fun q => h (k q)
  simp [gV, evOp_call, sets, T.get_set, cellsOf, newC_is, loadE_eq, f0, getC_eq]
  refine Gd.mono (between_any _ _ _ _ _ _ _) ?_
  rintro _ rfl
  by_cases c1 : 64 ≤ g.b ∧ g.b ≤ 1024
  · simp [evOp_call, T.get_set, loadE_eq, f0, getC_eq, c1]
    refine Gd.mono (between_any _ _ _ _ _ _ _) ?_
    rintro _ rfl
    by_cases c2 : 4 ≤ g.n ∧ g.n ≤ 64
    · simp [evOp_call, T.get_set, loadE_eq, f0, getC_eq, c2]
      refine Gd.mono (between_any _ _ _ _ _ _ _) ?_
      rintro _ rfl
      by_cases c3 : 1 ≤ g.c ∧ g.c ≤ 8
      · simp [evOp_call, T.get_set, loadE_eq, f0, getC_eq, c3]
        refine Gd.mono (between_any _ _ _ _ _ _ _) ?_
        rintro _ rfl
        by_cases c4 : 16 ≤ g.k ∧ g.k ≤ 110
        · simp [evOp_call, T.get_set, loadE_eq, f0, getC_eq, getsB_succ, getsB_zero, c4]
          have hs4 : small4 g := ⟨c1.1, c1.2, c2.1, c2.2, c3.1, c3.2, c4.1, c4.2⟩
          have hd : decide (isGood g) = decide (1 ≤ dN g) := by rw [decide_eq_decide]; exact ⟨fun h => h.2, fun h => ⟨hs4, h⟩⟩
          refine Gd.mono (lay_any _ fl (fun k hk => hfn k (by have : st.nx + 1 ≤ k := hk; omega)) wb (by show wb ≤ st.nx + 1; omega) g hs4 _) ?_
          rintro ⟨r, s1⟩ ⟨hr, e1⟩
          simp only at hr e1
          subst hr
          simp [evOp_call, layV, T.get_set, hd]
          exact e0.trans (e1.mono (Nat.le_succ _))
        · have hf := hno _ c4 fun h => ⟨h.1.2.2.2.2.2.2.1, h.1.2.2.2.2.2.2.2⟩
          have d4 : decide (16 ≤ g.k ∧ g.k ≤ 110) = false := by simpa using c4
          simp only [d4]
          simp [evOp_call, T.get_set, hf]
          exact e0
      · have hf := hno _ c3 fun h => ⟨h.1.2.2.2.2.1, h.1.2.2.2.2.2.1⟩
        have d4 : decide (1 ≤ g.c ∧ g.c ≤ 8) = false := by simpa using c3
        simp only [d4]
        simp [evOp_call, T.get_set, hf]
        exact e0
    · have hf := hno _ c2 fun h => ⟨h.1.2.2.1, h.1.2.2.2.1⟩
      have d4 : decide (4 ≤ g.n ∧ g.n ≤ 64) = false := by simpa using c2
      simp only [d4]
      simp [evOp_call, T.get_set, hf]
      exact e0
  · have hf := hno _ c1 fun h => ⟨h.1.1, h.1.2.1⟩
    have d4 : decide (64 ≤ g.b ∧ g.b ≤ 1024) = false := by simpa using c1
    simp only [d4]
    simp [evOp_call, T.get_set, hf]
    exact e0
end Go.Proofs.Ytcjddojcfdeflaa

/-
  GeomSays' walk.
-/
import Derived.Test.YtnigikccijjihaaGmS
set_option linter.unusedSimpArgs false
namespace Go.Proofs.Ytnigikccijjihaa
open Go.RowKit Ev
/-- what calls made is none of the old -/
theorem inF_forbs {b m : Nat} {l : List (Nat × Nat)} (hl : inF l m = false) : ∀ {rs : List (Nat × Nat × Nat)}, (∀ e ∈ rs, m < e.2.1) → inF (forb b rs l) m = false
  | [], _ => hl
  | (i, x, y) :: rs, h => by
    have ih := inF_forbs (b := b) hl (rs := rs) fun e he => h e (by simp [he])
    have hx : m < x := h (i, x, y) (by simp)
    show inF (match Nat.testBit b i with | true => forb b rs l | false => (x, y) :: forb b rs l) m = false
    cases Nat.testBit b i
    · show inF ((x, y) :: forb b rs l) m = false
      rw [inF_cons, if_neg (by omega)]; exact ih
    · exact ih
theorem rsOf_lt {m i x y : Nat} {rs : List (Nat × Nat × Nat)} (h : ∀ e ∈ rs, m < e.2.1) (hx : m < x) : ∀ e ∈ rsOf rs i x y, m < e.2.1 := by
  unfold rsOf
  cases Nat.beq x y
  · intro e he
    rcases List.mem_cons.1 he with rfl | he
    · exact hx
    · exact h e he
  · exact h
theorem forb_rsOf3 {b i j k x y u v p q : Nat} {l : List (Nat × Nat)} (h : Nat.testBit b i = true) (h2 : Nat.testBit b j = true) (h3 : Nat.testBit b k = true) : forb b (rsOf (rsOf (rsOf [] i x y) j u v) k p q) l = l := by
  unfold rsOf
  cases Nat.beq p q
  · show (match Nat.testBit b k with | true => forb b (rsOf (rsOf [] i x y) j u v) l | false => (p, q) :: forb b (rsOf (rsOf [] i x y) j u v) l) = l
    rw [h3]
    exact forb_rsOf2 h h2
  · exact forb_rsOf2 h h2
theorem forb_rsOf4 {b i j k n x y u v p q r s : Nat} {l : List (Nat × Nat)} (h : Nat.testBit b i = true) (h2 : Nat.testBit b j = true) (h3 : Nat.testBit b k = true) (h4 : Nat.testBit b n = true) : forb b (rsOf (rsOf (rsOf (rsOf [] i x y) j u v) k p q) n r s) l = l := by
  unfold rsOf
  cases Nat.beq r s
  · show (match Nat.testBit b n with | true => forb b (rsOf (rsOf (rsOf [] i x y) j u v) k p q) l | false => (r, s) :: forb b (rsOf (rsOf (rsOf [] i x y) j u v) k p q) l) = l
    rw [h4]
    exact forb_rsOf3 h h2 h3
  · exact forb_rsOf3 h h2 h3
theorem inF_lds {b m nx : Nat} {rs : List (Nat × Nat × Nat)} (h : ∀ e ∈ rs, m < e.2.1) : inF ((0, m) :: (m + 1, nx) :: forb b rs []) m = false := by
  rw [inF_cons, if_neg (by omega), inF_cons, if_neg (by omega)]
  exact inF_forbs rfl h
@[simp] theorem blkOf_gV (g : Gm) : blkOf (gV g) = none := rfl
def gsQ (st s1 s : St) (g : Gm) (n a1 b1 a2 b2 a3 b3 a4 b4 : Int) (r : X × Env × St) : Prop := ∃ en : Env, r = (.n, en, s) ∧ en.get 2 = some (.int .i64 n) ∧ en.get 3 = some (.p st.nx 0) ∧ en.get 7 = some (.p s1.nx 0) ∧
  en.get 8 = some (.int .i64 a1) ∧ en.get 9 = some (.int .i64 b1) ∧ en.get 10 = some (.int .i64 a1) ∧ en.get 11 = some (.int .i64 b1) ∧ en.get 12 = some (.int .i64 a2) ∧ en.get 13 = some (.int .i64 b2) ∧ en.get 14 = some (.int .i64 a2) ∧ en.get 15 = some (.int .i64 b2) ∧
  en.get 16 = some (.int .i64 a3) ∧ en.get 17 = some (.int .i64 b3) ∧ en.get 18 = some (.int .i64 a3) ∧ en.get 19 = some (.int .i64 b3) ∧ en.get 20 = some (.int .i64 a4) ∧ en.get 21 = some (.int .i64 b4) ∧ en.get 22 = some (.int .i64 a4) ∧ en.get 23 = some (.int .i64 b4) ∧
  en.get 24 = some (.int .i64 (if isGood g then g.b - 1 else 0))
set_option maxRecDepth 20000 in
set_option maxHeartbeats 8000000 in
theorem g_GeomSays (st : St) (g : Gm) (c n : Int) :
    Gd (lawC Try.prog 56 ⟨false, [], 0, 0⟩ 7 [gV g, .int .i64 c, .int .i64 n] st) fun r => r.1 = .bool true := by
  rw [Gd_lawC Try.func7 rfl]
  have gVg : V.g [V.int .i64 g.b, V.int .i64 g.n, V.int .i64 g.c, V.int .i64 g.k] = gV g := rfl
  have hcell : ∀ k : List V → Res, cellsOf (gV g) k = k [V.int .i64 g.b, V.int .i64 g.n, V.int .i64 g.c, V.int .i64 g.k] := fun k => rfl
  have hst : ∀ (cc : Cx) (s : St) (m i : Nat), storeK Try.prog cc s 57 m i (gV g) = putB cc s m i [.int .i64 g.b, .int .i64 g.n, .int .i64 g.c, .int .i64 g.k] fun st => some (.u, st) := fun cc s m i => by unfold gV; simp [storeK_g]
  rw [show sets [gV g, V.int .i64 c, V.int .i64 n] 0 T.lf = ((T.set .lf 0 (gV g)).set 1 (.int .i64 c)).set 2 (.int .i64 n) from rfl]
  simp [evOp_call, sets, T.get_set, hcell, newC_is, loadE_eq, getC_eq, getsB_succ, getsB_zero, oracF_cons]
  rw [gVg]
  refine Gd.mono (gown_any _ g _) ?_
  rintro ⟨r, s1⟩ ⟨hr, x1⟩
  simp only at hr x1
  subst hr
  have l1 : st.nx < s1.nx := x1.le
  have k0 : s1.h.get st.nx = _ := (x1.keep _ (Nat.lt_succ_self _)).trans (T.get_set_same _ _ _)
  have n1 : ¬ s1.nx = st.nx := by omega
  obtain ⟨a1, b1, hv1⟩ := booksV_eq g c
  obtain ⟨a2, b2, hv2⟩ := at2_eq g (1 + g.c * g.k) (bN g)
  obtain ⟨a3, b3, hv3⟩ := at2_eq g (nF g + g.n) g.n
  obtain ⟨a4, b4, hv4⟩ := at2_eq g (dF g) (dN g)
  simp [evOp_call, sets, T.get_set, newC_is, loadE_eq, getC_eq, getsB_succ, getsB_zero, storeK_g, hst, putB_eq, roT, oracF_cons, k0, n1]
  rw [gVg]
  refine Gd.mono (gbooks_any _ g c _) ?_
  rintro ⟨r, s2⟩ ⟨hr, x2⟩
  simp only at hr x2
  rw [hv1] at hr
  subst hr
  have w2 : GS st s2 g s1.nx := by
    refine GS.ext (s := ⟨s1.nx + 1, _⟩) ⟨?_, ⟨_, T.get_set_same _ _ _, ?_, ?_, ?_, ?_⟩, l1, Nat.lt_succ_self _⟩ x2
    · first | exact (T.get_set_ne _ _ n1).trans k0 | exact (T.get_set_ne _ _ n1).trans ((T.get_set_ne _ _ n1).trans k0)
    · simp [T.get_set]
    · simp [T.get_set]
    · simp [T.get_set]
    · simp [T.get_set]
  obtain ⟨t, k7, t0, t1, t2, t3⟩ := w2.k7
  simp [evOp_call, T.get_set, loadE_eq, getC_eq, getsB_succ, getsB_zero, oracF_cons, w2.k0, k7, t0, t1, t2, t3]
  rw [gVg]
  refine Gd.mono (rbooks_any _ g c _) ?_
  rintro ⟨r, s3⟩ ⟨hr, x3⟩
  simp only at hr x3
  rw [hv1] at hr
  subst hr
  have w3 := w2.ext x3
  replace k7 := (x3.keep _ w2.lt2).trans k7
  simp [evOp_call, T.get_set, loadE_eq, getC_eq, getsB_succ, getsB_zero, oracF_cons, w3.k0, k7, t0, t1, t2, t3]
  rw [gVg]
  refine Gd.mono (gbits_any _ [] (fun _ _ => rfl) 0 (Nat.zero_le _) g _) ?_
  rintro ⟨r, s4⟩ ⟨hr, x4⟩
  simp only at hr x4
  rw [hv2] at hr
  subst hr
  have w4 := w3.ext x4
  replace k7 := (x4.keep _ w3.lt2).trans k7
  simp [evOp_call, T.get_set, loadE_eq, getC_eq, getsB_succ, getsB_zero, oracF_cons, w4.k0, k7, t0, t1, t2, t3]
  rw [gVg]
  refine Gd.mono (rbits_any _ [] (fun _ _ => rfl) g _) ?_
  rintro ⟨r, s5⟩ ⟨hr, x5⟩
  simp only at hr x5
  rw [hv2] at hr
  subst hr
  have w5 := w4.ext x5
  replace k7 := (x5.keep _ w4.lt2).trans k7
  simp [evOp_call, T.get_set, loadE_eq, getC_eq, getsB_succ, getsB_zero, oracF_cons, w5.k0, k7, t0, t1, t2, t3]
  rw [gVg]
  refine Gd.mono (glost_any _ [] (fun _ _ => rfl) 0 (Nat.zero_le _) g _) ?_
  rintro ⟨r, s6⟩ ⟨hr, x6⟩
  simp only at hr x6
  rw [hv3] at hr
  subst hr
  have w6 := w5.ext x6
  replace k7 := (x6.keep _ w5.lt2).trans k7
  simp [evOp_call, T.get_set, loadE_eq, getC_eq, getsB_succ, getsB_zero, oracF_cons, w6.k0, k7, t0, t1, t2, t3]
  rw [gVg]
  refine Gd.mono (rlost_any _ g _) ?_
  rintro ⟨r, s7⟩ ⟨hr, x7⟩
  simp only at hr x7
  rw [hv3] at hr
  subst hr
  have w7 := w6.ext x7
  replace k7 := (x7.keep _ w6.lt2).trans k7
  simp [evOp_call, T.get_set, loadE_eq, getC_eq, getsB_succ, getsB_zero, oracF_cons, w7.k0, k7, t0, t1, t2, t3]
  rw [gVg]
  refine Gd.mono (gdata_any _ [] (fun _ _ => rfl) 0 (Nat.zero_le _) g _) ?_
  rintro ⟨r, s8⟩ ⟨hr, x8⟩
  simp only at hr x8
  rw [hv4] at hr
  subst hr
  have w8 := w7.ext x8
  replace k7 := (x8.keep _ w7.lt2).trans k7
  simp [evOp_call, T.get_set, loadE_eq, getC_eq, getsB_succ, getsB_zero, oracF_cons, w8.k0, k7, t0, t1, t2, t3]
  rw [gVg]
  refine Gd.mono (rdata_any _ g _) ?_
  rintro ⟨r, s9⟩ ⟨hr, x9⟩
  simp only at hr x9
  rw [hv4] at hr
  subst hr
  have w9 := w8.ext x9
  replace k7 := (x9.keep _ w8.lt2).trans k7
  simp [evOp_call, T.get_set, loadE_eq, getC_eq, getsB_succ, getsB_zero, oracF_cons, w9.k0, k7, t0, t1, t2, t3]
  rw [gVg]
  refine Gd.mono (rgood_any _ [] (fun _ _ => rfl) g _) ?_
  rintro ⟨r, s10⟩ ⟨hr, x10⟩
  simp only at hr x10
  subst hr
  have w10 := w9.ext x10
  replace k7 := (x10.keep _ w9.lt2).trans k7
  simp [evOp_call, T.get_set]
  refine condK_join (gsQ st s1 s10 g n a1 b1 a2 b2 a3 b3 a4 b4) ?_ ?_
  · by_cases hg : isGood g
    · have hd : decide (isGood g) = true := by simpa using hg
      have hw : IntKind.i64.wrap (g.b - 1) = g.b - 1 := by obtain ⟨h1, h2, _⟩ := hg.1; exact wrap_in (by omega) (by omega)
      simp [hd, evOp_call, T.get_set, loadE_eq, getC_eq, w10.k0, hw]
      exact ⟨_, rfl, by simp [T.get_set], by simp [T.get_set], by simp [T.get_set], by simp [T.get_set], by simp [T.get_set], by simp [T.get_set], by simp [T.get_set], by simp [T.get_set], by simp [T.get_set], by simp [T.get_set], by simp [T.get_set], by simp [T.get_set], by simp [T.get_set], by simp [T.get_set], by simp [T.get_set], by simp [T.get_set], by simp [T.get_set], by simp [T.get_set], by simp [T.get_set], by rw [if_pos hg]; simp [T.get_set]⟩
    · have hd : decide (isGood g) = false := by simpa using hg
      simp [hd, evOp_call, T.get_set]
      exact ⟨_, rfl, by simp [T.get_set], by simp [T.get_set], by simp [T.get_set], by simp [T.get_set], by simp [T.get_set], by simp [T.get_set], by simp [T.get_set], by simp [T.get_set], by simp [T.get_set], by simp [T.get_set], by simp [T.get_set], by simp [T.get_set], by simp [T.get_set], by simp [T.get_set], by simp [T.get_set], by simp [T.get_set], by simp [T.get_set], by simp [T.get_set], by simp [T.get_set], by rw [if_neg hg]; simp [T.get_set]⟩
  · rintro _ ⟨en, rfl, g2, g3, g7, g8, g9, g10, g11, g12, g13, g14, g15, g16, g17, g18, g19, g20, g21, g22, g23, g24⟩
    have hlt := w10.lt2
    have hsq := w10.lt
    simp [evOp_call, T.get_set, g2, g3, g7, loadE_eq, getC_eq, getsB_succ, getsB_zero, w10.k0, oracF_cons]
    refine ⟨by kernel_rfl, ?_⟩
    rw [gVg]
    rw [cxOf_callL [(s1.nx, s1.nx + 1)] (by kernel_rfl) (by kernel_rfl) (looseW_at 7 (.p s1.nx 0) (by simp [T.get_set, g7]) (by kernel_rfl)) (fun x hx => by simp at hx; subst hx; simp [clashes_tmp, T.get_set])]
    simp only [forb_nil, List.append_nil]
    refine Gd.mono (good_any _ [(s1.nx, s1.nx + 1)] (fun k hk => by rw [inF_cons, if_neg (by omega)]; rfl) 0 (Nat.zero_le _) g _) ?_
    rintro ⟨r, s11⟩ ⟨hr, x11⟩
    simp only at hr x11
    subst hr
    have w11 := w10.ext x11
    replace k7 := (x11.keep _ w10.lt2).trans k7
    have hld : ∀ (b i nx' : Nat), inF ((0, s1.nx) :: (s1.nx + 1, nx') :: forb b (rsOf [] i s10.nx s11.nx) []) s1.nx = false := fun b i nx' => inF_ld hlt
    simp [evOp_call, T.get_set, g2, g3, g7, loadE_eq, getC_eq, getsB_succ, getsB_zero, k7, t0, t1, t2, t3, hld, oracF_cons]
    rw [gVg]
    rw [cxOf_call (by kernel_rfl) (by kernel_rfl), forb_rsOf (by kernel_rfl)]
    refine Gd.mono (rgood_any _ [] (fun _ _ => rfl) g _) ?_
    rintro ⟨r, s12⟩ ⟨hr, x12⟩
    simp only at hr x12
    subst hr
    have w12 := w11.ext x12
    replace k7 := (x12.keep _ w11.lt2).trans k7
    have rs0 : ∀ e ∈ ([] : List (Nat × Nat × Nat)), st.nx < e.2.1 := fun e he => by cases he
    have rs1 : ∀ e ∈ rsOf [] 1 s10.nx s11.nx, st.nx < e.2.1 := rsOf_lt rs0 (by omega)
    have rs3 : ∀ e ∈ rsOf (rsOf [] 1 s10.nx s11.nx) 3 s11.nx s12.nx, st.nx < e.2.1 := rsOf_lt rs1 (by have := x11.le; omega)
    have hld3 : ∀ (b nx' : Nat), inF ((0, st.nx) :: (st.nx + 1, nx') :: forb b (rsOf (rsOf [] 1 s10.nx s11.nx) 3 s11.nx s12.nx) []) st.nx = false := fun b nx' => inF_lds rs3
    simp [evOp_call, T.get_set, g2, g3, g7, g8, g9, g10, g11, g12, g13, g14, g15, g16, g17, g18, g19, g20, g21, g22, g23, g24, loadE_eq, getC_eq, getsB_succ, getsB_zero, w12.k0, hld3, oracF_cons]
    rw [gVg]
    rw [cxOf_callL [(s1.nx, s1.nx + 1)] (by kernel_rfl) (by kernel_rfl) (looseW_at 7 (.p s1.nx 0) (by simp [T.get_set, g7]) (by kernel_rfl)) (fun x hx => by simp at hx; rcases hx with rfl | rfl <;> simp [clashes_tmp, T.get_set, g2]), forb_rsOf2 (by kernel_rfl) (by kernel_rfl)]
    simp only [List.append_nil]
    refine Gd.mono (gnode_any _ [(s1.nx, s1.nx + 1)] (fun k hk => by have := x11.le; have := x12.le; rw [inF_cons, if_neg (by omega)]; rfl) 0 (Nat.zero_le _) g n _) ?_
    rintro ⟨r, s13⟩ ⟨hr, x13⟩
    simp only at hr x13
    subst hr
    have w13 := w12.ext x13
    replace k7 := (x13.keep _ w12.lt2).trans k7
    have u11 := x11.le
    have u12 := x12.le
    have u13 := x13.le
    have v0 : ∀ m, m < s10.nx → ∀ e ∈ ([] : List (Nat × Nat × Nat)), m < e.2.1 := fun m _ e he => by cases he
    have v3 : ∀ m, m < s10.nx → ∀ e ∈ rsOf (rsOf [] 1 s10.nx s11.nx) 3 s11.nx s12.nx, m < e.2.1 := fun m hm => rsOf_lt (rsOf_lt (v0 m hm) hm) (by omega)
    have v4 : ∀ m, m < s10.nx → ∀ e ∈ rsOf (rsOf (rsOf [] 1 s10.nx s11.nx) 3 s11.nx s12.nx) 48 s12.nx s13.nx, m < e.2.1 := fun m hm => rsOf_lt (v3 m hm) (by omega)
    have hld4 : ∀ (b nx' : Nat), inF ((0, s1.nx) :: (s1.nx + 1, nx') :: forb b (rsOf (rsOf (rsOf [] 1 s10.nx s11.nx) 3 s11.nx s12.nx) 48 s12.nx s13.nx) []) s1.nx = false := fun b nx' => inF_lds (v4 _ hlt)
    simp [evOp_call, T.get_set, g2, g3, g7, g8, loadE_eq, getC_eq, getsB_succ, getsB_zero, k7, t0, t1, t2, t3, oracF_cons, hld4]
    rw [gVg]
    rw [cxOf_call (by kernel_rfl) (by kernel_rfl), forb_rsOf3 (by kernel_rfl) (by kernel_rfl) (by kernel_rfl)]
    refine Gd.mono (rnode_any _ [] (fun _ _ => rfl) g n _) ?_
    rintro ⟨r, s14⟩ ⟨hr, x14⟩
    simp only at hr x14
    have hr2 : r = .int .i64 (if isGood g ∧ 1 ≤ n ∧ n ≤ g.n then nF g + n - 1 else 0) := hr
    clear hr
    subst hr2
    have w14 := w13.ext x14
    have u14 := x14.le
    have v5 : ∀ e ∈ rsOf (rsOf (rsOf (rsOf [] 1 s10.nx s11.nx) 3 s11.nx s12.nx) 48 s12.nx s13.nx) 51 s13.nx s14.nx, st.nx < e.2.1 := rsOf_lt (v4 _ (by omega)) (by omega)
    have hld5 : ∀ (b nx' : Nat), inF ((0, st.nx) :: (st.nx + 1, nx') :: forb b (rsOf (rsOf (rsOf (rsOf [] 1 s10.nx s11.nx) 3 s11.nx s12.nx) 48 s12.nx s13.nx) 51 s13.nx s14.nx) []) st.nx = false := fun b nx' => inF_lds v5
    simp [evOp_call, T.get_set, g2, g3, g7, g24, loadE_eq, getC_eq, getsB_succ, getsB_zero, w14.k0, oracF_cons, hld5]
    rw [gVg]
    rw [cxOf_call (by kernel_rfl) (by kernel_rfl), forb_rsOf4 (by kernel_rfl) (by kernel_rfl) (by kernel_rfl) (by kernel_rfl)]
    refine Gd.mono (gback_any _ [] (fun _ _ => rfl) 0 (Nat.zero_le _) g _) ?_
    rintro ⟨r, s15⟩ ⟨hr, x15⟩
    simp only at hr x15
    subst hr
    simp [evOp_call, T.get_set, g24]
/-- whatever came in -/
theorem w_GeomSays (b n c k : Int) (q m : Int) (W : World) (_ : -9223372036854775808 ≤ b ∧ b ≤ 9223372036854775807) (_ : -9223372036854775808 ≤ n ∧ n ≤ 9223372036854775807) (_ : -9223372036854775808 ≤ c ∧ c ≤ 9223372036854775807) (_ : -9223372036854775808 ≤ k ∧ k ≤ 9223372036854775807) (_ : -9223372036854775808 ≤ q ∧ q ≤ 9223372036854775807) (_ : -9223372036854775808 ≤ m ∧ m ≤ 9223372036854775807) :
    Calls Try.prog 7 #[.agg #[.int .i64 b, .int .i64 n, .int .i64 c, .int .i64 k], .int .i64 q, .int .i64 m] W fun e W' => e = .returned (.bool true) ∧ Below W.heap.size W W' :=
  law_calls (lawC_sound namesOkG mixesG Try.func56 rfl geomAwake) (Begin.zero W) (.cons (rel_gV _ ⟨b, n, c, k⟩) (.cons (rel_int _ _) (.cons (rel_int _ _) .nil))) (g_GeomSays ⟨0, .lf⟩ ⟨b, n, c, k⟩ q m)
end Go.Proofs.Ytnigikccijjihaa

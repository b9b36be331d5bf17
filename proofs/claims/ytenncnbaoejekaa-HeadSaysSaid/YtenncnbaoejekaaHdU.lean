/-
  The walk of HeadSays.
-/
import Derived.Test.YtenncnbaoejekaaHdS
set_option linter.unusedSimpArgs false
namespace Go.Proofs.Ytenncnbaoejekaa
open Go.RowKit Ev
theorem eqlRg (st : St) (x y : Operand) (g h : Gm) : binE Try.prog st .eql 76 x y (gV g) (gV h) = some (.bool (decide (g = h)), st) := by
  have := eql_struct (st := st) (x := x) (y := y) (l := [.int .i64 g.b, .int .i64 g.n, .int .i64 g.c, .int .i64 g.k]) (l' := [.int .i64 h.b, .int .i64 h.n, .int .i64 h.c, .int .i64 h.k]) Try.underlying76 (by kernel_rfl) (by kernel_rfl) rfl rfl
    (.cons (.int (d := 9998) (by decide) Try.underlying3 rfl rfl) (.cons (.int (d := 9998) (by decide) Try.underlying3 rfl rfl) (.cons (.int (d := 9998) (by decide) Try.underlying3 rfl rfl) (.cons (.int (d := 9998) (by decide) Try.underlying3 rfl rfl) .nil))))
  rw [allGm] at this
  exact this
theorem neqRg (st : St) (x y : Operand) (g h : Gm) : binE Try.prog st .neq 76 x y (gV g) (gV h) = some (.bool (!decide (g = h)), st) := by
  have := neq_struct (st := st) (x := x) (y := y) (l := [.int .i64 g.b, .int .i64 g.n, .int .i64 g.c, .int .i64 g.k]) (l' := [.int .i64 h.b, .int .i64 h.n, .int .i64 h.c, .int .i64 h.k]) Try.underlying76 (by kernel_rfl) (by kernel_rfl) rfl rfl
    (.cons (.int (d := 9998) (by decide) Try.underlying3 rfl rfl) (.cons (.int (d := 9998) (by decide) Try.underlying3 rfl rfl) (.cons (.int (d := 9998) (by decide) Try.underlying3 rfl rfl) (.cons (.int (d := 9998) (by decide) Try.underlying3 rfl rfl) .nil))))
  rw [allGm] at this
  exact this
theorem both_eq (r : Option (Gm × BitVec 64)) : ∃ g p o, getHV r = .t [hdV g p, .bool o] ∧ rgetV r = .t [gV g, wd p, .bool o] ∧ (o = true ∨ o = false ∧ g = ⟨0, 0, 0, 0⟩) := by
  cases r with
  | none => exact ⟨_, _, false, rfl, rfl, .inr ⟨rfl, rfl⟩⟩
  | some q => exact ⟨q.1, q.2, true, rfl, rfl, .inl rfl⟩
theorem find_eq (a b : Option (Gm × BitVec 64)) : ∃ g p, findHV a b = .t [hdV g p, .bool a.isSome, .bool b.isSome] ∧ fdO a b = .t [gV g, wd p, .bool a.isSome, .bool b.isSome] := by
  cases a with
  | none => cases b with
    | none => exact ⟨_, _, rfl, rfl⟩
    | some q => exact ⟨q.1, q.2, rfl, rfl⟩
  | some q => exact ⟨q.1, q.2, rfl, rfl⟩
@[simp] theorem bool_neqH (st : St) (x y : Operand) (a b : Bool) : binE Try.prog st .neq 4 x y (.bool a) (.bool b) = some (.bool (a != b), st) := by cases a <;> cases b <;> kernel_rfl
@[simp] theorem wantK_uH (w : Bool) : wantK w (some V.u) = false := rfl
def hsA (s : St) (bl : Nat) (k : Bool) (z y : V) (r : X × Env × St) : Prop := ∃ en : Env, r = (.n, en, s) ∧ en.get 2 = some (.int .i64 (bl : Int)) ∧ en.get 9 = some z ∧ en.get 15 = some (if k then y else z)
set_option maxRecDepth 20000 in
set_option maxHeartbeats 8000000 in
theorem g_HeadSays (st : St) (g : Gm) (p : BitVec 64) (y : V) (K : List (BitVec 64)) (b : Int) (k : Bool) (hy : RdRow st y 1 K.length (wv K)) :
    Gd (lawC Try.prog 55 ⟨false, [], 0, 0⟩ 10 [hdV g p, y, .int .i64 b, .bool k] st) fun r => r.1 = .bool true := by
  rw [Gd_lawC Try.func10 rfl]
  have hVg : V.g [V.int .i64 g.b, V.int .i64 g.n, V.int .i64 g.c, V.int .i64 g.k, wd p] = hdV g p := rfl
  have gVg : ∀ g : Gm, V.g [V.int .i64 g.b, V.int .i64 g.n, V.int .i64 g.c, V.int .i64 g.k] = gV g := fun _ => rfl
  have hcell : ∀ (cc : Cx) (s : St) (m i : Nat) (g : Gm), storeK Try.prog cc s 76 m i (gV g) = putB cc s m i [.int .i64 g.b, .int .i64 g.n, .int .i64 g.c, .int .i64 g.k] fun st => some (.u, st) := fun cc s m i g => by unfold gV; simp [storeK_g]
  by_cases h20 : (20 : Int) < K.length
  · simp [hdV, evOp_call, sets, T.get_set, cellsOf, newC_is, hy.lenS, h20]
  · by_cases b1 : b < 64
    · simp [hdV, evOp_call, sets, T.get_set, cellsOf, newC_is, hy.lenS, h20, b1]
    · by_cases b2 : 80 < b
      · simp [hdV, evOp_call, sets, T.get_set, cellsOf, newC_is, hy.lenS, h20, b1, b2]
      · obtain ⟨bl, rfl⟩ := Int.eq_ofNat_of_zero_le (show 0 ≤ b by omega)
        simp [hdV, evOp_call, sets, T.get_set, cellsOf, newC_is, hy.lenS, h20, b1, b2, loadE_eq, getC_eq, getsB_succ, getsB_zero, oracF_cons]
        rw [hVg]
        refine Gd.mono (hput_any _ g p _) ?_
        rintro ⟨z, s1⟩ ⟨hz, _, _, x1⟩
        simp only at hz x1
        have l1 : st.nx < s1.nx := x1.le
        have k0 : s1.h.get st.nx = _ := (x1.keep _ (Nat.lt_succ_self _)).trans (T.get_set_same _ _ _)
        have hs1 : Ext st.nx st s1 := (hbox_ext st _).trans (x1.mono (Nat.le_succ _))
        simp [evOp_call, sets, T.get_set, loadE_eq, getC_eq, getsB_succ, getsB_zero, k0, oracF_cons]
        refine ⟨by kernel_rfl, ?_⟩
        rw [gVg, cxOf_callL [(st.nx, st.nx + 1)] (by kernel_rfl) (by kernel_rfl) (looseW_at 4 (.p st.nx 0) (by simp [T.get_set]) (by kernel_rfl)) (fun x hx => by simp at hx; subst hx; simp [clashes_tmp, T.get_set, gV, blkOf])]
        simp only [forb_nil, List.append_nil]
        refine Gd.mono (hown_any s1 [(st.nx, st.nx + 1)] (fun k hk => by rw [inF_cons, if_neg (by omega)]; rfl) g _) ?_
        rintro ⟨r, s2⟩ ⟨hr, x2⟩
        simp only at hr x2
        subst hr
        have k1 : s2.h.get st.nx = _ := (x2.keep _ l1).trans k0
        have hld : ∀ (b i nx' : Nat), inF ((0, st.nx) :: (st.nx + 1, nx') :: forb b (rsOf [] i s1.nx s2.nx) []) st.nx = false := fun b i nx' => inF_ld (by omega)
        simp [evOp_call, sets, T.get_set, loadE_eq, getC_eq, getsB_succ, getsB_zero, k1, hld, oracF_cons]
        rw [cxOf_call (by kernel_rfl) (by kernel_rfl), forb_rsOf (by kernel_rfl)]
        refine Gd.mono (rput_any s2 g p _) ?_
        rintro ⟨z2, s3⟩ ⟨hz2, x3⟩
        simp only at hz2 x3
        have l2 : s1.nx ≤ s2.nx := x2.le
        have l3 : s2.nx ≤ s3.nx := x3.le
        have hs3 : Ext st.nx st s3 := (hs1.trans (x2.mono (by omega))).trans (x3.mono (by omega))
        have hz3 := (hz.ext x2).ext x3
        have k2 : s3.h.get st.nx = _ := (x3.keep _ (by omega)).trans k1
        simp [evOp_call, sets, T.get_set, oracF_cons]
        rw [cxOf_call (by kernel_rfl) (by kernel_rfl), forb_rsOf2 (by kernel_rfl) (by kernel_rfl)]
        refine Gd.mono (lsameH s3 z z2 (putH g p) (putH g p) hz3 hz2 (by unfold putH; split <;> simp [preH]) _) ?_
        rintro _ rfl
        simp [evOp_call, sets, T.get_set, oracF_cons]
        refine Gd.mono (hget_any s3 y K (hy.ext hs3) _) ?_
        rintro ⟨r, s4⟩ ⟨hr, x4⟩
        simp only at hr x4
        obtain ⟨G, P, o, e1, e2, ho⟩ := both_eq (getH K)
        rw [e1] at hr
        subst hr
        have l4 : s3.nx ≤ s4.nx := x4.le
        have hs4 : Ext st.nx st s4 := hs3.trans (x4.mono (by omega))
        have k3 : s4.h.get st.nx = _ := (x4.keep _ (by omega)).trans k2
        have hs5 : ∀ v, Ext st.nx st ⟨s4.nx + 1, s4.h.set s4.nx v⟩ := fun v => hs4.new (by omega) v
        simp [hdV, evOp_call, sets, T.get_set, newC_is, storeK_g, putB_eq, roT, oracF_cons]
        refine Gd.mono (rget_any _ y K (hy.ext (hs5 _)) _) ?_
        rintro ⟨r, s5⟩ ⟨hr, x5⟩
        simp only at hr x5
        rw [e2] at hr
        subst hr
        have l5 : s4.nx + 1 ≤ s5.nx := x5.le
        have hs6 : Ext st.nx st s5 := (hs5 _).trans (x5.mono (by show st.nx ≤ s4.nx + 1; omega))
        have j4 : s5.h.get s4.nx = _ := (x5.keep _ (Nat.lt_succ_self _)).trans (T.get_set_same _ _ _)
        have ne4 : ¬ s5.nx = s4.nx := by omega
        have e7 : ∀ v, Ext st.nx st ⟨s5.nx + 1, s5.h.set s5.nx v⟩ := fun v => hs6.new (by omega) v
        simp [hcell, evOp_call, sets, T.get_set, newC_is, storeK_g, putB_eq, roT, oracF_cons]
        refine ⟨by kernel_rfl, ?_⟩
        have u5 : s4.nx < s5.nx := by omega
        rcases ho with rfl | ⟨rfl, rfl⟩
        case' inl =>
          simp [evOp_call, sets, T.get_set, loadE_eq, getC_eq, getsB_succ, getsB_zero, j4, ne4, oracF_cons]
          rw [gVg, cxOf_callL [(s5.nx, s5.nx + 1)] (by kernel_rfl) (by kernel_rfl) (looseW_at 12 (.p s5.nx 0) (by simp [T.get_set]) (by kernel_rfl)) (fun x hx => by simp at hx; subst hx; simp [clashes_tmp, T.get_set, gV, blkOf])]
          simp only [forb_nil, List.append_nil]
          refine Gd.mono (hown_any _ [(s5.nx, s5.nx + 1)] (fun k hk => by have hk' : s5.nx + 1 ≤ k := hk; rw [inF_cons, if_neg (by omega)]; rfl) G _) ?_
          rintro ⟨r, s6⟩ ⟨hr, x6⟩
          simp only at hr x6
          subst hr
          have u6 : s5.nx + 1 ≤ s6.nx := x6.le
          have i5 : s6.h.get s5.nx = _ := (x6.keep _ (Nat.lt_succ_self _)).trans (T.get_set_same _ _ _)
          have i4 : s6.h.get s4.nx = _ := (x6.keep _ (by show s4.nx < s5.nx + 1; omega)).trans ((T.get_set_ne _ _ ne4).trans j4)
          have hld5 : ∀ (b i nx' : Nat), inF ((0, s5.nx) :: (s5.nx + 1, nx') :: forb b (rsOf [] i (s5.nx + 1) s6.nx) []) s5.nx = false := fun b i nx' => inF_ld (by omega)
          have hld4 : ∀ (b i nx' : Nat), inF ((0, s4.nx) :: (s4.nx + 1, nx') :: forb b (rsOf [] i (s5.nx + 1) s6.nx) []) s4.nx = false := fun b i nx' => inF_ld (by omega)
          have hs7 : Ext st.nx st s6 := (e7 _).trans (x6.mono (by show st.nx ≤ s5.nx + 1; omega))
          simp [evOp_call, sets, T.get_set, loadE_eq, getC_eq, getsB_succ, getsB_zero, i5, i4, hld5, hld4, oracF_cons]
          rw [gVg, neqRg]
          simp [evOp_call, sets, T.get_set, loadE_eq, getC_eq, getsB_succ, getsB_zero, i5, i4, hld5, hld4, oracF_cons]
        case' inr =>
          simp [evOp_call, sets, T.get_set, loadE_eq, getC_eq, getsB_succ, getsB_zero, j4, ne4, oracF_cons]
          rw [show V.g [V.int .i64 0, V.int .i64 0, V.int .i64 0, V.int .i64 0] = gV ⟨0, 0, 0, 0⟩ from rfl, cxOf_call (by kernel_rfl) (by kernel_rfl)]
          simp only [forb_nil]
          refine Gd.mono (hown_any _ [] (fun _ _ => rfl) ⟨0, 0, 0, 0⟩ _) ?_
          rintro ⟨r, s6⟩ ⟨hr, x6⟩
          simp only at hr x6
          subst hr
          have u6 : s5.nx + 1 ≤ s6.nx := x6.le
          have hs7 : Ext st.nx st s6 := (e7 _).trans (x6.mono (by show st.nx ≤ s5.nx + 1; omega))
          simp [evOp_call, sets, T.get_set, loadE_eq, getC_eq, getsB_succ, getsB_zero, oracF_cons]
          rw [show V.g [V.int .i64 0, V.int .i64 0, V.int .i64 0, V.int .i64 0] = gV ⟨0, 0, 0, 0⟩ from rfl, neqRg]
          simp [evOp_call, sets, T.get_set, loadE_eq, getC_eq, getsB_succ, getsB_zero, oracF_cons]
        all_goals
          have hz6 : RdRow s6 z 1 (putH g p).length (wv (putH g p)) := ((hz3.ext x4).ext ((hbox_ext s4 _).trans (x5.mono (Nat.le_succ _)))).ext ((hbox_ext s5 _).trans (x6.mono (Nat.le_succ _)))
          have hy6 := hy.ext hs7
          refine condK_join (hsA s6 bl k z y) ?_ ?_
          · cases k with
            | true =>
              simp [evOp_call, T.get_set]
              exact ⟨_, rfl, by simp [T.get_set], by simp [T.get_set], by simp [T.get_set]⟩
            | false =>
              simp [evOp_call, T.get_set]
              exact ⟨_, rfl, by simp [T.get_set], by simp [T.get_set], by simp [T.get_set]⟩
          · rintro _ ⟨en, rfl, g2, g9, g15⟩
            obtain ⟨A, hA⟩ : ∃ A, RdRow s6 (if k then y else z) 1 A.length (wv A) := by
              cases k with
              | true => exact ⟨K, hy6⟩
              | false => exact ⟨putH g p, hz6⟩
            simp [evOp_call, T.get_set, g2, g9, g15, oracF_cons]
            refine Gd.mono (image_any s6 bl (by omega) _ z A (putH g p) hA hz6 _) ?_
            rintro ⟨w, s7⟩ ⟨hw, x7⟩
            simp only at hw x7
            simp [evOp_call, T.get_set, oracF_cons]
            refine Gd.mono (hfind_any s7 _ w bl (by omega) _ hw _) ?_
            rintro ⟨r, s8⟩ ⟨hr, x8⟩
            simp only at hr x8
            have hw8 := hw.ext x8
            obtain ⟨G2, P2, f1, f2⟩ := find_eq (ofH bl (List.take 8 (imgF (8 * bl) A (putH g p) 8))) (ofH bl (List.drop (8 * bl - 8) (imgF (8 * bl) A (putH g p) 8)))
            rw [f1] at hr
            subst hr
            simp [hdV, evOp_call, sets, T.get_set, newC_is, storeK_g, putB_eq, roT, oracF_cons]
            refine Gd.mono (rfind_any _ _ w bl (by omega) _ (hw8.ext (hbox_ext s8 _)) _) ?_
            rintro ⟨r, s9⟩ ⟨hr, x9⟩
            simp only at hr x9
            rw [f2] at hr
            subst hr
            have u9 : s8.nx + 1 ≤ s9.nx := x9.le
            have q8 : s9.h.get s8.nx = _ := (x9.keep _ (Nat.lt_succ_self _)).trans (T.get_set_same _ _ _)
            have ne9 : ¬ s9.nx = s8.nx := by omega
            simp [hcell, evOp_call, sets, T.get_set, newC_is, storeK_g, putB_eq, roT, oracF_cons]
            refine ⟨by kernel_rfl, ?_⟩
            simp [evOp_call, sets, T.get_set, loadE_eq, getC_eq, getsB_succ, getsB_zero, q8, ne9, oracF_cons]
            rw [gVg, cxOf_callL [(s9.nx, s9.nx + 1)] (by kernel_rfl) (by kernel_rfl) (looseW_at 20 (.p s9.nx 0) (by simp [T.get_set]) (by kernel_rfl)) (fun x hx => by simp at hx; subst hx; simp [clashes_tmp, T.get_set, gV, blkOf])]
            simp only [forb_nil, List.append_nil]
            refine Gd.mono (hown_any _ [(s9.nx, s9.nx + 1)] (fun k hk => by have hk' : s9.nx + 1 ≤ k := hk; rw [inF_cons, if_neg (by omega)]; rfl) G2 _) ?_
            rintro ⟨r, s10⟩ ⟨hr, x10⟩
            simp only at hr x10
            subst hr
            have u10 : s9.nx + 1 ≤ s10.nx := x10.le
            have i9 : s10.h.get s9.nx = _ := (x10.keep _ (Nat.lt_succ_self _)).trans (T.get_set_same _ _ _)
            have i8 : s10.h.get s8.nx = _ := (x10.keep _ (by show s8.nx < s9.nx + 1; omega)).trans ((T.get_set_ne _ _ ne9).trans q8)
            have hld9 : ∀ (b i nx' : Nat), inF ((0, s9.nx) :: (s9.nx + 1, nx') :: forb b (rsOf [] i (s9.nx + 1) s10.nx) []) s9.nx = false := fun b i nx' => inF_ld (by omega)
            have hld8 : ∀ (b i nx' : Nat), inF ((0, s8.nx) :: (s8.nx + 1, nx') :: forb b (rsOf [] i (s9.nx + 1) s10.nx) []) s8.nx = false := fun b i nx' => inF_ld (by omega)
            simp [evOp_call, sets, T.get_set, loadE_eq, getC_eq, getsB_succ, getsB_zero, i9, i8, hld9, hld8, oracF_cons]
            rw [gVg, eqlRg]
            simp [evOp_call, sets, T.get_set, loadE_eq, getC_eq, getsB_succ, getsB_zero, i9, i8, hld9, hld8, oracF_cons]
theorem w_HeadSays (b n c k p : Int) (L0 : List Int) (m : Int) (f : Bool) (W : World) (_ : -9223372036854775808 ≤ b ∧ b ≤ 9223372036854775807) (_ : -9223372036854775808 ≤ n ∧ n ≤ 9223372036854775807) (_ : -9223372036854775808 ≤ c ∧ c ≤ 9223372036854775807) (_ : -9223372036854775808 ≤ k ∧ k ≤ 9223372036854775807) (hp : (Lit.int .u64 p).wf = true)
    (y : Value) (hy : InRow W y 1 L0.length (L0.map fun v => V.int .u64 v)) (hw : ∀ r ∈ L0, (Lit.int .u64 r).wf = true) (_ : -9223372036854775808 ≤ m ∧ m ≤ 9223372036854775807) :
    Calls Try.prog 10 #[.agg #[.int .i64 b, .int .i64 n, .int .i64 c, .int .i64 k, .int .u64 p], y, .int .i64 m, .bool f] W fun e W' => e = .returned (.bool true) ∧ Below W.heap.size W W' := by
  obtain ⟨q, rfl, hq⟩ := u64_nat hp
  obtain ⟨K, hK, hm⟩ := wv_of hw
  rw [hm, ← hK] at hy
  obtain ⟨st, ρ, v, hb, _, hv, _, hr⟩ := (Begin.zero W).row hy
  exact law_calls (lawC_sound namesOkH mixesH Try.func55 rfl headAwake) hb (.cons (rel_hdV _ b n c k (by omega) (by omega)) (.cons hv (.cons (rel_int _ _) (.cons (rel_bool _) .nil)))) (g_HeadSays st ⟨b, n, c, k⟩ (BitVec.ofInt 64 q) v K m f hr)
end Go.Proofs.Ytenncnbaoejekaa

/-
  The walk of RedoBack.
-/
import Derived.Test.YtenncnbaoejekaaRdF
import Derived.Test.YtenncnbaoejekaaRdO
set_option linter.unusedSimpArgs false
namespace Go.Proofs.Ytenncnbaoejekaa
open Go.RowKit Ev
@[simp] theorem bool_eqlR (st : St) (x y : Operand) (a b : Bool) : binE Try.prog st .eql 4 x y (.bool a) (.bool b) = some (.bool (a == b), st) := by cases a <;> cases b <;> kernel_rfl
theorem OwnRow.cap {b z n : Nat} {st : St} {x : V} {l : List V} (h : OwnRow b st x z n l) : CapOk x := by
  intro m o l' q e
  rcases h.2 with ⟨rfl, _⟩ | ⟨m', ty, t, rfl, _⟩
  · cases e
  · cases e
theorem clash_row {b q z n : Nat} {s : St} {w : V} {l : List V} (hr : RdRow s w z n l) (hf : RowFrom b w) (hq : q < b) : (blkOf w).elim false (inF [(q, q + 1)]) = false := by
  obtain ⟨_, h2⟩ := hr
  rcases h2 with ⟨rfl | rfl, _⟩ | ⟨m, o, q', ty, sz, t, rfl, _⟩ | ⟨m, o, ty, sz, t, rfl, _⟩
  · rfl
  · rfl
  · have := hf.2 _ _ _ _ rfl
    show inF [(q, q + 1)] m = false
    rw [inF_cons, if_neg (by omega)]; rfl
  · have := hf.1 _ _ _ _ rfl
    show inF [(q, q + 1)] m = false
    rw [inF_cons, if_neg (by omega)]; rfl
theorem rowIn_from {b m : Nat} {w : V} (hf : RowFrom b w) (h : rowIn w m) : b ≤ m := by
  rcases h with ⟨_, _, _, rfl⟩ | ⟨_, _, _, rfl⟩
  · exact hf.2 _ _ _ _ rfl
  · exact hf.1 _ _ _ _ rfl
def rbQ (st : St) (a b : V) (r : X × Env × St) : Prop := ∃ (en : Env) (s : St), r = (.n, en, s) ∧ en.get 4 = some a ∧ en.get 5 = some b ∧ Ext st.nx st s
set_option maxRecDepth 20000 in
set_option maxHeartbeats 8000000 in
theorem g_RedoBack (st : St) (n : BitVec 64) (y : V) (K : List (Int × BitVec 64)) (hy : RdRow st y 2 K.length (iw K)) (x : V) (R : List (BitVec 64)) (hx : RdRow st x 1 R.length (wv R)) (i : Int) (v : BitVec 64)
    (a b : V) (A B : List (BitVec 64)) (ha : RdRow st a 1 A.length (wv A)) (hb : RdRow st b 1 B.length (wv B)) :
    Gd (lawC Try.prog 92 ⟨false, [], 0, 0⟩ 20 [.g [wd n, y], x, .int .i64 i, wd v, a, b] st) fun r => r.1 = .bool true := by
  have hone := hy.one
  rw [Gd_lawC Try.func20 rfl]
  by_cases h1 : (40 : Int) < K.length
  · simp [evOp_call, sets, T.get_set, cellsOf, newC_is, loadE_eq, getC_eq, hy.lenS, h1]
  · by_cases h2 : (10 : Int) < R.length
    · simp [evOp_call, sets, T.get_set, cellsOf, newC_is, loadE_eq, getC_eq, hy.lenS, hx.lenS, h1, h2]
    · by_cases h3 : (60 : Int) < A.length
      · simp [evOp_call, sets, T.get_set, cellsOf, newC_is, loadE_eq, getC_eq, hy.lenS, hx.lenS, ha.lenS, h1, h2, h3]
      · by_cases h4 : (60 : Int) < B.length
        · simp [evOp_call, sets, T.get_set, cellsOf, newC_is, loadE_eq, getC_eq, hy.lenS, hx.lenS, ha.lenS, hb.lenS, h1, h2, h3, h4]
        · simp [evOp_call, sets, T.get_set, cellsOf, newC_is, loadE_eq, getC_eq, getsB_2, hy.lenS, hx.lenS, ha.lenS, hb.lenS, h1, h2, h3, h4, oracF_cons]
          have he : ∀ w, Ext st.nx st ⟨st.nx + 1, st.h.set st.nx w⟩ := fun w => (Ext.refl _ _).new (Nat.le_refl _) _
          refine Gd.mono (put_any _ n y K (hy.ext (he _)) (by omega) _) ?_
          rintro ⟨z, s1⟩ ⟨hz, hzf, x1⟩
          simp only at hz hzf x1
          have l1 : st.nx < s1.nx := x1.le
          have hs1 : Ext st.nx st s1 := (he _).trans (x1.mono (Nat.le_succ _))
          have k0 : s1.h.get st.nx = _ := (x1.keep _ (Nat.lt_succ_self _)).trans (T.get_set_same _ _ _)
          simp [evOp_call, T.get_set, hz.lenS]
          refine condK_join (rbQ st a b) ?_ ?_
          · by_cases hf : fitsR n K
            · have hpl := putR_length hf
              have hpos : 0 < (putR n K).length := by omega
              have hpos' : (0 : Int) < (putR n K).length := by omega
              simp [evOp_call, T.get_set, hpos, hpos']
              rw [evOp_build0 (fun k => el30 k) (fun k => ze31 k) rfl]
              simp [T.get_set]
              have e2 : ∀ w, Ext s1.nx s1 ⟨s1.nx + 1, s1.h.set s1.nx w⟩ := fun w => (Ext.refl _ _).new (Nat.le_refl _) _
              refine Gd_append0 un30 un30 io31 (by decide) (T.get_set_same _ _ _) hz.notS (fun k => hz.len k) (fun k => (hz.ext (e2 _)).firsts k) hz.1 (by omega) (fun h0 => by omega) fun _ => ?_
              simp [T.get_set]
              have e3 := (e2 (.cs 31 0 .lf)).new (Nat.le_succ _) (.cs 31 (putR n K).length (sets (wv (putR n K)) 0 .lf))
              have hown : ∀ w, OwnRow s1.nx ⟨s1.nx + 1 + 1, (s1.h.set s1.nx w).set (s1.nx + 1) (.cs 31 (putR n K).length (sets (wv (putR n K)) 0 .lf))⟩ (.sg (s1.nx + 1) 0 (putR n K).length 1) 1 (putR n K).length (wv (putR n K)) := fun w => by
                refine ⟨by simp, .inr ⟨s1.nx + 1, 31, sets (wv (putR n K)) 0 .lf, rfl, Nat.le_succ _, Nat.lt_succ_self _, ?_, by decide, fun j v hj => ?_⟩⟩
                · rw [Nat.mul_one]; exact T.get_set_same _ _ _
                · have hjl := lt_of_get hj
                  rw [get_sets, if_pos ⟨Nat.zero_le _, by omega⟩]
                  simpa using hj
              have hs3 : Ext st.nx st ⟨s1.nx + 1 + 1, (s1.h.set s1.nx (.cs 31 0 .lf)).set (s1.nx + 1) (.cs 31 (putR n K).length (sets (wv (putR n K)) 0 .lf))⟩ := hs1.trans (e3.mono (by omega))
              have hx3 := hx.ext hs3
              have hz3 := hz.ext e3
              refine Gd_append un30 un30 io31 (n := (putR n K).length) (lx := R.length) (new := wv R) (hown _) (by show s1.nx ≤ s1.nx + 1 + 1; omega) (by decide) hx.notS (fun k => hx.len k) (fun k => hx3.firsts k) (by simp) (by omega) ?_
              intro s' st' ho' he' _ _
              have hrow : RdRow st' s' 1 (putR n K ++ R).length (wv (putR n K ++ R)) := by rw [wv_app, List.length_append]; exact ho'.rd
              obtain ⟨bk1, bk2, bk3⟩ := getOk_back hf R
              have hs4 : Ext st.nx st st' := hs3.trans (he'.mono (by omega))
              have hle4 : s1.nx + 1 + 1 ≤ st'.nx := he'.le
              have hz4 : RdRow st' z 1 (putR n K).length (wv (putR n K)) := by
                have hzl := hz.lt_of
                obtain ⟨g1, g2⟩ := hz3
                refine ⟨g1, ?_⟩
                rcases g2 with g2 | ⟨m, o, q, ty, sz, t, rfl, g3, g4, g5, g6⟩ | ⟨m, o, ty, sz, t, rfl, g3, g4, g5, g6⟩
                · exact .inl g2
                · have hm := hzl.2 _ _ _ _ rfl
                  exact .inr (.inl ⟨m, o, q, ty, sz, t, rfl, by omega, (he'.keep _ hm).trans g4, g5, g6⟩)
                · have hm := hzl.1 _ _ _ _ rfl
                  exact .inr (.inr ⟨m, o, ty, sz, t, rfl, by omega, (he'.keep _ hm).trans g4, g5, g6⟩)
              have k1 : st'.h.get st.nx = _ := (he'.keep _ (by omega)).trans ((e3.keep _ (by omega)).trans k0)
              simp [evOp_call, sets, T.get_set, oracF_cons]
              refine Gd.mono (rdget_any st' s' (putR n K ++ R) hrow (OwnRow.cap ho') (by rw [List.length_append]; omega) _) ?_
              rintro ⟨r, s5⟩ ⟨w, hr, hw, hwf, x5⟩
              simp only at hr hw x5
              rw [bk2, show decide (getOk (putR n K ++ R)) = true from decide_eq_true bk1] at hr
              rw [bk3] at hw
              subst hr
              have hwone := hw.one
              have l5 : st'.nx ≤ s5.nx := x5.le
              have hs5 : Ext st.nx st s5 := hs4.trans (x5.mono (by omega))
              have k2 : s5.h.get st.nx = _ := (x5.keep _ (by omega)).trans k1
              have q5 : ¬ s5.nx = st.nx := by omega
              simp [evOp_call, sets, T.get_set, newC_is, storeK_g, putB_eq, roT, hwone]
              refine ⟨by kernel_rfl, ?_⟩
              simp [evOp_call, sets, T.get_set, loadE_eq, getC_eq, getsB_2, k2, q5, hwone, oracF_cons]
              rw [cxOf_callL [(st.nx, st.nx + 1)] (by kernel_rfl) (by kernel_rfl) (looseW_at 6 (.p st.nx 0) (by simp [T.get_set]) (by kernel_rfl)) (fun x hx => by simp at hx; subst hx; rw [clashes_tmp]; simp [T.get_set]; exact clash_row hw hwf (by omega))]
              simp only [forb_nil, List.append_nil]
              refine Gd.mono (writes_fl _ [(st.nx, st.nx + 1)] (fun k hk => by have hk' : s5.nx + 1 ≤ k := hk; rw [inF_cons, if_neg (by omega)]; rfl) w K (hw.ext ((Ext.refl s5.nx s5).new (Nat.le_refl _) _)) (by omega) (fun m hm => by have := rowIn_from hwf hm; rw [inF_cons, if_neg (by omega)]; rfl) _) ?_
              rintro ⟨w2, s6⟩ ⟨hw2, x6⟩
              simp only at hw2 x6
              have l6 : s5.nx + 1 ≤ s6.nx := x6.le
              have hs6 : Ext st.nx st s6 := (hs5.new (by omega) _).trans (x6.mono (by show st.nx ≤ s5.nx + 1; omega))
              have k3 : s6.h.get st.nx = _ := (x6.keep _ (by show st.nx < s5.nx + 1; omega)).trans ((T.get_set_ne _ _ q5).trans k2)
              have hld : ∀ (b i nx' : Nat), inF ((0, st.nx) :: (st.nx + 1, nx') :: forb b (rsOf [] i (s5.nx + 1) s6.nx) []) st.nx = false := fun b i nx' => inF_ld (by omega)
              simp [evOp_call, sets, T.get_set, loadE_eq, getC_eq, k3, hld, oracF_cons]
              rw [cxOf_call (by kernel_rfl) (by kernel_rfl), forb_rsOf (by kernel_rfl)]
              refine Gd.mono (writes_fl s6 [] (fun _ _ => rfl) y K (hy.ext hs6) (by omega) (fun _ _ => rfl) _) ?_
              rintro ⟨w3, s7⟩ ⟨hw3, x7⟩
              simp only at hw3 x7
              have l7 : s6.nx ≤ s7.nx := x7.le
              have hs7 : Ext st.nx st s7 := hs6.trans (x7.mono (by omega))
              simp [evOp_call, sets, T.get_set, oracF_cons]
              rw [cxOf_call (by kernel_rfl) (by kernel_rfl), forb_rsOf2 (by kernel_rfl) (by kernel_rfl)]
              refine Gd.mono (equalW_any s7 w2 w3 K K (hw2.ext x7) hw3 (by omega) _) ?_
              rintro _ rfl
              have hz7 : RdRow s7 z 1 (putR n K).length (wv (putR n K)) := ((hz4.ext x5).ext ((Ext.refl s5.nx s5).new (Nat.le_refl _) _)).ext x6 |>.ext x7
              simp [evOp_call, sets, T.get_set, hz7.lenS]
              by_cases c1 : i < 0
              · simp [evOp_call, sets, T.get_set, show ¬ 0 ≤ i by omega, hz7.lenS]
                exact ⟨_, _, rfl, by simp [T.get_set], by simp [T.get_set], hs7⟩
              · obtain ⟨k, rfl⟩ := Int.eq_ofNat_of_zero_le (show 0 ≤ i by omega)
                by_cases c2 : k < (putR n K).length
                · have c2' : (k : Int) < (putR n K).length := by omega
                  by_cases c3 : k = 1
                  · subst c3
                    have c2'' : (1 : Int) < (putR n K).length := by omega
                    simp [evOp_call, sets, T.get_set, c2, c2', c2'', hz7.lenS]
                    exact ⟨_, _, rfl, by simp [T.get_set], by simp [T.get_set], hs7⟩
                  · have c3' : ¬ (k : Int) = 1 := by omega
                    by_cases c4 : v = 0#64
                    · simp [evOp_call, sets, T.get_set, c2, c2', c3, c3', c4, hz7.lenS]
                      exact ⟨_, _, rfl, by simp [T.get_set], by simp [T.get_set], hs7⟩
                    · simp [evOp_call, sets, T.get_set, c2, c2', c3, c3', c4, hz7.lenS]
                      rw [evOp_build0 (fun k => el30 k) (fun k => ze31 k) rfl]
                      simp [T.get_set]
                      have d2 : ∀ w, Ext s7.nx s7 ⟨s7.nx + 1, s7.h.set s7.nx w⟩ := fun w => (Ext.refl _ _).new (Nat.le_refl _) w
                      refine Gd_append0 un30 un30 io31 (by decide) (T.get_set_same _ _ _) hz7.notS (fun k => hz7.len k) (fun k => (hz7.ext (d2 _)).firsts k) hz7.1 (by omega) (fun h0 => by omega) fun _ => ?_
                      simp [T.get_set]
                      have d3 := (d2 (.cs 31 0 .lf)).new (Nat.le_succ _) (.cs 31 (putR n K).length (sets (wv (putR n K)) 0 .lf))
                      have hown7 : OwnRow s7.nx ⟨s7.nx + 1 + 1, (s7.h.set s7.nx (.cs 31 0 .lf)).set (s7.nx + 1) (.cs 31 (putR n K).length (sets (wv (putR n K)) 0 .lf))⟩ (.sg (s7.nx + 1) 0 (putR n K).length 1) 1 (putR n K).length (wv (putR n K)) := by
                        refine ⟨by simp, .inr ⟨s7.nx + 1, 31, sets (wv (putR n K)) 0 .lf, rfl, Nat.le_succ _, Nat.lt_succ_self _, ?_, by decide, fun j v hj => ?_⟩⟩
                        · rw [Nat.mul_one]; exact T.get_set_same _ _ _
                        · have hjl := lt_of_get hj
                          rw [get_sets, if_pos ⟨Nat.zero_le _, by omega⟩]
                          simpa using hj
                      have hs8 := hs7.trans (d3.mono (by omega))
                      generalize hgen : (⟨s7.nx + 1 + 1, (s7.h.set s7.nx (.cs 31 0 .lf)).set (s7.nx + 1) (.cs 31 (putR n K).length (sets (wv (putR n K)) 0 .lf))⟩ : St) = s8 at hown7 hs8 d3 ⊢
                      obtain ⟨m2, ty2, tr2, hm2e, hb2, hm2, hg2, hro2, hc2, hput⟩ := OwnRow.put2 hown7 (i := k) c2
                      injection hm2e with hm2e
                      have hw0 : tr2.get k = some (wd (wat (putR n K) k)) := hc2 _ _ (wv_get (wat_get c2))
                      have c2s : k + 1 ≤ (putR n K).length := c2
                      rw [← hm2e] at hm2 hg2 hput
                      have hp2 := hput s8 hm2 (wd (wat (putR n K) k ^^^ v))
                      have hwv : (wv (putR n K)).set k (wd (wat (putR n K) k ^^^ v)) = wv ((putR n K).set k (wat (putR n K) k ^^^ v)) := by unfold wv; rw [List.map_set]
                      rw [hwv] at hp2
                      have hs9 : ∀ w, Ext st.nx st ⟨s8.nx, s8.h.set (s7.nx + 1) w⟩ := fun w => hs8.set (m := s7.nx + 1) (by omega) hm2 w
                      simp [evOp_call, sets, T.get_set, c2, loadE_eq, getC_eq, hg2, hw0, putB_eq, hro2, c2s, oracF_cons]
                      refine Gd.mono (rdget_any _ _ ((putR n K).set k (wat (putR n K) k ^^^ v)) (by rw [List.length_set]; exact hp2.rd) (OwnRow.cap hp2) (by rw [List.length_set]; omega) _) ?_
                      rintro ⟨r, s10⟩ ⟨w4, hr, hw4, _, x10⟩
                      simp only at hr hw4 x10
                      rw [show decide (getOk ((putR n K).set k (wat (putR n K) k ^^^ v))) = false from decide_eq_false (getOk_alt hf c2 c3 c4)] at hr
                      subst hr
                      have hw4o := hw4.one
                      have l10 : s8.nx ≤ s10.nx := x10.le
                      have hs10 : Ext st.nx st s10 := (hs9 _).trans (x10.mono hs8.le)
                      simp [evOp_call, sets, T.get_set, newC_is, storeK_g, putB_eq, roT, hw4o]
                      exact ⟨_, _, rfl, by simp [T.get_set], by simp [T.get_set], hs10.new (by have := hs10.le; omega) _⟩
                · have c2' : ¬ (k : Int) < (putR n K).length := by omega
                  simp [evOp_call, sets, T.get_set, c2, c2', hz7.lenS]
                  exact ⟨_, _, rfl, by simp [T.get_set], by simp [T.get_set], hs7⟩
            · have hpr : putR n K = [] := by unfold putR; rw [if_neg hf]
              simp [evOp_call, T.get_set, hpr]
              exact ⟨_, _, rfl, by simp [T.get_set], by simp [T.get_set], hs1⟩
          · rintro _ ⟨en, s2, rfl, g4, g5, hs2⟩
            have ha2 := ha.ext hs2
            have hb2 := hb.ext hs2
            simp [evOp_call, T.get_set, g4, g5, oracF_cons]
            refine Gd.mono (sdiff_any s2 a b A B ha2 hb2 (by omega) _) ?_
            rintro ⟨r, s3⟩ ⟨w, hr, hw, x3⟩
            simp only at hr hw x3
            subst hr
            have ha3 := ha2.ext x3
            have hb3 := hb2.ext x3
            by_cases hab : A.length = B.length
            · have hw' := hw hab
              have hle := sameN_le A B B.length
              simp [evOp_call, T.get_set, g4, g5, ha3.lenS, hb3.lenS, hab, oracF_cons]
              refine Gd.mono (do_any s3 a w A (sameN A B B.length) ha3 (by omega) hw' (by omega) _) ?_
              rintro ⟨u, s4⟩ ⟨hu, _, x4⟩
              simp only at hu x4
              rw [do_same hab, hab] at hu
              simp [evOp_call, T.get_set, g4, g5, oracF_cons]
              refine Gd.mono (sameR s4 u b B B hu (hb3.ext x4) (by omega) _) ?_
              rintro _ rfl
              simp [evOp_call, T.get_set]
            · have hab' : ¬ (A.length : Int) = B.length := by omega
              simp [evOp_call, T.get_set, g4, g5, ha3.lenS, hb3.lenS, hab, hab']
theorem w_RedoBack (n0 : Int) (K0 : List (Int × Int)) (R0 : List Int) (i v : Int) (A0 B0 : List Int) (W : World) (y : Value) (hy : InRow W y 2 K0.length (prs K0)) (hn : (Lit.int .u64 n0).wf = true) (hw2 : ∀ r ∈ K0, (Lit.int .i64 r.1).wf = true ∧ (Lit.int .u64 r.2).wf = true)
    (x : Value) (hx : InRow W x 1 R0.length (R0.map fun v => V.int .u64 v)) (hwx : ∀ r ∈ R0, (Lit.int .u64 r).wf = true) (_ : -9223372036854775808 ≤ i ∧ i ≤ 9223372036854775807) (hv : (Lit.int .u64 v).wf = true)
    (a : Value) (ha : InRow W a 1 A0.length (A0.map fun v => V.int .u64 v)) (hwa : ∀ r ∈ A0, (Lit.int .u64 r).wf = true) (b : Value) (hb : InRow W b 1 B0.length (B0.map fun v => V.int .u64 v)) (hwb : ∀ r ∈ B0, (Lit.int .u64 r).wf = true) :
    Calls Try.prog 20 #[.agg #[.int .u64 n0, y], x, .int .i64 i, .int .u64 v, a, b] W fun e W' => e = .returned (.bool true) ∧ Below W.heap.size W W' := by
  obtain ⟨K, hK, hm2, _⟩ := iw_of hw2
  rw [hm2, ← hK] at hy
  obtain ⟨R, hR, hmR⟩ := wv_of hwx
  rw [hmR, ← hR] at hx
  obtain ⟨A, hA, hmA⟩ := wv_of hwa
  rw [hmA, ← hA] at ha
  obtain ⟨B, hB, hmB⟩ := wv_of hwb
  rw [hmB, ← hB] at hb
  obtain ⟨m, rfl, hlt⟩ := u64_nat hn
  obtain ⟨q, rfl, hq⟩ := u64_nat hv
  obtain ⟨st1, ρ1, v1, b1, _, r1, _, k1⟩ := (Begin.zero W).row hy
  obtain ⟨st2, ρ2, v2, b2, g2, r2, e2, k2⟩ := b1.row hx
  obtain ⟨st3, ρ3, v3, b3, g3, r3, e3, k3⟩ := b2.row ha
  obtain ⟨st4, ρ4, v4, b4, g4, r4, e4, k4⟩ := b3.row hb
  have hrel : Rel ρ4 (.g [wd (BitVec.ofInt 64 (m : Int)), v1]) (.agg #[.int .u64 (m : Int), y]) := by
    have hone := k1.one
    rw [← wd_lit (by omega) (by omega)]
    simp only [Rel]
    exact ⟨_, rfl, .cons (rel_int _ _) (.cons (Rel.mono g4 _ _ (Rel.mono g3 _ _ (Rel.mono g2 _ _ r1))) .nil), by simp [hone]⟩
  exact law_calls (lawC_sound namesOkR mixesR Try.func92 rfl redoAwake) b4 (.cons hrel (.cons (Rel.mono g4 _ _ (Rel.mono g3 _ _ r2)) (.cons (rel_int _ _) (.cons (by rw [← wd_lit (n := (q : Int)) (by omega) (by omega)]; exact rel_int _ _) (.cons (Rel.mono g4 _ _ r3) (.cons r4 .nil))))))
    (g_RedoBack st4 (BitVec.ofInt 64 m) v1 K (((k1.ext e2).ext e3).ext e4) v2 R ((k2.ext e3).ext e4) i (BitVec.ofInt 64 q) v3 v4 A B (k3.ext e4) k4)
end Go.Proofs.Ytenncnbaoejekaa

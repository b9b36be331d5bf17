/-
  The walk of NodeOne.
-/
import Derived.Test.YtenncnbaoejekaaNdC
import Derived.Test.YtenncnbaoejekaaOpn6
import Derived.Test.YtenncnbaoejekaaEc
set_option linter.unusedSimpArgs false
namespace Go.Proofs.Ytenncnbaoejekaa
open Go.RowKit Ev
theorem namesOkN : Ev.namesOk Try.prog = true := by kernel_rfl
theorem mixesN : Try.prog.follows .mixedOrders = true := by kernel_rfl
theorem ranNode : Ev.yesQ Try.prog 100000 67 = true := by kernel_rfl
theorem nodeAwake (W : World) : Calls Try.prog 67 #[] W fun e W' => e = .returned (.bool true) ∧ Below W.heap.size W W' := Ev.yesQ_ok namesOkN mixesN ranNode W
set_option maxRecDepth 20000 in
set_option maxHeartbeats 8000000 in
theorem g_NodeOne (st : St) (N : Nd) (y : V) (hy : RdRow st y 2 N.R.length (pairs N.R)) (i : Int) (v : BitVec 64) :
    Gd (lawC Try.prog 67 ⟨false, [], 0, 0⟩ 15 [ndV N y, .int .i64 i, wd v] st) fun r => r.1 = .bool true := by
  rw [Gd_lawC Try.func15 rfl]
  have hcell : ∀ k : List V → Res, cellsOf (ndV N y) k = k [.int .i64 N.t, .int .i64 N.l, .int .i64 N.s, y] := fun k => rfl
  have hnd : V.g [.int .i64 N.t, .int .i64 N.l, .int .i64 N.s, y] = ndV N y := rfl
  rw [show sets [ndV N y, V.int .i64 i, wd v] 0 T.lf = ((T.set .lf 0 (ndV N y)).set 1 (.int .i64 i)).set 2 (wd v) from rfl]
  simp [hcell, evOp_call, sets, T.get_set, newC_is, loadE_eq, getC_eq, getsB_succ, getsB_zero, oracF_cons]
  rw [hnd]
  refine Gd.mono (nput_any _ N y (hy.ext (bx_ext st _)) _) ?_
  rintro ⟨z, s1⟩ ⟨hz, hzo, x1⟩
  simp only at hz hzo x1
  have l1 : st.nx < s1.nx := x1.le
  have hs1 : Ext st.nx st s1 := (bx_ext st _).trans (x1.mono (Nat.le_succ _))
  have k0 : s1.h.get st.nx = _ := (x1.keep _ (Nat.lt_succ_self _)).trans (T.get_set_same _ _ _)
  by_cases hf : fitsN N
  · have hl8 : (putN N).length = 8 := by rw [putN_len, if_pos hf]
    by_cases ht : N.t = 0
    · simp [evOp_call, T.get_set, hz.lenS, hl8, loadE_eq, getC_eq, k0, ht]
    · have hT : fitsT N := by unfold fitsN at hf; rw [if_neg ht] at hf; exact hf
      by_cases a1 : i < 0
      · simp [evOp_call, T.get_set, hz.lenS, hl8, loadE_eq, getC_eq, k0, ht, a1]
      · by_cases a2 : 7 < i
        · simp [evOp_call, T.get_set, hz.lenS, hl8, loadE_eq, getC_eq, k0, ht, a1, a2]
        · by_cases a3 : v = 0#64
          · simp [evOp_call, T.get_set, hz.lenS, hl8, loadE_eq, getC_eq, k0, ht, a1, a2, a3]
          · obtain ⟨n, rfl⟩ := Int.eq_ofNat_of_zero_le (show 0 ≤ i by omega)
            have hn : n < 8 := by omega
            have hzs := hzo hf
            have hcap : CapOk z := by
              obtain ⟨_, m, _, _, rfl, _⟩ := hzs
              intro m o l q e
              injection e with _ _ e1 e2
              omega
            simp [evOp_call, T.get_set, hz.lenS, hl8, loadE_eq, getC_eq, k0, ht, a1, a2, a3, oracF_cons]
            refine Gd.mono (nget_any s1 z (putN N) hz hcap _) ?_
            rintro ⟨r, s2⟩ ⟨⟨w, hr, hw, hwm, _⟩, x2⟩
            simp only at hr hw hwm x2
            have hO : ndOf (putN N) = N := by unfold ndOf; rw [getNd_put hf]; rfl
            rw [hO] at hw hr
            rw [getNd_put hf] at hr
            subst hr
            have hwone := hw.one
            have l2 := x2.le
            have k1 : s2.h.get st.nx = _ := (x2.keep _ l1).trans k0
            have ne2 : ¬ s2.nx = st.nx := by omega
            simp [ndV, evOp_call, sets, T.get_set, newC_is, storeK_g, putB_eq, roT]
            refine ⟨by kernel_rfl, ?_⟩
            simp [evOp_call, sets, T.get_set, loadE_eq, getC_eq, getsB_succ, getsB_zero, k1, ne2]
            rw [oracF_cons]
            rw [cxOf_callL [(st.nx, st.nx + 1)] (by kernel_rfl) (by kernel_rfl) (looseW_at 3 (.p st.nx 0) (by simp [T.get_set]) (by kernel_rfl)) (fun x hx => by simp at hx; subst hx; simp [clashes_tmp, T.get_set, blkOf])]
            simp only [forb_nil, List.append_nil]
            have hxb := bx_ext s2 (.cs 96 4 ((((((((T.lf.set 0 (.int .i64 0)).set 1 (.int .i64 0)).set 2 (.int .i64 0)).set 3 (.c (.slice none 0 0))).set 0 (.int .i64 N.t)).set 1 (.int .i64 N.l)).set 2 (.int .i64 N.s)).set 3 w))
            have hw3 := hw.ext hxb
            generalize hS : (⟨s2.nx + 1, _⟩ : St) = s3 at hxb hw3 ⊢
            have l3 := hxb.le
            have n3 : s3.nx = s2.nx + 1 := by rw [← hS]
            have k3 : s3.h.get st.nx = _ := (hxb.keep _ (by omega)).trans k1
            have hy3 : RdRow s3 y 2 N.R.length (pairs N.R) := (((hy.ext hs1).ext x2).ext hxb)
            refine Gd.mono (inode_fl s3 [(st.nx, st.nx + 1)] (fun k hk => by rw [inF_cons, if_neg (by omega)]; rfl) N w hw3 (by have := hT.2.2.2.1; omega) (fun m hm => by have := hwm m hm; rw [inF_cons, if_neg (by omega)]; rfl) _) ?_
            rintro ⟨r, s4⟩ ⟨⟨u, hr, hu, _⟩, x4⟩
            simp only at hr hu x4
            subst hr
            have l4 := x4.le
            have k4 : s4.h.get st.nx = _ := (x4.keep _ (by omega)).trans k3
            have hld : ∀ (b i nx' : Nat), inF ((0, st.nx) :: (st.nx + 1, nx') :: forb b (rsOf [] i (s2.nx + 1) s4.nx) []) st.nx = false := fun b i nx' => inF_ld (by omega)
            simp [evOp_call, sets, T.get_set, loadE_eq, getC_eq, getsB_succ, getsB_zero, k4, hld, oracF_cons]
            rw [hnd, cxOf_call (by kernel_rfl) (by kernel_rfl), forb_rsOf (by kernel_rfl)]
            have hy4 := hy3.ext x4
            refine Gd.mono (inode_fl s4 [] (fun _ _ => rfl) N y hy4 (by have := hT.2.2.2.1; omega) (fun _ _ => rfl) _) ?_
            rintro ⟨r, s5⟩ ⟨⟨u2, hr, hu2, _⟩, x5⟩
            simp only at hr hu2 x5
            subst hr
            simp [evOp_call, sets, T.get_set, oracF_cons]
            rw [cxOf_call (by kernel_rfl) (by kernel_rfl), forb_rsOf2 (by kernel_rfl) (by kernel_rfl)]
            refine Gd.mono (nodes_any s5 N N u u2 (hu.ext x5) hu2 (by have := hT.2.2.2.1; omega) _) ?_
            rintro ⟨r, s6⟩ ⟨hr, x6⟩
            simp only at hr x6
            subst hr
            have hzs6 : SlRow (st.nx + 1) s6 z 8 (putN N) := ((((hzs.ext x2).ext hxb).ext x4).ext x5).ext x6
            obtain ⟨m2, ty2, tr2, rfl, hb2, hm2, hg2, hro2, hc2, hput⟩ := hzs6.put (i := n) hn
            have hw0 : tr2.get n = some (wd (wat (putN N) n)) := hc2 _ _ (wat_get (by rw [hl8]; exact hn))
            have hn1 : n + 1 ≤ 8 := hn
            simp [evOp_call, sets, T.get_set, hn, loadE_eq, getC_eq, hg2, hw0, putB_eq, hro2, hn1, oracF_cons]
            have hp7 : SlRow (st.nx + 1) ⟨s6.nx, s6.h.set m2 (.cs ty2 8 (tr2.set n (wd (wat (putN N) n ^^^ v))))⟩ (.sl m2 0 8 8) 8 ((putN N).set n (wat (putN N) n ^^^ v)) := hput _
            refine Gd.mono (nget_any _ _ _ (by rw [List.length_set, hl8]; exact hp7.rd) hcap _) ?_
            rintro ⟨r, s7⟩ ⟨⟨w7, hr, _, _, _⟩, x7⟩
            simp only at hr x7
            have hO7 : getNd ((putN N).set n (wat (putN N) n ^^^ v)) = none := getNd_alt v hT a3 hn
            have hN7 : ndOf ((putN N).set n (wat (putN N) n ^^^ v)) = noN := by unfold ndOf; rw [hO7]; rfl
            rw [hO7, hN7] at hr
            subst hr
            simp [ndV, evOp_call, sets, T.get_set, newC_is, storeK_g, putB_eq, roT]
  · have hp : putN N = [] := putN_bad hf
    have hl0 : (putN N).length = 0 := by rw [hp]; rfl
    simp [evOp_call, T.get_set, hz.lenS, hl0]
theorem rel_ndV (ρ : Rho) (a b c : Int) (w : V) (x : Value) (R : List (Int × Int)) (h : Rel ρ w x) (hone : w.one = true) : Rel ρ (ndV ⟨a, b, c, R⟩ w) (.agg #[.int .i64 a, .int .i64 b, .int .i64 c, x]) := by
  unfold ndV
  simp only [Rel]
  exact ⟨_, rfl, .cons (rel_int _ _) (.cons (rel_int _ _) (.cons (rel_int _ _) (.cons h .nil))), by simp [hone]⟩
theorem w_NodeOne (a b c : Int) (R : List (Int × Int)) (i v : Int) (W : World) (_ : (Lit.int .i64 a).wf = true) (_ : (Lit.int .i64 b).wf = true) (_ : (Lit.int .i64 c).wf = true) (x : Value) (hx0 : InRow W x 2 R.length (pairs R) ∧ InCap x) (_ : ∀ r ∈ R, (Lit.int .i64 r.1).wf = true ∧ (Lit.int .i64 r.2).wf = true) (_ : -9223372036854775808 ≤ i ∧ i ≤ 9223372036854775807) (hv : (Lit.int .u64 v).wf = true) :
    Calls Try.prog 15 #[.agg #[.int .i64 a, .int .i64 b, .int .i64 c, x], .int .i64 i, .int .u64 v] W fun e W' => e = .returned (.bool true) ∧ Below W.heap.size W W' := by
  obtain ⟨hx, _⟩ := hx0
  obtain ⟨r, rfl, hr⟩ := u64_nat hv
  obtain ⟨st, ρ, w, hb, _, hw', _, hk⟩ := (Begin.zero W).row hx
  exact law_calls (lawC_sound namesOkN mixesN Try.func67 rfl nodeAwake) hb (.cons (rel_ndV _ a b c _ _ _ hw' hk.one) (.cons (rel_int _ _) (.cons (by rw [← wd_lit (n := (r : Int)) (by omega) (by omega)]; exact rel_int _ _) .nil))) (g_NodeOne st ⟨a, b, c, R⟩ w hk i (BitVec.ofInt 64 r))
end Go.Proofs.Ytenncnbaoejekaa

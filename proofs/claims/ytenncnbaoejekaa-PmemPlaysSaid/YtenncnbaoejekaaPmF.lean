/-
  The walk of PmemPlays.
-/
import Derived.Test.YtenncnbaoejekaaPmE
set_option linter.unusedSimpArgs false
namespace Go.Proofs.Ytenncnbaoejekaa
open Go.RowKit Ev
set_option maxRecDepth 20000 in
set_option maxHeartbeats 16000000 in
theorem g_PmemPlays (st : St) (lines : Int) (x : Nat → V) (L : List ActD) (hx : (rowC actC).at' st x L) :
    Gd (lawC Try.prog 23 ⟨false, [], 0, 0⟩ 3 [.int .i64 lines, x 0] st) fun r => r.1 = .bool true := by
  rw [Gd_lawC Try.func3 rfl]
  by_cases c1 : lines < 1
  · simp [evOp_call, sets, T.get_set, oracF_cons]
    refine Gd.mono (mnew_bad st lines (.inl c1) _) ?_
    rintro _ rfl
    simp [evOp_call, sets, T.get_set, c1]
  by_cases c2 : 1024 < lines
  · simp [evOp_call, sets, T.get_set, oracF_cons]
    refine Gd.mono (mnew_bad st lines (.inr c2) _) ?_
    rintro _ rfl
    simp [evOp_call, sets, T.get_set, c1, c2]
  obtain ⟨n, rfl⟩ := Int.eq_ofNat_of_zero_le (show 0 ≤ lines by omega)
  simp [evOp_call, sets, T.get_set, oracF_cons]
  refine Gd.mono (mnew_any st n ⟨by omega, by omega⟩ _) ?_
  rintro ⟨r, s0⟩ ⟨q, v, hr, hv, hva⟩
  simp only at hr hv
  subst hr
  by_cases c3 : (60 : Int) < L.length
  · simp [evOp_call, sets, T.get_set, c1, c2, c3, rowC_len hx]
  by_cases c4 : (8 : Int) < n
  · simp [evOp_call, sets, T.get_set, c1, c2, c3, c4, rowC_len hx]
  have c4n : ¬ 8 < n := by omega
  obtain ⟨n8, hn8⟩ : ∃ n8, n8 = n * 8 := ⟨_, rfl⟩
  have w8 : IntKind.i64.wrap (8 * (n : Int)) = (n8 : Int) := by rw [show 8 * (n : Int) = (n8 : Int) by omega]; exact wrap_in (by omega) (by omega)
  simp [evOp_call, sets, T.get_set, c1, c2, c3, c4, c4n, rowC_len hx, w8]
  refine Gd_make (i := .i64) (i' := .i64) (n := n8) (q := n8) (fun k => el30 k) io31 (fun k => ze31 k) (by simp [T.get_set]) (by simp [T.get_set]) (Nat.le_refl _) (by omega) ?_
  have hm := SlRow.made (n := n8) (st := s0) (el := 31) (Nat.le_refl s0.nx) (by decide)
  simp [evOp_call, sets, T.get_set, oracF_cons]
  refine Gd.mono (rmfrom_any _ _ (List.replicate n8 0#64) n ⟨by omega, by omega⟩ (by simp [hn8]) (by have := hm.rd; simpa using this) (fun m o l q e => by injection e with e1 e2 e3 e4; omega) _) ?_
  rintro ⟨r, s1⟩ ⟨p, u, hr, hu, hua⟩
  simp only at hr hu
  subst hr
  have hmr : MR st s1 q v p u := MR.make hv (hu.from ((Ext.refl _ _).new (Nat.le_refl _) _))
  have hok0 := fromA_ok (List.replicate (n * 8) 0#64) n
  have hal : Alike st s1 q v p u n 0 := by
    rw [hn8] at hua
    refine ⟨hmr, by rw [hua, hva]; exact Sim.refl _, by rw [hva]; exact hok0.ls, by rw [hva]; exact ⟨hok0.len, by show (0 : Int) ≤ _; omega, hok0.op⟩⟩
  simp [evOp_call, sets, T.get_set]
  refine Gd_loop (ppI st (x 0) n q p L.length) (fun e _ => muAt 8 L.length e) ?_ ?_
  · exact ⟨0, v, u, Nat.zero_le _, by constructor <;> simp [T.get_set], hal⟩
  · clear hal hmr hu hv hva hua
    rintro e s ⟨i, v, u, hi, ⟨g0, g1, g5, g7, g8⟩, hal⟩
    have gE := g8
    by_cases hlt : i < L.length
    · have hlt' : (i : Int) < L.length := by omega
      have hwi := wrap_nat (n := i) (by omega)
      obtain ⟨a, ha⟩ : ∃ a, L[i]? = some a := ⟨_, List.getElem?_eq_getElem hlt⟩
      obtain ⟨m1, o1, ty1, sz1, t1, z1, i1, b1, hk1, d1, ha1⟩ := rowC_old (c := actC) un22 io34 hx ha
      obtain ⟨p0, p1, p2, p3, p4, p5⟩ := actC_at ha1
      have e0 : t1.get o1 = some (.int .i64 a.1) := (d1 0 (by decide)).trans (by rw [p0])
      have e1 : t1.get (o1 + 1) = some (.int .i64 a.2.1) := (d1 1 (by decide)).trans (by rw [p1])
      have e2 : t1.get (o1 + 2) = some (wd a.2.2.1) := (d1 2 (by decide)).trans (by rw [p2])
      have e3 : t1.get (o1 + 3) = some (z1 3) := d1 3 (by decide)
      have k1 := hk1 s hal.mr.a.ext
      have hls := rowC_len p3 st
      simp [evOp_call, T.get_set, g0, g1, g5, g7, g8, rowC_len hx, hlt', i1, loadE_eq, getC_eq, k1, e0, e1, e2, e3, getsB_succ, getsB_zero, newC_is, storeK_g, putB_eq, roT, sets, cellsOf, hwi]
      obtain ⟨tb, htb⟩ : ∃ tb, tb = (((((((((T.lf : T V).set 0 (V.int .i64 0)).set 1 (V.int .i64 0)).set 2 (V.int .u64 0)).set 3 (V.c (.slice none 0 0))).set 0 (.int .i64 a.1)).set 1 (.int .i64 a.2.1)).set 2 (wd a.2.2.1)).set 3 (z1 3)) := ⟨_, rfl⟩
      rw [← htb]
      obtain ⟨sb, hsb⟩ : ∃ sb : St, sb = ⟨s.nx + 1, s.h.set s.nx (.cs 34 4 tb)⟩ := ⟨_, rfl⟩
      rw [← hsb]
      have u0 : tb.get 0 = some (.int .i64 a.1) := by simp [htb, T.get_set]
      have u1 : tb.get 1 = some (.int .i64 a.2.1) := by simp [htb, T.get_set]
      have u2 : tb.get 2 = some (wd a.2.2.1) := by simp [htb, T.get_set]
      have u3 : tb.get 3 = some (z1 3) := by simp [htb, T.get_set]
      have hex : Ext s.nx s sb := by rw [hsb]; exact (Ext.refl s.nx s).new (Nat.le_refl _) _
      have hpx : PX st sb q v p u s.nx tb := ⟨hal.mr.more hex, by rw [hsb]; exact T.get_set_same _ _ _, fun e => by have := hal.mr.a.at'.own_lt e; omega, fun e => by have := hal.mr.b.at'.own_lt e; omega, by rw [hsb]; exact Nat.lt_succ_self _⟩
      have hls : lenS sb (z1 3) = some (.int .i64 (a.2.2.2.length : Int), sb) := rowC_len p3 sb
      have hlr := rowC_ints p3
      have hsim := hal.sim
      have hokl := hal.ok
      have hsz := hal.sz
      obtain ⟨hur, huf, huo, hup⟩ := hal.u
      obtain ⟨hvr, hvf, hvo⟩ := hal.sz.v
      refine opsK_join (ppA sb (x 0) n q p i s.nx (decide ((20 : Int) < a.2.2.2.length))) ?_ ?_
      · rw [hls]
        simp [evOp_call, T.get_set]
        exact ⟨_, rfl, by constructor <;> simp [T.get_set, g0, g1, g5, g7, g8], by simp [T.get_set], by simp [T.get_set]⟩
      have hstn : st.nx ≤ s.nx := hal.mr.a.ext.le
      clear hal htb hsb k1 hex
      generalize s.nx = nb at *
      rintro _ ⟨en, rfl, hep, h9, h75⟩
      rw [seqC_n]
      by_cases c5 : (20 : Int) < a.2.2.2.length
      · rw [decide_eq_true c5] at h75
        simp [evOp_call, T.get_set, h75]
      rw [decide_eq_false c5] at h75
      refine Gd.mono (Q := fun r => r = (.n, en, sb)) (by simp [h75]) ?_
      rintro _ rfl
      rw [seqC_n]
      refine Gd_seq_join (ppB sb (x 0) n q p i nb) ?_ ?_
      · obtain ⟨g0, g1, g5, g7, g8⟩ := hep
        simp [evOp_call, T.get_set]
        exact ⟨_, rfl, by constructor <;> simp [T.get_set, g0, g1, g5, g7, g8], by simp [T.get_set, h9], by simp [T.get_set]⟩
      clear hep h9 h75 en
      rintro _ ⟨en, rfl, hep, h9, h10⟩
      rw [seqC_n]
      refine Gd_seq_join (ppJ st (x 0) n q p i nb tb) ?_ ?_
      · obtain ⟨g0, g1, g5, g7, g8⟩ := hep
        have fin : ∀ (en2 : Env) (s2 : St) (v2 : MV) (u2 : RV), EP (x 0) n q p i en2 → en2.get 9 = some (.p nb 0) → en2.get 10 = some (.bool true) → PX st s2 q v2 p u2 nb tb → Sim (absV v2) (absR u2) → okLs (absV v2).L n → szB (absV v2) n (i + 1) → ppJ st (x 0) n q p i nb tb (.n, en2, s2) := fun en2 s2 v2 u2 h1 h2 h3 h4 h5 h6 h7 => ⟨en2, s2, v2, u2, rfl, h1, h2, h3, h4, h5, h6, h7⟩
        have hxa := hpx.mr.a.row hlr.1
        have hxn : ∀ k, Nm (z1 3) k → ¬ RMOw p u k := fun k hk e => by have := hlr.1.nm_lt hk; have := hpx.mr.b.own k e; omega
        by_cases c0 : a.1 = 0
        · have hfln : ∀ k, sb.nx ≤ k → inF [(nb, nb + 1), (nb, nb + 1)] k = false := fun k hk => by have := hpx.lt; rw [inF_cons, if_neg (by omega), inF_cons, if_neg (by omega)]; rfl
          have hflo : ∀ k, MOw q v k → inF [(nb, nb + 1), (nb, nb + 1)] k = false := fun k hk => by
            have hkn : k ≠ nb := fun e => hpx.nv (by rw [← e]; exact hk)
            rw [inF_cons, if_neg (by omega), inF_cons, if_neg (by omega)]; rfl
          simp [evOp_call, T.get_set, h9, g5, g7, loadE_eq, getC_eq, hpx.box, u0, c0]
          refine ⟨by kernel_rfl, ?_⟩
          simp [evOp_call, T.get_set, h9, g5, g7, loadE_eq, getC_eq, hpx.box, u0, u1, u2, c0, oracF_cons]
          rw [cxOf_callL [(nb, nb + 1), (nb, nb + 1)] (by kernel_rfl) (by kernel_rfl) (looseW_at 9 (.p nb 0) (by simp [T.get_set, h9]) (by kernel_rfl)) (fun x hx => by
            simp at hx
            have hwd : blkOf (wd a.2.2.1) = none := rfl
            rcases hx with rfl | rfl | rfl
            · simp [clashes_tmp, T.get_set, blkOf, hflo q (.inl rfl)]
            · simp [clashes_tmp, T.get_set, blkOf]
            · simp [clashes_tmp, T.get_set, hwd]) (fun p hp => by simp at hp; subst hp; simp [isRo_cs hpx.box, roT])]
          simp only [forb_nil, List.append_nil]
          refine Gd.mono (mstore_fl sb q v hpx.mr.a.at' a.2.1 a.2.2.1 p5 hvf (by omega) (fun r hr => by have := hvo r hr; omega) _ hfln hflo _) ?_
          rintro ⟨r, s2⟩ ⟨hr, v2, hs2, ha2⟩
          simp only at hr hs2
          subst hr
          have hp2 := hpx.left hs2
          have hld : ∀ b, inF ((0, nb) :: (nb + 1, s2.nx) :: forb b (rsOf [] 5 sb.nx s2.nx) []) nb = false := fun b => inF_lds (rsOf_lt (fun e h => by cases h) hpx.lt)
          simp [evOp_call, T.get_set, h9, g5, g7, loadE_eq, getC_eq, hp2.box, u1, u2, hld, oracF_cons]
          rw [cxOf_call (by kernel_rfl) (by kernel_rfl), forb_step (by kernel_rfl) rfl]
          refine Gd.mono (rmstore_any s2 p u hp2.mr.b.at' a.2.1 a.2.2.1 p5 huf (by omega) (fun r hr => by have := huo r hr; omega) _) ?_
          rintro ⟨r, s3⟩ ⟨hr, u2', hs3, hb3⟩
          simp only at hr hs3
          subst hr
          have hp3 := hp2.right hs3
          obtain ⟨hsm, hE⟩ := hsim.store a.2.1 a.2.2.1
          simp [evOp_call, T.get_set, hE]
          exact fin _ s3 v2 u2' (by constructor <;> simp [T.get_set, g0, g1, g5, g7, g8]) (by simp [T.get_set, h9]) (by simp [T.get_set]) hp3 (by rw [ha2, hb3]; exact hsm) (by rw [ha2]; exact hokl.store _ _) (by rw [ha2]; exact hsz.store _ _)
        by_cases c1' : a.1 = 1
        · have hfln : ∀ k, sb.nx ≤ k → inF [(nb, nb + 1)] k = false := fun k hk => by have := hpx.lt; rw [inF_cons, if_neg (by omega)]; rfl
          have hflo : ∀ k, MOw q v k → inF [(nb, nb + 1)] k = false := fun k hk => by
            have hkn : k ≠ nb := fun e => hpx.nv (by rw [← e]; exact hk)
            rw [inF_cons, if_neg (by omega)]; rfl
          have hflx : ∀ k, Nm (z1 3) k → inF [(nb, nb + 1)] k = false := fun k hk => by
            have := hlr.1.nm_lt hk
            rw [inF_cons, if_neg (by omega)]; rfl
          have hblk := blk_lt (fl := [(nb, nb + 1)]) hlr.1 (fun k hk => by rw [inF_cons, if_neg (by omega)]; rfl)
          simp [evOp_call, T.get_set, h9, g5, g7, loadE_eq, getC_eq, hpx.box, u0, c1']
          refine ⟨by kernel_rfl, ?_⟩
          simp [evOp_call, T.get_set, h9, g5, g7, loadE_eq, getC_eq, hpx.box, u0, u3, c1', oracF_cons]
          rw [cxOf_callL [(nb, nb + 1)] (by kernel_rfl) (by kernel_rfl) (looseW_at 9 (.p nb 0) (by simp [T.get_set, h9]) (by kernel_rfl)) (fun x hx => by
            simp at hx
            rcases hx with rfl | rfl
            · simp [clashes_tmp, T.get_set, blkOf, hflo q (.inl rfl)]
            · simp only [clashes_tmp, T.get_set]; simpa using hblk) (fun p hp => by simp at hp; subst hp; simp [isRo_cs hpx.box, roT])]
          simp only [forb_nil, List.append_nil]
          refine Gd.mono (mflush_fl sb q v hpx.mr.a.at' (z1 3) a.2.2.2 hxa.1 hxa.2 (by omega) hvf (by omega) _ hfln hflo hflx _) ?_
          rintro ⟨r, s2⟩ ⟨hr, v2, hs2, ha2⟩
          simp only at hr hs2
          subst hr
          have hp2 := hpx.left hs2
          have hx2 : RdRow s2 (z1 3) 1 a.2.2.2.length (ivs a.2.2.2) := hlr.1.ext hp2.mr.b.ext
          have hld : ∀ b, inF ((0, nb) :: (nb + 1, s2.nx) :: forb b (rsOf [] 3 sb.nx s2.nx) []) nb = false := fun b => inF_lds (rsOf_lt (fun e h => by cases h) hpx.lt)
          simp [evOp_call, T.get_set, h9, g5, g7, loadE_eq, getC_eq, hp2.box, u3, hld, oracF_cons]
          rw [cxOf_call (by kernel_rfl) (by kernel_rfl), forb_step (by kernel_rfl) rfl]
          refine Gd.mono (rmflush_any s2 p u hp2.mr.b.at' (z1 3) a.2.2.2 hx2 hxn (by omega) huf (by omega) _) ?_
          rintro ⟨r, s3⟩ ⟨hr, u2', hs3, hb3⟩
          simp only at hr hs3
          subst hr
          have hp3 := hp2.right hs3
          obtain ⟨hsm, hE⟩ := hsim.flush a.2.2.2
          simp [evOp_call, T.get_set, hE]
          exact fin _ s3 v2 u2' (by constructor <;> simp [T.get_set, g0, g1, g5, g7, g8]) (by simp [T.get_set, h9]) (by simp [T.get_set]) hp3 (by rw [ha2, hb3]; exact hsm) (by rw [ha2]; exact hokl.flush _) (by rw [ha2]; exact (hsz.flush _).mono (Nat.le_succ _))
        by_cases c2' : a.1 = 2
        · simp [evOp_call, T.get_set, h9, g5, g7, loadE_eq, getC_eq, hpx.box, u0, c2', oracF_cons]
          refine Gd.mono (mfence_any sb q v hpx.mr.a.at' hvf (by omega) _) ?_
          rintro ⟨r, s2⟩ ⟨hr, v2, hs2, ha2⟩
          simp only at hr hs2
          subst hr
          have hp2 := hpx.left hs2
          simp [evOp_call, T.get_set, g5, g7, oracF_cons]
          refine Gd.mono (rmfence_any s2 p u hp2.mr.b.at' huf (by omega) _) ?_
          rintro ⟨r, s3⟩ ⟨hr, u2, hs3, hb3⟩
          simp only at hr hs3
          subst hr
          have hp3 := hp2.right hs3
          obtain ⟨hsm, hE⟩ := hsim.fence
          simp [evOp_call, T.get_set, hE]
          exact fin _ s3 v2 u2 (by constructor <;> simp [T.get_set, g0, g1, g5, g7, g8]) (by simp [T.get_set, h9]) (by simp [T.get_set]) hp3 (by rw [ha2, hb3]; exact hsm) (by rw [ha2]; exact hokl.fence) (by rw [ha2]; exact hsz.fence.mono (Nat.le_succ _))
        by_cases c3' : a.1 = 3
        · simp [evOp_call, T.get_set, h9, g5, g7, loadE_eq, getC_eq, hpx.box, u0, u3, c3', oracF_cons]
          refine Gd.mono (mcrash_any sb q v hpx.mr.a.at' (z1 3) a.2.2.2 (fun st' v' hs _ _ => (hxa.step hs).1) (by omega) _) ?_
          rintro ⟨r, s2⟩ ⟨hr, hs2⟩
          simp only at hr hs2
          subst hr
          have hp2 := hpx.left hs2
          have hx2 : RdRow s2 (z1 3) 1 a.2.2.2.length (ivs a.2.2.2) := hlr.1.ext hp2.mr.b.ext
          simp [evOp_call, T.get_set, h9, g5, g7, loadE_eq, getC_eq, hp2.box, u3, oracF_cons]
          refine Gd.mono (rmcrash_any s2 p u hp2.mr.b.at' (z1 3) a.2.2.2 (fun st' R' hs => hs.row hx2 hxn) (by omega) _) ?_
          rintro ⟨r, s3⟩ ⟨hr, u2, hs3, hb3⟩
          simp only at hr hs3
          subst hr
          have hp3 := hp2.right hs3
          have hab : absV (if v.off = true then v else v.fell a.2.2.2) = if (absV v).off = true then absV v else (absV v).fell a.2.2.2 := by
            show _ = if v.off = true then _ else _
            split
            · rfl
            · exact abs_fell _ _
          simp [evOp_call, T.get_set]
          exact fin _ s3 _ u2 (by constructor <;> simp [T.get_set, g0, g1, g5, g7, g8]) (by simp [T.get_set, h9]) (by simp [T.get_set, h10]) hp3 (by rw [hab, hb3]; exact hsim.crash _) (by rw [hab]; split; exact hokl; exact hokl.fall _) (by rw [hab]; split; exact hsz.mono (Nat.le_succ _); exact (hsz.fell _).mono (Nat.le_succ _))
        by_cases c4' : a.1 = 4
        · simp [evOp_call, T.get_set, h9, g5, g7, loadE_eq, getC_eq, hpx.box, u0, c4', oracF_cons]
          refine Gd.mono (mon_any sb q v hpx.mr.a.at' _) ?_
          rintro ⟨r, s2⟩ ⟨hr, hs2⟩
          simp only at hr hs2
          subst hr
          have hp2 := hpx.left hs2
          simp [evOp_call, T.get_set, g5, g7, oracF_cons]
          refine Gd.mono (rmon_any s2 p u hp2.mr.b.at' _) ?_
          rintro ⟨r, s3⟩ ⟨hr, hs3⟩
          simp only at hr hs3
          subst hr
          have hp3 := hp2.right hs3
          simp [evOp_call, T.get_set]
          exact fin _ s3 _ _ (by constructor <;> simp [T.get_set, g0, g1, g5, g7, g8]) (by simp [T.get_set, h9]) (by simp [T.get_set, h10]) hp3 hsim.on hokl ⟨hsz.1, hsz.2.1, fun m hm => Nat.le_succ_of_le (hsz.2.2 m hm)⟩
        · simp [evOp_call, T.get_set, h9, g5, g7, loadE_eq, getC_eq, hpx.box, u0, u1, u3, c0, c1', c2', c3', c4', oracF_cons]
          refine Gd.mono (mfuse_any sb q v hpx.mr.a.at' a.2.1 (z1 3) a.2.2.2 hxa.1 (by omega) _) ?_
          rintro ⟨r, s2⟩ ⟨hr, v2, hs2, ha2⟩
          simp only at hr hs2
          subst hr
          have hp2 := hpx.left hs2
          have hx2 : RdRow s2 (z1 3) 1 a.2.2.2.length (ivs a.2.2.2) := hlr.1.ext hp2.mr.b.ext
          simp [evOp_call, T.get_set, h9, g5, g7, loadE_eq, getC_eq, hp2.box, u1, u3, oracF_cons]
          refine Gd.mono (rmfuse_any s2 p u hp2.mr.b.at' a.2.1 (z1 3) a.2.2.2 hx2 (by omega) _) ?_
          rintro ⟨r, s3⟩ ⟨hr, u2, hs3, hb3⟩
          simp only at hr hs3
          subst hr
          have hp3 := hp2.right hs3
          simp [evOp_call, T.get_set]
          exact fin _ s3 _ _ (by constructor <;> simp [T.get_set, g0, g1, g5, g7, g8]) (by simp [T.get_set, h9]) (by simp [T.get_set, h10]) hp3 (by rw [ha2, hb3]; exact hsim.fused _ _) (by rw [ha2]; unfold AS.fused; split; exact hokl; exact hokl) (by rw [ha2]; unfold AS.fused; split; exact hsz.mono (Nat.le_succ _); exact ⟨hsz.1, p5.2, fun m hm => Nat.le_succ_of_le (hsz.2.2 m hm)⟩)
      clear hpx hsim hokl hsz hur huf huo hup hvr hvf hvo hls g0 g1 g5 g7 g8
      rintro _ ⟨en2, s2, v2, u2, rfl, ⟨g0, g1, g5, g7, g8⟩, h9, h10, hp2, hsim2, hok2, hsz2⟩
      rw [seqC_n]
      have hal2 : Alike st s2 q v2 p u2 n (i + 1) := ⟨hp2.mr, hsim2, hok2, hsz2⟩
      obtain ⟨hur2, huf2, huo2, hup2⟩ := hal2.u
      obtain ⟨hvr2, _, _⟩ := hsz2.v
      obtain ⟨hl1, hl2⟩ := hsim2.load a.2.1
      obtain ⟨tu, y1, y2, y3, y4, y5, y6, y7, y8⟩ := hp2.mr.b.at'.blk
      simp [evOp_call, T.get_set, h9, g5, g7, loadE_eq, getC_eq, hp2.box, u1, oracF_cons]
      refine Gd.mono (mload_any s2 q v2 hp2.mr.a.at' a.2.1 p5 _) ?_
      rintro _ rfl
      simp [evOp_call, T.get_set, h9, g5, g7, loadE_eq, getC_eq, hp2.box, u1, oracF_cons]
      refine Gd.mono (rmload_any s2 p u2 hp2.mr.b.at' hup2 a.2.1 p5 (by omega) _) ?_
      rintro _ rfl
      simp [evOp_call, T.get_set, h9, g5, g7, oracF_cons]
      refine Gd.mono (mcount_any s2 q v2 hp2.mr.a.at' _) ?_
      rintro _ rfl
      simp [evOp_call, T.get_set, h10, g5, g7]
      refine ⟨by kernel_rfl, ?_⟩
      simp [evOp_call, T.get_set, h10, g5, g7, hl1, hl2, oracF_cons]
      have hplt := hp2.mr.b.at'.lt
      have hqp : ¬ q = p := fun e => hp2.mr.d q (.inl rfl) (.inl e)
      have hofo : ∀ k, MOw q v2 k → inF [(p, p + 1)] k = false := fun k hk => by
        have hkn : k ≠ p := fun e => hp2.mr.d k hk (.inl e)
        rw [inF_cons, if_neg (by omega)]; rfl
      rw [cxOf_callL [(p, p + 1)] (by kernel_rfl) (by kernel_rfl) (looseW_at 7 (.p p 0) (by simp [T.get_set, g7]) (by kernel_rfl)) (fun x hx => by
        simp at hx
        subst hx
        simp [clashes_tmp, T.get_set, blkOf, hofo q (.inl rfl)]) (fun p hp => by simp at hp; subst hp; simp [isRo_cs y1, roT])]
      simp only [forb_nil, List.append_nil]
      refine Gd.mono (moff_fl s2 q v2 hp2.mr.a.at' _ hofo _) ?_
      rintro _ rfl
      have hof : u2.off = v2.off := hsim2.off
      have hld : ∀ b, inF ((0, p) :: (p + 1, s2.nx) :: forb b (rsOf [] 14 s2.nx s2.nx) []) p = false := fun b => inF_lds (rsOf_lt (fun e h => by cases h) hplt)
      simp [evOp_call, T.get_set, h10, g5, g7, hl1, hl2, loadE_eq, getC_eq, y1, y3, hof, hld, oracF_cons]
      rw [cxOf_call (by kernel_rfl) (by kernel_rfl), forb_nil]
      refine Gd.mono (mwords_any s2 q v2 hp2.mr.a.at' (by omega) _) ?_
      rintro ⟨r, s3⟩ ⟨hr, ex3⟩
      simp only at hr ex3
      have hm3 := hp2.mr.more ex3
      simp [evOp_call, T.get_set, h10, g5, g7, oracF_cons]
      rw [cxOf_call (by kernel_rfl) (by kernel_rfl), forb_step (by kernel_rfl) rfl]
      refine Gd.mono (rmwords_any s3 p u2 hm3.b.at' hup2 (by omega) _) ?_
      rintro ⟨r2, s4⟩ ⟨hr2, ex4⟩
      simp only at hr2 ex4
      have hm4 := hm3.more ex4
      simp [evOp_call, T.get_set, h10, g5, g7, oracF_cons]
      rw [cxOf_call (by kernel_rfl) (by kernel_rfl), forb_step (by kernel_rfl) (forb_step (by kernel_rfl) rfl)]
      have hAl : (allN (absV v2).L).length = 8 * v2.R.length := by rw [hok2.nlen, hvr2]
      have hBl : (allN (absV v2).L).length = 8 * u2.R.length := by rw [hok2.nlen, hur2]
      have hrA : RdRow s4 r 1 (allN (absV v2).L).length (wv (allN (absV v2).L)) := by rw [hAl]; exact hr.rd.ext ex4
      have hrB : RdRow s4 r2 1 (allN (absV v2).L).length (wv (allN (absV v2).L)) := by
        have h := hr2.rd
        rw [hsim2.L] at h
        rw [hBl]; exact h
      refine Gd.mono (same4_any s4 r r2 _ _ hrA hrB (by omega) _) ?_
      rintro _ rfl
      obtain ⟨tw, w1, w2, w3, w4, w5, w6, w7, w8⟩ := hm4.b.at'.blk
      have hca : u2.a = v2.a := hsim2.a
      have hcb : u2.b = v2.b := hsim2.b
      have hcc : u2.c = v2.c := hsim2.c
      have hp3 : p < s3.nx := Nat.lt_of_lt_of_le hplt ex3.le
      have hld4 : ∀ b, inF ((0, p) :: (p + 1, s4.nx) :: forb b (rsOf (rsOf [] 23 s2.nx s3.nx) 25 s3.nx s4.nx) []) p = false := fun b => inF_lds (rsOf_lt (rsOf_lt (fun e h => by cases h) hplt) hp3)
      simp [evOp_call, T.get_set, h10, g5, g7, loadE_eq, getC_eq, w1, w6, w7, w8, hca, hcb, hcc, hld4, oracF_cons]
      rw [cxOf_call (by kernel_rfl) (by kernel_rfl), forb_step (by kernel_rfl) (forb_step (by kernel_rfl) rfl)]
      refine Gd.mono (mlines_any s4 q v2 hm4.a.at' _) ?_
      rintro _ rfl
      have hwi2 : IntKind.i64.wrap ((i : Int) + 1) = ((i + 1 : Nat) : Int) := hwi
      simp [evOp_call, T.get_set, h10, g0, g5, g7, g8, hvr2, hwi2]
      exact ⟨⟨i + 1, v2, u2, hlt, by constructor <;> simp [T.get_set, g0, g1, g5, g7], ⟨hm4, hsim2, hok2, hsz2⟩⟩, muAt_lt gE (by simp [T.get_set]) hlt⟩
    · obtain rfl : i = L.length := by omega
      simp [evOp_call, T.get_set, g0, g1, g5, g7, g8, rowC_len hx]
theorem w_PmemPlays (n : Int) (l : List ActD) (W : World) (_ : i64 n) (x : Value) (hx : (rowC actC).rel W (fun j => [x][j]?.getD default) l) :
    Calls Try.prog 3 #[.int .i64 n, x] W fun e W' => e = .returned (.bool true) ∧ Below W.heap.size W W' := by
  obtain ⟨s1, r1, v1, b1, l1, q1, e1, a1⟩ := (rowC actC).enter (Begin.zero W) hx
  exact law_calls (lawC_sound namesOkP mixesP Try.func23 rfl pmAwake) b1 (.cons (rel_int _ _) (.cons (q1 0 (by decide)).2 .nil))
    (g_PmemPlays s1 n v1 l a1)
end Go.Proofs.Ytenncnbaoejekaa

/-
  The walk of SpanPushes.
-/
import Derived.Test.YtenncnbaoejekaaSpE
import Derived.Test.YtenncnbaoejekaaSpA
set_option linter.unusedSimpArgs false
namespace Go.Proofs.Ytenncnbaoejekaa
open Go.RowKit Ev
@[simp] theorem wd_neq0 {P : Program} {st : St} {t : TypeId} {x y : Operand} (a : BitVec 64) : binE P st .neq t x y (wd a) (.c (.int .u64 0)) = some (.bool (!decide (a = 0#64)), st) := by
  have h : (V.c (.int .u64 0) : V) = wd 0#64 := wd_0.symm
  rw [h]; exact wd_neq
@[simp] theorem wd_eql0 {P : Program} {st : St} {t : TypeId} {x y : Operand} (a : BitVec 64) : binE P st .eql t x y (wd a) (.c (.int .u64 0)) = some (.bool (decide (a = 0#64)), st) := by
  have h : (V.c (.int .u64 0) : V) = wd 0#64 := wd_0.symm
  rw [h]; exact wd_eql
theorem load_allN {s : AS} {n : Nat} (h : okLs s.L n) (h0 : s.off = false) {p : Nat} (hp : p < 8 * n) : (allN s.L)[p]? = some (s.load (p : Int)) := by
  obtain ⟨m, hm, hok, hg⟩ := h.get hp
  have hin : s.in8 (p : Int) := ⟨by omega, by rw [h.len]; omega⟩
  unfold AS.load
  rw [if_neg (by rw [h0]; simp), if_pos hin, show ((p : Int) / 8).toNat = p / 8 by omega, show ((p : Int) % 8).toNat = p % 8 by omega, hm, hg]
  show m.N[p % 8]? = some (m.N[p % 8]?.getD 0#64)
  rw [List.getElem?_eq_getElem (by rw [hok.nl]; omega)]; rfl
def pushP (b : Nat) (l : List (BitVec 64)) (p : Nat) (w : BitVec 64) : Prop := w = 0#64 ∨ (b ≤ p ∧ p < b + l.length ∧ l[p - b]? = some w)
theorem zero_As (n : Nat) (P : Nat → BitVec 64 → Prop) (h : ∀ i, P i 0#64) : okAs P (zeroA n).L := (atom_zero n P h).2.2
/-- what stands behind a push, a fall, and the power's coming -/
theorem push_end {N : Nat} {s : AS} {f n : Int} {a : Nat} {l : List (BitVec 64)} {K : List Int} (h : okS s N 0) (hz : okAs (pushP (f.toNat * 8 + a) l) s.L) (hh : hasB N f n (a : Int) l.length) (hf : 0 ≤ f) :
    ∃ L3, okLs L3 N ∧ (∀ k w, (allN L3)[k]? = some w → pushP (f.toNat * 8 + a) l k w) ∧
      (((pushA s f n a l).2 = 0 ∧ (pushA s f n a l).1.off = false ∧ fallM K (pushA s f n a l).1.L = L3 ∧ ∀ j, j < l.length → (allN L3)[f.toNat * 8 + a + j]? = l[j]?) ∨ ((pushA s f n a l).2 = 14 ∧ (pushA s f n a l).1.off = true ∧ (pushA s f n a l).1.L = L3)) := by
  obtain ⟨hw, h0, h1, h2, h3⟩ := id hh
  obtain ⟨w1, w2, w3, w4⟩ := id hw
  have hb : f * 8 + (a : Int) = ((f.toNat * 8 + a : Nat) : Int) := by omega
  have hP : ∀ (l' : List (BitVec 64)), (∀ j w, l'[j]? = some w → l[j]? = some w) → ∀ j w, l'[j]? = some w → pushP (f.toNat * 8 + a) l (f.toNat * 8 + a + j) w := fun l' hl j w hj => by
    have := hl j w hj
    have hlt := lt_of_get this
    exact .inr ⟨by omega, by omega, by rw [Nat.add_sub_cancel_left]; exact this⟩
  have hs := h.ls.sts l (b := f * 8 + (a : Int)) (by omega) (by omega)
  have hAs : okAs (pushP (f.toNat * 8 + a) l) (storesL s.L (f * 8 + (a : Int)) l) := by
    rw [hb]; exact hz.sts l h.ls (by omega) (hP l fun _ _ h => h)
  have hl : ∀ i ∈ linesOf f (a : Int) l.length, 0 ≤ i ∧ i < (storesL s.L (f * 8 + (a : Int)) l).length := fun i hi => by
    have := linesOf_mem hi
    rw [hs.len]; omega
  rcases push_on h hh with ⟨q1, q2, q3⟩ | ⟨q1, q2, q3⟩
  · refine ⟨_, ((hs.fl hl).fe).fall K, ((hAs.fl hl).fe (hs.fl hl)).fall ((hs.fl hl).fe) K, .inl ⟨q1, q3.off, by rw [q2], fun j hj => ?_⟩⟩
    have := push_sure h.ls hh K hj
    rw [hb, show ((f.toNat * 8 + a : Nat) : Int).toNat = f.toNat * 8 + a by omega] at this
    rw [hb]
    exact this
  · rcases q3 with ⟨j, q3⟩ | q3
    · have hlen : (l.take j).length ≤ l.length := by simp; omega
      have hs2 := h.ls.sts (l.take j) (b := f * 8 + (a : Int)) (by omega) (by omega)
      refine ⟨_, hs2.fall s.K, ?_, .inr ⟨q1, q2, q3⟩⟩
      have : okAs (pushP (f.toNat * 8 + a) l) (storesL s.L (f * 8 + (a : Int)) (l.take j)) := by
        rw [hb]
        refine hz.sts (l.take j) h.ls (by omega) (hP (l.take j) fun k w hk => ?_)
        rw [List.getElem?_take] at hk
        split at hk
        · exact hk
        · cases hk
      exact this.fall hs2 s.K
    · exact ⟨_, (hs.fl hl).fall s.K, (hAs.fl hl).fall (hs.fl hl) s.K, .inr ⟨q1, q2, q3⟩⟩
def sfK (sf : St) (a : Nat) (y wx : V) (E : Int) (e : Env) (s : St) : Prop := ∃ i : Nat, i ≤ 32 ∧ e.get 0 = some (.int .i64 (a : Int)) ∧ e.get 1 = some y ∧ e.get 13 = some (.int .i64 E) ∧ e.get 15 = some wx ∧ e.get 17 = some (.int .i64 (i : Int)) ∧ s = sf
set_option maxRecDepth 20000 in
set_option maxHeartbeats 16000000 in
theorem g_SpanPushes (st : St) (y k : Nat → V) (at_ calls : Int) (l : List (BitVec 64)) (K : List Int) (hy : (rowC wC).at' st y l) (hk : (rowC iC).at' st k K) (hca : i64 calls) :
    Gd (lawC Try.prog 46 ⟨false, [], 0, 0⟩ 9 [.int .i64 at_, y 0, .int .i64 calls, k 0] st) fun r => r.1 = .bool true := by
  rw [Gd_lawC Try.func9 rfl]
  by_cases c1 : at_ < 0
  · simp [evOp_call, sets, T.get_set, rowC_len hy, rowC_len hk, c1]
  by_cases c2 : 20 < at_
  · simp [evOp_call, sets, T.get_set, rowC_len hy, rowC_len hk, c1, c2]
  by_cases c3 : (l.length : Int) < 1
  · simp [evOp_call, sets, T.get_set, rowC_len hy, rowC_len hk, c1, c2, c3]
  by_cases c4 : (10 : Int) < l.length
  · simp [evOp_call, sets, T.get_set, rowC_len hy, rowC_len hk, c1, c2, c3, c4]
  by_cases c5 : calls < 1
  · simp [evOp_call, sets, T.get_set, rowC_len hy, rowC_len hk, c1, c2, c3, c4, c5]
  by_cases c6 : (6 : Int) < K.length
  · simp [evOp_call, sets, T.get_set, rowC_len hy, rowC_len hk, c1, c2, c3, c4, c5, c6]
  obtain ⟨a, rfl⟩ := Int.eq_ofNat_of_zero_le (show 0 ≤ at_ by omega)
  simp [evOp_call, sets, T.get_set, rowC_len hy, rowC_len hk, c1, c2, c3, c4, c5, c6, oracF_cons]
  refine Gd.mono (mnew_any st 6 (by omega) _) ?_
  rintro ⟨r, s0⟩ ⟨q, v, hr, hv, ha⟩
  simp only at hr hv
  subst hr
  have hok : okS (absV v) 6 0 := by rw [ha]; exact fromA_ok _ _
  obtain ⟨hR, hO⟩ := hok.R
  simp [evOp_call, sets, T.get_set, oracF_cons]
  refine Gd.mono (sof_any s0 q v hv.at' (by omega) 1 4 _) ?_
  rintro ⟨r, s1⟩ ⟨hr, e1⟩
  simp only at hr e1
  have hw : winB 1 4 v.R.length := ⟨by omega, by omega, by omega, by omega⟩
  unfold ofV' at hr
  rw [if_pos hw] at hr
  subst hr
  have hv1 := hv.more e1
  simp [spV, evOp_call, sets, T.get_set, newC_is, storeK_g, putB_eq, roT, loadE_eq, getC_eq, getsB_succ, getsB_zero, oracF_cons]
  have hex1 := fun b => hv1.more ((Ext.refl s1.nx s1).new (Nat.le_refl _) b)
  have own1 : ¬ MOw q v s1.nx := fun e => by have := hv1.at'.own_lt e; omega
  have hkk := rowC_ints hk
  refine Gd.mono (mfuse_any _ q v (hex1 _).at' calls (k 0) K ((hex1 _).row hkk.1).1 (by omega) _) ?_
  rintro ⟨r, s2⟩ ⟨hr, v2, hs2, ha2⟩
  simp only at hr hs2
  subst hr
  have hv2 := (hex1 _).step hs2
  have k2 : s2.h.get s1.nx = _ := (hs2.kept.keep s1.nx (Nat.lt_succ_self _) own1).trans (T.get_set_same _ _ _)
  have hno2 := hs2.not_own own1 (Nat.lt_succ_self _)
  have hlt2 : s1.nx < s2.nx := hs2.kept.le
  have hA2 : absV v2 = { absV v with fuse := calls, K := K } := by
    rw [ha2]; unfold AS.fused; rw [if_neg (by rw [hok.off]; simp)]
  have hok2 : okS (absV v2) 6 0 := by rw [hA2]; exact ⟨hok.len, hok.off, hok.ok, hok.op⟩
  have hsz2 : szB (absV v2) 6 0 := ⟨hok2.len, by rw [hA2]; exact hca.2, hok2.op⟩
  have hz2 : okAs (pushP ((1 : Int).toNat * 8 + a) l) (absV v2).L := by rw [hA2]; show okAs _ (absV v).L; rw [ha]; exact zero_As _ _ fun _ => .inl rfl
  have hsp : V.g [V.p q 0, V.int .i64 1, V.int .i64 4] = spV q 1 4 := rfl
  have hyr := rowC_words hy
  have hy2 := hv2.row hyr
  have hh : hasB 6 1 4 (a : Int) l.length := ⟨by decide, by omega, by omega, by omega, by omega⟩
  simp [evOp_call, sets, T.get_set, loadE_eq, getC_eq, getsB_succ, getsB_zero, oracF_cons, k2]
  rw [hsp]
  refine Gd.mono (spush_any s2 q v2 hv2.at' 6 0 hsz2 (by omega) 1 4 (a : Int) (y 0) l hy2.1 hy2.2 (by omega) _) ?_
  rintro ⟨r, s3⟩ ⟨hr, v3, hs3, ha3⟩
  simp only at hr hs3
  obtain ⟨L3, o3, hP, hcase⟩ := push_end (K := K) hok2 hz2 hh (by omega)
  have hv3 := hv2.step hs3
  have k3 : s3.h.get s1.nx = _ := (hs3.kept.keep s1.nx hlt2 hno2).trans k2
  have hno3 := hs3.not_own hno2 hlt2
  have hlt3 : s1.nx < s3.nx := Nat.lt_of_lt_of_le hlt2 hs3.kept.le
  have hsz3 : szB (absV v3) 6 (0 + l.length) := by rw [ha3]; exact hsz2.push _ _ _ _
  obtain ⟨hR3, hF3, hO3⟩ := hsz3.v
  rw [← ha3] at hcase
  obtain ⟨E, hE⟩ : ∃ E, E = (pushA (absV v2) 1 4 (a : Int) l).2 := ⟨_, rfl⟩
  rw [← hE] at hr hcase
  subst hr
  have hE2 : (E = 0 ∧ v3.off = false) ∨ (E = 14 ∧ v3.off = true) := by
    rcases hcase with ⟨h1, h2, _⟩ | ⟨h1, h2, _⟩
    · exact .inl ⟨h1, h2⟩
    · exact .inr ⟨h1, h2⟩
  simp [evOp_call, sets, T.get_set, oracF_cons]
  refine Gd.mono (moff_any s3 q v3 hv3.at' _) ?_
  rintro _ rfl
  simp [evOp_call, sets, T.get_set, oracF_cons]
  have hkr := hv3.row hkk.1
  refine Gd.mono (mcrash_any s3 q v3 hv3.at' (k 0) K (fun st' v' hs _ _ => (hkr.step hs).1) (by omega) _) ?_
  rintro ⟨r, s4⟩ ⟨hr, hs4⟩
  simp only at hr hs4
  subst hr
  obtain ⟨v4, hv4e⟩ : ∃ v4, v4 = (if v3.off = true then v3 else v3.fell K) := ⟨_, rfl⟩
  rw [← hv4e] at hs4
  have hL4 : (absV v4).L = L3 := by
    rcases hcase with ⟨h1, h2, h3, _⟩ | ⟨h1, h2, h3⟩
    · have h2' : v3.off = false := h2
      rw [hv4e, if_neg (by rw [h2']; simp)]
      show (v3.fell K).R.map (·.m) = _
      rw [show (v3.fell K).R.map (·.m) = fallM K (v3.R.map (·.m)) from fallN_m K v3.R]
      exact h3
    · have h2' : v3.off = true := h2
      rw [hv4e, if_pos h2']; exact h3
  have hv4 := hv3.step hs4
  have k4 : s4.h.get s1.nx = _ := (hs4.kept.keep s1.nx hlt3 hno3).trans k3
  have hno4 := hs4.not_own hno3 hlt3
  have hlt4 : s1.nx < s4.nx := Nat.lt_of_lt_of_le hlt3 hs4.kept.le
  simp [evOp_call, sets, T.get_set, oracF_cons]
  refine Gd.mono (mon_any s4 q v4 hv4.at' _) ?_
  rintro ⟨r, s5⟩ ⟨hr, hs5⟩
  simp only at hr hs5
  subst hr
  obtain ⟨v5, hv5e⟩ : ∃ v5, v5 = ({ v4 with off := false } : MV) := ⟨_, rfl⟩
  rw [← hv5e] at hs5
  have hv5 := hv4.step hs5
  have k5 : s5.h.get s1.nx = _ := (hs5.kept.keep s1.nx hlt4 hno4).trans k4
  have hL5 : (absV v5).L = L3 := by rw [hv5e]; exact hL4
  have hoff5 : (absV v5).off = false := by rw [hv5e]; rfl
  have hoff5' : v5.off = false := hoff5
  have hR5 : v5.R.length = 6 := by rw [← absLen, hL5, o3.len]
  have hw5 : winB 1 4 v5.R.length := ⟨by omega, by omega, by omega, by omega⟩
  simp [evOp_call, sets, T.get_set, loadE_eq, getC_eq, getsB_succ, getsB_zero, oracF_cons, k5]
  rw [hsp]
  refine Gd.mono (sall_any s5 q v5 hv5.at' (by omega) 1 4 _) ?_
  rintro ⟨r, s6⟩ ⟨e6, hr⟩
  simp only at hr e6
  rcases hr with ⟨_, _, wx, Lw, hr, hrow, hLw⟩ | ⟨_, h, _⟩ | ⟨h, _⟩
  · subst hr
    have hLl : Lw.length = 32 := hrow.1
    have hwr := hrow.rd
    have h32 : (8 * (4 : Int)).toNat = 32 := by decide
    rw [h32] at hwr hLw
    have hword : ∀ j, j < 32 → ∃ w, Lw[j]? = some w ∧ (allN L3)[8 + j]? = some w := fun j hj => by
      refine ⟨_, hLw j hj, ?_⟩
      have hhb : hasB (absV v5).L.length 1 4 (j : Int) 1 := ⟨by rw [absLen]; exact hw5, by omega, by omega, by omega, by omega⟩
      have h1 := load_allN (s := absV v5) (by rw [hL5]; exact o3) hoff5 (p := 8 + j) (by omega)
      rw [hL5] at h1
      rw [h1]
      unfold AS.sword
      rw [if_pos hhb, show (1 : Int) * 8 + (j : Int) = ((8 + j : Nat) : Int) by omega]
    have hv6 := hv5.more e6
    have hy6 := hv6.row hyr
    have hEb : (decide (E = 0) == v3.off) = false := by
      rcases hE2 with ⟨h1, h2⟩ | ⟨h1, h2⟩
      · rw [h1, h2]; rfl
      · rw [h1, h2]; rfl
    simp [evOp_call, sets, T.get_set, hwr.lenS, hEb]
    refine Gd_loop (sfK s6 a (y 0) wx E) (fun e _ => muAt 17 32 e) ?_ ?_
    · exact ⟨0, Nat.zero_le _, by simp [T.get_set], by simp [T.get_set], by simp [T.get_set], by simp [T.get_set], by simp [T.get_set], rfl⟩
    · rintro e s ⟨i, hi, g0, g1, g13, g15, g17, rfl⟩
      by_cases hlt : i < 32
      · have hlt' : (i : Int) < 32 := by omega
        have hwi := wrap_nat (n := i) (by omega)
        have wal : IntKind.i64.wrap ((a : Int) + l.length) = (a : Int) + l.length := wrap_in (by omega) (by omega)
        obtain ⟨w, hw1, hw2⟩ := hword i hlt
        obtain ⟨m1, o1, ty1, sz1, t1, i1, b1, k1, l1, d1⟩ := hwr.idx (st := s) un30 io31 hlt
        have q1 : t1.get o1 = some (wd w) := d1 0 _ (by omega) (by simpa using wv_get hw1)
        have hPw := hP _ _ hw2
        have fin : ∀ en : Env, en.get 0 = some (.int .i64 (a : Int)) → en.get 1 = some (y 0) → en.get 13 = some (.int .i64 E) → en.get 15 = some wx → en.get 17 = some (.int .i64 ((i + 1 : Nat) : Int)) → sfK s a (y 0) wx E en s ∧ muAt 17 32 en < muAt 17 32 e :=
          fun en h0 h1 h13 h15 h17 => ⟨⟨i + 1, hlt, h0, h1, h13, h15, h17, rfl⟩, muAt_lt g17 h17 hlt⟩
        have w0 : wd 0#64 = V.int .u64 0 := wd_0
        by_cases c7 : (a : Int) ≤ i
        · by_cases c8 : (i : Int) < (a : Int) + l.length
          · have hia : i - a < l.length := by omega
            have wia : IntKind.i64.wrap ((i : Int) - a) = ((i - a : Nat) : Int) := by rw [show (i : Int) - a = ((i - a : Nat) : Int) by omega]; exact wrap_in (by omega) (by omega)
            obtain ⟨m2, o2, ty2, sz2, t2, i2, b2, kk2, l2, d2⟩ := hy6.1.idx (st := s) un30 io31 hia
            obtain ⟨u, hu⟩ : ∃ u, l[i - a]? = some u := ⟨_, List.getElem?_eq_getElem hia⟩
            have q2 : t2.get o2 = some (wd u) := d2 0 _ (by omega) (by simpa using wv_get hu)
            have hwu : w = 0#64 ∨ w = u := by
              rcases hPw with h | ⟨h1, h2, h3⟩
              · exact .inl h
              · right
                rw [show 8 + i - ((1 : Int).toNat * 8 + a) = i - a by simp; omega, hu] at h3
                injection h3 with h3; exact h3.symm
            have hE0 : E = 0 → w = u := fun h0 => by
              rcases hcase with ⟨_, _, _, h4⟩ | ⟨h1, _⟩
              · have := h4 (i - a) hia
                rw [show (1 : Int).toNat * 8 + a + (i - a) = 8 + i by simp; omega, hw2, hu] at this
                injection this
              · omega
            simp [evOp_call, T.get_set, g0, g1, g13, g15, g17, hlt', c7, c8, (rowC_len hy), wal]
            refine ⟨by kernel_rfl, ?_⟩
            by_cases hE00 : E = 0
            · have hwe := hE0 hE00
              subst hwe
              have hd0 : decide (E = 0) = true := by simpa using hE00
              by_cases hw0 : w = 0#64
              · simp [evOp_call, T.get_set, g0, g1, g13, g15, g17, hlt', c7, c8, (rowC_len hy), wal, i1, loadE_eq, getC_eq, k1, q1, hd0, wia, i2, kk2, q2, hw0, hwi]
                exact fin _ (by simp [T.get_set, g0]) (by simp [T.get_set, g1]) (by simp [T.get_set, g13]) (by simp [T.get_set, g15]) (by simp [T.get_set])
              · simp [evOp_call, T.get_set, g0, g1, g13, g15, g17, hlt', c7, c8, (rowC_len hy), wal, i1, loadE_eq, getC_eq, k1, q1, hd0, wia, i2, kk2, q2, hw0, hwi]
                exact fin _ (by simp [T.get_set, g0]) (by simp [T.get_set, g1]) (by simp [T.get_set, g13]) (by simp [T.get_set, g15]) (by simp [T.get_set])
            · by_cases hw0 : w = 0#64
              · simp [evOp_call, T.get_set, g0, g1, g13, g15, g17, hlt', c7, c8, (rowC_len hy), wal, i1, loadE_eq, getC_eq, k1, q1, hE00, wia, i2, kk2, q2, hw0, hwi]
                exact fin _ (by simp [T.get_set, g0]) (by simp [T.get_set, g1]) (by simp [T.get_set, g13]) (by simp [T.get_set, g15]) (by simp [T.get_set])
              · have hwe : w = u := hwu.resolve_left hw0
                subst hwe
                simp [evOp_call, T.get_set, g0, g1, g13, g15, g17, hlt', c7, c8, (rowC_len hy), wal, i1, loadE_eq, getC_eq, k1, q1, hE00, wia, i2, kk2, q2, hw0, hwi]
                exact fin _ (by simp [T.get_set, g0]) (by simp [T.get_set, g1]) (by simp [T.get_set, g13]) (by simp [T.get_set, g15]) (by simp [T.get_set])
          · have hw0 : w = 0#64 := by
              rcases hPw with h | ⟨h1, h2, h3⟩
              · exact h
              · simp at h1 h2; omega
            simp [evOp_call, T.get_set, g0, g1, g13, g15, g17, hlt', c7, c8, (rowC_len hy), wal]
            refine ⟨by kernel_rfl, ?_⟩
            simp [evOp_call, T.get_set, g0, g1, g13, g15, g17, hlt', i1, loadE_eq, getC_eq, k1, q1, hw0, hwi]
            exact fin _ (by simp [T.get_set, g0]) (by simp [T.get_set, g1]) (by simp [T.get_set, g13]) (by simp [T.get_set, g15]) (by simp [T.get_set])
        · have hw0 : w = 0#64 := by
            rcases hPw with h | ⟨h1, h2, h3⟩
            · exact h
            · simp at h1 h2; omega
          simp [evOp_call, T.get_set, g0, g1, g13, g15, g17, hlt', c7]
          refine ⟨by kernel_rfl, ?_⟩
          simp [evOp_call, T.get_set, g0, g1, g13, g15, g17, hlt', i1, loadE_eq, getC_eq, k1, q1, hw0, hwi]
          exact fin _ (by simp [T.get_set, g0]) (by simp [T.get_set, g1]) (by simp [T.get_set, g13]) (by simp [T.get_set, g15]) (by simp [T.get_set])
      · obtain rfl : i = 32 := by omega
        simp [evOp_call, T.get_set, g0, g1, g13, g15, g17]
  · rw [hoff5'] at h; cases h
  · exact absurd hw5 h
theorem fits_words5 : Fits Try.prog (rowC wC) 30 := fits_row Try.underlying30 (by kernel_rfl) (by decide) (fits_w Try.underlying31)
theorem w_SpanPushes (a : Int) (l : List (BitVec 64)) (calls : Int) (k : List Int) (W : World) (_ : i64 a) (x : Value) (hx : (rowC wC).rel W (fun j => [x][j]?.getD default) l) (hc : i64 calls) (z : Value) (hz : (rowC iC).rel W (fun j => [z][j]?.getD default) k) :
    Calls Try.prog 9 #[.int .i64 a, x, .int .i64 calls, z] W fun e W' => e = .returned (.bool true) ∧ Below W.heap.size W W' := by
  obtain ⟨s1, r1, v1, b1, l1, q1, e1, a1⟩ := (rowC wC).enter (Begin.zero W) hx
  obtain ⟨s3, r3, v3, b3, l3, q3, e3, a3⟩ := (rowC iC).enter b1 hz
  exact law_calls (lawC_sound namesOkP mixesP Try.func46 rfl spAwake) b3 (.cons (rel_int _ _) (.cons (Rel.mono l3 _ _ (q1 0 (by decide)).2) (.cons (rel_int _ _) (.cons (q3 0 (by decide)).2 .nil))))
    (g_SpanPushes s3 v1 v3 a calls l k ((rowC wC).ext a1 e3) a3 hc)
end Go.Proofs.Ytenncnbaoejekaa

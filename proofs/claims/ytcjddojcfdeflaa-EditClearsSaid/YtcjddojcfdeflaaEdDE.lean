/-
  PLAIN: EdD, EdE, in one text.
-/
import Derived.Test.YtcjddojcfdeflaaEdBC
import Derived.Test.YtcjddojcfdeflaaEw
set_option linter.unusedSimpArgs false
set_option linter.unusedVariables false
namespace Go.Proofs.Ytcjddojcfdeflaa
open Go.RowKit Ev
set_option maxRecDepth 20000 in
set_option maxHeartbeats 4000000 in
theorem esetn_any (st : St) (q m : Nat) (g : Gm) (hg : isGood g) (W : List (BitVec 64)) (h : EdAt st q m g W) (i : Nat) (hi : 1 ≤ i ∧ (i : Int) ≤ g.n) (No : Nd) (hNo : getNd (blkW W (atN g i)) = some No) (hgo : goodN g No) (hso : No.s ≤ 9223372036854775807) (hoR : okRp No.R) (N : Nd) (hgN : goodN g N) (hfN : fitsN N) (hs : N.s ≤ 9223372036854775807) (hR : okRp N.R) (y : V) (hy : RdRow st y 2 N.R.length (cells N.R)) (hyc : CapOk y) (hym : ¬ rowIn y m) (nt : Nat) :
    Gd (callL Try.prog ⟨false, [], 0, nt⟩ 7 [.p q 0, .int .i64 (i : Int), ndV N y] st) fun r => r.1 = .int .i64 0 ∧ EdAt r.2 q m g (setNW g W i N No.R) ∧ Kp m st r.2 := by
  rw [Gd_callL Try.func7 rfl]
  have hyo := hy.one
  have hwu : wantK true (some V.u) = false := rfl
  obtain ⟨hbl, hbe⟩ := bwF_length hg h.len
  have hbn : 1 ≤ (bN g).toNat ∧ (bN g).toNat ≤ 2 := by have := hg.1.2.1; have := hg.1.1; unfold bN; omega
  obtain ⟨hal, haw⟩ := allJ_le No.R hoR.2
  obtain ⟨hbl2, hbw⟩ := allJ_le N.R hR.2
  have hol := hoR.1
  have hrl := hR.1
  have hck := ck_le hg.1
  obtain ⟨⟨hb1, hb2, hn1', hn2', hc1, hc2, hk1, hk2⟩, hdN1⟩ := id hg
  have hnF : nF g = 1 + g.c * g.k + bN g := rfl
  have hdF : dF g = nF g + g.n + g.n := rfl
  have hdN : dN g = g.b - 1 - dF g := rfl
  have hat : nF g + (i : Int) - 1 = ((atN g i : Nat) : Int) := by unfold atN; omega
  have hat0 : ¬ ((atN g i : Nat) : Int) = 0 := by unfold atN; omega
  have hat1 : ¬ atN g i = 0 := by omega
  have hatb : atN g i < g.b.toNat := by unfold atN; omega
  have hgi : isGood g ∧ 1 ≤ (i : Int) ∧ (i : Int) ≤ g.n := ⟨hg, by omega, hi.2⟩
  have hcell : ∀ k : List V → Res, cellsOf (ndV N y) k = k [.int .i64 N.t, .int .i64 N.l, .int .i64 N.s, y] := fun k => rfl
  simp [ndV, evOp_call, sets, T.get_set, newC_is, cellsOf, hyo, -seqC_n]
  rw [seqC_n]
  obtain ⟨s0, hs0⟩ : ∃ s0 : St, s0 = ⟨st.nx + 1, st.h.set st.nx (.cs 33 4 ((((T.lf.set 0 (.int .i64 N.t)).set 1 (.int .i64 N.l)).set 2 (.int .i64 N.s)).set 3 y))⟩ := ⟨_, rfl⟩
  have x0 : Ext st.nx st s0 := by rw [hs0]; exact (Ext.refl _ _).new (Nat.le_refl _) _
  obtain ⟨tx, kx0, e0, e1, e2, e3⟩ : ∃ t, s0.h.get st.nx = some (.cs 33 4 t) ∧ t.get 0 = some (.int .i64 N.t) ∧ t.get (0 + 1) = some (.int .i64 N.l) ∧ t.get (0 + 1 + 1) = some (.int .i64 N.s) ∧ t.get (0 + 1 + 1 + 1) = some y := ⟨_, by rw [hs0]; exact T.get_set_same _ _ _, by simp [T.get_set], by simp [T.get_set], by simp [T.get_set], by simp [T.get_set]⟩
  have n0 : s0.nx = st.nx + 1 := by rw [hs0]
  rw [← hs0]
  clear hs0
  have h0 := h.ext x0
  have hq1 := h.q1
  have hm1 := h.m1
  obtain ⟨t, kt, t0, t1, t2, t3, t4⟩ := h0.box
  simp [evOp_call, sets, T.get_set, loadE_eq, getC_eq, getsB_succ, getsB_zero, kt, t0, t1, t2, t3, t4]
  refine Gd.mono (gnode_any s0 [] (fun _ _ => rfl) 0 (Nat.zero_le _) g (i : Int) _) ?_
  rintro ⟨r, s1⟩ ⟨hr, x1⟩
  simp only at hr x1
  rw [if_pos hgi, hat] at hr
  subst hr
  have n1 := x1.le
  have h1 := h0.ext x1
  have kx1 := (x1.keep st.nx (by omega)).trans kx0
  have kt1 := (x1.keep q (by omega)).trans kt
  simp [evOp_call, sets, T.get_set, hat0, hat1, hwu]
  refine ⟨by kernel_rfl, ?_⟩
  simp [evOp_call, sets, T.get_set, loadE_eq, getC_eq, getsB_succ, getsB_zero, kt1, t0, t1, t2, t3, t4, kx1, e0, e1, e2, e3, hat0, hat1, hwu]
  rw [cxOf_call (by kernel_rfl) (by kernel_rfl), forb_nil]
  refine Gd.mono (ngood_any s1 g N y (by rw [pairs_cells]; exact (hy.ext x0).ext x1) hyc hs _) ?_
  rintro ⟨r, s2⟩ ⟨hr, x2⟩
  simp only at hr x2
  subst hr
  have n2 := x2.le
  have h2 := h1.ext x2
  have kx2 := (x2.keep st.nx (by omega)).trans kx1
  have kt2 := (x2.keep q (by omega)).trans kt1
  have hdg : decide (goodN g N) = true := decide_eq_true hgN
  simp [evOp_call, sets, T.get_set, hdg, hwu, -seqC_n]
  rw [seqC_n]
  simp [evOp_call, sets, T.get_set, -seqC_n]
  rw [seqC_n]
  refine Gd_env (fun E => E.get 0 = some (.p q 0) ∧ E.get 1 = some (.int .i64 (i : Int)) ∧ E.get 5 = some (.p st.nx 0) ∧ E.get 7 = some (.int .i64 ((atN g i : Nat) : Int))) ⟨by simp [T.get_set], by simp [T.get_set], by simp [T.get_set], by simp [T.get_set]⟩ ?_
  rintro en ⟨g0, g1, g5, g7⟩
  simp [evOp_call, sets, T.get_set, g0, g1, g5, g7, loadE_eq, getC_eq, getsB_succ, getsB_zero, kt2, t0, t1, t2, t3, t4]
  refine Gd.mono (ibits_any s2 g hg _ W h2.rd (capSg _ _ _ _) _) ?_
  rintro ⟨r, s3⟩ ⟨mb, hr, hy3, hmb, x3⟩
  simp only at hr hy3 x3
  subst hr
  have n3 := x3.le
  have h3 := h2.ext x3
  simp [evOp_call, sets, T.get_set, g0, g1, g5, g7]
  refine Gd.mono (eold_any s3 q m g hg W h3 i hi No hNo hgo hso _) ?_
  rintro ⟨zo, s4⟩ ⟨hzo, hzf, hzc, x4⟩
  simp only at hzo hzf hzc x4
  have n4 := x4.le
  simp [evOp_call, sets, T.get_set, g0, g1, g5, g7]
  refine Gd.mono (eblk_any s4 zo No.R hzo hoR _) ?_
  rintro ⟨zb, s5⟩ ⟨hzb, x5⟩
  simp only at hzb x5
  have n5 := x5.le
  simp [evOp_call, sets, T.get_set, g0, g1, g5, g7]
  refine Gd.mono (set_any s5 _ zb (bwF g W) (by rw [hbl]; exact (hy3.ext x4).ext x5) (by omega) false (allJ No.R) hzb.rd (by omega) (fun i hi => by have := haw i hi; omega) _) ?_
  rintro ⟨r6, s6⟩ ⟨y6, hr6, hy6, hyf6, x6⟩
  simp only at hr6 hy6 hyf6 x6
  subst hr6
  have n6 := x6.le
  have hyo6 := hy6.one
  rw [hbl] at hy6
  simp [evOp_call, sets, T.get_set, g0, g1, g5, g7, newC_is, cellsOf, storeK_g, putB_eq, roT, hyo6, -seqC_n]
  rw [seqC_n]
  obtain ⟨br, hbr⟩ : ∃ br, br = s6.nx := ⟨_, rfl⟩
  obtain ⟨s7, hs7⟩ : ∃ s7 : St, s7 = ⟨s6.nx + 1, s6.h.set s6.nx (.cs 49 1 (T.lf.set 0 y6))⟩ := ⟨_, rfl⟩
  have x7 : Ext s6.nx s6 s7 := by rw [hs7]; exact (Ext.refl _ _).new (Nat.le_refl _) _
  obtain ⟨tr7, kr7, er7⟩ : ∃ t, s7.h.get br = some (.cs 49 1 t) ∧ t.get 0 = some y6 := ⟨_, by rw [hs7, hbr]; exact T.get_set_same _ _ _, by simp [T.get_set]⟩
  have n7 : s7.nx = br + 1 := by rw [hs7, hbr]
  rw [← hs7, ← hbr]
  clear hs7
  have x27 : Ext s2.nx s2 s7 := ((((x3.trans (x4.mono n3)).trans (x5.mono (by omega))).trans (x6.mono (by omega))).trans (x7.mono (by omega)))
  have h7 := h2.ext x27
  have kx7 := (x27.keep st.nx (by omega)).trans kx2
  have kt7 := (x27.keep q (by omega)).trans kt2
  have hy7 := (((hy.ext x0).ext x1).ext x2).ext x27
  have hyl : ∀ b, rowIn y b → b < st.nx := fun b hb => rowAt_none hy hb
  have hy67 := hy6.ext x7
  refine Gd_env (fun E => E.get 0 = some (.p q 0) ∧ E.get 5 = some (.p st.nx 0) ∧ E.get 7 = some (.int .i64 ((atN g i : Nat) : Int)) ∧ E.get 8 = some (.p br 0)) ⟨by simp [T.get_set, g0], by simp [T.get_set, g5], by simp [T.get_set, g7], by simp [T.get_set]⟩ ?_
  clear g0 g1 g5 g7
  rintro en ⟨g0, g5, g7, g8⟩
  have hfb : ∀ b, b ≠ br → inF [(br, br + 1)] b = false := fun b hb => by rw [inF_cons, if_neg (by omega)]; rfl
  simp [evOp_call, sets, T.get_set, g0, g5, g7, g8, -seqC_n]
  refine ⟨by kernel_rfl, ?_⟩
  simp [evOp_call, sets, T.get_set, g0, g5, g7, g8, loadE_eq, getC_eq, getsB_succ, getsB_zero, kr7, er7, kx7, e3, hyo6]
  rw [cxOf_callL [(br, br + 1)] (by kernel_rfl) (by kernel_rfl) (looseW_at 8 (.p br 0) (by simp [T.get_set, g8]) (by kernel_rfl)) (fun x hx => by simp at hx; subst hx; exact clash_offE (w := y) (by simp [T.get_set]) hy7 fun b hb => hfb b (by have := hyl b hb; omega)) (fun p hp => by simp at hp; subst hp; rw [isRo_cs kr7]; decide), forb_nil]
  simp only [List.append_nil]
  refine Gd.mono (eblk_fl s7 _ (fun k hk => hfb k (by omega)) y N.R hy7 (fun b hb => hfb b (by have := hyl b hb; omega)) hR _) ?_
  rintro ⟨zn, s8⟩ ⟨hzn, x8⟩
  simp only at hzn x8
  have n8 := x8.le
  simp [evOp_call, sets, T.get_set, g0, g5, g7, g8]
  rw [cxOf_call (by kernel_rfl) (by kernel_rfl), forb_step (by kernel_rfl) rfl]
  refine Gd.mono (set_any s8 _ zn (setB (bwF g W) false (allJ No.R)) (by rw [setB_length, hbl]; exact hy67.ext x8) (by rw [setB_length]; omega) true (allJ N.R) hzn.rd (by omega) (fun i hi => by have := hbw i hi; omega) _) ?_
  rintro ⟨r9, s9⟩ ⟨y9, hr9, hy9, hyf9, x9⟩
  simp only at hr9 hy9 hyf9 x9
  subst hr9
  have n9 := x9.le
  have hyo9 := hy9.one
  rw [setB_length, hbl] at hy9
  have kr9 := (x9.keep br (by omega)).trans ((x8.keep br (by omega)).trans kr7)
  simp [evOp_call, sets, T.get_set, g0, g5, g7, g8, -seqC_n]
  rw [cxOf_store]
  rotate_left
  · kernel_rfl
  rw [forb_step (by kernel_rfl) (forb_step (by kernel_rfl) rfl)]
  simp [evOp_call, sets, T.get_set, g0, g5, g7, g8, storeK_g, putB_eq, roT, kr9, hyo9, -seqC_n]
  rw [seqC_n]
  obtain ⟨sA, hsA⟩ : ∃ sA : St, sA = ⟨s9.nx, s9.h.set br (.cs 49 1 (tr7.set 0 y9))⟩ := ⟨_, rfl⟩
  have nA : sA.nx = s9.nx := by rw [hsA]
  have x2A : Ext s2.nx s2 sA := by rw [hsA]; exact ((x27.trans (x8.mono (by omega))).trans (x9.mono (by omega))).set (by omega) (by omega) _
  obtain ⟨trA, krA, erA⟩ : ∃ t, sA.h.get br = some (.cs 49 1 t) ∧ t.get 0 = some y9 := ⟨_, by rw [hsA]; exact T.get_set_same _ _ _, by simp [T.get_set]⟩
  have hyA : RdRow sA y9 1 (8 * (bN g).toNat) (wv (setB (setB (bwF g W) false (allJ No.R)) true (allJ N.R))) := by rw [hsA]; exact hy9.setOther (k := br) (fun o l z e => by have := hyf9.1 _ _ _ _ e; omega) (fun o l z e => by have := hyf9.2 _ _ _ _ e; omega) _
  rw [← hsA]
  clear hsA
  have hA := h2.ext x2A
  have kxA := (x2A.keep st.nx (by omega)).trans kx2
  have ktA := (x2A.keep q (by omega)).trans kt2
  have hyN := (((hy.ext x0).ext x1).ext x2).ext x2A
  refine Gd_env (fun E => E.get 0 = some (.p q 0) ∧ E.get 5 = some (.p st.nx 0) ∧ E.get 7 = some (.int .i64 ((atN g i : Nat) : Int)) ∧ E.get 8 = some (.p br 0)) ⟨by simp [T.get_set, g0], by simp [T.get_set, g5], by simp [T.get_set, g7], by simp [T.get_set, g8]⟩ ?_
  clear g0 g5 g7 g8
  rintro en ⟨g0, g5, g7, g8⟩
  simp [evOp_call, sets, T.get_set, g0, g5, g7, g8, loadE_eq, getC_eq, getsB_succ, getsB_zero, ktA, t0, t1, t2, t3, t4]
  refine Gd.mono (gbits_any sA [] (fun _ _ => rfl) 0 (Nat.zero_le _) g _) ?_
  rintro ⟨r, sB⟩ ⟨hr, xB⟩
  simp only at hr xB
  subst hr
  have nB := xB.le
  have hB := hA.ext xB
  have kxB := (xB.keep st.nx (by omega)).trans kxA
  have ktB := (xB.keep q (by omega)).trans ktA
  have krB := (xB.keep br (by omega)).trans krA
  have hyB := hyA.ext xB
  simp [at2, hg, evOp_call, sets, T.get_set, tupK, g0, g5, g7, g8]
  refine ⟨by kernel_rfl, ?_⟩
  have wbf : IntKind.i64.wrap ((1 + g.c * g.k) * 8) = ((bitsF g * 8 : Nat) : Int) := by
    rw [show (1 + g.c * g.k) * 8 = ((bitsF g * 8 : Nat) : Int) by unfold bitsF; omega]; exact wrap_in (by omega) (by unfold bitsF; omega)
  simp [evOp_call, sets, T.get_set, tupK, g0, g5, g7, g8, loadE_eq, getC_eq, getsB_succ, getsB_zero, ktB, t4, krB, erA, wbf, -Int.natCast_mul]
  have hlb : bitsF g * 8 < 8 * g.b.toNat := by have := h.len; omega
  have hsl : ∀ (E : Env) (c : Cx), E.get 60 = some (.int .i64 ((bitsF g * 8 : Nat) : Int)) → sliceK Try.prog c E sB 28 (.sg m 0 (8 * g.b.toNat) 1) (some (.tmp 60)) none = some (.sg m (0 + bitsF g * 8 * 1) (8 * g.b.toNat - bitsF g * 8) 1, sB) := fun E c he => by
    unfold sliceK
    rw [sliceE_lo (k := bitsF g * 8) (i := .i64) un28 io39 (by simp [he]) m 0 (8 * g.b.toNat) (by omega) (fun a => some (a, sB)), if_neg (by omega)]
  rw [hsl _ _ (by simp [T.get_set])]
  simp [evOp_call, sets, T.get_set, g0, g5, g7, g8, loadE_eq, getC_eq, getsB_succ, getsB_zero, ktB, t4, krB, erA, -Int.natCast_mul]
  rw [cxOf_call (by kernel_rfl) (by kernel_rfl), forb_nil]
  obtain ⟨ty, tr, km, hro, hc⟩ := hB.row
  have hrl2 : (setB (setB (bwF g W) false (allJ No.R)) true (allJ N.R)).length = 8 * (bN g).toNat := by rw [setB_length, setB_length]; exact hbl
  have hbe2 : bitsF g * 8 + 8 * (bN g).toNat ≤ 8 * g.b.toNat := by have := h.len; omega
  rw [copy_g (lx := 8 * (bN g).toNat) (n := 8 * (bN g).toNat) (L := wv (setB (setB (bwF g W) false (allJ No.R)) true (allJ N.R))) un28 io39 (fun k => hyB.len k) (by show min _ _ = _; omega) (fun k => hyB.firsts k) rfl (Nat.zero_le _) km hro (by rw [wv_length, hrl2]; omega)]
  obtain ⟨hC, kC⟩ := hB.put (w := setB (setB (bwF g W) false (allJ No.R)) true (allJ N.R)) (i := bitsF g * 8) (by rw [hrl2]; exact hbe2) km
  have kqm := h.qm
  have kxC : (⟨sB.nx, sB.h.set m (.cs ty (8 * g.b.toNat) (sets (wv (setB (setB (bwF g W) false (allJ No.R)) true (allJ N.R))) (bitsF g * 8) tr))⟩ : St).h.get st.nx = some (.cs 33 4 tx) := (T.get_set_ne _ _ (by omega)).trans kxB
  have hyC := kC.rd (hyN.ext xB) hym
  generalize (⟨sB.nx, sB.h.set m (.cs ty (8 * g.b.toNat) (sets (wv (setB (setB (bwF g W) false (allJ No.R)) true (allJ N.R))) (bitsF g * 8) tr))⟩ : St) = sC at hC kC kxC hyC ⊢
  have nC := kC.le
  simp [evOp_call, sets, T.get_set, g0, g5, g7, g8, loadE_eq, getC_eq, getsB_succ, getsB_zero, kxC, e0, e1, e2, e3, hyo]
  refine Gd.mono (nput_any sC N y (by rw [pairs_cells]; exact hyC) _) ?_
  rintro ⟨zw, sD⟩ ⟨hzw, _, xD⟩
  simp only at hzw xD
  have nD := xD.le
  have hD := hC.ext xD
  have hp8 := putN_eight hfN
  rw [hp8] at hzw
  simp [evOp_call, sets, T.get_set, g0, g5, g7, g8]
  refine Gd.mono (eput_any sD q m g _ hD (by omega) (atN g i) hatb zw (putN N) hzw _) ?_
  rintro ⟨r, sE⟩ ⟨hr, hE, kE⟩
  simp only at hr hE kE
  subst hr
  simp [evOp_call, sets, T.get_set, g0, g5, g7, g8]
  have k2 : Kp m st sB := Kp.ofExt ((((x0.trans (x1.mono (by omega))).trans (x2.mono (by omega))).trans (x2A.mono (by omega))).trans (xB.mono (by omega)))
  exact ⟨hE, ((k2.trans kC).trans (Kp.ofExt xD)).trans kE⟩
end Go.Proofs.Ytcjddojcfdeflaa
set_option linter.unusedSimpArgs false
set_option linter.unusedVariables false
namespace Go.Proofs.Ytcjddojcfdeflaa
open Go.RowKit Ev
def tkYesC (st : St) (q m : Nat) (g : Gm) (L : List (BitVec 64)) (K : List Rn) (r : V × St) : Prop := ∃ y, r.1 = .t [y, .int .i64 0] ∧ RdRow r.2 y 2 K.length (cells K) ∧ (∀ b, rowInP y b → st.nx ≤ b) ∧ CapOk y ∧ mkR st q m g L r
set_option maxRecDepth 20000 in
set_option maxHeartbeats 4000000 in
theorem one_anyC (st : St) (q m : Nat) (g : Gm) (z : V) (L : List (BitVec 64)) (f e : Nat) (P : P1 st q m g z L f e) (n : Int) (nt : Nat) :
    Gd (callL Try.prog ⟨false, [], 0, nt⟩ 62 [.p q 0, .int .i64 0, .int .i64 n] st) (fun r => oneR st (freeB L (f : Int) (e : Int) n) n r ∧ CapOk r.1) := by
  rw [Gd_callL Try.func62 rfl]
  have P0 := P
  obtain ⟨hg, hp, hm, hc, hf, he, hfe, he2⟩ := P
  have hgv : grpV g 0 = .t [.int .i64 (f : Int), .int .i64 ((e : Int) - (f : Int))] := by
    unfold grpV
    rw [if_pos (by omega)]
    unfold grpN
    rw [if_pos (by omega), Int.zero_mul, show dF g + 0 = (f : Int) by omega, show dN g - 0 = (e : Int) - (f : Int) by omega]
  simp [evOp_call, sets, T.get_set]
  refine Gd.mono (group_any st q m g z L hg hp 0 _) ?_
  rintro ⟨r, s1⟩ ⟨hr, x1⟩
  simp only at hr x1
  subst hr
  rw [hgv]
  have hp1 := hp.ext x1
  have hp10 := hp1
  obtain ⟨hq, ⟨t, ht, t0, t1, t2, t3, t4⟩, hrz⟩ := hp1
  have hLm : L.length = m := by have := hrz.1; simpa using this
  have hrL : RdRow s1 z 1 L.length (wv L) := by rw [hLm]; exact hrz
  have w1 : IntKind.i64.wrap ((f : Int) + ((e : Int) - (f : Int))) = (e : Int) := by rw [show (f : Int) + ((e : Int) - (f : Int)) = (e : Int) by omega]; exact wrap_in (by omega) (by omega)
  simp [tupK, evOp_call, sets, T.get_set, loadE_eq, getC_eq, ht, t4, getsB_succ, getsB_zero, w1]
  refine Gd.mono (free_any s1 z L hrL (by omega) (f : Int) (e : Int) n (by omega) _) ?_
  rintro ⟨r, s2⟩ ⟨hr, x2⟩
  simp only at hr x2
  subst hr
  have hs2 : Ext st.nx st s2 := x1.trans (x2.mono x1.le)
  cases hfr : freeB L (f : Int) (e : Int) n with
  | some a =>
    simp [freeV, tupK, evOp_call, T.get_set]
    refine evOp_build1 (v := .g [.int .i64 a, .int .i64 n]) (cs := [.int .i64 a, .int .i64 n]) (fun k => el31 k) (fun k => ze87 k) rfl (by omega) (by simp [T.get_set]) (fun k => rfl) rfl ?_
    simp [evOp_call, T.get_set]
    have hb := hs2.le
    refine ⟨⟨⟨⟨rfl, .inr (.inl ⟨s2.nx, 0, 1, _, _, _, rfl, Nat.lt_succ_self _, T.get_set_same _ _ _, by simp, fun j v hj => ?_⟩)⟩, ⟨fun _ _ _ _ e => (by cases e), fun _ _ _ _ e => (by injection e with e; omega)⟩⟩, hs2.new hb _⟩, fun _ _ _ _ e => by injection e with e1 e2 e3 e4; omega⟩
    have hj2 : ([.int .i64 a, .int .i64 n] : List V)[j]? = some v := hj
    have hlt := lt_of_get hj2
    rw [get_sets, if_pos ⟨Nat.zero_le _, by omega⟩]
    simpa using hj2
  | none =>
    simp [freeV, tupK, evOp_call, T.get_set]
    refine Gd.mono (pdata_any s2 q m g z L hg (hp10.ext x2) _) ?_
    rintro ⟨r, s3⟩ ⟨hr, x3⟩
    simp only at hr x3
    subst hr
    rw [he, hf]
    have ht3 := (x3.keep _ (Nat.lt_of_lt_of_le hq x2.le)).trans ((x2.keep _ hq).trans ht)
    have hs3 : Ext st.nx st s3 := hs2.trans (x3.mono hs2.le)
    simp [tupK, evOp_call, sets, T.get_set, loadE_eq, getC_eq, ht3, t4, getsB_succ, getsB_zero]
    refine Gd.mono (free_any s3 z L ((hrL.ext x2).ext x3) (by omega) (f : Int) (e : Int) n (by omega) _) ?_
    rintro ⟨r, s4⟩ ⟨hr, x4⟩
    simp only at hr x4
    subst hr
    rw [hfr]
    simp [freeV, tupK, evOp_call, T.get_set]
    exact ⟨⟨rfl, hs3.trans (x4.mono hs3.le)⟩, fun _ _ _ _ e => by cases e⟩
set_option maxRecDepth 20000 in
set_option maxHeartbeats 4000000 in
theorem take_someC (st : St) (q m : Nat) (g : Gm) (z : V) (L : List (BitVec 64)) (f e : Nat) (P : P1 st q m g z L f e) (n : Int) (hn : 1 ≤ n ∧ n ≤ 1000) (a : Int) (ha : 0 ≤ a ∧ a ≤ 1000) (hfr : freeB L (f : Int) (e : Int) n = some a) (nt : Nat) :
    Gd (callL Try.prog ⟨false, [], 0, nt⟩ 53 [.p q 0, .int .i64 0, .int .i64 n, .int .i64 4] st) (tkYesC st q m g (setB L true (allJ [(a, n)])) [(a, n)]) := by
  rw [Gd_callL Try.func53 rfl]
  have P0 := P
  obtain ⟨hg, hp, hm, hc, hf, he, hfe, he2⟩ := P
  obtain ⟨hq, ⟨t, ht, t0, t1, t2, t3, t4⟩, hr⟩ := hp
  rw [hc] at t2
  have hwf : wantK false (some V.u) = false := rfl
  have hwu : wantK true (some V.u) = false := rfl
  have h0 : ¬ n < 0 := by omega
  simp [evOp_call, sets, T.get_set, loadE_eq, getC_eq, ht, t2, hwf, h0]
  refine Gd.mono (one_anyC st q m g z L f e P0 n _) ?_
  rintro ⟨y, s1⟩ ⟨⟨hr, x1⟩, hycap⟩
  rw [hfr] at hr
  obtain ⟨hy, hyf⟩ := hr
  simp only at hy hyf x1 hycap
  have hly : ∀ s : St, lenS s y = some (.int .i64 1, s) := fun s => hy.lenS s
  have hcn : cnt (a, n) = true := by unfold cnt; simp; omega
  have hfl : ([(a, n)] : List Rn).filter cnt = [(a, n)] := by simp [List.filter, hcn]
  have hle1 : lens [(a, n)] = n := by simp [lens]
  simp [evOp_call, sets, T.get_set, hly, hwf, hwu]
  refine Gd.mono (total_any s1 y [(a, n)] _ hy (by simp) (by rw [hfl, hle1]; omega)) ?_
  rintro ⟨r, s2⟩ ⟨hr, x2⟩
  simp only at hr x2
  subst hr
  rw [hfl, hle1]
  have hs2 : Ext st.nx st s2 := x1.trans (x2.mono x1.le)
  simp [evOp_call, sets, T.get_set, hly, hwf, hwu]
  refine Gd.mono (mark_any s2 q m g z L (P0.hp.ext hs2) hm true y [(a, n)] (hy.ext x2) ⟨by simp, fun r hr => by simp at hr; subst hr; exact ⟨ha.1, ha.2, by show 0 ≤ n; omega, hn.2⟩⟩ _) ?_
  rintro ⟨r, s3⟩ ⟨z', hp3, hle, hk, hx3, hz3⟩
  have hl2 := hs2.le
  have hyb : ∀ b, rowInP y b → st.nx ≤ b := fun b h => by
    rcases h with ⟨_, _, _, e⟩ | ⟨_, _, _, e⟩
    · exact hyf.2 _ _ _ _ e
    · exact hyf.1 _ _ _ _ e
  simp [evOp_call, sets, T.get_set]
  refine ⟨_, rfl, row_keep (hy.ext x2) fun b hb h1 => ⟨Nat.lt_of_lt_of_le h1 hle, hk b h1 (by have := hyb b hb; omega)⟩, hyb, hycap, z', hp3, Nat.le_trans hl2 hle, fun k h1 h2 => (hk k (by omega) h2).trans (hs2.keep k h1), (hs2.mono (by omega)).trans hx3, hz3⟩
set_option maxRecDepth 20000 in
set_option maxHeartbeats 4000000 in
theorem take_zeroC (st : St) (q m : Nat) (g : Gm) (z : V) (L : List (BitVec 64)) (f e : Nat) (P : P1 st q m g z L f e) (nt : Nat) :
    Gd (callL Try.prog ⟨false, [], 0, nt⟩ 53 [.p q 0, .int .i64 0, .int .i64 0, .int .i64 4] st) (tkYesC st q m g L []) := by
  rw [Gd_callL Try.func53 rfl]
  have P0 := P
  obtain ⟨hg, hp, hm, hc, hf, he, hfe, he2⟩ := P
  obtain ⟨hq, ⟨t, ht, t0, t1, t2, t3, t4⟩, hr⟩ := hp
  rw [hc] at t2
  have hwf : wantK false (some V.u) = false := rfl
  have hwu : wantK true (some V.u) = false := rfl
  have hln : ∀ s : St, lenS s (V.c (.slice none 0 0)) = some (.int .i64 0, s) := fun s => (OwnRow.nil 0 s 2).rd.lenS s
  simp [evOp_call, sets, T.get_set, loadE_eq, getC_eq, ht, t2, hwf]
  refine Gd.mono (one_any st q m g z L f e P0 0 _) ?_
  rintro ⟨r, s1⟩ ⟨hr, x1⟩
  have hfr : freeB L (f : Int) (e : Int) 0 = none := by unfold freeB; rw [if_pos (by decide)]
  rw [hfr] at hr
  simp only at hr x1
  subst hr
  simp [evOp_call, sets, T.get_set, hln, hwf, hwu]
  refine Gd.mono (total_any s1 (.c (.slice none 0 0)) [] _ (OwnRow.nil 0 _ 2).rd (by simp) (by decide)) ?_
  rintro ⟨r, s2⟩ ⟨hr, x2⟩
  simp only at hr x2
  subst hr
  have hl0 : lens (([] : List Rn).filter cnt) = 0 := rfl
  rw [hl0]
  have hs2 : Ext st.nx st s2 := x1.trans (x2.mono x1.le)
  simp [evOp_call, sets, T.get_set, hln, hwf, hwu]
  refine Gd.mono (mark_any s2 q m g z L (P0.hp.ext hs2) hm true (.c (.slice none 0 0)) [] (OwnRow.nil 0 _ 2).rd ⟨by simp, fun r hr => by cases hr⟩ _) ?_
  rintro ⟨r, s3⟩ ⟨z', hp3, hle, hk, hx3, hz3⟩
  have hl2 := hs2.le
  simp [evOp_call, sets, T.get_set]
  exact ⟨_, rfl, (OwnRow.nil 0 _ 2).rd, fun b h => (by rcases h with ⟨_, _, _, e⟩ | ⟨_, _, _, e⟩ <;> cases e), (fun _ _ _ _ e => by cases e), z', hp3, Nat.le_trans hl2 hle, fun k h1 h2 => (hk k (by omega) h2).trans (hs2.keep k h1), (hs2.mono (by omega)).trans hx3, hz3⟩
/-- take of what is free: blocks for one client, of which none is held -/
def tkR (st : St) (K : List Rn) (r : V × St) : Prop := ∃ y, r.1 = .t [y, .int .i64 0] ∧ RdRow r.2 y 2 K.length (cells K) ∧ (∀ b, rowIn y b → st.nx ≤ b) ∧ CapOk y ∧ Ext st.nx st r.2
theorem inF_self (q : Nat) : inF [(q, q + 1)] q = true := by rw [inF_cons, if_pos (by omega)]
@[simp] theorem lf0 (F : CallF) (a : Bool) (nt f : Nat) (args : List V) (st : St) : liftF (wbF F) ⟨a, [], 0, nt⟩ f args st = F ⟨a, [], 0, nt⟩ f args st := by rw [liftF_nil, wbF_zero]
/-- calls, take's own of them run so that what they may not write stays -/
noncomputable def edF1 : CallF := addF Try.prog (wbF (callL Try.prog)) 27
theorem edF1_ne {f : Nat} (h : Nat.beq f 27 = false) (c : Cx) (args : List V) (st : St) : edF1 c f args st = wbF (callL Try.prog) c f args st := addF_ne _ _ h _ _ _
set_option maxRecDepth 20000 in
set_option maxHeartbeats 2000000 in
theorem etake_any (st : St) (q m : Nat) (g : Gm) (hg : isGood g) (hc1 : g.c = 1) (W : List (BitVec 64)) (h : EdAt st q m g W) (x : V) (hx : RdRow st x 2 0 (cells [])) (n : Nat) (hn : n ≤ 1000) (f e : Nat) (hf : dF g = (f : Int)) (he : dF g + dN g = (e : Int)) (a : Nat) (ha : a ≤ 1000) (hfr : n ≠ 0 → freeB (bwF g W) (f : Int) (e : Int) (n : Int) = some (a : Int)) (hbg : (g.b.toNat + 63) / 64 ≤ 8 * (bN g).toNat) (he2 : e ≤ 1000) (nt : Nat) :
    Gd (edF1 ⟨false, [], 0, nt⟩ 27 [.p q 0, .int .i64 0, x, .int .i64 (n : Int)] st) (tkR st (if n = 0 then [] else [((a : Int), (n : Int))])) := by
  unfold edF1
  rw [Gd_addF Try.func27 rfl]
  have hwf : wantK false (some V.u) = false := rfl
  have hbn : (bN g).toNat ≤ 2 := by have := hg.1.2.1; unfold bN; omega
  have hdN := hg.2
  obtain ⟨t, kt, t0, t1, t2, t3, t4⟩ := h.box
  have hq1 := h.q1
  simp [evOp_call, sets, T.get_set]
  refine ⟨by kernel_rfl, ?_⟩
  simp [evOp_call, sets, T.get_set, loadE_eq, getC_eq, getsB_succ, getsB_zero, kt, t0, t1, t2, t3, t4]
  rw [cxOf_callX [(q, q + 1)] (by kernel_rfl) (by kernel_rfl) (looseW_at 16 (.p q 0) (by simp [T.get_set]) (by kernel_rfl)) (fun p hp => by simp at hp; subst hp; rw [isRo_cs kt]; decide) ⟨.tmp 18, by simp, by simp [clashes_tmp, T.get_set, blkOf, inF_self]⟩, forb_nil, liftF_nil]
  refine Gd_wbK (R := fun v s' => ∃ y, v = .g [y] ∧ RdRow s' y 1 (8 * (bN g).toNat) (wv (setB (bwF g W) true (allJ [])))) (Gd.mono (ehold_any st q m g hg W h x [] hx ⟨by simp, nofun⟩ _) fun r h => (by
    obtain ⟨y, a1, a2, a3, a4⟩ := h
    exact ⟨⟨y, a1, a2⟩, a4⟩)) ?_
  rintro _ s1 ⟨y1, rfl, hy1⟩ x1
  have n1 := x1.le
  have hnil : setB (bwF g W) true (allJ []) = bwF g W := rfl
  rw [hnil] at hy1
  simp [evOp_call, sets, T.get_set]
  rw [cxOf_call (by kernel_rfl) (by kernel_rfl), forb_step (by kernel_rfl) rfl, lf0]
  refine Gd.mono (pnewM_any s1 g hg y1 (bwF g W) (8 * (bN g).toNat) hbg (by omega) hy1 _) ?_
  rintro ⟨r, s2⟩ ⟨q2, z2, hr, hp, hq2, hzf, x2⟩
  simp only at hr hp hq2 hzf x2
  subst hr
  have n2 := x2.le
  simp [evOp_call, sets, T.get_set, tupK, hwf]
  have hbl := (bwF_length hg h.len).1
  have P : P1 s2 q2 (8 * (bN g).toNat) g z2 (bwF g W) f e := ⟨hg, hp, by omega, hc1, hf, he, by omega, he2⟩
  have fin : ∀ (K : List Rn) (L : List (BitVec 64)) (r : V × St), tkYesC s2 q2 (8 * (bN g).toNat) g L K r → ∃ y, r.1 = .t [y, .int .i64 0] ∧ RdRow r.2 y 2 K.length (cells K) ∧ (∀ b, rowIn y b → st.nx ≤ b) ∧ CapOk y ∧ Ext st.nx st r.2 := fun K L r h => by
    obtain ⟨y, a1, a2, a3, a4, z', a5, a6, a7, a8, a9⟩ := h
    refine ⟨y, a1, a2, fun b hb => by have := a3 b hb; omega, a4, ?_⟩
    exact (x1.trans (x2.mono n1)).trans (a8.mono (by omega))
  by_cases h0 : n = 0
  · subst h0
    refine Gd.mono (take_zeroC s2 q2 _ g z2 (bwF g W) f e P _) fun r h => ?_
    obtain ⟨y, a1, a2, a3, a4, a5⟩ := fin _ _ r h
    obtain ⟨r1, r2⟩ := r
    simp only at a1 a2 a5
    subst a1
    simp [evOp_call, sets, T.get_set, tupK, hwf]
    exact ⟨y, rfl, a2, a3, a4, a5⟩
  · refine Gd.mono (take_someC s2 q2 _ g z2 (bwF g W) f e P (n : Int) ⟨by omega, by omega⟩ (a : Int) ⟨by omega, by omega⟩ (hfr h0) _) fun r h => ?_
    obtain ⟨y, a1, a2, a3, a4, a5⟩ := fin _ _ r h
    obtain ⟨r1, r2⟩ := r
    simp only at a1 a2 a5
    subst a1
    simp [evOp_call, sets, T.get_set, tupK, hwf]
    rw [if_neg h0]
    exact ⟨y, rfl, a2, a3, a4, a5⟩
end Go.Proofs.Ytcjddojcfdeflaa

/-
  PLAIN: EdFG, EdHI, in one text.
-/
import Derived.Test.YtcjddojcfdeflaaEdDE
import Derived.Test.YtcjddojcfdeflaaEdPQ
set_option linter.unusedSimpArgs false
set_option linter.unusedVariables false
namespace Go.Proofs.Ytcjddojcfdeflaa
open Go.RowKit Ev
theorem ecli_any (st : St) (q m : Nat) (g : Gm) (hg : isGood g) (W : List (BitVec 64)) (h : EdAt st q m g W) (nt : Nat) :
    Gd (callL Try.prog ⟨false, [], 0, nt⟩ 25 [.p q 0, .int .i64 0] st) fun r => r = (.bool true, st) := by
  rw [Gd_callL Try.func25 rfl]
  have hwt : wantK true (some V.u) = false := rfl
  obtain ⟨t, kt, t0, t1, t2, t3, t4⟩ := h.box
  have hc : (0 : Int) < g.c := by have := hg.1; unfold small4 at this; omega
  simp [evOp_call, sets, T.get_set, loadE_eq, getC_eq, kt, t2, hc]
theorem emay_any (st : St) (len : Nat) (h : len ≤ 4096) (nt : Nat) :
    Gd (callL Try.prog ⟨false, [], 0, nt⟩ 26 [.int .i64 1, .int .i64 (len : Int)] st) fun r => r = (.bool true, st) := by
  rw [Gd_callL Try.func26 rfl]
  have h' : (len : Int) ≤ 4096 := by omega
  simp [evOp_call, sets, T.get_set, h, h']
/-- a row of bytes -/
def bytesR (l : List V) : Prop := ∀ v ∈ l, ∃ b : Nat, v = .int .u8 (b : Int) ∧ b < 256
def ewI (st : St) (x : V) (n N q : Nat) (e : Env) (s : St) : Prop := ∃ (i : Nat) (U : List (BitVec 64)), i ≤ n ∧ U.length = N ∧ e.get 5 = some (.sl q 0 N N) ∧ e.get 11 = some x ∧ e.get 12 = some (.int .i64 (n : Int)) ∧ e.get 13 = some (.int .i64 (i : Int)) ∧ SlRow st.nx s (.sl q 0 N N) N U ∧ Ext st.nx st s
set_option maxRecDepth 20000 in
set_option maxHeartbeats 2000000 in
theorem ewords_any (st : St) (x : V) (n : Nat) (l : List V) (hx : RdRow st x 1 n l) (hl : bytesR l) (k : Nat) (hk : k ≤ 64) (hnk : n ≤ 64 * k) (nt : Nat) :
    Gd (callL Try.prog ⟨false, [], 0, nt⟩ 29 [x, .int .i64 (k : Int)] st) fun r => ∃ U q, U.length = 8 * k ∧ r.1 = .sl q 0 (8 * k) (8 * k) ∧ RdRow r.2 r.1 1 (8 * k) (wv U) ∧ st.nx ≤ q ∧ Ext st.nx st r.2 := by
  rw [Gd_callL Try.func29 rfl]
  have w1 : IntKind.i64.wrap ((k : Int) * 8) = ((8 * k : Nat) : Int) := by rw [show (k : Int) * 8 = ((8 * k : Nat) : Int) by omega]; exact wrap_in (by omega) (by omega)
  simp [evOp_call, sets, T.get_set, w1, -Int.natCast_mul]
  refine Gd_make (n := 8 * k) (q := 8 * k) (i := .i64) (i' := .i64) (zs := [.int .u64 0]) (fun k => el28 k) io39 (fun k => ze39 k) (by simp [T.get_set]) (by simp [T.get_set]) (Nat.le_refl _) (by omega) ?_
  rw [rep_zero]
  have hm0 : SlRow st.nx ⟨st.nx + 1, st.h.set st.nx (.cs 39 (8 * k) (sets (wv (List.replicate (8 * k) 0#64)) 0 .lf))⟩ (.sl st.nx 0 (8 * k) (8 * k)) (8 * k) (List.replicate (8 * k) 0#64) := by
    refine ⟨List.length_replicate .., st.nx, _, _, rfl, Nat.le_refl _, Nat.lt_succ_self _, T.get_set_same _ _ _, by decide, fun j v hj => ?_⟩
    have hlt := lt_of_get hj
    rw [get_sets, if_pos ⟨Nat.zero_le _, by rw [wv_length]; omega⟩, Nat.sub_zero]
    exact wv_get hj
  simp [evOp_call, sets, T.get_set, hx.lenS, -Int.natCast_mul]
  refine Gd_loop (ewI st x n (8 * k) st.nx) (fun en _ => muAt 13 n en) ?_ ?_
  · exact ⟨0, _, Nat.zero_le _, List.length_replicate .., by simp [T.get_set], by simp [T.get_set], by simp [T.get_set], by simp [T.get_set], hm0, (Ext.refl _ _).new (Nat.le_refl _) _⟩
  rintro en s ⟨i, U, hi, hU, g5, g11, g12, g13, hz, hs⟩
  by_cases hlt : i < n
  · have hlt' : (i : Int) < (n : Int) := by omega
    have hwi := wrap_nat (n := i) (by omega)
    have hxs := hx.ext hs
    obtain ⟨v, hv⟩ : ∃ v, l[i]? = some v := ⟨_, List.getElem?_eq_getElem (by rw [hx.1]; omega)⟩
    obtain ⟨b, rfl, hb⟩ := hl v (List.mem_of_getElem? hv)
    obtain ⟨m1, o1, ty1, sz1, tr1, i1, b1, k1, l1, c1⟩ := hxs.idx (st := s) un22 io5 hlt
    have d0 : tr1.get o1 = some (.int .u8 (b : Int)) := c1 0 _ (by omega) (by simpa using hv)
    obtain ⟨j, hj⟩ : ∃ j, j = i / 8 := ⟨_, rfl⟩
    obtain ⟨r, hr⟩ : ∃ r, r = i % 8 := ⟨_, rfl⟩
    obtain ⟨m, hm⟩ : ∃ m, m = 8 * r := ⟨_, rfl⟩
    have h1 : (i : Int).tdiv 8 = (j : Int) := by rw [Int.tdiv_eq_ediv_of_nonneg (by omega)]; omega
    have h1' : (i : Int) / 8 = (j : Int) := by omega
    have h4' : (i : Int) % 8 = (r : Int) := by omega
    have h2 : IntKind.i64.wrap (j : Int) = (j : Int) := wrap_in (by omega) (by omega)
    have h4 : (i : Int).tmod 8 = (r : Int) := by rw [Int.tmod_eq_emod_of_nonneg (by omega)]; omega
    have h5 : IntKind.i64.wrap (r : Int) = (r : Int) := wrap_in (by omega) (by omega)
    have h6 : IntKind.i64.wrap (8 * (r : Int)) = (m : Int) := by rw [show 8 * (r : Int) = (m : Int) by omega]; exact wrap_in (by omega) (by omega)
    have hj8 : j < 8 * k := by omega
    have hj8' : j + 1 ≤ 8 * k := by omega
    obtain ⟨m3, ty3, t3, e3, b3', b3, g3', r3, c3, _⟩ := hz.put (i := j) hj8
    injection e3 with e3
    subst e3
    have u0 : t3.get j = some (wd (wat U j)) := c3 _ _ (wat_get (by rw [hU]; exact hj8))
    have hput := hz.put2 (i := j) rfl g3' hj8 (wat U j ||| BitVec.ofNat 64 b <<< m)
    simp [evOp_call, T.get_set, g5, g11, g12, g13, hlt', i1, loadE_eq, getC_eq, k1, d0, h1', h2]
    refine ⟨by kernel_rfl, ?_⟩
    simp [evOp_call, T.get_set, g5, g11, g12, g13, h1, h1', h2, h4, h4', h5, h6, hj8, loadE_eq, getC_eq, g3', u0]
    rw [cxOf_store]
    rotate_left
    · kernel_rfl
    rw [forb_nil]
    simp [evOp_call, T.get_set, g5, g11, g12, g13, putB_eq, g3', r3, hj8', hj8, sets, hwi]
    exact ⟨⟨i + 1, U.set j (wat U j ||| BitVec.ofNat 64 b <<< m), hlt, by rw [List.length_set]; exact hU, by simp [T.get_set, g5], by simp [T.get_set, g11], by simp [T.get_set, g12], by simp [T.get_set], hput, hs.set (Nat.le_refl _) b3 _⟩, muAt_lt g13 (by simp [T.get_set]) hlt⟩
  · obtain rfl : i = n := by omega
    simp [evOp_call, T.get_set, g5, g11, g12, g13]
    obtain ⟨a1, a2⟩ := hz
    exact ⟨U, hU, SlRow.rd ⟨a1, a2⟩, hs⟩
end Go.Proofs.Ytcjddojcfdeflaa
set_option linter.unusedSimpArgs false
set_option linter.unusedVariables false
namespace Go.Proofs.Ytcjddojcfdeflaa
open Go.RowKit Ev
def kOf (len : Nat) : Nat := (len + 63) / 64
def chkF (len : Nat) : Bool := decide (goodN g64 (F64 (kOf len) len)) && decide (fitsN (F64 (kOf len) len)) && decide (needN (F64 0 len) = (kOf len : Int)) && decide (needN (F64 (kOf len) len) = (kOf len : Int))
theorem chkF_all : (List.range 1201).all chkF = true := by kernel_rfl
structure FOk (len : Nat) : Prop where
  good : goodN g64 (F64 (kOf len) len)
  fits : fitsN (F64 (kOf len) len)
  need0 : needN (F64 0 len) = (kOf len : Int)
  k : kOf len < 20
theorem fOk {len : Nat} (h : len ≤ 1200) : FOk len := by
  have h1 := List.all_eq_true.1 chkF_all len (List.mem_range.2 (by omega))
  unfold chkF at h1
  simp only [Bool.and_eq_true, decide_eq_true_eq] at h1
  exact ⟨h1.1.1.1, h1.1.1.2, h1.1.2, by unfold kOf; omega⟩
theorem allJ64 (k : Nat) : allJ (R64 k) = runJ 42 k := by
  unfold R64
  by_cases h : k = 0
  · subst h; rfl
  · rw [if_neg h]
    simp [allJ]
theorem R64_len (k : Nat) : (R64 k).length ≤ 1 := by unfold R64; split <;> simp
theorem okR64 {k : Nat} (h : k < 20) : okRp (R64 k) := by
  refine ⟨by have := R64_len k; omega, fun r hr => ?_⟩
  unfold R64 at hr
  split at hr
  · cases hr
  · obtain rfl : r = (42, (k : Int)) := by simpa using hr
    simp only
    omega
noncomputable def edF2 : CallF := addF Try.prog (wbF edF1) 8
theorem edF2_ne {f : Nat} (h : Nat.beq f 8 = false) (c : Cx) (args : List V) (st : St) : edF2 c f args st = wbF edF1 c f args st := addF_ne _ _ h _ _ _
def efI (st : St) (q m n xb k : Nat) (y sp zb : V) (U : List (BitVec 64)) (tx : T V) (e : Env) (s : St) : Prop := ∃ (i : Nat) (W : List (BitVec 64)), i ≤ k ∧ e.get 0 = some (.p q 0) ∧ e.get 2 = some (.int .i64 (n : Int)) ∧ e.get 9 = some (.p xb 0) ∧ e.get 13 = some sp ∧ e.get 64 = some zb ∧ e.get 65 = some (.int .i64 (k : Int)) ∧ e.get 66 = some (.int .i64 (i : Int)) ∧ EdAt s q m g64 W ∧ Ws W n B64 (putN (F64 0 0)) ∧ Kp m st s ∧ s.h.get xb = some (.cs 33 4 tx) ∧ xb < s.nx ∧ RdRow s sp 1 (8 * k) (wv U) ∧ RdRow s zb 1 k (iv (runJ 42 k)) ∧ RdRow s y 2 (R64 k).length (cells (R64 k))
set_option maxRecDepth 20000 in
set_option maxHeartbeats 4000000 in
theorem efill_any (st : St) (q m n : Nat) (hn : 3 ≤ n ∧ n ≤ 10) (W : List (BitVec 64)) (h : EdAt st q m g64 W) (hW : Ws W n B64 (putN (F64 0 0))) (len : Nat) (hlen : len ≤ 1200) (x : V) (l : List V) (hx : RdRow st x 1 len l) (hl : bytesR l) (hxm : ¬ rowIn x m) (nt : Nat) :
    Gd (edF2 ⟨false, [], 0, nt⟩ 8 [.p q 0, .int .i64 0, .int .i64 (n : Int), x] st) fun r => r.1 = .int .i64 0 ∧ ∃ W', EdAt r.2 q m g64 W' ∧ Ws W' n (N64 (kOf len)) (putN (F64 (kOf len) len)) ∧ Kp m st r.2 := by
  unfold edF2
  rw [Gd_addF Try.func8 rfl]
  have hwf : wantK false (some V.u) = false := rfl
  have hwu : wantK true (some V.u) = false := rfl
  obtain ⟨hgood, hfits, hneed0, hk20⟩ := fOk hlen
  have hg0 : goodN g64 (F64 0 0) := (fOk (len := 0) (by omega)).good
  have hf0 : fitsN (F64 0 0) := (fOk (len := 0) (by omega)).fits
  have hkd : kOf len = (len + 63) / 64 := rfl
  obtain ⟨k, hk⟩ : ∃ k, k = kOf len := ⟨_, rfl⟩
  rw [← hk] at hgood hfits hneed0 hk20 ⊢
  have hq1 := h.q1
  have hm1 := h.m1
  have hqm := h.qm
  have hNd : getNd (blkW W (atN g64 n)) = some (F64 0 0) := by rw [atN64 (by omega), hW.node]; exact getNd_put hf0
  obtain ⟨t, kt, t0, t1, t2, t3, t4⟩ := h.box
  simp [evOp_call, sets, T.get_set, loadE_eq, getC_eq, getsB_succ, getsB_zero, kt, t0, t1, t2, t3, t4]
  rw [edF1_ne (by kernel_rfl), wbF_zero]
  refine Gd.mono (inode_any st g64 good64 _ W h.rd (capSg _ _ _ _) n ⟨by omega, by show (n : Int) ≤ 10; omega⟩ (F64 0 0) hNd hg0 (by decide) _) ?_
  rintro ⟨r, s1⟩ ⟨z, hr, hz, hzf, hzc, x1⟩
  simp only at hr hz hzf x1
  subst hr
  have n1 := x1.le
  have hzo := hz.one
  simp [ndV, evOp_call, sets, T.get_set, tupK, newC_is, cellsOf, storeK_g, putB_eq, roT, hzo, -seqC_n]
  rw [seqC_n]
  obtain ⟨xb, hxb⟩ : ∃ xb, xb = s1.nx := ⟨_, rfl⟩
  obtain ⟨s2, hs2⟩ : ∃ s2 : St, s2 = ⟨s1.nx + 1, s1.h.set s1.nx (.cs 33 4 ((((((((T.lf.set 0 (.int .i64 0)).set 1 (.int .i64 0)).set 2 (.int .i64 0)).set 3 (.c (.slice none 0 0))).set 0 (.int .i64 (F64 0 0).t)).set 1 (.int .i64 (F64 0 0).l)).set 2 (.int .i64 (F64 0 0).s)).set 3 z))⟩ := ⟨_, rfl⟩
  have x2 : Ext s1.nx s1 s2 := by rw [hs2]; exact (Ext.refl _ _).new (Nat.le_refl _) _
  have n2 : s2.nx = xb + 1 := by rw [hs2, hxb]
  obtain ⟨tx, kx2, e0, e1, e2, e3⟩ : ∃ t, s2.h.get xb = some (.cs 33 4 t) ∧ t.get 0 = some (.int .i64 1) ∧ t.get (0 + 1) = some (.int .i64 1) ∧ t.get (0 + 1 + 1) = some (.int .i64 0) ∧ t.get (0 + 1 + 1 + 1) = some z := ⟨_, by rw [hs2, hxb]; exact T.get_set_same _ _ _, by simp [T.get_set]; rfl, by simp [T.get_set]; rfl, by simp [T.get_set]; rfl, by simp [T.get_set]⟩
  rw [← hs2, ← hxb]
  clear hs2
  have xs2 : Ext st.nx st s2 := x1.trans (x2.mono n1)
  have h2 := h.ext xs2
  have hx2 := hx.ext xs2
  have hz2 := hz.ext x2
  refine Gd_env (fun E => E.get 0 = some (.p q 0) ∧ E.get 1 = some (.int .i64 0) ∧ E.get 2 = some (.int .i64 (n : Int)) ∧ E.get 3 = some x ∧ E.get 9 = some (.p xb 0) ∧ E.get 10 = some (.bool true)) ⟨by simp [T.get_set], by simp [T.get_set], by simp [T.get_set], by simp [T.get_set], by simp [T.get_set], by simp [T.get_set]⟩ ?_
  rintro en ⟨g0, g1, g2, g3, g9, g10⟩
  simp [evOp_call, sets, T.get_set, g0, g1, g2, g3, g9, g10]
  rw [edF1_ne (by kernel_rfl), wbF_zero]
  refine Gd.mono (ecli_any s2 q m g64 good64 W h2 _) ?_
  rintro _ rfl
  simp [evOp_call, sets, T.get_set, g0, g1, g2, g3, g9, g10, hwu, loadE_eq, getC_eq, kx2, e0, hx2.lenS]
  rw [edF1_ne (by kernel_rfl), wbF_zero]
  refine Gd.mono (emay_any s2 len (by omega) _) ?_
  rintro _ rfl
  simp [evOp_call, sets, T.get_set, g0, g1, g2, g3, g9, g10, hwu, -seqC_n]
  rw [seqC_n]
  simp [evOp_call, sets, T.get_set, g0, g1, g2, g3, g9, g10, hwu, -seqC_n]
  rw [seqC_n]
  simp [evOp_call, sets, T.get_set, g0, g1, g2, g3, g9, g10, hx2.lenS, storeK_g, putB_eq, roT, kx2, -seqC_n]
  rw [seqC_n]
  obtain ⟨s3, hs3⟩ : ∃ s3 : St, s3 = ⟨s2.nx, s2.h.set xb (.cs 33 4 (tx.set 2 (.int .i64 (len : Int))))⟩ := ⟨_, rfl⟩
  have n3 : s3.nx = xb + 1 := by rw [hs3]; exact n2
  have xs3 : Ext st.nx st s3 := by rw [hs3]; exact xs2.set (by omega) (by omega) _
  obtain ⟨ty3, kx3, e0', e1', e2', e3'⟩ : ∃ t, s3.h.get xb = some (.cs 33 4 t) ∧ t.get 0 = some (.int .i64 1) ∧ t.get (0 + 1) = some (.int .i64 1) ∧ t.get (0 + 1 + 1) = some (.int .i64 (len : Int)) ∧ t.get (0 + 1 + 1 + 1) = some z := ⟨_, by rw [hs3]; exact T.get_set_same _ _ _, by simp [T.get_set, e0], by simp [T.get_set, e1], by simp [T.get_set], by simp [T.get_set, e3]⟩
  have hzl : ∀ b, rowIn z b → b < s1.nx := fun b hb => rowAt_none hz hb
  have hz3 : RdRow s3 z 2 0 (cells []) := by rw [hs3]; exact row_keep hz2 fun b hb hlt => ⟨hlt, T.get_set_ne _ _ (by have := hzl b hb; omega)⟩
  rw [← hs3]
  clear hs3 kx2 e0 e1 e2 e3
  have h3 := h.ext xs3
  have hx3 := hx.ext xs3
  refine Gd_env (fun E => E.get 0 = some (.p q 0) ∧ E.get 1 = some (.int .i64 0) ∧ E.get 2 = some (.int .i64 (n : Int)) ∧ E.get 3 = some x ∧ E.get 9 = some (.p xb 0)) ⟨by simp [T.get_set, g0], by simp [T.get_set, g1], by simp [T.get_set, g2], by simp [T.get_set, g3], by simp [T.get_set, g9]⟩ ?_
  clear g0 g1 g2 g3 g9 g10
  rintro en ⟨g0, g1, g2, g3, g9⟩
  have hfb : ∀ b, b ≠ xb → inF [(xb, xb + 1)] b = false := fun b hb => by rw [inF_cons, if_neg (by omega)]; rfl
  simp [evOp_call, sets, T.get_set, g0, g1, g2, g3, g9]
  refine ⟨by kernel_rfl, ?_⟩
  simp [evOp_call, sets, T.get_set, g0, g1, g2, g3, g9, loadE_eq, getC_eq, getsB_succ, getsB_zero, kx3, e0', e1', e2', e3']
  rw [cxOf_callL [(xb, xb + 1)] (by kernel_rfl) (by kernel_rfl) (looseW_at 47 (.p xb 3) (by simp [T.get_set]) (by kernel_rfl)) (fun x hx => by simp at hx; subst hx; simp [clashes_tmp, T.get_set, blkOf]) (fun p hp => by simp at hp; subst hp; rw [isRo_cs kx3]; decide), forb_nil]
  simp only [List.append_nil]
  refine Gd_lift (R := fun v s' => v = .int .i64 (k : Int)) (by
    rw [wbF_zero, edF1_ne (by kernel_rfl), wbF_zero]
    refine Gd.mono (needs_any _ (F64 0 len) z (by show (len : Int) ≤ _; omega) _) fun r h => ⟨by rw [h.1, hneed0], h.2⟩) ?_
  rintro _ _ s4 rfl - x4
  have n4 := x4.le
  have h4 := h3.ext x4
  have hz4 := hz3.ext x4
  have kx4 := (x4.keep xb (by omega)).trans kx3
  simp [evOp_call, sets, T.get_set, g0, g1, g2, g3, g9]
  rw [cxOf_call (by kernel_rfl) (by kernel_rfl), forb_step (by kernel_rfl) rfl, liftF_nil, wbF_zero]
  have hbw : bwF g64 W = B64 := hW.bits
  refine Gd.mono (etake_any s4 q m g64 good64 rfl W h4 z hz4 k (by omega) 42 63 rfl rfl 42 (by omega) (fun h0 => by rw [hbw]; exact free64 hk20 h0) (by decide) (by omega) _) ?_
  rintro ⟨r, s5⟩ ⟨y, hr, hy, hyf, hyc, x5⟩
  simp only at hr hy hyc x5
  subst hr
  have n5 := x5.le
  have h5 := h4.ext x5
  have kx5 := (x5.keep xb (by omega)).trans kx4
  have hyo := hy.one
  have hRk : (if k = 0 then [] else [(((42 : Nat) : Int), (k : Int))]) = R64 k := rfl
  rw [hRk] at hy
  simp [evOp_call, sets, T.get_set, tupK, g0, g1, g2, g3, g9, -seqC_n]
  rw [seqC_n]
  refine Gd_env (fun E => E.get 0 = some (.p q 0) ∧ E.get 2 = some (.int .i64 (n : Int)) ∧ E.get 3 = some x ∧ E.get 9 = some (.p xb 0) ∧ E.get 11 = some y ∧ E.get 12 = some (.int .i64 0)) ⟨by simp [T.get_set, g0], by simp [T.get_set, g2], by simp [T.get_set, g3], by simp [T.get_set, g9], by simp [T.get_set], by simp [T.get_set]⟩ ?_
  clear g0 g1 g2 g3 g9
  rintro en ⟨g0, g2, g3, g9, g11, g12⟩
  simp [evOp_call, sets, T.get_set, g0, g2, g3, g9, g11, g12, storeK_1 hyo, putB_eq, roT, kx5, -seqC_n]
  rw [seqC_n]
  simp [evOp_call, sets, T.get_set, g0, g2, g3, g9, g11, g12, storeK_1 hyo, putB_eq, roT, kx5, -seqC_n]
  rw [seqC_n]
  simp [evOp_call, sets, T.get_set, g0, g2, g3, g9, g11, g12, storeK_1 hyo, putB_eq, roT, kx5, -seqC_n]
  rw [seqC_n]
  obtain ⟨s6, hs6⟩ : ∃ s6 : St, s6 = ⟨s5.nx, s5.h.set xb (.cs 33 4 (ty3.set 3 y))⟩ := ⟨_, rfl⟩
  have n6 : s6.nx = s5.nx := by rw [hs6]
  have xs6 : Ext st.nx st s6 := by rw [hs6]; exact ((xs3.trans (x4.mono (by omega))).trans (x5.mono (by omega))).set (by omega) (by omega) _
  obtain ⟨ty6, kx6, e0, e1, e2, e3⟩ : ∃ t, s6.h.get xb = some (.cs 33 4 t) ∧ t.get 0 = some (.int .i64 1) ∧ t.get (0 + 1) = some (.int .i64 1) ∧ t.get (0 + 1 + 1) = some (.int .i64 (len : Int)) ∧ t.get (0 + 1 + 1 + 1) = some y := ⟨_, by rw [hs6]; exact T.get_set_same _ _ _, by simp [T.get_set, e0'], by simp [T.get_set, e1'], by simp [T.get_set, e2'], by simp [T.get_set]⟩
  have hy6 : RdRow s6 y 2 (R64 k).length (cells (R64 k)) := by rw [hs6]; exact row_keep hy fun b hb hlt => ⟨hlt, T.get_set_ne _ _ (by have := hyf b hb; omega)⟩
  rw [← hs6]
  clear hs6 kx5 kx4 kx3 e0' e1' e2' e3'
  have h6 := h.ext xs6
  have hx6 := hx.ext xs6
  have hneedk : needN (F64 k len) = (k : Int) := hneed0
  refine Gd_env (fun E => E.get 0 = some (.p q 0) ∧ E.get 2 = some (.int .i64 (n : Int)) ∧ E.get 3 = some x ∧ E.get 9 = some (.p xb 0) ∧ E.get 11 = some y) ⟨by simp [T.get_set, g0], by simp [T.get_set, g2], by simp [T.get_set, g3], by simp [T.get_set, g9], by simp [T.get_set, g11]⟩ ?_
  clear g0 g2 g3 g9 g11 g12
  rintro en ⟨g0, g2, g3, g9, g11⟩
  simp [evOp_call, sets, T.get_set, g0, g2, g3, g9, g11, loadE_eq, getC_eq, getsB_succ, getsB_zero, kx6, e0, e1, e2, e3]
  rw [edF1_ne (by kernel_rfl), wbF_zero]
  refine Gd.mono (needs_any s6 (F64 k len) y (by show (len : Int) ≤ _; omega) _) ?_
  rintro ⟨r, s7⟩ ⟨hr, x7⟩
  simp only at hr x7
  rw [hneedk] at hr
  subst hr
  have n7 := x7.le
  simp [evOp_call, sets, T.get_set, g0, g2, g3, g9, g11]
  rw [edF1_ne (by kernel_rfl), wbF_zero]
  refine Gd.mono (ewords_any s7 x len l (hx6.ext x7) hl k (by omega) (by omega) _) ?_
  rintro ⟨r, s8⟩ ⟨U, qs, hU, hr, hsp, hqs, x8⟩
  simp only at hr hsp x8
  subst hr
  have n8 := x8.le
  simp [evOp_call, sets, T.get_set, g0, g2, g3, g9, g11]
  rw [edF1_ne (by kernel_rfl), wbF_zero]
  refine Gd.mono (eblk_any s8 y (R64 k) ((hy6.ext x7).ext x8) (okR64 hk20) _) ?_
  rintro ⟨zb, s9⟩ ⟨hzb, x9⟩
  simp only at hzb x9
  have n9 := x9.le
  rw [allJ64, runJ_len] at hzb
  have kx9 := (x9.keep xb (by omega)).trans ((x8.keep xb (by omega)).trans ((x7.keep xb (by omega)).trans kx6))
  have xs9 : Ext st.nx st s9 := ((xs6.trans (x7.mono xs6.le)).trans (x8.mono (by have := xs6.le; omega))).trans (x9.mono (by have := xs6.le; omega))
  have hy9 := ((hy6.ext x7).ext x8).ext x9
  simp [evOp_call, sets, T.get_set, g0, g2, g3, g9, g11, hzb.rd.lenS]
  refine Gd_loop (efI st q m n xb k y (.sl qs 0 (8 * k) (8 * k)) zb U ty6) (fun en _ => muAt 66 k en) ?_ ?_
  · exact ⟨0, W, Nat.zero_le _, by simp [T.get_set, g0], by simp [T.get_set, g2], by simp [T.get_set, g9], by simp [T.get_set], by simp [T.get_set], by simp [T.get_set], by simp [T.get_set], h.ext xs9, hW, Kp.ofExt xs9, kx9, by omega, hsp.ext x9, hzb.rd, hy9⟩
  have hspm : ¬ rowIn (.sl qs 0 (8 * k) (8 * k)) m := by
    rintro (⟨_, _, _, e⟩ | ⟨_, _, _, e⟩)
    · injection e with e; omega
    · cases e
  have hzbm : ¬ rowIn zb m := fun hb => by
    rcases hb with ⟨_, _, _, e⟩ | ⟨_, _, _, e⟩
    · obtain ⟨_, ⟨h2, _⟩ | ⟨m', ty, t, h2, _⟩⟩ := hzb <;> rw [h2] at e <;> cases e
    · obtain ⟨_, ⟨h2, _⟩ | ⟨m', ty, t, h2, h3, _⟩⟩ := hzb
      · rw [h2] at e; cases e
      · rw [h2] at e; injection e with e; omega
  have hym : ¬ rowIn y m := fun hb => by have := hyf m hb; omega
  clear g0 g2 g3 g9 g11
  rintro en s ⟨i, Wi, hi, g0, g2, g9, g13, g64', g65, g66, hE, hWi, hK, kxs, hxl, hsps, hzbs, hys⟩
  by_cases hlt : i < k
  · have hlt' : (i : Int) < (k : Int) := by omega
    have hwi := wrap_nat (n := i) (by omega)
    obtain ⟨m1, o1, ty1, sz1, tr1, i1, b1, k1, l1, c1⟩ := hzbs.idx (st := s) un63 io3 hlt
    have d0 : tr1.get o1 = some (.int .i64 (42 + (i : Int))) := c1 0 _ (by omega) (by simp [iv, runJ, hlt])
    have w1 : IntKind.i64.wrap ((i : Int) * 8) = ((i * 8 : Nat) : Int) := by rw [show (i : Int) * 8 = ((i * 8 : Nat) : Int) by omega]; exact wrap_in (by omega) (by omega)
    have w2 : IntKind.i64.wrap ((i : Int) + 1) = (i : Int) + 1 := wrap_in (by omega) (by omega)
    have w3 : IntKind.i64.wrap (((i : Int) + 1) * 8) = ((i * 8 + 8 : Nat) : Int) := by rw [show ((i : Int) + 1) * 8 = ((i * 8 + 8 : Nat) : Int) by omega]; exact wrap_in (by omega) (by omega)
    simp [evOp_call, sets, T.get_set, g0, g2, g9, g13, g64', g65, g66, hlt', i1, loadE_eq, getC_eq, k1, d0, w1, w2, w3, -Int.natCast_add, -Int.natCast_mul]
    refine Gd_midC (i := .i64) (i2 := .i64) (k := i * 8) (k2 := i * 8 + 8) un28 io39 hsps (fun _ _ _ _ e => by injection e with _ _ e3 e4; omega) (by simp [T.get_set]) (by simp [T.get_set]) (by omega) (by omega) fun v hv hcv => ?_
    have hv8 := hv s hsps
    rw [show i * 8 + 8 - i * 8 = 8 by omega] at hv8
    simp [evOp_call, sets, T.get_set, g0, g2, g9, g13, g64', g65, g66]
    rw [edF1_ne (by kernel_rfl), wbF_zero]
    rw [show (42 + (i : Int)) = ((42 + i : Nat) : Int) by omega]
    refine Gd.mono (eput_any s q m g64 Wi hE (by decide) (42 + i) (by show 42 + i < 64; omega) v _ hv8 _) ?_
    rintro ⟨r, s'⟩ ⟨hr, hE', hK'⟩
    simp only at hr hE' hK'
    subst hr
    have hl8 : ((U.drop (i * 8)).take 8).length = 8 := by rw [List.length_take, List.length_drop]; omega
    simp [evOp_call, sets, T.get_set, g0, g2, g9, g13, g64', g65, g66, hwi]
    exact ⟨⟨i + 1, _, hlt, by simp [T.get_set, g0], by simp [T.get_set, g2], by simp [T.get_set, g9], by simp [T.get_set, g13], by simp [T.get_set, g64'], by simp [T.get_set, g65], by simp [T.get_set], hE', hWi.data hn.2 (by omega) hl8, hK.trans hK', (hK'.keep xb hxl (by omega)).trans kxs, Nat.lt_of_lt_of_le hxl hK'.le, hK'.rd hsps hspm, hK'.rd hzbs hzbm, hK'.rd hys hym⟩, muAt_lt g66 (by simp [T.get_set]) hlt⟩
  · obtain rfl : i = k := by omega
    simp [evOp_call, sets, T.get_set, g0, g2, g9, g13, g64', g65, g66, loadE_eq, getC_eq, getsB_succ, getsB_zero, kxs, e0, e1, e2, e3]
    rw [edF1_ne (by kernel_rfl), wbF_zero]
    have hNi : getNd (blkW Wi (atN g64 n)) = some (F64 0 0) := by rw [atN64 (by omega), hWi.node]; exact getNd_put hf0
    refine Gd.mono (esetn_any s q m g64 good64 Wi hE n ⟨by omega, by show (n : Int) ≤ 10; omega⟩ (F64 0 0) hNi hg0 (by decide) (okR64 (k := 0) (by omega)) (F64 i len) hgood hfits (by show (len : Int) ≤ _; omega) (okR64 hk20) y hys hyc hym _) ?_
    rintro ⟨r, s'⟩ ⟨hr, hE', hK'⟩
    simp only at hr hE' hK'
    subst hr
    simp [evOp_call, sets, T.get_set]
    exact ⟨_, hE', hWi.set hn hfits _, hK.trans hK'⟩
end Go.Proofs.Ytcjddojcfdeflaa
set_option linter.unusedSimpArgs false
set_option linter.unusedVariables false
namespace Go.Proofs.Ytcjddojcfdeflaa
open Go.RowKit Ev
theorem plain64_any (st : St) (nt : Nat) : Gd (callL Try.prog ⟨false, [], 0, nt⟩ 16 [.int .i64 64] st) fun r => r.1 = gV g64 ∧ Ext st.nx st r.2 := by
  rw [Gd_callL Try.func16 rfl]
  have e0 := fun v => (Ext.refl st.nx st).new (Nat.le_refl _) v
  simp [evOp_call, sets, T.get_set, newC_is, storeK_g, putB_eq, roT, loadE_eq, getC_eq, getsB_succ, getsB_zero]
  exact ⟨rfl, e0 _⟩
theorem emade_any (st : St) (nt : Nat) : Gd (callL Try.prog ⟨false, [], 0, nt⟩ 6 [] st) fun r => SlRow st.nx r.2 r.1 512 W64 ∧ Ext st.nx st r.2 := by
  rw [Gd_callL Try.func6 rfl]
  simp [evOp_call, sets, T.get_set]
  refine Gd.mono (plain64_any st _) ?_
  rintro ⟨r, s1⟩ ⟨hr, x1⟩
  simp only at hr x1
  subst hr
  simp [evOp_call, sets, T.get_set]
  refine Gd.mono (make_any s1 g64 _) ?_
  rintro ⟨r, s2⟩ hr
  rcases hr with ⟨_, z, hr, hz, x2⟩ | ⟨hno, _⟩
  case inr => exact absurd good64 hno
  simp only at hr hz x2
  subst hr
  have n1 := x1.le
  obtain ⟨a1, m, ty, t, rfl, a3, a4⟩ := hz
  simp [evOp_call, sets, T.get_set, tupK]
  exact ⟨⟨a1, m, ty, t, rfl, by omega, a4⟩, x1.trans (x2.mono n1)⟩
noncomputable def edF3 : CallF := addF Try.prog (wbF edF2) 5
theorem edF3_ne {f : Nat} (h : Nat.beq f 5 = false) (c : Cx) (args : List V) (st : St) : edF3 c f args st = wbF edF2 c f args st := addF_ne _ _ h _ _ _
/-- what an Edit was -/
def EdWas (s : St) (q m : Nat) : Prop := ∃ t y0 yb, s.h.get q = some (.cs 51 7 t) ∧ t.get 5 = some y0 ∧ t.get 6 = some yb ∧ RdRow s y0 1 512 (wv W64) ∧ RdRow s yb 1 8 (wv B64) ∧ ¬ rowIn y0 m ∧ ¬ rowIn yb m
theorem EdWas.kp {s s' : St} {q m : Nat} (h : EdWas s q m) (k : Kp m s s') (hq : q < s.nx) (hm : q ≠ m) : EdWas s' q m := by
  obtain ⟨t, y0, yb, h1, h2, h3, h4, h5, h6, h7⟩ := h
  exact ⟨t, y0, yb, (k.keep q hq hm).trans h1, h2, h3, k.rd h4 h6, k.rd h5 h7, h6, h7⟩
theorem bldEd (x y w : Operand) (a b c d : Int) (m n m0 n0 mb nb : Nat) (st : St) : bldK Try.prog 51 [(0, x), (1, y), (2, w)] [.g [.int .i64 a, .int .i64 b, .int .i64 c, .int .i64 d, .sg m 0 n 1], .sg m0 0 n0 1, .g [.sg mb 0 nb 1]] [.int .i64 0, .int .i64 0, .int .i64 0, .int .i64 0, .c (.slice none 0 0), .c (.slice none 0 0), .c (.slice none 0 0)] st = some (.g [.int .i64 a, .int .i64 b, .int .i64 c, .int .i64 d, .sg m 0 n 1, .sg m0 0 n0 1, .sg mb 0 nb 1], st) := by kernel_rfl
set_option maxRecDepth 20000 in
set_option maxHeartbeats 4000000 in
theorem enew_any (st : St) (b0 : Nat) (z : V) (hz : SlRow b0 st z 512 W64) (nt : Nat) :
    Gd (edF3 ⟨false, [], 0, nt⟩ 5 [z] st) fun r => ∃ q m, r.1 = .t [.p q 0, .int .i64 0] ∧ EdAt r.2 q m g64 W64 ∧ EdWas r.2 q m ∧ st.nx ≤ m ∧ st.nx ≤ q ∧ Ext st.nx st r.2 := by
  unfold edF3
  rw [Gd_addF Try.func5 rfl]
  have hzc : CapOk z := by
    obtain ⟨_, m, ty, t, rfl, _⟩ := hz
    intro _ _ _ _ e
    injection e with _ _ e3 e4
    omega
  have hzr := hz.rd
  have hwf : wantK false (some V.u) = false := rfl
  simp [evOp_call, sets, T.get_set]
  rw [edF2_ne (by kernel_rfl), wbF_zero, edF1_ne (by kernel_rfl), wbF_zero]
  refine Gd.mono (iopen_any st z 64 (by omega) W64 hzr hzc g64 0#64 (imgW_of good64) _) ?_
  rintro ⟨r, s1⟩ ⟨y, hr, hy, x1⟩
  simp only at hr hy x1
  subst hr
  have n1 := x1.le
  obtain ⟨_, ⟨_, h0⟩ | ⟨m, ty, t, rfl, hm1, hm2, hm3, hro, hc⟩⟩ := id hy
  · omega
  simp [evOp_call, sets, T.get_set, tupK, newC_is, cellsOf, storeK_g, putB_eq, roT]
  refine ⟨by kernel_rfl, ?_⟩
  obtain ⟨xb, hxb⟩ : ∃ xb, xb = s1.nx := ⟨_, rfl⟩
  obtain ⟨s2, hs2⟩ : ∃ s2 : St, s2 = ⟨s1.nx + 1, s1.h.set s1.nx (.cs 47 5 ((((((((((T.lf.set 0 (V.int .i64 0)).set 1 (V.int .i64 0)).set 2 (V.int .i64 0)).set 3 (V.int .i64 0)).set 4 (V.c (.slice none 0 0))).set 0 (V.int .i64 g64.b)).set 1 (V.int .i64 g64.n)).set 2 (V.int .i64 g64.c)).set 3 (V.int .i64 g64.k)).set 4 (V.sg m 0 512 1)))⟩ := ⟨_, rfl⟩
  have x2 : Ext s1.nx s1 s2 := by rw [hs2]; exact (Ext.refl _ _).new (Nat.le_refl _) _
  have n2 : s2.nx = xb + 1 := by rw [hs2, hxb]
  obtain ⟨tx, kx, e0, e1, e2, e3, e4⟩ : ∃ t, s2.h.get xb = some (.cs 47 5 t) ∧ t.get 0 = some (.int .i64 g64.b) ∧ t.get (0 + 1) = some (.int .i64 g64.n) ∧ t.get (0 + 1 + 1) = some (.int .i64 g64.c) ∧ t.get (0 + 1 + 1 + 1) = some (.int .i64 g64.k) ∧ t.get (0 + 1 + 1 + 1 + 1) = some (.sg m 0 512 1) := ⟨_, by rw [hs2, hxb]; exact T.get_set_same _ _ _, by simp [T.get_set], by simp [T.get_set], by simp [T.get_set], by simp [T.get_set], by simp [T.get_set]⟩
  have hnx : s1.nx + 1 = s2.nx := by rw [n2, hxb]
  rw [← hs2, hnx, ← hxb]
  clear hs2
  have hy2 := hy.ext x2
  have hz2 := (hzr.ext x1).ext x2
  have hfb : ∀ b, b ≠ xb → inF [(xb, xb + 1), (xb, xb + 1)] b = false := fun b hb => by rw [inF_cons, if_neg (by omega), inF_cons, if_neg (by omega)]; rfl
  have hfb1 : ∀ b, b ≠ xb → inF [(xb, xb + 1)] b = false := fun b hb => by rw [inF_cons, if_neg (by omega)]; rfl
  have hzl : ∀ b, rowIn z b → b < st.nx := fun b hb => rowAt_none hzr hb
  have hl0 : inF [(0, xb), (s2.nx, s2.nx)] xb = false := by rw [inF_cons, if_neg (by omega), inF_cons, if_neg (by omega)]; rfl
  simp [evOp_call, sets, T.get_set, loadE_eq, getC_eq, getsB_succ, getsB_zero, kx, e0, e1, e2, e3, e4, hl0]
  rw [cxOf_callL [(xb, xb + 1), (xb, xb + 1)] (by kernel_rfl) (by kernel_rfl) (looseW_at 4 (.p xb 0) (by simp [T.get_set]) (by kernel_rfl)) (fun x hx => by simp at hx; subst hx; exact clash_offE (w := z) (by simp [T.get_set]) hz2 fun b hb => hfb b (by have := hzl b hb; omega)) (fun p hp => by simp at hp; subst hp; rw [isRo_cs kx]; decide), forb_nil]
  simp only [List.append_nil]
  refine Gd_lift (R := fun v s' => OwnRow s2.nx s' v 1 512 (wv W64)) (by
    rw [wbF_zero, edF2_ne (by kernel_rfl), wbF_zero, edF1_ne (by kernel_rfl), wbF_zero]
    refine Gd.mono (clone_any _ z 512 (wv W64) (hz2.er fun b hb => hfb b (by have := hzl b hb; omega)) (by omega) _) fun r h => ⟨h.2.1 (by omega), h.2.2.2⟩) ?_
  rintro y0 _ s3 hy0 k3 x3
  have hy03 := OwnRow.sub k3 hy0
  clear hy0 k3
  have n3 := x3.le
  have kx3 := (x3.keep xb (by omega)).trans kx
  have hy3 := hy2.ext x3
  obtain ⟨_, ⟨_, h0⟩ | ⟨m0, ty0, t0, rfl, hm01, hm02, hm03, hro0, hc0⟩⟩ := id hy03
  · omega
  have hl1 : ∀ (b nx : Nat), inF ((0, xb) :: (xb + 1, nx) :: forb b (rsOf [] 2 s2.nx s3.nx) []) xb = false := fun b nx => inF_ld (by omega)
  simp (maxDischargeDepth := 12) [evOp_call, sets, T.get_set, loadE_eq, getC_eq, getsB_succ, getsB_zero, kx3, e0, e1, e2, e3, e4, hl1]
  rw [cxOf_callL [(xb, xb + 1)] (by kernel_rfl) (by kernel_rfl) (looseW_at 4 (.p xb 0) (by simp [T.get_set]) (by kernel_rfl)) (fun x hx => by simp at hx; subst hx; simp [clashes_tmp, T.get_set, blkOf]) (fun p hp => by simp at hp; subst hp; rw [isRo_cs kx3]; decide), forb_step (by kernel_rfl) rfl]
  simp only [List.append_nil]
  refine Gd_lift (R := fun v s' => ∃ mb, v = .g [.sg mb 0 8 1] ∧ RdRow s' (.sg mb 0 8 1) 1 8 (wv B64) ∧ s3.nx < mb) (by
    rw [wbF_zero, edF2_ne (by kernel_rfl), wbF_zero, edF1_ne (by kernel_rfl), wbF_zero]
    refine Gd.mono (ibits_any _ g64 good64 (.sg m 0 512 1) W64 (hy3.rd.er fun b hb => hfb1 b (by
      rcases hb with ⟨_, _, _, e⟩ | ⟨_, _, _, e⟩
      · cases e
      · injection e with e; omega)) (capSg _ _ _ _) _) fun r h => ?_
    obtain ⟨mb, q1, q2, q3, q4⟩ := h
    exact ⟨⟨mb, q1, q2, q3⟩, q4⟩) ?_
  rintro _ _ s4 ⟨mb, rfl, hyb, hmb⟩ k4 x4
  have hyb4 := RdRow.sub k4 hyb
  clear hyb k4
  have n4 := x4.le
  simp (maxDischargeDepth := 12) [evOp_call, sets, T.get_set]
  rw [bldEd]
  simp (maxDischargeDepth := 12) [evOp_call, sets, T.get_set, tupK, newC_is, cellsOf, storeK_g, putB_eq, roT]
  obtain ⟨s5, hs5⟩ : ∃ s5 : St, s5 = ⟨s4.nx + 1, s4.h.set s4.nx (.cs 51 7 (((((((T.lf.set 0 (V.int .i64 g64.b)).set 1 (V.int .i64 g64.n)).set 2 (V.int .i64 g64.c)).set 3 (V.int .i64 g64.k)).set 4 (V.sg m 0 512 1)).set 5 (V.sg m0 0 512 1)).set 6 (V.sg mb 0 8 1)))⟩ := ⟨_, rfl⟩
  have x5 : Ext s4.nx s4 s5 := by rw [hs5]; exact (Ext.refl _ _).new (Nat.le_refl _) _
  have n5 : s5.nx = s4.nx + 1 := by rw [hs5]
  have hbx : ∃ t, s5.h.get s4.nx = some (.cs 51 7 t) ∧ t.get 0 = some (.int .i64 g64.b) ∧ t.get 1 = some (.int .i64 g64.n) ∧ t.get 2 = some (.int .i64 g64.c) ∧ t.get 3 = some (.int .i64 g64.k) ∧ t.get 4 = some (.sg m 0 512 1) ∧ t.get 5 = some (.sg m0 0 512 1) ∧ t.get 6 = some (.sg mb 0 8 1) := ⟨_, by rw [hs5]; exact T.get_set_same _ _ _, by simp [T.get_set], by simp [T.get_set], by simp [T.get_set], by simp [T.get_set], by simp [T.get_set], by simp [T.get_set], by simp [T.get_set]⟩
  rw [← hs5]
  clear hs5
  obtain ⟨tb, kb, b0, b1, b2, b3, b4, b5, b6⟩ := hbx
  have hy5 := (hy3.ext x4).ext x5
  have hy05 := (hy03.rd.ext x4).ext x5
  have hyb5 := hyb4.ext x5
  obtain ⟨_, ⟨_, h0⟩ | ⟨m', ty', t', e', hm1', hm2', hm3', hro', hc'⟩⟩ := id hy5
  · omega
  injection e' with e'
  subst e'
  refine ⟨m, ⟨by omega, by omega, by omega, by kernel_rfl, ⟨tb, kb, b0, b1, b2, b3, b4⟩, ⟨ty', t', hm3', hro', hc'⟩⟩, ⟨tb, _, _, kb, b5, b6, hy05, hyb5, ?_, ?_⟩, by omega, by omega, ?_⟩
  · rintro (⟨_, _, _, e⟩ | ⟨_, _, _, e⟩)
    · cases e
    · injection e with e; omega
  · rintro (⟨_, _, _, e⟩ | ⟨_, _, _, e⟩)
    · cases e
    · injection e with e; omega
  · exact (((x1.trans (x2.mono n1)).trans (x3.mono (by omega))).trans (x4.mono (by omega))).trans (x5.mono (by omega))
end Go.Proofs.Ytcjddojcfdeflaa
set_option linter.unusedSimpArgs false
set_option linter.unusedVariables false
namespace Go.Proofs.Ytcjddojcfdeflaa
open Go.RowKit Ev
theorem goodNo : goodN g64 noN := by decide
theorem rd_nil (s : St) (z : Nat) : RdRow s (.c (.slice none 0 0)) z 0 [] := ⟨by simp, .inl ⟨.inl rfl, by simp⟩⟩
theorem nilm (m : Nat) : ¬ rowIn (.c (.slice none 0 0)) m := by
  rintro (⟨_, _, _, e⟩ | ⟨_, _, _, e⟩) <;> cases e
theorem capNil : CapOk (.c (.slice none 0 0)) := fun _ _ _ _ e => by cases e
set_option maxRecDepth 20000 in
set_option maxHeartbeats 4000000 in
theorem eclear_any (st : St) (q m n : Nat) (hn : 3 ≤ n ∧ n ≤ 10) (W : List (BitVec 64)) (h : EdAt st q m g64 W) (len : Nat) (hlen : len ≤ 1200) (hW : Ws W n (N64 (kOf len)) (putN (F64 (kOf len) len))) (nt : Nat) :
    Gd (callL Try.prog ⟨false, [], 0, nt⟩ 9 [.p q 0, .int .i64 (n : Int)] st) fun r => r.1 = .int .i64 0 ∧ ∃ W', EdAt r.2 q m g64 W' ∧ Ws W' n B64 Zw ∧ Kp m st r.2 := by
  rw [Gd_callL Try.func9 rfl]
  obtain ⟨hgood, hfits, hneed0, hk20⟩ := fOk hlen
  have hNd : getNd (blkW W (atN g64 n)) = some (F64 (kOf len) len) := by rw [atN64 (by omega), hW.node]; exact getNd_put hfits
  simp [evOp_call, sets, T.get_set]
  refine Gd.mono (esetn_any st q m g64 good64 W h n ⟨by omega, by show (n : Int) ≤ 10; omega⟩ (F64 (kOf len) len) hNd hgood (by show (len : Int) ≤ _; omega) (okR64 hk20) noN goodNo fits_none (by decide) (okR64 (k := 0) (by omega)) (.c (.slice none 0 0)) (rd_nil _ _) capNil (nilm m) _) ?_
  rintro ⟨r, s'⟩ ⟨hr, hE', hK'⟩
  simp only at hr hE' hK'
  subst hr
  simp [evOp_call, sets, T.get_set]
  have hb : Ws (setNW g64 W n noN (F64 (kOf len) len).R) n B64 Zw := by
    have h1 := hW.set hn fits_none (F64 (kOf len) len).R
    rw [putN_none] at h1
    have h2 : setB (setB (N64 (kOf len)) false (allJ (F64 (kOf len) len).R)) true (allJ noN.R) = B64 := back64 hk20
    rw [h2] at h1
    exact h1
  exact ⟨_, hE', hb, hK'⟩
theorem eset0_any (st : St) (q m n : Nat) (hn : 3 ≤ n ∧ n ≤ 10) (W : List (BitVec 64)) (h : EdAt st q m g64 W) (hW : Ws W n B64 Zw) (nt : Nat) :
    Gd (callL Try.prog ⟨false, [], 0, nt⟩ 7 [.p q 0, .int .i64 (n : Int), ndV (F64 0 0) (.c (.slice none 0 0))] st) fun r => r.1 = .int .i64 0 ∧ ∃ W', EdAt r.2 q m g64 W' ∧ Ws W' n B64 (putN (F64 0 0)) ∧ Kp m st r.2 := by
  have f0 : FOk 0 := fOk (by omega)
  have hNd : getNd (blkW W (atN g64 n)) = some noN := by rw [atN64 (by omega), hW.node, ← putN_none]; exact getNd_put fits_none
  refine Gd.mono (esetn_any st q m g64 good64 W h n ⟨by omega, by show (n : Int) ≤ 10; omega⟩ noN hNd goodNo (by decide) (okR64 (k := 0) (by omega)) (F64 0 0) f0.good f0.fits (by decide) (okR64 (k := 0) (by omega)) (.c (.slice none 0 0)) (rd_nil _ _) capNil (nilm m) _) ?_
  rintro ⟨r, s'⟩ ⟨hr, hE', hK'⟩
  simp only at hr hE' hK'
  have hb : Ws (setNW g64 W n (F64 0 0) noN.R) n B64 (putN (F64 0 0)) := by
    have h1 : Ws _ n (N64 0) _ := hW.set hn f0.fits noN.R
    rw [N64_0] at h1
    exact h1
  exact ⟨hr, _, hE', hb, hK'⟩
end Go.Proofs.Ytcjddojcfdeflaa

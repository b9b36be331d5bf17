/-
  The law BooksPlays, walked.
-/
import Derived.Test.YtdoennkmcloalaaBsJ
set_option linter.unusedSimpArgs false
namespace Go.Proofs.Ytdoennkmcloalaa
open Go.RowKit Ev
def bpI2 (n : Nat) (x y0 : V) (q mh p i : Nat) (H : List (Option RecW)) (s5 : St) (e : Env) (s : St) : Prop := ∃ k, k ≤ n ∧ BpE n x y0 q mh p (mostW (H.take k)) i e ∧ e.get 20 = some (.int .i64 (k : Int)) ∧ s5 = s
def bpI3 (n : Nat) (x y0 : V) (q mh p : Nat) (m : BitVec 64) (i : Nat) (H : List (Option RecW)) (ra rh : V) (s5 : St) (e : Env) (s : St) : Prop := ∃ k, k ≤ n ∧ BpE n x y0 q mh p m i e ∧ e.get 21 = some ra ∧ e.get 22 = some rh ∧ e.get 23 = some (.int .i64 ((heldL H k).length : Int)) ∧ e.get 24 = some (wd 0#64) ∧ e.get 25 = some (.int .i64 (k : Int)) ∧ s5 = s
def bpI4 (n : Nat) (x y0 : V) (q mh p : Nat) (m : BitVec 64) (i : Nat) (A : List RcE) (ra : V) (s5 : St) (e : Env) (s : St) : Prop := ∃ j, j ≤ A.length ∧ BpE n x y0 q mh p m i e ∧ e.get 21 = some ra ∧ e.get 24 = some (wd (lastN A j)) ∧ e.get 26 = some (.int .i64 (j : Int)) ∧ Ext s5.nx s5 s
def bpI5 (n : Nat) (x y0 : V) (q mh p : Nat) (m : BitVec 64) (i j jj : Nat) (num : BitVec 64) (ra : V) (s6 : St) (e : Env) (s : St) : Prop := ∃ (a : Nat) (b : Bool), a ≤ n ∧ BpE n x y0 q mh p m i e ∧ e.get 21 = some ra ∧ e.get 24 = some (wd num) ∧ e.get 26 = some (.int .i64 (j : Int)) ∧ e.get 27 = some (.bool b) ∧ e.get 28 = some (.int .i64 (a : Int)) ∧ Ext s6.nx s6 s ∧ (jj < a → b = true)
def bpI1 (st : St) (n : Nat) (x y0 : V) (q mh N : Nat) (e : Env) (s : St) : Prop := ∃ i, i ≤ N ∧ bpJ st n x y0 q mh i i e s
set_option maxRecDepth 20000 in
set_option maxHeartbeats 16000000 in
theorem g_BooksPlays (st : St) (n : Int) (y : Nat → V) (l : List BAct) (hy : (rowC baC).at' st y l) :
    Gd (lawC Try.prog 97 ⟨false, [], 0, 0⟩ 15 [.int .i64 n, y 0] st) fun r => r.1 = .bool true := by
  rw [Gd_lawC Try.func15 rfl]
  by_cases c1 : n < 1
  · simp [evOp_call, sets, T.get_set, oracF_cons, rowC_len hy, c1]
  by_cases c2 : 8 < n
  · simp [evOp_call, sets, T.get_set, oracF_cons, rowC_len hy, c1, c2]
  by_cases c3 : (40 : Int) < (l.length : Int)
  · simp [evOp_call, sets, T.get_set, oracF_cons, rowC_len hy, c1, c2, c3]
  obtain ⟨n, rfl⟩ := Int.eq_ofNat_of_zero_le (show 0 ≤ n by omega)
  simp [evOp_call, sets, T.get_set, oracF_cons, rowC_len hy, c1, c2, c3]
  refine Gd.mono (shelf_any st n (by omega) _) ?_
  rintro ⟨r, s0⟩ ⟨x, q, v, hr, hv, ha, hx, hxc⟩
  simp only at hr hv hx
  subst hr
  have hs : Shelf n (absV v) (List.replicate n none) := by rw [ha]; exact Shelf.zero n
  simp [evOp_call, sets, T.get_set, oracF_cons, tupK]
  refine Gd.mono (bopen_any s0 q v hv.at' x n (by omega) hx _ hs _) ?_
  rintro ⟨r, s1⟩ ⟨p, z, hr, e1, hb, hp, hzn⟩
  simp only at hr e1 hb
  subst hr
  have hv1 := hv.more e1
  have hx1 := hx.more e1
  simp [evOp_call, sets, T.get_set, oracF_cons, tupK]
  refine Gd_make (fun k => el148 k) io152 (fun k => ze152 k) (i := .i64) (i' := .i64) (n := n) (q := n) (by simp [T.get_set]) (by simp [T.get_set]) (by omega) (by omega) ?_
  simp [evOp_call, sets, T.get_set, oracF_cons, tupK]
  have hx2 := fun b => (Ext.refl s1.nx s1).new (Nat.le_refl _) b
  refine Gd_loop (bpI1 st n x (y 0) q s1.nx l.length) (fun e _ => muAt 11 l.length e) ?_ ?_
  · refine ⟨0, Nat.zero_le _, p, z, v, mostW (List.replicate n none), List.replicate n none, List.replicate n (0#64, nilV, []), ⟨by simp [T.get_set], by simp [T.get_set], by simp [T.get_set], by simp [T.get_set], by simp [T.get_set], by simp [T.get_set], by rw [mostW_none]; simp [T.get_set]; rfl, by simp [T.get_set]⟩, ?_, ⟨hs, by simp [recO], ⟨fun i r hi => ?_, fun i j r r' hi => ?_⟩⟩, by rw [mostW_none]; exact Nat.le_refl _⟩
    rotate_left
    · have := lt_of_get hi; simp at this; simp [this] at hi
    · have := lt_of_get hi; simp at this; simp [this] at hi
    have hle := hv.ext.le
    have hle1 := e1.le
    refine ⟨hv1.more (hx2 _), hb.more (hx2 _), hx1.more (hx2 _), ⟨Nat.lt_succ_self _, 152, sets (rep [V.int .u64 0, nilV] n) 0 .lf, ?_, by decide, fun j r hj => ?_⟩, fun e he => ?_, by simp, fun e => by have := hv1.at'.own_lt e; omega, fun e => by have := hb.lt; omega, fun e => by have := hx1.1.nm_lt e; omega, fun e => by have := hb.row.1.nm_lt e; omega, by omega, by omega, fun e => by have := hx.1.nm_lt e; omega⟩
    · have h2 : (rep [V.int .u64 0, nilV] n).length = (List.replicate n ((0#64, nilV, []) : RcE)).length * 2 := by
        rw [← rwE_length, rwE_rep, wd_0]
      rw [← h2]; exact T.get_set_same _ _ _
    · have hjl := lt_of_get hj
      simp at hjl
      rw [List.getElem?_replicate, if_pos hjl] at hj
      injection hj with hj
      subst hj
      obtain ⟨a0, a1⟩ := rwE_at (List.replicate n (0#64, nilV, [])) j (0#64, nilV, []) (by rw [List.getElem?_replicate, if_pos hjl])
      rw [rwE_rep] at a0 a1
      have b0 := lt_of_get a0
      have b1 := lt_of_get a1
      rw [wd_0, get_sets, get_sets, if_pos ⟨by omega, by omega⟩, if_pos ⟨by omega, by omega⟩]
      exact ⟨by simpa using a0, by simpa using a1, rfl⟩
    · obtain rfl := List.eq_of_mem_replicate he
      exact ⟨(OwnRow.nil 0 _ 2).rd, Nat.zero_le _, fun k hk => (nm_nil hk).elim⟩
  have hmh : s0.nx ≤ s1.nx := e1.le
  clear hx2 hx1 hv1 hb hp e1 hs hx ha hv hzn
  rintro e s ⟨i, hi, p, z, v, m, H, E, ⟨g0, g1, g5, g6, g7, g9, g10, g11⟩, hS, hH, hmi⟩
  by_cases hlt : i < l.length
  case neg =>
    obtain rfl : i = l.length := by omega
    simp [evOp_call, T.get_set, g0, g1, g11, rowC_len ((rowC baC).ext hy hS.live.ext), sets]
  have hlt' : (i : Int) < l.length := by omega
  have hwi := wrap_nat (n := i) (by omega)
  obtain ⟨⟨op, c, K⟩, hl⟩ : ∃ r, l[i]? = some r := ⟨_, List.getElem?_eq_getElem hlt⟩
  obtain ⟨mt, o, ty, sz, tr, yy, hid, hmt, hgt, hcl, hat⟩ := rowC_old un141 io150 hy hl
  have t0 : tr.get o = some (.int .i64 op) := by have := hcl 0 (by decide); rw [hat.1.1] at this; exact this
  have t1 : tr.get (o + 1) = some (.int .i64 c) := (hcl 1 (by decide)).trans (congrArg some hat.2.1.1)
  have t2 : tr.get (o + 1 + 1) = some (yy 2) := hcl 2 (by decide)
  have hK : RdRow st (yy 2) 2 K.length (iw K) := rowC_pairs hat.2.2
  have hcr : -9223372036854775808 ≤ c ∧ c ≤ 9223372036854775807 := hat.2.1.2
  have hone := hK.one
  have hmu : ∀ e' : Env, e'.get 11 = some (.int .i64 ((i + 1 : Nat) : Int)) → muAt 11 l.length e' < muAt 11 l.length e := fun e' h => muAt_lt g11 h hlt
  refine Gd_seq_join (JT fun e' s' => BpE n x (y 0) q s1.nx p m i e' ∧ s = s') ?_ ?_
  · simp [evOp_call, T.get_set, g0, g1, g11, rowC_len ((rowC baC).ext hy hS.live.ext), hlt']
    exact ⟨_, _, rfl, by constructor <;> simp [T.get_set, g0, g1, g5, g6, g7, g9, g10, g11], rfl⟩
  clear g0 g1 g5 g6 g7 g9 g10 g11
  rintro _ ⟨e, _, rfl, hE, rfl⟩
  rw [seqC_n, Gd_seq, Gd_block]
  have hst := hS.live.ext.le
  have hx2 := fun b => (Ext.refl s.nx s).new (Nat.le_refl _) b
  refine Gd_seq_join (JT fun e' s' => BpE n x (y 0) q s1.nx p m i e' ∧ e'.get 12 = some (.p s.nx 0) ∧ BpC st q n x s1.nx p z v m E s' ∧ ActAt s' q v p s1.nx s.nx op c (yy 2)) ?_ ?_
  · obtain ⟨g0, g1, g5, g6, g7, g9, g10, g11⟩ := hE
    simp [evOp_call, T.get_set, g0, g1, g11, hid, loadE_eq, getC_eq, hgt s hS.live.ext, getsB_succ, getsB_zero, t0, t1, t2, newC_is, cellsOf, storeK_g, putB_eq, roT, sets, hone]
    exact ⟨_, _, rfl, by constructor <;> simp [T.get_set, g0, g1, g5, g6, g7, g9, g10, g11], by simp [T.get_set], hS.more (hx2 _), ⟨Nat.lt_succ_self _, fun e => by have := hS.live.at'.own_lt e; omega, fun e => by have := hS.bs.lt; omega, fun e => by have := hS.rc.1; omega, _, T.get_set_same _ _ _, by simp [T.get_set], by simp [T.get_set], by simp [T.get_set]⟩⟩
  clear hE
  rintro _ ⟨e, s2, rfl, hE, g12, hC, hA⟩
  rw [seqC_n]
  by_cases c4 : (20 : Int) < (K.length : Int)
  · obtain ⟨tA, k0, k1, k2, k3⟩ := hA.blk
    simp [evOp_call, T.get_set, g12, loadE_eq, getC_eq, k0, k1, k2, k3, (hC.live.row hK).1.lenS, c4, sets]
  refine Gd_seq_join (JT fun e' s' => BpE n x (y 0) q s1.nx p m i e' ∧ e'.get 12 = some (.p s.nx 0) ∧ s2 = s') ?_ ?_
  · obtain ⟨g0, g1, g5, g6, g7, g9, g10, g11⟩ := hE
    obtain ⟨tA, k0, k1, k2, k3⟩ := hA.blk
    simp [evOp_call, T.get_set, g12, loadE_eq, getC_eq, k0, k1, k2, k3, (hC.live.row hK).1.lenS, c4, sets]
    exact ⟨_, _, rfl, by constructor <;> simp [T.get_set, g0, g1, g5, g6, g7, g9, g10, g11], by simp [T.get_set, g12], rfl⟩
  clear hE g12
  rintro _ ⟨e, _, rfl, hE, g12, rfl⟩
  rw [seqC_n]
  obtain ⟨th, hth⟩ : ∃ th, th = decide (0 ≤ c ∧ c < (n : Int)) := ⟨_, rfl⟩
  refine Gd_seq_join (JT fun e' s' => BpE n x (y 0) q s1.nx p m i e' ∧ e'.get 12 = some (.p s.nx 0) ∧ e'.get 13 = some (.bool th) ∧ s2 = s') ?_ ?_
  · obtain ⟨g0, g1, g5, g6, g7, g9, g10, g11⟩ := hE
    obtain ⟨tA, k0, k1, k2, k3⟩ := hA.blk
    by_cases c5 : 0 ≤ c
    · have ht : th = decide (c < (n : Int)) := by rw [hth]; simp [c5]
      simp [evOp_call, T.get_set, g12, g0, loadE_eq, getC_eq, k0, k1, k2, k3, c5, sets]
      exact ⟨_, _, rfl, by constructor <;> simp [T.get_set, g0, g1, g5, g6, g7, g9, g10, g11], by simp [T.get_set, g12], by simp [T.get_set, ht], rfl⟩
    · have ht : th = false := by rw [hth]; simp [c5]
      simp [evOp_call, T.get_set, g12, g0, loadE_eq, getC_eq, k0, k1, k2, k3, c5, sets]
      exact ⟨_, _, rfl, by constructor <;> simp [T.get_set, g0, g1, g5, g6, g7, g9, g10, g11], by simp [T.get_set, g12], by simp [T.get_set, ht], rfl⟩
  clear hE g12
  rintro _ ⟨e, _, rfl, hE, g12, g13, rfl⟩
  rw [seqC_n]
  refine Gd_seq_join (JT (bpJ st n x (y 0) q s1.nx i (i + 1))) ?_ ?_
  · obtain ⟨g0, g1, g5, g6, g7, g9, g10, g11⟩ := hE
    have hthc : 0 ≤ c ∧ c < (n : Int) → th = true := fun h => by rw [hth]; exact decide_eq_true h
    have hthn : ¬ (0 ≤ c ∧ c < (n : Int)) → th = false := fun h => by rw [hth]; exact decide_eq_false h
    obtain ⟨tA, k0, k1, k2, k3⟩ := hA.blk
    by_cases o1 : op = 1
    · subst o1
      simp [evOp_call, T.get_set, g7, g12, g13, loadE_eq, getC_eq, k0, k1, k2, k3, oracF_cons]
      refine Gd.mono (bsdone_any s2 q v hC.live.at' p z n (by omega) m hC.bs H hH.sh c _) ?_
      rintro ⟨r, s3⟩ ⟨v3, er, hr, hs3, hor⟩
      simp only at hr hs3
      subst hr
      have hst3 : BsStep q p v v3 s2 s3 := ⟨s3, hs3, .inl rfl⟩
      have hC3 := hC.step hst3 (hC.bs.step hs3)
      obtain ⟨tA3, k03, k13, k23, k33⟩ := (hA.step hst3).blk
      rcases hor with ⟨hno, rfl, ha3⟩ | ⟨hyes, he, ha3⟩
      · have hf := hthn hno
        rw [hf] at g13
        simp [evOp_call, T.get_set, g13, g7, g9, g12]
        exact ⟨_, _, rfl, p, z, v3, m, H, E, by constructor <;> simp [T.get_set, g0, g1, g5, g6, g7, g9, g10, g11], hC3, ⟨by rw [ha3]; exact hH.sh, hH.hE, hH.num⟩, by omega⟩
      · have hf := hthc hyes
        rw [hf] at g13
        obtain ⟨ci, rfl⟩ := Int.eq_ofNat_of_zero_le hyes.1
        have hci : ci < n := by omega
        obtain ⟨p1, p2⟩ := hH.sh.clear hci
        rw [p1] at he
        subst he
        rw [← ha3] at p2
        obtain ⟨hm3, tyh, thh, hgh, hroh, hch⟩ := id hC3.rc
        have hrz : ci * 2 + 2 ≤ E.length * 2 := by rw [hC3.len]; omega
        simp [evOp_call, T.get_set, g13, g7, g9, g12, loadE_eq, getC_eq, k03, k13, k23, k33, hgh, hci, storeK_g, putB_eq, hrz, hroh, sets]
        have hP := hC3.put hci (a := 0#64) (w := nilV) (K := []) (OwnRow.nil 0 _ 2).rd (Nat.zero_le _) (fun k hk => (nm_nil hk).elim) hgh
        rw [← wd_0] at hP
        exact ⟨_, _, rfl, p, z, v3, m, H.set ci none, E.set ci (0#64, nilV, []), by constructor <;> simp [T.get_set, g0, g1, g5, g6, g7, g9, g10, g11], hP, ⟨p2, by rw [List.map_set, hH.hE]; rfl, hH.num.off ci⟩, by omega⟩
    by_cases o0 : op = 0
    · subst o0
      simp [evOp_call, T.get_set, g7, g10, g12, g13, loadE_eq, getC_eq, k0, k1, k2, k3, oracF_cons]
      refine Gd.mono (writes15 s2 [] (fun _ _ => rfl) (yy 2) K (hC.live.row hK).1 (by omega) (fun _ _ => rfl) _) ?_
      rintro ⟨w, s3⟩ ⟨hw3, e3⟩
      simp only at hw3 e3
      have hC3 := hC.more e3
      have hA3 := hA.more e3
      have hwo := hw3.rd.one
      have hx4 := fun b => (Ext.refl s3.nx s3).new (Nat.le_refl _) b
      have hC4 := fun b => hC3.more (hx4 b)
      have hA4 := fun b => hA3.more (hx4 b)
      have hne3 : ¬ s3.nx = s.nx := by have := hA3.lt; omega
      obtain ⟨tA3, k03, k13, k23, k33⟩ := hA3.blk
      simp [evOp_call, T.get_set, g7, g10, g12, g13, loadE_eq, getC_eq, getsB_succ, getsB_zero, oracF_cons, newC_is, cellsOf, storeK_g, putB_eq, roT, sets, hwo, wd_one]
      obtain ⟨bx, hbx⟩ : ∃ bx, bx = B.cs 152 2 ((((T.lf.set 0 (V.int .u64 0)).set 1 (V.c (Value.slice none 0 0))).set 0 (wd (nextW m))).set 1 w) := ⟨_, rfl⟩
      rw [← hbx]
      refine Gd.mono (rputR_any _ (nextW m) w K (hw3.rd.ext (hx4 bx)) (by omega) _) ?_
      rintro ⟨y15, s5⟩ ⟨hy15, e5⟩
      simp only at hy15 e5
      have hC5 := (hC4 bx).more e5
      have hA5 := (hA4 bx).more e5
      have hw5 := (hw3.rd.ext (hx4 bx)).ext e5
      have hB5 : BoxAt s5 q v s3.nx bx := (BoxAt.new hC3.live.at' bx).more e5
      obtain ⟨tA5, k05, k15, k25, k35⟩ := hA5.blk
      simp [evOp_call, T.get_set, g7, g10, g12, g13, loadE_eq, getC_eq, getsB_succ, getsB_zero, oracF_cons, k05, k15, k25, k35, hone]
      refine Gd.mono (bskeep_any s5 q v hC5.live.at' p z n (by omega) m hC5.bs H hH.sh c (yy 2) K (hC5.live.row hK).1 (by omega) _) ?_
      rintro ⟨r, s6⟩ ⟨v6, num, er, m6, hr, hst6, hb6, hor⟩
      simp only at hr hst6 hb6
      subst hr
      have hC6 := hC5.step hst6 hb6
      obtain ⟨tA6, k06, k16, k26, k36⟩ := (hA5.step hst6).blk
      have hp3 : s3.nx ≠ p := by have := hC3.bs.lt; omega
      have kb6 : s6.h.get s3.nx = some bx := (hst6.get hB5.lt hB5.no hp3).trans hB5.get
      have hwn : ∀ k, Nm w k → ¬ MOw q v6 k ∧ k ≠ p ∧ k ≠ s1.nx := fun k hk => by
        have h1 := hw3.nm_ge hk
        have h2 := hw5.nm_lt hk
        have h3 : ¬ MOw q v k := fun e => by have := hC.live.at'.own_lt e; omega
        exact ⟨hst6.no h2 h3, fun e => by have := hC.bs.lt; omega, fun e => by have := hC.rc.1; omega⟩
      have hw6 : RdRow s6 w 2 K.length (iw K) := hw5.other hst6.le fun j hj => hst6.get (hw5.nm_lt hj) (fun e => by have := hC.live.at'.own_lt e; have := hw3.nm_ge hj; omega) (fun e => by have := hC.bs.lt; have := hw3.nm_ge hj; omega)
      have hm40 : m.toNat ≤ 1000 := by omega
      have hnn := next_ne hm40
      have hyl : ∀ s, lenS s y15 = some (.int .i64 ((putR (nextW m) K).length : Int), s) := fun s => hy15.lenS s
      rcases hor with ⟨hno, rfl, rfl, rfl, ha6⟩ | ⟨hyes, he, ha6, hok, hbad⟩
      · have hf := hthn hno
        rw [hf] at g13
        simp [evOp_call, T.get_set, g13, g7, g9, g10, g12, wd_0]
        exact ⟨_, _, rfl, p, z, v6, m6, H, E, by constructor <;> simp [T.get_set, g0, g1, g5, g6, g7, g9, g10, g11], hC6, ⟨by rw [ha6]; exact hH.sh, hH.hE, hH.num⟩, by omega⟩
      have hf := hthc hyes
      rw [hf] at g13
      obtain ⟨ci, rfl⟩ := Int.eq_ofNat_of_zero_le hyes.1
      have hci : ci < n := by omega
      obtain ⟨hm6, tyh, thh, hgh, hroh, hch⟩ := id hC6.rc
      have hrz : ci * 2 + 2 ≤ E.length * 2 := by rw [hC6.len]; omega
      obtain ⟨a, hEa⟩ : ∃ a, E[ci]? = some a := ⟨_, List.getElem?_eq_getElem (by rw [hC6.len]; exact hci)⟩
      obtain ⟨d0, d1, _⟩ := hch ci a hEa
      by_cases hfit : fitsR (nextW m) K ∧ (putR (nextW m) K).length ≤ 24
      case neg =>
        rw [keep_bad hfit] at he ha6
        obtain rfl : er = 1 := he
        have ha6 : absV v6 = absV v := ha6
        obtain ⟨rfl, rfl⟩ := hbad (by decide)
        by_cases hl0 : (putR (nextW m6) K).length = 0
        · have hnil := List.length_eq_zero_iff.1 hl0
          simp [evOp_call, T.get_set, g13, g7, g9, g10, g12, wd_0, hyl, hl0, hnil]
          exact ⟨_, _, rfl, p, z, v6, m6, H, E, by constructor <;> simp [T.get_set, g0, g1, g5, g6, g7, g9, g10, g11], hC6, ⟨by rw [ha6]; exact hH.sh, hH.hE, hH.num⟩, by omega⟩
        · have hl24 : (24 : Int) < ((putR (nextW m6) K).length : Int) := by
            have : ¬ (putR (nextW m6) K).length ≤ 24 := fun h => hfit ⟨Classical.byContradiction fun hf => hl0 (putR_nil.2 hf), h⟩
            omega
          have hl0' : ¬ ((putR (nextW m6) K).length : Int) = 0 := by omega
          have hnil : ¬ putR (nextW m6) K = [] := fun e => hl0 (by rw [e]; rfl)
          simp [evOp_call, T.get_set, g13, g7, g9, g10, g12, wd_0, hyl, hl0, hl0', hl24, hnil]
          exact ⟨_, _, rfl, p, z, v6, m6, H, E, by constructor <;> simp [T.get_set, g0, g1, g5, g6, g7, g9, g10, g11], hC6, ⟨by rw [ha6]; exact hH.sh, hH.hE, hH.num⟩, by omega⟩
      have hpl := putR_length hfit.1
      have hl0 : ¬ (putR (nextW m) K).length = 0 := by omega
      have hl0' : ¬ ((putR (nextW m) K).length : Int) = 0 := by omega
      have hl24 : ¬ (24 : Int) < ((putR (nextW m) K).length : Int) := by have := hfit.2; omega
      have hnil : ¬ putR (nextW m) K = [] := fun e => hl0 (by rw [e]; rfl)
      have hHa := hH.at' hEa
      by_cases haz : a.1 = 0#64
      case neg =>
        have hHs : H[ci]? = some (some (a.1, a.2.2)) := by rw [hHa]; unfold recO; rw [if_neg haz]
        rw [hH.sh.busy hHs hfit.1 hfit.2] at he ha6
        obtain rfl : er = 15 := he
        have ha6 : absV v6 = absV v := ha6
        obtain ⟨rfl, rfl⟩ := hbad (by decide)
        simp [evOp_call, T.get_set, g13, g7, g9, g10, g12, wd_0, hyl, hl0, hl0', hl24, hnil, loadE_eq, getC_eq, k06, k16, k26, k36, hgh, hci, d0, haz]
        exact ⟨_, _, rfl, p, z, v6, m6, H, E, by constructor <;> simp [T.get_set, g0, g1, g5, g6, g7, g9, g10, g11], hC6, ⟨by rw [ha6]; exact hH.sh, hH.hE, hH.num⟩, by omega⟩
      have hHn : H[ci]? = some none := by rw [hHa]; unfold recO; rw [if_pos haz]
      obtain ⟨p1, p2⟩ := hH.sh.keep hHn hfit.1 hfit.2
      rw [p1] at he
      subst he
      obtain ⟨rfl, rfl⟩ := hok rfl
      rw [← ha6] at p2
      rw [haz] at d0
      subst hbx
      simp [evOp_call, T.get_set, g13, g7, g9, g10, g12, hyl, hl0, hl0', hl24, hnil, loadE_eq, getC_eq, getsB_succ, getsB_zero, k06, k16, k26, k36, hgh, hci, d0, kb6, storeK_g, putB_eq, hrz, hroh, sets, hwo, wd_one, next_succ hm40]
      have hP := hC6.put hci (a := nextW m) (w := w) (K := K) hw6 (by omega) hwn hgh
      exact ⟨_, _, rfl, p, z, v6, nextW m, H.set ci (some (nextW m, K)), E.set ci (nextW m, w, K), by constructor <;> simp [T.get_set, g0, g1, g5, g6, g7, g9, g10, g11], hP, ⟨p2, by rw [List.map_set, hH.hE]; unfold recO; rw [if_neg hnn], hH.num.on hm40 ci K⟩, by rw [next_toNat hm40]; omega⟩
    have hoff : v.off = false := hH.sh.c.ok.off
    have hR : v.R.length = 4 * n := by rw [← absLen]; exact hH.sh.c.ok.len
    simp [evOp_call, T.get_set, g5, g6, g7, g10, g12, g13, loadE_eq, getC_eq, k0, k1, k2, k3, oracF_cons, o0, o1]
    refine Gd.mono (mcrash_on s2 q v hC.live.at' hoff _ [] (fun st' v' hs _ _ => (OwnRow.nil 0 _ 1).rd) (by omega) _) ?_
    rintro ⟨r, s3⟩ ⟨hr, hs3⟩
    simp only at hr hs3
    subst hr
    have hC3 := hC.step ⟨s3, hs3, .inl rfl⟩ (hC.bs.step hs3)
    simp [evOp_call, T.get_set, g5, g6, g7, g10, g12, g13, oracF_cons]
    refine Gd.mono (mon_any s3 q _ hC3.live.at' _) ?_
    rintro ⟨r, s4⟩ ⟨hr, hs4⟩
    simp only at hr hs4
    subst hr
    obtain ⟨v5, hv5e⟩ : ∃ v5, v5 = ({ v.fell [] with off := false } : MV) := ⟨_, rfl⟩
    rw [← hv5e] at hs4
    have hA5 : absV v5 = { (absV v).fell [] with off := false } := by
      rw [hv5e, ← abs_fell]; rfl
    have hsh := hH.sh.fallen hA5
    have hC4 := hC3.step ⟨s4, hs4, .inl rfl⟩ (hC3.bs.step hs4)
    simp [evOp_call, T.get_set, g5, g6, g7, g10, g12, g13, oracF_cons]
    refine Gd.mono (bopen_any s4 q v5 hC4.live.at' x n (by omega) hC4.row H hsh _) ?_
    rintro ⟨r, s5⟩ ⟨p5, z5, hr, e5, hb5, hp5, hzn5⟩
    simp only at hr e5 hb5
    subst hr
    have hC5 : BpC st q n x s1.nx p5 z5 v5 (mostW H) E s5 := by
      have h := hC4.more e5
      have hl4 := hC4.live.ext.le
      have hml := hC4.rc.1
      exact ⟨h.live, hb5, h.row, h.rc, fun e he => ⟨(h.each e he).1, (h.each e he).2.1, fun k hk => ⟨((h.each e he).2.2 k hk).1, fun e2 => by have := (hC4.each e he).1.nm_lt hk; omega, ((h.each e he).2.2 k hk).2.2⟩⟩, h.len, h.h1, by omega, h.h3, fun e2 => by have := hzn5 _ e2; omega, h.h5, by omega, fun e2 => by have := hC4.row.1.nm_lt e2; omega⟩
    have hN := hH.num.most
    simp [evOp_call, T.get_set, g0, g1, g5, g6, g7, g9, g10, g11, g12, g13, oracF_cons, tupK]
    refine Gd_loop (bpI2 n x (y 0) q s1.nx p5 i H s5) (fun e _ => muAt 20 n e) ?_ ?_
    · exact ⟨0, Nat.zero_le _, by constructor <;> (simp [T.get_set, g0, g1, g5, g6, g7, g9, g10, g11]; try rfl), by simp [T.get_set], rfl⟩
    clear g0 g1 g5 g6 g7 g9 g10 g11 g12 g13
    rintro e _ ⟨k, hk, ⟨g0, g1, g5, g6, g7, g9, g10, g11⟩, g20, rfl⟩
    by_cases hkl : k < n
    case neg =>
      obtain rfl : k = n := by omega
      rw [List.take_of_length_le (by rw [hH.sh.len]; exact Nat.le_refl _)] at g10
      simp [evOp_call, T.get_set, g0, g20]
      exact ⟨_, _, rfl, p5, z5, v5, mostW H, H, E, by constructor <;> simp [T.get_set, g0, g1, g5, g6, g7, g9, g10, g11], hC5, ⟨hsh, hH.hE, hN.1⟩, by omega⟩
    have hkl' : (k : Int) < n := by omega
    have hwk := wrap_nat (n := k) (by omega)
    obtain ⟨hm5, tyh, thh, hgh, hroh, hch⟩ := id hC5.rc
    obtain ⟨a, hEa⟩ : ∃ a, E[k]? = some a := ⟨_, List.getElem?_eq_getElem (by rw [hC5.len]; exact hkl)⟩
    obtain ⟨d0, d1, _⟩ := hch k a hEa
    obtain ⟨r0, hr0, hnum0⟩ := hH.hn hEa
    have hmt := mostW_take hr0
    rw [hnum0] at hmt
    simp [evOp_call, T.get_set, g0, g9, g10, g20, hkl', hkl, loadE_eq, getC_eq, hgh, d0]
    have hMb := hH.num.takes (k := k) (by rw [hH.sh.len]; omega)
    by_cases hge : nextW (mostW (H.take k)) ≤ a.1
    · have ham : a.1.toNat ≤ 1000 := by
        rw [← hnum0]
        cases r0 with
        | none => exact Nat.zero_le _
        | some r => have := hH.num.num k r hr0; show r.1.toNat ≤ _; omega
      have hmx := max_ge (by omega) ham hge
      rw [← hmt] at hmx
      simp [evOp_call, T.get_set, g0, g9, g10, g20, hkl', hkl, loadE_eq, getC_eq, hgh, d0, hge, hmx, hwk]
      exact ⟨⟨k + 1, hkl, by constructor <;> simp [T.get_set, g0, g1, g5, g6, g7, g9, g10, g11], by simp [T.get_set], rfl⟩, muAt_lt g20 (by simp [T.get_set]) hkl⟩
    · have hmx := max_not (by omega) hge
      rw [← hmt] at hmx
      simp [evOp_call, T.get_set, g0, g9, g10, g20, hkl', hkl, loadE_eq, getC_eq, hgh, d0, hge, hwk]
      exact ⟨⟨k + 1, hkl, by rw [hmx]; constructor <;> simp [T.get_set, g0, g1, g5, g6, g7, g9, g10, g11], by simp [T.get_set], rfl⟩, muAt_lt g20 (by simp [T.get_set]) hkl⟩
  clear hC hA hE g12 g13 hS hH hmi hid hgt hcl hat t0 t1 t2 hK hone
  rintro _ ⟨e, s3, rfl, p, z, v, m, H, E, ⟨g0, g1, g5, g6, g7, g9, g10, g11⟩, hC, hH, hm⟩
  rw [seqC_n]
  simp [evOp_call, T.get_set, g7, oracF_cons]
  refine Gd.mono (bsall_any s3 q v hC.live.at' p z n (by omega) m hC.bs H hH.sh _) ?_
  rintro ⟨ra, s4⟩ ⟨A, hrow, e4, heach, hperm, hsrt, hA8, hAf, hAfe⟩
  simp only at hrow e4 heach hAf hAfe
  have hC4 := hC.more e4
  simp [evOp_call, T.get_set, g7, oracF_cons]
  refine Gd.mono (bsheld_any s4 q v hC4.live.at' p z n (by omega) m hC4.bs H hH.sh _) ?_
  rintro ⟨rh, s5⟩ ⟨hheld, e5⟩
  simp only at hheld e5
  have hC5 := hC4.more e5
  have hrow5 := hrow.ext e5
  have hAl : (heldL H n).length = A.length := by
    rw [heldL_len H n (by rw [hH.sh.len]; exact Nat.le_refl _), List.take_of_length_le (by rw [hH.sh.len]; exact Nat.le_refl _), ← hperm.length_eq, List.length_map]
  simp [evOp_call, T.get_set, g0, g1, g5, g6, g7, g9, g10, g11, oracF_cons]
  refine Gd_loop (bpI3 n x (y 0) q s1.nx p m i H ra rh s5) (fun e _ => muAt 25 n e) ?_ ?_
  · exact ⟨0, Nat.zero_le _, by constructor <;> simp [T.get_set, g0, g1, g5, g6, g7, g9, g10, g11], by simp [T.get_set], by simp [T.get_set], by simp [T.get_set, heldL], by simp [T.get_set], by simp [T.get_set], rfl⟩
  clear g0 g1 g5 g6 g7 g9 g10 g11
  rintro e _ ⟨k, hk, ⟨g0, g1, g5, g6, g7, g9, g10, g11⟩, g21, g22, g23, g24, g25, rfl⟩
  by_cases hkl : k < n
  case pos =>
    have hkl' : (k : Int) < n := by omega
    have hwk := wrap_nat (n := k) (by omega)
    have hhe := heldL_le H k
    have hwh := wrap_nat (n := (heldL H k).length) (by omega)
    obtain ⟨hm5, tyh, thh, hgh, hroh, hch⟩ := id hC5.rc
    obtain ⟨a, hEa⟩ : ∃ a, E[k]? = some a := ⟨_, List.getElem?_eq_getElem (by rw [hC5.len]; exact hkl)⟩
    obtain ⟨d0, d1, _⟩ := hch k a hEa
    have hHa := hH.at' hEa
    by_cases haz : a.1 = 0#64
    · have hHn : H[k]? = some none := by rw [hHa]; unfold recO; rw [if_pos haz]
      rw [haz] at d0
      simp [evOp_call, T.get_set, g0, g9, g10, g25, hkl', hkl, loadE_eq, getC_eq, hgh, d0, hwk]
      exact ⟨⟨k + 1, hkl, by constructor <;> simp [T.get_set, g0, g1, g5, g6, g7, g9, g10, g11], by simp [T.get_set, g21], by simp [T.get_set, g22], by rw [heldL_none hHn]; simp [T.get_set, g23], by simp [T.get_set, g24], by simp [T.get_set], rfl⟩, muAt_lt g25 (by simp [T.get_set]) hkl⟩
    · have hHs : H[k]? = some (some (a.1, a.2.2)) := by rw [hHa]; unfold recO; rw [if_neg haz]
      have hat := heldL_at H hHs n hkl
      have hal := lt_of_get hat
      have hal' : ((heldL H k).length : Int) < (heldL H n).length := by omega
      have hal2 : ¬ (heldL H n).length ≤ (heldL H k).length := by omega
      obtain ⟨mb, o, ty, sz, tr, hid, hmb, hg, ho, hcl⟩ := hheld.idx (st := s5) un76 io3 hal
      have t0 : tr.get o = some (.int .i64 (k : Int)) := hcl 0 _ (by omega) (by simp [ivs, hat])
      simp [evOp_call, T.get_set, g0, g9, g10, g22, g23, g25, hkl', hkl, loadE_eq, getC_eq, hgh, d0, haz, hwk, hwh, hheld.lenS, hal, hal', hal2, hid, hg, t0]
      exact ⟨⟨k + 1, hkl, by constructor <;> simp [T.get_set, g0, g1, g5, g6, g7, g9, g10, g11], by simp [T.get_set, g21], by simp [T.get_set, g22], by rw [heldL_some hHs]; simp [T.get_set], by simp [T.get_set, g24], by simp [T.get_set], rfl⟩, muAt_lt g25 (by simp [T.get_set]) hkl⟩
  obtain rfl : k = n := by omega
  simp [evOp_call, T.get_set, g0, g7, g10, g21, g22, g23, g25, hheld.lenS, hrow5.lenS, hAl, oracF_cons]
  refine Gd.mono (bnext_any s5 q p k v z m hC5.bs _) ?_
  rintro _ rfl
  simp [evOp_call, T.get_set, g0, g1, g5, g6, g7, g9, g10, g11, g21, g22, g23, g24, oracF_cons]
  refine Gd_loop (bpI4 k x (y 0) q s1.nx p m i A ra s5) (fun e _ => muAt 26 A.length e) ?_ ?_
  · exact ⟨0, Nat.zero_le _, by constructor <;> simp [T.get_set, g0, g1, g5, g6, g7, g9, g10, g11], by simp [T.get_set, g21], by simp [T.get_set, g24, lastN], by simp [T.get_set], Ext.refl _ _⟩
  clear g0 g1 g5 g6 g7 g9 g10 g11 g21 g22 g23 g24 g25
  rintro e s6 ⟨j, hj, ⟨g0, g1, g5, g6, g7, g9, g10, g11⟩, g21, g24, g26, e6⟩
  have hC6 := hC5.more e6
  have hrow6 := hrow5.ext e6
  by_cases hjl : j < A.length
  case neg =>
    obtain rfl : j = A.length := by omega
    simp [evOp_call, T.get_set, g11, g21, g26, hrow6.lenS, hwi]
    exact ⟨⟨i + 1, hlt, p, z, v, m, H, E, by constructor <;> simp [T.get_set, g0, g1, g5, g6, g7, g9, g10, g11], hC6, hH, hm⟩, hmu _ (by simp [T.get_set])⟩
  have hjl' : (j : Int) < A.length := by omega
  have hwj := wrap_nat (n := j) (by omega)
  obtain ⟨⟨num, w, K'⟩, hAj⟩ : ∃ a, A[j]? = some a := ⟨_, List.getElem?_eq_getElem hjl⟩
  obtain ⟨a0, a1⟩ := rwE_at A j _ hAj
  obtain ⟨mb, o, ty, sz, tr, hid, hmb, hg, ho, hcl⟩ := hrow6.idx (st := s6) un137 io126 hjl
  have t0 : tr.get o = some (wd num) := hcl 0 _ (by omega) a0
  have t1 : tr.get (o + 1) = some w := hcl 1 _ (by omega) a1
  obtain ⟨hlast, jj, hjj⟩ := last_lt hH hperm hsrt hAj
  have hlast : ¬ num ≤ lastN A j := hlast
  have hjj : H[jj]? = some (some (num, K')) := hjj
  simp [evOp_call, T.get_set, g21, g24, g26, hjl', hrow6.lenS, hid, loadE_eq, getC_eq, hg, t0, hlast]
  refine Gd_loop (bpI5 k x (y 0) q s1.nx p m i j jj num ra s6) (fun e _ => muAt 28 k e) ?_ ?_
  · exact ⟨0, false, Nat.zero_le _, by constructor <;> simp [T.get_set, g0, g1, g5, g6, g7, g9, g10, g11], by simp [T.get_set, g21], by simp [T.get_set], by simp [T.get_set, g26], by simp [T.get_set], by simp [T.get_set], Ext.refl _ _, fun h => absurd h (Nat.not_lt_zero _)⟩
  have g26o := g26
  clear g0 g1 g5 g6 g7 g9 g10 g11 g21 g24 g26
  rintro e2 s7 ⟨a, b, ha, ⟨g0, g1, g5, g6, g7, g9, g10, g11⟩, g21, g24, g26, g27, g28, e7, hb⟩
  by_cases hal : a < k
  case neg =>
    obtain rfl : a = k := by omega
    obtain rfl := hb (by have := lt_of_get hjj; rw [hH.sh.len] at this; exact this)
    simp [evOp_call, T.get_set, g0, g21, g24, g26, g27, g28, hwj]
    exact ⟨⟨j + 1, hjl, by constructor <;> simp [T.get_set, g0, g1, g5, g6, g7, g9, g10, g11], by simp [T.get_set, g21], by simp [T.get_set, g24, lastN, hAj], by simp [T.get_set], e6.trans (e7.mono e6.le)⟩, muAt_lt g26o (by simp [T.get_set]) hjl⟩
  have hal' : (a : Int) < k := by omega
  have hwa := wrap_nat (n := a) (by omega)
  cases b with
  | true =>
    simp [evOp_call, T.get_set, g0, g9, g21, g24, g26, g27, g28, hal']
    refine ⟨by kernel_rfl, ?_⟩
    simp [evOp_call, T.get_set, g0, g9, g21, g24, g26, g27, g28, hal', hwa]
    exact ⟨⟨a + 1, true, hal, by constructor <;> simp [T.get_set, g0, g1, g5, g6, g7, g9, g10, g11], by simp [T.get_set, g21], by simp [T.get_set, g24], by simp [T.get_set, g26], by simp [T.get_set], by simp [T.get_set], e7, fun _ => rfl⟩, muAt_lt g28 (by simp [T.get_set]) hal⟩
  | false =>
    simp [evOp_call, T.get_set, g0, g9, g21, g24, g26, g27, g28, hal']
    refine ⟨by kernel_rfl, ?_⟩
    have hC7 := hC6.more e7
    have hrow7 := hrow6.ext e7
    obtain ⟨hm7, tyh, thh, hgh, hroh, hch⟩ := id hC7.rc
    obtain ⟨c0, hEa⟩ : ∃ c0, E[a]? = some c0 := ⟨_, List.getElem?_eq_getElem (by rw [hC7.len]; exact hal)⟩
    obtain ⟨d0, d1, d2⟩ := hch a c0 hEa
    have hHa := hH.at' hEa
    by_cases hnn : c0.1 = num
    case neg =>
      have hja : ¬ jj = a := fun e => by
        subst e
        rw [hjj] at hHa
        unfold recO at hHa
        split at hHa
        · injection hHa with h; cases h
        · injection hHa with h; injection h with h; injection h with h; exact hnn h.symm
      simp [evOp_call, T.get_set, g0, g9, g21, g24, g26, g27, g28, hal', hal, loadE_eq, getC_eq, hgh, d0, hnn, hwa]
      exact ⟨⟨a + 1, false, hal, by constructor <;> simp [T.get_set, g0, g1, g5, g6, g7, g9, g10, g11], by simp [T.get_set, g21], by simp [T.get_set, g24], by simp [T.get_set, g26], by simp [T.get_set], by simp [T.get_set], e7, fun h => hb (by omega)⟩, muAt_lt g28 (by simp [T.get_set]) hal⟩
    rw [hnn] at d0
    have hg7 : s7.h.get mb = _ := (e7.keep mb hmb).trans hg
    simp [evOp_call, T.get_set, g0, g9, g21, g24, g26, g27, g28, hal', hal, loadE_eq, getC_eq, hgh, d0, hid, hg7, t0, t1, oracF_cons]
    have hw7 : RdRow s7 w 2 K'.length (iw K') := (((heach _ (List.mem_of_getElem? hAj)).ext e5).ext e6).ext e7
    have hwf := hAfe _ (List.mem_of_getElem? hAj)
    have hwn : ∀ m, Nm w m → ¬ m = s1.nx := fun m hm e => by have := nm_from hwf hm; have := hC.rc.1; omega
    have one : ∀ m, ¬ m = s1.nx → inF [(s1.nx, s1.nx + 1)] m = false := fun m hm => by
      rw [inF_cons, if_neg (by omega)]; rfl
    have hE20 := hC7.each c0 (List.mem_of_getElem? hEa)
    rw [cxOf_callA [(s1.nx, s1.nx + 1)] [(s1.nx, s1.nx + 1)] (by kernel_rfl) (by kernel_rfl) (looseW_at 9 (.sl s1.nx 0 k k) (by simp [T.get_set, g9]) (by kernel_rfl)) (alive_own (fun p hp => by simp at hp; subst hp; rw [isRo_cs hgh]; simp [hroh])) (fun x hx => by simp at hx; subst hx; exact clash_row (by simp [T.get_set]) hw7 hwn)]
    rw [forb_nil]
    have hK400 : K'.length ≤ 400 := (hH.sh.bk jj _ hjj).2.1.2.1
    refine Gd.mono (writes15 s7 [(s1.nx, s1.nx + 1)] (fun k hk => one k (by have := hC7.rc.1; omega)) w K' hw7 (by omega) (fun m hm => one m (hwn m (by rcases hm with h | h; exact .inr h; exact .inl h))) _) ?_
    rintro ⟨r1, s8⟩ ⟨hr1, e8⟩
    simp only at hr1 e8
    have hC8 := hC7.more e8
    have hgh8 := (e8.keep s1.nx hC7.rc.1).trans hgh
    have hld8 : ∀ (b i nx' : Nat), inF ((0, s1.nx) :: (s1.nx + 1, nx') :: forb b (rsOf [] i s7.nx s8.nx) []) s1.nx = false := fun b i nx' => inF_ld hC7.rc.1
    simp [evOp_call, T.get_set, g0, g9, g21, g24, g26, g27, g28, hal', hal, loadE_eq, getC_eq, hgh8, d0, d1, hld8, oracF_cons]
    rw [cxOf_call (by kernel_rfl) (by kernel_rfl), forb_step (by kernel_rfl) rfl]
    refine Gd.mono (equal15 s8 r1 c0.2.1 K' c0.2.2 hr1.rd (hE20.1.ext e8) (by omega) _) ?_
    rintro _ rfl
    simp [evOp_call, T.get_set, g0, g9, g21, g24, g26, g27, g28, hal', hal, hwa]
    refine ⟨⟨a + 1, decide (K' = c0.2.2), hal, by constructor <;> simp [T.get_set, g0, g1, g5, g6, g7, g9, g10, g11], by simp [T.get_set, g21], by simp [T.get_set, g24], by simp [T.get_set, g26], by simp [T.get_set], by simp [T.get_set], e7.trans (e8.mono e7.le), fun h => ?_⟩, muAt_lt g28 (by simp [T.get_set]) hal⟩
    rcases Nat.lt_succ_iff_lt_or_eq.1 h with h | h
    · exact absurd (hb h) (by simp)
    · subst h
      rw [hjj] at hHa
      unfold recO at hHa
      split at hHa
      · injection hHa with h; cases h
      · injection hHa with h; injection h with h; injection h with _ h; exact decide_eq_true h
set_option maxRecDepth 20000 in
theorem fits_acts : Fits Try.prog (rowC baC) 141 := fits_row Try.underlying141 (by kernel_rfl) (by decide)
  (fits_struct Try.underlying150 (by kernel_rfl) (FitsF.cons rfl (by kernel_rfl) (fits_i Try.underlying3) (FitsF.cons rfl (by kernel_rfl) (fits_i Try.underlying3) (FitsF.one rfl (by kernel_rfl)
    (fits_row Try.underlying115 (by kernel_rfl) (by decide) (fits_struct Try.underlying117 (by kernel_rfl) (FitsF.cons rfl (by kernel_rfl) (fits_i Try.underlying3) (FitsF.one rfl (by kernel_rfl) (fits_w Try.underlying24)))))))))
theorem w_BooksPlays (n : Int) (l : List BAct) (W : World) (_ : i64 n) (x : Value) (hx : (rowC baC).rel W (fun j => [x][j]?.getD default) l) :
    Calls Try.prog 15 #[.int .i64 n, x] W fun e W' => e = .returned (.bool true) ∧ Below W.heap.size W W' := by
  obtain ⟨s1, r1, v1, b1, l1, q1, e1, a1⟩ := (rowC baC).enter (Begin.zero W) hx
  exact law_calls (lawC_sound namesOkB mixesB Try.func97 rfl bsAwake) b1 (.cons (rel_int _ _) (.cons (q1 0 (by decide)).2 .nil)) (g_BooksPlays s1 n v1 l a1)
end Go.Proofs.Ytdoennkmcloalaa

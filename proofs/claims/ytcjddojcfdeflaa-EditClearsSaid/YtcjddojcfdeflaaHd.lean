/-
  Contracts of package head.
-/
import Derived.Test.YtcjddojcfdeflaaSl
import Derived.Test.YtcjddojcfdeflaaTyImg
import Derived.Test.YtcjddojcfdeflaaRb
import Derived.Test.YtcjddojcfdeflaaHdP
set_option linter.unusedSimpArgs false
namespace Go.Proofs.Ytcjddojcfdeflaa
open Go.RowKit Ev
@[simp] theorem blHd (x0 x1 : Operand) (a b c d p : V) (h : p.one = true) (st : St) : bldK Try.prog 80 [(0, x0), (1, x1)] [.g [a, b, c, d], p] [.int .i64 0, .int .i64 0, .int .i64 0, .int .i64 0, .int .u64 0] st = some (.g [a, b, c, d, p], st) := by
  rw [bldK_ok so80, partsK_cells rfl (fun k => rfl) rfl (by simp), partsK_one rfl h (by simp)]; rfl
@[simp] theorem asNat_2 {β : Type} (f : Nat → Option β) : asNat (.int .i64 2) f = f 2 := rfl
@[simp] theorem asNat_3 {β : Type} (f : Nat → Option β) : asNat (.int .i64 3) f = f 3 := rfl
@[simp] theorem asNat_4 {β : Type} (f : Nat → Option β) : asNat (.int .i64 4) f = f 4 := rfl
@[simp] theorem asNat_5 {β : Type} (f : Nat → Option β) : asNat (.int .i64 5) f = f 5 := rfl
@[simp] theorem asNat_6 {β : Type} (f : Nat → Option β) : asNat (.int .i64 6) f = f 6 := rfl
@[simp] theorem asNat_7 {β : Type} (f : Nat → Option β) : asNat (.int .i64 7) f = f 7 := rfl
theorem forb_one {b i x y : Nat} {l : List (Nat × Nat)} (h : Nat.testBit b i = true) : forb b [(i, x, y)] l = l := by
  show (match Nat.testBit b i with | true => l | false => (x, y) :: l) = l
  rw [h]
theorem hbox_ext (st : St) (v : B) : Ext st.nx st ⟨st.nx + 1, st.h.set st.nx v⟩ := (Ext.refl _ _).new (Nat.le_refl _) _
set_option maxRecDepth 20000 in
set_option maxHeartbeats 4000000 in
theorem hput_any (st : St) (g : Gm) (p : BitVec 64) (nt : Nat) :
    Gd (callL Try.prog ⟨false, [], 0, nt⟩ 36 [hdV g p] st) fun r => RdRow r.2 r.1 1 (putH g p).length (wv (putH g p)) ∧ (isGood g → OwnRow st.nx r.2 r.1 1 8 (wv (putH g p))) ∧ RowFrom st.nx r.1 ∧ Ext st.nx st r.2 := by
  rw [Gd_callL Try.func36 rfl]
  have gVg : V.g [V.int .i64 g.b, V.int .i64 g.n, V.int .i64 g.c, V.int .i64 g.k] = gV g := rfl
  simp [hdV, evOp_call, sets, T.get_set, cellsOf, newC_is, loadE_eq, getC_eq, getsB_succ, getsB_zero]
  rw [gVg]
  refine Gd.mono (good_any _ [] (fun _ _ => rfl) 0 (Nat.zero_le _) g _) ?_
  rintro ⟨r, s1⟩ ⟨hr, x1⟩
  simp only at hr x1
  subst hr
  have l1 : st.nx < s1.nx := x1.le
  have hs1 : Ext st.nx st s1 := (hbox_ext st _).trans (x1.mono (Nat.le_succ _))
  have k0 : s1.h.get st.nx = _ := (x1.keep _ (Nat.lt_succ_self _)).trans (T.get_set_same _ _ _)
  have q0 : ¬ s1.nx = st.nx := by omega
  by_cases hg : isGood g
  · have hd : decide (isGood g) = true := by simpa using hg
    simp [evOp_call, T.get_set, hd, loadE_eq, getC_eq, k0]
    refine Gd_buildW (vs := wv (preH g)) (fun k => el28 k) (fun k => ze39 k) rfl (by simp [T.get_set, wv, preH, magicW]) (by simp [wv, preH]) rfl rfl (by omega) ?_
    have ha := AppRow.built (b := st.nx) (n := 6) (st := s1) (el := 39) (vs := wv (preH g)) (by omega) (by decide) rfl
    have hs2 : ∀ v, Ext st.nx st ⟨s1.nx + 1, s1.h.set s1.nx v⟩ := fun v => hs1.new (by omega) v
    simp [evOp_call, T.get_set, loadE_eq, getC_eq, k0, q0]
    refine ⟨by kernel_rfl, ?_⟩
    rw [cxOf_callL [(st.nx, st.nx + 1)] (by kernel_rfl) (by kernel_rfl) (looseW_at 26 (.p st.nx 4) (by simp [T.get_set]) (by kernel_rfl)) (fun x hx => by simp at hx; subst hx; simp [clashes_tmp, T.get_set, blkOf, inF_cons, q0]; first | done | omega) (fun p hp => by simp at hp; subst hp; rw [isRo_cs ((T.get_set_ne _ _ q0).trans k0)]; decide)]
    simp only [forb_nil, List.append_nil]
    refine Gd.mono (slOf_fl _ [(st.nx, st.nx + 1)] 0 _ (preH g) ha.rd (by show 6 ≤ 1000000; omega) (fun m hm => ?_) _) ?_
    · rcases hm with ⟨o, l, q, e⟩ | ⟨o, l, q, e⟩
      · injection e with e
        rw [inF_cons, if_neg (by omega)]; rfl
      · cases e
    rintro _ rfl
    simp [evOp_call, T.get_set]
    refine Gd_buildW (vs := [wd p, wd (slOf (preH g))]) (fun k => el28 k) (fun k => ze39 k) rfl (by simp [T.get_set]) (by simp) rfl rfl (by omega) ?_
    simp [evOp_call, T.get_set]
    rw [cxOf_call (by kernel_rfl) (by kernel_rfl), forb_one (by kernel_rfl)]
    have hext := fun v => (Ext.refl (s1.nx + 1) (⟨s1.nx + 1, s1.h.set s1.nx (.cs 39 6 (sets (wv (preH g)) 0 T.lf))⟩ : St)).new (Nat.le_refl _) v
    refine Gd_appendA un28 un28 io39 (lx := 2) (new := [wd p, wd (slOf (preH g))]) (ha.ext (hext _)) (by show st.nx ≤ s1.nx + 1 + 1; omega) (by decide) (fun s' h => by cases h) (fun k => rfl) (fun k => by simp [getC_eq, getsB_2, T.get_set, sets]) rfl (by omega) (by omega) ?_
    intro s' st' ho' he'
    have hpr : putH g p = preH g ++ [p, slOf (preH g)] := by unfold putH; rw [if_pos hg]
    have ho2 : OwnRow st.nx st' s' 1 8 (wv (putH g p)) := by rw [hpr, wv_app]; exact ho'
    simp [evOp_call, T.get_set]
    exact ⟨by rw [putH_length p hg]; exact ho2.rd, fun _ => ho2, AppRow.from (.inl ho2), ((hs2 _).trans ((hext _).mono (by omega))).trans he'⟩
  · have hd : decide (isGood g) = false := by simpa using hg
    have hp := putH_bad p hg
    simp [evOp_call, T.get_set, hd]
    rw [hp]
    exact ⟨(OwnRow.nil 0 s1 1).rd, fun h => absurd h hg, ⟨fun _ _ _ _ e => (by cases e), fun _ _ _ _ e => by cases e⟩, hs1⟩
def eqI (st : St) (x y : V) (n : Nat) (a b : List (BitVec 64)) (e : Env) (s : St) : Prop := ∃ j, j ≤ n ∧ e.get 0 = some x ∧ e.get 1 = some y ∧ e.get 12 = some (.int .i64 (n : Int)) ∧ e.get 13 = some (.int .i64 (j : Int)) ∧ a.take j = b.take j ∧ s = st
theorem take_wd {a b : List (BitVec 64)} {j : Nat} {p q : BitVec 64} (h : a.take j = b.take j) (ha : a[j]? = some p) (hb : b[j]? = some q) : a.take (j + 1) = b.take (j + 1) ↔ p = q := by
  rw [List.take_add_one, List.take_add_one, ha, hb, h]
  simp
/-- slices.Equal of rows of words -/
theorem eq_any (st : St) (x y : V) (a b : List (BitVec 64)) (hx : RdRow st x 1 a.length (wv a)) (hy : RdRow st y 1 b.length (wv b)) (hn : a.length ≤ 1000000) (nt : Nat) :
    Gd (callL Try.prog ⟨false, [], 0, nt⟩ 54 [x, y] st) fun r => r = (.bool (decide (a = b)), st) := by
  rw [Gd_callL Try.func54 rfl]
  by_cases hk : a.length = b.length
  · have hk' : (a.length : Int) = b.length := by omega
    simp [evOp_call, sets, T.get_set, hx.lenS, hy.lenS, hk']
    refine Gd_loop (eqI st x y a.length a b) (fun e _ => muAt 13 a.length e) ?_ ?_
    · exact ⟨0, Nat.zero_le _, by simp [T.get_set], by simp [T.get_set], by simp [T.get_set, hk], by simp [T.get_set], by simp, rfl⟩
    · rintro e s ⟨j, hj, g0, g1, g12, g13, hab, rfl⟩
      by_cases hlt : j < a.length
      · have hlt' : (j : Int) < a.length := by omega
        have hw := wrap_nat (n := j) (by omega)
        obtain ⟨p, hp⟩ : ∃ p, a[j]? = some p := ⟨_, List.getElem?_eq_getElem (by omega)⟩
        obtain ⟨q, hq⟩ : ∃ q, b[j]? = some q := ⟨_, List.getElem?_eq_getElem (by omega)⟩
        obtain ⟨m1, o1, ty1, sz1, t1, i1, b1, k1, l1, c1⟩ := hx.idx (st := s) un28 io39 hlt
        obtain ⟨m2, o2, ty2, sz2, t2, i2, b2, k2, l2, c2⟩ := hy.idx (st := s) un28 io39 (show j < b.length by omega)
        have d1 : t1.get o1 = some (wd p) := c1 0 _ (by omega) (by simpa using wv_get hp)
        have d2 : t2.get o2 = some (wd q) := c2 0 _ (by omega) (by simpa using wv_get hq)
        simp [T.get_set, g0, g1, g12, g13, hlt', i1, i2, loadE_eq, getC_eq, k1, k2, d1, d2]
        refine ⟨by kernel_rfl, ?_⟩
        by_cases hpq : p = q
        · subst hpq
          simp [T.get_set, g0, g1, g12, g13, hw]
          exact ⟨⟨j + 1, by omega, by simp [T.get_set, g0], by simp [T.get_set, g1], by simp [T.get_set, g12], by simp [T.get_set], (take_wd hab hp hq).2 rfl, rfl⟩, muAt_lt g13 (by simp [T.get_set]) hlt⟩
        · have hne : ¬ a = b := fun e => by subst e; rw [hp] at hq; injection hq with hq; exact hpq hq
          simp [T.get_set, hpq, hne]
      · obtain rfl : j = a.length := by omega
        have : a = b := by rw [← List.take_length (l := a), ← List.take_length (l := b), ← hk]; exact hab
        simp [T.get_set, g0, g1, g12, g13, this]
  · have : ¬ a = b := fun e => by subst e; omega
    have hk' : ¬ (a.length : Int) = b.length := by omega
    simp [evOp_call, sets, T.get_set, hx.lenS, hy.lenS, hk, hk', this]
set_option maxRecDepth 20000 in
set_option maxHeartbeats 4000000 in
theorem hget_any (st : St) (x : V) (L : List (BitVec 64)) (hx : RdRow st x 1 L.length (wv L)) (nt : Nat) :
    Gd (callL Try.prog ⟨false, [], 0, nt⟩ 66 [x] st) fun r => r.1 = getHV (getH L) ∧ Ext st.nx st r.2 := by
  rw [Gd_callL Try.func66 rfl]
  by_cases h8 : L.length = 8
  · have h8' : (L.length : Int) = 8 := by omega
    simp [evOp_call, sets, T.get_set, newC_is, hx.lenS, h8']
    obtain ⟨m1, o1, ty1, sz1, t1, i1, b1, k1, l1, c1⟩ := hx.idx (st := st) un28 io39 (i := 1) (by omega)
    have d1 : t1.get o1 = some (wd (wat L 1)) := c1 0 _ (by omega) (by simpa using wv_get (wat_get (L := L) (i := 1) (by omega)))
    obtain ⟨m2, o2, ty2, sz2, t2, i2, b2, k2, l2, c2⟩ := hx.idx (st := st) un28 io39 (i := 2) (by omega)
    have d2 : t2.get o2 = some (wd (wat L 2)) := c2 0 _ (by omega) (by simpa using wv_get (wat_get (L := L) (i := 2) (by omega)))
    obtain ⟨m3, o3, ty3, sz3, t3, i3, b3, k3, l3, c3⟩ := hx.idx (st := st) un28 io39 (i := 3) (by omega)
    have d3 : t3.get o3 = some (wd (wat L 3)) := c3 0 _ (by omega) (by simpa using wv_get (wat_get (L := L) (i := 3) (by omega)))
    obtain ⟨m4, o4, ty4, sz4, t4, i4, b4, k4, l4, c4⟩ := hx.idx (st := st) un28 io39 (i := 4) (by omega)
    have d4 : t4.get o4 = some (wd (wat L 4)) := c4 0 _ (by omega) (by simpa using wv_get (wat_get (L := L) (i := 4) (by omega)))
    obtain ⟨m6, o6, ty6, sz6, t6, i6, b6, k6, l6, c6⟩ := hx.idx (st := st) un28 io39 (i := 6) (by omega)
    have d6 : t6.get o6 = some (wd (wat L 6)) := c6 0 _ (by omega) (by simpa using wv_get (wat_get (L := L) (i := 6) (by omega)))
    have n1 : ¬ st.nx = m1 := by omega
    have n2 : ¬ st.nx = m2 := by omega
    have n3 : ¬ st.nx = m3 := by omega
    have n4 : ¬ st.nx = m4 := by omega
    refine ⟨by kernel_rfl, ?_⟩
    simp [evOp_call, sets, T.get_set, newC_is, i1, i2, i3, i4, loadE_eq, getC_eq, k1, k2, k3, k4, d1, d2, d3, d4, n1, n2, n3, n4]
    rw [cxOf_store]
    rotate_left
    · kernel_rfl
    rw [forb_one (by kernel_rfl)]
    have v6 : ¬ st.nx = m6 := by omega
    have v6' : ¬ st.nx + 1 = m6 := by omega
    have q1 : ¬ st.nx + 1 = st.nx := by omega
    have q2 : ¬ st.nx + 1 + 1 = st.nx := by omega
    have q3 : ¬ st.nx + 1 + 1 = st.nx + 1 := by omega
    simp [evOp_call, sets, T.get_set, newC_is, storeK_g, putB_eq, roT, loadE_eq, getC_eq, getsB_succ, getsB_zero]
    refine ⟨by kernel_rfl, ?_⟩
    simp [evOp_call, sets, T.get_set, newC_is, storeK_g, putB_eq, roT, loadE_eq, getC_eq, getsB_succ, getsB_zero, i6, k6, d6, v6, v6', q1, q2, q3]
    rw [cxOf_store]
    rotate_left
    · kernel_rfl
    rw [forb_one (by kernel_rfl)]
    simp [evOp_call, sets, T.get_set, newC_is, storeK_g, putB_eq, roT, loadE_eq, getC_eq, getsB_succ, getsB_zero, q1, q2, q3]
    rw [show V.g [V.int .i64 (wat L 1).toInt, V.int .i64 (wat L 2).toInt, V.int .i64 (wat L 3).toInt, V.int .i64 (wat L 4).toInt, wd (wat L 6)] = hdV (readG L) (wat L 6) from rfl]
    refine Gd.mono (hput_any _ (readG L) (wat L 6) _) ?_
    rintro ⟨y, s1⟩ ⟨hy, _, _, x1⟩
    simp only at hy x1
    have l1 : st.nx + 1 + 1 + 1 ≤ s1.nx := x1.le
    have k0 : s1.h.get st.nx = _ := (x1.keep _ (by show st.nx < st.nx + 1 + 1 + 1; omega)).trans ((T.get_set_ne _ _ q2).trans ((T.get_set_ne _ _ q1).trans (T.get_set_same _ _ _)))
    have k2 : s1.h.get (st.nx + 1 + 1) = _ := (x1.keep _ (by show st.nx + 1 + 1 < st.nx + 1 + 1 + 1; omega)).trans (T.get_set_same _ _ _)
    have hs1 : Ext st.nx st s1 := (((hbox_ext st _).new (by show st.nx ≤ st.nx + 1; omega) _).new (by show st.nx ≤ st.nx + 1 + 1; omega) _).trans (x1.mono (by show st.nx ≤ st.nx + 1 + 1 + 1; omega))
    have hfin : ∀ v, Ext st.nx st ⟨s1.nx, s1.h.set st.nx v⟩ := fun v => hs1.set (m := st.nx) (Nat.le_refl _) (by omega) v
    simp [evOp_call, T.get_set]
    refine Gd.mono (eq_any s1 y x (putH (readG L) (wat L 6)) L hy (hx.ext hs1) (by unfold putH; split <;> simp [preH]) _) ?_
    rintro _ rfl
    by_cases he : putH (readG L) (wat L 6) = L
    · have hg : getH L = some (readG L, wat L 6) := by unfold getH; rw [if_pos ⟨h8, he⟩]
      simp [evOp_call, sets, T.get_set, he, storeK_g, putB_eq, roT, loadE_eq, getC_eq, getsB_succ, getsB_zero, k0, k2, hg]
      exact ⟨rfl, hfin _⟩
    · have hg : getH L = none := by unfold getH; rw [if_neg fun h => he h.2]
      simp [evOp_call, sets, T.get_set, he, storeK_g, putB_eq, roT, loadE_eq, getC_eq, getsB_succ, getsB_zero, k0, k2, hg]
      exact ⟨rfl, hfin _⟩
  · have h8' : ¬ (L.length : Int) = 8 := by omega
    have hn : getH L = none := by unfold getH; rw [if_neg fun h => h8 h.1]
    simp [evOp_call, sets, T.get_set, newC_is, hx.lenS, h8', storeK_g, putB_eq, roT, loadE_eq, getC_eq, getsB_succ, getsB_zero, hn]
    exact ⟨rfl, hbox_ext st _⟩
end Go.Proofs.Ytcjddojcfdeflaa

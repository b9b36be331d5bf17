/-
  The document's own heads: read.
-/
import Derived.Test.YtgcpgidofikcdaaGreatDoorHdR
set_option linter.unusedSimpArgs false
namespace Go.Proofs.YtgcpgidofikcdaaGreatDoor
open Go.RowKit Ev
def rsameHI (st : St) (x y : V) (n : Nat) (a b : List (BitVec 64)) (e : Env) (s : St) : Prop := ∃ j, j ≤ n ∧ e.get 0 = some x ∧ e.get 1 = some y ∧ e.get 5 = some (.int .i64 (j : Int)) ∧ a.take j = b.take j ∧ s = st
theorem rsameH_take {a b : List (BitVec 64)} {j : Nat} {p q : BitVec 64} (h : a.take j = b.take j) (ha : a[j]? = some p) (hb : b[j]? = some q) : a.take (j + 1) = b.take (j + 1) ↔ p = q := by
  rw [List.take_add_one, List.take_add_one, ha, hb, h]
  simp
theorem rsameH (st : St) (x y : V) (a b : List (BitVec 64)) (hx : RdRow st x 1 a.length (wv a)) (hy : RdRow st y 1 b.length (wv b)) (hn : a.length ≤ 100000) (nt : Nat) :
    Gd (callL Tryz.prog ⟨false, [], 0, nt⟩ 206 [x, y] st) fun r => r = (.bool (decide (a = b)), st) := by
  rw [Gd_callL Tryz.func206 rfl]
  by_cases hk : a.length = b.length
  · have hk' : (a.length : Int) = b.length := by omega
    simp [evOp_call, sets, T.get_set, hx.lenS, hy.lenS, hk']
    refine Gd_loop (rsameHI st x y a.length a b) (fun e _ => muAt 5 a.length e) ?_ ?_
    · exact ⟨0, Nat.zero_le _, by simp [T.get_set], by simp [T.get_set], by simp [T.get_set], by simp, rfl⟩
    · rintro e s ⟨j, hj, g0, g1, g5, hab, rfl⟩
      by_cases hlt : j < a.length
      · have hlt' : (j : Int) < a.length := by omega
        have hw := wrap_nat (n := j) (by omega)
        obtain ⟨p, hp⟩ : ∃ p, a[j]? = some p := ⟨_, List.getElem?_eq_getElem (by omega)⟩
        obtain ⟨q, hq⟩ : ∃ q, b[j]? = some q := ⟨_, List.getElem?_eq_getElem (by omega)⟩
        obtain ⟨m1, o1, ty1, sz1, t1, i1, b1, k1, l1, c1⟩ := hx.idx (st := s) un60 io78 hlt
        obtain ⟨m2, o2, ty2, sz2, t2, i2, b2, k2, l2, c2⟩ := hy.idx (st := s) un60 io78 (show j < b.length by omega)
        have d1 : t1.get o1 = some (wd p) := c1 0 _ (by omega) (by simpa using wv_get hp)
        have d2 : t2.get o2 = some (wd q) := c2 0 _ (by omega) (by simpa using wv_get hq)
        simp [T.get_set, g0, g1, g5, hx.lenS, hlt', i1, i2, loadE_eq, getC_eq, k1, k2, d1, d2]
        refine ⟨by kernel_rfl, ?_⟩
        by_cases hpq : p = q
        · subst hpq
          simp [T.get_set, g0, g1, g5, hw]
          exact ⟨⟨j + 1, by omega, by simp [T.get_set, g0], by simp [T.get_set, g1], by simp [T.get_set], (rsameH_take hab hp hq).2 rfl, rfl⟩, muAt_lt g5 (by simp [T.get_set]) hlt⟩
        · have hne : ¬ a = b := fun e => by subst e; rw [hp] at hq; injection hq with hq; exact hpq hq
          simp [T.get_set, hpq, hne]
      · obtain rfl : j = a.length := by omega
        have : a = b := by rw [← List.take_length (l := a), ← List.take_length (l := b), ← hk]; exact hab
        simp [T.get_set, g0, g1, g5, hx.lenS, this]
  · have : ¬ a = b := fun e => by subst e; omega
    have hk' : ¬ (a.length : Int) = b.length := by omega
    simp [evOp_call, sets, T.get_set, hx.lenS, hy.lenS, hk, hk', this]

def lsameHI (st : St) (x y : V) (n : Nat) (a b : List (BitVec 64)) (e : Env) (s : St) : Prop := ∃ j, j ≤ n ∧ e.get 0 = some x ∧ e.get 1 = some y ∧ e.get 5 = some (.int .i64 (j : Int)) ∧ a.take j = b.take j ∧ s = st
theorem lsameH_take {a b : List (BitVec 64)} {j : Nat} {p q : BitVec 64} (h : a.take j = b.take j) (ha : a[j]? = some p) (hb : b[j]? = some q) : a.take (j + 1) = b.take (j + 1) ↔ p = q := by
  rw [List.take_add_one, List.take_add_one, ha, hb, h]
  simp
theorem cxOf_storeX {c : Cx} {e : Env} {d : Option Nat} {t ty : TypeId} {x y : Operand} {p : String} {af : Array Edge} {g : Option (Nat × Bool)} {ops : List Oper} {i : Nat} {s0 : St} {rs : List (Nat × Nat × Nat)} (l : List (Nat × Nat)) (h : mayW ops i = false) (hl : looseW ops e i = some l) : cxOf c ops ⟨d, .store t x y, ty, p, af, g⟩ i rs s0 e = ⟨c.all, alive s0.h l ++ forb (befOf ops i) rs c.l, c.wb, c.nt⟩ := by
  have h0 : cxOf c ops ⟨d, .store t x y, ty, p, af, g⟩ i rs s0 e = (match mayW ops i with
      | true => ⟨c.all, forb (befOf ops i) rs c.l, c.wb, c.nt⟩
      | false => (match (match looseW ops e i with
          | none => none
          | some l => some (alive s0.h l)) with
        | some l => ⟨c.all, l ++ forb (befOf ops i) rs c.l, c.wb, c.nt⟩
        | none => ⟨c.all, forb (befOf ops i) rs c.l, s0.nx, c.nt⟩)) := rfl
  rw [h0, h, hl]
def rgetV (r : Option (Gm × BitVec 64)) : V := match r with
  | some (g, p) => .t [gV g, wd p, .bool true]
  | none => .t [gV ⟨0, 0, 0, 0⟩, wd 0#64, .bool false]
theorem small_wat {L : List (BitVec 64)} (h : L.length = 8) (he : putH (readG L) (wat L 6) = L) : ∀ i, 1 ≤ i → i ≤ 4 → ¬ (2000#64 < wat L i) := by
  have hg : isGood (readG L) := by
    by_cases hb : isGood (readG L)
    · exact hb
    · rw [putH_bad _ hb] at he
      rw [← he] at h; simp at h
  obtain ⟨⟨h1, h2, h3, h4, h5, h6, h7, h8⟩, _⟩ := hg
  have hp : putH (readG L) (wat L 6) = preH (readG L) ++ [wat L 6, slOf (preH (readG L))] := by unfold putH; rw [if_pos ⟨⟨h1, h2, h3, h4, h5, h6, h7, h8⟩, by assumption⟩]
  have hw : ∀ i, wat L i = wat (preH (readG L) ++ [wat L 6, slOf (preH (readG L))]) i := fun i => by rw [← hp, he]
  have key : ∀ z : Int, 0 ≤ z → z ≤ 1024 → ¬ (2000#64 < BitVec.ofInt 64 z) := fun z h1 h2 => by
    rw [BitVec.lt_def, BitVec.toNat_ofInt]; simp; omega
  intro i hi1 hi4
  rw [hw i]
  rcases (by omega : i = 1 ∨ i = 2 ∨ i = 3 ∨ i = 4) with rfl | rfl | rfl | rfl
  · exact key (readG L).b (by omega) (by omega)
  · exact key (readG L).n (by omega) (by omega)
  · exact key (readG L).c (by omega) (by omega)
  · exact key (readG L).k (by omega) (by omega)
def rgI (st : St) (x : V) (e : Env) (s : St) : Prop := ∃ i : Nat, 1 ≤ i ∧ i ≤ 5 ∧ e.get 0 = some x ∧ e.get 2 = some (.p st.nx 0) ∧ e.get 5 = some (.int .i64 (i : Int)) ∧ s.h.get st.nx = some (.cs 70 4 ((((T.lf.set 0 (.int .i64 0)).set 1 (.int .i64 0)).set 2 (.int .i64 0)).set 3 (.int .i64 0))) ∧ s.nx = st.nx + 1 ∧ Ext st.nx st s
set_option maxRecDepth 20000 in
set_option maxHeartbeats 8000000 in
theorem rget_any (st : St) (x : V) (L : List (BitVec 64)) (hx : RdRow st x 1 L.length (wv L)) (nt : Nat) :
    Gd (callL Tryz.prog ⟨false, [], 0, nt⟩ 160 [x] st) fun r => r.1 = rgetV (getH L) ∧ Ext st.nx st r.2 := by
  rw [Gd_callL Tryz.func160 rfl]
  by_cases h8 : L.length = 8
  · have h8' : (L.length : Int) = 8 := by omega
    simp [evOp_call, sets, T.get_set, newC_is, hx.lenS, h8']
    refine Gd_loop (rgI st x) (fun e _ => muAt 5 5 e) ?_ ?_
    · exact ⟨1, Nat.le_refl _, by omega, by simp [T.get_set], by simp [T.get_set], by simp [T.get_set], T.get_set_same _ _ _, rfl, hbox_ext st _⟩
    · rintro e s ⟨i, hi1, hi5, g0, g2, g5, k0, hn, hs⟩
      have hxs := hx.ext hs
      have hfin : ∀ v, Ext st.nx st ⟨s.nx, s.h.set st.nx v⟩ := fun v => hs.set (m := st.nx) (Nat.le_refl _) (by omega) v
      by_cases hlt : i < 5
      · have hlt' : (i : Int) < 5 := by omega
        have hwi := wrap_nat (n := i) (by omega)
        obtain ⟨m1, o1, ty1, sz1, t1, i1, b1, k1, l1, c1⟩ := hxs.idx (st := s) un60 io78 (i := i) (by omega)
        have d1 : t1.get o1 = some (wd (wat L i)) := c1 0 _ (by omega) (by simpa using wv_get (wat_get (L := L) (i := i) (by omega)))
        by_cases hbig : 2000#64 < wat L i
        · have hno : getH L = none := by
            unfold getH
            rw [if_neg fun h => small_wat h8 h.2 i hi1 (by omega) hbig]
          simp [evOp_call, sets, T.get_set, g0, g2, g5, hlt', i1, loadE_eq, getC_eq, k1, d1, hbig, storeK_g, putB_eq, roT, k0, getsB_succ, getsB_zero, hno]
          exact ⟨rfl, hfin _⟩
        · simp [evOp_call, sets, T.get_set, g0, g2, g5, hlt', i1, loadE_eq, getC_eq, k1, d1, hbig, hwi]
          exact ⟨⟨i + 1, by omega, by omega, by simp [T.get_set, g0], by simp [T.get_set, g2], by simp [T.get_set], k0, hn, hs⟩, muAt_lt g5 (by simp [T.get_set]) hlt⟩
      · obtain rfl : i = 5 := by omega
        simp [evOp_call, sets, T.get_set, g0, g2, g5]
        obtain ⟨m1, o1, ty1, sz1, t1, i1, b1, k1, l1, c1⟩ := hxs.idx (st := s) un60 io78 (i := 1) (by omega)
        have d1 : t1.get o1 = some (wd (wat L 1)) := c1 0 _ (by omega) (by simpa using wv_get (wat_get (L := L) (i := 1) (by omega)))
        obtain ⟨m2, o2, ty2, sz2, t2, i2, b2, k2, l2, c2⟩ := hxs.idx (st := s) un60 io78 (i := 2) (by omega)
        have d2 : t2.get o2 = some (wd (wat L 2)) := c2 0 _ (by omega) (by simpa using wv_get (wat_get (L := L) (i := 2) (by omega)))
        obtain ⟨m3, o3, ty3, sz3, t3, i3, b3, k3, l3, c3⟩ := hxs.idx (st := s) un60 io78 (i := 3) (by omega)
        have d3 : t3.get o3 = some (wd (wat L 3)) := c3 0 _ (by omega) (by simpa using wv_get (wat_get (L := L) (i := 3) (by omega)))
        obtain ⟨m4, o4, ty4, sz4, t4, i4, b4, k4, l4, c4⟩ := hxs.idx (st := s) un60 io78 (i := 4) (by omega)
        have d4 : t4.get o4 = some (wd (wat L 4)) := c4 0 _ (by omega) (by simpa using wv_get (wat_get (L := L) (i := 4) (by omega)))
        refine ⟨by kernel_rfl, ?_⟩
        simp [evOp_call, sets, T.get_set, newC_is, i1, i2, i3, i4, loadE_eq, getC_eq, k1, k2, k3, k4, d1, d2, d3, d4, g0, g2]
        have q1 : ¬ s.nx = st.nx := by omega
        rw [cxOf_store]
        rotate_left
        · kernel_rfl
        rw [forb_one (by kernel_rfl)]
        simp [evOp_call, sets, T.get_set, newC_is, storeK_g, putB_eq, roT, loadE_eq, getC_eq, getsB_succ, getsB_zero]
        refine ⟨by kernel_rfl, ?_⟩
        obtain ⟨m6, o6, ty6, sz6, t6, i6, b6, k6, l6, c6⟩ := hxs.idx (st := s) un60 io78 (i := 6) (by omega)
        have d6 : t6.get o6 = some (wd (wat L 6)) := c6 0 _ (by omega) (by simpa using wv_get (wat_get (L := L) (i := 6) (by omega)))
        have v6 : ¬ s.nx = m6 := by omega
        simp [evOp_call, sets, T.get_set, loadE_eq, getC_eq, g0, i6, k6, d6, v6]
        rw [show V.g [V.int .i64 (wat L 1).toInt, V.int .i64 (wat L 2).toInt, V.int .i64 (wat L 3).toInt, V.int .i64 (wat L 4).toInt] = gV (readG L) from rfl]
        rw [cxOf_call (by kernel_rfl) (by kernel_rfl)]
        simp only [forb_nil]
        refine Gd.mono (rput_any _ (readG L) (wat L 6) _) ?_
        rintro ⟨y, s1⟩ ⟨hy, x1⟩
        simp only at hy x1
        have u1 : s.nx + 1 ≤ s1.nx := x1.le
        have k0' : s1.h.get st.nx = _ := (x1.keep _ (by show st.nx < s.nx + 1; omega)).trans ((T.get_set_ne _ _ q1).trans k0)
        have k5 : s1.h.get s.nx = _ := (x1.keep _ (by show s.nx < s.nx + 1; omega)).trans (T.get_set_same _ _ _)
        have hs1 : Ext st.nx st s1 := (hs.new (by omega) _).trans (x1.mono (by show st.nx ≤ s.nx + 1; omega))
        have hfin1 : ∀ v, Ext st.nx st ⟨s1.nx, s1.h.set st.nx v⟩ := fun v => hs1.set (m := st.nx) (Nat.le_refl _) (by omega) v
        have hx1 := hx.ext hs1
        simp [evOp_call, sets, T.get_set, g0, g2]
        rw [cxOf_call (by kernel_rfl) (by kernel_rfl), forb_rsOf (by kernel_rfl)]
        refine Gd.mono (rsameH s1 y x (putH (readG L) (wat L 6)) L hy hx1 (by unfold putH; split <;> simp [preH]) _) ?_
        rintro _ rfl
        obtain ⟨m7, o7, ty7, sz7, t7, i7, b7, k7', l7, c7⟩ := hx.idx (st := st) un60 io78 (i := 6) (by omega)
        have k7 : s1.h.get m7 = _ := (hs1.keep _ b7).trans k7'
        have v7 : ¬ m7 = st.nx := by omega
        have v7' : ¬ st.nx = m7 := by omega
        have d7 : t7.get o7 = some (wd (wat L 6)) := c7 0 _ (by omega) (by simpa using wv_get (wat_get (L := L) (i := 6) (by omega)))
        by_cases he : putH (readG L) (wat L 6) = L
        · have hg : getH L = some (readG L, wat L 6) := by unfold getH; rw [if_pos ⟨h8, he⟩]
          simp [evOp_call, sets, T.get_set, he, g0, g2]
          refine ⟨by kernel_rfl, ?_⟩
          simp [evOp_call, sets, T.get_set, he, g0, g2, storeK_g, loadE_eq, getC_eq, getsB_succ, getsB_zero, k5, i7, k7, d7]
          rw [cxOf_storeX [(m7, m7 + 1)] (by kernel_rfl) (looseW_at 49 (.p m7 o7) (by simp [T.get_set]) (by kernel_rfl))]
          have hin : ∀ h : T B, inF (alive h [(m7, m7 + 1)]) st.nx = false := fun h => by
            rw [alive_cons, alive_nil]
            split
            · rfl
            · rw [inF_cons, if_neg (by omega)]; rfl
          simp only [forb_nil, List.append_nil]
          simp [evOp_call, sets, T.get_set, putB_eq, roT, loadE_eq, getC_eq, getsB_succ, getsB_zero, k0', hg, hin, g2]
          exact ⟨rfl, hfin1 _⟩
        · have hg : getH L = none := by unfold getH; rw [if_neg fun h => he h.2]
          simp [evOp_call, sets, T.get_set, he, g0, g2, storeK_g, putB_eq, roT, loadE_eq, getC_eq, getsB_succ, getsB_zero, k0', hg]
          exact ⟨rfl, hfin1 _⟩
  · have h8' : ¬ (L.length : Int) = 8 := by omega
    have hn : getH L = none := by unfold getH; rw [if_neg fun h => h8 h.1]
    simp [evOp_call, sets, T.get_set, newC_is, hx.lenS, h8', storeK_g, putB_eq, roT, loadE_eq, getC_eq, getsB_succ, getsB_zero, hn]
    exact ⟨rfl, hbox_ext st _⟩
theorem rgetV_eq (L : List (BitVec 64)) (b : Int) : ∃ g p o, rgetV (getH L) = .t [gV g, wd p, .bool o] ∧ ((o = true ∧ g.b = b ∧ ofH b L = some (g, p)) ∨ (o = true ∧ ¬ g.b = b ∧ ofH b L = none) ∨ (o = false ∧ True ∧ ofH b L = none)) := by
  unfold ofH
  cases h : getH L with
  | none => exact ⟨⟨0, 0, 0, 0⟩, 0#64, false, rfl, .inr (.inr ⟨rfl, trivial, rfl⟩)⟩
  | some q =>
    obtain ⟨g, p⟩ := q
    by_cases hb : g.b = b
    · exact ⟨g, p, true, rfl, .inl ⟨rfl, hb, if_pos hb⟩⟩
    · exact ⟨g, p, true, rfl, .inr (.inl ⟨rfl, hb, if_neg hb⟩)⟩
theorem rwhole_any (st : St) (y : V) (bl n : Nat) (l : List V) (hb : 64 ≤ bl ∧ bl ≤ 1024) (hn : n = 8 * bl) (hy : RdRow st y 1 n l) (nt : Nat) :
    Gd (callL Tryz.prog ⟨false, [], 0, nt⟩ 159 [y] st) fun r => r = (.bool true, st) := by
  rw [Gd_callL Tryz.func159 rfl]
  have w0 : (n : Int).tdiv 8 = (bl : Int) := by rw [Int.tdiv_eq_ediv_of_nonneg (by omega)]; omega
  have w1 : IntKind.i64.wrap (bl : Int) = (bl : Int) := wrap_in (by omega) (by omega)
  have w2 : (n : Int).tmod 8 = 0 := by rw [Int.tmod_eq_emod_of_nonneg (by omega)]; omega
  have c1 : 64 ≤ bl := hb.1
  have c2 : bl ≤ 1024 := hb.2
  have c1' : (64 : Int) ≤ bl := by omega
  have c2' : (bl : Int) ≤ 1024 := by omega
  simp [evOp_call, sets, T.get_set, hy.lenS, w0, w1, w2, c1, c2, c1', c2']
def fdO (a b : Option (Gm × BitVec 64)) : V := match a with
  | some (g, p) => .t [gV g, wd p, .bool true, .bool b.isSome]
  | none => (match b with
    | some (g, p) => .t [gV g, wd p, .bool false, .bool true]
    | none => .t [gV ⟨0, 0, 0, 0⟩, wd 0#64, .bool false, .bool false])
set_option maxRecDepth 20000 in
set_option maxHeartbeats 8000000 in
theorem rfind_any (st : St) (b0 : Nat) (y : V) (bl : Nat) (hb : 64 ≤ bl ∧ bl ≤ 1024) (L : List (BitVec 64)) (hy : SlRow b0 st y (8 * bl) L) (nt : Nat) :
    Gd (callL Tryz.prog ⟨false, [], 0, nt⟩ 100 [y] st) fun r => r.1 = fdO (ofH bl (L.take 8)) (ofH bl (L.drop (8 * bl - 8))) ∧ Ext st.nx st r.2 := by
  rw [Gd_callL Tryz.func100 rfl]
  have hL := hy.1
  have hrd := hy.rd
  obtain ⟨n, hn⟩ : ∃ n, n = 8 * bl := ⟨_, rfl⟩
  rw [← hn] at hy hrd hL ⊢
  obtain ⟨m0, hm0⟩ : ∃ m0, m0 = n - 8 := ⟨_, rfl⟩
  rw [← hm0]
  have w0 : (n : Int).tdiv 8 = (bl : Int) := by rw [Int.tdiv_eq_ediv_of_nonneg (by omega)]; omega
  have w1 : IntKind.i64.wrap (bl : Int) = (bl : Int) := wrap_in (by omega) (by omega)
  have w3 : IntKind.i64.wrap ((n : Int) - 8) = (m0 : Int) := by rw [show (n : Int) - 8 = (m0 : Int) by omega]; exact wrap_in (by omega) (by omega)
  have hcell : ∀ (cc : Cx) (s : St) (m i : Nat) (g : Gm), storeK Tryz.prog cc s 70 m i (gV g) = putB cc s m i [.int .i64 g.b, .int .i64 g.n, .int .i64 g.c, .int .i64 g.k] fun st => some (.u, st) := fun cc s m i g => by unfold gV; simp [storeK_g]
  simp [evOp_call, sets, T.get_set, newC_is]
  refine Gd.mono (rwhole_any _ y bl n _ hb hn (hrd.ext (hbox_ext st _)) _) ?_
  rintro _ rfl
  simp [evOp_call, T.get_set]
  refine Gd_headS (i := .i64) (k := 8) un60 io78 (hy.ext (hbox_ext st _)) (by simp) (by omega) fun v hv => ?_
  simp [evOp_call, T.get_set]
  refine Gd.mono (rget_any _ v (L.take 8) (by rw [List.length_take, hL, show min 8 n = 8 by omega]; exact hv) _) ?_
  rintro ⟨r, s1⟩ ⟨hr, x1⟩
  simp only at hr x1
  obtain ⟨ga, pa, oa, ha, hga⟩ := rgetV_eq (L.take 8) bl
  rw [ha] at hr
  subst hr
  have l1 : st.nx < s1.nx := x1.le
  have k0 : s1.h.get st.nx = _ := (x1.keep _ (Nat.lt_succ_self _)).trans (T.get_set_same _ _ _)
  have hs1 : Ext st.nx st s1 := (hbox_ext st _).trans (x1.mono (Nat.le_succ _))
  have n1 : ¬ s1.nx = st.nx := by omega
  simp [evOp_call, sets, T.get_set, newC_is, storeK_g, hcell, putB_eq, roT, k0, hrd.lenS, w3]
  have e2 : ∀ v, Ext st.nx st ⟨s1.nx + 1, s1.h.set s1.nx v⟩ := fun v => hs1.new (by omega) v
  refine Gd_tailS (i := .i64) (k := m0) un60 io78 (hy.ext (e2 _)) (by simp [T.get_set]) (by omega) fun v hv => ?_
  simp [evOp_call, T.get_set]
  refine Gd.mono (rget_any _ v (L.drop m0) (by rw [List.length_drop, hL]; exact hv) _) ?_
  rintro ⟨r, s2⟩ ⟨hr, x2⟩
  simp only at hr x2
  obtain ⟨gb, pb, ob, hb', hgb⟩ := rgetV_eq (L.drop m0) bl
  rw [hb'] at hr
  subst hr
  have l2 : s1.nx + 1 ≤ s2.nx := x2.le
  have k1 : s2.h.get st.nx = _ := (x2.keep _ (by show st.nx < s1.nx + 1; omega)).trans ((T.get_set_ne _ _ n1).trans k0)
  have k6 : s2.h.get s1.nx = _ := (x2.keep _ (Nat.lt_succ_self _)).trans (T.get_set_same _ _ _)
  have hs2 : Ext st.nx st s2 := (e2 _).trans (x2.mono (by show st.nx ≤ s1.nx + 1; omega))
  have n2 : ¬ s2.nx = st.nx := by omega
  have n3 : ¬ s2.nx = s1.nx := by omega
  have hfin : ∀ v w, Ext st.nx st ⟨s2.nx + 1, (s2.h.set s2.nx v).set st.nx w⟩ := fun v w => (hs2.new (by omega) v).set (m := st.nx) (Nat.le_refl _) (by show st.nx < s2.nx + 1; omega) w
  rcases hga with ⟨rfl, ha1, ha2⟩ | ⟨rfl, ha1, ha2⟩ | ⟨rfl, ha1, ha2⟩ <;> rcases hgb with ⟨rfl, hb1, hb2⟩ | ⟨rfl, hb1, hb2⟩ | ⟨rfl, hb1, hb2⟩ <;>
    (rw [ha2, hb2]; simp [fdO, evOp_call, sets, T.get_set, newC_is, storeK_g, hcell, putB_eq, roT, loadE_eq, getC_eq, getsB_succ, getsB_zero, k1, k6, n1, n2, n3, hrd.lenS, w0, w1, ha1, hb1]; first | exact ⟨rfl, hfin _ _⟩ | exact hfin _ _ | exact ⟨by rw [← ha1]; rfl, hfin _ _⟩ | exact ⟨by rw [← hb1]; rfl, hfin _ _⟩)
end Go.Proofs.YtgcpgidofikcdaaGreatDoor

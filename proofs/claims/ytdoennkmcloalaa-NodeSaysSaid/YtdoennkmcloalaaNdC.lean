/-
  Contracts: nodes as the document's own; alike.
-/
import Derived.Test.YtdoennkmcloalaaNdB
import Derived.Test.YtdoennkmcloalaaEqS
set_option linter.unusedSimpArgs false
namespace Go.Proofs.Ytdoennkmcloalaa
open Go.RowKit Ev
theorem pairs_take {K : List (Int × Int)} {j : Nat} {r : Int × Int} (h : K[j]? = some r) : pairs (K.take (j + 1)) = pairs (K.take j) ++ [.int .i64 r.1, .int .i64 r.2] := by
  rw [List.take_add_one, h, pairs_app]; rfl
@[simp] theorem blI3 (x0 x1 x2 : Operand) (a b d : V) (h : a.one = true) (h2 : b.one = true) (h3 : d.one = true) (st : St) : bldK Try.prog 44 [(0, x0), (1, x1), (2, x2)] [a, b, d] [.int .i64 0, .int .i64 0, .int .i64 0, .c (.slice none 0 0)] st = some (.g [a, b, d, .c (.slice none 0 0)], st) := by
  rw [bldK_ok so44, partsK_one rfl h (by simp), partsK_one rfl h2 (by simp), partsK_one rfl h3 (by simp)]; rfl
def inI (y : V) (N : Nd) (q : Nat) (s0 : St) (e : Env) (s : St) : Prop := ∃ (j : Nat) (z : V), j ≤ N.R.length ∧ e.get 1 = some (.p q 0) ∧ e.get 2 = some (.p (q + 1) 0) ∧ e.get 3 = some (.p (q + 1 + 1) 0) ∧ e.get 4 = some (.int .i64 (j : Int)) ∧
  (∃ tb, s.h.get q = some (.cs 41 4 tb) ∧ tb.get 3 = some y) ∧ (∃ t2, s.h.get (q + 1) = some (.cs 44 4 t2)) ∧ (∃ t, s.h.get (q + 1 + 1) = some (.cs 44 4 t) ∧ t.get 0 = some (.int .i64 N.t) ∧ t.get 1 = some (.int .i64 N.l) ∧ t.get 2 = some (.int .i64 N.s) ∧ t.get 3 = some z) ∧
  OwnRow (q + 1 + 1 + 1) s z 2 j (pairs (N.R.take j)) ∧ Ext s0.nx s0 s ∧ q + 1 + 1 + 1 ≤ s.nx
set_option maxRecDepth 20000 in
set_option maxHeartbeats 8000000 in
theorem inode_fl (st : St) (fl : List (Nat × Nat)) (hfn : ∀ k, st.nx ≤ k → inF fl k = false) (N : Nd) (y : V) (hy : RdRow st y 2 N.R.length (pairs N.R)) (hK : N.R.length ≤ 1000000) (hfy : ∀ m, rowIn y m → inF fl m = false) (nt : Nat) :
    Gd (callL Try.prog ⟨false, fl, 0, nt⟩ 36 [ndV N y] st) fun r => (∃ z, r.1 = ndV N z ∧ RdRow r.2 z 2 N.R.length (pairs N.R) ∧ ∀ m, rowIn z m → st.nx ≤ m) ∧ Ext st.nx st r.2 := by
  rw [Gd_callL Try.func36 rfl]
  have hone := hy.one
  have hcell : ∀ k : List V → Res, cellsOf (ndV N y) k = k [.int .i64 N.t, .int .i64 N.l, .int .i64 N.s, y] := fun k => rfl
  have f0 := hfn st.nx (Nat.le_refl _)
  have f1 := hfn (st.nx + 1) (by omega)
  have f2 := hfn (st.nx + 1 + 1) (by omega)
  have q1 : ¬ st.nx + 1 = st.nx := by omega
  have q2 : ¬ st.nx + 1 + 1 = st.nx := by omega
  have q3 : ¬ st.nx + 1 + 1 = st.nx + 1 := by omega
  have e3 : ∀ u v w, Ext st.nx st ⟨st.nx + 1 + 1 + 1, ((st.h.set st.nx u).set (st.nx + 1) v).set (st.nx + 1 + 1) w⟩ := fun u v w => ((bx_ext st u).new (Nat.le_succ _) v).new (by show st.nx ≤ st.nx + 1 + 1; omega) w
  simp [hcell, f0, f1, f2, q1, q2, q3, evOp_call, sets, T.get_set, newC_is, storeK_g, putB_eq, roT, loadE_eq, getC_eq, getsB_succ, getsB_zero]
  refine Gd_loop (inI y N st.nx st) (fun e _ => muAt 4 N.R.length e) ?_ ?_
  · refine ⟨0, .c (.slice none 0 0), Nat.zero_le _, by simp [T.get_set], by simp [T.get_set], by simp [T.get_set], by simp [T.get_set], ⟨_, (T.get_set_ne _ _ q2).trans ((T.get_set_ne _ _ q1).trans (T.get_set_same _ _ _)), by simp [T.get_set]⟩, ⟨_, (T.get_set_ne _ _ q3).trans (T.get_set_same _ _ _)⟩, ⟨_, T.get_set_same _ _ _, by simp [T.get_set], by simp [T.get_set], by simp [T.get_set], by simp [T.get_set]⟩, OwnRow.nil _ _ _, e3 _ _ _, Nat.le_refl _⟩
  · rintro e s ⟨j, z, hj, g1, g2, g3, g4, ⟨tb, kb, tb3⟩, ⟨tz, kz⟩, ⟨tq, kq, tq0, tq1, tq2, tq3⟩, hz, hs, hbn⟩
    have hsn := hs.le
    by_cases hlt : j < N.R.length
    · have hlt' : (j : Int) < N.R.length := by omega
      have hw := wrap_nat (n := j) (by omega)
      have hys := hy.ext hs
      obtain ⟨m, o, ty, sz, tr, hid, hm, hg, ho, hc, hr⟩ := hys.idxB (st := s) un39 io47 hlt
      obtain ⟨⟨F, L⟩, hK2⟩ : ∃ r, N.R[j]? = some r := ⟨_, List.getElem?_eq_getElem hlt⟩
      have hcl := pairs_at N.R j _ hK2
      have t0 : tr.get o = some (.int .i64 F) := hc 0 _ (by omega) hcl.1
      have t1 : tr.get (o + 1) = some (.int .i64 L) := hc 1 _ (by omega) hcl.2
      have hfm := hfy m hr
      have hfo : ∀ nx, inF ((0, m) :: (m + 1, nx) :: fl) m = false := fun nx => inF_ownF hfm
      have hfb : ∀ nx, inF ((0, st.nx) :: (st.nx + 1, nx) :: fl) st.nx = false := fun nx => inF_ownF f0
      have hfq : ∀ nx, inF ((0, st.nx + 1 + 1) :: (st.nx + 1 + 1 + 1, nx) :: fl) (st.nx + 1 + 1) = false := fun nx => inF_ownF f2
      have fn0 := hfn s.nx hsn
      simp [evOp_call, T.get_set, g1, g2, g3, g4, loadE_eq, getC_eq, kb, tb3, f0, hlt', hys.lenS]
      refine ⟨by kernel_rfl, ?_⟩
      simp [evOp_call, T.get_set, g1, g2, g3, g4, hid, loadE_eq, getC_eq, kb, tb3, kq, tq3, f0, f2, hg, t0, t1, hfm, hfo, hfb, hfq]
      refine evOp_build1 (v := .g [.int .i64 F, .int .i64 L]) (cs := [.int .i64 F, .int .i64 L]) (fun k => el42 k) (fun k => ze182 k) rfl (by omega) (by simp [T.get_set]) (fun k => rfl) rfl ?_
      simp [evOp_call, T.get_set]
      rw [cxOf_call (by kernel_rfl) (by kernel_rfl), forb_oneR (by kernel_rfl)]
      have hext := fun v => (Ext.refl s.nx s).new (Nat.le_refl _) v
      have hfr := AppRow.from (.inl hz)
      have hnb : ¬ s.nx = st.nx := by omega
      have hn1 : ¬ s.nx = st.nx + 1 := by omega
      have hnq : ¬ s.nx = st.nx + 1 + 1 := by omega
      refine Gd_appendL un42 un42 io182 (n := j) (lx := 1) (new := [.int .i64 F, .int .i64 L]) (hz.ext (hext _)) (fun m o ln e => hfn m (by have := hfr.1 _ _ _ _ e; omega)) (by show st.nx + 1 + 1 + 1 ≤ s.nx + 1; omega) (by decide) (fun s' h => by cases h) (fun k => rfl) (fun k => by simp [fn0, getC_eq, getsB_2, T.get_set, sets]) rfl (by omega) ?_
      intro s' st' ho' he' _ _
      have hb' : st'.h.get st.nx = _ := (he'.keep _ (by omega)).trans ((T.get_set_ne _ _ hnb).trans kb)
      have hz' : st'.h.get (st.nx + 1) = _ := (he'.keep _ (by omega)).trans ((T.get_set_ne _ _ hn1).trans kz)
      have hq' : st'.h.get (st.nx + 1 + 1) = _ := (he'.keep _ (by omega)).trans ((T.get_set_ne _ _ hnq).trans kq)
      have hone' := ho'.rd.one
      have hle' : s.nx + 1 ≤ st'.nx := he'.le
      have hfr' := AppRow.from (.inl ho')
      simp [evOp_call, T.get_set, g1, g2, g3, g4]
      rw [cxOf_store]
      rotate_left
      · kernel_rfl
      rw [forb_on1 (by kernel_rfl) (by kernel_rfl)]
      rw [storeK_1 hone']
      simp [evOp_call, T.get_set, g1, g2, g3, g4, putB_eq, roT, hq', sets, hw, f2]
      refine ⟨⟨j + 1, s', by omega, by simp [T.get_set, g1], by simp [T.get_set, g2], by simp [T.get_set, g3], by simp [T.get_set], ⟨tb, (T.get_set_ne _ _ q2).trans hb', tb3⟩, ⟨tz, (T.get_set_ne _ _ q3).trans hz'⟩, ⟨_, T.get_set_same _ _ _, by simp [T.get_set, tq0], by simp [T.get_set, tq1], by simp [T.get_set, tq2], by simp [T.get_set]⟩, ?_, ?_, by show st.nx + 1 + 1 + 1 ≤ st'.nx; omega⟩, muAt_lt g4 (by simp [T.get_set]) hlt⟩
      · rw [pairs_take hK2]
        exact OwnRow.setOther ho' (fun o l z e => by have := hfr'.1 _ _ _ _ e; omega) _
      · exact ((hs.trans ((hext _).mono (by omega))).trans (he'.mono (by omega))).set (m := st.nx + 1 + 1) (by omega) (by omega) _
    · obtain rfl : j = N.R.length := by omega
      rw [List.take_length] at hz
      simp [evOp_call, T.get_set, g1, g2, g3, g4, loadE_eq, getC_eq, getsB_succ, getsB_zero, kb, tb3, f0, f1, f2, (hy.ext hs).lenS, kq, tq0, tq1, tq2, tq3, kz, storeK_g, putB_eq, roT, hz.rd.one, sets]
      have hfr := AppRow.from (.inl hz)
      refine ⟨⟨z, rfl, (OwnRow.setOther hz (fun o l z e => by have := hfr.1 _ _ _ _ e; omega) _).rd, fun m hm => ?_⟩, hs.set (m := st.nx + 1) (by omega) (by omega) _⟩
      rcases hm with ⟨o, l, q, e⟩ | ⟨o, l, q, e⟩
      · have := hfr.2 _ _ _ _ e; omega
      · have := hfr.1 _ _ _ _ e; omega
theorem neqRn (st : St) (x y : Operand) (a c b d : Int) : binE Try.prog st .neq 182 x y (.g [.int .i64 a, .int .i64 b]) (.g [.int .i64 c, .int .i64 d]) = some (.bool (!decide ((a, b) = (c, d))), st) := by
  have := neq_struct (st := st) (x := x) (y := y) (l := [.int .i64 a, .int .i64 b]) (l' := [.int .i64 c, .int .i64 d]) (xs := [.int .i64 a, .int .i64 b]) (ys := [.int .i64 c, .int .i64 d]) Try.underlying182 (by kernel_rfl) (by kernel_rfl) rfl rfl
    (.cons (.int (d := 9998) (by decide) Try.underlying3 rfl rfl) (.cons (.int (d := 9998) (by decide) Try.underlying3 rfl rfl) .nil))
  have he : ([a == c, b == d].all id) = decide ((a, b) = (c, d)) := by
    have h1 : (a == c) = decide (a = c) := by by_cases e : a = c <;> simp [e]
    have h2 : (b == d) = decide (b = d) := by by_cases e : b = d <;> simp [e]
    rw [h1, h2]; simp
  rw [he] at this
  exact this
theorem Nd.ext_iff (N M : Nd) : N = M ↔ N.t = M.t ∧ N.l = M.l ∧ N.s = M.s ∧ N.R = M.R := by
  cases N; cases M; simp
def ndsI (q : Nat) (a b : List (Int × Int)) (s0 : St) (e : Env) (s : St) : Prop := ∃ j, j ≤ a.length ∧ e.get 2 = some (.p q 0) ∧ e.get 3 = some (.p (q + 1) 0) ∧ e.get 5 = some (.int .i64 (j : Int)) ∧ a.take j = b.take j ∧ s = s0
set_option maxRecDepth 20000 in
set_option maxHeartbeats 8000000 in
theorem nodes_any (st : St) (N M : Nd) (x y : V) (hx : RdRow st x 2 N.R.length (pairs N.R)) (hy : RdRow st y 2 M.R.length (pairs M.R)) (hn : N.R.length ≤ 1000000) (nt : Nat) :
    Gd (callL Try.prog ⟨false, [], 0, nt⟩ 45 [ndV N x, ndV M y] st) fun r => r.1 = .bool (decide (N = M)) ∧ Ext st.nx st r.2 := by
  rw [Gd_callL Try.func45 rfl]
  have hcell : ∀ (N : Nd) (y : V) (k : List V → Res), cellsOf (ndV N y) k = k [.int .i64 N.t, .int .i64 N.l, .int .i64 N.s, y] := fun N y k => rfl
  have hone := hx.one
  have hone2 := hy.one
  have q1 : ¬ st.nx + 1 = st.nx := by omega
  have e2 : ∀ u v, Ext st.nx st ⟨st.nx + 1 + 1, (st.h.set st.nx u).set (st.nx + 1) v⟩ := fun u v => (bx_ext st u).new (Nat.le_succ _) v
  by_cases c1 : N.t = M.t
  · by_cases c2 : N.l = M.l
    · by_cases c3 : N.s = M.s
      · by_cases c4 : N.R.length = M.R.length
        · have c4' : (N.R.length : Int) = M.R.length := by omega
          simp [hcell, q1, evOp_call, sets, T.get_set, newC_is, loadE_eq, getC_eq, getsB_succ, getsB_zero, hx.lenS, hy.lenS, c1, c2, c3, c4']
          generalize hS : (⟨st.nx + 1 + 1, _⟩ : St) = s1
          have x1 : Ext st.nx st s1 := hS ▸ e2 _ _
          obtain ⟨ta, ka, ta3⟩ : ∃ t, s1.h.get st.nx = some (.cs 44 4 t) ∧ t.get 3 = some x := by rw [← hS]; exact ⟨_, (T.get_set_ne _ _ q1).trans (T.get_set_same _ _ _), by simp [T.get_set]⟩
          obtain ⟨tb, kb, tb3⟩ : ∃ t, s1.h.get (st.nx + 1) = some (.cs 44 4 t) ∧ t.get 3 = some y := by rw [← hS]; exact ⟨_, T.get_set_same _ _ _, by simp [T.get_set]⟩
          have hx1 := hx.ext x1
          have hy1 := hy.ext x1
          clear hS
          refine Gd_loop (ndsI st.nx N.R M.R s1) (fun e _ => muAt 5 N.R.length e) ?_ ?_
          · exact ⟨0, Nat.zero_le _, by simp [T.get_set], by simp [T.get_set], by simp [T.get_set], by simp, rfl⟩
          · rintro e s ⟨j, hj, g2, g3, g5, hab, rfl⟩
            by_cases hlt : j < N.R.length
            · have hlt' : (j : Int) < N.R.length := by omega
              have hlt2' : (j : Int) < M.R.length := by omega
              have hw := wrap_nat (n := j) (by omega)
              obtain ⟨⟨p1, p2⟩, hp⟩ : ∃ p, N.R[j]? = some p := ⟨_, List.getElem?_eq_getElem (by omega)⟩
              obtain ⟨⟨r1, r2⟩, hq⟩ : ∃ q, M.R[j]? = some q := ⟨_, List.getElem?_eq_getElem (by omega)⟩
              obtain ⟨m1, o1, ty1, sz1, t1, i1, b1, k1, l1, d⟩ := hx1.idx (st := s) un42 io182 hlt
              obtain ⟨m2, o2, ty2, sz2, t2, i2, b2, k2, l2, d'⟩ := hy1.idx (st := s) un42 io182 (show j < M.R.length by omega)
              have hcp := pairs_at N.R j _ hp
              have hcq := pairs_at M.R j _ hq
              have d1 : t1.get o1 = some (.int .i64 p1) := d 0 _ (by omega) hcp.1
              have d1' : t1.get (o1 + 1) = some (.int .i64 p2) := d 1 _ (by omega) hcp.2
              have d2 : t2.get o2 = some (.int .i64 r1) := d' 0 _ (by omega) hcq.1
              have d2' : t2.get (o2 + 1) = some (.int .i64 r2) := d' 1 _ (by omega) hcq.2
              have hts : N.R.take (j + 1) = M.R.take (j + 1) ↔ (p1, p2) = (r1, r2) := by
                rw [List.take_add_one, List.take_add_one, hp, hq, hab]
                simp
              simp [evOp_call, T.get_set, g2, g3, g5, loadE_eq, getC_eq, ka, ta3, hx1.lenS, hlt', hlt2']
              refine ⟨by kernel_rfl, ?_⟩
              simp [evOp_call, T.get_set, g2, g3, g5, i1, i2, loadE_eq, getC_eq, getsB_2, ka, kb, ta3, tb3, k1, k2, d1, d1', d2, d2']
              rw [neqRn]
              by_cases hpq : (p1, p2) = (r1, r2)
              · simp only [hpq]
                simp [evOp_call, T.get_set, g2, g3, g5, hw]
                exact ⟨⟨j + 1, by omega, by simp [T.get_set, g2], by simp [T.get_set, g3], by simp [T.get_set], hts.2 hpq, rfl⟩, muAt_lt g5 (by simp [T.get_set]) hlt⟩
              · have hne : ¬ N = M := fun e => by rw [e, hq] at hp; injection hp with hp; exact hpq hp.symm
                simp only [hpq]
                simp [evOp_call, T.get_set, hne]
                exact x1
            · obtain rfl : j = N.R.length := by omega
              have hR : N.R = M.R := by rw [← List.take_length (l := N.R), ← List.take_length (l := M.R), ← c4]; exact hab
              have heq : N = M := (Nd.ext_iff N M).2 ⟨c1, c2, c3, hR⟩
              simp [evOp_call, T.get_set, g2, g3, g5, loadE_eq, getC_eq, ka, ta3, hx1.lenS]
              exact ⟨heq, x1⟩
        · have c4' : ¬ (N.R.length : Int) = M.R.length := by omega
          have hne : ¬ N = M := fun h => c4 (by rw [h])
          simp [hcell, q1, evOp_call, sets, T.get_set, newC_is, loadE_eq, getC_eq, getsB_succ, getsB_zero, hx.lenS, hy.lenS, c1, c2, c3, c4', c4, hne]
          exact e2 _ _
      · have hne : ¬ N = M := fun h => c3 (by rw [h])
        simp [hcell, q1, evOp_call, sets, T.get_set, newC_is, loadE_eq, getC_eq, getsB_succ, getsB_zero, hx.lenS, hy.lenS, c1, c2, c3, hne]
        exact e2 _ _
    · have hne : ¬ N = M := fun h => c2 (by rw [h])
      simp [hcell, q1, evOp_call, sets, T.get_set, newC_is, loadE_eq, getC_eq, getsB_succ, getsB_zero, hx.lenS, hy.lenS, c1, c2, hne]
      exact e2 _ _
  · have hne : ¬ N = M := fun h => c1 (by rw [h])
    simp [hcell, q1, evOp_call, sets, T.get_set, newC_is, loadE_eq, getC_eq, getsB_succ, getsB_zero, hx.lenS, hy.lenS, c1, hne]
    exact e2 _ _
def sameNdI (st : St) (x y : V) (n : Nat) (a b : List (BitVec 64)) (e : Env) (s : St) : Prop := ∃ j, j ≤ n ∧ e.get 0 = some x ∧ e.get 1 = some y ∧ e.get 5 = some (.int .i64 (j : Int)) ∧ a.take j = b.take j ∧ s = st
theorem sameNd_take {a b : List (BitVec 64)} {j : Nat} {p q : BitVec 64} (h : a.take j = b.take j) (ha : a[j]? = some p) (hb : b[j]? = some q) : a.take (j + 1) = b.take (j + 1) ↔ p = q := by
  rw [List.take_add_one, List.take_add_one, ha, hb, h]
  simp
theorem sameNd (st : St) (x y : V) (a b : List (BitVec 64)) (hx : RdRow st x 1 a.length (wv a)) (hy : RdRow st y 1 b.length (wv b)) (hn : a.length ≤ 100000) (nt : Nat) :
    Gd (callL Try.prog ⟨false, [], 0, nt⟩ 42 [x, y] st) fun r => r = (.bool (decide (a = b)), st) := by
  rw [Gd_callL Try.func42 rfl]
  by_cases hk : a.length = b.length
  · have hk' : (a.length : Int) = b.length := by omega
    simp [evOp_call, sets, T.get_set, hx.lenS, hy.lenS, hk']
    refine Gd_loop (sameNdI st x y a.length a b) (fun e _ => muAt 5 a.length e) ?_ ?_
    · exact ⟨0, Nat.zero_le _, by simp [T.get_set], by simp [T.get_set], by simp [T.get_set], by simp, rfl⟩
    · rintro e s ⟨j, hj, g0, g1, g5, hab, rfl⟩
      by_cases hlt : j < a.length
      · have hlt' : (j : Int) < a.length := by omega
        have hw := wrap_nat (n := j) (by omega)
        obtain ⟨p, hp⟩ : ∃ p, a[j]? = some p := ⟨_, List.getElem?_eq_getElem (by omega)⟩
        obtain ⟨q, hq⟩ : ∃ q, b[j]? = some q := ⟨_, List.getElem?_eq_getElem (by omega)⟩
        obtain ⟨m1, o1, ty1, sz1, t1, i1, b1, k1, l1, c1⟩ := hx.idx (st := s) un23 io24 hlt
        obtain ⟨m2, o2, ty2, sz2, t2, i2, b2, k2, l2, c2⟩ := hy.idx (st := s) un23 io24 (show j < b.length by omega)
        have d1 : t1.get o1 = some (wd p) := c1 0 _ (by omega) (by simpa using wv_get hp)
        have d2 : t2.get o2 = some (wd q) := c2 0 _ (by omega) (by simpa using wv_get hq)
        simp [T.get_set, g0, g1, g5, hx.lenS, hlt', i1, i2, loadE_eq, getC_eq, k1, k2, d1, d2]
        refine ⟨by kernel_rfl, ?_⟩
        by_cases hpq : p = q
        · subst hpq
          simp [T.get_set, g0, g1, g5, hw]
          exact ⟨⟨j + 1, by omega, by simp [T.get_set, g0], by simp [T.get_set, g1], by simp [T.get_set], (sameNd_take hab hp hq).2 rfl, rfl⟩, muAt_lt g5 (by simp [T.get_set]) hlt⟩
        · have hne : ¬ a = b := fun e => by subst e; rw [hp] at hq; injection hq with hq; exact hpq hq
          simp [T.get_set, hpq, hne]
      · obtain rfl : j = a.length := by omega
        have : a = b := by rw [← List.take_length (l := a), ← List.take_length (l := b), ← hk]; exact hab
        simp [T.get_set, g0, g1, g5, hx.lenS, this]
  · have : ¬ a = b := fun e => by subst e; omega
    have hk' : ¬ (a.length : Int) = b.length := by omega
    simp [evOp_call, sets, T.get_set, hx.lenS, hy.lenS, hk, hk', this]

end Go.Proofs.Ytdoennkmcloalaa

/-
  PLAIN: PbA, PbB, PbC, PbD, PbE, PbF, PbG, PbH, PbI, in one text.
-/
import Derived.Test.YtcjddojcfdeflaaPbR
import Derived.Test.YtcjddojcfdeflaaEx
import Derived.Test.YtcjddojcfdeflaaIn
import Derived.Test.YtcjddojcfdeflaaDrw
set_option linter.unusedSimpArgs false
set_option linter.unusedVariables false
namespace Go.Proofs.Ytcjddojcfdeflaa
open Go.RowKit Ev
set_option maxRecDepth 20000 in
set_option maxHeartbeats 4000000 in
theorem pdata_any (st : St) (q m : Nat) (g : Gm) (z : V) (L : List (BitVec 64)) (hg : isGood g) (hp : PoolAt st q g z m L) (nt : Nat) :
    Gd (callL Try.prog ⟨false, [], 0, nt⟩ 70 [.p q 0] st) fun r => r.1 = .t [.int .i64 (dF g), .int .i64 (dF g + dN g)] ∧ Ext st.nx st r.2 := by
  rw [Gd_callL Try.func70 rfl]
  obtain ⟨hq, ⟨t, ht, t0, t1, t2, t3, t4⟩, hr⟩ := hp
  have hs4 := hg.1
  obtain ⟨h1, h2, h3, h4, h5, h6, h7, h8⟩ := hs4
  obtain ⟨b1, b2, b3, b4, b5, b6, b7⟩ := grp_bd hg (c := 0) (by omega) (by omega)
  simp [evOp_call, sets, T.get_set, loadE_eq, getC_eq, ht, t0, t1, t2, t3, t4, getsB_succ, getsB_zero]
  refine Gd.mono (gdata_any st [] (fun _ _ => rfl) 0 (Nat.zero_le _) g _) ?_
  rintro ⟨r, s1⟩ ⟨hr1, x1⟩
  simp only at hr1 x1
  subst hr1
  have w1 : IntKind.i64.wrap (dF g + dN g) = dF g + dN g := wrap_in (by omega) (by omega)
  simp [at2, hg, tupK, evOp_call, sets, T.get_set, w1]
  exact x1
/-- one gap or none: from a on -/
def gapsC (L : List (BitVec 64)) (f e : Nat) : List Rn → Prop := fun K => (K = [] ∧ nextB L false (f : Int) (e : Int) = none) ∨ (∃ a : Nat, K = [((a : Int), (e : Int) - (a : Int))] ∧ f ≤ a ∧ a < e ∧ nextB L false (f : Int) (e : Int) = some a ∧ nextB L true (a : Int) (e : Int) = none ∧ nextB L false (e : Int) (e : Int) = none)
def gapI (st : St) (q m : Nat) (g : Gm) (z : V) (L : List (BitVec 64)) (f e : Nat) (K : List Rn) (en : Env) (s : St) : Prop := en.get 0 = some (.p q 0) ∧ en.get 5 = some (.int .i64 (e : Int)) ∧ PoolAt s q g z m L ∧ Ext st.nx st s ∧
  ((en.get 4 = some (.int .i64 (f : Int)) ∧ en.get 3 = some (.c (.slice none 0 0))) ∨ (nextB L false (e : Int) (e : Int) = none ∧ en.get 4 = some (.int .i64 (e : Int)) ∧ ∃ y, en.get 3 = some y ∧ OwnRow st.nx s y 2 K.length (cells K)))
def gapR (st : St) (K : List Rn) (r : V × St) : Prop := OwnRow st.nx r.2 r.1 2 K.length (cells K) ∧ Ext st.nx st r.2
set_option maxRecDepth 20000 in
set_option maxHeartbeats 4000000 in
theorem gaps_any (st : St) (q m : Nat) (g : Gm) (z : V) (L : List (BitVec 64)) (hg : isGood g) (hp : PoolAt st q g z m L) (hm : m ≤ 100000) (f e : Nat) (hf : dF g = (f : Int)) (he : dF g + dN g = (e : Int)) (hfe : f < e) (he2 : e ≤ 100000) (K : List Rn) (hK : gapsC L f e K) (nt : Nat) :
    Gd (callL Try.prog ⟨false, [], 0, nt⟩ 71 [.p q 0] st) (gapR st K) := by
  rw [Gd_callL Try.func71 rfl]
  simp [evOp_call, sets, T.get_set]
  refine Gd.mono (pdata_any st q m g z L hg hp _) ?_
  rintro ⟨r, s1⟩ ⟨hr1, x1⟩
  simp only at hr1 x1
  subst hr1
  rw [he, hf]
  simp [tupK, evOp_call, sets, T.get_set]
  refine Gd_loop (gapI st q m g z L f e K) (fun en _ => muAt 4 e en) ?_ ?_
  · exact ⟨by simp [T.get_set], by simp [T.get_set], hp.ext x1, x1, .inl ⟨by simp [T.get_set], by simp [T.get_set]⟩⟩
  · rintro en s ⟨g0, g5, hpp, hx, hc⟩
    have hpp0 := hpp
    obtain ⟨hq, ⟨t, ht, t0, t1, t2, t3, t4⟩, hr⟩ := hpp
    have hLm : L.length = m := by have := hr.1; simpa using this
    have hrL : RdRow s z 1 L.length (wv L) := by rw [hLm]; exact hr
    rcases hc with ⟨g4, g3⟩ | ⟨hn0, g4, y, g3, hy⟩
    · simp [evOp_call, T.get_set, g0, g3, g4, g5, loadE_eq, getC_eq, ht, t0, t1, t2, t3, t4, getsB_succ, getsB_zero]
      refine Gd.mono (next_any s z L hrL (by omega) false (f : Int) (e : Int) (by omega) _) ?_
      rintro ⟨r, s2⟩ ⟨hr2, x2⟩
      simp only at hr2 x2
      subst hr2
      rcases hK with ⟨rfl, hn⟩ | ⟨a, rfl, hfa, hae, hn1, hn2, hn3⟩
      · rw [hn]
        simp [nextV, tupK, evOp_call, T.get_set, g0, g3, g4, g5]
        exact ⟨OwnRow.nil _ _ _, hx.trans (x2.mono hx.le)⟩
      · rw [hn1]
        have ht2 := (x2.keep _ hq).trans ht
        simp [nextV, tupK, evOp_call, T.get_set, g0, g3, g4, g5, loadE_eq, getC_eq, ht2, t4, getsB_succ, getsB_zero]
        refine Gd.mono (next_any s2 z L (hrL.ext x2) (by omega) true (a : Int) (e : Int) (by omega) _) ?_
        rintro ⟨r, s3⟩ ⟨hr3, x3⟩
        simp only at hr3 x3
        subst hr3
        rw [hn2]
        have w1 : IntKind.i64.wrap ((e : Int) - (a : Int)) = (e : Int) - (a : Int) := wrap_in (by omega) (by omega)
        simp [nextV, tupK, evOp_call, T.get_set, g0, g3, g4, g5, w1]
        refine evOp_build1 (v := .g [.int .i64 (a : Int), .int .i64 ((e : Int) - (a : Int))]) (cs := [.int .i64 (a : Int), .int .i64 ((e : Int) - (a : Int))]) (fun k => el31 k) (fun k => ze87 k) rfl (by omega) (by simp [T.get_set]) (fun k => rfl) rfl ?_
        simp [evOp_call, T.get_set, g0, g3, g4, g5]
        have hb := hx.le
        have hb2 := x2.le
        have hb3 := x3.le
        refine Gd_append_nil (b := st.nx) un31 un31 io87 (lx := 1) (new := [.int .i64 (a : Int), .int .i64 ((e : Int) - (a : Int))]) (by show st.nx ≤ s3.nx + 1; omega) (by decide) (fun s' h => by cases h) (fun k => rfl) (fun k => by simp [getC_eq, getsB_2, T.get_set, sets]) rfl (by omega) ?_
        intro y s4 hy x4 _
        have hx3 : Ext st.nx st s3 := (hx.trans (x2.mono hb)).trans (x3.mono (by omega))
        have hx4 : Ext st.nx st s4 := (hx3.new hx3.le _).trans (x4.mono (by show st.nx ≤ s3.nx + 1; omega))
        have hp4 : PoolAt s4 q g z m L := (((hpp0.ext x2).ext x3).ext ((Ext.refl _ _).new (Nat.le_refl _) _)).ext x4
        simp [evOp_call, T.get_set, g0, g3, g4, g5]
        exact ⟨⟨by simp [T.get_set, g0], by simp [T.get_set, g5], hp4, hx4, .inr ⟨hn3, by simp [T.get_set], y, by simp [T.get_set], hy⟩⟩, by rw [muAt_eq g4, muAt_eq (k := (e : Int)) (i := .i64) (by simp [T.get_set])]; omega⟩
    · simp [evOp_call, T.get_set, g0, g3, g4, g5, loadE_eq, getC_eq, ht, t0, t1, t2, t3, t4, getsB_succ, getsB_zero]
      refine Gd.mono (next_any s z L hrL (by omega) false (e : Int) (e : Int) (by omega) _) ?_
      rintro ⟨r, s2⟩ ⟨hr2, x2⟩
      simp only at hr2 x2
      subst hr2
      rw [hn0]
      simp [nextV, tupK, evOp_call, T.get_set, g0, g3, g4, g5]
      exact ⟨hy.ext x2, hx.trans (x2.mono hx.le)⟩
end Go.Proofs.Ytcjddojcfdeflaa
set_option linter.unusedSimpArgs false
set_option linter.unusedVariables false
namespace Go.Proofs.Ytcjddojcfdeflaa
open Go.RowKit Ev
def runJ (a : Int) (i : Nat) : List Int := (List.range i).map fun (j : Nat) => a + (j : Int)
theorem runJ_succ (a : Int) (i : Nat) : runJ a (i + 1) = runJ a i ++ [a + (i : Int)] := by simp [runJ, List.range_succ]
theorem runJ_len (a : Int) (i : Nat) : (runJ a i).length = i := by simp [runJ]
def allJ (K : List Rn) : List Int := K.flatMap fun r => runJ r.1 r.2.toNat
theorem allJ_take {K : List Rn} {j : Nat} {r : Rn} (h : K[j]? = some r) : allJ (K.take (j + 1)) = allJ (K.take j) ++ runJ r.1 r.2.toNat := by
  rw [List.take_add_one, h]; simp [allJ]
def okRp (K : List Rn) : Prop := K.length ≤ 100 ∧ ∀ r ∈ K, 0 ≤ r.1 ∧ r.1 ≤ 1000 ∧ 0 ≤ r.2 ∧ r.2 ≤ 1000
theorem allJ_le : ∀ (K : List Rn), (∀ r ∈ K, 0 ≤ r.1 ∧ r.1 ≤ 1000 ∧ 0 ≤ r.2 ∧ r.2 ≤ 1000) → (allJ K).length ≤ K.length * 1000 ∧ ∀ i ∈ allJ K, 0 ≤ i ∧ i ≤ 2000
  | [], _ => ⟨by simp [allJ], fun i hi => by simp [allJ] at hi⟩
  | r :: K, h => by
    obtain ⟨h1, h2⟩ := allJ_le K fun q hq => h q (List.mem_cons_of_mem _ hq)
    have h3 := h r (List.mem_cons_self ..)
    have e : allJ (r :: K) = runJ r.1 r.2.toNat ++ allJ K := rfl
    rw [e]
    refine ⟨by rw [List.length_append, runJ_len, List.length_cons]; omega, fun i hi => ?_⟩
    rcases List.mem_append.1 hi with hi | hi
    · obtain ⟨j, hj, rfl⟩ := List.mem_map.1 hi
      have := List.mem_range.1 hj
      omega
    · exact h2 i hi
theorem iv_app (A B : List Int) : iv (A ++ B) = iv A ++ iv B := by simp [iv]
def mkO (st : St) (q : Nat) (yes : Bool) (x : V) (K : List Rn) (en : Env) (s : St) : Prop := ∃ (j : Nat) (y : V), j ≤ K.length ∧ en.get 0 = some (.p q 0) ∧ en.get 1 = some (.bool yes) ∧ en.get 10 = some x ∧ en.get 11 = some (.int .i64 (K.length : Int)) ∧ en.get 12 = some (.int .i64 (j : Int)) ∧ en.get 6 = some y ∧ OwnRow st.nx s y 1 (allJ (K.take j)).length (iv (allJ (K.take j))) ∧ Ext st.nx st s
def mkN (st : St) (q : Nat) (yes : Bool) (x : V) (K : List Rn) (j c : Nat) (a : Int) (n : Nat) (en : Env) (s : St) : Prop := ∃ (i : Nat) (y : V), i ≤ n ∧ en.get 0 = some (.p q 0) ∧ en.get 1 = some (.bool yes) ∧ en.get 10 = some x ∧ en.get 11 = some (.int .i64 (K.length : Int)) ∧ en.get 12 = some (.int .i64 (j : Int)) ∧ en.get 8 = some (.p c 0) ∧ en.get 17 = some (.int .i64 (n : Int)) ∧ en.get 18 = some (.int .i64 (i : Int)) ∧ en.get 6 = some y ∧ (∀ o l w, y ≠ .sg c o l w) ∧ c < s.nx ∧ (∃ t, s.h.get c = some (.cs 87 2 t) ∧ t.get 0 = some (.int .i64 a)) ∧
  OwnRow st.nx s y 1 (allJ (K.take j) ++ runJ a i).length (iv (allJ (K.take j) ++ runJ a i)) ∧ Ext st.nx st s
def rowInP (x : V) (m : Nat) : Prop := (∃ o l q, x = .sl m o l q) ∨ ∃ o l z, x = .sg m o l z
def mkR (st : St) (q m : Nat) (g : Gm) (L : List (BitVec 64)) (r : V × St) : Prop := ∃ z', PoolAt r.2 q g z' m L ∧ st.nx ≤ r.2.nx ∧ (∀ k, k < st.nx → k ≠ q → r.2.h.get k = st.h.get k) ∧ Ext q st r.2 ∧ ∀ b, rowInP z' b → q < b
theorem own_ne {b z n : Nat} {st : St} {x : V} {l : List V} (h : OwnRow b st x z n l) : ∀ o k w, x ≠ .sg st.nx o k w := by
  obtain ⟨_, ⟨rfl, _⟩ | ⟨m, ty, t, rfl, _, h3, _⟩⟩ := h
  · intro o k w e; cases e
  · intro o k w e; injection e with e; omega
set_option maxRecDepth 20000 in
set_option maxHeartbeats 4000000 in
theorem mark_any (st : St) (q m : Nat) (g : Gm) (z : V) (L : List (BitVec 64)) (hp : PoolAt st q g z m L) (hm : m ≤ 100000) (yes : Bool) (x : V) (K : List Rn) (hx : RdRow st x 2 K.length (cells K)) (hK : okRp K) (nt : Nat) :
    Gd (callL Try.prog ⟨false, [], 0, nt⟩ 65 [.p q 0, .bool yes, x] st) (mkR st q m g (setB L yes (allJ K))) := by
  rw [Gd_callL Try.func65 rfl]
  have hLm : L.length = m := by have := hp.2.2.1; simpa using this
  have hKl := hK.1
  simp [evOp_call, sets, T.get_set, hx.lenS]
  refine Gd_loop (mkO st q yes x K) (fun en _ => muAt 12 K.length en) ?_ ?_
  · exact ⟨0, _, Nat.zero_le _, by simp [T.get_set], by simp [T.get_set], by simp [T.get_set], by simp [T.get_set], by simp [T.get_set], by simp [T.get_set], OwnRow.nil _ _ _, Ext.refl _ _⟩
  · rintro en s ⟨j, y, hj, g0, g1, g10, g11, g12, g6, hy, hs⟩
    have hxs := hx.ext hs
    have hle := hs.le
    by_cases hlt : j < K.length
    · have hlt' : (j : Int) < K.length := by omega
      obtain ⟨⟨a, n0⟩, hr⟩ : ∃ r, K[j]? = some r := ⟨_, List.getElem?_eq_getElem hlt⟩
      have hrb := hK.2 _ (List.mem_of_getElem? hr)
      simp only at hrb
      obtain ⟨n, rfl⟩ := Int.eq_ofNat_of_zero_le hrb.2.2.1
      obtain ⟨m1, o1, ty1, sz1, tr1, i1, b1, k1, l1, c1⟩ := hxs.idx (st := s) un31 io87 hlt
      have d0 : tr1.get o1 = some (.int .i64 a) := by simpa using c1 0 _ (by omega) (cells_get K j _ hr).1
      have d1 : tr1.get (o1 + 1) = some (.int .i64 (n : Int)) := by simpa using c1 1 _ (by omega) (cells_get K j _ hr).2
      simp [evOp_call, T.get_set, g0, g1, g10, g11, g12, g6, hlt', i1, loadE_eq, getC_eq, getsB_succ, getsB_zero, k1, d0, d1, newC_is, storeK_g, putB_eq, roT, sets]
      refine Gd_loop (mkN st q yes x K j s.nx a n) (fun en _ => muAt 18 n en) ?_ ?_
      · exact ⟨0, y, Nat.zero_le _, by simp [T.get_set, g0], by simp [T.get_set, g1], by simp [T.get_set, g10], by simp [T.get_set, g11], by simp [T.get_set, g12], by simp [T.get_set], by simp [T.get_set], by simp [T.get_set], by simp [T.get_set, g6], own_ne hy, Nat.lt_succ_self _, ⟨_, T.get_set_same _ _ _, by simp [T.get_set]⟩,
          by rw [show runJ a 0 = [] from rfl, List.append_nil]; exact hy.ext ((Ext.refl _ _).new (Nat.le_refl _) _), hs.new hle _⟩
      · rintro en2 s2 ⟨i, y2, hi, f0, f1, f10, f11, f12, f8, f17, f18, f6, hyn, hc, ⟨t2, k2, e2⟩, hy2, hs2⟩
        have hle2 := hs2.le
        have haj : (allJ (K.take j)).length ≤ 100000 := by
          have := (allJ_le (K.take j) fun r hr => hK.2 r (List.mem_of_mem_take hr)).1
          have h2 : (K.take j).length ≤ 100 := by rw [List.length_take]; omega
          omega
        by_cases hli : i < n
        · have hli' : (i : Int) < n := by omega
          have hw1 : IntKind.i64.wrap (a + (i : Int)) = a + (i : Int) := wrap_in (by omega) (by omega)
          have hwi := wrap_nat (n := i) (by omega)
          simp [evOp_call, T.get_set, f0, f1, f10, f11, f12, f8, f17, f18, f6, hli', loadE_eq, getC_eq, k2, e2, hw1]
          refine evOp_build1 (v := .int .i64 (a + (i : Int))) (cs := [.int .i64 (a + (i : Int))]) (fun k => el63 k) (fun k => ze3 k) rfl (by omega) (by simp [T.get_set]) (fun k => rfl) rfl ?_
          simp [evOp_call, T.get_set, f0, f1, f10, f11, f12, f8, f17, f18, f6]
          refine Gd_append un63 un63 io3 (lx := 1) (new := [.int .i64 (a + (i : Int))]) (hy2.ext ((Ext.refl _ _).new (Nat.le_refl _) _)) (by show st.nx ≤ s2.nx + 1; omega) (by decide) (fun s' h => by cases h) (fun k => rfl) (fun k => by simp [getC_eq, getsB_1, T.get_set, sets]) rfl (by rw [List.length_append, runJ_len]; omega) ?_
          intro y3 s3 hy3 x3 hk3 hyy
          have hyn3 : ∀ o l w, y3 ≠ .sg s.nx o l w := by
            rcases hyy with rfl | ⟨ln, rfl⟩
            · exact hyn
            · intro o l w e; injection e with e; simp only at e; omega
          have e3 : iv (allJ (K.take j) ++ runJ a i) ++ [V.int .i64 (a + (i : Int))] = iv (allJ (K.take j) ++ runJ a (i + 1)) := by rw [runJ_succ, ← List.append_assoc, iv_app (allJ (K.take j) ++ runJ a i)]; rfl
          have hx3 : Ext st.nx st s3 := (hs2.new hle2 _).trans x3
          have hn3 := x3.le
          simp only at hn3
          have kc : s3.h.get s.nx = some (.cs 87 2 t2) := by
            rw [hk3 s.nx (by show s.nx < s2.nx + 1; omega) ?_]
            · exact (T.get_set_ne _ _ (by omega)).trans k2
            · exact fun o ln => hyn o ln 1
          simp [evOp_call, T.get_set, f0, f1, f10, f11, f12, f8, f17, f18, f6, hwi]
          exact ⟨⟨i + 1, y3, by omega, by simp [T.get_set, f0], by simp [T.get_set, f1], by simp [T.get_set, f10], by simp [T.get_set, f11], by simp [T.get_set, f12], by simp [T.get_set, f8], by simp [T.get_set, f17], by simp [T.get_set], by simp [T.get_set], hyn3, by omega, ⟨t2, kc, e2⟩, by rw [← e3, runJ_succ, ← List.append_assoc, List.length_append]; exact hy3, hx3⟩, muAt_lt f18 (by simp [T.get_set]) hli⟩
        · obtain rfl : i = n := by omega
          have hwj := wrap_nat (n := j) (by omega)
          simp [evOp_call, T.get_set, f0, f1, f10, f11, f12, f8, f17, f18, f6, hwj]
          exact ⟨⟨j + 1, y2, by omega, by simp [T.get_set, f0], by simp [T.get_set, f1], by simp [T.get_set, f10], by simp [T.get_set, f11], by simp [T.get_set], by simp [T.get_set, f6], by rw [allJ_take hr]; exact hy2, hs2⟩, muAt_lt (t := 12) (j := j) (n := K.length) g12 (by simp [T.get_set]) hlt⟩
    · obtain rfl : j = K.length := by omega
      rw [List.take_length] at hy
      have hpp := hp.ext hs
      have hpp0 := hpp
      obtain ⟨hq, ⟨t, ht, t0, t1, t2, t3, t4⟩, hrz⟩ := hpp
      have hrL : RdRow s z 1 L.length (wv L) := by rw [hLm]; exact hrz
      obtain ⟨b1, b2⟩ := allJ_le K hK.2
      simp [evOp_call, T.get_set, g0, g1, g10, g11, g12, g6, loadE_eq, getC_eq, getsB_succ, getsB_zero, ht, t4]
      refine Gd.mono (set_any s z y L hrL (by omega) yes (allJ K) hy.rd (by omega) (fun i hi => by have := b2 i hi; omega) _) ?_
      rintro ⟨r, s2⟩ ⟨w, hr, hw, hwf, x2⟩
      simp only at hr hw hwf x2
      subst hr
      have ht2 := (x2.keep _ hq).trans ht
      have hl2 := x2.le
      have hwone := hw.one
      simp [evOp_call, T.get_set, g0, g1, g10, g11, g12, g6, storeK_g, putB_eq, roT, ht2, sets, hwone]
      have hqs := hp.1
      rw [hLm] at hw
      have hnq : ∀ k, k < st.nx → k ≠ q → (s2.h.set q (.cs 112 5 (t.set 4 w))).get k = st.h.get k := fun k hk hkq => (T.get_set_ne _ _ (Ne.symm hkq)).trans ((x2.keep k (by omega)).trans (hs.keep k hk))
      refine ⟨w, ⟨by show q < s2.nx; omega, ⟨t.set 4 w, T.get_set_same _ _ _, by simp [T.get_set, t0], by simp [T.get_set, t1], by simp [T.get_set, t2], by simp [T.get_set, t3], by simp [T.get_set]⟩, ?_⟩, by show st.nx ≤ s2.nx; omega, hnq, ?_, fun b hb => ?_⟩
      · exact hw.setOther (k := q) (fun o l z' e => by have := hwf.1 _ _ _ _ e; omega) (fun o l q' e => by have := hwf.2 _ _ _ _ e; omega) _
      · exact ((hs.mono (by omega)).trans (x2.mono (by omega))).set (m := q) (Nat.le_refl _) (by omega) _
      · rcases hb with ⟨_, _, _, e⟩ | ⟨_, _, _, e⟩
        · have := hwf.2 _ _ _ _ e; omega
        · have := hwf.1 _ _ _ _ e; omega
end Go.Proofs.Ytcjddojcfdeflaa
set_option linter.unusedSimpArgs false
set_option linter.unusedVariables false
namespace Go.Proofs.Ytcjddojcfdeflaa
open Go.RowKit Ev
def in1I (x F : V) (a b : Nat) (st : St) (e : Env) (s : St) : Prop := e.get 2 = some (.int .i64 (b : Int)) ∧ e.get 8 = some (.int .i64 ((a + 1 : Nat) : Int)) ∧ s = st
set_option maxRecDepth 20000 in
set_option maxHeartbeats 4000000 in
theorem ins1_any (st : St) (x F : V) (b : Nat) (hb : b ≤ 1) (nt : Nat) : Gd (callL Try.prog ⟨false, [], 0, nt⟩ 81 [x, .int .i64 0, .int .i64 (b : Int), F] st) fun r => r = (.t [], st) := by
  rw [Gd_callL Try.func81 rfl]
  have w1 : IntKind.i64.wrap 1 = 1 := by decide
  simp [evOp_call, sets, T.get_set, w1]
  refine Gd_loop (in1I x F 0 b st) (fun e _ => 0) ?_ ?_
  · exact ⟨by simp [T.get_set], by simp [T.get_set], rfl⟩
  rintro e s ⟨g2, g8, rfl⟩
  have : ¬ (1 : Int) < b := by omega
  simp [evOp_call, T.get_set, g2, g8, this, sets]
def st1I (x F : V) (b : Nat) (st : St) (e : Env) (s : St) : Prop := e.get 0 = some x ∧ e.get 1 = some (.int .i64 (b : Int)) ∧ e.get 2 = some F ∧ e.get 6 = some (.int .i64 20) ∧ e.get 7 = some (.int .i64 0) ∧ e.get 8 = some (.int .i64 20) ∧ s = st
set_option maxRecDepth 20000 in
set_option maxHeartbeats 4000000 in
theorem stable1_any (st : St) (x F : V) (b : Nat) (hb : b ≤ 1) (nt : Nat) : Gd (callL Try.prog ⟨false, [], 0, nt⟩ 78 [x, .int .i64 (b : Int), F] st) fun r => r = (.t [], st) := by
  rw [Gd_callL Try.func78 rfl]
  have h1 : ¬ (20 : Int) ≤ b := by omega
  have h2 : ¬ (20 : Int) < b := by omega
  simp [evOp_call, sets, T.get_set]
  refine Gd_loop (st1I x F b st) (fun e _ => 0) ?_ ?_
  · exact ⟨by simp [T.get_set], by simp [T.get_set], by simp [T.get_set], by simp [T.get_set], by simp [T.get_set], by simp [T.get_set], rfl⟩
  rintro e s ⟨g0, g1, g2, g6, g7, g8, rfl⟩
  simp [evOp_call, T.get_set, g0, g1, g2, g6, g7, g8, h1]
  refine Gd.mono (ins1_any s x F b hb _) ?_
  rintro _ rfl
  simp [evOp_call, T.get_set, g0, g1, g2, g6, g7, g8]
  refine Gd_loop (st1I x F b s) (fun e _ => 0) ?_ ?_
  · exact ⟨by simp [T.get_set, g0], by simp [T.get_set, g1], by simp [T.get_set, g2], by simp [T.get_set, g6], by simp [T.get_set, g7], by simp [T.get_set, g8], rfl⟩
  rintro e s ⟨g0, g1, g2, g6, g7, g8, rfl⟩
  simp [evOp_call, T.get_set, g0, g1, g2, g6, g7, g8, h2, sets]
set_option maxRecDepth 20000 in
set_option maxHeartbeats 4000000 in
theorem sortS1_any (st : St) (x F : V) (K : List Rn) (hx : RdRow st x 2 K.length (cells K)) (hK : K.length ≤ 1) (nt : Nat) : Gd (callL Try.prog ⟨false, [], 0, nt⟩ 72 [x, F] st) fun r => r = (.t [], st) := by
  rw [Gd_callL Try.func72 rfl]
  simp [evOp_call, sets, T.get_set, hx.lenS]
  refine Gd.mono (stable1_any st x F K.length hK _) ?_
  rintro _ rfl
  simp [evOp_call, sets, T.get_set]
def pd1I (x F : V) (b : Nat) (w : Int) (st : St) (e : Env) (s : St) : Prop := e.get 0 = some x ∧ e.get 1 = some (.int .i64 0) ∧ e.get 2 = some (.int .i64 (b : Int)) ∧ e.get 3 = some (.int .i64 w) ∧ e.get 4 = some F ∧ s = st
end Go.Proofs.Ytcjddojcfdeflaa
set_option linter.unusedSimpArgs false
set_option linter.unusedVariables false
namespace Go.Proofs.Ytcjddojcfdeflaa
open Go.RowKit Ev
theorem ownLow {b b' : Nat} {st : St} {x : V} {z n : Nat} {l : List V} (h : OwnRow b st x z n l) (hb : b' ≤ b) : OwnRow b' st x z n l := by
  obtain ⟨h1, h2⟩ := h
  refine ⟨h1, ?_⟩
  rcases h2 with h2 | ⟨m, ty, t, h2, h3, h4, h5⟩
  · exact .inl h2
  · exact .inr ⟨m, ty, t, h2, Nat.le_trans hb h3, h4, h5⟩
def m1I (st : St) (c : V) (K : List Rn) (e : Env) (s : St) : Prop := e.get 8 = some c ∧ e.get 9 = some (.int .i64 (K.length : Int)) ∧ Ext st.nx st s ∧ RdRow s c 2 K.length (cells K) ∧ ((e.get 10 = some (.int .i64 ((0 : Nat) : Int)) ∧ e.get 3 = some (.c (.slice none 0 0))) ∨ (K.length = 1 ∧ e.get 10 = some (.int .i64 ((1 : Nat) : Int)) ∧ ∃ y, e.get 3 = some y ∧ OwnRow st.nx s y 2 1 (cells K)))
set_option maxRecDepth 20000 in
set_option maxHeartbeats 4000000 in
theorem merge1_any (st : St) (x : V) (K : List Rn) (hx : RdRow st x 2 K.length (cells K)) (hK : K.length ≤ 1) (hc : K.filter cnt = K) (nt : Nat) : Gd (callL Try.prog ⟨false, [], 0, nt⟩ 80 [x] st) (gapR st K) := by
  rw [Gd_callL Try.func80 rfl]
  have hwu : wantK true (some V.u) = false := rfl
  have w01 : IntKind.i64.wrap (-1) = -1 := by decide
  have hln : ∀ s : St, lenS s (V.c (.slice none 0 0)) = some (.int .i64 0, s) := fun s => (OwnRow.nil 0 s 2).rd.lenS s
  have w1 : IntKind.i64.wrap 1 = 1 := by decide
  simp [evOp_call, sets, T.get_set]
  refine Gd.mono (counted_any st x K _ hx (by omega)) ?_
  rintro ⟨c, s1⟩ ⟨hcr, e1⟩
  simp only at hcr e1
  rw [hc] at hcr
  simp [evOp_call, sets, T.get_set, hcr.rd.lenS]
  refine Gd_loop (m1I st c K) (fun e _ => muAt 10 K.length e) ?_ ?_
  · exact ⟨by simp [T.get_set], by simp [T.get_set], e1, hcr.rd, .inl ⟨by simp [T.get_set], by simp [T.get_set]⟩⟩
  rintro e s ⟨g8, g9, hs, hcs, ⟨g10, g3⟩ | ⟨hK1, g10, y, g3, hy⟩⟩
  · by_cases h0 : K.length = 0
    · obtain rfl : K = [] := List.eq_nil_of_length_eq_zero h0
      simp [evOp_call, T.get_set, g8, g9, g10, g3, sets]
      exact ⟨OwnRow.nil _ _ _, hs⟩
    · obtain ⟨⟨a, n⟩, rfl⟩ : ∃ r, K = [r] := by
        match K, hK, h0 with
        | [r], _, _ => exact ⟨r, rfl⟩
      have hlt : (0 : Int) < (([(a, n)] : List Rn).length : Int) := by simp
      obtain ⟨m1, o1, ty1, sz1, tr1, i1, b1, k1, l1, c1⟩ := hcs.idx (st := s) un31 io87 (i := 0) (by simp)
      have d0 : tr1.get o1 = some (.int .i64 a) := by simpa using c1 0 _ (by omega) (cells_get [(a, n)] 0 (a, n) rfl).1
      have d1 : tr1.get (o1 + 1) = some (.int .i64 n) := by simpa using c1 1 _ (by omega) (cells_get [(a, n)] 0 (a, n) rfl).2
      simp [evOp_call, T.get_set, g8, g9, g10, g3, i1, loadE_eq, getC_eq, getsB_succ, getsB_zero, k1, d0, d1, newC_is, storeK_g, putB_eq, roT, sets, w01, hln]
      refine ⟨by kernel_rfl, ?_⟩
      refine evOp_build1 (v := .g [.int .i64 a, .int .i64 n]) (cs := [.int .i64 a, .int .i64 n]) (fun k => el31 k) (fun k => ze87 k) rfl (by omega) (by simp [T.get_set]) (fun k => rfl) rfl ?_
      simp [evOp_call, T.get_set, g8, g9, g10, g3]
      have hb := hs.le
      refine Gd_append_nil (b := st.nx) un31 un31 io87 (lx := 1) (new := [.int .i64 a, .int .i64 n]) (by show st.nx ≤ s.nx + 1 + 1; omega) (by decide) (fun s' h => by cases h) (fun k => rfl) (fun k => by simp [getC_eq, getsB_2, T.get_set, sets]) rfl (by omega) ?_
      intro y s4 hy x4 _
      have hx2 : ∀ v w, Ext s.nx s ⟨s.nx + 1 + 1, (s.h.set s.nx v).set (s.nx + 1) w⟩ := fun v w => ((Ext.refl _ _).new (Nat.le_refl _) v).new (Nat.le_succ _) w
      have hs4 : Ext s.nx s s4 := (hx2 _ _).trans (x4.mono (by show s.nx ≤ s.nx + 1 + 1; omega))
      simp [evOp_call, T.get_set, g8, g9, g10, g3, w1]
      exact ⟨⟨by simp [T.get_set, g8], by simp [T.get_set, g9], hs.trans (hs4.mono hb), hcs.ext hs4, .inr ⟨rfl, by simp [T.get_set], y, by simp [T.get_set], hy⟩⟩, by rw [muAt_eq g10, muAt_eq (k := 1) (i := .i64) (by simp [T.get_set])]; simp⟩
  · simp [evOp_call, T.get_set, g8, g9, g10, g3, hK1, sets]
    exact ⟨by rw [hK1]; exact hy, hs⟩
def a1I (c : V) (s0 : St) (e : Env) (s : St) : Prop := e.get 3 = some c ∧ e.get 4 = some (.int .i64 1) ∧ s = s0
def sp1I (st : St) (c : V) (a n i : Int) (e : Env) (s : St) : Prop := e.get 10 = some c ∧ e.get 11 = some (.int .i64 1) ∧ Ext st.nx st s ∧ RdRow s c 2 1 (cells [(a, n)]) ∧ e.get 5 = some (.c (.slice none 0 0)) ∧ ((e.get 1 = some (.int .i64 i) ∧ e.get 12 = some (.int .i64 ((0 : Nat) : Int)) ∧ e.get 4 = some (.c (.slice none 0 0))) ∨ (e.get 12 = some (.int .i64 ((1 : Nat) : Int)) ∧ ∃ y, e.get 4 = some y ∧ OwnRow st.nx s y 2 1 (cells [(a, n)])))
set_option maxRecDepth 20000 in
set_option maxHeartbeats 4000000 in
theorem split1_any (st : St) (x : V) (a n i : Int) (hx : RdRow st x 2 1 (cells [(a, n)])) (hc : cnt (a, n) = true) (hi : n ≤ i ∧ i ≤ 9223372036854775807) (nt : Nat) : Gd (callL Try.prog ⟨false, [], 0, nt⟩ 79 [x, .int .i64 i] st) fun r => ∃ y, r.1 = .t [y, .c (.slice none 0 0)] ∧ OwnRow st.nx r.2 y 2 1 (cells [(a, n)]) ∧ Ext st.nx st r.2 := by
  rw [Gd_callL Try.func79 rfl]
  have hn1 : 1 ≤ n ∧ n ≤ 1073741824 := by unfold cnt at hc; simp at hc; omega
  have w1 : IntKind.i64.wrap 1 = 1 := by decide
  have w2 : IntKind.i64.wrap (i - n) = i - n := wrap_in (by omega) (by omega)
  simp [evOp_call, sets, T.get_set]
  refine Gd.mono (counted_any st x [(a, n)] _ hx (by simp)) ?_
  rintro ⟨c, s1⟩ ⟨hcr, e1⟩
  simp only at hcr e1
  rw [show ([(a, n)] : List Rn).filter cnt = [(a, n)] by simp [List.filter, hc]] at hcr
  simp [evOp_call, sets, T.get_set, hcr.rd.lenS]
  refine Gd_loop (sp1I st c a n i) (fun e _ => muAt 12 1 e) ?_ ?_
  · exact ⟨by simp [T.get_set], by simp [T.get_set], e1, hcr.rd, by simp [T.get_set], .inl ⟨by simp [T.get_set], by simp [T.get_set], by simp [T.get_set]⟩⟩
  rintro e s ⟨g10, g11, hs, hcs, g5, ⟨g1, g12, g4⟩ | ⟨g12, y, g4, hy⟩⟩
  · obtain ⟨m1, o1, ty1, sz1, tr1, i1, b1, k1, l1, c1⟩ := hcs.idx (st := s) un31 io87 (i := 0) (by omega)
    have d0 : tr1.get o1 = some (.int .i64 a) := by simpa using c1 0 _ (by omega) (cells_get [(a, n)] 0 (a, n) rfl).1
    have d1 : tr1.get (o1 + 1) = some (.int .i64 n) := by simpa using c1 1 _ (by omega) (cells_get [(a, n)] 0 (a, n) rfl).2
    have q1 : (if i < n then i else n) = n := by split <;> omega
    have q2 : (if n < i then n else i) = n := by split <;> omega
    have q3 : (if n > 0 then n else 0) = n := if_pos (by omega)
    have q4 : (0 : Int) < n := by omega
    simp [evOp_call, T.get_set, g10, g11, g5, g1, g12, g4, i1, loadE_eq, getC_eq, getsB_succ, getsB_zero, k1, d0, d1, newC_is, storeK_g, putB_eq, roT, sets, evOp_min, evOp_max, min_i64, max_i64, q1, q2, q3, q4]
    refine evOp_build1 (v := .g [.int .i64 a, .int .i64 n]) (cs := [.int .i64 a, .int .i64 n]) (fun k => el31 k) (fun k => ze87 k) rfl (by omega) (by simp [T.get_set]) (fun k => rfl) rfl ?_
    simp [evOp_call, T.get_set, g10, g11, g5, g1, g12, g4]
    have hb := hs.le
    refine Gd_append_nil (b := st.nx) un31 un31 io87 (lx := 1) (new := [.int .i64 a, .int .i64 n]) (by show st.nx ≤ s.nx + 1 + 1; omega) (by decide) (fun s' h => by cases h) (fun k => rfl) (fun k => by simp [getC_eq, getsB_2, T.get_set, sets]) rfl (by omega) ?_
    intro y s4 hy x4 _
    have hx2 : ∀ v w, Ext s.nx s ⟨s.nx + 1 + 1, (s.h.set s.nx v).set (s.nx + 1) w⟩ := fun v w => ((Ext.refl _ _).new (Nat.le_refl _) v).new (Nat.le_succ _) w
    have hs4 : Ext s.nx s s4 := (hx2 _ _).trans (x4.mono (by show s.nx ≤ s.nx + 1 + 1; omega))
    have q5 : ¬ s.nx + 1 = s.nx := by omega
    have kq : ∃ t, s4.h.get s.nx = some (.cs 87 2 t) ∧ t.get 1 = some (.int .i64 n) := ⟨_, (x4.keep s.nx (by show s.nx < s.nx + 1 + 1; omega)).trans ((T.get_set_ne _ _ q5).trans (T.get_set_same _ _ _)), by simp [T.get_set]⟩
    obtain ⟨tq, kq, eq⟩ := kq
    simp [evOp_call, T.get_set, g10, g11, g5, g1, g12, g4, w1, w2, loadE_eq, getC_eq, kq, eq]
    exact ⟨⟨by simp [T.get_set, g10], by simp [T.get_set, g11], hs.trans (hs4.mono hb), hcs.ext hs4, by simp [T.get_set, g5], .inr ⟨by simp [T.get_set], y, by simp [T.get_set], hy⟩⟩, by rw [muAt_eq g12, muAt_eq (k := 1) (i := .i64) (by simp [T.get_set])]; simp⟩
  · simp [evOp_call, T.get_set, g10, g11, g5, g12, g4, sets]
    exact ⟨hy, hs⟩
set_option maxRecDepth 20000 in
set_option maxHeartbeats 4000000 in
theorem cut1_any (st : St) (x : V) (a n i : Int) (hx : RdRow st x 2 1 (cells [(a, n)])) (hc : cnt (a, n) = true) (hi : n ≤ i ∧ i ≤ 9223372036854775807) (nt : Nat) : Gd (callL Try.prog ⟨false, [], 0, nt⟩ 74 [x, .int .i64 i] st) fun r => ∃ y w, r.1 = .t [y, w] ∧ OwnRow st.nx r.2 y 2 1 (cells [(a, n)]) ∧ Ext st.nx st r.2 := by
  rw [Gd_callL Try.func74 rfl]
  have hf : ([(a, n)] : List Rn).filter cnt = [(a, n)] := by simp [List.filter, hc]
  simp [evOp_call, sets, T.get_set]
  refine Gd.mono (split1_any st x a n i hx hc hi _) ?_
  rintro ⟨r, s1⟩ ⟨y, hr, hy, x1⟩
  simp only at hr hy x1
  subst hr
  simp [evOp_call, sets, T.get_set, tupK]
  refine Gd.mono (merge1_any s1 y [(a, n)] hy.rd (by simp) hf _) ?_
  rintro ⟨y2, s2⟩ ⟨hy2, x2⟩
  simp only at hy2 x2
  simp [evOp_call, sets, T.get_set, tupK]
  refine Gd.mono (merge1_any s2 (.c (.slice none 0 0)) [] (OwnRow.nil 0 _ 2).rd (by simp) rfl _) ?_
  rintro ⟨y3, s3⟩ ⟨hy3, x3⟩
  simp only at hy3 x3
  simp [evOp_call, sets, T.get_set, tupK]
  have b1 := x1.le
  have b2 := x2.le
  exact ⟨(ownLow hy2 b1).ext x3, (x1.trans (x2.mono b1)).trans (x3.mono (by omega))⟩
end Go.Proofs.Ytcjddojcfdeflaa
set_option linter.unusedSimpArgs false
set_option linter.unusedVariables false
namespace Go.Proofs.Ytcjddojcfdeflaa
open Go.RowKit Ev
/-- a pool for one client, of which this is known -/
structure P1 (st : St) (q m : Nat) (g : Gm) (z : V) (L : List (BitVec 64)) (f e : Nat) : Prop where
  hg : isGood g
  hp : PoolAt st q g z m L
  hm : m ≤ 100000
  hc : g.c = 1
  hf : dF g = (f : Int)
  he : dF g + dN g = (e : Int)
  hfe : f < e
  he2 : e ≤ 1000
theorem P1.ext {st s' : St} {q m : Nat} {g : Gm} {z : V} {L : List (BitVec 64)} {f e : Nat} (h : P1 st q m g z L f e) (k : Ext st.nx st s') : P1 s' q m g z L f e :=
  ⟨h.hg, h.hp.ext k, h.hm, h.hc, h.hf, h.he, h.hfe, h.he2⟩
def oneR (st : St) (o : Option Int) (n : Int) (r : V × St) : Prop := (match o with
  | some a => RdRow r.2 r.1 2 1 (cells [(a, n)]) ∧ RowFrom st.nx r.1
  | none => r.1 = .c (.slice none 0 0)) ∧ Ext st.nx st r.2
set_option maxRecDepth 20000 in
set_option maxHeartbeats 4000000 in
theorem one_any (st : St) (q m : Nat) (g : Gm) (z : V) (L : List (BitVec 64)) (f e : Nat) (P : P1 st q m g z L f e) (n : Int) (nt : Nat) :
    Gd (callL Try.prog ⟨false, [], 0, nt⟩ 62 [.p q 0, .int .i64 0, .int .i64 n] st) (oneR st (freeB L (f : Int) (e : Int) n) n) := by
  rw [Gd_callL Try.func62 rfl]
  have P0 := P
  obtain ⟨hg, hp, hm, hc, hf, he, hfe, he2⟩ := P
  have hgv : grpV g 0 = .t [.int .i64 (f : Int), .int .i64 ((e : Int) - (f : Int))] := by
    unfold grpV
    rw [if_pos (by omega)]
    unfold grpN
    rw [if_pos (by omega), Int.zero_mul, show dF g + 0 = (f : Int) by omega, show dN g - 0 = (e : Int) - (f : Int) by omega]
  simp [evOp_call, sets, T.get_set]
  refine Gd.mono (group_any st q m g z L hg hp 0 _) ?_
  rintro ⟨r, s1⟩ ⟨hr, x1⟩
  simp only at hr x1
  subst hr
  rw [hgv]
  have hp1 := hp.ext x1
  have hp10 := hp1
  obtain ⟨hq, ⟨t, ht, t0, t1, t2, t3, t4⟩, hrz⟩ := hp1
  have hLm : L.length = m := by have := hrz.1; simpa using this
  have hrL : RdRow s1 z 1 L.length (wv L) := by rw [hLm]; exact hrz
  have w1 : IntKind.i64.wrap ((f : Int) + ((e : Int) - (f : Int))) = (e : Int) := by rw [show (f : Int) + ((e : Int) - (f : Int)) = (e : Int) by omega]; exact wrap_in (by omega) (by omega)
  simp [tupK, evOp_call, sets, T.get_set, loadE_eq, getC_eq, ht, t4, getsB_succ, getsB_zero, w1]
  refine Gd.mono (free_any s1 z L hrL (by omega) (f : Int) (e : Int) n (by omega) _) ?_
  rintro ⟨r, s2⟩ ⟨hr, x2⟩
  simp only at hr x2
  subst hr
  have hs2 : Ext st.nx st s2 := x1.trans (x2.mono x1.le)
  cases hfr : freeB L (f : Int) (e : Int) n with
  | some a =>
    simp [freeV, tupK, evOp_call, T.get_set]
    refine evOp_build1 (v := .g [.int .i64 a, .int .i64 n]) (cs := [.int .i64 a, .int .i64 n]) (fun k => el31 k) (fun k => ze87 k) rfl (by omega) (by simp [T.get_set]) (fun k => rfl) rfl ?_
    simp [evOp_call, T.get_set]
    have hb := hs2.le
    refine ⟨⟨⟨rfl, .inr (.inl ⟨s2.nx, 0, 1, _, _, _, rfl, Nat.lt_succ_self _, T.get_set_same _ _ _, by simp, fun j v hj => ?_⟩)⟩, ⟨fun _ _ _ _ e => (by cases e), fun _ _ _ _ e => (by injection e with e; omega)⟩⟩, hs2.new hb _⟩
    have hj2 : ([.int .i64 a, .int .i64 n] : List V)[j]? = some v := hj
    have hlt := lt_of_get hj2
    rw [get_sets, if_pos ⟨Nat.zero_le _, by omega⟩]
    simpa using hj2
  | none =>
    simp [freeV, tupK, evOp_call, T.get_set]
    refine Gd.mono (pdata_any s2 q m g z L hg (hp10.ext x2) _) ?_
    rintro ⟨r, s3⟩ ⟨hr, x3⟩
    simp only at hr x3
    subst hr
    rw [he, hf]
    have ht3 := (x3.keep _ (Nat.lt_of_lt_of_le hq x2.le)).trans ((x2.keep _ hq).trans ht)
    have hs3 : Ext st.nx st s3 := hs2.trans (x3.mono hs2.le)
    simp [tupK, evOp_call, sets, T.get_set, loadE_eq, getC_eq, ht3, t4, getsB_succ, getsB_zero]
    refine Gd.mono (free_any s3 z L ((hrL.ext x2).ext x3) (by omega) (f : Int) (e : Int) n (by omega) _) ?_
    rintro ⟨r, s4⟩ ⟨hr, x4⟩
    simp only at hr x4
    subst hr
    rw [hfr]
    simp [freeV, tupK, evOp_call, T.get_set]
    exact ⟨rfl, hs3.trans (x4.mono hs3.le)⟩
set_option maxRecDepth 20000 in
set_option maxHeartbeats 4000000 in
theorem few_any (st : St) (q m : Nat) (g : Gm) (z : V) (L : List (BitVec 64)) (f e : Nat) (P : P1 st q m g z L f e) (a k n : Int) (hK : gapsC L f e [(a, k)]) (hc : cnt (a, k) = true) (hn : k ≤ n ∧ n ≤ 9223372036854775807) (nt : Nat) :
    Gd (callL Try.prog ⟨false, [], 0, nt⟩ 63 [.p q 0, .int .i64 n] st) (gapR st [(a, k)]) := by
  rw [Gd_callL Try.func63 rfl]
  simp [evOp_call, sets, T.get_set]
  refine Gd.mono (gaps_any st q m g z L P.hg P.hp P.hm f e P.hf P.he P.hfe (by have := P.he2; omega) [(a, k)] hK _) ?_
  rintro ⟨y, s1⟩ ⟨hy, x1⟩
  simp only at hy x1
  simp [evOp_call, sets, T.get_set]
  refine Gd.mono (sortS1_any s1 y _ [(a, k)] hy.rd (by simp) _) ?_
  rintro _ rfl
  simp [evOp_call, sets, T.get_set]
  refine Gd.mono (cut1_any s1 y a k n hy.rd hc hn _) ?_
  rintro ⟨r, s2⟩ ⟨y2, w, hr, hy2, x2⟩
  simp only at hr hy2 x2
  subst hr
  simp [tupK, evOp_call, sets, T.get_set]
  exact ⟨ownLow hy2 x1.le, x1.trans (x2.mono x1.le)⟩
end Go.Proofs.Ytcjddojcfdeflaa
set_option linter.unusedSimpArgs false
set_option linter.unusedVariables false
namespace Go.Proofs.Ytcjddojcfdeflaa
open Go.RowKit Ev
theorem row_keep {s s' : St} {x : V} {z n : Nat} {l : List V} (h : RdRow s x z n l) (k : ∀ b, rowInP x b → b < s.nx → b < s'.nx ∧ s'.h.get b = s.h.get b) : RdRow s' x z n l := by
  obtain ⟨h1, h2⟩ := h
  refine ⟨h1, ?_⟩
  rcases h2 with h2 | ⟨m, o, q, ty, sz, t, rfl, h3, h4, h5, h6⟩ | ⟨m, o, ty, sz, t, rfl, h3, h4, h5, h6⟩
  · exact .inl h2
  · obtain ⟨k1, k2⟩ := k m (.inl ⟨_, _, _, rfl⟩) h3
    exact .inr (.inl ⟨m, o, q, ty, sz, t, rfl, k1, k2.trans h4, h5, h6⟩)
  · obtain ⟨k1, k2⟩ := k m (.inr ⟨_, _, _, rfl⟩) h3
    exact .inr (.inr ⟨m, o, ty, sz, t, rfl, k1, k2.trans h4, h5, h6⟩)
def tkNo (st : St) (c : Int) (r : V × St) : Prop := r.1 = .t [.c (.slice none 0 0), .int .i64 c] ∧ Ext st.nx st r.2
def tkYes (st : St) (q m : Nat) (g : Gm) (L : List (BitVec 64)) (K : List Rn) (r : V × St) : Prop := ∃ y, r.1 = .t [y, .int .i64 0] ∧ RdRow r.2 y 2 K.length (cells K) ∧ (∀ b, rowInP y b → st.nx ≤ b) ∧ mkR st q m g L r
theorem neg_lt (n : Int) (h : n < 0) : ¬ (0 : Int) ≤ n := by omega
set_option maxRecDepth 20000 in
set_option maxHeartbeats 4000000 in
theorem take_neg (st : St) (q m : Nat) (g : Gm) (z : V) (L : List (BitVec 64)) (f e : Nat) (P : P1 st q m g z L f e) (n : Int) (hn : n < 0) (nt : Nat) :
    Gd (callL Try.prog ⟨false, [], 0, nt⟩ 53 [.p q 0, .int .i64 0, .int .i64 n, .int .i64 4] st) (tkNo st 1) := by
  rw [Gd_callL Try.func53 rfl]
  obtain ⟨hg, hp, hm, hc, hf, he, hfe, he2⟩ := P
  obtain ⟨hq, ⟨t, ht, t0, t1, t2, t3, t4⟩, hr⟩ := hp
  rw [hc] at t2
  have hwf : wantK false (some V.u) = false := rfl
  simp [evOp_call, sets, T.get_set, loadE_eq, getC_eq, ht, t2, hn, hwf]
  exact ⟨rfl, Ext.refl _ _⟩
set_option maxRecDepth 20000 in
set_option maxHeartbeats 4000000 in
theorem take_zero (st : St) (q m : Nat) (g : Gm) (z : V) (L : List (BitVec 64)) (f e : Nat) (P : P1 st q m g z L f e) (nt : Nat) :
    Gd (callL Try.prog ⟨false, [], 0, nt⟩ 53 [.p q 0, .int .i64 0, .int .i64 0, .int .i64 4] st) (tkYes st q m g L []) := by
  rw [Gd_callL Try.func53 rfl]
  have P0 := P
  obtain ⟨hg, hp, hm, hc, hf, he, hfe, he2⟩ := P
  obtain ⟨hq, ⟨t, ht, t0, t1, t2, t3, t4⟩, hr⟩ := hp
  rw [hc] at t2
  have hwf : wantK false (some V.u) = false := rfl
  have hwu : wantK true (some V.u) = false := rfl
  have hln : ∀ s : St, lenS s (V.c (.slice none 0 0)) = some (.int .i64 0, s) := fun s => (OwnRow.nil 0 s 2).rd.lenS s
  simp [evOp_call, sets, T.get_set, loadE_eq, getC_eq, ht, t2, hwf]
  refine Gd.mono (one_any st q m g z L f e P0 0 _) ?_
  rintro ⟨r, s1⟩ ⟨hr, x1⟩
  have hfr : freeB L (f : Int) (e : Int) 0 = none := by unfold freeB; rw [if_pos (by decide)]
  rw [hfr] at hr
  simp only at hr x1
  subst hr
  simp [evOp_call, sets, T.get_set, hln, hwf, hwu]
  refine Gd.mono (total_any s1 (.c (.slice none 0 0)) [] _ (OwnRow.nil 0 _ 2).rd (by simp) (by decide)) ?_
  rintro ⟨r, s2⟩ ⟨hr, x2⟩
  simp only at hr x2
  subst hr
  have hl0 : lens (([] : List Rn).filter cnt) = 0 := rfl
  rw [hl0]
  have hs2 : Ext st.nx st s2 := x1.trans (x2.mono x1.le)
  simp [evOp_call, sets, T.get_set, hln, hwf, hwu]
  refine Gd.mono (mark_any s2 q m g z L (P0.hp.ext hs2) hm true (.c (.slice none 0 0)) [] (OwnRow.nil 0 _ 2).rd ⟨by simp, fun r hr => by cases hr⟩ _) ?_
  rintro ⟨r, s3⟩ ⟨z', hp3, hle, hk, hx3, hz3⟩
  have hl2 := hs2.le
  simp [evOp_call, sets, T.get_set]
  exact ⟨_, rfl, (OwnRow.nil 0 _ 2).rd, fun b h => (by rcases h with ⟨_, _, _, e⟩ | ⟨_, _, _, e⟩ <;> cases e), z', hp3, Nat.le_trans hl2 hle, fun k h1 h2 => (hk k (by omega) h2).trans (hs2.keep k h1), (hs2.mono (by omega)).trans hx3, hz3⟩
set_option maxRecDepth 20000 in
set_option maxHeartbeats 4000000 in
theorem take_some (st : St) (q m : Nat) (g : Gm) (z : V) (L : List (BitVec 64)) (f e : Nat) (P : P1 st q m g z L f e) (n : Int) (hn : 1 ≤ n ∧ n ≤ 1000) (a : Int) (ha : 0 ≤ a ∧ a ≤ 1000) (hfr : freeB L (f : Int) (e : Int) n = some a) (nt : Nat) :
    Gd (callL Try.prog ⟨false, [], 0, nt⟩ 53 [.p q 0, .int .i64 0, .int .i64 n, .int .i64 4] st) (tkYes st q m g (setB L true (allJ [(a, n)])) [(a, n)]) := by
  rw [Gd_callL Try.func53 rfl]
  have P0 := P
  obtain ⟨hg, hp, hm, hc, hf, he, hfe, he2⟩ := P
  obtain ⟨hq, ⟨t, ht, t0, t1, t2, t3, t4⟩, hr⟩ := hp
  rw [hc] at t2
  have hwf : wantK false (some V.u) = false := rfl
  have hwu : wantK true (some V.u) = false := rfl
  have h0 : ¬ n < 0 := by omega
  simp [evOp_call, sets, T.get_set, loadE_eq, getC_eq, ht, t2, hwf, h0]
  refine Gd.mono (one_any st q m g z L f e P0 n _) ?_
  rintro ⟨y, s1⟩ ⟨hr, x1⟩
  rw [hfr] at hr
  obtain ⟨hy, hyf⟩ := hr
  simp only at hy hyf x1
  have hly : ∀ s : St, lenS s y = some (.int .i64 1, s) := fun s => hy.lenS s
  have hcn : cnt (a, n) = true := by unfold cnt; simp; omega
  have hfl : ([(a, n)] : List Rn).filter cnt = [(a, n)] := by simp [List.filter, hcn]
  have hle1 : lens [(a, n)] = n := by simp [lens]
  simp [evOp_call, sets, T.get_set, hly, hwf, hwu]
  refine Gd.mono (total_any s1 y [(a, n)] _ hy (by simp) (by rw [hfl, hle1]; omega)) ?_
  rintro ⟨r, s2⟩ ⟨hr, x2⟩
  simp only at hr x2
  subst hr
  rw [hfl, hle1]
  have hs2 : Ext st.nx st s2 := x1.trans (x2.mono x1.le)
  simp [evOp_call, sets, T.get_set, hly, hwf, hwu]
  refine Gd.mono (mark_any s2 q m g z L (P0.hp.ext hs2) hm true y [(a, n)] (hy.ext x2) ⟨by simp, fun r hr => by simp at hr; subst hr; exact ⟨ha.1, ha.2, by show 0 ≤ n; omega, hn.2⟩⟩ _) ?_
  rintro ⟨r, s3⟩ ⟨z', hp3, hle, hk, hx3, hz3⟩
  have hl2 := hs2.le
  have hyb : ∀ b, rowInP y b → st.nx ≤ b := fun b h => by
    rcases h with ⟨_, _, _, e⟩ | ⟨_, _, _, e⟩
    · exact hyf.2 _ _ _ _ e
    · exact hyf.1 _ _ _ _ e
  simp [evOp_call, sets, T.get_set]
  refine ⟨_, rfl, row_keep (hy.ext x2) fun b hb h1 => ⟨Nat.lt_of_lt_of_le h1 hle, hk b h1 (by have := hyb b hb; omega)⟩, hyb, z', hp3, Nat.le_trans hl2 hle, fun k h1 h2 => (hk k (by omega) h2).trans (hs2.keep k h1), (hs2.mono (by omega)).trans hx3, hz3⟩
set_option maxRecDepth 20000 in
set_option maxHeartbeats 4000000 in
theorem take_none (st : St) (q m : Nat) (g : Gm) (z : V) (L : List (BitVec 64)) (f e : Nat) (P : P1 st q m g z L f e) (n : Int) (a k : Int) (hK : gapsC L f e [(a, k)]) (hcn : cnt (a, k) = true) (hn : k < n ∧ n ≤ 9223372036854775807) (hfr : freeB L (f : Int) (e : Int) n = none) (nt : Nat) :
    Gd (callL Try.prog ⟨false, [], 0, nt⟩ 53 [.p q 0, .int .i64 0, .int .i64 n, .int .i64 4] st) (tkNo st 7) := by
  rw [Gd_callL Try.func53 rfl]
  have P0 := P
  obtain ⟨hg, hp, hm, hc, hf, he, hfe, he2⟩ := P
  obtain ⟨hq, ⟨t, ht, t0, t1, t2, t3, t4⟩, hr⟩ := hp
  rw [hc] at t2
  have hwf : wantK false (some V.u) = false := rfl
  have hwu : wantK true (some V.u) = false := rfl
  have hk1 : 1 ≤ k ∧ k ≤ 1073741824 := by unfold cnt at hcn; simp at hcn; omega
  have h0 : ¬ n < 0 := by omega
  have h1 : 0 < n := by omega
  have hln : ∀ s : St, lenS s (V.c (.slice none 0 0)) = some (.int .i64 0, s) := fun s => (OwnRow.nil 0 s 2).rd.lenS s
  simp [evOp_call, sets, T.get_set, loadE_eq, getC_eq, ht, t2, hwf, h0]
  refine Gd.mono (one_any st q m g z L f e P0 n _) ?_
  rintro ⟨r, s1⟩ ⟨hr, x1⟩
  rw [hfr] at hr
  simp only at hr x1
  subst hr
  simp [evOp_call, sets, T.get_set, hln, hwf, hwu, h1]
  refine Gd.mono (few_any s1 q m g z L f e (P0.ext x1) a k n hK hcn ⟨by omega, hn.2⟩ _) ?_
  rintro ⟨y, s2⟩ ⟨hy, x2⟩
  simp only at hy x2
  have hfl : ([(a, k)] : List Rn).filter cnt = [(a, k)] := by simp [List.filter, hcn]
  have hle1 : lens [(a, k)] = k := by simp [lens]
  simp [evOp_call, sets, T.get_set]
  refine Gd.mono (total_any s2 y [(a, k)] _ hy.rd (by simp) (by rw [hfl, hle1]; omega)) ?_
  rintro ⟨r, s3⟩ ⟨hr, x3⟩
  simp only at hr x3
  subst hr
  rw [hfl, hle1]
  have hs2 : Ext st.nx st s2 := x1.trans (x2.mono x1.le)
  simp [evOp_call, sets, T.get_set, hwf, hwu, hn.1]
  exact ⟨rfl, hs2.trans (x3.mono hs2.le)⟩
end Go.Proofs.Ytcjddojcfdeflaa
set_option linter.unusedSimpArgs false
set_option linter.unusedVariables false
namespace Go.Proofs.Ytcjddojcfdeflaa
open Go.RowKit Ev
def gvI (st : St) (q m : Nat) (g : Gm) (z : V) (L : List (BitVec 64)) (f e : Nat) (y : V) (K : List Rn) (en : Env) (s : St) : Prop := ∃ j : Nat, j ≤ K.length ∧ en.get 0 = some (.p q 0) ∧ en.get 1 = some y ∧ en.get 5 = some (.int .i64 (f : Int)) ∧ en.get 6 = some (.int .i64 (e : Int)) ∧ en.get 16 = some y ∧ en.get 17 = some (.int .i64 (K.length : Int)) ∧ en.get 18 = some (.int .i64 (j : Int)) ∧ Ext st.nx st s
def gvR (st : St) (q m : Nat) (g : Gm) (L : List (BitVec 64)) (r : V × St) : Prop := r.1 = .int .i64 0 ∧ mkR st q m g L r
end Go.Proofs.Ytcjddojcfdeflaa
set_option linter.unusedSimpArgs false
set_option linter.unusedVariables false
namespace Go.Proofs.Ytcjddojcfdeflaa
open Go.RowKit Ev
def g80 : Gm := ⟨80, 10, 1, 20⟩
def E80 : List (BitVec 64) := emptyI g80 80
def N80 (n : Nat) : List (BitVec 64) := setB E80 true (allJ [(42, (n : Int))])
def K80 (n : Nat) : List Rn := if n < 37 then [(((42 + n : Nat) : Int), (79 : Int) - ((42 + n : Nat) : Int))] else []
def chk80 (n : Nat) : Bool := decide (freeB E80 42 79 (n : Int) = some 42) && decide (nextB (N80 n) false 42 (42 + (n : Int)) = none) && decide (setB (N80 n) false (allJ [(42, (n : Int))]) = E80)
def gap80 (n : Nat) : Bool := if n < 37 then decide (nextB (N80 n) false 42 79 = some (42 + n)) && decide (nextB (N80 n) true ((42 + n : Nat) : Int) 79 = none) && decide (nextB (N80 n) false 79 79 = none) else decide (nextB (N80 n) false 42 79 = none)
set_option maxRecDepth 100000 in
theorem chk_all : (List.range 38).all (fun n => n == 0 || chk80 n) = true := by kernel_rfl
set_option maxRecDepth 100000 in
theorem gap_all : (List.range 38).all gap80 = true := by kernel_rfl
theorem good80 : isGood g80 := of_decide_eq_true (by kernel_rfl)
set_option maxRecDepth 100000 in
theorem cnt80 : cntL E80 = 43 := by kernel_rfl
theorem N80_zero : N80 0 = E80 := by
  have : allJ [(42, ((0 : Nat) : Int))] = [] := rfl
  unfold N80
  rw [this]
  unfold setB
  exact List.foldl_nil
theorem freeF_none (p : Nat → Bool) (n : Int) : ∀ (k i : Nat) (row : Int), 0 ≤ row → row + k < n → freeF p n k i row = none
  | 0, _, _, _, _ => rfl
  | k + 1, i, row, h, h2 => by
    unfold freeF
    split
    · exact freeF_none p n k _ 0 (Int.le_refl _) (by omega)
    · rw [if_neg (by omega)]
      exact freeF_none p n k _ _ (by omega) (by omega)
theorem free80_some {n : Nat} (h1 : 1 ≤ n) (h2 : n ≤ 37) : freeB E80 42 79 (n : Int) = some 42 ∧ nextB (N80 n) false 42 (42 + (n : Int)) = none ∧ setB (N80 n) false (allJ [(42, (n : Int))]) = E80 := by
  have := List.all_eq_true.1 chk_all n (List.mem_range.2 (by omega))
  have h0 : (n == 0) = false := by simp; omega
  rw [h0, Bool.false_or] at this
  unfold chk80 at this
  simp only [Bool.and_eq_true, decide_eq_true_eq] at this
  exact ⟨this.1.1, this.1.2, this.2⟩
theorem gaps80 {n : Nat} (h2 : n ≤ 37) : gapsC (N80 n) 42 79 (K80 n) := by
  have := List.all_eq_true.1 gap_all n (List.mem_range.2 (by omega))
  unfold gap80 at this
  unfold K80
  by_cases h : n < 37
  · rw [if_pos h] at this ⊢
    simp only [Bool.and_eq_true, decide_eq_true_eq] at this
    exact .inr ⟨42 + n, rfl, by omega, by omega, this.1.1, this.1.2, this.2⟩
  · rw [if_neg h] at this ⊢
    exact .inl ⟨rfl, of_decide_eq_true this⟩
theorem lens80 {n : Nat} (h2 : n ≤ 37) : lens (K80 n) = 37 - (n : Int) := by
  unfold K80
  split
  · simp [lens]; omega
  · simp [lens]; omega
theorem endB80 : endB E80 79 = 79 := by kernel_rfl
theorem free80_none {n : Int} (h : 37 < n) : freeB E80 42 79 n = none := by
  unfold freeB
  rw [if_neg (by omega), endB80]
  exact freeF_none _ _ _ _ _ (Int.le_refl _) (by have : fromB 42 = 42 := rfl; rw [this]; show (0 : Int) + ((37 : Nat) : Int) < n; omega)
set_option maxRecDepth 20000 in
set_option maxHeartbeats 4000000 in
theorem plain80_any (st : St) (nt : Nat) : Gd (callL Try.prog ⟨false, [], 0, nt⟩ 16 [.int .i64 80] st) fun r => r.1 = gV g80 ∧ Ext st.nx st r.2 := by
  rw [Gd_callL Try.func16 rfl]
  have e0 := fun v => (Ext.refl st.nx st).new (Nat.le_refl _) v
  simp [evOp_call, sets, T.get_set, newC_is, storeK_g, putB_eq, roT, loadE_eq, getC_eq, getsB_succ, getsB_zero]
  exact ⟨rfl, e0 _⟩
end Go.Proofs.Ytcjddojcfdeflaa
set_option linter.unusedSimpArgs false
set_option linter.unusedVariables false
namespace Go.Proofs.Ytcjddojcfdeflaa
open Go.RowKit Ev
theorem PoolAt.er {s : St} {q m : Nat} {g : Gm} {z : V} {L : List (BitVec 64)} (h : PoolAt s q g z m L) {l : List (Nat × Nat)} (hq : inF l q = false) (hz : ∀ b, rowInP z b → inF l b = false) : PoolAt (er l s) q g z m L := by
  obtain ⟨h1, ⟨t, h2, h3⟩, h4⟩ := h
  exact ⟨h1, ⟨t, by rw [er_get, if_pos ⟨h1, hq⟩]; exact h2, h3⟩, h4.er hz⟩
theorem p80 {st : St} {q : Nat} {z : V} {L : List (BitVec 64)} (h : PoolAt st q g80 z 2 L) : P1 st q 2 g80 z L 42 79 := ⟨good80, h, by omega, rfl, rfl, rfl, by omega, by omega⟩
def pbI (st : St) (x : V) (l : List Int) (q0 q : Nat) (e : Env) (s : St) : Prop := ∃ (i : Nat) (z : V), i ≤ l.length ∧ e.get 0 = some x ∧ e.get 3 = some (.p q0 0) ∧ e.get 4 = some (.p q 0) ∧ e.get 6 = some (.int .i64 37) ∧ e.get 7 = some (.int .i64 (i : Int)) ∧ Ext st.nx st s ∧ st.nx ≤ q0 ∧ q0 < q ∧ (∃ t, s.h.get q0 = some (.cs 45 4 t) ∧ t.get 0 = some (.int .i64 80)) ∧ PoolAt s q g80 z 2 E80 ∧ ∀ b, rowInP z b → q0 < b
theorem fits_intsP : Fits Try.prog (rowC iC) 63 := fits_row Try.underlying63 (by kernel_rfl) (by decide) (fits_i Try.underlying3)
end Go.Proofs.Ytcjddojcfdeflaa

/-
  Contracts of package pool: mark.
-/
import Derived.Test.YtdoennkmcloalaaPbA
set_option linter.unusedSimpArgs false
set_option linter.unusedVariables false
namespace Go.Proofs.Ytdoennkmcloalaa
open Go.RowKit Ev
def runJ (a : Int) (i : Nat) : List Int := (List.range i).map fun (j : Nat) => a + (j : Int)
theorem runJ_succ (a : Int) (i : Nat) : runJ a (i + 1) = runJ a i ++ [a + (i : Int)] := by simp [runJ, List.range_succ]
theorem runJ_len (a : Int) (i : Nat) : (runJ a i).length = i := by simp [runJ]
def allJ (K : List Rn) : List Int := K.flatMap fun r => runJ r.1 r.2.toNat
theorem allJ_take {K : List Rn} {j : Nat} {r : Rn} (h : K[j]? = some r) : allJ (K.take (j + 1)) = allJ (K.take j) ++ runJ r.1 r.2.toNat := by
  rw [List.take_add_one, h]; simp [allJ]
def okR (K : List Rn) : Prop := K.length ≤ 10 ∧ ∀ r ∈ K, 0 ≤ r.1 ∧ r.1 ≤ 1000 ∧ 0 ≤ r.2 ∧ r.2 ≤ 1000
theorem allJ_le : ∀ (K : List Rn), (∀ r ∈ K, 0 ≤ r.1 ∧ r.1 ≤ 1000 ∧ 0 ≤ r.2 ∧ r.2 ≤ 1000) → (allJ K).length ≤ K.length * 1000 ∧ ∀ i ∈ allJ K, 0 ≤ i ∧ i ≤ 2000
  | [], _ => ⟨by simp [allJ], fun i hi => by simp [allJ] at hi⟩
  | r :: K, h => by
    obtain ⟨h1, h2⟩ := allJ_le K fun q hq => h q (List.mem_cons_of_mem _ hq)
    have h3 := h r (List.mem_cons_self ..)
    have e : allJ (r :: K) = runJ r.1 r.2.toNat ++ allJ K := rfl
    rw [e]
    refine ⟨by rw [List.length_append, runJ_len, List.length_cons]; omega, fun i hi => ?_⟩
    rcases List.mem_append.1 hi with hi | hi
    · obtain ⟨j, hj, rfl⟩ := List.mem_map.1 hi
      have := List.mem_range.1 hj
      omega
    · exact h2 i hi
theorem iv_app (A B : List Int) : iv (A ++ B) = iv A ++ iv B := by simp [iv]
def mkO (st : St) (q : Nat) (yes : Bool) (x : V) (K : List Rn) (en : Env) (s : St) : Prop := ∃ (j : Nat) (y : V), j ≤ K.length ∧ en.get 0 = some (.p q 0) ∧ en.get 1 = some (.bool yes) ∧ en.get 10 = some x ∧ en.get 11 = some (.int .i64 (K.length : Int)) ∧ en.get 12 = some (.int .i64 (j : Int)) ∧ en.get 6 = some y ∧ OwnRow st.nx s y 1 (allJ (K.take j)).length (iv (allJ (K.take j))) ∧ Ext st.nx st s
def mkN (st : St) (q : Nat) (yes : Bool) (x : V) (K : List Rn) (j c : Nat) (a : Int) (n : Nat) (en : Env) (s : St) : Prop := ∃ (i : Nat) (y : V), i ≤ n ∧ en.get 0 = some (.p q 0) ∧ en.get 1 = some (.bool yes) ∧ en.get 10 = some x ∧ en.get 11 = some (.int .i64 (K.length : Int)) ∧ en.get 12 = some (.int .i64 (j : Int)) ∧ en.get 8 = some (.p c 0) ∧ en.get 17 = some (.int .i64 (n : Int)) ∧ en.get 18 = some (.int .i64 (i : Int)) ∧ en.get 6 = some y ∧ (∀ o l w, y ≠ .sg c o l w) ∧ c < s.nx ∧ (∃ t, s.h.get c = some (.cs 47 2 t) ∧ t.get 0 = some (.int .i64 a)) ∧
  OwnRow st.nx s y 1 (allJ (K.take j) ++ runJ a i).length (iv (allJ (K.take j) ++ runJ a i)) ∧ Ext st.nx st s
def rowIn (x : V) (m : Nat) : Prop := (∃ o l q, x = .sl m o l q) ∨ ∃ o l z, x = .sg m o l z
def mkR (st : St) (q m : Nat) (g : Gm) (L : List (BitVec 64)) (r : V × St) : Prop := ∃ z', PoolAt r.2 q g z' m L ∧ st.nx ≤ r.2.nx ∧ (∀ k, k < st.nx → k ≠ q → r.2.h.get k = st.h.get k) ∧ Ext q st r.2 ∧ ∀ b, rowIn z' b → q < b
theorem own_ne {b z n : Nat} {st : St} {x : V} {l : List V} (h : OwnRow b st x z n l) : ∀ o k w, x ≠ .sg st.nx o k w := by
  obtain ⟨_, ⟨rfl, _⟩ | ⟨m, ty, t, rfl, _, h3, _⟩⟩ := h
  · intro o k w e; cases e
  · intro o k w e; injection e with e; omega
set_option maxRecDepth 20000 in
set_option maxHeartbeats 4000000 in
theorem mark_any (st : St) (q m : Nat) (g : Gm) (z : V) (L : List (BitVec 64)) (hp : PoolAt st q g z m L) (hm : m ≤ 100000) (yes : Bool) (x : V) (K : List Rn) (hx : RdRow st x 2 K.length (cells K)) (hK : okR K) (nt : Nat) :
    Gd (callL Try.prog ⟨false, [], 0, nt⟩ 149 [.p q 0, .bool yes, x] st) (mkR st q m g (setB L yes (allJ K))) := by
  rw [Gd_callL Try.func149 rfl]
  have hLm : L.length = m := by have := hp.2.2.1; simpa using this
  have hKl := hK.1
  simp [evOp_call, sets, T.get_set, hx.lenS]
  refine Gd_loop (mkO st q yes x K) (fun en _ => muAt 12 K.length en) ?_ ?_
  · exact ⟨0, _, Nat.zero_le _, by simp [T.get_set], by simp [T.get_set], by simp [T.get_set], by simp [T.get_set], by simp [T.get_set], by simp [T.get_set], OwnRow.nil _ _ _, Ext.refl _ _⟩
  · rintro en s ⟨j, y, hj, g0, g1, g10, g11, g12, g6, hy, hs⟩
    have hxs := hx.ext hs
    have hle := hs.le
    by_cases hlt : j < K.length
    · have hlt' : (j : Int) < K.length := by omega
      obtain ⟨⟨a, n0⟩, hr⟩ : ∃ r, K[j]? = some r := ⟨_, List.getElem?_eq_getElem hlt⟩
      have hrb := hK.2 _ (List.mem_of_getElem? hr)
      simp only at hrb
      obtain ⟨n, rfl⟩ := Int.eq_ofNat_of_zero_le hrb.2.2.1
      obtain ⟨m1, o1, ty1, sz1, tr1, i1, b1, k1, l1, c1⟩ := hxs.idx (st := s) un39 io47 hlt
      have d0 : tr1.get o1 = some (.int .i64 a) := by simpa using c1 0 _ (by omega) (cells_get K j _ hr).1
      have d1 : tr1.get (o1 + 1) = some (.int .i64 (n : Int)) := by simpa using c1 1 _ (by omega) (cells_get K j _ hr).2
      simp [evOp_call, T.get_set, g0, g1, g10, g11, g12, g6, hlt', i1, loadE_eq, getC_eq, getsB_succ, getsB_zero, k1, d0, d1, newC_is, storeK_g, putB_eq, roT, sets]
      refine Gd_loop (mkN st q yes x K j s.nx a n) (fun en _ => muAt 18 n en) ?_ ?_
      · exact ⟨0, y, Nat.zero_le _, by simp [T.get_set, g0], by simp [T.get_set, g1], by simp [T.get_set, g10], by simp [T.get_set, g11], by simp [T.get_set, g12], by simp [T.get_set], by simp [T.get_set], by simp [T.get_set], by simp [T.get_set, g6], own_ne hy, Nat.lt_succ_self _, ⟨_, T.get_set_same _ _ _, by simp [T.get_set]⟩,
          by rw [show runJ a 0 = [] from rfl, List.append_nil]; exact hy.ext ((Ext.refl _ _).new (Nat.le_refl _) _), hs.new hle _⟩
      · rintro en2 s2 ⟨i, y2, hi, f0, f1, f10, f11, f12, f8, f17, f18, f6, hyn, hc, ⟨t2, k2, e2⟩, hy2, hs2⟩
        have hle2 := hs2.le
        have haj : (allJ (K.take j)).length ≤ 10000 := by
          have := (allJ_le (K.take j) fun r hr => hK.2 r (List.mem_of_mem_take hr)).1
          have h2 : (K.take j).length ≤ 10 := by rw [List.length_take]; omega
          omega
        by_cases hli : i < n
        · have hli' : (i : Int) < n := by omega
          have hw1 : IntKind.i64.wrap (a + (i : Int)) = a + (i : Int) := wrap_in (by omega) (by omega)
          have hwi := wrap_nat (n := i) (by omega)
          simp [evOp_call, T.get_set, f0, f1, f10, f11, f12, f8, f17, f18, f6, hli', loadE_eq, getC_eq, k2, e2, hw1]
          refine evOp_build1 (v := .int .i64 (a + (i : Int))) (cs := [.int .i64 (a + (i : Int))]) (fun k => el76 k) (fun k => ze3 k) rfl (by omega) (by simp [T.get_set]) (fun k => rfl) rfl ?_
          simp [evOp_call, T.get_set, f0, f1, f10, f11, f12, f8, f17, f18, f6]
          refine Gd_append un76 un76 io3 (lx := 1) (new := [.int .i64 (a + (i : Int))]) (hy2.ext ((Ext.refl _ _).new (Nat.le_refl _) _)) (by show st.nx ≤ s2.nx + 1; omega) (by decide) (fun s' h => by cases h) (fun k => rfl) (fun k => by simp [getC_eq, getsB_1, T.get_set, sets]) rfl (by rw [List.length_append, runJ_len]; omega) ?_
          intro y3 s3 hy3 x3 hk3 hyy
          have hyn3 : ∀ o l w, y3 ≠ .sg s.nx o l w := by
            rcases hyy with rfl | ⟨ln, rfl⟩
            · exact hyn
            · intro o l w e; injection e with e; simp only at e; omega
          have e3 : iv (allJ (K.take j) ++ runJ a i) ++ [V.int .i64 (a + (i : Int))] = iv (allJ (K.take j) ++ runJ a (i + 1)) := by rw [runJ_succ, ← List.append_assoc, iv_app (allJ (K.take j) ++ runJ a i)]; rfl
          have hx3 : Ext st.nx st s3 := (hs2.new hle2 _).trans x3
          have hn3 := x3.le
          simp only at hn3
          have kc : s3.h.get s.nx = some (.cs 47 2 t2) := by
            rw [hk3 s.nx (by show s.nx < s2.nx + 1; omega) ?_]
            · exact (T.get_set_ne _ _ (by omega)).trans k2
            · exact fun o ln => hyn o ln 1
          simp [evOp_call, T.get_set, f0, f1, f10, f11, f12, f8, f17, f18, f6, hwi]
          exact ⟨⟨i + 1, y3, by omega, by simp [T.get_set, f0], by simp [T.get_set, f1], by simp [T.get_set, f10], by simp [T.get_set, f11], by simp [T.get_set, f12], by simp [T.get_set, f8], by simp [T.get_set, f17], by simp [T.get_set], by simp [T.get_set], hyn3, by omega, ⟨t2, kc, e2⟩, by rw [← e3, runJ_succ, ← List.append_assoc, List.length_append]; exact hy3, hx3⟩, muAt_lt f18 (by simp [T.get_set]) hli⟩
        · obtain rfl : i = n := by omega
          have hwj := wrap_nat (n := j) (by omega)
          simp [evOp_call, T.get_set, f0, f1, f10, f11, f12, f8, f17, f18, f6, hwj]
          exact ⟨⟨j + 1, y2, by omega, by simp [T.get_set, f0], by simp [T.get_set, f1], by simp [T.get_set, f10], by simp [T.get_set, f11], by simp [T.get_set], by simp [T.get_set, f6], by rw [allJ_take hr]; exact hy2, hs2⟩, muAt_lt (t := 12) (j := j) (n := K.length) g12 (by simp [T.get_set]) hlt⟩
    · obtain rfl : j = K.length := by omega
      rw [List.take_length] at hy
      have hpp := hp.ext hs
      have hpp0 := hpp
      obtain ⟨hq, ⟨t, ht, t0, t1, t2, t3, t4⟩, hrz⟩ := hpp
      have hrL : RdRow s z 1 L.length (wv L) := by rw [hLm]; exact hrz
      obtain ⟨b1, b2⟩ := allJ_le K hK.2
      simp [evOp_call, T.get_set, g0, g1, g10, g11, g12, g6, loadE_eq, getC_eq, getsB_succ, getsB_zero, ht, t4]
      refine Gd.mono (set_any s z y L hrL (by omega) yes (allJ K) hy.rd (by omega) (fun i hi => by have := b2 i hi; omega) _) ?_
      rintro ⟨r, s2⟩ ⟨w, hr, hw, hwf, x2⟩
      simp only at hr hw hwf x2
      subst hr
      have ht2 := (x2.keep _ hq).trans ht
      have hl2 := x2.le
      have hwone := hw.one
      simp [evOp_call, T.get_set, g0, g1, g10, g11, g12, g6, storeK_g, putB_eq, roT, ht2, sets, hwone]
      have hqs := hp.1
      rw [hLm] at hw
      have hnq : ∀ k, k < st.nx → k ≠ q → (s2.h.set q (.cs 204 5 (t.set 4 w))).get k = st.h.get k := fun k hk hkq => (T.get_set_ne _ _ (Ne.symm hkq)).trans ((x2.keep k (by omega)).trans (hs.keep k hk))
      refine ⟨w, ⟨by show q < s2.nx; omega, ⟨t.set 4 w, T.get_set_same _ _ _, by simp [T.get_set, t0], by simp [T.get_set, t1], by simp [T.get_set, t2], by simp [T.get_set, t3], by simp [T.get_set]⟩, ?_⟩, by show st.nx ≤ s2.nx; omega, hnq, ?_, fun b hb => ?_⟩
      · exact hw.setOther (k := q) (fun o l z' e => by have := hwf.1 _ _ _ _ e; omega) (fun o l q' e => by have := hwf.2 _ _ _ _ e; omega) _
      · exact ((hs.mono (by omega)).trans (x2.mono (by omega))).set (m := q) (Nat.le_refl _) (by omega) _
      · rcases hb with ⟨_, _, _, e⟩ | ⟨_, _, _, e⟩
        · have := hwf.2 _ _ _ _ e; omega
        · have := hwf.1 _ _ _ _ e; omega
end Go.Proofs.Ytdoennkmcloalaa

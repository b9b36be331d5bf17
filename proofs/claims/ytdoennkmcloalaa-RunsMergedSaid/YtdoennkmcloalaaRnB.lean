/-
  Contracts of package runs for runs that touch in a row; the law's own rows.
-/
import Derived.Test.YtdoennkmcloalaaRnA
set_option linter.unusedSimpArgs false
namespace Go.Proofs.Ytdoennkmcloalaa
open Go.RowKit Ev
theorem cells_take {K : List Rn} {j : Nat} {r : Rn} (h : K[j]? = some r) : cells (K.take (j + 1)) = cells (K.take j) ++ [.int .i64 r.1, .int .i64 r.2] := by
  rw [List.take_add_one, h, cells_append]; rfl
def owI (st : St) (x : V) (K : List Rn) (e : Env) (s : St) : Prop := ∃ (j : Nat) (z : V), j ≤ K.length ∧ e.get 0 = some x ∧ e.get 3 = some z ∧ e.get 4 = some (.int .i64 (j : Int)) ∧ OwnRow st.nx s z 2 j (cells (K.take j)) ∧ Ext st.nx st s
set_option maxRecDepth 20000 in
set_option maxHeartbeats 4000000 in
theorem own10 (st : St) (fl : List (Nat × Nat)) (hfn : ∀ k, st.nx ≤ k → inF fl k = false) (x : V) (K : List Rn) (hx : RdRow st x 2 K.length (cells K)) (hK : K.length ≤ 1000000) (hfx : ∀ m, rowIn x m → inF fl m = false) (nt : Nat) :
    Gd (callL Try.prog ⟨false, fl, 0, nt⟩ 62 [x] st) fun r => OwnRow st.nx r.2 r.1 2 K.length (cells K) ∧ Ext st.nx st r.2 := by
  rw [Gd_callL Try.func62 rfl]
  simp [evOp_call, sets, T.get_set]
  refine Gd_loop (owI st x K) (fun e _ => muAt 4 K.length e) ?_ ?_
  · exact ⟨0, _, Nat.zero_le _, by simp [T.get_set], by simp [T.get_set], by simp [T.get_set], OwnRow.nil _ _ _, Ext.refl _ _⟩
  · rintro e s ⟨j, z, hj, g0, g3, g4, hz, hs⟩
    have hsn := hs.le
    by_cases hlt : j < K.length
    · have hlt' : (j : Int) < K.length := by omega
      have hw := wrap_nat (n := j) (by omega)
      have hxs := hx.ext hs
      obtain ⟨m, o, ty, sz, tr, hid, hm, hg, ho, hc, hr⟩ := hxs.idxB (st := s) un39 io47 hlt
      obtain ⟨⟨F, N⟩, hK2⟩ : ∃ r, K[j]? = some r := ⟨_, List.getElem?_eq_getElem hlt⟩
      have hcl := cells_get K j _ hK2
      have t0 : tr.get o = some (.int .i64 F) := hc 0 _ (by omega) hcl.1
      have t1 : tr.get (o + 1) = some (.int .i64 N) := hc 1 _ (by omega) hcl.2
      have hfm := hfx m hr
      have hfo : ∀ nx, inF ((0, m) :: (m + 1, nx) :: fl) m = false := fun nx => inF_ownF hfm
      have fn0 := hfn s.nx hsn
      simp [evOp_call, T.get_set, g0, g3, g4, hlt', hxs.lenS]
      refine ⟨by kernel_rfl, ?_⟩
      simp [evOp_call, T.get_set, g0, g3, g4, hid, loadE_eq, getC_eq, hg, t0, t1, hfm, hfo]
      refine evOp_build1 (v := .g [.int .i64 F, .int .i64 N]) (cs := [.int .i64 F, .int .i64 N]) (fun k => el42 k) (fun k => ze182 k) rfl (by omega) (by simp [T.get_set]) (fun k => rfl) rfl ?_
      simp [evOp_call, T.get_set]
      rw [cxOf_call (by kernel_rfl) (by kernel_rfl), forb_oneR (by kernel_rfl)]
      have hext := fun v => (Ext.refl s.nx s).new (Nat.le_refl _) v
      have hfr := AppRow.from (.inl hz)
      refine Gd_appendL un42 un42 io182 (n := j) (lx := 1) (new := [.int .i64 F, .int .i64 N]) (hz.ext (hext _)) (fun m o ln e => hfn m (hfr.1 _ _ _ _ e)) (by show st.nx ≤ s.nx + 1; omega) (by decide) (fun s' h => by cases h) (fun k => rfl) (fun k => by simp [fn0, getC_eq, getsB_2, T.get_set, sets]) rfl (by omega) ?_
      intro s' st' ho' he' _ _
      simp [evOp_call, T.get_set, g0, g4, hw]
      refine ⟨⟨j + 1, s', hlt, by simp [T.get_set, g0], by simp [T.get_set], by simp [T.get_set], ?_, (hs.trans ((hext _).mono hsn)).trans he'⟩, muAt_lt g4 (by simp [T.get_set]) hlt⟩
      rw [cells_take hK2]
      exact ho'
    · obtain rfl : j = K.length := by omega
      rw [List.take_length] at hz
      simp [evOp_call, T.get_set, g0, g3, g4, (hx.ext hs).lenS]
      exact ⟨hz, hs⟩
theorem neqR (st : St) (x y : Operand) (a c b d : Int) : binE Try.prog st .neq 182 x y (.g [.int .i64 a, .int .i64 b]) (.g [.int .i64 c, .int .i64 d]) = some (.bool (!decide ((a, b) = (c, d))), st) := by
  have := neq_struct (st := st) (x := x) (y := y) (l := [.int .i64 a, .int .i64 b]) (l' := [.int .i64 c, .int .i64 d]) (xs := [.int .i64 a, .int .i64 b]) (ys := [.int .i64 c, .int .i64 d]) Try.underlying182 (by kernel_rfl) (by kernel_rfl) rfl rfl
    (.cons (.int (d := 9998) (by decide) Try.underlying3 rfl rfl) (.cons (.int (d := 9998) (by decide) Try.underlying3 rfl rfl) .nil))
  have he : ([a == c, b == d].all id) = decide ((a, b) = (c, d)) := by
    have hac : (a == c) = decide (a = c) := by by_cases e : a = c <;> simp [e]
    have hbd : (b == d) = decide (b = d) := by by_cases e : b = d <;> simp [e]
    rw [hac, hbd]; simp
  rw [he] at this
  exact this
def alI (st : St) (x y : V) (n : Nat) (a b : List Rn) (e : Env) (s : St) : Prop := ∃ j, j ≤ n ∧ e.get 0 = some x ∧ e.get 1 = some y ∧ e.get 5 = some (.int .i64 (j : Int)) ∧ a.take j = b.take j ∧ s = st
set_option maxRecDepth 20000 in
set_option maxHeartbeats 4000000 in
theorem alike10 (st : St) (x y : V) (a b : List Rn) (hx : RdRow st x 2 a.length (cells a)) (hy : RdRow st y 2 b.length (cells b)) (hn : a.length ≤ 1000000) (nt : Nat) :
    Gd (callL Try.prog ⟨false, [], 0, nt⟩ 61 [x, y] st) fun r => r = (.bool (decide (a = b)), st) := by
  rw [Gd_callL Try.func61 rfl]
  by_cases hk : a.length = b.length
  · have hk' : (a.length : Int) = b.length := by omega
    simp [evOp_call, sets, T.get_set, hx.lenS, hy.lenS, hk']
    refine Gd_loop (alI st x y a.length a b) (fun e _ => muAt 5 a.length e) ?_ ?_
    · exact ⟨0, Nat.zero_le _, by simp [T.get_set], by simp [T.get_set], by simp [T.get_set], by simp, rfl⟩
    · rintro e s ⟨j, hj, g0, g1, g5, hab, rfl⟩
      by_cases hlt : j < a.length
      · have hlt' : (j : Int) < a.length := by omega
        have hw := wrap_nat (n := j) (by omega)
        obtain ⟨⟨p1, p2⟩, hp⟩ : ∃ p, a[j]? = some p := ⟨_, List.getElem?_eq_getElem (by omega)⟩
        obtain ⟨⟨q1, q2⟩, hq⟩ : ∃ q, b[j]? = some q := ⟨_, List.getElem?_eq_getElem (by omega)⟩
        obtain ⟨m1, o1, ty1, sz1, t1, i1, b1, k1, l1, c1⟩ := hx.idx (st := s) un42 io182 hlt
        obtain ⟨m2, o2, ty2, sz2, t2, i2, b2, k2, l2, c2⟩ := hy.idx (st := s) un42 io182 (show j < b.length by omega)
        have hcp := cells_get a j _ hp
        have hcq := cells_get b j _ hq
        have d1 : t1.get o1 = some (.int .i64 p1) := c1 0 _ (by omega) hcp.1
        have d1' : t1.get (o1 + 1) = some (.int .i64 p2) := c1 1 _ (by omega) hcp.2
        have d2 : t2.get o2 = some (.int .i64 q1) := c2 0 _ (by omega) hcq.1
        have d2' : t2.get (o2 + 1) = some (.int .i64 q2) := c2 1 _ (by omega) hcq.2
        have hts : a.take (j + 1) = b.take (j + 1) ↔ (p1, p2) = (q1, q2) := by
          rw [List.take_add_one, List.take_add_one, hp, hq, hab]
          simp
        simp [evOp_call, T.get_set, g0, g1, g5, hx.lenS, hlt']
        refine ⟨by kernel_rfl, ?_⟩
        simp [evOp_call, T.get_set, g0, g1, g5, i1, i2, loadE_eq, getC_eq, getsB_2, k1, k2, d1, d1', d2, d2']
        rw [neqR]
        by_cases hpq : (p1, p2) = (q1, q2)
        · simp only [hpq]
          simp [evOp_call, T.get_set, g0, g1, g5, hw]
          exact ⟨⟨j + 1, by omega, by simp [T.get_set, g0], by simp [T.get_set, g1], by simp [T.get_set], hts.2 hpq, rfl⟩, muAt_lt g5 (by simp [T.get_set]) hlt⟩
        · have hne : ¬ a = b := fun e => by subst e; rw [hp] at hq; injection hq with hq; exact hpq hq
          simp only [hpq]
          simp [evOp_call, T.get_set, hne]
      · obtain rfl : j = a.length := by omega
        have : a = b := by rw [← List.take_length (l := a), ← List.take_length (l := b), ← hk]; exact hab
        simp [T.get_set, g0, g1, g5, hx.lenS, this]
  · have : ¬ a = b := fun e => by subst e; omega
    have hk' : ¬ (a.length : Int) = b.length := by omega
    simp [evOp_call, sets, T.get_set, hx.lenS, hy.lenS, hk, hk', this]

def chain : Int → List Int → List Rn
  | _, [] => []
  | f, x :: K => (f, x) :: chain (f + x) K
theorem chain_length : ∀ (f : Int) (K : List Int), (chain f K).length = K.length
  | _, [] => rfl
  | f, x :: K => by unfold chain; rw [List.length_cons, List.length_cons, chain_length]
theorem chain_at : ∀ (f : Int) (K : List Int) (j : Nat) (x : Int), K[j]? = some x → (chain f K)[j]? = some (f + (K.take j).sum, x)
  | _, [], j, x, h => by simp at h
  | f, x0 :: K, 0, x, h => by simp at h; subst h; simp [chain]
  | f, x0 :: K, j + 1, x, h => by
    have := chain_at (f + x0) K j x (by simpa using h)
    unfold chain
    rw [List.getElem?_cons_succ, this, List.take_succ_cons, List.sum_cons]
    rw [show f + x0 + (K.take j).sum = f + (x0 + (K.take j).sum) by omega]
theorem chain_app : ∀ (f : Int) (K : List Int) (x : Int), chain f (K ++ [x]) = chain f K ++ [(f + K.sum, x)]
  | f, [], x => by simp [chain]
  | f, x0 :: K, x => by
    show (f, x0) :: chain (f + x0) (K ++ [x]) = _
    rw [chain_app (f + x0) K x]
    show _ = (f, x0) :: (chain (f + x0) K ++ _)
    rw [List.sum_cons, show f + x0 + K.sum = f + (x0 + K.sum) by omega]
def OkK (K : List Int) : Prop := ∀ x ∈ K, 1 ≤ x ∧ x ≤ 20000
theorem take_sum {K : List Int} {j : Nat} {x : Int} (h : K[j]? = some x) : (K.take (j + 1)).sum = (K.take j).sum + x := by
  rw [List.take_add_one, h, List.sum_append]; simp
theorem sum_bd {K : List Int} (h : OkK K) : ∀ j, j ≤ K.length → 0 ≤ (K.take j).sum ∧ (K.take j).sum ≤ 20000 * (j : Int)
  | 0, _ => by simp
  | j + 1, hj => by
    obtain ⟨x, hx⟩ : ∃ x, K[j]? = some x := ⟨_, List.getElem?_eq_getElem (by omega)⟩
    have := sum_bd h j (by omega)
    have := h x (List.mem_of_getElem? hx)
    rw [take_sum hx]
    omega
theorem sum_mono {K : List Int} (h : OkK K) {i : Nat} : ∀ j, i ≤ j → j ≤ K.length → (K.take i).sum ≤ (K.take j).sum
  | 0, hij, _ => by rw [show i = 0 by omega]; exact Int.le_refl _
  | j + 1, hij, hj => by
    rcases Nat.lt_or_ge j i with c | c
    · rw [show i = j + 1 by omega]; exact Int.le_refl _
    · obtain ⟨x, hx⟩ : ∃ x, K[j]? = some x := ⟨_, List.getElem?_eq_getElem (by omega)⟩
      have := sum_mono h j c (by omega)
      have := h x (List.mem_of_getElem? hx)
      rw [take_sum hx]
      omega
theorem chain_get {f : Int} {K : List Int} {j : Nat} {r : Rn} (h : (chain f K)[j]? = some r) : ∃ x, K[j]? = some x ∧ r = (f + (K.take j).sum, x) := by
  have hj := lt_of_get h
  rw [chain_length] at hj
  refine ⟨K[j], List.getElem?_eq_getElem hj, ?_⟩
  rw [chain_at f K j _ (List.getElem?_eq_getElem hj)] at h
  injection h with h
  exact h.symm
theorem chain_cnt {f : Int} {K : List Int} (hf : 0 ≤ f ∧ f ≤ 1000) (h : OkK K) (hl : K.length ≤ 20) : (chain f K).filter cnt = chain f K := by
  rw [List.filter_eq_self]
  intro r hr
  obtain ⟨j, hj⟩ := List.getElem?_of_mem hr
  obtain ⟨x, hx, rfl⟩ := chain_get hj
  have h1 := sum_bd h j (by have := lt_of_get hx; omega)
  have h2 := h x (List.mem_of_getElem? hx)
  have hjl := lt_of_get hx
  simp [cnt]
  omega
theorem chain_up {f : Int} {K : List Int} (h : OkK K) : Up (chain f K) := fun i j a b hij ha hb => by
  obtain ⟨x, hx, rfl⟩ := chain_get ha
  obtain ⟨z, hz, rfl⟩ := chain_get hb
  have := sum_mono h j hij (by have := lt_of_get hz; omega)
  show f + _ ≤ f + _
  omega
theorem chain_lens : ∀ (f : Int) (K : List Int), lens (chain f K) = K.sum
  | _, [] => rfl
  | f, x :: K => by
    show ((chain f (x :: K)).map fun r => r.2).sum = _
    unfold chain
    rw [List.map_cons, List.sum_cons, List.sum_cons]
    have := chain_lens (f + x) K
    unfold lens at this
    rw [this]
end Go.Proofs.Ytdoennkmcloalaa

/-
  Contracts: writes as the document's own; what makes one image of another.
-/
import Derived.Test.YtdoennkmcloalaaRdG
import Derived.Test.YtdoennkmcloalaaEqS
set_option linter.unusedSimpArgs false
namespace Go.Proofs.Ytdoennkmcloalaa
open Go.RowKit Ev
def wtI (st : St) (x : V) (K : List (Int × BitVec 64)) (e : Env) (s : St) : Prop := ∃ (j : Nat) (z : V), j ≤ K.length ∧ e.get 0 = some x ∧ e.get 3 = some z ∧ e.get 4 = some (.int .i64 (j : Int)) ∧ OwnRow st.nx s z 2 j (iw (K.take j)) ∧ Ext st.nx st s
theorem iw_take {K : List (Int × BitVec 64)} {j : Nat} {r : Int × BitVec 64} (h : K[j]? = some r) : iw (K.take (j + 1)) = iw (K.take j) ++ [.int .i64 r.1, wd r.2] := by
  rw [List.take_add_one, h, iw_app]; rfl
set_option maxRecDepth 20000 in
set_option maxHeartbeats 4000000 in
theorem writes_fl (st : St) (fl : List (Nat × Nat)) (hfn : ∀ k, st.nx ≤ k → inF fl k = false) (x : V) (K : List (Int × BitVec 64)) (hx : RdRow st x 2 K.length (iw K)) (hK : K.length ≤ 1000000) (hfx : ∀ m, rowIn x m → inF fl m = false) (nt : Nat) :
    Gd (callL Try.prog ⟨false, fl, 0, nt⟩ 94 [x] st) fun r => RdRow r.2 r.1 2 K.length (iw K) ∧ Ext st.nx st r.2 := by
  rw [Gd_callL Try.func94 rfl]
  simp [evOp_call, sets, T.get_set]
  refine Gd_loop (wtI st x K) (fun e _ => muAt 4 K.length e) ?_ ?_
  · exact ⟨0, _, Nat.zero_le _, by simp [T.get_set], by simp [T.get_set], by simp [T.get_set], OwnRow.nil _ _ _, Ext.refl _ _⟩
  · rintro e s ⟨j, z, hj, g0, g3, g4, hz, hs⟩
    have hsn := hs.le
    by_cases hlt : j < K.length
    · have hlt' : (j : Int) < K.length := by omega
      have hw := wrap_nat (n := j) (by omega)
      have hxs := hx.ext hs
      obtain ⟨m, o, ty, sz, tr, hid, hm, hg, ho, hc, hr⟩ := hxs.idxB (st := s) un115 io117 hlt
      obtain ⟨⟨F, N⟩, hK2⟩ : ∃ r, K[j]? = some r := ⟨_, List.getElem?_eq_getElem hlt⟩
      have hcl := iw_at K j _ hK2
      have t0 : tr.get o = some (.int .i64 F) := hc 0 _ (by omega) hcl.1
      have t1 : tr.get (o + 1) = some (wd N) := hc 1 _ (by omega) hcl.2
      have hfm := hfx m hr
      have hfo : ∀ nx, inF ((0, m) :: (m + 1, nx) :: fl) m = false := fun nx => inF_ownF hfm
      have fn0 := hfn s.nx hsn
      simp [evOp_call, T.get_set, g0, g3, g4, hlt', hxs.lenS]
      refine ⟨by kernel_rfl, ?_⟩
      simp [evOp_call, T.get_set, g0, g3, g4, hid, loadE_eq, getC_eq, hg, t0, t1, hfm, hfo]
      refine evOp_build1 (v := .g [.int .i64 F, wd N]) (cs := [.int .i64 F, wd N]) (fun k => el134 k) (fun k => ze230 k) rfl (by omega) (by simp [T.get_set]) (fun k => rfl) rfl ?_
      simp [evOp_call, T.get_set]
      rw [cxOf_call (by kernel_rfl) (by kernel_rfl), forb_oneR (by kernel_rfl)]
      have hext := fun v => (Ext.refl s.nx s).new (Nat.le_refl _) v
      have hfr := AppRow.from (.inl hz)
      refine Gd_appendL un134 un134 io230 (n := j) (lx := 1) (new := [.int .i64 F, wd N]) (hz.ext (hext _)) (fun m o ln e => hfn m (hfr.1 _ _ _ _ e)) (by show st.nx ≤ s.nx + 1; omega) (by decide) (fun s' h => by cases h) (fun k => rfl) (fun k => by simp [fn0, getC_eq, getsB_2, T.get_set, sets]) rfl (by omega) ?_
      intro s' st' ho' he' _ _
      simp [evOp_call, T.get_set, g0, g4, hw]
      refine ⟨⟨j + 1, s', hlt, by simp [T.get_set, g0], by simp [T.get_set], by simp [T.get_set], ?_, (hs.trans ((hext _).mono hsn)).trans he'⟩, muAt_lt g4 (by simp [T.get_set]) hlt⟩
      rw [iw_take hK2]
      exact ho'
    · obtain rfl : j = K.length := by omega
      rw [List.take_length] at hz
      simp [evOp_call, T.get_set, g0, g3, g4, (hx.ext hs).lenS]
      exact ⟨hz.rd, hs⟩
theorem neqW (st : St) (x y : Operand) (a c : Int) (b d : BitVec 64) : binE Try.prog st .neq 230 x y (.g [.int .i64 a, wd b]) (.g [.int .i64 c, wd d]) = some (.bool (!decide ((a, b) = (c, d))), st) := by
  have := neq_struct (st := st) (x := x) (y := y) (l := [.int .i64 a, wd b]) (l' := [.int .i64 c, wd d]) (xs := [.int .i64 a, .int .u64 (b.toNat : Int)]) (ys := [.int .i64 c, .int .u64 (d.toNat : Int)]) Try.underlying230 (by kernel_rfl) (by kernel_rfl) rfl rfl
    (.cons (.int (d := 9998) (by decide) Try.underlying3 rfl rfl) (.cons (.int (d := 9998) (by decide) Try.underlying24 rfl rfl) .nil))
  have hp : ((b.toNat : Int) == d.toNat) = decide (b = d) := by
    by_cases e : b = d
    · subst e; simp
    · have : ¬ (b.toNat : Int) = d.toNat := fun h => e (BitVec.eq_of_toNat_eq (by omega))
      simp [e, this]
  have he : ([a == c, ((b.toNat : Int) == d.toNat)].all id) = decide ((a, b) = (c, d)) := by
    have hac : (a == c) = decide (a = c) := by by_cases e : a = c <;> simp [e]
    rw [hp, hac]; simp
  rw [he] at this
  exact this
def ewI (st : St) (x y : V) (n : Nat) (a b : List (Int × BitVec 64)) (e : Env) (s : St) : Prop := ∃ j, j ≤ n ∧ e.get 0 = some x ∧ e.get 1 = some y ∧ e.get 5 = some (.int .i64 (j : Int)) ∧ a.take j = b.take j ∧ s = st
set_option maxRecDepth 20000 in
set_option maxHeartbeats 4000000 in
theorem equalW_any (st : St) (x y : V) (a b : List (Int × BitVec 64)) (hx : RdRow st x 2 a.length (iw a)) (hy : RdRow st y 2 b.length (iw b)) (hn : a.length ≤ 1000000) (nt : Nat) :
    Gd (callL Try.prog ⟨false, [], 0, nt⟩ 93 [x, y] st) fun r => r = (.bool (decide (a = b)), st) := by
  rw [Gd_callL Try.func93 rfl]
  by_cases hk : a.length = b.length
  · have hk' : (a.length : Int) = b.length := by omega
    simp [evOp_call, sets, T.get_set, hx.lenS, hy.lenS, hk']
    refine Gd_loop (ewI st x y a.length a b) (fun e _ => muAt 5 a.length e) ?_ ?_
    · exact ⟨0, Nat.zero_le _, by simp [T.get_set], by simp [T.get_set], by simp [T.get_set], by simp, rfl⟩
    · rintro e s ⟨j, hj, g0, g1, g5, hab, rfl⟩
      by_cases hlt : j < a.length
      · have hlt' : (j : Int) < a.length := by omega
        have hw := wrap_nat (n := j) (by omega)
        obtain ⟨⟨p1, p2⟩, hp⟩ : ∃ p, a[j]? = some p := ⟨_, List.getElem?_eq_getElem (by omega)⟩
        obtain ⟨⟨q1, q2⟩, hq⟩ : ∃ q, b[j]? = some q := ⟨_, List.getElem?_eq_getElem (by omega)⟩
        obtain ⟨m1, o1, ty1, sz1, t1, i1, b1, k1, l1, c1⟩ := hx.idx (st := s) un134 io230 hlt
        obtain ⟨m2, o2, ty2, sz2, t2, i2, b2, k2, l2, c2⟩ := hy.idx (st := s) un134 io230 (show j < b.length by omega)
        have hcp := iw_at a j _ hp
        have hcq := iw_at b j _ hq
        have d1 : t1.get o1 = some (.int .i64 p1) := c1 0 _ (by omega) hcp.1
        have d1' : t1.get (o1 + 1) = some (wd p2) := c1 1 _ (by omega) hcp.2
        have d2 : t2.get o2 = some (.int .i64 q1) := c2 0 _ (by omega) hcq.1
        have d2' : t2.get (o2 + 1) = some (wd q2) := c2 1 _ (by omega) hcq.2
        have hts : a.take (j + 1) = b.take (j + 1) ↔ (p1, p2) = (q1, q2) := by
          rw [List.take_add_one, List.take_add_one, hp, hq, hab]
          simp
        simp [evOp_call, T.get_set, g0, g1, g5, hx.lenS, hlt']
        refine ⟨by kernel_rfl, ?_⟩
        simp [evOp_call, T.get_set, g0, g1, g5, i1, i2, loadE_eq, getC_eq, getsB_2, k1, k2, d1, d1', d2, d2']
        rw [neqW]
        by_cases hpq : (p1, p2) = (q1, q2)
        · simp only [hpq]
          simp [evOp_call, T.get_set, g0, g1, g5, hw]
          exact ⟨⟨j + 1, by omega, by simp [T.get_set, g0], by simp [T.get_set, g1], by simp [T.get_set], hts.2 hpq, rfl⟩, muAt_lt g5 (by simp [T.get_set]) hlt⟩
        · have hne : ¬ a = b := fun e => by subst e; rw [hp] at hq; injection hq with hq; exact hpq hq
          simp only [hpq]
          simp [evOp_call, T.get_set, hne]
      · obtain rfl : j = a.length := by omega
        have : a = b := by rw [← List.take_length (l := a), ← List.take_length (l := b), ← hk]; exact hab
        simp [T.get_set, g0, g1, g5, hx.lenS, this]
  · have : ¬ a = b := fun e => by subst e; omega
    have hk' : ¬ (a.length : Int) = b.length := by omega
    simp [evOp_call, sets, T.get_set, hx.lenS, hy.lenS, hk, hk', this]
end Go.Proofs.Ytdoennkmcloalaa

/-
  LineSure's walk.
-/
import Derived.Test.YtnigikccijjihaaLineA
set_option linter.unusedSimpArgs false
namespace Go.Proofs.Ytnigikccijjihaa
open Go.RowKit Ev
theorem store_F (m : LM) (a v : Int) : (m.store a v).F = m.F := by unfold LM.store; split <;> rfl
theorem store_le (m : LM) (a v : Int) : (m.store a v).O.length ≤ m.O.length + 1 := by unfold LM.store; split <;> simp
theorem OwnRow.kept {b z c n : Nat} {y x : V} {st st' : St} {l : List V} (h : OwnRow b st x z c l) (k : Kept n y st st') (d : ∀ q, Ow n y q → ∀ o l z, x ≠ .sg q o l z) : OwnRow b st' x z c l := by
  obtain ⟨g1, g2⟩ := h
  refine ⟨g1, ?_⟩
  rcases g2 with g2 | ⟨q, ty, tr, rfl, g3, g4, g5, g6⟩
  · exact .inl g2
  · exact .inr ⟨q, ty, tr, rfl, g3, Nat.lt_of_lt_of_le g4 k.le, by rw [k.keep q g4 (fun e => d q e _ _ _ rfl)]; exact g5, g6⟩
def sureI (st : St) (v w : V) (n t5 t6 : Nat) (nx : Nat) (e : Env) (s : St) : Prop := ∃ i yx mx, i ≤ n ∧ e.get 0 = some v ∧ e.get 1 = some w ∧ e.get t5 = some (.p nx 0) ∧ e.get t6 = some (.int .i64 (i : Int)) ∧
  LineAt s nx yx mx ∧ (∀ k, Ow nx yx k → st.nx ≤ k) ∧ Ext st.nx st s ∧ mx.O.length ≤ i
def sureJ (st : St) (v w x6 : V) (S : List Int) (n : Nat) (nx : Nat) (e : Env) (s : St) : Prop := ∃ i yx mx, i ≤ n ∧ e.get 0 = some v ∧ e.get 1 = some w ∧ e.get 5 = some (.p nx 0) ∧ e.get 7 = some x6 ∧ e.get 8 = some (.int .i64 (i : Int)) ∧
  LineAt s nx yx mx ∧ (∀ k, Ow nx yx k → st.nx ≤ k) ∧ (∀ k, Ow nx yx k → ∀ o l z, x6 ≠ .sg k o l z) ∧ Ext st.nx st s ∧ mx.O.length ≤ i ∧ mx.S = S ∧ mx.F = 0 ∧ OwnRow 0 s x6 1 8 (S.map fun v => .int .u64 v)
set_option maxHeartbeats 2000000 in
theorem g_LineSure (st : St) (v w : V) (L K : List (Int × Int × Int)) (hv : RdRow st v 3 L.length (triples L)) (hw : RdRow st w 3 K.length (triples K)) (nt : Nat) :
    Gd (callL Try.prog ⟨false, [], 0, nt⟩ 6 [v, w] st) fun r => r.1 = .bool true := by
  rw [Gd_callL Try.func6 rfl]
  simp [evOp_call, sets, T.get_set]
  refine Gd.mono (awake_any _ _) ?_
  rintro _ ⟨s0, rfl, e0⟩
  have hv0 := hv.ext e0
  have hw0 := hw.ext e0
  have b0 := e0.le
  by_cases h30 : (30 : Int) < L.length
  · simp [evOp_call, sets, T.get_set, hv0.lenS, hw0.lenS, h30]
  · by_cases h31 : (30 : Int) < K.length
    · simp [evOp_call, sets, T.get_set, hv0.lenS, hw0.lenS, h30, h31]
    · simp [evOp_call, sets, T.get_set, hv0.lenS, hw0.lenS, h30, h31]
      refine Gd.mono (new0 _ _) ?_
      rintro ⟨r, s1⟩ ⟨nx, hr, h1, e1, n1⟩
      simp only at hr h1 e1
      subst hr
      have b1 := e1.le
      simp [evOp_call, sets, T.get_set]
      refine Gd_loop (sureI st v w L.length 5 6 nx) (fun e _ => muAt 6 L.length e) ?_ ?_
      · exact ⟨0, _, M0, Nat.zero_le _, by simp [T.get_set], by simp [T.get_set], by simp [T.get_set], by simp [T.get_set], h1, fun k hk => by have := ow_nil hk; omega, e0.trans (e1.mono b0), Nat.le_refl _⟩
      · rintro e s ⟨i, yx, mx, hi, g0, g1, g5, g6, hx, ho, hs, hn⟩
        have hvs := hv.keep (Nat.le_refl _) hs
        have bs := hs.le
        by_cases hlt : i < L.length
        · have hlt' : (i : Int) < L.length := by omega
          have hwr := wrap_nat (n := i) (by omega)
          obtain ⟨m, o, ty, sz, tr, hid, hm, hg, hoo, hc⟩ := hvs.idx (st := s) un37 io43 hlt
          obtain ⟨⟨op, A, W⟩, hr⟩ : ∃ r, L[i]? = some r := ⟨_, List.getElem?_eq_getElem hlt⟩
          have hcl := triples_at L i _ hr
          have t1 : tr.get (o + 1) = some (.int .i64 A) := hc 1 _ (by omega) hcl.2.1
          have t2 : tr.get (o + 2) = some (.int .u64 W) := hc 2 _ (by omega) hcl.2.2
          simp [evOp_call, T.get_set, g0, g1, g5, g6, hvs.lenS, hlt', hid, loadE_eq, getC_eq, hg, t1, t2]
          refine ⟨by kernel_rfl, ?_⟩
          refine Gd_cxC (c' := ⟨false, [], 0, 78⟩) (by kernel_rfl) ?_
          refine Gd.mono (store_any s nx yx mx hx A W _ (by omega)) ?_
          rintro ⟨r, s3⟩ ⟨hr3, yx', hx', kx, ox⟩
          simp only at hr3 hx' kx
          subst hr3
          have b3 := kx.le
          have hs3 := hs.trans (kx.ext bs ho)
          have hle := store_le mx A W
          simp [evOp_call, T.get_set, g0, g1, g5, g6, hwr]
          refine ⟨⟨i + 1, yx', _, hlt, by simp [T.get_set, g0], by simp [T.get_set, g1], by simp [T.get_set, g5], by simp [T.get_set], hx', fun k hk => ?_, hs3, by omega⟩, muAt_lt g6 (by simp [T.get_set]) hlt⟩
          rcases ox k hk with h | h
          · exact ho k h
          · omega
        · obtain rfl : i = L.length := by omega
          simp [evOp_call, T.get_set, g0, g1, g5, g6, hvs.lenS]
          refine Gd.mono (flush_any s nx yx mx hx _) ?_
          rintro ⟨r, s4⟩ ⟨hr4, h4, k4⟩
          simp only at hr4 h4 k4
          subst hr4
          have b4 := k4.le
          have hs4 := hs.trans (k4.ext bs ho)
          simp [evOp_call, T.get_set, g0, g1, g5, g6]
          refine Gd.mono (fence_any s4 nx yx _ h4 mx.O.length rfl (Nat.le_refl _) _) ?_
          rintro ⟨r, s5⟩ ⟨hr5, y5, h5, k5, o5⟩
          simp only at hr5 h5 k5
          subst hr5
          have b5 := k5.le
          have hs5 := hs4.trans (k5.ext (by omega) ho)
          have ho5 : ∀ k, Ow nx y5 k → st.nx ≤ k := fun k hk => by
            rcases o5 k hk with h | h
            · exact ho k h
            · omega
          simp [evOp_call, T.get_set, g0, g1, g5, g6]
          refine Gd.mono (sure_any s5 nx _ _ h5 _) ?_
          rintro ⟨r, s6⟩ ⟨x6, hr6, h6, e6⟩
          simp only at hr6 h6 e6
          subst hr6
          have b6 := e6.le
          have hs6 := hs5.trans (e6.mono (by omega))
          have hx6 := h5.other e6.le (fun q hq => e6.keep q (h5.own_lt hq))
          have hd6 : ∀ k, Ow nx y5 k → ∀ o l z, r ≠ .sg k o l z := fun k hk o l z hz => by
            have hlt := h5.own_lt hk
            obtain ⟨_, g2⟩ := h6
            rcases g2 with ⟨g2, _⟩ | ⟨q, ty, tr, g2, g3, _⟩
            · rw [g2] at hz; cases hz
            · rw [g2] at hz; injection hz with hz; omega
          simp [evOp_call, T.get_set, g0, g1, g5, g6]
          refine Gd.mono (open_any s6 nx _ _ hx6 _) ?_
          rintro _ rfl
          simp [evOp_call, T.get_set, g0, g1, g5, g6]
          have h6' : OwnRow 0 s6 r 1 8 ((setAll mx.S mx.O).map fun v => .int .u64 v) := by
            rw [List.take_length] at h6
            obtain ⟨q1, q2⟩ := h6
            refine ⟨q1, q2.imp id ?_⟩
            rintro ⟨q, ty, tr, a1, a2, a3⟩
            exact ⟨q, ty, tr, a1, Nat.zero_le _, a3⟩
          refine Gd_loop (sureJ st v w r (setAll mx.S mx.O) K.length nx) (fun e _ => muAt 8 K.length e) ?_ ?_
          · exact ⟨0, y5, _, Nat.zero_le _, by simp [T.get_set, g0], by simp [T.get_set, g1], by simp [T.get_set, g5], by simp [T.get_set], by simp [T.get_set], hx6, ho5, hd6, hs6, by simp, by simp, rfl, h6'⟩
          · clear g0 g1 g5 g6 h4 k4 h5 k5 o5 h6 e6 hx6 hd6 h6' ho5
            rintro e s ⟨i, yx, m2, hi, g0, g1, g5, g7, g8, hx, ho, hd, hs, hn, hS, hF, hrow⟩
            have hws := hw.keep (Nat.le_refl _) hs
            have bs := hs.le
            by_cases hlt : i < K.length
            · have hlt' : (i : Int) < K.length := by omega
              have hwr := wrap_nat (n := i) (by omega)
              obtain ⟨m, o, ty, sz, tr, hid, hm, hg, hoo, hc⟩ := hws.idx (st := s) un37 io43 hlt
              obtain ⟨⟨op, A, W⟩, hr⟩ : ∃ r, K[i]? = some r := ⟨_, List.getElem?_eq_getElem hlt⟩
              have hcl := triples_at K i _ hr
              have t1 : tr.get (o + 1) = some (.int .i64 A) := hc 1 _ (by omega) hcl.2.1
              have t2 : tr.get (o + 2) = some (.int .u64 W) := hc 2 _ (by omega) hcl.2.2
              simp [evOp_call, T.get_set, g0, g1, g5, g7, g8, hws.lenS, hlt', hid, loadE_eq, getC_eq, hg, t1, t2]
              refine ⟨by kernel_rfl, ?_⟩
              refine Gd_cxC (c' := ⟨false, [], 0, 78⟩) (by kernel_rfl) ?_
              refine Gd.mono (store_any s nx yx m2 hx A W _ (by omega)) ?_
              rintro ⟨r3, s3⟩ ⟨hr3, yx', hx', kx, ox⟩
              simp only at hr3 hx' kx
              subst hr3
              have b3 := kx.le
              have hs3 := hs.trans (kx.ext bs ho)
              have hle := store_le m2 A W
              simp [evOp_call, T.get_set, g0, g1, g5, g7, g8, hwr]
              refine ⟨⟨i + 1, yx', _, hlt, by simp [T.get_set, g0], by simp [T.get_set, g1], by simp [T.get_set, g5], by simp [T.get_set, g7], by simp [T.get_set], hx', fun k hk => ?_, fun k hk => ?_, hs3, by omega, by rw [store_S]; exact hS, by rw [store_F]; exact hF, OwnRow.kept hrow kx hd⟩, muAt_lt g8 (by simp [T.get_set]) hlt⟩
              · rcases ox k hk with h | h
                · exact ho k h
                · omega
              · rcases ox k hk with h | h
                · exact hd k h
                · intro o l z hz
                  obtain ⟨_, q2⟩ := hrow
                  rcases q2 with ⟨q2, _⟩ | ⟨q, ty, tr, q2, q3, q4, _⟩
                  · rw [q2] at hz; cases hz
                  · rw [q2] at hz; injection hz with hz; omega
            · obtain rfl : i = K.length := by omega
              simp [evOp_call, T.get_set, g0, g1, g5, g7, g8, hws.lenS]
              refine Gd.mono (fence_any s nx yx _ hx 0 hF (Nat.zero_le _) _) ?_
              rintro ⟨r5, s5⟩ ⟨hr5, y5, h5, k5, o5⟩
              simp only at hr5 h5 k5
              subst hr5
              have b5 := k5.le
              have r5 := OwnRow.kept hrow k5 hd
              have hd5 : ∀ k, Ow nx y5 k → ∀ o l z, r ≠ .sg k o l z := fun k hk => by
                rcases o5 k hk with h | h
                · exact hd k h
                · intro o l z hz
                  obtain ⟨_, q2⟩ := hrow
                  rcases q2 with ⟨q2, _⟩ | ⟨q, ty, tr, q2, q3, q4, _⟩
                  · rw [q2] at hz; cases hz
                  · rw [q2] at hz; injection hz with hz; omega
              simp [evOp_call, T.get_set, g0, g1, g5, g7, g8]
              refine Gd.mono (fall_any s5 nx y5 _ h5 0 _) ?_
              rintro ⟨r6, s6⟩ ⟨hr6, h6, k6⟩
              simp only at hr6 h6 k6
              subst hr6
              have r6 := OwnRow.kept r5 k6 hd5
              simp [evOp_call, T.get_set, g0, g1, g5, g7, g8]
              refine Gd.mono (sure_any s6 nx _ _ h6 _) ?_
              rintro ⟨r7, s7⟩ ⟨x7, hr7, h7, e7⟩
              simp only at hr7 h7 e7
              subst hr7
              have r7x := r6.ext e7
              have hS7 : (LM.fall ⟨setAll m2.S (m2.O.take 0), m2.N, m2.O.drop 0, 0⟩ 0).S = setAll mx.S mx.O := by
                show setAll (setAll m2.S (m2.O.take 0)) (List.take _ _) = _
                rw [take_fall, List.take_zero]
                exact hS
              rw [hS7] at h7
              simp [evOp_call, T.get_set, g0, g1, g5, g7, g8]
              refine Gd.mono (same_any s7 _ _ 8 8 _ _ h7.rd r7x.rd (by omega) _) ?_
              rintro _ rfl
              simp [evOp_call, T.get_set, g0, g1, g5, g7, g8, r7x.rd.lenS]
end Go.Proofs.Ytnigikccijjihaa

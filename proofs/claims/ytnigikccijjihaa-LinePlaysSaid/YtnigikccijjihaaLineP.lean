/-
  LinePlays' walk.
-/
import Derived.Test.YtnigikccijjihaaLineF
set_option linter.unusedSimpArgs false
namespace Go.Proofs.Ytnigikccijjihaa
open Go.RowKit Ev
@[simp] theorem boolL_neq (st : St) (x y : Operand) (a b : Bool) : binE Try.prog st .neq 4 x y (.bool a) (.bool b) = some (.bool (a != b), st) := by cases a <;> cases b <;> kernel_rfl
/-- a line and the document's own, apart -/
structure LP (b : Nat) (s : St) (nx n2 : Nat) (y ys yo : V) (m1 m2 : LM) (f : Nat) : Prop where
  hx : LineAt s nx y m1
  hr : RefAt s n2 ys yo m2 f
  dis : ∀ k, Ow nx y k → ¬ ROw n2 ys yo k
  b1 : ∀ k, Ow nx y k → b ≤ k
  b2 : b ≤ n2
theorem LP.left {b : Nat} {s s' : St} {nx n2 f : Nat} {y y' ys yo : V} {m1 m1' m2 : LM} (h : LP b s nx n2 y ys yo m1 m2 f) (h1 : LineAt s' nx y' m1') (k : Kept nx y s s') (o : ∀ k, Ow nx y' k → Ow nx y k ∨ s.nx ≤ k) (hb : b ≤ s.nx) : LP b s' nx n2 y' ys yo m1' m2 f ∧ Ext b s s' := by
  refine ⟨⟨h1, h.hr.other k.le fun q hq => k.keep q (h.hr.own_lt hq) fun e => h.dis q e hq, fun q hq hr => ?_, fun q hq => ?_, h.b2⟩, k.ext hb h.b1⟩
  · rcases o q hq with h2 | h2
    · exact h.dis q h2 hr
    · have := h.hr.own_lt hr; omega
  · rcases o q hq with h2 | h2
    · exact h.b1 q h2
    · omega
theorem LP.right {b : Nat} {s s' : St} {nx n2 f f' : Nat} {y ys ys' yo yo' : V} {m1 m2 m2' : LM} (h : LP b s nx n2 y ys yo m1 m2 f) (h2 : RefAt s' n2 ys' yo' m2' f') (k : RKept n2 s s') (o : ∀ q, ROw n2 ys' yo' q → ROw n2 ys yo q ∨ s.nx ≤ q) (hb : b ≤ s.nx) : LP b s' nx n2 y ys' yo' m1 m2' f' ∧ Ext b s s' := by
  refine ⟨⟨h.hx.other k.le fun q hq => k.keep q (h.hx.own_lt hq) fun e => h.dis q hq (.inl e), h2, fun q hq hr => ?_, h.b1, h.b2⟩, k.ext hb h.b2⟩
  rcases o q hr with h3 | h3
  · exact h.dis q hq h3
  · have := h.hx.own_lt hq; omega
theorem LP.ext {b : Nat} {s s' : St} {nx n2 f : Nat} {y ys yo : V} {m1 m2 : LM} (h : LP b s nx n2 y ys yo m1 m2 f) (k : Ext s.nx s s') : LP b s' nx n2 y ys yo m1 m2 f :=
  ⟨h.hx.other k.le fun q hq => k.keep q (h.hx.own_lt hq), h.hr.other k.le fun q hq => k.keep q (h.hr.own_lt hq), h.dis, h.b1, h.b2⟩
theorem setAll_app (S : List (BitVec 64)) (O K : List (Int × BitVec 64)) : setAll (setAll S O) K = setAll S (O ++ K) := by simp [setAll]
theorem store_le' (m : LM) (a : Int) (v : BitVec 64) : (m.store a v).O.length ≤ m.O.length + 1 := by unfold LM.store; split <;> simp
def lpI (st : St) (v w : V) (K : List (Int × Int × BitVec 64)) (nx n2 : Nat) (en : Env) (s : St) : Prop := ∃ (i : Nat) (y ys yo : V) (m : LM) (f : Nat), i ≤ K.length ∧ en.get 0 = some v ∧ en.get 1 = some w ∧ en.get 5 = some (.p nx 0) ∧ en.get 6 = some (.p n2 0) ∧ en.get 7 = some (.int .i64 (i : Int)) ∧
  LP st.nx s nx n2 y ys yo m m f ∧ m.F = f ∧ f ≤ m.O.length ∧ m.O.length ≤ i ∧ m.N = setAll m.S m.O ∧ Ext st.nx st s
def lpK (v w : V) (i nx n2 : Nat) (s4 : St) (en : Env) (s : St) : Prop := ∃ k : Int, -1 ≤ k ∧ k ≤ 9 ∧ en.get 0 = some v ∧ en.get 1 = some w ∧ en.get 5 = some (.p nx 0) ∧ en.get 6 = some (.p n2 0) ∧ en.get 7 = some (.int .i64 (i : Int)) ∧ en.get 9 = some (.int .i64 k) ∧ s = s4
def lpJ (st : St) (v w : V) (i nx n2 : Nat) (r : X × Env × St) : Prop := ∃ (en : Env) (s' : St) (y ys yo : V) (m : LM) (f : Nat), r = (.n, en, s') ∧ en.get 0 = some v ∧ en.get 1 = some w ∧ en.get 5 = some (.p nx 0) ∧ en.get 6 = some (.p n2 0) ∧ en.get 7 = some (.int .i64 (i : Int)) ∧
  LP st.nx s' nx n2 y ys yo m m f ∧ m.F = f ∧ f ≤ m.O.length ∧ m.O.length ≤ i + 1 ∧ m.N = setAll m.S m.O ∧ Ext st.nx st s'
set_option maxRecDepth 20000 in
set_option maxHeartbeats 4000000 in
theorem g_LinePlays (st : St) (v w : V) (L : List (BitVec 64)) (K : List (Int × Int × BitVec 64)) (hv : RdRow st v 1 L.length (wv L)) (hw : RdRow st w 3 K.length (trip K)) (nt : Nat) :
    Gd (callL Try.prog ⟨false, [], 0, nt⟩ 4 [v, w] st) fun r => r.1 = .bool true := by
  rw [Gd_callL Try.func4 rfl]
  simp [evOp_call, sets, T.get_set]
  refine Gd.mono (awake_any _ _) ?_
  rintro _ ⟨s0, rfl, e0⟩
  have hv0 := hv.ext e0
  have hw0 := hw.ext e0
  have b0 := e0.le
  by_cases h20 : (20 : Int) < L.length
  · simp [evOp_call, sets, T.get_set, hv0.lenS, hw0.lenS, h20]
  · by_cases h60 : (60 : Int) < K.length
    · simp [evOp_call, sets, T.get_set, hv0.lenS, hw0.lenS, h20, h60]
    · simp [evOp_call, sets, T.get_set, hv0.lenS, hw0.lenS, h20, h60]
      refine Gd.mono (new_any _ v L hv0 _) ?_
      rintro ⟨r, s1⟩ ⟨nx, hr, h1, e1, n1⟩
      simp only at hr h1 e1
      subst hr
      have b1 := e1.le
      simp [evOp_call, sets, T.get_set]
      refine Gd.mono (rnew_any _ v L (hv0.ext e1) _) ?_
      rintro ⟨r, s2⟩ ⟨n2, ys, hr, h2, e2, n2', hys⟩
      simp only at hr h2 e2
      subst hr
      have b2 := e2.le
      have hLP : LP st.nx s2 nx n2 (.c (.slice none 0 0)) ys (.c (.slice none 0 0)) ⟨initS L, initS L, [], 0⟩ ⟨initS L, initS L, [], 0⟩ 0 := by
        have hnlt := h1.lt
        refine ⟨h1.other e2.le fun q hq => e2.keep q (h1.own_lt hq), h2, fun k hk hr => ?_, fun k hk => ?_, by omega⟩
        · have := ow_nil hk
          subst this
          rcases hr with hr | hr | hr
          · omega
          · have := hys _ hr; omega
          · exact nm_nil hr
        · have := ow_nil hk; omega
      simp [evOp_call, sets, T.get_set]
      refine Gd_loop (lpI st v w K nx n2) (fun e _ => muAt 7 K.length e) ?_ ?_
      · exact ⟨0, _, _, _, _, 0, Nat.zero_le _, by simp [T.get_set], by simp [T.get_set], by simp [T.get_set], by simp [T.get_set], by simp [T.get_set], hLP, rfl, Nat.le_refl _, Nat.le_refl _, rfl, (e0.trans (e1.mono b0)).trans (e2.mono (by omega))⟩
      · clear hLP h1 h2 e1 e2 hys
        rintro e s ⟨i, y, ys, yo, m, f, hi, g0, g1, g5, g6, g7, hL, hF, hf, hO, hN, hs⟩
        have hws := hw.ext hs
        have bs := hs.le
        by_cases hlt : i < K.length
        · have hlt' : (i : Int) < K.length := by omega
          have hwi := wrap_nat (n := i) (by omega)
          obtain ⟨q, o, ty, sz, tr, hid, hm, hg, ho, hc⟩ := hws.idx (st := s) un37 io43 hlt
          obtain ⟨⟨op, A, W⟩, hr⟩ : ∃ r, K[i]? = some r := ⟨_, List.getElem?_eq_getElem hlt⟩
          have hcl := trip_at K i _ hr
          have t0 : tr.get o = some (.int .i64 op) := hc 0 _ (by omega) hcl.1
          have t1 : tr.get (o + 1) = some (.int .i64 A) := hc 1 _ (by omega) hcl.2.1
          have t2 : tr.get (o + 1 + 1) = some (wd W) := hc 2 _ (by omega) hcl.2.2
          simp [evOp_call, sets, T.get_set, g0, g1, g5, g6, g7, hws.lenS, hlt', hid, loadE_eq, getC_eq, hg, getsB_3, t0, t1, t2, newC_is, storeK_g, putB_eq, roT]
          refine condK_join (lpJ st v w i nx n2) ?_ ?_
          · have e3 : Ext s.nx s ⟨s.nx + 1, s.h.set s.nx (.cs 43 3 (((T.lf.set 0 (.int .i64 op)).set 1 (.int .i64 A)).set 2 (wd W)))⟩ := (Ext.refl _ _).new (Nat.le_refl _) _
            have hL3 := hL.ext e3
            have hs3 := hs.trans (e3.mono bs)
            by_cases h0 : op = 0
            · have d0 : decide (op = 0) = true := by simpa using h0
              simp [evOp_call, sets, T.get_set, g0, g1, g5, g6, g7, d0, loadE_eq, getC_eq]
              refine ⟨by kernel_rfl, ?_⟩
              have hnx : ¬ s.nx ≤ nx := by have := hL.hx.lt; omega
              rw [cxOf_callL [(s.nx, s.nx + 1), (s.nx, s.nx + 1)] (by kernel_rfl) (by kernel_rfl) (looseW_at 8 (.p s.nx 0) (by simp [T.get_set]) (by kernel_rfl)) (fun x hx => by
                simp at hx
                rcases hx with rfl | rfl | rfl <;> simp [clashes_tmp, T.get_set, g5, inF_cons, hnx])]
              simp only [forb_nil, List.append_nil]
              refine Gd.mono (store_F' _ [(s.nx, s.nx + 1), (s.nx, s.nx + 1)] nx y m hL3.hx (fun k hk => ?_) (fun k hk => ?_) A W _ (by omega)) ?_
              · have := hL.hx.own_lt hk
                rw [inF_cons, if_neg (by omega), inF_cons, if_neg (by omega)]; rfl
              · have hk' : s.nx + 1 ≤ k := hk
                rw [inF_cons, if_neg (by omega), inF_cons, if_neg (by omega)]; rfl
              rintro ⟨r, s4⟩ ⟨hr4, y', h4, k4, o4⟩
              simp only at hr4 h4 k4
              subst hr4
              obtain ⟨hL4, x4⟩ := hL3.left h4 k4 o4 (by show st.nx ≤ s.nx + 1; omega)
              have hs4 := hs3.trans x4
              have hq4 : s4.h.get s.nx = some (.cs 43 3 (((T.lf.set 0 (.int .i64 op)).set 1 (.int .i64 A)).set 2 (wd W))) := by
                rw [k4.keep s.nx (Nat.lt_succ_self _) (fun e => by have := hL.hx.own_lt e; omega)]
                exact T.get_set_same _ _ _
              have hld : ∀ (b i nx' : Nat) , inF ((0, s.nx) :: (s.nx + 1, nx') :: forb b (rsOf [] i (s.nx + 1) s4.nx) []) s.nx = false := fun b i nx' => inF_ld (Nat.lt_succ_self _)
              simp [evOp_call, sets, T.get_set, g0, g1, g5, g6, g7, loadE_eq, getC_eq, hq4, hld]
              rw [cxOf_call (by kernel_rfl) (by kernel_rfl), forb_rsOf (by kernel_rfl)]
              refine Gd.mono (rstore_any s4 n2 f ys yo m hL4.hr (by omega) hf A W _) ?_
              rintro ⟨r, s5⟩ ⟨hr5, yo', h5, k5, o5⟩
              simp only at hr5 h5 k5
              subst hr5
              obtain ⟨hL5, x5⟩ := hL4.right h5 k5 (fun q hq => by
                rcases hq with hq | hq | hq
                · exact .inl (.inl hq)
                · exact .inl (.inr (.inl hq))
                · rcases o5 q hq with h | h
                  · exact .inl (.inr (.inr h))
                  · exact .inr h) hs4.le
              simp [evOp_call, sets, T.get_set, g0, g1, g5, g6, g7]
              refine ⟨_, _, y', ys, yo', _, f, rfl, by simp [T.get_set, g0], by simp [T.get_set, g1], by simp [T.get_set, g5], by simp [T.get_set, g6], by simp [T.get_set, g7], hL5, ?_, ?_, ?_, ?_, hs4.trans x5⟩
              · unfold LM.store; split <;> exact hF
              · unfold LM.store; split
                · show f ≤ (m.O ++ [(A, W)]).length
                  rw [List.length_append]; omega
                · exact hf
              · have := store_le' m A W; omega
              · unfold LM.store
                split
                · show m.N.set A.toNat W = setAll m.S (m.O ++ [(A, W)])
                  rw [hN]; simp [setAll]
                · exact hN
            · have d0 : decide (op = 0) = false := by simpa using h0
              by_cases h1 : op = 1
              · have d1 : decide (op = 1) = true := by simpa using h1
                simp [evOp_call, sets, T.get_set, g0, g1, g5, g6, g7, d0, d1, loadE_eq, getC_eq]
                refine Gd.mono (flush_any _ nx y m hL3.hx _) ?_
                rintro ⟨r, s4⟩ ⟨hr4, h4, k4⟩
                simp only at hr4 h4 k4
                subst hr4
                obtain ⟨hL4, x4⟩ := hL3.left h4 k4 (fun k hk => .inl hk) (by show st.nx ≤ s.nx + 1; omega)
                have hs4 := hs3.trans x4
                simp [evOp_call, sets, T.get_set, g0, g1, g5, g6, g7]
                refine Gd.mono (rflush_any s4 n2 f ys yo m hL4.hr _) ?_
                rintro ⟨r, s5⟩ ⟨hr5, yo', h5, k5, o5⟩
                simp only at hr5 h5 k5
                subst hr5
                obtain ⟨hL5, x5⟩ := hL4.right h5 k5 (fun q hq => by
                  rcases hq with hq | hq | hq
                  · exact .inl (.inl hq)
                  · exact .inl (.inr (.inl hq))
                  · exact .inr (o5 q hq)) hs4.le
                have hL6 : LP st.nx s5 nx n2 y ys yo' { m with F := m.O.length } { m with F := m.O.length } m.O.length := ⟨hL5.hx, ⟨h5.ls, h5.lt, h5.a1, h5.a2, h5.a3, h5.small, h5.oks, h5.blk, h5.sr, h5.orow⟩, hL5.dis, hL5.b1, hL5.b2⟩
                simp [evOp_call, sets, T.get_set, g0, g1, g5, g6, g7]
                exact ⟨_, _, y, ys, yo', { m with F := m.O.length }, m.O.length, rfl, by simp [T.get_set, g0], by simp [T.get_set, g1], by simp [T.get_set, g5], by simp [T.get_set, g6], by simp [T.get_set, g7], hL6, rfl, Nat.le_refl _, by show m.O.length ≤ i + 1; omega, hN, hs4.trans x5⟩
              · have d1 : decide (op = 1) = false := by simpa using h1
                by_cases h2 : op = 2
                · have d2 : decide (op = 2) = true := by simpa using h2
                  simp [evOp_call, sets, T.get_set, g0, g1, g5, g6, g7, d0, d1, d2, loadE_eq, getC_eq]
                  refine Gd.mono (fence_any _ nx y m hL3.hx f hF hf _) ?_
                  rintro ⟨r, s4⟩ ⟨hr4, y', h4, k4, o4⟩
                  simp only at hr4 h4 k4
                  subst hr4
                  obtain ⟨hL4, x4⟩ := hL3.left h4 k4 o4 (by show st.nx ≤ s.nx + 1; omega)
                  have hs4 := hs3.trans x4
                  simp [evOp_call, sets, T.get_set, g0, g1, g5, g6, g7]
                  refine Gd.mono (rfence_any s4 n2 f ys yo m hL4.hr hf _) ?_
                  rintro ⟨r, s5⟩ ⟨hr5, ys', yo', h5, k5, o5, o6⟩
                  simp only at hr5 h5 k5
                  subst hr5
                  obtain ⟨hL5, x5⟩ := hL4.right h5 k5 (fun q hq => by
                    rcases hq with hq | hq | hq
                    · exact .inl (.inl hq)
                    · exact .inr (o5 q hq)
                    · exact .inl (.inr (.inr (o6 q hq)))) hs4.le
                  simp [evOp_call, sets, T.get_set, g0, g1, g5, g6, g7]
                  refine ⟨_, _, y', ys', yo', _, 0, rfl, by simp [T.get_set, g0], by simp [T.get_set, g1], by simp [T.get_set, g5], by simp [T.get_set, g6], by simp [T.get_set, g7], hL5, rfl, Nat.zero_le _, by show (m.O.drop f).length ≤ i + 1; rw [List.length_drop]; omega, ?_, hs4.trans x5⟩
                  show m.N = setAll (setAll m.S (m.O.take f)) (m.O.drop f)
                  rw [hN, setAll_app, List.take_append_drop]
                · have d2 : decide (op = 2) = false := by simpa using h2
                  simp [evOp_call, sets, T.get_set, g0, g1, g5, g6, g7, d0, d1, d2, loadE_eq, getC_eq]
                  refine Gd.mono (fall_any _ nx y m hL3.hx A _) ?_
                  rintro ⟨r, s4⟩ ⟨hr4, h4, k4⟩
                  simp only at hr4 h4 k4
                  subst hr4
                  obtain ⟨hL4, x4⟩ := hL3.left h4 k4 (fun k hk => .inl (.inl (ow_nil hk))) (by show st.nx ≤ s.nx + 1; omega)
                  have hs4 := hs3.trans x4
                  have hq4 : s4.h.get s.nx = some (.cs 43 3 (((T.lf.set 0 (.int .i64 op)).set 1 (.int .i64 A)).set 2 (wd W))) := by
                    rw [k4.keep s.nx (Nat.lt_succ_self _) (fun e => by have := hL.hx.own_lt e; omega)]
                    exact T.get_set_same _ _ _
                  simp [evOp_call, sets, T.get_set, g0, g1, g5, g6, g7, loadE_eq, getC_eq, hq4]
                  refine Gd.mono (rfall_any s4 n2 f ys yo m hL4.hr A _) ?_
                  rintro ⟨r, s5⟩ ⟨hr5, ys', h5, k5, o5⟩
                  simp only at hr5 h5 k5
                  subst hr5
                  obtain ⟨hL5, x5⟩ := hL4.right h5 k5 (fun q hq => by
                    rcases hq with hq | hq | hq
                    · exact .inl (.inl hq)
                    · exact .inr (o5 q hq)
                    · exact (nm_nil hq).elim) hs4.le
                  simp [evOp_call, sets, T.get_set, g0, g1, g5, g6, g7]
                  have hmf : m.fall A = ⟨setAll m.S (m.O.take A.toNat), setAll m.S (m.O.take A.toNat), [], 0⟩ := by unfold LM.fall; rw [take_fall]
                  rw [hmf] at hL5
                  exact ⟨_, _, _, ys', _, _, 0, rfl, by simp [T.get_set, g0], by simp [T.get_set, g1], by simp [T.get_set, g5], by simp [T.get_set, g6], by simp [T.get_set, g7], hL5, rfl, Nat.zero_le _, Nat.zero_le _, rfl, hs4.trans x5⟩
          · clear hL hF hf hO hN hs hws bs hid hm hg ho hc t0 t1 t2 y ys yo m f
            have g7o := g7
            clear g0 g1 g5 g6 g7
            rintro _ ⟨en, s', y, ys, yo, m, f, rfl, g0, g1, g5, g6, g7, hL, hF, hf, hO, hN, hs⟩
            have bs := hs.le
            simp [evOp_call, T.get_set, g0, g1, g5, g6, g7]
            refine ⟨by kernel_rfl, ?_⟩
            rw [cxOf_call (by kernel_rfl) (by kernel_rfl)]
            simp only [forb_nil]
            refine Gd.mono (open_any s' nx y m hL.hx _) ?_
            rintro _ rfl
            simp [evOp_call, T.get_set, g0, g1, g5, g6, g7]
            rw [cxOf_call (by kernel_rfl) (by kernel_rfl)]
            simp only [forb_nil]
            refine Gd.mono (ropen_any s' n2 f ys yo m hL.hr _ _) ?_
            rintro _ rfl
            simp [evOp_call, T.get_set, g0, g1, g5, g6, g7]
            rw [cxOf_callN (by kernel_rfl) (by kernel_rfl) (by kernel_rfl)]
            simp only [forb_nil]
            refine Gd.mono (sure_W s' _ nx y m hL.hx _) ?_
            rintro ⟨r, s4⟩ ⟨x4, hr4, ho4, e4⟩
            simp only at hr4 ho4 e4
            subst hr4
            have hL4 := hL.ext e4
            obtain ⟨t4, k1, k2, k3⟩ := hL4.hr.blk
            have hld : ∀ (b i nx' : Nat) , inF ((0, n2) :: (n2 + 1, nx') :: forb b (rsOf [] i s'.nx s4.nx) []) n2 = false := fun b i nx' => inF_ld hL.hr.lt
            simp [evOp_call, T.get_set, g0, g1, g5, g6, g7, loadE_eq, getC_eq, k1, k2, hld]
            rw [cxOf_call (by kernel_rfl) (by kernel_rfl), forb_rsOf (by kernel_rfl)]
            refine Gd.mono (same_any s4 r ys 8 8 m.S m.S ho4.rd hL4.hr.sr (by omega) _) ?_
            rintro _ rfl
            simp [evOp_call, T.get_set, g0, g1, g5, g6, g7]
            have hs4 := hs.trans (e4.mono bs)
            refine Gd_loop (lpK v w i nx n2 s4) (fun e _ => gapAt 9 9 e) ?_ ?_
            · exact ⟨-1, by omega, by omega, by simp [T.get_set, g0], by simp [T.get_set, g1], by simp [T.get_set, g5], by simp [T.get_set, g6], by simp [T.get_set, g7], by simp [T.get_set], rfl⟩
            · clear g0 g1 g5 g6 g7
              rintro en2 s5 ⟨k, hk1, hk2, g0, g1, g5, g6, g7, g9, rfl⟩
              by_cases hk : k < 9
              · have hwk : IntKind.i64.wrap (k + 1) = k + 1 := wrap_in (by omega) (by omega)
                simp [evOp_call, T.get_set, g0, g1, g5, g6, g7, g9, hk]
                refine Gd.mono (load_any s5 nx y m hL4.hx k _) ?_
                rintro _ rfl
                simp [evOp_call, T.get_set, g0, g1, g5, g6, g7, g9]
                refine Gd.mono (rload_any s5 n2 f ys yo m hL4.hr k _ _) ?_
                rintro _ rfl
                rw [hN]
                simp [evOp_call, T.get_set, g0, g1, g5, g6, g7, g9, hwk]
                exact ⟨⟨k + 1, by omega, by omega, by simp [T.get_set, g0], by simp [T.get_set, g1], by simp [T.get_set, g5], by simp [T.get_set, g6], by simp [T.get_set, g7], by simp [T.get_set], rfl⟩, gapAt_lt g9 (by simp [T.get_set]; rfl) hk (by omega)⟩
              · have hwi := wrap_nat (n := i) (by omega)
                simp [evOp_call, T.get_set, g0, g1, g5, g6, g7, g9, hk, hwi]
                exact ⟨⟨i + 1, y, ys, yo, m, f, hlt, by simp [T.get_set, g0], by simp [T.get_set, g1], by simp [T.get_set, g5], by simp [T.get_set, g6], by simp [T.get_set], hL4, hF, hf, hO, hN, hs4⟩, muAt_lt g7o (by simp [T.get_set]) hlt⟩
        · obtain rfl : i = K.length := by omega
          simp [evOp_call, T.get_set, g0, g1, g5, g6, g7, hws.lenS]
end Go.Proofs.Ytnigikccijjihaa

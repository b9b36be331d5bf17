/-
  Contracts of package pool: New, Group; of the law's empty bits.
-/
import Derived.Test.YtdoennkmcloalaaPlA
set_option linter.unusedSimpArgs false
namespace Go.Proofs.Ytdoennkmcloalaa
open Go.RowKit Ev
/-- the bits of a geometry with none of the data taken, as far as i -/
def emptyI (g : Gm) : Nat → List (BitVec 64)
  | 0 => List.replicate ((g.b.toNat + 63) / 64) 0#64
  | i + 1 => if (i : Int) < dF g ∨ dF g + dN g ≤ (i : Int) then setB (emptyI g i) true [(i : Int)] else emptyI g i
theorem emptyI_length (g : Gm) : ∀ i, (emptyI g i).length = (g.b.toNat + 63) / 64
  | 0 => by simp [emptyI]
  | i + 1 => by
    unfold emptyI
    split
    · rw [setB_length, emptyI_length g i]
    · exact emptyI_length g i
def emJ (st : St) (q : Nat) (g : Gm) (e : Env) (s : St) : Prop := ∃ (i : Nat) (y : V), (i : Int) ≤ g.b ∧ e.get 1 = some (.p st.nx 0) ∧ e.get 2 = some (.p (st.nx + 1) 0) ∧ e.get 3 = some (.int .i64 (dF g)) ∧ e.get 4 = some (.int .i64 (dN g)) ∧ e.get 5 = some (.p q 0) ∧ e.get 6 = some (.int .i64 (i : Int)) ∧
  s.h.get st.nx = some (.cs 38 4 ((((T.lf.set 0 (.int .i64 g.b)).set 1 (.int .i64 g.n)).set 2 (.int .i64 g.c)).set 3 (.int .i64 g.k))) ∧ (∃ t, s.h.get (st.nx + 1) = some (.cs 90 1 t)) ∧ (∃ t, s.h.get q = some (.cs 90 1 t) ∧ t.get 0 = some y) ∧ st.nx + 1 < q ∧ q < s.nx ∧
  RdRow s y 1 ((g.b.toNat + 63) / 64) (wv (emptyI g i)) ∧ RowFrom (st.nx + 2) y ∧ (∀ o l z, y ≠ .sg q o l z) ∧ (∀ o l z, y ≠ .sl q o l z) ∧ Ext st.nx st s
set_option maxRecDepth 20000 in
set_option maxHeartbeats 4000000 in
theorem empty_any (st : St) (g : Gm) (hg : isGood g) (nt : Nat) :
    Gd (callL Try.prog ⟨false, [], 0, nt⟩ 67 [gV g] st) fun r => ∃ y, r.1 = .g [y] ∧ RdRow r.2 y 1 ((g.b.toNat + 63) / 64) (wv (emptyI g g.b.toNat)) ∧ Ext st.nx st r.2 := by
  rw [Gd_callL Try.func67 rfl]
  have e0 := box_ext st g
  have hs4 := hg.1
  have hck := ck_le hs4
  obtain ⟨h1, h2, h3, h4, h5, h6, h7, h8⟩ := hs4
  have hd1 := hg.2
  have hdF : 0 ≤ dF g ∧ dF g ≤ 1024 := by unfold dF nF bN dN dF nF bN at *; omega
  have hdN : 1 ≤ dN g ∧ dN g ≤ 1024 := by unfold dN at *; omega
  obtain ⟨n, hn⟩ : ∃ n : Nat, g.b = (n : Int) := ⟨g.b.toNat, by omega⟩
  have hnt : g.b.toNat = n := by omega
  have q1 : ¬ st.nx + 1 = st.nx := by omega
  have e1 := e0.new (Nat.le_succ _) (.cs 90 1 (sets [.c (.slice none 0 0)] 0 .lf))
  simp [gV, evOp_call, sets, T.get_set, cellsOf, newC_is, loadE_eq, getC_eq, getsB_succ, getsB_zero, q1]
  refine Gd.mono (gdata_any _ [] (fun _ _ => rfl) 0 (Nat.zero_le _) g _) ?_
  rintro ⟨r, s1⟩ ⟨hr, x1⟩
  simp only at hr x1
  subst hr
  have b1 : st.nx + 2 ≤ s1.nx := x1.le
  have k0 : s1.h.get st.nx = some (.cs 38 4 ((((T.lf.set 0 (.int .i64 g.b)).set 1 (.int .i64 g.n)).set 2 (.int .i64 g.c)).set 3 (.int .i64 g.k))) := by
    rw [x1.keep st.nx (by show st.nx < st.nx + 1 + 1; omega)]
    exact (T.get_set_ne (n := st.nx + 1) (m := st.nx) _ _ (by omega)).trans (T.get_set_same _ _ _)
  have k1 : s1.h.get (st.nx + 1) = some (.cs 90 1 (sets [.c (.slice none 0 0)] 0 .lf)) := by
    rw [x1.keep (st.nx + 1) (by show st.nx + 1 < st.nx + 1 + 1; omega)]; exact T.get_set_same _ _ _
  have ex1 : Ext st.nx st s1 := e1.trans (x1.mono (by show st.nx ≤ st.nx + 1 + 1; omega))
  simp [at2, hg, evOp_call, sets, T.get_set, tupK, cellsOf, newC_is, loadE_eq, getC_eq, k0, hn]
  refine Gd.mono (bnew_any s1 n (by omega) _) ?_
  rintro ⟨r, s2⟩ ⟨y, hr, hy, hyf0, x2⟩
  simp only at hr hy hyf0 x2
  subst hr
  have b2 := x2.le
  have hone := hy.one
  simp [evOp_call, sets, T.get_set, tupK, cellsOf, newC_is, loadE_eq, getC_eq, storeK_g, putB_eq, roT, hone, hn]
  have k0' : s2.h.get st.nx = some (.cs 38 4 ((((T.lf.set 0 (.int .i64 g.b)).set 1 (.int .i64 g.n)).set 2 (.int .i64 g.c)).set 3 (.int .i64 g.k))) := (x2.keep _ (by omega)).trans k0
  have k1' := (x2.keep (st.nx + 1) (by omega)).trans k1
  have ex2 : Ext st.nx st s2 := ex1.trans (x2.mono (by omega))
  have ex3 : Ext s2.nx s2 ⟨s2.nx + 1, s2.h.set s2.nx (.cs 90 1 (T.lf.set 0 y))⟩ := (Ext.refl _ _).new (Nat.le_refl _) _
  refine Gd_loop (emJ st s2.nx g) (fun en _ => muAt 6 n en) ?_ ?_
  · refine ⟨0, y, by omega, by simp [T.get_set], by simp [T.get_set], by simp [T.get_set], by simp [T.get_set], by simp [T.get_set], by simp [T.get_set], ?_, ⟨sets [.c (.slice none 0 0)] 0 .lf, ?_⟩, ⟨_, T.get_set_same _ _ _, by simp [T.get_set]⟩, by omega, Nat.lt_succ_self _, ?_, ?_, ?_, ?_, ex2.trans (ex3.mono (by omega))⟩
    · rw [ex3.keep _ (by omega)]; exact k0'
    · rw [ex3.keep _ (by omega)]; exact k1'
    · rw [hnt]
      have := hy.ext ex3
      simpa [emptyI, hnt] using this
    · exact hyf0.mono (by omega)
    · intro o l z e; have := hy.lt_of.1 _ _ _ _ e; omega
    · intro o l z e; have := hy.lt_of.2 _ _ _ _ e; omega
  · rintro en s ⟨i, y, hi, g1, g2, g3, g4, g5, g6, m0, ⟨t1, m1⟩, ⟨tq, mq, mq0⟩, hq1, hq2, hyr, hyf, hn1, hn2, hx⟩
    have hyone := hyr.one
    by_cases hlt : (i : Int) < g.b
    · have hlt' : (i : Int) < (n : Int) := by omega
      have w1 : IntKind.i64.wrap ((i : Int) + 1) = ((i + 1 : Nat) : Int) := by rw [show ((i : Int) + 1) = ((i + 1 : Nat) : Int) by omega]; exact wrap_in (by omega) (by omega)
      have w2 : IntKind.i64.wrap (dF g + dN g) = dF g + dN g := wrap_in (by omega) (by omega)
      have fin : ∀ (en2 : Env) (s3 : St), True := fun _ _ => trivial
      by_cases c : (i : Int) < dF g ∨ dF g + dN g ≤ (i : Int)
      · have hem : emptyI g (i + 1) = setB (emptyI g i) true [(i : Int)] := by rw [emptyI, if_pos c]
        have step : ∀ (en2 : Env), True := fun _ => trivial
        by_cases c1 : (i : Int) < dF g
        · simp [evOp_call, T.get_set, g1, g2, g3, g4, g5, g6, loadE_eq, getC_eq, m0, mq, mq0, hlt, c1, getsB_1]
          refine evOp_build1 (v := .int .i64 (i : Int)) (cs := [.int .i64 (i : Int)]) (fun k => el76 k) (fun k => ze3 k) rfl (by omega) (by simp [T.get_set]) (fun k => rfl) rfl ?_
          have hbv := builtR (st := s) (el := 3) (vs := iv [(i : Int)]) (n := 1) (by decide) rfl
          have exb : Ext s.nx s ⟨s.nx + 1, s.h.set s.nx (.cs 3 1 (sets [.int .i64 (i : Int)] 0 .lf))⟩ := (Ext.refl _ _).new (Nat.le_refl _) _
          simp [evOp_call, T.get_set, g1, g2, g3, g4, g5, g6]
          refine Gd.mono (set_any _ y _ (emptyI g i) (by rw [emptyI_length]; exact hyr.ext exb) (by rw [emptyI_length]; omega) true [(i : Int)] hbv (by simp) (by simp; omega) _) ?_
          rintro ⟨r, s3⟩ ⟨z, hr, hz, hzf, x3⟩
          simp only at hr hz hzf x3
          subst hr
          have b3 : s.nx + 1 ≤ s3.nx := x3.le
          have ex3 : Ext s.nx s s3 := exb.trans (x3.mono (Nat.le_succ _))
          have hzone := hz.one
          have mq3 := (ex3.keep _ hq2).trans mq
          rw [emptyI_length] at hz
          have hzf2 : RowFrom (s.nx + 1) z := hzf
          simp [evOp_call, T.get_set, g1, g2, g3, g4, g5, g6, storeK_g, putB_eq, roT, mq3, hzone, w1, sets]
          refine ⟨⟨i + 1, z, by omega, by simp [T.get_set, g1], by simp [T.get_set, g2], by simp [T.get_set, g3], by simp [T.get_set, g4], by simp [T.get_set, g5], by simp [T.get_set], ?_, ⟨t1, ?_⟩, ⟨_, T.get_set_same _ _ _, by simp [T.get_set]⟩, hq1, by show s2.nx < s3.nx; omega, ?_, hzf2.mono (by omega), fun o l z' e => by have := hzf2.1 _ _ _ _ e; omega, fun o l z' e => by have := hzf2.2 _ _ _ _ e; omega, (hx.trans (ex3.mono hx.le)).set (by omega) (by omega) _⟩, muAt_lt g6 (by simp [T.get_set]) (by omega)⟩
          · show (s3.h.set s2.nx _).get st.nx = _
            rw [T.get_set_ne _ _ (by omega)]; exact (ex3.keep _ (by omega)).trans m0
          · show (s3.h.set s2.nx _).get (st.nx + 1) = _
            rw [T.get_set_ne _ _ (by omega)]; exact (ex3.keep _ (by omega)).trans m1
          · rw [hem]
            exact hz.setOther (k := s2.nx) (fun o l z' e => by have := hzf2.1 _ _ _ _ e; omega) (fun o l z' e => by have := hzf2.2 _ _ _ _ e; omega) _
        · have c2 : dF g + dN g ≤ (i : Int) := c.resolve_left c1
          simp [evOp_call, T.get_set, g1, g2, g3, g4, g5, g6, loadE_eq, getC_eq, m0, mq, mq0, hlt, c1, c2, w2, getsB_1]
          refine evOp_build1 (v := .int .i64 (i : Int)) (cs := [.int .i64 (i : Int)]) (fun k => el76 k) (fun k => ze3 k) rfl (by omega) (by simp [T.get_set]) (fun k => rfl) rfl ?_
          have hbv := builtR (st := s) (el := 3) (vs := iv [(i : Int)]) (n := 1) (by decide) rfl
          have exb : Ext s.nx s ⟨s.nx + 1, s.h.set s.nx (.cs 3 1 (sets [.int .i64 (i : Int)] 0 .lf))⟩ := (Ext.refl _ _).new (Nat.le_refl _) _
          simp [evOp_call, T.get_set, g1, g2, g3, g4, g5, g6]
          refine Gd.mono (set_any _ y _ (emptyI g i) (by rw [emptyI_length]; exact hyr.ext exb) (by rw [emptyI_length]; omega) true [(i : Int)] hbv (by simp) (by simp; omega) _) ?_
          rintro ⟨r, s3⟩ ⟨z, hr, hz, hzf, x3⟩
          simp only at hr hz hzf x3
          subst hr
          have b3 : s.nx + 1 ≤ s3.nx := x3.le
          have ex3 : Ext s.nx s s3 := exb.trans (x3.mono (Nat.le_succ _))
          have hzone := hz.one
          have mq3 := (ex3.keep _ hq2).trans mq
          rw [emptyI_length] at hz
          have hzf2 : RowFrom (s.nx + 1) z := hzf
          simp [evOp_call, T.get_set, g1, g2, g3, g4, g5, g6, storeK_g, putB_eq, roT, mq3, hzone, w1, sets]
          refine ⟨⟨i + 1, z, by omega, by simp [T.get_set, g1], by simp [T.get_set, g2], by simp [T.get_set, g3], by simp [T.get_set, g4], by simp [T.get_set, g5], by simp [T.get_set], ?_, ⟨t1, ?_⟩, ⟨_, T.get_set_same _ _ _, by simp [T.get_set]⟩, hq1, by show s2.nx < s3.nx; omega, ?_, hzf2.mono (by omega), fun o l z' e => by have := hzf2.1 _ _ _ _ e; omega, fun o l z' e => by have := hzf2.2 _ _ _ _ e; omega, (hx.trans (ex3.mono hx.le)).set (by omega) (by omega) _⟩, muAt_lt g6 (by simp [T.get_set]) (by omega)⟩
          · show (s3.h.set s2.nx _).get st.nx = _
            rw [T.get_set_ne _ _ (by omega)]; exact (ex3.keep _ (by omega)).trans m0
          · show (s3.h.set s2.nx _).get (st.nx + 1) = _
            rw [T.get_set_ne _ _ (by omega)]; exact (ex3.keep _ (by omega)).trans m1
          · rw [hem]
            exact hz.setOther (k := s2.nx) (fun o l z' e => by have := hzf2.1 _ _ _ _ e; omega) (fun o l z' e => by have := hzf2.2 _ _ _ _ e; omega) _
      · have hem : emptyI g (i + 1) = emptyI g i := by rw [emptyI, if_neg c]
        have c1 : ¬ (i : Int) < dF g := fun h => c (.inl h)
        have c2 : ¬ dF g + dN g ≤ (i : Int) := fun h => c (.inr h)
        simp [evOp_call, T.get_set, g1, g2, g3, g4, g5, g6, loadE_eq, getC_eq, m0, mq, mq0, hlt, c1, c2, w1, w2, getsB_1]
        exact ⟨⟨i + 1, y, by omega, by simp [T.get_set, g1], by simp [T.get_set, g2], by simp [T.get_set, g3], by simp [T.get_set, g4], by simp [T.get_set, g5], by simp [T.get_set], m0, ⟨t1, m1⟩, ⟨tq, mq, mq0⟩, hq1, hq2, by rw [hem]; exact hyr, hyf, hn1, hn2, hx⟩, muAt_lt g6 (by simp [T.get_set]) (by omega)⟩
    · have hin : g.b.toNat = i := by omega
      simp [evOp_call, T.get_set, g1, g2, g3, g4, g5, g6, loadE_eq, getC_eq, m0, mq, mq0, hlt, getsB_1, storeK_g, putB_eq, roT, m1, hyone, sets]
      rw [hnt] at hin hyr
      rw [hin] at hyr ⊢
      exact ⟨hyr.setOther (k := st.nx + 1) (fun o l z e => by have := hyf.1 _ _ _ _ e; omega) (fun o l z e => by have := hyf.2 _ _ _ _ e; omega) _, hx.set (by omega) (by omega) _⟩
end Go.Proofs.Ytdoennkmcloalaa

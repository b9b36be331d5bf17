/-
  The document's own nodes: written.
-/
import Derived.Test.YtdoennkmcloalaaNdR
set_option linter.unusedSimpArgs false
namespace Go.Proofs.Ytdoennkmcloalaa
open Go.RowKit Ev
theorem putN_bad' {N : Nd} (h : ¬ fitsN N) : putN N = [] := by unfold putN; rw [if_neg h]
def run7 (N : Nd) (k : Nat) : List (BitVec 64) := (runsN N k).take 7
theorem run7_succ (N : Nd) {k : Nat} : run7 N (k + 1) = (run7 N k).set (2 + k) (pkR (N.R[k]?.getD (0, 0))) := by
  unfold run7
  show ((runsN N k).set (2 + k) _).take 7 = _
  rw [List.take_set]
theorem run7_zero (N : Nd) : run7 N 0 = [pkH N, BitVec.ofInt 64 N.s, 0#64, 0#64, 0#64, 0#64, 0#64] := rfl
theorem run7_length (N : Nd) (k : Nat) : (run7 N k).length = 7 := by unfold run7; rw [List.length_take, runsN_length]; rfl
theorem body7 (N : Nd) (v : BitVec 64) : (bodyN N).set 7 v = run7 N N.R.length ++ [v] := by
  unfold run7
  have h := runsN_length N N.R.length
  show (runsN N N.R.length).set 7 v = _
  rw [List.set_eq_take_append_cons_drop, if_pos (by omega), List.drop_eq_nil_of_le (by omega)]
def rnpI (st : St) (N : Nd) (y : V) (e : Env) (s : St) : Prop := ∃ k : Nat, k ≤ N.R.length ∧ e.get 1 = some (.p st.nx 0) ∧ e.get 3 = some (.sl (st.nx + 1) 0 7 7) ∧ e.get 4 = some (.int .i64 (k : Int)) ∧ SlRow (st.nx + 1) s (.sl (st.nx + 1) 0 7 7) 7 (run7 N k) ∧ Ext st.nx st s ∧ (∃ t, s.h.get st.nx = some (.cs 44 4 t) ∧ t.get 3 = some y) ∧ ∀ r ∈ N.R.take k, okRun r
set_option maxRecDepth 20000 in
set_option maxHeartbeats 8000000 in
theorem rnput_any (st : St) (N : Nd) (y : V) (hy : RdRow st y 2 N.R.length (pairs N.R)) (nt : Nat) :
    Gd (callL Try.prog ⟨false, [], 0, nt⟩ 44 [ndV N y] st) fun r => RdRow r.2 r.1 1 (putN N).length (wv (putN N)) ∧ Ext st.nx st r.2 := by
  rw [Gd_callL Try.func44 rfl]
  have hcell : ∀ k : List V → Res, cellsOf (ndV N y) k = k [.int .i64 N.t, .int .i64 N.l, .int .i64 N.s, y] := fun k => rfl
  have hb := fun v => bx_ext st v
  have hwu : wantK true (some V.u) = false := rfl
  have bad : ∀ s, ¬ fitsN N → RdRow s (.c (.slice none 0 0)) 1 (putN N).length (wv (putN N)) := fun s hf => by
    rw [putN_bad' hf]; exact (OwnRow.nil 0 s 1).rd
  have nf : ∀ p : Prop, (fitsT N → p) → (noneN N ∧ N.t = 0 → p) → fitsN N → p := fun p h1 h2 h => by
    unfold fitsN at h
    split at h
    · exact h2 ⟨h, by assumption⟩
    · exact h1 h
  by_cases a1 : N.t < 0
  · simp [hcell, evOp_call, sets, T.get_set, newC_is, loadE_eq, getC_eq, hwu, a1]
    exact ⟨bad _ (nf False (fun h => by have := h.1; omega) (fun h => by omega)), hb _⟩
  by_cases a2 : 3 < N.t
  · simp [hcell, evOp_call, sets, T.get_set, newC_is, loadE_eq, getC_eq, hwu, a1, a2]
    exact ⟨bad _ (nf False (fun h => by have := h.1; omega) (fun h => by omega)), hb _⟩
  by_cases a3 : N.l < 0
  · simp [hcell, evOp_call, sets, T.get_set, newC_is, loadE_eq, getC_eq, hwu, a1, a2, a3]
    exact ⟨bad _ (nf False (fun h => by have := h.2.1; omega) (fun h => by have := h.1.1; omega)), hb _⟩
  by_cases a4 : 16777216 ≤ N.l
  · simp [hcell, evOp_call, sets, T.get_set, newC_is, loadE_eq, getC_eq, hwu, a1, a2, a3, a4]
    exact ⟨bad _ (nf False (fun h => by have := h.2.1; omega) (fun h => by have := h.1.1; omega)), hb _⟩
  by_cases a5 : N.s < 0
  · simp [hcell, evOp_call, sets, T.get_set, newC_is, loadE_eq, getC_eq, hwu, a1, a2, a3, a4, a5]
    exact ⟨bad _ (nf False (fun h => by have := h.2.2.1; omega) (fun h => by have := h.1.2.1; omega)), hb _⟩
  by_cases a6 : 1099511627776 < N.s
  · simp [hcell, evOp_call, sets, T.get_set, newC_is, loadE_eq, getC_eq, hwu, a1, a2, a3, a4, a5, a6]
    exact ⟨bad _ (nf False (fun h => by have := h.2.2.1; omega) (fun h => by have := h.1.2.1; omega)), hb _⟩
  by_cases a7 : (4 : Int) < (N.R.length : Int)
  · have a7' : 4 < N.R.length := by omega
    simp [hcell, evOp_call, sets, T.get_set, newC_is, loadE_eq, getC_eq, hwu, a1, a2, a3, a4, a5, a6, hy.lenS, a7, a7']
    exact ⟨bad _ (nf False (fun h => by have := h.2.2.2.1; omega) (fun h => by have := h.1.2.2; omega)), hb _⟩
  have a7' : ¬ 4 < N.R.length := by omega
  by_cases a8 : N.t = 0
  · simp [hcell, evOp_call, sets, T.get_set, newC_is, loadE_eq, getC_eq, getsB_succ, getsB_zero, hwu, a1, a2, a3, a4, a5, a6, hy.lenS, a7, a7', a8]
    rw [show V.g [.int .i64 0, .int .i64 N.l, .int .i64 N.s, y] = ndV N y by unfold ndV; rw [a8]]
    refine Gd.mono (rzero_any _ N y (hy.ext (hb _)) _) ?_
    rintro ⟨r, s1⟩ ⟨hr, e1⟩
    simp only at hr e1
    subst hr
    have hs1 := (hb _).trans (e1.mono (Nat.le_succ _))
    have hg1 := (e1.keep st.nx (Nat.lt_succ_self _)).trans (T.get_set_same _ _ _)
    by_cases hz : zeroN N = true
    · have hn : noneN N := by unfold zeroN at hz; have := of_decide_eq_true hz; exact ⟨this.2.1, this.2.2.1, this.2.2.2⟩
      have hf : fitsN N := by unfold fitsN; rw [if_pos a8]; exact hn
      have hp : putN N = List.replicate 8 0#64 := by unfold putN; rw [if_pos hf, if_pos a8]
      simp [evOp_call, sets, T.get_set, loadE_eq, getC_eq, hg1, hz]
      refine Gd_make (fun k => el23 k) io24 (fun k => ze24 k) (i := .i64) (i' := .i64) (n := 8) (q := 8) rfl rfl (by omega) (by omega) ?_
      simp [evOp_call, sets, T.get_set]
      refine ⟨?_, hs1.trans ((Ext.refl s1.nx s1).new (Nat.le_refl _) _ |>.mono hs1.le)⟩
      rw [hp]
      refine ⟨by simp, .inr (.inl ⟨s1.nx, 0, 8, 24, _, _, rfl, Nat.lt_succ_self _, T.get_set_same _ _ _, by decide, fun j v hj => ?_⟩)⟩
      have hj8 := lt_of_get hj
      simp at hj8
      rw [get_sets, if_pos ⟨by omega, by show 0 + j < 0 + 8; omega⟩]
      have e : rep [V.int .u64 0] 8 = wv (List.replicate 8 0#64) := by rw [wd_0]; rfl
      rw [e]
      simpa using hj
    · have hz' : zeroN N = false := by simpa using hz
      have hnf : ¬ fitsN N := fun h => by
        unfold fitsN at h
        rw [if_pos a8] at h
        exact hz (by unfold zeroN; exact decide_eq_true ⟨a8, h.1, h.2.1, h.2.2⟩)
      simp [evOp_call, sets, T.get_set, loadE_eq, getC_eq, hg1, hz']
      exact ⟨bad _ hnf, hs1⟩
  simp [hcell, evOp_call, sets, T.get_set, newC_is, loadE_eq, getC_eq, hwu, a1, a2, a3, a4, a5, a6, hy.lenS, a7, a7', a8]
  refine Gd_buildW (vs := [wd (pkH N), wd (BitVec.ofInt 64 N.s), wd 0#64, wd 0#64, wd 0#64, wd 0#64, wd 0#64]) (fun k => el23 k) (fun k => ze24 k) rfl (by simp [T.get_set, pkH]) (by simp) rfl rfl (by omega) ?_
  simp [evOp_call, sets, T.get_set]
  have kb0 : ∀ v w : B, ((st.h.set st.nx v).set (st.nx + 1) w).get st.nx = some v := fun v w => (T.get_set_ne _ _ (by omega)).trans (T.get_set_same _ _ _)
  refine Gd_loop (rnpI st N y) (fun e _ => muAt 4 N.R.length e) ?_ ?_
  · refine ⟨0, Nat.zero_le _, by simp [T.get_set], by simp [T.get_set], by simp [T.get_set], ⟨run7_length N 0, st.nx + 1, 24, _, rfl, Nat.le_refl _, Nat.lt_succ_self _, T.get_set_same _ _ _, by decide, fun j v hj => ?_⟩, (hb _).new (Nat.le_succ _) _, ⟨_, kb0 _ _, by simp [T.get_set]⟩, fun r h => by simp at h⟩
    have hjl := lt_of_get hj
    rw [run7_length] at hjl
    have hvs : [wd (pkH N), wd (BitVec.ofInt 64 N.s), wd 0#64, wd 0#64, wd 0#64, wd 0#64, wd 0#64] = wv (run7 N 0) := by rw [run7_zero]; rfl
    have hj' := wv_get hj
    rw [← hvs] at hj'
    show (sets [wd (pkH N), wd (BitVec.ofInt 64 N.s), wd 0#64, wd 0#64, wd 0#64, wd 0#64, wd 0#64] 0 .lf).get j = some (wd v)
    rw [get_sets, if_pos ⟨Nat.zero_le _, by simp; omega⟩]
    exact hj'
  rintro e s ⟨k, hk, g1, g3, g4, hz, hs, ⟨tb, kb, kb3⟩, hok⟩
  have hsn := hs.le
  have hys := hy.ext hs
  by_cases hlt : k < N.R.length
  case pos =>
    have hlt' : (k : Int) < N.R.length := by omega
    have hwk := wrap_nat (n := k) (by omega)
    obtain ⟨q, hq⟩ : ∃ q, q = 2 + k := ⟨_, rfl⟩
    have hw2 : IntKind.i64.wrap (2 + (k : Int)) = (q : Int) := by rw [show 2 + (k : Int) = (q : Int) by omega]; exact wrap_in (by omega) (by omega)
    obtain ⟨m, o, ty, sz, tr, hid, hm, hg, ho, hc⟩ := hys.idx (st := s) un42 io182 hlt
    obtain ⟨⟨F, L⟩, hr⟩ : ∃ r, N.R[k]? = some r := ⟨_, List.getElem?_eq_getElem hlt⟩
    have hcl := pairs_at N.R k _ hr
    have t0 : tr.get o = some (.int .i64 F) := hc 0 _ (by omega) hcl.1
    have t1 : tr.get (o + 1) = some (.int .i64 L) := hc 1 _ (by omega) hcl.2
    have hmem := List.mem_of_getElem? hr
    have nof : ¬ okRun (F, L) → ¬ fitsN N := fun h => nf False (fun h2 => h (h2.2.2.2.2 _ hmem)) (fun h2 => a8 h2.2)
    have hext := fun v => (Ext.refl s.nx s).new (Nat.le_refl _) v
    have hend := fun v => hs.trans ((hext v).mono hsn)
    obtain ⟨m3, ty3, t3, e3, b2, b3, g3', r3, _, _⟩ := hz.put (i := q) (by omega)
    injection e3 with e3
    subst e3
    have hne : ¬ s.nx = m := by omega
    have hne0 : ¬ s.nx = st.nx := by omega
    have hne0' : ¬ st.nx = s.nx := by omega
    have hne3 : ¬ s.nx = st.nx + 1 := by omega
    have hne3' : ¬ st.nx + 1 = s.nx := by omega
    have hlt7 : q < 7 := by omega
    have hlt7' : q + 1 ≤ 7 := by omega
    by_cases c1 : F < 0
    · simp [evOp_call, T.get_set, g1, g3, g4, kb, kb3, hys.lenS, hlt', hid, loadE_eq, getC_eq, hg, getsB_succ, getsB_zero, t0, t1, newC_is, cellsOf, putB_eq, storeK_g, roT, sets, hne, c1]
      exact ⟨bad _ (nof fun h => by have := h.1.1; dsimp only at this; omega), hend _⟩
    by_cases c2 : 2147483648 < F
    · simp [evOp_call, T.get_set, g1, g3, g4, kb, kb3, hys.lenS, hlt', hid, loadE_eq, getC_eq, hg, getsB_succ, getsB_zero, t0, t1, newC_is, cellsOf, putB_eq, storeK_g, roT, sets, hne, c1, c2]
      exact ⟨bad _ (nof fun h => by have := h.1.2; dsimp only at this; omega), hend _⟩
    by_cases c3 : L < 1
    · simp [evOp_call, T.get_set, g1, g3, g4, kb, kb3, hys.lenS, hlt', hid, loadE_eq, getC_eq, hg, getsB_succ, getsB_zero, t0, t1, newC_is, cellsOf, putB_eq, storeK_g, roT, sets, hne, c1, c2, c3]
      exact ⟨bad _ (nof fun h => by have := h.2.1; dsimp only at this; omega), hend _⟩
    by_cases c4 : 2147483648 < L
    · simp [evOp_call, T.get_set, g1, g3, g4, kb, kb3, hys.lenS, hlt', hid, loadE_eq, getC_eq, hg, getsB_succ, getsB_zero, t0, t1, newC_is, cellsOf, putB_eq, storeK_g, roT, sets, hne, c1, c2, c3, c4]
      exact ⟨bad _ (nof fun h => by have := h.2.2; dsimp only at this; omega), hend _⟩
    simp [evOp_call, T.get_set, g1, g3, g4, kb, kb3, hys.lenS, hlt', hid, loadE_eq, getC_eq, hg, getsB_succ, getsB_zero, t0, t1, newC_is, cellsOf, putB_eq, storeK_g, roT, sets, hne, c1, c2, c3, c4, hw2, hne0, hne0', hne3, hne3', hlt7, hlt7', g3', r3, hwk]
    have hput := (hz.ext (hext (.cs 182 2 ((((T.lf.set 0 (.int .i64 0)).set 1 (.int .i64 0)).set 0 (.int .i64 F)).set 1 (.int .i64 L))))).put2 (i := q) rfl ((T.get_set_ne _ _ hne3).trans g3') hlt7 (pkR (F, L))
    refine ⟨⟨k + 1, hlt, by simp [T.get_set, g1], by simp [T.get_set, g3], by simp [T.get_set], ?_, (hend _).set (by omega) (by show st.nx + 1 < s.nx + 1; omega) _, ⟨tb, (T.get_set_ne _ _ (by show st.nx + 1 ≠ st.nx; omega)).trans ((T.get_set_ne _ _ hne0).trans kb), kb3⟩, fun r h => ?_⟩, muAt_lt g4 (by simp [T.get_set]) hlt⟩
    · rw [run7_succ, hr, ← hq]; exact hput
    · rw [List.take_add_one, hr] at h
      rcases List.mem_append.1 h with h | h
      · exact hok r h
      · simp at h; subst h; exact ⟨⟨by dsimp only; omega, by dsimp only; omega⟩, by dsimp only; omega, by dsimp only; omega⟩
  obtain rfl : k = N.R.length := by omega
  rw [List.take_length] at hok
  have hT : fitsT N := ⟨⟨by omega, by omega⟩, ⟨by omega, by omega⟩, ⟨by omega, by omega⟩, by omega, hok⟩
  have hf : fitsN N := by unfold fitsN; rw [if_neg a8]; exact hT
  have hp : putN N = run7 N N.R.length ++ [slOf (run7 N N.R.length)] := by
    unfold putN
    rw [if_pos hf, if_neg a8, body7]; rfl
  simp [evOp_call, T.get_set, g1, g3, g4, kb, kb3, hys.lenS, loadE_eq, getC_eq]
  refine Gd.mono (rslOf_any s 0 (.sl (st.nx + 1) 0 7 7) (run7 N N.R.length) (by rw [run7_length]; exact hz.rd) (by rw [run7_length]; omega) _) ?_
  rintro _ rfl
  simp [evOp_call, T.get_set]
  refine Gd_buildW (vs := [wd (slOf (run7 N N.R.length))]) (fun k => el23 k) (fun k => ze24 k) rfl (by simp [T.get_set]) (by simp) rfl rfl (by omega) ?_
  simp [T.get_set]
  have hext := fun v => (Ext.refl s.nx s).new (Nat.le_refl _) v
  refine Gd_appendA un23 un23 io24 (lx := 1) (new := [wd (slOf (run7 N N.R.length))]) (hz.app.ext (hext _)) (by show st.nx + 1 ≤ s.nx + 1; omega) (by decide) (fun s' h => by cases h) (fun k => rfl) (fun k => by simp [getC_eq, getsB_1, T.get_set, sets]) rfl (by omega) (by omega) ?_
  intro s' st' ho' he'
  simp [evOp_call, T.get_set]
  have ho2 : OwnRow (st.nx + 1) st' s' 1 (putN N).length (wv (putN N)) := by
    rw [hp, wv_app, List.length_append, run7_length]
    exact ho'
  exact ⟨ho2.rd, (hs.trans ((hext _).mono hsn)).trans (he'.mono (Nat.le_succ _))⟩
end Go.Proofs.Ytdoennkmcloalaa

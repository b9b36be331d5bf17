/-
  Contracts: Merge, Split, Cut, Apart of at most one run.
-/
import Derived.Test.YtdoennkmcloalaaPbC
set_option linter.unusedSimpArgs false
set_option linter.unusedVariables false
namespace Go.Proofs.Ytdoennkmcloalaa
open Go.RowKit Ev
theorem ownLow {b b' : Nat} {st : St} {x : V} {z n : Nat} {l : List V} (h : OwnRow b st x z n l) (hb : b' ≤ b) : OwnRow b' st x z n l := by
  obtain ⟨h1, h2⟩ := h
  refine ⟨h1, ?_⟩
  rcases h2 with h2 | ⟨m, ty, t, h2, h3, h4, h5⟩
  · exact .inl h2
  · exact .inr ⟨m, ty, t, h2, Nat.le_trans hb h3, h4, h5⟩
def m1I (st : St) (c : V) (K : List Rn) (e : Env) (s : St) : Prop := e.get 8 = some c ∧ e.get 9 = some (.int .i64 (K.length : Int)) ∧ Ext st.nx st s ∧ RdRow s c 2 K.length (cells K) ∧ ((e.get 10 = some (.int .i64 ((0 : Nat) : Int)) ∧ e.get 3 = some (.c (.slice none 0 0))) ∨ (K.length = 1 ∧ e.get 10 = some (.int .i64 ((1 : Nat) : Int)) ∧ ∃ y, e.get 3 = some y ∧ OwnRow st.nx s y 2 1 (cells K)))
set_option maxRecDepth 20000 in
set_option maxHeartbeats 4000000 in
theorem merge1_any (st : St) (x : V) (K : List Rn) (hx : RdRow st x 2 K.length (cells K)) (hK : K.length ≤ 1) (hc : K.filter cnt = K) (nt : Nat) : Gd (callL Try.prog ⟨false, [], 0, nt⟩ 59 [x] st) (gapR st K) := by
  rw [Gd_callL Try.func59 rfl]
  have hwu : wantK true (some V.u) = false := rfl
  have w01 : IntKind.i64.wrap (-1) = -1 := by decide
  have hln : ∀ s : St, lenS s (V.c (.slice none 0 0)) = some (.int .i64 0, s) := fun s => (OwnRow.nil 0 s 2).rd.lenS s
  have w1 : IntKind.i64.wrap 1 = 1 := by decide
  simp [evOp_call, sets, T.get_set]
  refine Gd.mono (counted_any st x K _ hx (by omega)) ?_
  rintro ⟨c, s1⟩ ⟨hcr, e1⟩
  simp only at hcr e1
  rw [hc] at hcr
  simp [evOp_call, sets, T.get_set, hcr.rd.lenS]
  refine Gd_loop (m1I st c K) (fun e _ => muAt 10 K.length e) ?_ ?_
  · exact ⟨by simp [T.get_set], by simp [T.get_set], e1, hcr.rd, .inl ⟨by simp [T.get_set], by simp [T.get_set]⟩⟩
  rintro e s ⟨g8, g9, hs, hcs, ⟨g10, g3⟩ | ⟨hK1, g10, y, g3, hy⟩⟩
  · by_cases h0 : K.length = 0
    · obtain rfl : K = [] := List.eq_nil_of_length_eq_zero h0
      simp [evOp_call, T.get_set, g8, g9, g10, g3, sets]
      exact ⟨OwnRow.nil _ _ _, hs⟩
    · obtain ⟨⟨a, n⟩, rfl⟩ : ∃ r, K = [r] := by
        match K, hK, h0 with
        | [r], _, _ => exact ⟨r, rfl⟩
      have hlt : (0 : Int) < (([(a, n)] : List Rn).length : Int) := by simp
      obtain ⟨m1, o1, ty1, sz1, tr1, i1, b1, k1, l1, c1⟩ := hcs.idx (st := s) un39 io47 (i := 0) (by simp)
      have d0 : tr1.get o1 = some (.int .i64 a) := by simpa using c1 0 _ (by omega) (cells_get [(a, n)] 0 (a, n) rfl).1
      have d1 : tr1.get (o1 + 1) = some (.int .i64 n) := by simpa using c1 1 _ (by omega) (cells_get [(a, n)] 0 (a, n) rfl).2
      simp [evOp_call, T.get_set, g8, g9, g10, g3, i1, loadE_eq, getC_eq, getsB_succ, getsB_zero, k1, d0, d1, newC_is, storeK_g, putB_eq, roT, sets, w01, hln]
      refine ⟨by kernel_rfl, ?_⟩
      refine evOp_build1 (v := .g [.int .i64 a, .int .i64 n]) (cs := [.int .i64 a, .int .i64 n]) (fun k => el39 k) (fun k => ze47 k) rfl (by omega) (by simp [T.get_set]) (fun k => rfl) rfl ?_
      simp [evOp_call, T.get_set, g8, g9, g10, g3]
      have hb := hs.le
      refine Gd_append_nil (b := st.nx) un39 un39 io47 (lx := 1) (new := [.int .i64 a, .int .i64 n]) (by show st.nx ≤ s.nx + 1 + 1; omega) (by decide) (fun s' h => by cases h) (fun k => rfl) (fun k => by simp [getC_eq, getsB_2, T.get_set, sets]) rfl (by omega) ?_
      intro y s4 hy x4 _
      have hx2 : ∀ v w, Ext s.nx s ⟨s.nx + 1 + 1, (s.h.set s.nx v).set (s.nx + 1) w⟩ := fun v w => ((Ext.refl _ _).new (Nat.le_refl _) v).new (Nat.le_succ _) w
      have hs4 : Ext s.nx s s4 := (hx2 _ _).trans (x4.mono (by show s.nx ≤ s.nx + 1 + 1; omega))
      simp [evOp_call, T.get_set, g8, g9, g10, g3, w1]
      exact ⟨⟨by simp [T.get_set, g8], by simp [T.get_set, g9], hs.trans (hs4.mono hb), hcs.ext hs4, .inr ⟨rfl, by simp [T.get_set], y, by simp [T.get_set], hy⟩⟩, by rw [muAt_eq g10, muAt_eq (k := 1) (i := .i64) (by simp [T.get_set])]; simp⟩
  · simp [evOp_call, T.get_set, g8, g9, g10, g3, hK1, sets]
    exact ⟨by rw [hK1]; exact hy, hs⟩
def a1I (c : V) (s0 : St) (e : Env) (s : St) : Prop := e.get 3 = some c ∧ e.get 4 = some (.int .i64 1) ∧ s = s0
set_option maxRecDepth 20000 in
set_option maxHeartbeats 4000000 in
theorem apart1_any (st : St) (x : V) (K : List Rn) (hx : RdRow st x 2 K.length (cells K)) (hK : K.length ≤ 1) (hc : K.filter cnt = K) (nt : Nat) : Gd (callL Try.prog ⟨false, [], 0, nt⟩ 60 [x] st) fun r => r.1 = .bool true ∧ Ext st.nx st r.2 := by
  rw [Gd_callL Try.func60 rfl]
  simp [evOp_call, sets, T.get_set]
  refine Gd.mono (counted_any st x K _ hx (by omega)) ?_
  rintro ⟨c, s1⟩ ⟨hcr, e1⟩
  simp only at hcr e1
  rw [hc] at hcr
  simp [evOp_call, sets, T.get_set]
  refine Gd.mono (sortF1_any s1 c _ K hcr.rd hK _) ?_
  rintro _ rfl
  simp [evOp_call, sets, T.get_set]
  refine Gd_loop (a1I c s1) (fun e _ => 0) ?_ ?_
  · exact ⟨by simp [T.get_set], by simp [T.get_set], rfl⟩
  rintro e s ⟨g3, g4, rfl⟩
  have hlt : ¬ (1 : Int) < K.length := by omega
  simp [evOp_call, T.get_set, g3, g4, hcr.rd.lenS, hlt, sets]
  exact e1
def sp1I (st : St) (c : V) (a n i : Int) (e : Env) (s : St) : Prop := e.get 10 = some c ∧ e.get 11 = some (.int .i64 1) ∧ Ext st.nx st s ∧ RdRow s c 2 1 (cells [(a, n)]) ∧ e.get 5 = some (.c (.slice none 0 0)) ∧ ((e.get 1 = some (.int .i64 i) ∧ e.get 12 = some (.int .i64 ((0 : Nat) : Int)) ∧ e.get 4 = some (.c (.slice none 0 0))) ∨ (e.get 12 = some (.int .i64 ((1 : Nat) : Int)) ∧ ∃ y, e.get 4 = some y ∧ OwnRow st.nx s y 2 1 (cells [(a, n)])))
set_option maxRecDepth 20000 in
set_option maxHeartbeats 4000000 in
theorem split1_any (st : St) (x : V) (a n i : Int) (hx : RdRow st x 2 1 (cells [(a, n)])) (hc : cnt (a, n) = true) (hi : n ≤ i ∧ i ≤ 9223372036854775807) (nt : Nat) : Gd (callL Try.prog ⟨false, [], 0, nt⟩ 231 [x, .int .i64 i] st) fun r => ∃ y, r.1 = .t [y, .c (.slice none 0 0)] ∧ OwnRow st.nx r.2 y 2 1 (cells [(a, n)]) ∧ Ext st.nx st r.2 := by
  rw [Gd_callL Try.func231 rfl]
  have hn1 : 1 ≤ n ∧ n ≤ 1073741824 := by unfold cnt at hc; simp at hc; omega
  have w1 : IntKind.i64.wrap 1 = 1 := by decide
  have w2 : IntKind.i64.wrap (i - n) = i - n := wrap_in (by omega) (by omega)
  simp [evOp_call, sets, T.get_set]
  refine Gd.mono (counted_any st x [(a, n)] _ hx (by simp)) ?_
  rintro ⟨c, s1⟩ ⟨hcr, e1⟩
  simp only at hcr e1
  rw [show ([(a, n)] : List Rn).filter cnt = [(a, n)] by simp [List.filter, hc]] at hcr
  simp [evOp_call, sets, T.get_set, hcr.rd.lenS]
  refine Gd_loop (sp1I st c a n i) (fun e _ => muAt 12 1 e) ?_ ?_
  · exact ⟨by simp [T.get_set], by simp [T.get_set], e1, hcr.rd, by simp [T.get_set], .inl ⟨by simp [T.get_set], by simp [T.get_set], by simp [T.get_set]⟩⟩
  rintro e s ⟨g10, g11, hs, hcs, g5, ⟨g1, g12, g4⟩ | ⟨g12, y, g4, hy⟩⟩
  · obtain ⟨m1, o1, ty1, sz1, tr1, i1, b1, k1, l1, c1⟩ := hcs.idx (st := s) un39 io47 (i := 0) (by omega)
    have d0 : tr1.get o1 = some (.int .i64 a) := by simpa using c1 0 _ (by omega) (cells_get [(a, n)] 0 (a, n) rfl).1
    have d1 : tr1.get (o1 + 1) = some (.int .i64 n) := by simpa using c1 1 _ (by omega) (cells_get [(a, n)] 0 (a, n) rfl).2
    have q1 : (if i < n then i else n) = n := by split <;> omega
    have q2 : (if n < i then n else i) = n := by split <;> omega
    have q3 : (if n > 0 then n else 0) = n := if_pos (by omega)
    have q4 : (0 : Int) < n := by omega
    simp [evOp_call, T.get_set, g10, g11, g5, g1, g12, g4, i1, loadE_eq, getC_eq, getsB_succ, getsB_zero, k1, d0, d1, newC_is, storeK_g, putB_eq, roT, sets, evOp_min, evOp_max, min_i64, max_i64, q1, q2, q3, q4]
    refine evOp_build1 (v := .g [.int .i64 a, .int .i64 n]) (cs := [.int .i64 a, .int .i64 n]) (fun k => el39 k) (fun k => ze47 k) rfl (by omega) (by simp [T.get_set]) (fun k => rfl) rfl ?_
    simp [evOp_call, T.get_set, g10, g11, g5, g1, g12, g4]
    have hb := hs.le
    refine Gd_append_nil (b := st.nx) un39 un39 io47 (lx := 1) (new := [.int .i64 a, .int .i64 n]) (by show st.nx ≤ s.nx + 1 + 1; omega) (by decide) (fun s' h => by cases h) (fun k => rfl) (fun k => by simp [getC_eq, getsB_2, T.get_set, sets]) rfl (by omega) ?_
    intro y s4 hy x4 _
    have hx2 : ∀ v w, Ext s.nx s ⟨s.nx + 1 + 1, (s.h.set s.nx v).set (s.nx + 1) w⟩ := fun v w => ((Ext.refl _ _).new (Nat.le_refl _) v).new (Nat.le_succ _) w
    have hs4 : Ext s.nx s s4 := (hx2 _ _).trans (x4.mono (by show s.nx ≤ s.nx + 1 + 1; omega))
    have q5 : ¬ s.nx + 1 = s.nx := by omega
    have kq : ∃ t, s4.h.get s.nx = some (.cs 47 2 t) ∧ t.get 1 = some (.int .i64 n) := ⟨_, (x4.keep s.nx (by show s.nx < s.nx + 1 + 1; omega)).trans ((T.get_set_ne _ _ q5).trans (T.get_set_same _ _ _)), by simp [T.get_set]⟩
    obtain ⟨tq, kq, eq⟩ := kq
    simp [evOp_call, T.get_set, g10, g11, g5, g1, g12, g4, w1, w2, loadE_eq, getC_eq, kq, eq]
    exact ⟨⟨by simp [T.get_set, g10], by simp [T.get_set, g11], hs.trans (hs4.mono hb), hcs.ext hs4, by simp [T.get_set, g5], .inr ⟨by simp [T.get_set], y, by simp [T.get_set], hy⟩⟩, by rw [muAt_eq g12, muAt_eq (k := 1) (i := .i64) (by simp [T.get_set])]; simp⟩
  · simp [evOp_call, T.get_set, g10, g11, g5, g12, g4, sets]
    exact ⟨hy, hs⟩
set_option maxRecDepth 20000 in
set_option maxHeartbeats 4000000 in
theorem cut1_any (st : St) (x : V) (a n i : Int) (hx : RdRow st x 2 1 (cells [(a, n)])) (hc : cnt (a, n) = true) (hi : n ≤ i ∧ i ≤ 9223372036854775807) (nt : Nat) : Gd (callL Try.prog ⟨false, [], 0, nt⟩ 193 [x, .int .i64 i] st) fun r => ∃ y w, r.1 = .t [y, w] ∧ OwnRow st.nx r.2 y 2 1 (cells [(a, n)]) ∧ Ext st.nx st r.2 := by
  rw [Gd_callL Try.func193 rfl]
  have hf : ([(a, n)] : List Rn).filter cnt = [(a, n)] := by simp [List.filter, hc]
  simp [evOp_call, sets, T.get_set]
  refine Gd.mono (split1_any st x a n i hx hc hi _) ?_
  rintro ⟨r, s1⟩ ⟨y, hr, hy, x1⟩
  simp only at hr hy x1
  subst hr
  simp [evOp_call, sets, T.get_set, tupK]
  refine Gd.mono (merge1_any s1 y [(a, n)] hy.rd (by simp) hf _) ?_
  rintro ⟨y2, s2⟩ ⟨hy2, x2⟩
  simp only at hy2 x2
  simp [evOp_call, sets, T.get_set, tupK]
  refine Gd.mono (merge1_any s2 (.c (.slice none 0 0)) [] (OwnRow.nil 0 _ 2).rd (by simp) rfl _) ?_
  rintro ⟨y3, s3⟩ ⟨hy3, x3⟩
  simp only at hy3 x3
  simp [evOp_call, sets, T.get_set, tupK]
  have b1 := x1.le
  have b2 := x2.le
  exact ⟨(ownLow hy2 b1).ext x3, (x1.trans (x2.mono b1)).trans (x3.mono (by omega))⟩
end Go.Proofs.Ytdoennkmcloalaa

/-
  RunsAll: its walk.
-/
import Derived.Test.YtnigikccijjihaaRunsT
import Derived.Test.YtnigikccijjihaaIn
import Derived.Test.YtnigikccijjihaaEq
set_option linter.unusedSimpArgs false
namespace Go.Proofs.Ytnigikccijjihaa
open Go.RowKit Ev
theorem namesOkR : Ev.namesOk Try.prog = true := by kernel_rfl
theorem mixesR : Try.prog.follows .mixedOrders = true := by kernel_rfl
theorem ranRuns : Ev.yesQ Try.prog 100000 79 = true := by kernel_rfl
theorem runsAwake (W : World) : Calls Try.prog 79 #[] W fun e W' => e = .returned (.bool true) ∧ Below W.heap.size W W' := Ev.yesQ_ok namesOkR mixesR ranRuns W
def fine (r : Rn) : Prop := 1 ≤ r.2 ∧ r.2 ≤ 50 ∧ 0 ≤ r.1 ∧ r.1 ≤ 1000
theorem fine_cnt {r : Rn} (h : fine r) : cnt r = true := by
  obtain ⟨h1, h2, h3, h4⟩ := h
  simp only [cnt, Bool.and_eq_true, decide_eq_true_eq]
  omega
theorem atK_app : ∀ (A : List Rn) (r : Rn) (B : List Rn) (k : Int), (∀ q ∈ A, fine q) → 0 ≤ k → k < r.2 → atK (A ++ r :: B) (lens A + k) = some (r.1 + k)
  | [], r, B, k, _, h0, h1 => by simp [atK, lens, h1]
  | q :: A, r, B, k, hA, h0, h1 => by
    have hq := hA q (by simp)
    have hp := lens_pos A (fun u hu => fine_cnt (hA u (by simp [hu])))
    have he : lens (q :: A) = q.2 + lens A := by simp [lens]
    have ih := atK_app A r B k (fun u hu => hA u (by simp [hu])) h0 h1
    rw [List.cons_append, atK, if_neg (by rw [he]; omega), show lens (q :: A) + k - q.2 = lens A + k by rw [he]; omega]
    exact ih
theorem atK_end : ∀ (A : List Rn), (∀ q ∈ A, fine q) → atK A (lens A) = none
  | [], _ => rfl
  | q :: A, hA => by
    have hq := hA q (by simp)
    have hp := lens_pos A (fun u hu => fine_cnt (hA u (by simp [hu])))
    have he : lens (q :: A) = q.2 + lens A := by simp [lens]
    have ih := atK_end A (fun u hu => hA u (by simp [hu]))
    rw [atK, if_neg (by rw [he]; omega), show lens (q :: A) - q.2 = lens A by rw [he]; omega]
    exact ih
theorem lens_fine : ∀ (A : List Rn), (∀ q ∈ A, fine q) → lens A ≤ 50 * A.length
  | [], _ => by simp [lens]
  | q :: A, hA => by
    have hq := hA q (by simp)
    have he : lens (q :: A) = q.2 + lens A := by simp [lens]
    have ih := lens_fine A (fun u hu => hA u (by simp [hu]))
    obtain ⟨_, h2, _⟩ := hq
    rw [he, List.length_cons]
    omega
theorem filter_all {A : List Rn} (h : ∀ q ∈ A, fine q) : A.filter cnt = A := List.filter_eq_self.2 fun q hq => fine_cnt (h q hq)
def allO (st : St) (v : V) (L : List Rn) (e : Env) (s : St) : Prop := ∃ i, i ≤ L.length ∧ (∀ q ∈ L.take i, fine q) ∧ e.get 0 = some v ∧ e.get 3 = some (.int .i64 (lens (L.take i))) ∧ e.get 4 = some (.int .i64 (i : Int)) ∧ Ext st.nx st s
def allI (st : St) (v : V) (L : List Rn) (i : Nat) (N : Int) (e : Env) (s : St) : Prop := ∃ k : Nat, (k : Int) ≤ N ∧ e.get 0 = some v ∧ e.get 3 = some (.int .i64 (lens (L.take i) + k)) ∧ e.get 4 = some (.int .i64 (i : Int)) ∧ e.get 5 = some (.int .i64 (k : Int)) ∧ Ext st.nx st s
set_option maxHeartbeats 2000000 in
theorem g_RunsAll (st : St) (v : V) (L : List Rn) (hx : RdRow st v 2 L.length (cells L)) :
    Gd (lawC Try.prog 79 ⟨false, [], 0, 0⟩ 16 [v] st) fun r => r.1 = .bool true := by
  rw [Gd_lawC Try.func16 rfl]
  by_cases h8 : (8 : Int) < L.length
  · simp [evOp_call, sets, T.get_set, hx.lenS, h8]
  · have hL8 : L.length ≤ 8 := by omega
    simp [evOp_call, sets, T.get_set, hx.lenS, h8]
    refine Gd_loop (allO st v L) (fun e _ => muAt 4 L.length e) ?_ ?_
    · exact ⟨0, Nat.zero_le _, by simp, by simp [T.get_set], by simp [T.get_set, lens], by simp [T.get_set], Ext.refl _ _⟩
    · rintro e s ⟨i, hi, hf, h0, h3, h4, hs⟩
      have hxs := hx.keep (Nat.le_refl _) hs
      have hsn := hs.le
      by_cases hlt : i < L.length
      · have hlt' : (i : Int) < L.length := by omega
        obtain ⟨m, o, ty, sz, tr, hid, hm, hg, ho, hc⟩ := hxs.idx (st := s) un88 io87 hlt
        obtain ⟨⟨F, N⟩, hr⟩ : ∃ r, L[i]? = some r := ⟨_, List.getElem?_eq_getElem hlt⟩
        have hcl := cells_get L i _ hr
        have t0 : tr.get o = some (.int .i64 F) := hc 0 _ (by omega) hcl.1
        have t1 : tr.get (o + 1) = some (.int .i64 N) := hc 1 _ (by omega) hcl.2
        by_cases hfn : fine (F, N)
        · obtain ⟨c1, c2, c3, c4⟩ := hfn
          have d1 : ¬ N < 1 := by simp at c1; omega
          have d2 : ¬ 50 < N := by simp at c2; omega
          have d3 : ¬ F < 0 := by simp at c3; omega
          have d4 : ¬ 1000 < F := by simp at c4; omega
          have hN : 0 ≤ N := by omega
          have h4o := h4
          have hsplit : L.take i ++ (F, N) :: L.drop (i + 1) = L := by
            have h1 : L.drop i = (F, N) :: L.drop (i + 1) := by
              rw [List.drop_eq_getElem_cons hlt]
              congr 1
              rw [List.getElem?_eq_getElem hlt] at hr
              exact Option.some.inj hr
            rw [← h1, List.take_append_drop]
          have hfil : L.filter cnt = L.take i ++ (F, N) :: (L.drop (i + 1)).filter cnt := by
            have h1 : L.filter cnt = (L.take i ++ (F, N) :: L.drop (i + 1)).filter cnt := by rw [hsplit]
            rw [h1, List.filter_append, filter_all hf, List.filter_cons, if_pos (fine_cnt ⟨c1, c2, c3, c4⟩)]
          have hlb := lens_fine _ hf
          have hlb0 := lens_pos _ (fun q hq => fine_cnt (hf q hq))
          have hlen : (L.take i).length = i := by rw [List.length_take]; omega
          rw [hlen] at hlb
          simp [T.get_set, h0, h3, h4, hxs.lenS, hlt', hid, loadE_eq, getC_eq, hg, t0, t1, d1, d2, d3, d4]
          refine Gd_loop (allI st v L i N) (fun e _ => muAt 5 N.toNat e) ?_ ?_
          · exact ⟨0, by omega, by simp [T.get_set, h0], by simp [T.get_set, h3], by simp [T.get_set, h4], by simp [T.get_set], hs⟩
          · rintro e s ⟨k, hk, h0, h3, h4, h5, hs⟩
            have hxs := hx.keep (Nat.le_refl _) hs
            obtain ⟨m, o, ty, sz, tr, hid, hm, hg, ho, hc⟩ := hxs.idx (st := s) un88 io87 hlt
            have t1 : tr.get (o + 1) = some (.int .i64 N) := hc 1 _ (by omega) hcl.2
            by_cases hkN : (k : Int) < N
            · simp [evOp_call, T.get_set, h0, h3, h4, h5, hid, loadE_eq, getC_eq, hg, t1, hkN, oracF_cons]
              refine Gd.mono (at_any s v L (lens (L.take i) + k) _ hxs (by omega) (by omega) (by omega)) ?_
              rintro ⟨r, s3⟩ ⟨hr3, hs3⟩
              simp only at hr3 hs3
              rw [hfil, atK_app _ _ _ _ hf (by omega) hkN] at hr3
              subst hr3
              have hxs3 := hxs.ext hs3
              obtain ⟨m, o, ty, sz, tr, hid, hm, hg, ho, hc⟩ := hxs3.idx (st := s3) un88 io87 hlt
              have t0 : tr.get o = some (.int .i64 F) := hc 0 _ (by omega) hcl.1
              have w1 : IntKind.i64.wrap (F + k) = F + k := wrap_in (by omega) (by omega)
              have w2 : IntKind.i64.wrap (lens (L.take i) + k + 1) = lens (L.take i) + ((k + 1 : Nat) : Int) := by rw [wrap_in (by omega) (by omega)]; omega
              have w3 := wrap_nat (n := k) (by omega)
              simp [atV, T.get_set, h0, h3, h4, h5, hid, loadE_eq, getC_eq, hg, t0, w1, w2, w3]
              exact ⟨⟨k + 1, by omega, by simp [T.get_set, h0], by simp [T.get_set], by simp [T.get_set, h4], by simp [T.get_set], hs.trans (hs3.mono hs.le)⟩, muAt_lt h5 (by simp [T.get_set]) (by omega)⟩
            · have hkN' : (k : Int) = N := by omega
              have w1 := wrap_nat (n := i) (by omega)
              have hlt2 := lens_take L i _ hr
              simp [T.get_set, h0, h3, h4, h5, hid, loadE_eq, getC_eq, hg, t1, hkN, w1]
              refine ⟨⟨i + 1, hlt, fun q hq => ?_, by simp [T.get_set, h0], by simp [T.get_set, h3, hlt2, hkN'], by simp [T.get_set], hs⟩, muAt_lt h4o (by simp [T.get_set]) hlt⟩
              rw [List.take_add_one, hr] at hq
              simp at hq
              rcases hq with hq | rfl
              · exact hf q hq
              · exact ⟨c1, c2, c3, c4⟩
        · by_cases d1 : N < 1
          · simp [T.get_set, h0, h3, h4, hxs.lenS, hlt', hid, loadE_eq, getC_eq, hg, t0, t1, d1]
          · by_cases d2 : 50 < N
            · simp [T.get_set, h0, h3, h4, hxs.lenS, hlt', hid, loadE_eq, getC_eq, hg, t0, t1, d1, d2]
            · by_cases d3 : F < 0
              · simp [T.get_set, h0, h3, h4, hxs.lenS, hlt', hid, loadE_eq, getC_eq, hg, t0, t1, d1, d2, d3]
              · by_cases d4 : 1000 < F
                · simp [T.get_set, h0, h3, h4, hxs.lenS, hlt', hid, loadE_eq, getC_eq, hg, t0, t1, d1, d2, d3, d4]
                · exact absurd ⟨by simp; omega, by simp; omega, by simp; omega, by simp; omega⟩ hfn
      · obtain rfl : i = L.length := by omega
        rw [List.take_length] at hf h3
        have hfil := filter_all hf
        have hlb := lens_fine _ hf
        have hlb0 := lens_pos _ (fun q hq => fine_cnt (hf q hq))
        simp [evOp_call, T.get_set, h0, h3, h4, hxs.lenS, oracF_cons]
        refine Gd.mono (at_any s v L (lens L) _ hxs (by omega) (by omega) (by omega)) ?_
        rintro ⟨r, s3⟩ ⟨hr3, hs3⟩
        simp only at hr3 hs3
        rw [hfil, atK_end _ hf] at hr3
        subst hr3
        simp [evOp_call, atV, T.get_set, h0, h3, h4, oracF_cons]
        refine Gd.mono (total_any s3 v L _ (hxs.ext hs3) (by omega) (by rw [hfil]; omega)) ?_
        rintro ⟨r, s4⟩ ⟨hr4, hs4⟩
        simp only at hr4 hs4
        rw [hfil] at hr4
        subst hr4
        simp [T.get_set, h3]
/-- whatever runs came in -/
theorem w_RunsAll (L : List Rn) (W : World) (x : Value) (hx : InRow W x 2 L.length (cells L)) (_ : ∀ r ∈ L, (Lit.int .i64 r.1).wf = true ∧ (Lit.int .i64 r.2).wf = true) : Calls Try.prog 16 #[x] W fun e W' => e = .returned (.bool true) ∧ Below W.heap.size W W' := by
  obtain ⟨st, ρ, v, hb, _, hv, _, hr⟩ := (Begin.zero W).row hx
  exact law_calls (lawC_sound namesOkR mixesR Try.func79 rfl runsAwake) hb (.cons hv .nil) (g_RunsAll st v L hr)
end Go.Proofs.Ytnigikccijjihaa

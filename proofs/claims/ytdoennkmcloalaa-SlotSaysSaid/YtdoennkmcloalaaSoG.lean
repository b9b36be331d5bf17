/-
  The document's contracts: what a name is, what a slot may be.
-/
import Derived.Test.YtdoennkmcloalaaSoD
set_option linter.unusedSimpArgs false
set_option linter.unusedVariables false
namespace Go.Proofs.Ytdoennkmcloalaa
open Go.RowKit Ev
def snmI (st : St) (l : List Nat) (e : Env) (s : St) : Prop := ∃ j, j ≤ l.length ∧ e.get 0 = some (.s l) ∧ e.get 3 = some (.int .i64 (j : Int)) ∧ (∀ b ∈ l.take j, b ≠ 0 ∧ b ≠ 47) ∧ s = st
theorem snm_take {l : List Nat} {j b : Nat} (h : ∀ b ∈ l.take j, b ≠ 0 ∧ b ≠ 47) (hb : l[j]? = some b) (h0 : b ≠ 0) (h1 : b ≠ 47) : ∀ b ∈ l.take (j + 1), b ≠ 0 ∧ b ≠ 47 := by
  intro x hx
  rw [List.take_add_one, hb] at hx
  rcases List.mem_append.1 hx with hx | hx
  · exact h x hx
  · simp at hx; subst hx; exact ⟨h0, h1⟩
set_option maxRecDepth 20000 in
set_option maxHeartbeats 4000000 in
theorem rname_any (st : St) (l : List Nat) (hn : l.length ≤ 1000000) (nt : Nat) : Gd (callL Try.prog ⟨false, [], 0, nt⟩ 136 [.s l] st) fun r => r = (.bool (decide (soName l)), st) := by
  rw [Gd_callL Try.func136 rfl]
  have hwu : wantK true (some V.u) = false := rfl
  simp [evOp_call, sets, T.get_set]
  refine Gd_loop (snmI st l) (fun e _ => muAt 3 l.length e) ?_ ?_
  · exact ⟨0, Nat.zero_le _, by simp [T.get_set], by simp [T.get_set], by simp, rfl⟩
  · rintro e s ⟨j, hj, g0, g3, hp, rfl⟩
    by_cases hlt : j < l.length
    · have hlt' : (j : Int) < l.length := by omega
      have hw := wrap_nat (n := j) (by omega)
      obtain ⟨b, hb⟩ : ∃ b, l[j]? = some b := ⟨_, List.getElem?_eq_getElem hlt⟩
      have hm : b ∈ l := List.mem_of_getElem? hb
      by_cases h0 : b = 0
      · subst h0
        have : ¬ soName l := fun h => h.2.2.2 hm
        simp [evOp_call, T.get_set, g0, g3, len_str un9, hlt', indexK_str un9 l j 0 hb, this]
      have h0' : ¬ (b : Int) = 0 := by omega
      by_cases h1 : b = 47
      · subst h1
        have : ¬ soName l := fun h => h.2.2.1 hm
        simp [evOp_call, T.get_set, g0, g3, len_str un9, hlt', indexK_str un9 l j 47 hb, this]
      have h1' : ¬ (b : Int) = 47 := by omega
      simp [evOp_call, T.get_set, g0, g3, len_str un9, hlt', indexK_str un9 l j b hb, h0, h0', h1, h1', hw]
      exact ⟨⟨j + 1, by omega, by simp [T.get_set, g0], by simp [T.get_set], snm_take hp hb h0 h1, rfl⟩, muAt_lt g3 (by simp [T.get_set]) hlt⟩
    · obtain rfl : j = l.length := by omega
      rw [List.take_length] at hp
      have n47 : 47 ∉ l := fun h => (hp _ h).2 rfl
      have n0 : 0 ∉ l := fun h => (hp _ h).1 rfl
      by_cases a3 : l.length < 1
      · have a3' : ¬ (1 : Int) ≤ l.length := by omega
        have : ¬ soName l := fun h => by have := h.1.1; omega
        simp [evOp_call, T.get_set, g0, g3, len_str un9, a3, a3', hwu, this]
      have a3' : (1 : Int) ≤ l.length := by omega
      by_cases a4 : 40 < l.length
      · have a4' : ¬ (l.length : Int) ≤ 40 := by omega
        have : ¬ soName l := fun h => by have := h.1.2; omega
        simp [evOp_call, T.get_set, g0, g3, len_str un9, a3, a3', a4, a4', hwu, this]
      have a4' : (l.length : Int) ≤ 40 := by omega
      by_cases a5 : l = [46]
      · have : ¬ soName l := fun h => h.2.1.1 a5
        subst a5
        simp [evOp_call, T.get_set, g0, g3, len_str un9, hwu, this]
      by_cases a6 : l = [46, 46]
      · have : ¬ soName l := fun h => h.2.1.2 a6
        subst a6
        simp [evOp_call, T.get_set, g0, g3, len_str un9, hwu, this]
      have : soName l := ⟨⟨by omega, by omega⟩, ⟨a5, a6⟩, n47, n0⟩
      simp [evOp_call, T.get_set, g0, g3, len_str un9, a3, a3', a4, a4', a5, a6, hwu, this]

set_option maxRecDepth 20000 in
set_option maxHeartbeats 4000000 in
theorem rgoodS_any (st : St) (s : So) (hn : s.l.length ≤ 1000000) (nt : Nat) : Gd (callL Try.prog ⟨false, [], 0, nt⟩ 54 [soV s] st) fun r => r.1 = .bool (decide (soGood s)) ∧ Ext st.nx st r.2 := by
  rw [Gd_callL Try.func54 rfl]
  have hcell : ∀ k : List V → Res, cellsOf (soV s) k = k [.int .i64 s.n, .s s.l] := fun k => rfl
  have hwu : wantK true (some V.u) = false := rfl
  have hwf : wantK false (some V.u) = false := rfl
  have hbx := fun v => bx_ext st v
  simp [hcell, evOp_call, sets, T.get_set, newC_is, loadE_eq, getC_eq, getsB_succ, getsB_zero]
  by_cases h0 : s.n = 0
  · have nf : ¬ soFull s := fun h => by have := h.1.1; omega
    by_cases h1 : s.l = []
    · have hg : soGood s := .inl ⟨h0, h1⟩
      simp [evOp_call, T.get_set, loadE_eq, getC_eq, h0, h1, hg, hwu, hwf]
      exact hbx _
    · have hg : ¬ soGood s := fun h => h.elim (fun h => h1 h.2) nf
      simp [evOp_call, T.get_set, loadE_eq, getC_eq, h0, h1, hg, hwu, hwf]
      exact hbx _
  have nn : ¬ soNone s := fun h => h0 h.1
  by_cases a1 : s.n < 1
  · have a1' : ¬ 1 ≤ s.n := by omega
    have hg : ¬ soGood s := fun h => h.elim nn (fun h => by have := h.1.1; omega)
    simp [evOp_call, T.get_set, loadE_eq, getC_eq, h0, a1, a1', hg, hwu, hwf]
    exact hbx _
  have a1' : 1 ≤ s.n := by omega
  by_cases a2 : 64 < s.n
  · have a2' : ¬ s.n ≤ 64 := by omega
    have hg : ¬ soGood s := fun h => h.elim nn (fun h => by have := h.1.2; omega)
    simp [evOp_call, T.get_set, loadE_eq, getC_eq, h0, a1, a1', a2, a2', hg, hwu, hwf]
    exact hbx _
  have a2' : s.n ≤ 64 := by omega
  simp [evOp_call, T.get_set, loadE_eq, getC_eq, h0, a1, a1', a2, a2', hwu, hwf]
  refine Gd.mono (rname_any _ s.l hn _) ?_
  rintro _ rfl
  have hd : decide (soName s.l) = decide (soGood s) := by
    by_cases h : soName s.l
    · rw [decide_eq_true h]; exact (decide_eq_true (.inr ⟨⟨by omega, by omega⟩, h⟩)).symm
    · rw [decide_eq_false h]; exact (decide_eq_false (fun hg => hg.elim nn fun hf => h hf.2)).symm
  rw [hd]
  simp [evOp_call, T.get_set]
  exact hbx _
end Go.Proofs.Ytdoennkmcloalaa

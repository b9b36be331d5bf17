/-
  Contracts of package slot: what may be; its words.
-/
import Derived.Test.YtdoennkmcloalaaSoA
import Derived.Test.YtdoennkmcloalaaSoP
import Derived.Test.YtdoennkmcloalaaEqW
set_option linter.unusedSimpArgs false
set_option linter.unusedVariables false
namespace Go.Proofs.Ytdoennkmcloalaa
open Go.RowKit Ev
/-! ### structs with a text compared -/
theorem pr_str {P : Program} (d : Nat) {t : TypeId} (a b : ByteArray) (h : P.underlying t = some .string) : pureRun P (Op.equalIn (d + 1) t (.string a) (.string b)) = some (a == b) := by
  unfold Op.equalIn
  rw [pr_bind (pr_underlying h)]
  simp [pr_pure]
theorem fieldEq_str {P : Program} {d : Nat} {xs ys : Array Value} {f : Field} {a b : ByteArray} (hn : f.name ≠ "_") (hu : P.underlying f.type = some .string) (hx : xs[f.offset]? = some (.string a)) (hy : ys[f.offset]? = some (.string b)) : FieldEq P (d + 1) xs ys f (a == b) := by
  have hp : ∀ (cs : Array Value) v, cs[f.offset]? = some v → pureRun P (part f.type cs f.offset) = some v := fun cs v hv => by
    unfold part isAgg
    rw [pr_bind (a := false) (by rw [pr_bind (pr_underlying hu)]; rfl)]
    simp only [hv]
    rfl
  exact ⟨hn, _, _, hp xs _ hx, hp ys _ hy, pr_str d a b hu⟩
theorem text_inj {l m : List Nat} (hl : ∀ b ∈ l, b < 256) (hm : ∀ b ∈ m, b < 256) : (((⟨⟨l.map UInt8.ofNat⟩⟩ : ByteArray) == ⟨⟨m.map UInt8.ofNat⟩⟩) : Bool) = decide (l = m) := by
  have e0 : ((⟨⟨l.map UInt8.ofNat⟩⟩ : ByteArray) == ⟨⟨m.map UInt8.ofNat⟩⟩) = ((⟨l.map UInt8.ofNat⟩ : Array UInt8) == ⟨m.map UInt8.ofNat⟩) := rfl
  rw [e0, Bool.eq_iff_iff]
  simp only [beq_iff_eq, decide_eq_true_eq]
  constructor
  · intro h
    injection h with h
    have := congrArg (List.map UInt8.toNat) h
    rw [List.map_map, List.map_map] at this
    have e : ∀ {k : List Nat}, (∀ b ∈ k, b < 256) → k.map (UInt8.toNat ∘ UInt8.ofNat) = k := fun {k} hk => by
      conv => rhs; rw [← List.map_id k]
      apply List.map_congr_left
      intro x hx
      have := hk x hx
      simp; omega
    rw [e hl, e hm] at this
    exact this
  · rintro rfl; rfl
theorem eqlSlot (st : St) (x y : Operand) (a b : Int) {l m : List Nat} (hl : ∀ b ∈ l, b < 256) (hm : ∀ b ∈ m, b < 256) : binE Try.prog st .eql 63 x y (.g [.int .i64 a, .s l]) (.g [.int .i64 b, .s m]) = some (.bool (decide (a = b ∧ l = m)), st) := by
  have := eql_struct (st := st) (x := x) (y := y) (l := [.int .i64 a, .s l]) (l' := [.int .i64 b, .s m]) (xs := [.int .i64 a, .string ⟨⟨l.map UInt8.ofNat⟩⟩]) (ys := [.int .i64 b, .string ⟨⟨m.map UInt8.ofNat⟩⟩]) Try.underlying63 (by kernel_rfl) (by kernel_rfl) rfl rfl
    (.cons (.int (d := 9998) (by decide) Try.underlying3 rfl rfl) (.cons (fieldEq_str (d := 9998) (by decide) Try.underlying9 rfl rfl) .nil))
  have he : ([a == b, ((⟨⟨l.map UInt8.ofNat⟩⟩ : ByteArray) == ⟨⟨m.map UInt8.ofNat⟩⟩)].all id) = decide (a = b ∧ l = m) := by
    rw [text_inj hl hm]
    have h1 : (a == b) = decide (a = b) := by by_cases e : a = b <;> simp [e]
    rw [h1]; simp
  rw [he] at this
  exact this
def soV (s : So) : V := .g [.int .i64 s.n, .s s.l]
set_option maxRecDepth 20000 in
set_option maxHeartbeats 4000000 in
theorem sgood_any (st : St) (s : So) (hb : ∀ b ∈ s.l, b < 256) (nt : Nat) : Gd (callL Try.prog ⟨false, [], 0, nt⟩ 53 [soV s] st) fun r => r.1 = .bool (decide (soGood s)) ∧ Ext st.nx st r.2 := by
  rw [Gd_callL Try.func53 rfl]
  have hcell : ∀ k : List V → Res, cellsOf (soV s) k = k [.int .i64 s.n, .s s.l] := fun k => rfl
  have hwu : wantK true (some V.u) = false := rfl
  have he0 := eqlSlot (l := s.l) (m := []) ⟨st.nx + 1, st.h.set st.nx (.cs 63 2 ((T.lf.set 0 (.int .i64 s.n)).set 1 (.s s.l)))⟩ (.tmp 3) (.tmp 4) s.n 0 hb (fun b hb => by cases hb)
  have hbx := fun v => bx_ext st v
  simp [hcell, evOp_call, sets, T.get_set, newC_is, loadE_eq, getC_eq, getsB_succ, getsB_zero]
  rw [he0]
  by_cases h0 : s.n = 0 ∧ s.l = []
  · have hg : soGood s := .inl h0
    simp [evOp_call, T.get_set, h0, hg]
    exact hbx _
  have hsp : ([47, 0] : List Nat) = sep := rfl
  have ng : ¬ soFull s → ¬ soGood s := fun h hg => by
    rcases hg with hg | hg
    · exact h0 hg
    · exact h hg
  simp only [h0, decide_false]
  by_cases a1 : s.n < 1
  · simp [evOp_call, T.get_set, loadE_eq, getC_eq, hwu, a1, ng fun h => by have := h.1.1; omega]
    exact hbx _
  by_cases a2 : 64 < s.n
  · simp [evOp_call, T.get_set, loadE_eq, getC_eq, hwu, a1, a2, ng fun h => by have := h.1.2; omega]
    exact hbx _
  by_cases a3 : s.l.length < 1
  · have a3' : (s.l.length : Int) < 1 := by omega
    have a3'' : s.l = [] := List.eq_nil_of_length_eq_zero (by omega)
    simp [evOp_call, T.get_set, loadE_eq, getC_eq, hwu, a1, a2, len_str un9, a3, a3', a3'', ng fun h => by have := h.2.1.1; omega]
    exact hbx _
  have a3' : ¬ (s.l.length : Int) < 1 := by omega
  have a3'' : ¬ s.l = [] := fun h => a3 (by rw [h]; decide)
  by_cases a4 : 40 < s.l.length
  · have a4' : (40 : Int) < s.l.length := by omega
    simp [evOp_call, T.get_set, loadE_eq, getC_eq, hwu, a1, a2, len_str un9, a3', a3'', a4, a4', ng fun h => by have := h.2.1.2; omega]
    exact hbx _
  have a4' : ¬ (40 : Int) < s.l.length := by omega
  by_cases a5 : s.l = [46]
  · simp [evOp_call, T.get_set, loadE_eq, getC_eq, hwu, a1, a2, len_str un9, a3', a3'', a4, a4', a5, ng fun h => h.2.2.1.1 a5]
    exact hbx _
  by_cases a6 : s.l = [46, 46]
  · simp [evOp_call, T.get_set, loadE_eq, getC_eq, hwu, a1, a2, len_str un9, a3', a3'', a4, a4', a5, a6, ng fun h => h.2.2.1.2 a6]
    exact hbx _
  simp [evOp_call, T.get_set, loadE_eq, getC_eq, hwu, a1, a2, len_str un9, a3', a3'', a4, a4', a5, a6]
  rw [hsp]
  refine Gd.mono (contains_any _ s.l hb (by omega) _) ?_
  rintro ⟨r, s1⟩ ⟨hr, x1⟩
  simp only at hr x1
  subst hr
  have hd : decide (soGood s) = !decide (47 ∈ s.l ∨ 0 ∈ s.l) := by
    by_cases h : 47 ∈ s.l ∨ 0 ∈ s.l
    · rw [decide_eq_true h]
      exact decide_eq_false (ng fun hf => h.elim hf.2.2.2.1 hf.2.2.2.2)
    · rw [decide_eq_false h]
      exact decide_eq_true (.inr ⟨⟨by omega, by omega⟩, ⟨by omega, by omega⟩, ⟨a5, a6⟩, fun h1 => h (.inl h1), fun h1 => h (.inr h1)⟩)
  rw [hd]
  simp [evOp_call, T.get_set]
  exact (hbx _).trans (x1.mono (Nat.le_succ _))
end Go.Proofs.Ytdoennkmcloalaa

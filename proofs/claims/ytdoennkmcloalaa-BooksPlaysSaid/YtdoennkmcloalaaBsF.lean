/-
  The law BooksOrder, walked.
-/
import Derived.Test.YtdoennkmcloalaaBsE
set_option linter.unusedSimpArgs false
namespace Go.Proofs.Ytdoennkmcloalaa
open Go.RowKit Ev
theorem bsRan : Ev.yesQ Try.prog 100000 97 = true := by kernel_rfl
theorem bsAwake (w : World) : Calls Try.prog 97 #[] w fun e w' => e = .returned (.bool true) ∧ Below w.heap.size w w' := Ev.yesQ_ok namesOkB mixesB bsRan w
@[simp] theorem bks_eqlnil (st : St) (x y : Operand) (n : Nat) : binE Try.prog st .eql 145 x y (.p n 0) (.c (.pointer none)) = some (.bool false, st) := by kernel_rfl
theorem and3 (P : Program) (st : St) (t : TypeId) (x y : Operand) (a : Int) : ∃ c : Nat, c < 4 ∧ binE P st .and t x y (.int .i64 a) (.int .i64 3) = some (.int .i64 (c : Int), st) := by
  have key : ∀ c : Nat, c < 4 → binI .and .i64 a 3 = some (.int .i64 (IntKind.i64.wrap (c : Int))) → binE P st .and t x y (.int .i64 a) (.int .i64 3) = some (.int .i64 (c : Int), st) := fun c hc h => by
    have hw : IntKind.i64.wrap (c : Int) = c := wrap_in (by omega) (by omega)
    rw [hw] at h
    simp [binE, eqKd, h, ofV, fA, ret]
  have hland : ∀ n : Nat, Nat.land 3 n < 4 := fun n => Nat.lt_of_le_of_lt (Nat.and_le_left (n := 3) (m := n)) (by omega)
  cases a with
  | ofNat n =>
    refine ⟨Nat.land n 3, Nat.lt_of_le_of_lt (Nat.and_le_right (n := n) (m := 3)) (by omega), key _ (Nat.lt_of_le_of_lt (Nat.and_le_right (n := n) (m := 3)) (by omega)) ?_⟩
    show some (Value.int .i64 (wr .i64 _)) = _
    rw [wr_eq]; rfl
  | negSucc n =>
    have hx : Nat.xor 3 (Nat.land 3 n) < 4 := Nat.xor_lt_two_pow (n := 2) (by omega) (hland n)
    refine ⟨Nat.xor 3 (Nat.land 3 n), hx, key _ hx ?_⟩
    show some (Value.int .i64 (wr .i64 _)) = _
    rw [wr_eq]; rfl
/-- a record put in its place -/
theorem filt_set : ∀ {H : List (Option RecW)} {i : Nat} {r : RecW}, H[i]? = some none → ((H.set i (some r)).filterMap id).Perm (H.filterMap id ++ [r])
  | [], i, r, h => by simp at h
  | h0 :: H, 0, r, h => by
    simp at h
    subst h
    simp only [List.set_cons_zero, List.filterMap_cons, id]
    exact (List.perm_append_singleton r _).symm
  | h0 :: H, i + 1, r, h => by
    have ih := filt_set (H := H) (i := i) (r := r) (by simpa using h)
    simp only [List.set_cons_succ, List.filterMap_cons, id]
    cases h0 with
    | none => exact ih
    | some x => exact ih.cons x
/-- the records kept, in order -/
structure Kpt (H : List (Option RecW)) (kept : List Int) (P : List RecW) : Prop where
  perm : (H.filterMap id).Perm P
  len : P.length = kept.length
  each : ∀ (j : Nat) r, P[j]? = some r → r.1 = BitVec.ofNat 64 (j + 1) ∧ ∃ c v, kept[j]? = some c ∧ r.2 = [(c, v)]
theorem Kpt.add {H : List (Option RecW)} {kept : List Int} {P : List RecW} (h : Kpt H kept P) {i : Nat} {c : Int} {v : BitVec 64} (hi : H[i]? = some none) : Kpt (H.set i (some (BitVec.ofNat 64 (kept.length + 1), [(c, v)]))) (kept ++ [c]) (P ++ [(BitVec.ofNat 64 (kept.length + 1), [(c, v)])]) := by
  refine ⟨(filt_set hi).trans (h.perm.append_right _), by simp [h.len], fun j r hj => ?_⟩
  by_cases e : j < P.length
  · rw [List.getElem?_append_left e] at hj
    obtain ⟨h1, c', v', h2, h3⟩ := h.each j r hj
    exact ⟨h1, c', v', by rw [List.getElem?_append_left (by rw [← h.len]; exact e)]; exact h2, h3⟩
  · have hjl := lt_of_get hj
    simp at hjl
    have e' : j = P.length := by omega
    subst e'
    rw [List.getElem?_append_right (Nat.le_refl _), Nat.sub_self] at hj
    simp at hj
    subst hj
    exact ⟨by rw [h.len], c, v, by rw [h.len, List.getElem?_append_right (Nat.le_refl _)]; simp, rfl⟩
theorem Kpt.sorted {H : List (Option RecW)} {kept : List Int} {P : List RecW} (h : Kpt H kept P) (hl : kept.length ≤ 1000) {E : List RcE} (hp : (E.map recOf).Perm (H.filterMap id)) (hs : Srt E E.length) : E.map recOf = P := by
  have key : ∀ (j : Nat) r, P[j]? = some r → r.1.toNat = j + 1 := fun j r hj => by
    have hjl := lt_of_get hj
    have := h.len
    rw [(h.each j r hj).1, BitVec.toNat_ofNat]
    omega
  refine List.Perm.eq_of_pairwise (le := fun a b : RecW => a.1.toNat ≤ b.1.toNat) (fun a b ha hb h1 h2 => ?_) ?_ ?_ (hp.trans h.perm)
  · have ha' := (hp.trans h.perm).mem_iff.1 ha
    obtain ⟨i, hi⟩ := List.getElem?_of_mem ha'
    obtain ⟨j, hj⟩ := List.getElem?_of_mem hb
    have e1 := key i a hi
    have e2 := key j b hj
    have : i = j := by omega
    subst this
    rw [hi] at hj
    injection hj
  · rw [List.pairwise_iff_getElem]
    intro i j hi hj hij
    simp at hi hj
    have := hs i j hij hj
    unfold ky at this
    rw [List.getElem?_eq_getElem hi, List.getElem?_eq_getElem hj] at this
    simpa [recOf] using this
  · rw [List.pairwise_iff_getElem]
    intro i j hi hj hij
    have e1 := key i _ (List.getElem?_eq_getElem hi)
    have e2 := key j _ (List.getElem?_eq_getElem hj)
    omega
theorem MLive.bs {st s s' : St} {q p : Nat} {v v' : MV} (h : MLive st s q v) (k : BsStep q p v v' s s') (hp : ¬ MOw q v p) (h1 : st.nx ≤ p) (h2 : p < s.nx) : MLive st s' q v' := by
  obtain ⟨s1, k1, rfl | ⟨t, rfl⟩⟩ := k
  · exact h.step k1
  · exact (h.step k1).poke (k1.not_own hp h2) h1 (Nat.lt_of_lt_of_le h2 k1.kept.le) t
theorem RowAp.bs {s s' : St} {q p z n : Nat} {v v' : MV} {x : V} {l : List V} (h : RowAp s q v x z n l) (k : BsStep q p v v' s s') (hp : ¬ Nm x p) : RowAp s' q v' x z n l := by
  obtain ⟨s1, k1, rfl | ⟨t, rfl⟩⟩ := k
  · exact h.step k1
  · exact (h.step k1).poke hp t
theorem BsStep.le {s s' : St} {q p : Nat} {v v' : MV} (k : BsStep q p v v' s s') : s.nx ≤ s'.nx := by
  obtain ⟨s1, k1, rfl | ⟨t, rfl⟩⟩ := k
  · exact k1.kept.le
  · exact k1.kept.le
/-- a row of one's own through such a step -/
theorem Ev.OwnRow.bs {b : Nat} {s s' : St} {q p z n : Nat} {v v' : MV} {x : V} {l : List V} (h : OwnRow b s x z n l) (k : BsStep q p v v' s s') (hx : ∀ j, Nm x j → ¬ MOw q v j ∧ j ≠ p) : OwnRow b s' x z n l := by
  obtain ⟨s1, k1, hor⟩ := k
  obtain ⟨h1, h2⟩ := h
  refine ⟨h1, ?_⟩
  rcases h2 with h2 | ⟨m, ty, t, h2, h3, h4, h5, h6⟩
  · exact .inl h2
  · obtain ⟨a1, a2⟩ := hx m (by rw [h2]; exact .inl ⟨_, _, _, rfl⟩)
    have g1 := (k1.kept.keep m h4 a1).trans h5
    have l1 := Nat.lt_of_lt_of_le h4 k1.kept.le
    refine .inr ⟨m, ty, t, h2, h3, ?_, ?_, h6⟩
    · rcases hor with rfl | ⟨w, rfl⟩
      · exact l1
      · exact l1
    · rcases hor with rfl | ⟨w, rfl⟩
      · exact g1
      · exact (T.get_set_ne _ _ (fun e => a2 e.symm)).trans g1
end Go.Proofs.Ytdoennkmcloalaa

/-
  PLAIN: nodes read back, and altered.
-/
import Derived.Test.YtdoennkmcloalaaNdP
set_option linter.unusedSimpArgs false
namespace Go.Proofs.Ytdoennkmcloalaa
open Go.RowKit Ev
theorem wat_drop (L : List (BitVec 64)) (h : L.length = 8) : (L.drop 2).take 4 = [wat L 2, wat L 3, wat L 4, wat L 5] := by
  match L, h with
  | [a, b, c, d, e, f, g, i], _ => rfl
theorem filt_pk : ∀ (R : List (Int × Int)) (n : Nat), (∀ r ∈ R, okRun r) → ((R.map pkR ++ List.replicate n 0#64).filter fun w => decide (w ≠ 0#64)).map unR = R
  | [], n, _ => by simp
  | r :: R, n, h => by
    obtain ⟨h1, h2⟩ := unR_pk (h r (by simp))
    have ih := filt_pk R n fun q hq => h q (by simp [hq])
    have e : (((r :: R).map pkR ++ List.replicate n 0#64).filter fun w => decide (w ≠ 0#64)) = pkR r :: ((R.map pkR ++ List.replicate n 0#64).filter fun w => decide (w ≠ 0#64)) := by
      rw [List.map_cons, List.cons_append, List.filter_cons_of_pos (by simpa using h2)]
    rw [e, List.map_cons, h1, ih]
theorem readR_put {N : Nd} (h : fitsT N) : readR (putN N) 4 = N.R := by
  obtain ⟨h1, h2, h3, h4, h5⟩ := h
  obtain ⟨w1, _, _⟩ := putN_wat (N := N) ⟨h1, h2, h3, h4, h5⟩
  have h8 := (putN_t (N := N) ⟨h1, h2, h3, h4, h5⟩).2
  unfold readR
  have hf := filt_pk N.R (4 - N.R.length) h5
  rw [wat_drop _ h8]
  conv => rhs; rw [← hf]
  congr 2
  apply List.ext_getElem?
  intro i
  have g : ∀ i, i < 4 → wat (putN N) (2 + i) = if i < N.R.length then pkR (N.R[i]?.getD (0, 0)) else 0#64 := fun i hi => by
    rw [w1 _ (by omega)]
    unfold bodyN
    rw [runsN_get N _ _ (by omega) h4, if_neg (by omega), if_neg (by omega), show 2 + i - 2 = i by omega]
    by_cases hk : i < N.R.length
    · rw [if_pos (by omega), if_pos hk]
    · rw [if_neg (by omega), if_neg hk]
  have r : ∀ i, i < 4 → (N.R.map pkR ++ List.replicate (4 - N.R.length) 0#64)[i]? = some (if i < N.R.length then pkR (N.R[i]?.getD (0, 0)) else 0#64) := fun i hi => by
    by_cases hk : i < N.R.length
    · rw [List.getElem?_append_left (by simpa using hk), if_pos hk, List.getElem?_map, List.getElem?_eq_getElem hk]; rfl
    · rw [List.getElem?_append_right (by simpa using Nat.le_of_not_lt hk), if_neg hk, List.getElem?_replicate, if_pos (by simp; omega)]
  by_cases hi : i < 4
  · rw [r i hi, ← g i hi]
    rcases (by omega : i = 0 ∨ i = 1 ∨ i = 2 ∨ i = 3) with rfl | rfl | rfl | rfl <;> rfl
  · rw [List.getElem?_eq_none (by simp; omega), List.getElem?_eq_none (by simp; omega)]
theorem readN_put {N : Nd} (h : fitsT N) : readN (putN N) = N := by
  have hR := readR_put h
  obtain ⟨h1, h2, h3, h4, h5⟩ := h
  obtain ⟨w1, _, _⟩ := putN_wat (N := N) ⟨h1, h2, h3, h4, h5⟩
  obtain ⟨u1, u2, _⟩ := unH_pk (N := N) ⟨by omega, by omega⟩ h2
  have e0 : wat (putN N) 0 = pkH N := by rw [w1 0 (by omega)]; unfold bodyN; rw [runsN_get N _ _ (by omega) h4, if_pos rfl]
  have e1 : wat (putN N) 1 = BitVec.ofInt 64 N.s := by rw [w1 1 (by omega)]; unfold bodyN; rw [runsN_get N _ _ (by omega) h4, if_neg (by omega), if_pos rfl]
  unfold readN
  rw [hR, e0, e1, u1, u2, toInt_small h3.1 (by omega)]
theorem getNd_put {N : Nd} (h : fitsN N) : getNd (putN N) = some N := by
  by_cases ht : N.t = 0
  · have hn : noneN N := by unfold fitsN at h; rw [if_pos ht] at h; exact h
    have hp : putN N = List.replicate 8 0#64 := by unfold putN; rw [if_pos h, if_pos ht]
    have hN : N = ⟨0, 0, 0, []⟩ := by
      obtain ⟨t, l, s, R⟩ := N
      obtain ⟨n1, n2, n3⟩ := hn
      simp only at ht n1 n2 n3
      have := List.length_eq_zero_iff.1 n3
      subst ht; subst n1; subst n2; subst this; rfl
    rw [hp, hN]
    decide +kernel
  · have hf : fitsT N := by unfold fitsN at h; rw [if_neg ht] at h; exact h
    unfold getNd
    rw [readN_put hf, if_pos ⟨(putN_t hf).2, rfl⟩]
theorem putN_bad {N : Nd} (h : ¬ fitsN N) : putN N = [] := by unfold putN; rw [if_neg h]
theorem putN_len (N : Nd) : (putN N).length = if fitsN N then 8 else 0 := by
  unfold putN
  by_cases h : fitsN N
  · rw [if_pos h, if_pos h]
    split
    · simp
    · rw [List.length_set]; exact runsN_length N _
  · rw [if_neg h, if_neg h]; rfl
/-- the seal of a head alone -/
theorem seal_head {N : Nd} (h1 : 1 ≤ N.t ∧ N.t ≤ 3) (h2 : 0 ≤ N.l ∧ N.l ≤ 16777215) (hz : slOf (pkH N :: List.replicate 6 0#64) = 0#64) : False := by
  have h0 : slOf ([15194275200750469848#64] ++ List.replicate 6 0#64) = 0#64 := by decide +kernel
  have hu := (unH_pk (N := N) ⟨by omega, by omega⟩ h2).2.2
  by_cases hv : 15194275200750469848#64 ^^^ pkH N = 0#64
  · have : pkH N = 15194275200750469848#64 := (xor_left (c := 15194275200750469848#64) (a := pkH N) (b := 15194275200750469848#64) (by rw [hv]; simp))
    rw [this] at hu
    simp at hu
    omega
  · refine slOf_set_ne ([15194275200750469848#64] ++ List.replicate 6 0#64) 0 (15194275200750469848#64 ^^^ pkH N) (by simp) hv ?_
    rw [h0]
    show slOf ((15194275200750469848#64 ^^^ (15194275200750469848#64 ^^^ pkH N)) :: List.replicate 6 0#64) = 0#64
    rw [← BitVec.xor_assoc, BitVec.xor_self, BitVec.zero_xor]; exact hz
theorem getNd_alt {N : Nd} (v : BitVec 64) (h : fitsT N) (hv : v ≠ 0#64) {i : Nat} (hi : i < 8) : getNd ((putN N).set i (wat (putN N) i ^^^ v)) = none := by
  obtain ⟨p1, p8⟩ := putN_t h
  obtain ⟨w1, w7, t7⟩ := putN_wat h
  unfold getNd
  rw [if_neg]
  rintro ⟨_, e⟩
  generalize hq : readN ((putN N).set i (wat (putN N) i ^^^ v)) = M at e
  have hM : fitsN M := by
    by_cases hb : fitsN M
    · exact hb
    · rw [putN_bad hb] at e
      have := congrArg List.length e
      simp [p8] at this
  have hw : ∀ j, wat (putN M) j = if j = i then wat (putN N) i ^^^ v else wat (putN N) j := fun j => by
    rw [e]; unfold wat
    by_cases hj : j = i
    · subst hj; rw [if_pos rfl, List.getElem?_set_self (by omega)]; rfl
    · rw [if_neg hj, List.getElem?_set_ne (fun h => hj h.symm)]
  by_cases ht : M.t = 0
  · have hz : putN M = List.replicate 8 0#64 := by unfold putN; rw [if_pos hM, if_pos ht]
    have z : ∀ j, wat (putN M) j = 0#64 := fun j => by
      rw [hz]; unfold wat; rw [List.getElem?_replicate]; split <;> rfl
    have e0 : wat (putN N) 0 = pkH N := by rw [w1 0 (by omega)]; unfold bodyN; rw [runsN_get N _ _ (by omega) h.2.2.2.1, if_pos rfl]
    by_cases h0 : i = 0
    · subst h0
      have o : ∀ j, j ≠ 0 → wat (putN N) j = 0#64 := fun j hj => by have := hw j; rw [if_neg hj, z] at this; exact this.symm
      have ht7 : (putN N).take 7 = pkH N :: List.replicate 6 0#64 := by
        match hL : putN N, p8 with
        | [a, b, c, d, f, g, k, m], _ =>
          rw [hL] at o e0
          have o1 := o 1 (by omega); have o2 := o 2 (by omega); have o3 := o 3 (by omega); have o4 := o 4 (by omega); have o5 := o 5 (by omega); have o6 := o 6 (by omega)
          simp [wat] at o1 o2 o3 o4 o5 o6 e0
          subst o1 o2 o3 o4 o5 o6
          rw [e0]; rfl
      refine seal_head h.1 h.2.1 ?_
      rw [← ht7, ← w7]
      exact o 7 (by omega)
    · have := hw 0
      rw [if_neg (fun h => h0 h.symm), z, e0] at this
      have hu := (unH_pk (N := N) ⟨by have := h.1; omega, h.1.2⟩ h.2.1).2.2
      rw [← this] at hu
      have := h.1.1
      simp at hu
      omega
  · have hT : fitsT M := by unfold fitsN at hM; rw [if_neg ht] at hM; exact hM
    obtain ⟨_, m7, _⟩ := putN_wat hT
    by_cases h7 : i = 7
    · subst h7
      have e7 : (putN M).take 7 = (putN N).take 7 := by rw [e, List.take_set, List.set_eq_of_length_le (by simp; omega)]
      have := hw 7
      rw [if_pos rfl, m7, e7, w7] at this
      exact hv (xor_left (c := slOf ((putN N).take 7)) (a := v) (b := 0#64) (by rw [← this]; simp))
    · have e7 : (putN M).take 7 = ((putN N).take 7).set i (((putN N).take 7)[i]?.getD 0#64 ^^^ v) := by
        rw [e, List.take_set, List.getElem?_take_of_lt (by omega)]; rfl
      have := hw 7
      rw [if_neg (fun h => h7 h.symm), m7, w7, e7] at this
      exact slOf_set_ne ((putN N).take 7) i v (by simp [p8]; omega) hv this
end Go.Proofs.Ytdoennkmcloalaa

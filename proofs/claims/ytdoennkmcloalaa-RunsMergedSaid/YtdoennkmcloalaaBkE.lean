/-
  PLAIN and walks: boxes beside a memory; what came in as writes; what stands behind a fall.
-/
import Derived.Test.YtdoennkmcloalaaBkC
import Derived.Test.YtdoennkmcloalaaIn
set_option linter.unusedSimpArgs false
namespace Go.Proofs.Ytdoennkmcloalaa
open Go.RowKit Ev
/-- a block that is not the memory's -/
structure BoxAt (s : St) (q : Nat) (v : MV) (b : Nat) (bx : B) : Prop where
  lt : b < s.nx
  no : ¬ MOw q v b
  get : s.h.get b = some bx
theorem BoxAt.step {s s' : St} {q b : Nat} {v v' : MV} {bx : B} (h : BoxAt s q v b bx) (k : MStep q v v' s s') : BoxAt s' q v' b bx := ⟨Nat.lt_of_lt_of_le h.lt k.kept.le, k.not_own h.no h.lt, (k.kept.keep b h.lt h.no).trans h.get⟩
theorem BoxAt.more {s s' : St} {q b : Nat} {v : MV} {bx : B} (h : BoxAt s q v b bx) (k : Ext s.nx s s') : BoxAt s' q v b bx := ⟨Nat.lt_of_lt_of_le h.lt k.le, h.no, (k.keep b h.lt).trans h.get⟩
theorem BoxAt.new {s : St} {q : Nat} {v : MV} (h : MemAt s q v) (bx : B) : BoxAt ⟨s.nx + 1, s.h.set s.nx bx⟩ q v s.nx bx := ⟨Nat.lt_succ_self _, fun e => by have := h.own_lt e; omega, T.get_set_same _ _ _⟩
theorem BoxAt.poke {s : St} {q b c : Nat} {v : MV} {bx : B} (h : BoxAt s q v b bx) (hne : c ≠ b) (x : B) : BoxAt ⟨s.nx, s.h.set c x⟩ q v b bx := ⟨h.lt, h.no, (T.get_set_ne _ _ hne).trans h.get⟩
theorem BoxAt.set {s : St} {q b : Nat} {v : MV} {bx : B} (h : BoxAt s q v b bx) (x : B) : BoxAt ⟨s.nx, s.h.set b x⟩ q v b x := ⟨h.lt, h.no, T.get_set_same _ _ _⟩
theorem rowC_pairs {st : St} {x : Nat → V} {l : List (Int × BitVec 64)} (h : (rowC (pairC iC wC)).at' st x l) : RdRow st (x 0) 2 l.length (iw l) := by
  obtain ⟨_, _, _, xs, h1, h2⟩ := h
  have hz : (pairC iC wC).z = 2 := rfl
  have e : (List.range (l.length * (pairC iC wC).z)).map xs = iw l := by
    apply List.ext_getElem?
    intro j
    rw [hz, List.getElem?_map]
    by_cases hj : j < l.length * 2
    · rw [List.getElem?_range hj]
      obtain ⟨r, hr⟩ : ∃ r, l[j / 2]? = some r := ⟨_, List.getElem?_eq_getElem (by omega)⟩
      obtain ⟨g0, g1⟩ := iw_at l (j / 2) r hr
      have h3 := h2 (j / 2) r hr
      have a0 : xs (j / 2 * 2 + 0) = .int .i64 r.1 := h3.1.1
      have a1 : xs (j / 2 * 2 + 1) = wd r.2 := h3.2.1
      rcases (show j = j / 2 * 2 + 0 ∨ j = j / 2 * 2 + 1 by omega) with e | e
      · rw [e, g0, Option.map_some, a0]
      · rw [e, g1, Option.map_some, a1]
    · rw [List.getElem?_eq_none (by rw [List.length_range]; omega), List.getElem?_eq_none (by rw [iw_length]; omega)]; rfl
  rw [e, hz] at h1
  exact h1
/-- behind a Keep or a Clear, and a fall, or none -/
structure BkFin (N : Nat) (f n : Int) (L : List LM) (num : BitVec 64) (K : List (Int × BitVec 64)) (e : Int) (clear : Bool) : Prop where
  ok : okLs L N
  st : (allN L)[(f * 8).toNat]? = some 0#64 ∨ Stands (allN L) (f * 8).toNat num K
  z : e = 0 → if clear = true then (allN L)[(f * 8).toNat]? = some 0#64 else Stands (allN L) (f * 8).toNat num K
theorem AS.fused_off {s : AS} (n : Int) (K : List Int) (h : s.off = true) : s.fused n K = s := by unfold AS.fused; rw [if_pos h]
theorem keep_fin {f n : Int} {N i : Nat} {s : AS} {num : BitVec 64} {l : List (Int × BitVec 64)} (K : List Int) (h : okS s N i) (ho : allO s.L) (hw : winB f n N) (hf : fitsR num l) (hlen : ((putR num l).length : Int) ≤ n * 8 - 8) (hm : (allN s.L)[(f * 8).toNat]? = some 0#64) :
    ((keepA s f n num l).2 = 0 ∧ (keepA s f n num l).1.off = false ∨ (keepA s f n num l).2 = 14 ∧ (keepA s f n num l).1.off = true) ∧ BkFin N f n (if (keepA s f n num l).1.off = true then (keepA s f n num l).1.L else fallM K (keepA s f n num l).1.L) num l (keepA s f n num l).2 false := by
  rcases keep_P h ho hw hf hlen hm with ⟨r1, r2, r3, r4, _⟩ | ⟨r1, r2, r3, r4⟩
  · refine ⟨.inl ⟨r1, r2.off⟩, ?_⟩
    rw [r2.off, if_neg (by simp), fall_allO r3]
    exact ⟨r2.ls, .inr r4, fun _ => by rw [if_neg (by simp)]; exact r4⟩
  · refine ⟨.inr ⟨r1, r2⟩, ?_⟩
    rw [if_pos r2, r1]
    exact ⟨r3, r4, fun e => by cases e⟩
theorem clear_fin {f n : Int} {N i : Nat} {s : AS} {num : BitVec 64} {l : List (Int × BitVec 64)} (K : List Int) (h : okS s N i) (ho : allO s.L) (hw : winB f n N) (hlen : ((putR num l).length : Int) ≤ n * 8 - 8) (hm : Stands (allN s.L) (f * 8).toNat num l) :
    ((clearA s f n).2 = 0 ∧ (clearA s f n).1.off = false ∨ (clearA s f n).2 = 14 ∧ (clearA s f n).1.off = true) ∧ BkFin N f n (if (clearA s f n).1.off = true then (clearA s f n).1.L else fallM K (clearA s f n).1.L) num l (clearA s f n).2 true := by
  rcases clear_P h ho hw hlen hm with ⟨r1, r2, r3, r4⟩ | ⟨r1, r2, r3, r4⟩
  · refine ⟨.inl ⟨r1, r2.off⟩, ?_⟩
    rw [r2.off, if_neg (by simp), fall_allO r3]
    exact ⟨r2.ls, .inl r4, fun _ => by rw [if_pos rfl]; exact r4⟩
  · refine ⟨.inr ⟨r1, r2⟩, ?_⟩
    rw [if_pos r2, r1]
    exact ⟨r3, r4, fun e => by cases e⟩
/-- what Read tells behind it -/
theorem BkFin.read {N : Nat} {f n : Int} {s : AS} {num : BitVec 64} {l : List (Int × BitVec 64)} {e : Int} {clear : Bool} (h : BkFin N f n s.L num l e clear) (h0 : s.off = false) (hw : winB f n N) (hf : fitsR num l) (hlen : ((putR num l).length : Int) ≤ n * 8 - 8) :
    (readO (spanL s f n) = none ∧ (e = 0 → clear = true) ∨ readO (spanL s f n) = some (num, l) ∧ (e = 0 → clear = false)) := by
  have hs : Stands (allN s.L) (f * 8).toNat num l → (allN s.L)[(f * 8).toNat]? = some 0#64 → False := fun a b => by
    have := a.mark
    rw [b] at this
    injection this with this
    exact hf.1 this.symm
  rcases h.st with h1 | h1
  · refine .inl ⟨read_none h.ok h0 hw h1, fun e0 => ?_⟩
    have := h.z e0
    cases clear with
    | true => rfl
    | false => exact (hs (by simpa using this) h1).elim
  · refine .inr ⟨read_stands h.ok h0 hw hf hlen h1, fun e0 => ?_⟩
    have := h.z e0
    cases clear with
    | false => rfl
    | true => exact (hs h1 (by simpa using this)).elim
end Go.Proofs.Ytdoennkmcloalaa

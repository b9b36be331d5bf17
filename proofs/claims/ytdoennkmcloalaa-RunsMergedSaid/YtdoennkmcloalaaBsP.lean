/-
  PLAIN: books side by side on one memory.
-/
import Derived.Test.YtdoennkmcloalaaBkP
import Derived.Test.YtdoennkmcloalaaBkC
set_option linter.unusedSimpArgs false
namespace Go.Proofs.Ytdoennkmcloalaa
open Go.RowKit Ev
abbrev RecW := BitVec 64 × List (Int × BitVec 64)
theorem calm.still2 {s : AS} {N i : Nat} (h : calm s N i) (ho : allO s.L) : calm s N 0 := ⟨⟨h.ok.len, h.ok.off, h.ok.ok, fun m hm => by rw [ho m hm]; exact Nat.le_refl _⟩, h.fu⟩
theorem calm.sz2 {s : AS} {N i : Nat} (h : calm s N i) : szB s N i := ⟨h.ok.len, by have := h.fu; omega, h.ok.op⟩
/-- what stands at a place -/
def BkIs (W : List (BitVec 64)) (b : Nat) : Option RecW → Prop
  | none => W[b]? = some 0#64
  | some r => Stands W b r.1 r.2 ∧ fitsR r.1 r.2 ∧ (putR r.1 r.2).length ≤ 24
theorem BkIs.same {W W' : List (BitVec 64)} {b : Nat} (hs : ∀ p, b ≤ p → p < b + 32 → W'[p]? = W[p]?) : ∀ {h : Option RecW}, BkIs W b h → BkIs W' b h
  | none, k => (hs b (Nat.le_refl _) (by omega)).trans k
  | some r, ⟨k1, k2, k3⟩ => ⟨⟨(hs b (Nat.le_refl _) (by omega)).trans k1.mark, fun j hj => (hs _ (by omega) (by omega)).trans (k1.put j hj)⟩, k2, k3⟩
structure Shelf (n : Nat) (s : AS) (H : List (Option RecW)) : Prop where
  c : calm s (4 * n) 0
  o : allO s.L
  len : H.length = n
  bk : ∀ (i : Nat) h, H[i]? = some h → BkIs (allN s.L) (32 * i) h
theorem Shelf.win {n : Nat} {s : AS} {H : List (Option RecW)} (_h : Shelf n s H) {i : Nat} (hi : i < n) : winB (4 * (i : Int)) 4 ((4 * n : Nat) : Int) := ⟨by omega, by omega, by omega, by omega⟩
theorem f8 (i : Nat) : ((4 * (i : Int)) * 8).toNat = 32 * i := by omega
theorem Shelf.zero (n : Nat) : Shelf n (zeroA (4 * n)) (List.replicate n none) := by
  refine ⟨zero_calm _, zero_allO _, by simp, fun i h hi => ?_⟩
  have hlt := lt_of_get hi
  simp at hlt
  rw [List.getElem?_replicate, if_pos hlt] at hi
  injection hi with hi
  subst hi
  exact zero_get (by omega)
theorem Shelf.read {n : Nat} {s : AS} {H : List (Option RecW)} (h : Shelf n s H) {i : Nat} {r : Option RecW} (hi : H[i]? = some r) : readO (spanL s (4 * (i : Int)) 4) = r := by
  have hlt : i < n := by have := lt_of_get hi; rwa [h.len] at this
  have hw := h.win hlt
  have hb := h.bk i r hi
  cases r with
  | none => exact read_none h.c.ok.ls h.c.ok.off hw (by rw [f8]; exact hb)
  | some r => exact read_stands h.c.ok.ls h.c.ok.off hw hb.2.1 (by have := hb.2.2; omega) (by rw [f8]; exact hb.1)
theorem Shelf.fallen {n : Nat} {s t : AS} {H : List (Option RecW)} {K : List Int} (h : Shelf n s H) (e : t = { s.fell K with off := false }) : Shelf n t H := by
  have e1 : t.L = s.L := by rw [e]; show fallM K s.L = s.L; exact fall_allO h.o K
  refine ⟨⟨⟨by rw [e1, h.c.ok.len], by rw [e], fun m hm => h.c.ok.ok m (by rwa [e1] at hm), fun m hm => by rw [e1] at hm; rw [h.o m hm]; exact Nat.le_refl _⟩, ?_⟩, by rw [e1]; exact h.o, h.len, by rw [e1]; exact h.bk⟩
  rw [e]; show (0 : Int) < 1; omega
theorem Shelf.keep {n : Nat} {s : AS} {H : List (Option RecW)} (h : Shelf n s H) {i : Nat} (hi : H[i]? = some none) {num : BitVec 64} {K : List (Int × BitVec 64)} (hf : fitsR num K) (hl : (putR num K).length ≤ 24) :
    (keepA s (4 * (i : Int)) 4 num K).2 = 0 ∧ Shelf n (keepA s (4 * (i : Int)) 4 num K).1 (H.set i (some (num, K))) := by
  have hlt : i < n := by have := lt_of_get hi; rwa [h.len] at this
  obtain ⟨p1, p2, p3, p4, p5⟩ := keep_calm h.c h.o (h.win hlt) hf (by omega) (by rw [f8]; exact h.bk i none hi)
  rw [f8] at p4 p5
  have hn := h.c.ok.ls.nlen
  refine ⟨p1, p2.still2 p3, p3, by simp [h.len], fun j r hj => ?_⟩
  by_cases e : i = j
  · subst e
    rw [List.getElem?_set_self (by rw [h.len]; exact hlt)] at hj
    injection hj with hj
    subst hj
    exact ⟨p4, hf, hl⟩
  · rw [List.getElem?_set_ne e] at hj
    have hjl : j < n := by have := lt_of_get hj; rwa [h.len] at this
    refine (h.bk j r hj).same fun p hp1 hp2 => ?_
    rw [p5, setFrom_get (by rw [setFrom_len]; omega), if_neg (by simp; omega), setFrom_get (by omega), if_neg (by omega)]
    simp only [Option.getD_some]
    rw [List.getElem?_eq_getElem (by omega)]; rfl
theorem Shelf.busy {n : Nat} {s : AS} {H : List (Option RecW)} (h : Shelf n s H) {i : Nat} {r : RecW} (hi : H[i]? = some (some r)) {num : BitVec 64} {K : List (Int × BitVec 64)} (hf : fitsR num K) (hl : (putR num K).length ≤ 24) :
    keepA s (4 * (i : Int)) 4 num K = (s, 15) := by
  have hlt : i < n := by have := lt_of_get hi; rwa [h.len] at this
  obtain ⟨e1, e2⟩ := sword_zero h.c.ok.ls h.c.ok.off (h.win hlt)
  obtain ⟨k1, k2, k3⟩ := h.bk i (some r) hi
  rw [f8, k1.mark] at e2
  injection e2 with e2
  have hp := putR_length hf
  unfold keepA
  rw [if_neg (by omega), if_neg (by omega), if_pos (by rw [← e2]; exact k2.1)]
theorem keep_bad {s : AS} {f : Int} {num : BitVec 64} {K : List (Int × BitVec 64)} (h : ¬ (fitsR num K ∧ (putR num K).length ≤ 24)) : keepA s f 4 num K = (s, 1) := by
  unfold keepA
  rw [if_pos]
  by_cases hf : fitsR num K
  · right
    have : ¬ (putR num K).length ≤ 24 := fun k => h ⟨hf, k⟩
    omega
  · left
    unfold putR; rw [if_neg hf]; rfl
theorem Shelf.clear {n : Nat} {s : AS} {H : List (Option RecW)} (h : Shelf n s H) {i : Nat} (hlt : i < n) :
    (clearA s (4 * (i : Int)) 4).2 = 0 ∧ Shelf n (clearA s (4 * (i : Int)) 4).1 (H.set i none) := by
  obtain ⟨p1, p2, p3, p4⟩ := clear_calm h.c h.o (h.win hlt)
  rw [f8] at p4
  have hn := h.c.ok.ls.nlen
  refine ⟨p1, p2.still2 p3, p3, by simp [h.len], fun j r hj => ?_⟩
  by_cases e : i = j
  · subst e
    rw [List.getElem?_set_self (by rw [h.len]; exact hlt)] at hj
    injection hj with hj
    subst hj
    show _ = _
    rw [p4, setFrom_get (by omega), if_pos (by simp)]
    simp
  · rw [List.getElem?_set_ne e] at hj
    have hjl : j < n := by have := lt_of_get hj; rwa [h.len] at this
    refine (h.bk j r hj).same fun p hp1 hp2 => ?_
    rw [p4, setFrom_get (by omega), if_neg (by simp; omega)]
    rw [List.getElem?_eq_getElem (by omega)]; rfl
/-- the greater one -/
def mxW (a b : BitVec 64) : BitVec 64 := if a < b then b else a
def hnum : Option RecW → BitVec 64
  | none => 0#64
  | some r => r.1
def mostW (l : List (Option RecW)) : BitVec 64 := l.foldl (fun a h => mxW a (hnum h)) 0#64
theorem mostW_take {l : List (Option RecW)} {i : Nat} {h : Option RecW} (hi : l[i]? = some h) : mostW (l.take (i + 1)) = mxW (mostW (l.take i)) (hnum h) := by
  unfold mostW
  rw [List.take_add_one, hi]
  simp
def nextW (m : BitVec 64) : BitVec 64 := if m = 18446744073709551615#64 then m else m + 1#64
end Go.Proofs.Ytdoennkmcloalaa

/-
  The walk of SpanPushes.
-/
import Derived.Test.YtdoennkmcloalaaSpBE
import Derived.Test.YtdoennkmcloalaaSpA
set_option linter.unusedSimpArgs false
namespace Go.Proofs.Ytdoennkmcloalaa
open Go.RowKit Ev
@[simp] theorem wd_neq0 {P : Program} {st : St} {t : TypeId} {x y : Operand} (a : BitVec 64) : binE P st .neq t x y (wd a) (.c (.int .u64 0)) = some (.bool (!decide (a = 0#64)), st) := by
  have h : (V.c (.int .u64 0) : V) = wd 0#64 := wd_0.symm
  rw [h]; exact wd_neq
@[simp] theorem wd_eql0 {P : Program} {st : St} {t : TypeId} {x y : Operand} (a : BitVec 64) : binE P st .eql t x y (wd a) (.c (.int .u64 0)) = some (.bool (decide (a = 0#64)), st) := by
  have h : (V.c (.int .u64 0) : V) = wd 0#64 := wd_0.symm
  rw [h]; exact wd_eql
theorem load_allN {s : AS} {n : Nat} (h : okLs s.L n) (h0 : s.off = false) {p : Nat} (hp : p < 8 * n) : (allN s.L)[p]? = some (s.load (p : Int)) := by
  obtain ⟨m, hm, hok, hg⟩ := h.get hp
  have hin : s.in8 (p : Int) := ⟨by omega, by rw [h.len]; omega⟩
  unfold AS.load
  rw [if_neg (by rw [h0]; simp), if_pos hin, show ((p : Int) / 8).toNat = p / 8 by omega, show ((p : Int) % 8).toNat = p % 8 by omega, hm, hg]
  show m.N[p % 8]? = some (m.N[p % 8]?.getD 0#64)
  rw [List.getElem?_eq_getElem (by rw [hok.nl]; omega)]; rfl
def pushP (b : Nat) (l : List (BitVec 64)) (p : Nat) (w : BitVec 64) : Prop := w = 0#64 ∨ (b ≤ p ∧ p < b + l.length ∧ l[p - b]? = some w)
theorem zero_As (n : Nat) (P : Nat → BitVec 64 → Prop) (h : ∀ i, P i 0#64) : okAs P (zeroA n).L := (atom_zero n P h).2.2
/-- what stands behind a push, a fall, and the power's coming -/
theorem push_end {N : Nat} {s : AS} {f n : Int} {a : Nat} {l : List (BitVec 64)} {K : List Int} (h : okS s N 0) (hz : okAs (pushP (f.toNat * 8 + a) l) s.L) (hh : hasB N f n (a : Int) l.length) (hf : 0 ≤ f) :
    ∃ L3, okLs L3 N ∧ (∀ k w, (allN L3)[k]? = some w → pushP (f.toNat * 8 + a) l k w) ∧
      (((pushA s f n a l).2 = 0 ∧ (pushA s f n a l).1.off = false ∧ fallM K (pushA s f n a l).1.L = L3 ∧ ∀ j, j < l.length → (allN L3)[f.toNat * 8 + a + j]? = l[j]?) ∨ ((pushA s f n a l).2 = 14 ∧ (pushA s f n a l).1.off = true ∧ (pushA s f n a l).1.L = L3)) := by
  obtain ⟨hw, h0, h1, h2, h3⟩ := id hh
  obtain ⟨w1, w2, w3, w4⟩ := id hw
  have hb : f * 8 + (a : Int) = ((f.toNat * 8 + a : Nat) : Int) := by omega
  have hP : ∀ (l' : List (BitVec 64)), (∀ j w, l'[j]? = some w → l[j]? = some w) → ∀ j w, l'[j]? = some w → pushP (f.toNat * 8 + a) l (f.toNat * 8 + a + j) w := fun l' hl j w hj => by
    have := hl j w hj
    have hlt := lt_of_get this
    exact .inr ⟨by omega, by omega, by rw [Nat.add_sub_cancel_left]; exact this⟩
  have hs := h.ls.sts l (b := f * 8 + (a : Int)) (by omega) (by omega)
  have hAs : okAs (pushP (f.toNat * 8 + a) l) (storesL s.L (f * 8 + (a : Int)) l) := by
    rw [hb]; exact hz.sts l h.ls (by omega) (hP l fun _ _ h => h)
  have hl : ∀ i ∈ linesOf f (a : Int) l.length, 0 ≤ i ∧ i < (storesL s.L (f * 8 + (a : Int)) l).length := fun i hi => by
    have := linesOf_mem hi
    rw [hs.len]; omega
  rcases push_on h hh with ⟨q1, q2, q3⟩ | ⟨q1, q2, q3⟩
  · refine ⟨_, ((hs.fl hl).fe).fall K, ((hAs.fl hl).fe (hs.fl hl)).fall ((hs.fl hl).fe) K, .inl ⟨q1, q3.off, by rw [q2], fun j hj => ?_⟩⟩
    have := push_sure h.ls hh K hj
    rw [hb, show ((f.toNat * 8 + a : Nat) : Int).toNat = f.toNat * 8 + a by omega] at this
    rw [hb]
    exact this
  · rcases q3 with ⟨j, q3⟩ | q3
    · have hlen : (l.take j).length ≤ l.length := by simp; omega
      have hs2 := h.ls.sts (l.take j) (b := f * 8 + (a : Int)) (by omega) (by omega)
      refine ⟨_, hs2.fall s.K, ?_, .inr ⟨q1, q2, q3⟩⟩
      have : okAs (pushP (f.toNat * 8 + a) l) (storesL s.L (f * 8 + (a : Int)) (l.take j)) := by
        rw [hb]
        refine hz.sts (l.take j) h.ls (by omega) (hP (l.take j) fun k w hk => ?_)
        rw [List.getElem?_take] at hk
        split at hk
        · exact hk
        · cases hk
      exact this.fall hs2 s.K
    · exact ⟨_, (hs.fl hl).fall s.K, (hAs.fl hl).fall (hs.fl hl) s.K, .inr ⟨q1, q2, q3⟩⟩
def sfK (sf : St) (a : Nat) (y wx : V) (E : Int) (e : Env) (s : St) : Prop := ∃ i : Nat, i ≤ 32 ∧ e.get 0 = some (.int .i64 (a : Int)) ∧ e.get 1 = some y ∧ e.get 13 = some (.int .i64 E) ∧ e.get 15 = some wx ∧ e.get 17 = some (.int .i64 (i : Int)) ∧ s = sf
theorem fits_words5 : Fits Try.prog (rowC wC) 23 := fits_row Try.underlying23 (by kernel_rfl) (by decide) (fits_w Try.underlying24)
end Go.Proofs.Ytdoennkmcloalaa

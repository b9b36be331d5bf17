/-
  PLAIN: what SpanSays asks of memory.
-/
import Derived.Test.YtdoennkmcloalaaSpF
import Derived.Test.YtdoennkmcloalaaPmAD
set_option linter.unusedSimpArgs false
namespace Go.Proofs.Ytdoennkmcloalaa
open Go.RowKit Ev
theorem Gd_seq_join {P : Program} {M : Mach P} {c : Cx} {e : Env} {st : St} {a b : Code} {Q : X × Env × St → Prop} (J : X × Env × St → Prop) (h : Gd (M.E c a e st) J) (k : ∀ r, J r → seqC M c b Q r) : Gd (M.E c (.seq a b) e st) Q := by
  rw [Gd_seq]; exact Gd.mono h k
theorem opsK_join {P : Program} {F : CallF} {c : Cx} {ops l : List Oper} {d : Option Nat} {e : Env} {r : Res} {Q : X × Env × St → Prop} (J : X × Env × St → Prop) (h : Gd r (opsK P F c ops d l e (regK J))) (k : ∀ r, J r → Q r) : Gd r (opsK P F c ops d l e (regK Q)) := by
  refine Gd.mono h fun x hx => ?_
  unfold opsK at hx ⊢
  cases d with
  | none => exact Gd.mono hx fun y hy => k _ hy
  | some t => exact ⟨hx.1, Gd.mono hx.2 fun y hy => k _ hy⟩
/-- in order, on, without a fuse -/
structure calm (s : AS) (n i : Nat) : Prop where
  ok : okS s n i
  fu : s.fuse < 1
theorem calm.store {s : AS} {n i : Nat} (h : calm s n i) {a : Int} (ha : 0 ≤ a ∧ a < 8 * n) (w : BitVec 64) : calm (s.store a w) n (i + 1) ∧ s.storeE a = 0 ∧ (s.store a w).L = stL s.L a w := by
  obtain ⟨h1, h2⟩ := AS.store_on (w := w) h.ok.off h.fu ⟨ha.1, by rw [h.ok.len]; omega⟩
  exact ⟨⟨h.ok.store h.fu ha w, by rw [h1]; exact h.fu⟩, h2, by rw [h1]; rfl⟩
theorem calm.stores {f n : Int} {N : Nat} (hw : winB f n N) : ∀ (l : List (BitVec 64)) {s : AS} {i : Nat} {a : Int}, calm s N i → 0 ≤ a → a + l.length ≤ n * 8 → (storesA s f n a l).2 = 0 ∧ calm (storesA s f n a l).1 N (i + l.length)
  | [], s, i, a, h, _, _ => ⟨rfl, h⟩
  | w :: l, s, i, a, h, h0, h1 => by
    have hl : ((w :: l).length : Int) = l.length + 1 := by simp
    obtain ⟨w1, w2, w3, w4⟩ := id hw
    have hh : hasB s.L.length f n a 1 := ⟨by rw [h.ok.len]; exact hw, h0, by omega, by omega, by omega⟩
    have e1 : s.sset f n a w = s.store (f * 8 + a) w := by unfold AS.sset; rw [if_pos hh]
    have e2 : s.ssetE f n a = s.storeE (f * 8 + a) := by unfold AS.ssetE; rw [if_pos hh]
    have e3 : storesA s f n a (w :: l) = if s.storeE (f * 8 + a) = 0 then storesA (s.store (f * 8 + a) w) f n (a + 1) l else (s.store (f * 8 + a) w, s.storeE (f * 8 + a)) := by
      rw [← e1, ← e2]; rfl
    obtain ⟨q1, q2, _⟩ := h.store (a := f * 8 + a) (by omega) w
    rw [e3, if_pos q2]
    have := calm.stores hw l (a := a + 1) q1 (by omega) (by omega)
    rw [show i + (w :: l).length = i + 1 + l.length by simp; omega]
    exact this
theorem calm.push {f n : Int} {N : Nat} {s : AS} {i : Nat} {a : Int} {l : List (BitVec 64)} (h : calm s N i) (hh : hasB N f n a l.length) : (pushA s f n a l).2 = 0 ∧ calm (pushA s f n a l).1 N (i + l.length) ∧ (pushA s f n a l).1.L = (flushL (storesL s.L (f * 8 + a) l) (linesOf f a l.length)).map fenceM := by
  obtain ⟨hw, h0, h1, h2, h3⟩ := id hh
  obtain ⟨w1, w2, w3, w4⟩ := id hw
  obtain ⟨r1, r2⟩ := calm.stores hw l h h0 (by omega)
  have hmay : (storesA s f n a l).1.may (linesOf f a l.length) := fun x hx => by
    have := linesOf_mem hx
    rw [r2.ok.len]; omega
  obtain ⟨q1, q2⟩ := AS.flush_on r2.ok.off r2.fu hmay
  have hf : ((storesA s f n a l).1.flush (linesOf f a l.length)).fuse < 1 := by rw [q1]; exact r2.fu
  have ho : ((storesA s f n a l).1.flush (linesOf f a l.length)).off = false := by rw [q1]; exact r2.ok.off
  obtain ⟨p1, p2⟩ := AS.fence_on ho hf
  have e : pushA s f n a l = (((storesA s f n a l).1.flush (linesOf f a l.length)).fence, ((storesA s f n a l).1.flush (linesOf f a l.length)).fenceE) := by
    unfold pushA
    rw [h.ok.len, if_pos hh, if_pos r1, if_pos q2]
  have e2 : (pushA s f n a l).2 = 0 := by rw [e]; exact p2
  rcases push_on h.ok hh with ⟨t1, t2, t3⟩ | ⟨t1, _⟩
  · exact ⟨e2, ⟨t3, by rw [e, p1]; exact hf⟩, t2⟩
  · omega
theorem push_none {f n : Int} {N : Nat} {s : AS} {a : Int} {l : List (BitVec 64)} (h : s.L.length = N) (hh : ¬ hasB N f n a l.length) : pushA s f n a l = (s, 1) := by
  unfold pushA; rw [h, if_neg hh]
def setFrom (W : List (BitVec 64)) (b : Nat) (l : List (BitVec 64)) (j : Nat) : List (BitVec 64) := (List.range W.length).map fun p => if b ≤ p ∧ p < b + j then l[p - b]?.getD 0#64 else W[p]?.getD 0#64
theorem setFrom_len (W : List (BitVec 64)) (b : Nat) (l : List (BitVec 64)) (j : Nat) : (setFrom W b l j).length = W.length := by simp [setFrom]
theorem setFrom_get {W : List (BitVec 64)} {b : Nat} {l : List (BitVec 64)} {j p : Nat} (hp : p < W.length) : (setFrom W b l j)[p]? = some (if b ≤ p ∧ p < b + j then l[p - b]?.getD 0#64 else W[p]?.getD 0#64) := by
  unfold setFrom; rw [List.getElem?_map, List.getElem?_range hp]; rfl
theorem setFrom_zero (W : List (BitVec 64)) (b : Nat) (l : List (BitVec 64)) : setFrom W b l 0 = W := by
  apply List.ext_getElem?
  intro p
  by_cases hp : p < W.length
  · rw [setFrom_get hp, if_neg (by omega), List.getElem?_eq_getElem hp]; rfl
  · rw [List.getElem?_eq_none (by rw [setFrom_len]; omega), List.getElem?_eq_none (by omega)]
theorem setFrom_succ {W : List (BitVec 64)} {b : Nat} {l : List (BitVec 64)} {j : Nat} {u : BitVec 64} (hu : l[j]? = some u) : setFrom W b l (j + 1) = (setFrom W b l j).set (b + j) u := by
  apply List.ext_getElem?
  intro p
  by_cases hp : p < W.length
  · rw [setFrom_get hp]
    by_cases e : b + j = p
    · rw [e, List.getElem?_set_self (by rw [setFrom_len]; omega), if_pos (by omega), show p - b = j by omega, hu]; rfl
    · rw [List.getElem?_set_ne e, setFrom_get hp]
      by_cases c : b ≤ p ∧ p < b + j
      · rw [if_pos c, if_pos (by omega)]
      · rw [if_neg c, if_neg (by omega)]
  · rw [List.getElem?_eq_none (by rw [setFrom_len]; omega), List.getElem?_eq_none (by rw [List.length_set, setFrom_len]; omega)]
theorem allN_push {f n : Int} {N : Nat} {L : List LM} {a : Int} {l : List (BitVec 64)} {b : Nat} (h : okLs L N) (hh : hasB N f n a l.length) (hb : f * 8 + a = (b : Int)) :
    allN ((flushL (storesL L (f * 8 + a) l) (linesOf f a l.length)).map fenceM) = setFrom (allN L) b l l.length := by
  obtain ⟨hw, h0, h1, h2, h3⟩ := id hh
  obtain ⟨w1, w2, w3, w4⟩ := id hw
  have hs := h.sts l (b := f * 8 + a) (by omega) (by omega)
  have hl : ∀ i ∈ linesOf f a l.length, 0 ≤ i ∧ i < (storesL L (f * 8 + a) l).length := fun i hi => by
    have := linesOf_mem hi
    rw [hs.len]; omega
  rw [allN_fence, allN_flush hl]
  apply List.ext_getElem?
  intro p
  by_cases hp : p < 8 * N
  · rw [hb, allN_sts l h (by omega), setFrom_get (by rw [h.nlen]; exact hp)]
    by_cases c : b ≤ p ∧ p < b + l.length
    · rw [if_pos c, if_pos c, List.getElem?_eq_getElem (by omega)]; rfl
    · rw [if_neg c, if_neg c, List.getElem?_eq_getElem (by rw [h.nlen]; exact hp)]; rfl
  · rw [List.getElem?_eq_none (by rw [hs.nlen]; omega), List.getElem?_eq_none (by rw [setFrom_len, h.nlen]; omega)]
end Go.Proofs.Ytdoennkmcloalaa

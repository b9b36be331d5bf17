/-
  PLAIN: what pushing comes to.
-/
import Derived.Test.YtenncnbaoejekaaSpD
set_option linter.unusedSimpArgs false
namespace Go.Proofs.Ytenncnbaoejekaa
open Go.RowKit Ev
def okAs (P : Nat → BitVec 64 → Prop) (L : List LM) : Prop := ∀ l m, L[l]? = some m → okA P l m
theorem okAs.st {P : Nat → BitVec 64 → Prop} {L : List LM} {n : Nat} (h : okAs P L) (ho : okLs L n) {a : Nat} (ha : a < 8 * n) {w : BitVec 64} (hw : P a w) : okAs P (stL L (a : Int) w) := by
  intro l x hx
  have hal : ((a : Int) / 8).toNat = a / 8 := by omega
  have hap : ((a : Int) % 8) = ((a % 8 : Nat) : Int) := by omega
  obtain ⟨m, hm⟩ : ∃ m, L[a / 8]? = some m := ⟨_, List.getElem?_eq_getElem (by rw [ho.len]; omega)⟩
  unfold stL at hx
  rw [hal, hap, hm] at hx
  by_cases e : a / 8 = l
  · subst e
    rw [List.getElem?_set_self (lt_of_get hm)] at hx
    injection hx with hx
    subst hx
    have hk := h _ m hm
    have hst : (some m : Option LM).getD LM0 = m := rfl
    have hs2 : m.store ((a % 8 : Nat) : Int) w = { m with N := m.N.set (a % 8) w, O := m.O ++ [(((a % 8 : Nat) : Int), w)] } := by
      unfold LM.store; rw [if_pos ⟨by omega, by omega⟩]; rfl
    rw [hst, hs2]
    refine ⟨hk.1, fun r hr => ?_⟩
    rcases List.mem_append.1 hr with hr | hr
    · exact hk.2 r hr
    · simp at hr; subst hr
      show P (8 * (a / 8) + ((a % 8 : Nat) : Int).toNat) w
      rw [show 8 * (a / 8) + ((a % 8 : Nat) : Int).toNat = a by omega]
      exact hw
  · rw [List.getElem?_set_ne e] at hx
    exact h l x hx
theorem okAs.sts {P : Nat → BitVec 64 → Prop} {n : Nat} : ∀ (l : List (BitVec 64)) {L : List LM} {b : Nat}, okAs P L → okLs L n → b + l.length ≤ 8 * n → (∀ j w, l[j]? = some w → P (b + j) w) → okAs P (storesL L (b : Int) l)
  | [], _, _, h, _, _, _ => h
  | w :: l, L, b, h, ho, hb, hP => by
    have hl : (w :: l).length = l.length + 1 := by simp
    have e : storesL L (b : Int) (w :: l) = storesL (stL L (b : Int) w) ((b + 1 : Nat) : Int) l := by
      show storesL (stL L (b : Int) w) ((b : Int) + 1) l = _
      congr 1
    rw [e]
    exact okAs.sts l (h.st ho (by omega) (hP 0 w rfl)) (ho.st (by omega) w) (by omega) fun j v hj => by
      rw [show b + 1 + j = b + (j + 1) by omega]; exact hP (j + 1) v hj
theorem okAs.fl {P : Nat → BitVec 64 → Prop} {L : List LM} {ls : List Int} (h : okAs P L) (hl : ∀ i ∈ ls, 0 ≤ i ∧ i < L.length) : okAs P (flushL L ls) := fun l x hx => by
  obtain ⟨m, hm, q1, q2, q3⟩ := flushL_at hl hx
  have := h l m hm
  exact ⟨fun p v hp hv => this.1 p v hp (by rw [← q1]; exact hv), fun r hr => this.2 r (by rw [← q3]; exact hr)⟩
theorem okAs.fe {P : Nat → BitVec 64 → Prop} {L : List LM} {n : Nat} (h : okAs P L) (ho : okLs L n) : okAs P (L.map fenceM) := fun l x hx => by
  rw [List.getElem?_map] at hx
  cases hm : L[l]? with
  | none => rw [hm] at hx; cases hx
  | some m =>
    rw [hm] at hx
    injection hx with hx
    subst hx
    have hk := h l m hm
    have hp := ho.ok m (List.mem_of_getElem? hm)
    exact ⟨fun p v hp2 hv => hk.get hp _ hp2 hv, fun r hr => hk.2 r (List.mem_of_mem_drop hr)⟩
theorem okAs.fall {P : Nat → BitVec 64 → Prop} {L : List LM} {n : Nat} (h : okAs P L) (ho : okLs L n) (K : List Int) : ∀ k v, (allN (fallM K L))[k]? = some v → P k v := fun k v hv => by
  have hk : k < 8 * n := by have := lt_of_get hv; rwa [(ho.fall K).nlen] at this
  obtain ⟨m, hm, hpm, _⟩ := ho.get hk
  obtain ⟨m2, hm2, _, hg⟩ := (ho.fall K).get hk
  obtain ⟨c, hc⟩ := fallM_get (K := K) hm
  rw [hc] at hm2
  injection hm2 with hm2
  rw [hv, ← hm2] at hg
  have hka := h _ m hm
  have hkk : 8 * (k / 8) + k % 8 = k := by omega
  rw [← hkk]
  by_cases e : m.O.length = 0
  · rw [if_pos e] at hg
    refine hka.get hpm m.O.length (by omega) ?_
    rw [List.take_length, ← hpm.n]; exact hg.symm
  · rw [if_neg e] at hg
    exact hka.get hpm _ (by omega) hg.symm
/-- stores, one behind another -/
theorem stores_on {f n : Int} {N : Nat} (hw : winB f n N) : ∀ (l : List (BitVec 64)) {s : AS} {i : Nat} {a : Int}, okS s N i → 0 ≤ a → a + l.length ≤ n * 8 →
    ((storesA s f n a l).2 = 0 ∧ (storesA s f n a l).1.L = storesL s.L (f * 8 + a) l ∧ (storesA s f n a l).1.K = s.K ∧ okS (storesA s f n a l).1 N (i + l.length)) ∨
    ((storesA s f n a l).2 = 14 ∧ (storesA s f n a l).1.off = true ∧ ∃ j, j < l.length ∧ (storesA s f n a l).1.L = fallM s.K (storesL s.L (f * 8 + a) (l.take j)))
  | [], s, i, a, h, _, _ => .inl ⟨rfl, rfl, rfl, h⟩
  | w :: l, s, i, a, h, h0, h1 => by
    have hl : ((w :: l).length : Int) = l.length + 1 := by simp
    obtain ⟨w1, w2, w3, w4⟩ := id hw
    have hh : hasB s.L.length f n a 1 := ⟨by rw [h.len]; exact hw, h0, by omega, by omega, by omega⟩
    have e1 : s.sset f n a w = s.store (f * 8 + a) w := by unfold AS.sset; rw [if_pos hh]
    have e2 : s.ssetE f n a = s.storeE (f * 8 + a) := by unfold AS.ssetE; rw [if_pos hh]
    have e3 : storesA s f n a (w :: l) = if s.storeE (f * 8 + a) = 0 then storesA (s.store (f * 8 + a) w) f n (a + 1) l else (s.store (f * 8 + a) w, s.storeE (f * 8 + a)) := by
      rw [← e1, ← e2]; rfl
    rw [e3]
    rcases store_on2 h (a := f * 8 + a) (by omega) w with ⟨q1, q2, q3, q4, q5⟩ | ⟨q1, q2, q3⟩
    · rw [if_pos q2]
      have hb : f * 8 + (a + 1) = f * 8 + a + 1 := by omega
      rcases stores_on hw l (a := a + 1) q5 (by omega) (by omega) with ⟨r1, r2, r3, r4⟩ | ⟨r1, r2, j, r3, r4⟩
      · refine .inl ⟨r1, ?_, r3.trans q4, ?_⟩
        · rw [r2, q3, hb]; rfl
        · have : i + (w :: l).length = i + 1 + l.length := by simp; omega
          rw [this]; exact r4
      · refine .inr ⟨r1, r2, j + 1, by simp; omega, ?_⟩
        rw [r4, q3, q4, hb]; rfl
    · rw [if_neg (by omega)]
      refine .inr ⟨q2, by show (s.store (f * 8 + a) w).off = true; rw [q3]; rfl, 0, by simp, ?_⟩
      show (s.store (f * 8 + a) w).L = _
      rw [q3]; rfl
theorem flush_on2 {s : AS} {n i : Nat} (h : okS s n i) {ls : List Int} (hl : s.may ls) :
    (s.fuse ≠ 1 ∧ s.flushE ls = 0 ∧ (s.flush ls).L = flushL s.L ls ∧ (s.flush ls).K = s.K ∧ okS (s.flush ls) n i) ∨ (s.fuse = 1 ∧ s.flushE ls = 14 ∧ s.flush ls = s.fell s.K) := by
  by_cases hf : s.fuse = 1
  · refine .inr ⟨hf, by simp [AS.flushE, h.off, hl, hf], ?_⟩
    have hl2 : s.lit = s.fell s.K := by unfold AS.lit; rw [if_neg (by omega), if_neg (by omega)]
    simp [AS.flush, h.off, hl, hf, hl2]
  · obtain ⟨l1, l2, l3, _⟩ := lit_on hf
    have he : s.flush ls = { s.lit with L := flushL s.L ls, b := IntKind.i64.wrap (s.b + 1) } := by simp [AS.flush, h.off, hl, hf]
    refine .inl ⟨hf, by simp [AS.flushE, h.off, hl, hf], by rw [he], by rw [he]; exact l3, ?_⟩
    rw [he]
    exact ⟨by show (flushL s.L ls).length = n; rw [flushL_length, h.len], by show s.lit.off = false; rw [l2, h.off], flushL_ok (fun _ h => h.flush) ls s.L hl h.ok, flushL_ok (P := fun m => m.O.length ≤ i) (fun _ h => h) ls s.L hl h.op⟩
theorem fence_on2 {s : AS} {n i : Nat} (h : okS s n i) :
    (s.fuse ≠ 1 ∧ s.fenceE = 0 ∧ s.fence.L = s.L.map fenceM ∧ s.fence.K = s.K ∧ okS s.fence n i) ∨ (s.fuse = 1 ∧ s.fenceE = 14 ∧ s.fence = s.fell s.K) := by
  by_cases hf : s.fuse = 1
  · refine .inr ⟨hf, by simp [AS.fenceE, h.off, hf], ?_⟩
    have hl2 : s.lit = s.fell s.K := by unfold AS.lit; rw [if_neg (by omega), if_neg (by omega)]
    simp [AS.fence, h.off, hf, hl2]
  · obtain ⟨l1, l2, l3, _⟩ := lit_on hf
    have he : s.fence = { s.lit with L := s.L.map fenceM, c := IntKind.i64.wrap (s.c + 1) } := by simp [AS.fence, h.off, hf]
    refine .inl ⟨hf, by simp [AS.fenceE, h.off, hf], by rw [he], by rw [he]; exact l3, ?_⟩
    rw [he]
    refine ⟨by show (s.L.map fenceM).length = n; rw [List.length_map, h.len], by show s.lit.off = false; rw [l2, h.off], fun m hm => ?_, fun m hm => ?_⟩
    · obtain ⟨x, hx, rfl⟩ := List.mem_map.1 hm
      exact (h.ok x hx).fence
    · obtain ⟨x, hx, rfl⟩ := List.mem_map.1 hm
      have := h.op x hx
      show (x.O.drop _).length ≤ i
      rw [List.length_drop]; omega
/-- what a push comes to: all of it, sure; or a fall in its midst -/
theorem push_on {f n : Int} {N : Nat} {s : AS} {i : Nat} {a : Int} {l : List (BitVec 64)} (h : okS s N i) (hh : hasB N f n a l.length) :
    ((pushA s f n a l).2 = 0 ∧ (pushA s f n a l).1.L = (flushL (storesL s.L (f * 8 + a) l) (linesOf f a l.length)).map fenceM ∧ okS (pushA s f n a l).1 N (i + l.length)) ∨
    ((pushA s f n a l).2 = 14 ∧ (pushA s f n a l).1.off = true ∧ ((∃ j, (pushA s f n a l).1.L = fallM s.K (storesL s.L (f * 8 + a) (l.take j))) ∨ (pushA s f n a l).1.L = fallM s.K (flushL (storesL s.L (f * 8 + a) l) (linesOf f a l.length)))) := by
  obtain ⟨hw, h0, h1, h2, h3⟩ := id hh
  obtain ⟨w1, w2, w3, w4⟩ := id hw
  unfold pushA
  rw [h.len, if_pos hh]
  rcases stores_on hw l h h0 (by omega) with ⟨r1, r2, r3, r4⟩ | ⟨r1, r2, j, r3, r4⟩
  · rw [if_pos r1]
    have hmay : (storesA s f n a l).1.may (linesOf f a l.length) := fun x hx => by
      have := linesOf_mem hx
      rw [r4.len]; omega
    rcases flush_on2 r4 hmay with ⟨q1, q2, q3, q4, q5⟩ | ⟨q1, q2, q3⟩
    · rw [if_pos q2]
      rcases fence_on2 q5 with ⟨p1, p2, p3, p4, p5⟩ | ⟨p1, p2, p3⟩
      · exact .inl ⟨p2, by show (((storesA s f n a l).1.flush _).fence).L = _; rw [p3, q3, r2], p5⟩
      · refine .inr ⟨p2, by show (((storesA s f n a l).1.flush _).fence).off = true; rw [p3]; rfl, .inr ?_⟩
        show (((storesA s f n a l).1.flush _).fence).L = _
        rw [p3]
        show fallM _ _ = _
        rw [q4, r3, q3, r2]
    · rw [if_neg (by omega)]
      refine .inr ⟨q2, by show ((storesA s f n a l).1.flush _).off = true; rw [q3]; rfl, .inl ⟨l.length, ?_⟩⟩
      show ((storesA s f n a l).1.flush _).L = _
      rw [q3]
      show fallM _ _ = _
      rw [r3, r2, List.take_length]
  · rw [if_neg (by omega)]
    exact .inr ⟨r1, r2, .inl ⟨j, r4⟩⟩
/-- pushed words are sure -/
theorem push_sure {f n : Int} {N : Nat} {L : List LM} {a : Int} {l : List (BitVec 64)} (h : okLs L N) (hh : hasB N f n a l.length) (K : List Int) {j : Nat} (hj : j < l.length) :
    (allN (fallM K ((flushL (storesL L (f * 8 + a) l) (linesOf f a l.length)).map fenceM)))[(f * 8 + a).toNat + j]? = l[j]? := by
  obtain ⟨hw, h0, h1, h2, h3⟩ := id hh
  obtain ⟨w1, w2, w3, w4⟩ := id hw
  obtain ⟨b, hb⟩ : ∃ b : Nat, f * 8 + a = (b : Int) := ⟨(f * 8 + a).toNat, by omega⟩
  rw [hb, show ((b : Int)).toNat = b by omega]
  have hs := h.sts l (b := (b : Int)) (by omega) (by omega)
  have hl : ∀ i ∈ linesOf f a l.length, 0 ≤ i ∧ i < (storesL L (b : Int) l).length := fun i hi => by
    have := linesOf_mem hi
    rw [hs.len]; omega
  rw [fall_same ((hs.fl hl).fe) K (by omega) (fun x hx => fenced_none hl (mem_linesOf (by omega) (by omega)) hx), allN_fence, allN_flush hl, allN_sts l h (by omega), if_pos (by omega), Nat.add_sub_cancel_left]
end Go.Proofs.Ytenncnbaoejekaa

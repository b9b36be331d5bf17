/-
  Heads' images: made, and found.
-/
import Derived.Test.YtenncnbaoejekaaHdB
import Derived.Test.YtenncnbaoejekaaSc
set_option linter.unusedSimpArgs false
namespace Go.Proofs.Ytenncnbaoejekaa
open Go.RowKit Ev
def imgA (A l : List (BitVec 64)) (i : Nat) : List (BitVec 64) := if A.length = 8 then l.set i (wat A i) else l
def imgB (n : Nat) (B l : List (BitVec 64)) (i : Nat) : List (BitVec 64) := if B.length = 8 then l.set (n - 8 + i) (wat B i) else l
def imgF (n : Nat) (A B : List (BitVec 64)) : Nat → List (BitVec 64)
  | 0 => List.replicate n 0#64
  | i + 1 => imgB n B (imgA A (imgF n A B i) i) i
theorem imgA_get (A l : List (BitVec 64)) (i j : Nat) (v : BitVec 64) (h : l[j]? = some v) : (imgA A l i)[j]? = some (if i = j ∧ A.length = 8 then wat A j else v) := by
  have hl := lt_of_get h
  unfold imgA
  by_cases hA : A.length = 8
  · rw [if_pos hA]
    by_cases hij : i = j
    · subst hij; rw [List.getElem?_set_self hl, if_pos ⟨rfl, hA⟩]
    · rw [List.getElem?_set_ne hij, if_neg (fun h => hij h.1)]; exact h
  · rw [if_neg hA, if_neg (fun h => hA h.2)]; exact h
theorem imgB_get (n : Nat) (B l : List (BitVec 64)) (i j : Nat) (v : BitVec 64) (h : l[j]? = some v) : (imgB n B l i)[j]? = some (if n - 8 + i = j ∧ B.length = 8 then wat B i else v) := by
  have hl := lt_of_get h
  unfold imgB
  by_cases hA : B.length = 8
  · rw [if_pos hA]
    by_cases hij : n - 8 + i = j
    · subst hij; rw [List.getElem?_set_self hl, if_pos ⟨rfl, hA⟩]
    · rw [List.getElem?_set_ne hij, if_neg (fun h => hij h.1)]; exact h
  · rw [if_neg hA, if_neg (fun h => hA h.2)]; exact h
theorem imgF_get {n : Nat} (A B : List (BitVec 64)) (hn : 16 ≤ n) : ∀ (i j : Nat), i ≤ 8 → j < n → (imgF n A B i)[j]? = some (if j < i ∧ A.length = 8 then wat A j else if (n - 8 ≤ j ∧ j < n - 8 + i) ∧ B.length = 8 then wat B (j - (n - 8)) else 0#64)
  | 0, j, _, hj => by
    rw [if_neg (fun h => by omega), if_neg (fun h => by omega)]
    show (List.replicate n 0#64)[j]? = _
    rw [List.getElem?_replicate, if_pos hj]
  | i + 1, j, hi, hj => by
    have h1 := imgF_get A B hn i j (by omega) hj
    have h2 := imgB_get n B _ i j _ (imgA_get A _ i j _ h1)
    show (imgB n B (imgA A (imgF n A B i) i) i)[j]? = _
    rw [h2]
    congr 1
    by_cases hA : A.length = 8 <;> by_cases hB : B.length = 8
    · simp only [hA, hB, and_true]
      by_cases c1 : n - 8 + i = j
      · rw [if_pos c1, if_neg (by omega), if_pos (by omega)]; congr 1; omega
      · rw [if_neg c1]
        by_cases c2 : i = j
        · rw [if_pos c2, if_pos (by omega)]
        · rw [if_neg c2]
          by_cases c3 : j < i
          · rw [if_pos c3, if_pos (by omega)]
          · rw [if_neg c3, if_neg (show ¬ j < i + 1 by omega)]
            by_cases c4 : n - 8 ≤ j ∧ j < n - 8 + i
            · rw [if_pos c4, if_pos (by omega)]
            · rw [if_neg c4, if_neg (by omega)]
    · simp only [hA, hB, and_true, and_false, if_false]
      by_cases c2 : i = j
      · rw [if_pos c2, if_pos (by omega)]
      · rw [if_neg c2]
        by_cases c3 : j < i
        · rw [if_pos c3, if_pos (by omega)]
        · rw [if_neg c3, if_neg (show ¬ j < i + 1 by omega)]
    · simp only [hA, hB, and_true, and_false, if_false]
      by_cases c1 : n - 8 + i = j
      · rw [if_pos c1, if_pos (by omega)]; congr 1; omega
      · rw [if_neg c1]
        by_cases c4 : n - 8 ≤ j ∧ j < n - 8 + i
        · rw [if_pos c4, if_pos (by omega)]
        · rw [if_neg c4, if_neg (by omega)]
    · simp only [hA, hB, and_false, if_false]
theorem imgF_length (n : Nat) (A B : List (BitVec 64)) : ∀ i, (imgF n A B i).length = n
  | 0 => by simp [imgF]
  | i + 1 => by
    have := imgF_length n A B i
    show (imgB n B (imgA A (imgF n A B i) i) i).length = n
    unfold imgB imgA
    split <;> split <;> simp [this]
def orNo (A : List (BitVec 64)) : List (BitVec 64) := if A.length = 8 then A else List.replicate 8 0#64
theorem orNo_length (A : List (BitVec 64)) : (orNo A).length = 8 := by unfold orNo; split <;> simp [*]
theorem img_head {n : Nat} (A B : List (BitVec 64)) (hn : 16 ≤ n) : (imgF n A B 8).take 8 = orNo A := by
  apply List.ext_getElem?
  intro j
  rw [List.getElem?_take]
  by_cases hj : j < 8
  · rw [if_pos hj, imgF_get A B hn 8 j (Nat.le_refl _) (by omega)]
    unfold orNo
    by_cases hA : A.length = 8
    · rw [if_pos ⟨hj, hA⟩, if_pos hA, wat_get (by omega)]
    · rw [if_neg (fun h => hA h.2), if_neg (by omega), if_neg hA, List.getElem?_replicate, if_pos hj]
  · rw [if_neg hj, List.getElem?_eq_none (by rw [orNo_length]; omega)]
theorem img_tail {n : Nat} (A B : List (BitVec 64)) (hn : 16 ≤ n) : (imgF n A B 8).drop (n - 8) = orNo B := by
  apply List.ext_getElem?
  intro j
  rw [List.getElem?_drop]
  by_cases hj : j < 8
  · rw [imgF_get A B hn 8 _ (Nat.le_refl _) (by omega), if_neg (by omega)]
    unfold orNo
    by_cases hB : B.length = 8
    · rw [if_pos ⟨by omega, hB⟩, if_pos hB, show n - 8 + j - (n - 8) = j by omega, wat_get (by omega)]
    · rw [if_neg (fun h => hB h.2), if_neg hB, List.getElem?_replicate, if_pos hj]
  · rw [List.getElem?_eq_none (by rw [imgF_length]; omega), List.getElem?_eq_none (by rw [orNo_length]; omega)]
theorem getH_zero : getH (List.replicate 8 0#64) = none := by decide +kernel
def imI (st : St) (bl n : Nat) (x y z : V) (A B : List (BitVec 64)) (e : Env) (s : St) : Prop := ∃ i : Nat, i ≤ 8 ∧ e.get 0 = some (.int .i64 (bl : Int)) ∧ e.get 1 = some x ∧ e.get 2 = some y ∧ e.get 7 = some z ∧ e.get 8 = some (.int .i64 (i : Int)) ∧ SlRow st.nx s z n (imgF n A B i) ∧ Ext st.nx st s
def imJ (st : St) (bl n : Nat) (x y z : V) (l : List (BitVec 64)) (i : Nat) (r : X × Env × St) : Prop := ∃ (e : Env) (s : St), r = (.n, e, s) ∧ e.get 0 = some (.int .i64 (bl : Int)) ∧ e.get 1 = some x ∧ e.get 2 = some y ∧ e.get 7 = some z ∧ e.get 8 = some (.int .i64 (i : Int)) ∧ SlRow st.nx s z n l ∧ Ext st.nx st s
set_option maxRecDepth 20000 in
set_option maxHeartbeats 4000000 in
theorem image_any (st : St) (bl : Nat) (hb : 64 ≤ bl ∧ bl ≤ 1024) (x y : V) (A B : List (BitVec 64)) (hx : RdRow st x 1 A.length (wv A)) (hy : RdRow st y 1 B.length (wv B)) (nt : Nat) :
    Gd (callL Try.prog ⟨false, [], 0, nt⟩ 62 [.int .i64 (bl : Int), x, y] st) fun r => SlRow st.nx r.2 r.1 (8 * bl) (imgF (8 * bl) A B 8) ∧ Ext st.nx st r.2 := by
  rw [Gd_callL Try.func62 rfl]
  obtain ⟨n, hn⟩ : ∃ n, n = 8 * bl := ⟨_, rfl⟩
  rw [← hn]
  have w1 : IntKind.i64.wrap (8 * (bl : Int)) = (n : Int) := by rw [show 8 * (bl : Int) = (n : Int) by omega]; exact wrap_in (by omega) (by omega)
  obtain ⟨m0, hm0⟩ : ∃ m0, m0 = n - 8 := ⟨_, rfl⟩
  have w2 : IntKind.i64.wrap ((n : Int) - 8) = (m0 : Int) := by rw [show (n : Int) - 8 = (m0 : Int) by omega]; exact wrap_in (by omega) (by omega)
  simp [evOp_call, sets, T.get_set, w1]
  refine Gd_make (i := .i64) (i' := .i64) (n := n) (q := n) (fun k => el30 k) io31 (fun k => ze31 k) (by simp [T.get_set]) (by simp [T.get_set]) (Nat.le_refl _) (by omega) ?_
  have hm := SlRow.made (b := st.nx) (n := n) (st := st) (el := 31) (Nat.le_refl _) (by decide)
  have he : ∀ v, Ext st.nx st ⟨st.nx + 1, st.h.set st.nx v⟩ := fun v => (Ext.refl _ _).new (Nat.le_refl _) _
  simp [evOp_call, T.get_set]
  refine Gd_loop (imI st bl n x y (.sl st.nx 0 n n) A B) (fun en _ => muAt 8 8 en) ?_ ?_
  · exact ⟨0, Nat.zero_le _, by simp [T.get_set], by simp [T.get_set], by simp [T.get_set], by simp [T.get_set], by simp [T.get_set], hm, he _⟩
  · rintro en s ⟨i, hi, g0, g1, g2, g7, g8, hz, hs⟩
    by_cases hlt : i < 8
    · have hlt' : (i : Int) < 8 := by omega
      have hwi := wrap_nat (n := i) (by omega)
      obtain ⟨q, hq⟩ : ∃ q, q = m0 + i := ⟨_, rfl⟩
      have w3 : IntKind.i64.wrap ((m0 : Int) + (i : Int)) = (q : Int) := by rw [show (m0 : Int) + (i : Int) = (q : Int) by omega]; exact wrap_in (by omega) (by omega)
      have hqn : q < n := by omega
      simp [evOp_call, T.get_set, g0, g1, g2, g7, g8, hlt', hx.lenS]
      refine condK_join (imJ st bl n x y (.sl st.nx 0 n n) (imgA A (imgF n A B i) i) i) ?_ ?_
      · by_cases hA : A.length = 8
        · have hA' : (A.length : Int) = 8 := by omega
          have hxs := hx.ext hs
          obtain ⟨m1, o1, ty1, sz1, t1, i1, b1, k1, l1, c1⟩ := hxs.idx (st := s) un30 io31 (i := i) (by omega)
          have d1 : t1.get o1 = some (wd (wat A i)) := c1 0 _ (by omega) (by simpa using wv_get (wat_get (L := A) (i := i) (by omega)))
          obtain ⟨m2, ty2, tr2, hz2, hb2, hm2, hg2, hro2, hc2, hput⟩ := hz.put (i := i) (by omega)
          injection hz2 with hz2
          subst hz2
          have hin : i < n := by omega
          have hin1 : i + 1 ≤ n := hin
          simp [evOp_call, T.get_set, g0, g1, g2, g7, g8, hA', i1, loadE_eq, getC_eq, k1, d1, hin, hin1, hg2, putB_eq, hro2]
          refine ⟨_, _, rfl, by simp [T.get_set, g0], by simp [T.get_set, g1], by simp [T.get_set, g2], by simp [T.get_set, g7], by simp [T.get_set, g8], ?_, hs.set (by omega) hm2 _⟩
          unfold imgA; rw [if_pos hA]
          exact hput _
        · have hA' : ¬ (A.length : Int) = 8 := by omega
          simp [hA']
          refine ⟨_, _, rfl, by simp [T.get_set, g0], by simp [T.get_set, g1], by simp [T.get_set, g2], by simp [T.get_set, g7], by simp [T.get_set, g8], ?_, hs⟩
          unfold imgA; rw [if_neg hA]
          exact hz
      · rintro _ ⟨en2, s2, rfl, e0, e1, e2, e7, e8, hz, hs⟩
        simp [evOp_call, T.get_set, e0, e1, e2, e7, e8, hy.lenS]
        by_cases hB : B.length = 8
        · have hB' : (B.length : Int) = 8 := by omega
          have hys := hy.ext hs
          obtain ⟨m1, o1, ty1, sz1, t1, i1, b1, k1, l1, c1⟩ := hys.idx (st := s2) un30 io31 (i := i) (by omega)
          have d1 : t1.get o1 = some (wd (wat B i)) := c1 0 _ (by omega) (by simpa using wv_get (wat_get (L := B) (i := i) (by omega)))
          obtain ⟨m2, ty2, tr2, hz2, hb2, hm2, hg2, hro2, hc2, hput⟩ := hz.put (i := q) hqn
          injection hz2 with hz2
          subst hz2
          have hqn1 : q + 1 ≤ n := hqn
          simp [evOp_call, T.get_set, e0, e1, e2, e7, e8, hB', i1, loadE_eq, getC_eq, k1, d1, hqn, hqn1, hg2, putB_eq, hro2, w1, w2, w3, hwi]
          refine ⟨⟨i + 1, hlt, by simp [T.get_set, e0], by simp [T.get_set, e1], by simp [T.get_set, e2], by simp [T.get_set, e7], by simp [T.get_set], ?_, hs.set (by omega) hm2 _⟩, muAt_lt g8 (by simp [T.get_set]) hlt⟩
          show SlRow _ _ _ n (imgB n B (imgA A (imgF n A B i) i) i)
          unfold imgB; rw [if_pos hB, ← hm0, ← hq]
          exact hput _
        · have hB' : ¬ (B.length : Int) = 8 := by omega
          simp [evOp_call, T.get_set, e0, e1, e2, e7, e8, hB', hwi]
          refine ⟨⟨i + 1, hlt, by simp [T.get_set, e0], by simp [T.get_set, e1], by simp [T.get_set, e2], by simp [T.get_set, e7], by simp [T.get_set], ?_, hs⟩, muAt_lt g8 (by simp [T.get_set]) hlt⟩
          show SlRow _ _ _ n (imgB n B (imgA A (imgF n A B i) i) i)
          unfold imgB; rw [if_neg hB]
          exact hz
    · obtain rfl : i = 8 := by omega
      simp [evOp_call, T.get_set, g0, g1, g2, g7, g8]
      exact ⟨hz, hs⟩
end Go.Proofs.Ytenncnbaoejekaa

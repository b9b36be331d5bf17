/-
  PLAIN: what a book on a part of a memory comes to.
-/
import Derived.Test.YtdoennkmcloalaaSpH
import Derived.Test.YtdoennkmcloalaaBkR
set_option linter.unusedSimpArgs false
namespace Go.Proofs.Ytdoennkmcloalaa
open Go.RowKit Ev
/-- no store is open -/
def allO (L : List LM) : Prop := ∀ m ∈ L, m.O = []
theorem storesL_other : ∀ (l : List (BitVec 64)) {L : List LM} {b : Int} {i : Nat}, 0 ≤ b → (∀ p : Int, b ≤ p → p < b + l.length → p / 8 ≠ (i : Int)) → (storesL L b l)[i]? = L[i]?
  | [], _, _, _, _, _ => rfl
  | w :: l, L, b, i, hb, h => by
    show (storesL (stL L b w) (b + 1) l)[i]? = _
    have hl : ((w :: l).length : Int) = l.length + 1 := by simp
    have h0 := h b (by omega) (by omega)
    rw [storesL_other l (by omega) (fun p h1 h2 => h p (by omega) (by omega))]
    unfold stL
    rw [List.getElem?_set_ne (by omega)]
theorem allO_push {f n : Int} {N : Nat} {L : List LM} {a : Int} {l : List (BitVec 64)} (h : okLs L N) (hh : hasB N f n a l.length) (ho : allO L) : allO ((flushL (storesL L (f * 8 + a) l) (linesOf f a l.length)).map fenceM) := by
  obtain ⟨hw, h0, h1, h2, h3⟩ := id hh
  obtain ⟨w1, w2, w3, w4⟩ := id hw
  have hs := h.sts l (b := f * 8 + a) (by omega) (by omega)
  have hl : ∀ i ∈ linesOf f a l.length, 0 ≤ i ∧ i < (storesL L (f * 8 + a) l).length := fun i hi => by
    have := linesOf_mem hi
    rw [hs.len]; omega
  intro x hx
  obtain ⟨j, hj⟩ := List.mem_iff_getElem?.1 hx
  by_cases hm : (j : Int) ∈ linesOf f a l.length
  · exact fenced_none hl hm hj
  · rw [List.getElem?_map] at hj
    cases hm2 : (flushL (storesL L (f * 8 + a) l) (linesOf f a l.length))[j]? with
    | none => rw [hm2] at hj; cases hj
    | some m =>
      rw [hm2] at hj
      injection hj with hj
      obtain ⟨m0, h4, _, _, q3⟩ := flushL_at hl hm2
      rw [storesL_other l (by omega) (fun p p1 p2 e => hm (mem_linesOf (by omega) (by omega)))] at h4
      have e := ho m0 (List.mem_of_getElem? h4)
      rw [← hj]
      show m.O.drop _ = []
      rw [q3, e, List.drop_nil]
theorem fall_allO {L : List LM} (h : allO L) (K : List Int) : fallM K L = L := by
  apply List.ext_getElem?
  intro i
  unfold fallM
  rw [List.getElem?_mapIdx]
  cases hm : L[i]? with
  | none => rfl
  | some m =>
    have e := h m (List.mem_of_getElem? hm)
    simp [e]
theorem okAs_still {P : Nat → BitVec 64 → Prop} {L : List LM} {N : Nat} (h : okLs L N) (ho : allO L) (hp : ∀ k v, (allN L)[k]? = some v → P k v) : okAs P L := fun i m hm => by
  have hmem := List.mem_of_getElem? hm
  have e := ho m hmem
  have hk := h.ok m hmem
  refine ⟨fun p v hp8 hv => ?_, fun r hr => by rw [e] at hr; cases hr⟩
  refine hp _ _ ?_
  rw [allN_get h.nl hm hp8, hk.n, e]
  exact hv
theorem okAs.all {P : Nat → BitVec 64 → Prop} {L : List LM} {N : Nat} (h : okAs P L) (ho : okLs L N) (ha : allO L) : ∀ k v, (allN L)[k]? = some v → P k v := by
  have := h.fall ho []
  rwa [fall_allO ha] at this
/-- a push under a fuse, where every word that may come is one of P -/
theorem push_P {P : Nat → BitVec 64 → Prop} {f n : Int} {N i b : Nat} {s : AS} {a : Int} {l : List (BitVec 64)} (h : okS s N i) (hP : okAs P s.L) (hh : hasB N f n a l.length) (hb : f * 8 + a = (b : Int)) (hl : ∀ j w, l[j]? = some w → P (b + j) w) :
    ((pushA s f n a l).2 = 0 ∧ okS (pushA s f n a l).1 N (i + l.length) ∧ okAs P (pushA s f n a l).1.L ∧ (pushA s f n a l).1.L = (flushL (storesL s.L (f * 8 + a) l) (linesOf f a l.length)).map fenceM) ∨
    ((pushA s f n a l).2 = 14 ∧ (pushA s f n a l).1.off = true ∧ okLs (pushA s f n a l).1.L N ∧ ∀ k v, (allN (pushA s f n a l).1.L)[k]? = some v → P k v) := by
  obtain ⟨hw, h0, h1, h2, h3⟩ := id hh
  obtain ⟨w1, w2, w3, w4⟩ := id hw
  have hs := h.ls.sts l (b := f * 8 + a) (by omega) (by omega)
  have hAs : okAs P (storesL s.L (f * 8 + a) l) := by
    rw [hb]; exact hP.sts l h.ls (by omega) hl
  have hl2 : ∀ i ∈ linesOf f a l.length, 0 ≤ i ∧ i < (storesL s.L (f * 8 + a) l).length := fun i hi => by
    have := linesOf_mem hi
    rw [hs.len]; omega
  rcases push_on h hh with ⟨q1, q2, q3⟩ | ⟨q1, q2, q3⟩
  · exact .inl ⟨q1, q3, by rw [q2]; exact (hAs.fl hl2).fe (hs.fl hl2), q2⟩
  · refine .inr ⟨q1, q2, ?_⟩
    rcases q3 with ⟨j, q3⟩ | q3
    · have hlen : (l.take j).length ≤ l.length := by simp; omega
      have hs2 := h.ls.sts (l.take j) (b := f * 8 + a) (by omega) (by omega)
      have : okAs P (storesL s.L (f * 8 + a) (l.take j)) := by
        rw [hb]
        refine hP.sts (l.take j) h.ls (by omega) fun k w hk => hl k w ?_
        rw [List.getElem?_take] at hk
        split at hk
        · exact hk
        · cases hk
      rw [q3]
      exact ⟨hs2.fall s.K, this.fall hs2 s.K⟩
    · rw [q3]
      exact ⟨(hs.fl hl2).fall s.K, (hAs.fl hl2).fall (hs.fl hl2) s.K⟩
/-- what Keep comes to -/
def keepA (s : AS) (f n : Int) (num : BitVec 64) (K : List (Int × BitVec 64)) : AS × Int :=
  if (putR num K).length = 0 ∨ n * 8 - 8 < (putR num K).length then (s, 1)
  else if s.swordE f n 0 ≠ 0 then (s, s.swordE f n 0)
  else if s.sword f n 0 ≠ 0#64 then (s, 15)
  else if (pushA s f n 8 (putR num K)).2 ≠ 0 then pushA s f n 8 (putR num K)
  else pushA (pushA s f n 8 (putR num K)).1 f n 0 [num]
def clearA (s : AS) (f n : Int) : AS × Int := pushA s f n 0 [0#64]
/-- a record stands in words from b on -/
structure Stands (W : List (BitVec 64)) (b : Nat) (num : BitVec 64) (K : List (Int × BitVec 64)) : Prop where
  mark : W[b]? = some num
  put : ∀ j, j < (putR num K).length → W[b + 8 + j]? = (putR num K)[j]?
def spanL (s : AS) (f n : Int) : List (BitVec 64) := (List.range (8 * n).toNat).map fun j : Nat => s.sword f n (j : Int)
def readO (L : List (BitVec 64)) : Option (BitVec 64 × List (Int × BitVec 64)) := if wat L 0 = 0#64 then none else if getOk (L.drop 8) ∧ getN (L.drop 8) = wat L 0 then some (wat L 0, getK (L.drop 8)) else none
theorem spanL_length (s : AS) (f n : Int) : (spanL s f n).length = (8 * n).toNat := by simp [spanL]
theorem spanL_get {s : AS} {f n : Int} {N : Nat} (h : okLs s.L N) (h0 : s.off = false) (hw : winB f n N) {j : Nat} (hj : j < (8 * n).toNat) : (spanL s f n)[j]? = (allN s.L)[(f * 8).toNat + j]? := by
  obtain ⟨w1, w2, w3, w4⟩ := id hw
  unfold spanL
  rw [List.getElem?_map, List.getElem?_range hj]
  have hh : hasB s.L.length f n (j : Int) 1 := ⟨by rw [h.len]; exact hw, by omega, by omega, by omega, by omega⟩
  simp only [Option.map_some]
  unfold AS.sword
  rw [if_pos hh, load_allN h h0 (by omega), show (((f * 8).toNat + j : Nat) : Int) = f * 8 + (j : Int) by omega]
theorem read_stands {s : AS} {f n : Int} {N : Nat} (h : okLs s.L N) (h0 : s.off = false) (hw : winB f n N) {num : BitVec 64} {K : List (Int × BitVec 64)} (hf : fitsR num K) (hlen : ((putR num K).length : Int) ≤ n * 8 - 8) (hs : Stands (allN s.L) (f * 8).toNat num K) : readO (spanL s f n) = some (num, K) := by
  have hl := spanL_length s f n
  have hpl := putR_length hf
  have hm : wat (spanL s f n) 0 = num := by
    unfold wat; rw [spanL_get h h0 hw (by omega), Nat.add_zero, hs.mark]; rfl
  have hd : (spanL s f n).drop 8 = putR num K ++ ((spanL s f n).drop 8).drop (putR num K).length := by
    have : ((spanL s f n).drop 8).take (putR num K).length = putR num K := by
      apply List.ext_getElem?
      intro j
      rw [List.getElem?_take]
      split
      · rename_i hj
        rw [List.getElem?_drop, spanL_get h h0 hw (by omega), show (f * 8).toNat + (8 + j) = (f * 8).toNat + 8 + j by omega]
        exact hs.put j hj
      · rw [List.getElem?_eq_none (by omega)]
    conv => lhs; rw [← List.take_append_drop (putR num K).length ((spanL s f n).drop 8), this]
  obtain ⟨g1, g2, g3⟩ := getOk_back hf (((spanL s f n).drop 8).drop (putR num K).length)
  unfold readO
  rw [hm, if_neg hf.1, hd, if_pos ⟨g1, g2⟩, g3]
theorem read_none {s : AS} {f n : Int} {N : Nat} (h : okLs s.L N) (h0 : s.off = false) (hw : winB f n N) (hm : (allN s.L)[(f * 8).toNat]? = some 0#64) : readO (spanL s f n) = none := by
  obtain ⟨w1, w2, w3, w4⟩ := id hw
  have : wat (spanL s f n) 0 = 0#64 := by
    unfold wat; rw [spanL_get h h0 hw (by omega), Nat.add_zero, hm]; rfl
  unfold readO
  rw [if_pos this]
theorem sword_zero {s : AS} {f n : Int} {N : Nat} (h : okLs s.L N) (h0 : s.off = false) (hw : winB f n N) : s.swordE f n 0 = 0 ∧ (allN s.L)[(f * 8).toNat]? = some (s.sword f n 0) := by
  obtain ⟨w1, w2, w3, w4⟩ := id hw
  have hh : hasB s.L.length f n 0 1 := ⟨by rw [h.len]; exact hw, by omega, by omega, by omega, by omega⟩
  unfold AS.sword AS.swordE
  rw [if_pos hh, if_pos hh]
  constructor
  · unfold AS.loadE
    have : s.in8 (f * 8) := ⟨by omega, by rw [h.len]; omega⟩
    simp [h0, this]
  · have := load_allN h h0 (p := (f * 8).toNat) (by omega)
    rw [this, show (((f * 8).toNat : Nat) : Int) = f * 8 + 0 by omega]
/-- a record kept: all of it; or, behind a fall, no mark, or all of it -/
theorem keep_P {f n : Int} {N i : Nat} {s : AS} {num : BitVec 64} {K : List (Int × BitVec 64)} (h : okS s N i) (ho : allO s.L) (hw : winB f n N) (hf : fitsR num K) (hlen : ((putR num K).length : Int) ≤ n * 8 - 8) (hm : (allN s.L)[(f * 8).toNat]? = some 0#64) :
    ((keepA s f n num K).2 = 0 ∧ okS (keepA s f n num K).1 N (i + (putR num K).length + 1) ∧ allO (keepA s f n num K).1.L ∧ Stands (allN (keepA s f n num K).1.L) (f * 8).toNat num K ∧ allN (keepA s f n num K).1.L = setFrom (setFrom (allN s.L) ((f * 8).toNat + 8) (putR num K) (putR num K).length) (f * 8).toNat [num] 1) ∨
    ((keepA s f n num K).2 = 14 ∧ (keepA s f n num K).1.off = true ∧ okLs (keepA s f n num K).1.L N ∧ ((allN (keepA s f n num K).1.L)[(f * 8).toNat]? = some 0#64 ∨ Stands (allN (keepA s f n num K).1.L) (f * 8).toNat num K)) := by
  obtain ⟨w1, w2, w3, w4⟩ := id hw
  have hpl := putR_length hf
  obtain ⟨e1, e2⟩ := sword_zero h.ls h.off hw
  have e3 : s.sword f n 0 = 0#64 := by rw [hm] at e2; injection e2 with e2; exact e2.symm
  have hh : hasB N f n 8 (putR num K).length := ⟨hw, by omega, by omega, by omega, by omega⟩
  have hb : f * 8 + 8 = (((f * 8).toNat + 8 : Nat) : Int) := by omega
  have hb0 : f * 8 + 0 = (((f * 8).toNat : Nat) : Int) := by omega
  have hh0 : ∀ k : BitVec 64, hasB N f n 0 [k].length := fun _ => ⟨hw, by omega, by simp, by simp; omega, by simp; omega⟩
  have hN := h.ls.nlen
  unfold keepA
  rw [if_neg (by omega), if_neg (by omega), if_neg (by rw [e3]; simp)]
  have hP1 : okAs (fun p w => p = (f * 8).toNat → w = 0#64) s.L := okAs_still h.ls ho fun k v hv e => by
    subst e; rw [hm] at hv; injection hv with hv; exact hv.symm
  rcases push_P (l := putR num K) (a := 8) h hP1 hh hb (fun j w _ e => by omega) with ⟨q1, q2, _, q4⟩ | ⟨q1, q2, q3, q4⟩
  · have ho1 : allO (pushA s f n 8 (putR num K)).1.L := by rw [q4]; exact allO_push h.ls hh ho
    have hW1 : allN (pushA s f n 8 (putR num K)).1.L = setFrom (allN s.L) ((f * 8).toNat + 8) (putR num K) (putR num K).length := by rw [q4]; exact allN_push h.ls hh hb
    have hg : ∀ p, p < 8 * N → (allN (pushA s f n 8 (putR num K)).1.L)[p]? = some (if (f * 8).toNat + 8 ≤ p ∧ p < (f * 8).toNat + 8 + (putR num K).length then (putR num K)[p - ((f * 8).toNat + 8)]?.getD 0#64 else (allN s.L)[p]?.getD 0#64) := fun p hp => by
      rw [hW1, setFrom_get (by omega)]
    rw [if_neg (by omega)]
    have hP2 : okAs (fun p w => (p = (f * 8).toNat → w = 0#64 ∨ w = num) ∧ ∀ j, j < (putR num K).length → p = (f * 8).toNat + 8 + j → (putR num K)[j]? = some w) (pushA s f n 8 (putR num K)).1.L := okAs_still q2.ls ho1 fun k v hv => by
      have hk : k < 8 * N := by have := lt_of_get hv; rwa [q2.ls.nlen] at this
      rw [hg k hk] at hv
      injection hv with hv
      constructor
      · intro e
        subst e
        rw [if_neg (by omega), hm] at hv
        exact .inl hv.symm
      · intro j hj e
        subst e
        rw [if_pos (by omega), Nat.add_sub_cancel_left] at hv
        rw [← hv, List.getElem?_eq_getElem hj]; rfl
    have hst : ∀ L : List LM, okLs L N → (∀ k v, (allN L)[k]? = some v → (k = (f * 8).toNat → v = 0#64 ∨ v = num) ∧ ∀ j, j < (putR num K).length → k = (f * 8).toNat + 8 + j → (putR num K)[j]? = some v) → (allN L)[(f * 8).toNat]? = some 0#64 ∨ Stands (allN L) (f * 8).toNat num K := fun L hL hk => by
      have hn := hL.nlen
      obtain ⟨v, hv⟩ : ∃ v, (allN L)[(f * 8).toNat]? = some v := ⟨_, List.getElem?_eq_getElem (by omega)⟩
      rcases (hk _ v hv).1 rfl with rfl | rfl
      · exact .inl hv
      · refine .inr ⟨hv, fun j hj => ?_⟩
        obtain ⟨u, hu⟩ : ∃ u, (allN L)[(f * 8).toNat + 8 + j]? = some u := ⟨_, List.getElem?_eq_getElem (by omega)⟩
        rw [hu, (hk _ u hu).2 j hj rfl]
    rcases push_P (l := [num]) (a := 0) q2 hP2 (hh0 num) hb0 (fun j w hj => by
        have := lt_of_get hj
        have e : j = 0 := by simp at this; omega
        subst e
        simp at hj
        exact ⟨fun _ => .inr hj.symm, fun j _ e => by omega⟩) with ⟨r1, r2, r3, r4⟩ | ⟨r1, r2, r3, r4⟩
    · have ho2 : allO (pushA (pushA s f n 8 (putR num K)).1 f n 0 [num]).1.L := by rw [r4]; exact allO_push q2.ls (hh0 num) ho1
      have hW2 := allN_push (l := [num]) q2.ls (hh0 num) hb0
      rw [← r4, hW1] at hW2
      refine .inl ⟨r1, r2, ho2, ?_, hW2⟩
      rcases hst _ r2.ls (r3.all r2.ls ho2) with e | e
      · rw [hW2, setFrom_get (by rw [setFrom_len]; omega), if_pos (by simp)] at e
        simp at e
        exact (hf.1 e).elim
      · exact e
    · exact .inr ⟨r1, r2, r3, hst _ r3 r4⟩
  · rw [if_pos (by omega)]
    refine .inr ⟨q1, q2, q3, .inl ?_⟩
    have hn := q3.nlen
    obtain ⟨v, hv⟩ : ∃ v, (allN (pushA s f n 8 (putR num K)).1.L)[(f * 8).toNat]? = some v := ⟨_, List.getElem?_eq_getElem (by omega)⟩
    rw [hv, q4 _ v hv rfl]
/-- a record cleared -/
theorem clear_P {f n : Int} {N i : Nat} {s : AS} {num : BitVec 64} {K : List (Int × BitVec 64)} (h : okS s N i) (ho : allO s.L) (hw : winB f n N) (hlen : ((putR num K).length : Int) ≤ n * 8 - 8) (hs : Stands (allN s.L) (f * 8).toNat num K) :
    ((clearA s f n).2 = 0 ∧ okS (clearA s f n).1 N (i + 1) ∧ allO (clearA s f n).1.L ∧ (allN (clearA s f n).1.L)[(f * 8).toNat]? = some 0#64) ∨
    ((clearA s f n).2 = 14 ∧ (clearA s f n).1.off = true ∧ okLs (clearA s f n).1.L N ∧ ((allN (clearA s f n).1.L)[(f * 8).toNat]? = some 0#64 ∨ Stands (allN (clearA s f n).1.L) (f * 8).toNat num K)) := by
  obtain ⟨w1, w2, w3, w4⟩ := id hw
  have hb0 : f * 8 + 0 = (((f * 8).toNat : Nat) : Int) := by omega
  have hh0 : ∀ k : BitVec 64, hasB N f n 0 [k].length := fun _ => ⟨hw, by omega, by simp, by simp; omega, by simp; omega⟩
  have hN := h.ls.nlen
  have hP2 : okAs (fun p w => (p = (f * 8).toNat → w = 0#64 ∨ w = num) ∧ ∀ j, j < (putR num K).length → p = (f * 8).toNat + 8 + j → (putR num K)[j]? = some w) s.L := okAs_still h.ls ho fun k v hv => by
    constructor
    · intro e
      subst e
      rw [hs.mark] at hv
      injection hv with hv
      exact .inr hv.symm
    · intro j hj e
      subst e
      rw [← hs.put j hj, hv]
  unfold clearA
  rcases push_P (l := [0#64]) (a := 0) h hP2 (hh0 0#64) hb0 (fun j w hj => by
      have := lt_of_get hj
      have e : j = 0 := by simp at this; omega
      subst e
      simp at hj
      exact ⟨fun _ => .inl hj.symm, fun j _ e => by omega⟩) with ⟨r1, r2, r3, r4⟩ | ⟨r1, r2, r3, r4⟩
  · refine .inl ⟨r1, r2, by rw [r4]; exact allO_push h.ls (hh0 0#64) ho, ?_⟩
    have hW2 := allN_push (l := [0#64]) h.ls (hh0 0#64) hb0
    rw [r4, hW2, setFrom_get (by omega), if_pos (by simp)]
    simp
  · refine .inr ⟨r1, r2, r3, ?_⟩
    have hn := r3.nlen
    obtain ⟨v, hv⟩ : ∃ v, (allN (pushA s f n 0 [0#64]).1.L)[(f * 8).toNat]? = some v := ⟨_, List.getElem?_eq_getElem (by omega)⟩
    rcases (r4 _ v hv).1 rfl with rfl | rfl
    · exact .inl hv
    · refine .inr ⟨hv, fun j hj => ?_⟩
      obtain ⟨u, hu⟩ : ∃ u, (allN (pushA s f n 0 [0#64]).1.L)[(f * 8).toNat + 8 + j]? = some u := ⟨_, List.getElem?_eq_getElem (by omega)⟩
      rw [hu, (r4 _ u hu).2 j hj rfl]
/-- without a fuse nothing falls -/
theorem keep_calm {f n : Int} {N i : Nat} {s : AS} {num : BitVec 64} {K : List (Int × BitVec 64)} (h : calm s N i) (ho : allO s.L) (hw : winB f n N) (hf : fitsR num K) (hlen : ((putR num K).length : Int) ≤ n * 8 - 8) (hm : (allN s.L)[(f * 8).toNat]? = some 0#64) :
    (keepA s f n num K).2 = 0 ∧ calm (keepA s f n num K).1 N (i + (putR num K).length + 1) ∧ allO (keepA s f n num K).1.L ∧ Stands (allN (keepA s f n num K).1.L) (f * 8).toNat num K ∧ allN (keepA s f n num K).1.L = setFrom (setFrom (allN s.L) ((f * 8).toNat + 8) (putR num K) (putR num K).length) (f * 8).toNat [num] 1 := by
  obtain ⟨w1, w2, w3, w4⟩ := id hw
  have hpl := putR_length hf
  have hc : (keepA s f n num K).2 = 0 ∧ calm (keepA s f n num K).1 N (i + (putR num K).length + 1) := by
    obtain ⟨e1, e2⟩ := sword_zero h.ok.ls h.ok.off hw
    have e3 : s.sword f n 0 = 0#64 := by rw [hm] at e2; injection e2 with e2; exact e2.symm
    have hh : hasB N f n 8 (putR num K).length := ⟨hw, by omega, by omega, by omega, by omega⟩
    obtain ⟨p1, p2, _⟩ := calm.push h hh
    obtain ⟨q1, q2, _⟩ := calm.push (l := [num]) (a := 0) p2 (f := f) (n := n) ⟨hw, by omega, by simp, by simp; omega, by simp; omega⟩
    unfold keepA
    rw [if_neg (by omega), if_neg (by omega), if_neg (by rw [e3]; simp), if_neg (by omega)]
    exact ⟨q1, q2⟩
  rcases keep_P h.ok ho hw hf hlen hm with ⟨r1, r2, r3, r4, r5⟩ | ⟨r1, _⟩
  · exact ⟨hc.1, hc.2, r3, r4, r5⟩
  · have := hc.1; omega
theorem clear_calm {f n : Int} {N i : Nat} {s : AS} (h : calm s N i) (ho : allO s.L) (hw : winB f n N) :
    (clearA s f n).2 = 0 ∧ calm (clearA s f n).1 N (i + 1) ∧ allO (clearA s f n).1.L ∧ allN (clearA s f n).1.L = setFrom (allN s.L) (f * 8).toNat [0#64] 1 := by
  obtain ⟨w1, w2, w3, w4⟩ := id hw
  have hh : hasB N f n 0 [0#64].length := ⟨hw, by omega, by simp, by simp; omega, by simp; omega⟩
  obtain ⟨q1, q2, q3⟩ := calm.push (l := [0#64]) (a := 0) h hh
  refine ⟨q1, q2, ?_, ?_⟩
  · unfold clearA; rw [q3]; exact allO_push h.ok.ls hh ho
  · unfold clearA; rw [q3]; exact allN_push h.ok.ls hh (by omega)
end Go.Proofs.Ytdoennkmcloalaa

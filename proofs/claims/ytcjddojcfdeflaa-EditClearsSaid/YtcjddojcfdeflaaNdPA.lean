/-
  PLAIN: NdP, NdQ, Nd, NdA, in one text.
-/
import Derived.Test.YtcjddojcfdeflaaHdP
import Derived.Test.YtcjddojcfdeflaaSc
import Derived.Test.YtcjddojcfdeflaaSl
import Derived.Test.YtcjddojcfdeflaaTyAll
set_option linter.unusedSimpArgs false
namespace Go.Proofs.Ytcjddojcfdeflaa
open Go.RowKit Ev
structure Nd where
  t : Int
  l : Int
  s : Int
  R : List (Int × Int)
deriving DecidableEq
def okRun (r : Int × Int) : Prop := (0 ≤ r.1 ∧ r.1 ≤ 2147483648) ∧ 1 ≤ r.2 ∧ r.2 ≤ 2147483648
instance (r : Int × Int) : Decidable (okRun r) := by unfold okRun; infer_instance
def fitsT (N : Nd) : Prop := (1 ≤ N.t ∧ N.t ≤ 3) ∧ (0 ≤ N.l ∧ N.l ≤ 16777215) ∧ (0 ≤ N.s ∧ N.s ≤ 1099511627776) ∧ N.R.length ≤ 4 ∧ ∀ r ∈ N.R, okRun r
instance (N : Nd) : Decidable (fitsT N) := by unfold fitsT; infer_instance
def noneN (N : Nd) : Prop := N.l = 0 ∧ N.s = 0 ∧ N.R.length = 0
instance (N : Nd) : Decidable (noneN N) := by unfold noneN; infer_instance
def fitsN (N : Nd) : Prop := if N.t = 0 then noneN N else fitsT N
instance (N : Nd) : Decidable (fitsN N) := by unfold fitsN; split <;> infer_instance
def pkH (N : Nd) : BitVec 64 := BitVec.ofInt 64 N.t ||| BitVec.ofInt 64 N.l <<< 8
def pkR (r : Int × Int) : BitVec 64 := BitVec.ofInt 64 r.1 ||| BitVec.ofInt 64 r.2 <<< 32
def runsN (N : Nd) : Nat → List (BitVec 64)
  | 0 => ((List.replicate 8 0#64).set 0 (pkH N)).set 1 (BitVec.ofInt 64 N.s)
  | k + 1 => (runsN N k).set (2 + k) (pkR (N.R[k]?.getD (0, 0)))
theorem runsN_length (N : Nd) : ∀ k, (runsN N k).length = 8
  | 0 => by simp [runsN]
  | k + 1 => by unfold runsN; rw [List.length_set]; exact runsN_length N k
def bodyN (N : Nd) : List (BitVec 64) := runsN N N.R.length
def putN (N : Nd) : List (BitVec 64) := if fitsN N then (if N.t = 0 then List.replicate 8 0#64 else (bodyN N).set 7 (slOf ((bodyN N).take 7))) else []
/-- what is read -/
def unR (w : BitVec 64) : Int × Int := ((w &&& 4294967295#64).toInt, (w >>> 32).toInt)
def readR (L : List (BitVec 64)) (k : Nat) : List (Int × Int) := (((L.drop 2).take k).filter fun w => decide (w ≠ 0#64)).map unR
def readN (L : List (BitVec 64)) : Nd := ⟨(wat L 0 &&& 255#64).toInt, (wat L 0 >>> 8).toInt, (wat L 1).toInt, readR L 4⟩
def getNd (L : List (BitVec 64)) : Option Nd := if L.length = 8 ∧ putN (readN L) = L then some (readN L) else none
/-! ### packed words -/
theorem packN {a b k : Nat} (hk : k ≤ 32) (ha : a < 2 ^ k) (hb : b < 2 ^ (64 - k)) : (BitVec.ofNat 64 a ||| BitVec.ofNat 64 b <<< k).toNat = b * 2 ^ k + a := by
  have h1 : b * 2 ^ k < 2 ^ 64 := by
    calc b * 2 ^ k < 2 ^ (64 - k) * 2 ^ k := Nat.mul_lt_mul_of_pos_right hb (Nat.two_pow_pos k)
      _ = 2 ^ 64 := by rw [← Nat.pow_add]; congr 1; omega
  have h2 : a < 2 ^ 64 := Nat.lt_of_lt_of_le ha (Nat.pow_le_pow_right (by decide) (by omega))
  have h3 : b < 2 ^ 64 := Nat.lt_of_lt_of_le hb (Nat.pow_le_pow_right (by decide) (by omega))
  rw [BitVec.toNat_or, BitVec.toNat_shiftLeft, BitVec.toNat_ofNat, BitVec.toNat_ofNat, Nat.mod_eq_of_lt h2, Nat.mod_eq_of_lt h3, Nat.shiftLeft_eq, Nat.mod_eq_of_lt h1, Nat.or_comm, ← Nat.shiftLeft_eq, ← Nat.shiftLeft_add_eq_or_of_lt ha]
theorem toInt_ofN {w : BitVec 64} {n : Nat} (h : w.toNat = n) (h2 : n < 9223372036854775808) : w.toInt = (n : Int) := by
  rw [BitVec.toInt_eq_toNat_cond, h]; split <;> omega
theorem ofInt_nat (n : Nat) : BitVec.ofInt 64 (n : Int) = BitVec.ofNat 64 n := by simp
theorem unpack {a b k : Nat} (hk : k ≤ 32) (ha : a < 2 ^ k) (hb : b < 2 ^ (64 - k)) (m : BitVec 64) (hm : m.toNat = 2 ^ k - 1) :
    ((BitVec.ofNat 64 a ||| BitVec.ofNat 64 b <<< k) &&& m).toNat = a ∧ ((BitVec.ofNat 64 a ||| BitVec.ofNat 64 b <<< k) >>> k).toNat = b := by
  have h := packN hk ha hb
  constructor
  · rw [BitVec.toNat_and, h, hm, Nat.and_two_pow_sub_one_eq_mod, Nat.add_comm, Nat.add_mul_mod_self_right, Nat.mod_eq_of_lt ha]
  · rw [BitVec.toNat_ushiftRight, h, Nat.shiftRight_eq_div_pow, Nat.add_comm, Nat.add_mul_div_right _ _ (Nat.two_pow_pos k), Nat.div_eq_of_lt ha, Nat.zero_add]
theorem unR_pk {r : Int × Int} (h : okRun r) : unR (pkR r) = r ∧ pkR r ≠ 0#64 := by
  obtain ⟨⟨h1, h2⟩, h3, h4⟩ := h
  obtain ⟨f, n⟩ := r
  dsimp only at h1 h2 h3 h4
  obtain ⟨a, rfl⟩ := Int.eq_ofNat_of_zero_le h1
  obtain ⟨b, rfl⟩ := Int.eq_ofNat_of_zero_le (show 0 ≤ n by omega)
  have hu := unpack (a := a) (b := b) (k := 32) (by omega) (by omega) (by omega) 4294967295#64 (by decide)
  have hp := packN (a := a) (b := b) (k := 32) (by omega) (by omega) (by omega)
  unfold unR pkR
  simp only [ofInt_nat]
  refine ⟨?_, fun e => ?_⟩
  · rw [toInt_ofN hu.1 (by omega), toInt_ofN hu.2 (by omega)]
  · rw [e] at hp
    simp at hp
    omega
theorem unH_pk {N : Nd} (h1 : 0 ≤ N.t ∧ N.t ≤ 3) (h2 : 0 ≤ N.l ∧ N.l ≤ 16777215) : (pkH N &&& 255#64).toInt = N.t ∧ (pkH N >>> 8).toInt = N.l ∧ (pkH N).toNat = N.l.toNat * 256 + N.t.toNat := by
  obtain ⟨t, l, s, R⟩ := N
  dsimp only at h1 h2 ⊢
  obtain ⟨a, rfl⟩ := Int.eq_ofNat_of_zero_le h1.1
  obtain ⟨b, rfl⟩ := Int.eq_ofNat_of_zero_le h2.1
  have hu := unpack (a := a) (b := b) (k := 8) (by omega) (by omega) (by omega) 255#64 (by decide)
  have hp := packN (a := a) (b := b) (k := 8) (by omega) (by omega) (by omega)
  unfold pkH
  simp only [ofInt_nat]
  exact ⟨toInt_ofN hu.1 (by omega), toInt_ofN hu.2 (by omega), by rw [hp]; simp⟩
theorem runsN_get (N : Nd) : ∀ (k i : Nat), i < 8 → k ≤ 4 → wat (runsN N k) i = if i = 0 then pkH N else if i = 1 then BitVec.ofInt 64 N.s else if 2 ≤ i ∧ i < 2 + k then pkR (N.R[i - 2]?.getD (0, 0)) else 0#64
  | 0, i, hi, _ => by
    have h : ∀ j, j < 8 → wat (runsN N 0) j = if j = 0 then pkH N else if j = 1 then BitVec.ofInt 64 N.s else 0#64 := fun j hj => by
      rcases (by omega : j = 0 ∨ j = 1 ∨ j = 2 ∨ j = 3 ∨ j = 4 ∨ j = 5 ∨ j = 6 ∨ j = 7) with rfl | rfl | rfl | rfl | rfl | rfl | rfl | rfl <;> rfl
    rw [h i hi]
    by_cases h0 : i = 0
    · rw [if_pos h0, if_pos h0]
    · rw [if_neg h0, if_neg h0]
      by_cases h1 : i = 1
      · rw [if_pos h1, if_pos h1]
      · rw [if_neg h1, if_neg h1, if_neg (by omega)]
  | k + 1, i, hi, hk => by
    have ih := runsN_get N k i hi (by omega)
    have hs : wat (runsN N (k + 1)) i = if 2 + k = i then pkR (N.R[k]?.getD (0, 0)) else wat (runsN N k) i := by
      unfold wat
      rw [show runsN N (k + 1) = (runsN N k).set (2 + k) (pkR (N.R[k]?.getD (0, 0))) from rfl]
      by_cases h : 2 + k = i
      · subst h; rw [List.getElem?_set_self (by rw [runsN_length]; omega), if_pos rfl]; rfl
      · rw [List.getElem?_set_ne h, if_neg h]
    rw [hs, ih]
    by_cases h : 2 + k = i
    · rw [if_pos h, if_neg (by omega), if_neg (by omega), if_pos (by omega)]
      congr 3; omega
    · rw [if_neg h]
      by_cases h0 : i = 0
      · rw [if_pos h0, if_pos h0]
      · rw [if_neg h0, if_neg h0]
        by_cases h1 : i = 1
        · rw [if_pos h1, if_pos h1]
        · rw [if_neg h1, if_neg h1]
          by_cases h2 : 2 ≤ i ∧ i < 2 + k
          · rw [if_pos h2, if_pos (by omega)]
          · rw [if_neg h2, if_neg (by omega)]
theorem putN_t {N : Nd} (h : fitsT N) : putN N = (bodyN N).set 7 (slOf ((bodyN N).take 7)) ∧ (putN N).length = 8 := by
  have ht : ¬ N.t = 0 := fun e => by have := h.1.1; omega
  have hf : fitsN N := by unfold fitsN; rw [if_neg ht]; exact h
  have h1 : putN N = (bodyN N).set 7 (slOf ((bodyN N).take 7)) := by unfold putN; rw [if_pos hf, if_neg ht]
  exact ⟨h1, by rw [h1, List.length_set]; exact runsN_length N _⟩
theorem putN_wat {N : Nd} (h : fitsT N) : (∀ i, i < 7 → wat (putN N) i = wat (bodyN N) i) ∧ wat (putN N) 7 = slOf ((putN N).take 7) ∧ (putN N).take 7 = (bodyN N).take 7 := by
  have hl := runsN_length N N.R.length
  obtain ⟨h1, _⟩ := putN_t h
  have ht : (putN N).take 7 = (bodyN N).take 7 := by
    rw [h1, List.take_set, List.set_eq_of_length_le (by simp; omega)]
  refine ⟨fun i hi => ?_, ?_, ht⟩
  · unfold wat; rw [h1, List.getElem?_set_ne (by omega)]
  · rw [ht]; unfold wat; rw [h1, List.getElem?_set_self (by show 7 < (runsN N N.R.length).length; omega)]; rfl
end Go.Proofs.Ytcjddojcfdeflaa
set_option linter.unusedSimpArgs false
namespace Go.Proofs.Ytcjddojcfdeflaa
open Go.RowKit Ev
theorem wat_drop (L : List (BitVec 64)) (h : L.length = 8) : (L.drop 2).take 4 = [wat L 2, wat L 3, wat L 4, wat L 5] := by
  match L, h with
  | [a, b, c, d, e, f, g, i], _ => rfl
theorem filt_pk : ∀ (R : List (Int × Int)) (n : Nat), (∀ r ∈ R, okRun r) → ((R.map pkR ++ List.replicate n 0#64).filter fun w => decide (w ≠ 0#64)).map unR = R
  | [], n, _ => by simp
  | r :: R, n, h => by
    obtain ⟨h1, h2⟩ := unR_pk (h r (by simp))
    have ih := filt_pk R n fun q hq => h q (by simp [hq])
    have e : (((r :: R).map pkR ++ List.replicate n 0#64).filter fun w => decide (w ≠ 0#64)) = pkR r :: ((R.map pkR ++ List.replicate n 0#64).filter fun w => decide (w ≠ 0#64)) := by
      rw [List.map_cons, List.cons_append, List.filter_cons_of_pos (by simpa using h2)]
    rw [e, List.map_cons, h1, ih]
theorem readR_put {N : Nd} (h : fitsT N) : readR (putN N) 4 = N.R := by
  obtain ⟨h1, h2, h3, h4, h5⟩ := h
  obtain ⟨w1, _, _⟩ := putN_wat (N := N) ⟨h1, h2, h3, h4, h5⟩
  have h8 := (putN_t (N := N) ⟨h1, h2, h3, h4, h5⟩).2
  unfold readR
  have hf := filt_pk N.R (4 - N.R.length) h5
  rw [wat_drop _ h8]
  conv => rhs; rw [← hf]
  congr 2
  apply List.ext_getElem?
  intro i
  have g : ∀ i, i < 4 → wat (putN N) (2 + i) = if i < N.R.length then pkR (N.R[i]?.getD (0, 0)) else 0#64 := fun i hi => by
    rw [w1 _ (by omega)]
    unfold bodyN
    rw [runsN_get N _ _ (by omega) h4, if_neg (by omega), if_neg (by omega), show 2 + i - 2 = i by omega]
    by_cases hk : i < N.R.length
    · rw [if_pos (by omega), if_pos hk]
    · rw [if_neg (by omega), if_neg hk]
  have r : ∀ i, i < 4 → (N.R.map pkR ++ List.replicate (4 - N.R.length) 0#64)[i]? = some (if i < N.R.length then pkR (N.R[i]?.getD (0, 0)) else 0#64) := fun i hi => by
    by_cases hk : i < N.R.length
    · rw [List.getElem?_append_left (by simpa using hk), if_pos hk, List.getElem?_map, List.getElem?_eq_getElem hk]; rfl
    · rw [List.getElem?_append_right (by simpa using Nat.le_of_not_lt hk), if_neg hk, List.getElem?_replicate, if_pos (by simp; omega)]
  by_cases hi : i < 4
  · rw [r i hi, ← g i hi]
    rcases (by omega : i = 0 ∨ i = 1 ∨ i = 2 ∨ i = 3) with rfl | rfl | rfl | rfl <;> rfl
  · rw [List.getElem?_eq_none (by simp; omega), List.getElem?_eq_none (by simp; omega)]
theorem readN_put {N : Nd} (h : fitsT N) : readN (putN N) = N := by
  have hR := readR_put h
  obtain ⟨h1, h2, h3, h4, h5⟩ := h
  obtain ⟨w1, _, _⟩ := putN_wat (N := N) ⟨h1, h2, h3, h4, h5⟩
  obtain ⟨u1, u2, _⟩ := unH_pk (N := N) ⟨by omega, by omega⟩ h2
  have e0 : wat (putN N) 0 = pkH N := by rw [w1 0 (by omega)]; unfold bodyN; rw [runsN_get N _ _ (by omega) h4, if_pos rfl]
  have e1 : wat (putN N) 1 = BitVec.ofInt 64 N.s := by rw [w1 1 (by omega)]; unfold bodyN; rw [runsN_get N _ _ (by omega) h4, if_neg (by omega), if_pos rfl]
  unfold readN
  rw [hR, e0, e1, u1, u2, toInt_small h3.1 (by omega)]
theorem getNd_put {N : Nd} (h : fitsN N) : getNd (putN N) = some N := by
  by_cases ht : N.t = 0
  · have hn : noneN N := by unfold fitsN at h; rw [if_pos ht] at h; exact h
    have hp : putN N = List.replicate 8 0#64 := by unfold putN; rw [if_pos h, if_pos ht]
    have hN : N = ⟨0, 0, 0, []⟩ := by
      obtain ⟨t, l, s, R⟩ := N
      obtain ⟨n1, n2, n3⟩ := hn
      simp only at ht n1 n2 n3
      have := List.length_eq_zero_iff.1 n3
      subst ht; subst n1; subst n2; subst this; rfl
    rw [hp, hN]
    decide +kernel
  · have hf : fitsT N := by unfold fitsN at h; rw [if_neg ht] at h; exact h
    unfold getNd
    rw [readN_put hf, if_pos ⟨(putN_t hf).2, rfl⟩]
theorem putN_bad {N : Nd} (h : ¬ fitsN N) : putN N = [] := by unfold putN; rw [if_neg h]
theorem putN_len (N : Nd) : (putN N).length = if fitsN N then 8 else 0 := by
  unfold putN
  by_cases h : fitsN N
  · rw [if_pos h, if_pos h]
    split
    · simp
    · rw [List.length_set]; exact runsN_length N _
  · rw [if_neg h, if_neg h]; rfl
/-- the seal of a head alone -/
theorem seal_head {N : Nd} (h1 : 1 ≤ N.t ∧ N.t ≤ 3) (h2 : 0 ≤ N.l ∧ N.l ≤ 16777215) (hz : slOf (pkH N :: List.replicate 6 0#64) = 0#64) : False := by
  have h0 : slOf ([15194275200750469848#64] ++ List.replicate 6 0#64) = 0#64 := by decide +kernel
  have hu := (unH_pk (N := N) ⟨by omega, by omega⟩ h2).2.2
  by_cases hv : 15194275200750469848#64 ^^^ pkH N = 0#64
  · have : pkH N = 15194275200750469848#64 := (xor_left (c := 15194275200750469848#64) (a := pkH N) (b := 15194275200750469848#64) (by rw [hv]; simp))
    rw [this] at hu
    simp at hu
    omega
  · refine slOf_set_ne ([15194275200750469848#64] ++ List.replicate 6 0#64) 0 (15194275200750469848#64 ^^^ pkH N) (by simp) hv ?_
    rw [h0]
    show slOf ((15194275200750469848#64 ^^^ (15194275200750469848#64 ^^^ pkH N)) :: List.replicate 6 0#64) = 0#64
    rw [← BitVec.xor_assoc, BitVec.xor_self, BitVec.zero_xor]; exact hz
theorem getNd_alt {N : Nd} (v : BitVec 64) (h : fitsT N) (hv : v ≠ 0#64) {i : Nat} (hi : i < 8) : getNd ((putN N).set i (wat (putN N) i ^^^ v)) = none := by
  obtain ⟨p1, p8⟩ := putN_t h
  obtain ⟨w1, w7, t7⟩ := putN_wat h
  unfold getNd
  rw [if_neg]
  rintro ⟨_, e⟩
  generalize hq : readN ((putN N).set i (wat (putN N) i ^^^ v)) = M at e
  have hM : fitsN M := by
    by_cases hb : fitsN M
    · exact hb
    · rw [putN_bad hb] at e
      have := congrArg List.length e
      simp [p8] at this
  have hw : ∀ j, wat (putN M) j = if j = i then wat (putN N) i ^^^ v else wat (putN N) j := fun j => by
    rw [e]; unfold wat
    by_cases hj : j = i
    · subst hj; rw [if_pos rfl, List.getElem?_set_self (by omega)]; rfl
    · rw [if_neg hj, List.getElem?_set_ne (fun h => hj h.symm)]
  by_cases ht : M.t = 0
  · have hz : putN M = List.replicate 8 0#64 := by unfold putN; rw [if_pos hM, if_pos ht]
    have z : ∀ j, wat (putN M) j = 0#64 := fun j => by
      rw [hz]; unfold wat; rw [List.getElem?_replicate]; split <;> rfl
    have e0 : wat (putN N) 0 = pkH N := by rw [w1 0 (by omega)]; unfold bodyN; rw [runsN_get N _ _ (by omega) h.2.2.2.1, if_pos rfl]
    by_cases h0 : i = 0
    · subst h0
      have o : ∀ j, j ≠ 0 → wat (putN N) j = 0#64 := fun j hj => by have := hw j; rw [if_neg hj, z] at this; exact this.symm
      have ht7 : (putN N).take 7 = pkH N :: List.replicate 6 0#64 := by
        match hL : putN N, p8 with
        | [a, b, c, d, f, g, k, m], _ =>
          rw [hL] at o e0
          have o1 := o 1 (by omega); have o2 := o 2 (by omega); have o3 := o 3 (by omega); have o4 := o 4 (by omega); have o5 := o 5 (by omega); have o6 := o 6 (by omega)
          simp [wat] at o1 o2 o3 o4 o5 o6 e0
          subst o1 o2 o3 o4 o5 o6
          rw [e0]; rfl
      refine seal_head h.1 h.2.1 ?_
      rw [← ht7, ← w7]
      exact o 7 (by omega)
    · have := hw 0
      rw [if_neg (fun h => h0 h.symm), z, e0] at this
      have hu := (unH_pk (N := N) ⟨by have := h.1; omega, h.1.2⟩ h.2.1).2.2
      rw [← this] at hu
      have := h.1.1
      simp at hu
      omega
  · have hT : fitsT M := by unfold fitsN at hM; rw [if_neg ht] at hM; exact hM
    obtain ⟨_, m7, _⟩ := putN_wat hT
    by_cases h7 : i = 7
    · subst h7
      have e7 : (putN M).take 7 = (putN N).take 7 := by rw [e, List.take_set, List.set_eq_of_length_le (by simp; omega)]
      have := hw 7
      rw [if_pos rfl, m7, e7, w7] at this
      exact hv (xor_left (c := slOf ((putN N).take 7)) (a := v) (b := 0#64) (by rw [← this]; simp))
    · have e7 : (putN M).take 7 = ((putN N).take 7).set i (((putN N).take 7)[i]?.getD 0#64 ^^^ v) := by
        rw [e, List.take_set, List.getElem?_take_of_lt (by omega)]; rfl
      have := hw 7
      rw [if_neg (fun h => h7 h.symm), m7, w7, e7] at this
      exact slOf_set_ne ((putN N).take 7) i v (by simp [p8]; omega) hv this
end Go.Proofs.Ytcjddojcfdeflaa
set_option linter.unusedSimpArgs false
namespace Go.Proofs.Ytcjddojcfdeflaa
open Go.RowKit Ev
def ndV (N : Nd) (y : V) : V := .g [.int .i64 N.t, .int .i64 N.l, .int .i64 N.s, y]
theorem pairs_at : ∀ (L : List (Int × Int)) (i : Nat) (r : Int × Int), L[i]? = some r → (pairs L)[i * 2 + 0]? = some (.int .i64 r.1) ∧ (pairs L)[i * 2 + 1]? = some (.int .i64 r.2)
  | [], i, r, h => by simp at h
  | q :: L, 0, r, h => by simp at h; subst h; exact ⟨rfl, rfl⟩
  | q :: L, i + 1, r, h => by
    have := pairs_at L i r (by simpa using h)
    rw [show pairs (q :: L) = .int .i64 q.1 :: .int .i64 q.2 :: pairs L from rfl, show (i + 1) * 2 + 0 = i * 2 + 0 + 1 + 1 by omega, show (i + 1) * 2 + 1 = i * 2 + 1 + 1 + 1 by omega]
    exact this
theorem pairs_app (L K : List (Int × Int)) : pairs (L ++ K) = pairs L ++ pairs K := by simp [pairs]
theorem betw_any (c : Cx) (st : St) (a b d : Int) : Gd (callL Try.prog c 43 [.int .i64 a, .int .i64 b, .int .i64 d] st) fun r => r = (.bool (decide (b ≤ a ∧ a ≤ d)), st) := by
  rw [Gd_callL Try.func43 rfl]
  by_cases h1 : b ≤ a
  · by_cases h2 : a ≤ d
    · simp [evOp_call, sets, T.get_set, h1, h2]
    · simp [evOp_call, sets, T.get_set, h1, h2]
  · simp [evOp_call, sets, T.get_set, h1]
theorem noth_any (st : St) (fl : List (Nat × Nat)) (hfn : ∀ k, st.nx ≤ k → inF fl k = false) (wb : Nat) (N : Nd) (y : V) (hlen : ∀ s, lenS s y = some (.int .i64 N.R.length, s)) (nt : Nat) :
    Gd (callL Try.prog ⟨false, fl, wb, nt⟩ 42 [ndV N y] st) fun r => r.1 = .bool (decide (noneN N)) ∧ Ext st.nx st r.2 := by
  rw [Gd_callL Try.func42 rfl]
  have f0 := hfn st.nx (Nat.le_refl _)
  have he : ∀ v, Ext st.nx st ⟨st.nx + 1, st.h.set st.nx v⟩ := fun v => (Ext.refl _ _).new (Nat.le_refl _) _
  by_cases h1 : N.l = 0
  · by_cases h2 : N.s = 0
    · by_cases h3 : (N.R.length : Int) = 0
      · have h3' : N.R.length = 0 := by omega
        simp [ndV, f0, evOp_call, sets, T.get_set, cellsOf, newC_is, loadE_eq, getC_eq, hlen, h1, h2, h3]
        exact ⟨⟨h1, h2, h3'⟩, he _⟩
      · have h3' : ¬ N.R.length = 0 := by omega
        simp [ndV, f0, evOp_call, sets, T.get_set, cellsOf, newC_is, loadE_eq, getC_eq, hlen, h1, h2, h3]
        exact ⟨⟨fun h => absurd (by rw [h]; rfl) h3', fun h => absurd h.2.2 h3'⟩, he _⟩
    · simp [ndV, f0, evOp_call, sets, T.get_set, cellsOf, newC_is, loadE_eq, getC_eq, hlen, h1, h2]
      exact ⟨fun h => h2 h.2.1, he _⟩
  · simp [ndV, f0, evOp_call, sets, T.get_set, cellsOf, newC_is, loadE_eq, getC_eq, hlen, h1]
    exact ⟨fun h => h1 h.1, he _⟩
def nfitI (st : St) (y : V) (K : List (Int × Int)) (e : Env) (s : St) : Prop := ∃ k : Nat, k ≤ K.length ∧ e.get 33 = some y ∧ e.get 34 = some (.int .i64 (K.length : Int)) ∧ e.get 35 = some (.int .i64 (k : Int)) ∧ (∀ r ∈ K.take k, okRun r) ∧ Ext st.nx st s
theorem mem_take_succ {α : Type} {K : List α} {k : Nat} {r : α} (h : K[k]? = some r) {P : α → Prop} (h1 : ∀ q ∈ K.take k, P q) (h2 : P r) : ∀ q ∈ K.take (k + 1), P q := by
  intro q hq
  rw [List.take_add_one, h] at hq
  rcases List.mem_append.1 hq with hq | hq
  · exact h1 q hq
  · simp at hq; subst hq; exact h2
set_option maxRecDepth 20000 in
set_option maxHeartbeats 2000000 in
theorem nfits_any (st : St) (N : Nd) (y : V) (hy : RdRow st y 2 N.R.length (pairs N.R)) (nt : Nat) :
    Gd (callL Try.prog ⟨false, [], 0, nt⟩ 49 [ndV N y] st) fun r => r.1 = .bool (decide (fitsN N)) ∧ Ext st.nx st r.2 := by
  have hone := hy.one
  rw [Gd_callL Try.func49 rfl]
  have he : ∀ v, Ext st.nx st ⟨st.nx + 1, st.h.set st.nx v⟩ := fun v => (Ext.refl _ _).new (Nat.le_refl _) _
  have hnd : V.g [.int .i64 N.t, .int .i64 N.l, .int .i64 N.s, y] = ndV N y := rfl
  have hcell : ∀ k : List V → Res, cellsOf (ndV N y) k = k [.int .i64 N.t, .int .i64 N.l, .int .i64 N.s, y] := fun k => rfl
  by_cases ht : N.t = 0
  · have hnd0 : V.g [.int .i64 0, .int .i64 N.l, .int .i64 N.s, y] = ndV N y := by unfold ndV; rw [ht]
    have hF : fitsN N ↔ noneN N := by unfold fitsN; rw [if_pos ht]
    simp [hcell, evOp_call, sets, T.get_set, newC_is, loadE_eq, getC_eq, getsB_succ, getsB_zero, ht]
    rw [hnd0]
    refine Gd.mono (noth_any _ [] (fun _ _ => rfl) 0 N y (fun s => hy.lenS s) _) ?_
    rintro ⟨r, s1⟩ ⟨hr, x1⟩
    simp only at hr x1
    subst hr
    simp [T.get_set, hF]
    exact (he _).trans (x1.mono (Nat.le_succ _))
  · have hF : fitsN N ↔ fitsT N := by unfold fitsN; rw [if_neg ht]
    by_cases c1 : 1 ≤ N.t ∧ N.t ≤ 3
    · simp [hcell, evOp_call, sets, T.get_set, newC_is, loadE_eq, getC_eq, getsB_succ, getsB_zero, ht]
      refine Gd.mono (betw_any _ _ _ _ _) ?_
      rintro _ rfl
      simp [hcell, evOp_call, sets, T.get_set, newC_is, loadE_eq, getC_eq, getsB_succ, getsB_zero, ht, c1]
      refine Gd.mono (betw_any _ _ _ _ _) ?_
      rintro _ rfl
      by_cases c2 : 0 ≤ N.l ∧ N.l ≤ 16777215
      · simp [hcell, evOp_call, sets, T.get_set, newC_is, loadE_eq, getC_eq, getsB_succ, getsB_zero, ht, c1, c2]
        refine Gd.mono (betw_any _ _ _ _ _) ?_
        rintro _ rfl
        by_cases c3 : 0 ≤ N.s ∧ N.s ≤ 1099511627776
        · by_cases c4 : (4 : Int) < N.R.length
          · simp [hcell, evOp_call, sets, T.get_set, newC_is, loadE_eq, getC_eq, getsB_succ, getsB_zero, ht, c1, c2, c3, c4, hy.lenS, hF]
            exact ⟨fun h => by have := h.2.2.2.1; omega, he _⟩
          · simp [hcell, evOp_call, sets, T.get_set, newC_is, loadE_eq, getC_eq, getsB_succ, getsB_zero, ht, c1, c2, c3, c4, hy.lenS]
            refine Gd_loop (nfitI st y N.R) (fun en _ => muAt 35 N.R.length en) ?_ ?_
            · exact ⟨0, Nat.zero_le _, by simp [T.get_set], by simp [T.get_set], by simp [T.get_set], fun r h => by simp at h, he _⟩
            · rintro en s ⟨k, hk, g33, g34, g35, hok, hs⟩
              have hsn := hs.le
              by_cases hlt : k < N.R.length
              · have hlt' : (k : Int) < N.R.length := by omega
                have hwk := wrap_nat (n := k) (by omega)
                have hys := hy.ext hs
                obtain ⟨m, o, ty, sz, tr, hid, hm, hg, ho, hc⟩ := hys.idx (st := s) un31 io87 hlt
                obtain ⟨⟨F, L⟩, hr⟩ : ∃ r, N.R[k]? = some r := ⟨_, List.getElem?_eq_getElem hlt⟩
                have hcl := pairs_at N.R k _ hr
                have t0 : tr.get o = some (.int .i64 F) := hc 0 _ (by omega) hcl.1
                have t1 : tr.get (o + 1) = some (.int .i64 L) := hc 1 _ (by omega) hcl.2
                have hne : ¬ s.nx = m := by omega
                have hext := fun v => (Ext.refl s.nx s).new (Nat.le_refl _) v
                have bad : ¬ okRun (F, L) → ¬ fitsT N := fun h1 h => h1 (h.2.2.2.2 _ (List.mem_of_getElem? hr))
                simp [evOp_call, T.get_set, g33, g34, g35, hlt', hid, loadE_eq, getC_eq, hg, getsB_2, t0, t1, newC_is, cellsOf, putB_eq, storeK_g, roT, sets, hne]
                refine Gd.mono (betw_any _ _ _ _ _) ?_
                rintro _ rfl
                by_cases d1 : 0 ≤ F ∧ F ≤ 2147483648
                · simp [evOp_call, T.get_set, g33, g34, g35, hlt', hid, loadE_eq, getC_eq, hg, getsB_2, t0, t1, newC_is, cellsOf, putB_eq, storeK_g, roT, sets, hne, d1]
                  refine Gd.mono (betw_any _ _ _ _ _) ?_
                  rintro _ rfl
                  by_cases d2 : 1 ≤ L ∧ L ≤ 2147483648
                  · simp [evOp_call, T.get_set, g33, g34, g35, d2, hwk]
                    exact ⟨⟨k + 1, hlt, by simp [T.get_set, g33], by simp [T.get_set, g34], by simp [T.get_set], mem_take_succ hr hok ⟨d1, d2⟩, hs.trans ((hext _).mono hsn)⟩, muAt_lt g35 (by simp [T.get_set]) hlt⟩
                  · simp [evOp_call, T.get_set, g33, g34, g35, d2, hF]
                    exact ⟨bad fun h => d2 h.2, hs.trans ((hext _).mono hsn)⟩
                · simp [evOp_call, T.get_set, g33, g34, g35, d1, hF]
                  exact ⟨bad fun h => d1 h.1, hs.trans ((hext _).mono hsn)⟩
              · obtain rfl : k = N.R.length := by omega
                rw [List.take_length] at hok
                have hT : fitsT N := ⟨c1, c2, c3, by omega, hok⟩
                simp [evOp_call, T.get_set, g33, g34, g35, hF, hT]
                exact hs
        · simp [hcell, evOp_call, sets, T.get_set, newC_is, loadE_eq, getC_eq, getsB_succ, getsB_zero, ht, c1, c2, c3, hF]
          exact ⟨fun h => c3 h.2.2.1, he _⟩
      · simp [hcell, evOp_call, sets, T.get_set, newC_is, loadE_eq, getC_eq, getsB_succ, getsB_zero, ht, c1, c2, hF]
        exact ⟨fun h => c2 h.2.1, he _⟩
    · simp [hcell, evOp_call, sets, T.get_set, newC_is, loadE_eq, getC_eq, getsB_succ, getsB_zero, ht]
      refine Gd.mono (betw_any _ _ _ _ _) ?_
      rintro _ rfl
      simp [hcell, evOp_call, sets, T.get_set, newC_is, loadE_eq, getC_eq, getsB_succ, getsB_zero, ht, c1, hF]
      exact ⟨fun h => c1 h.1, he _⟩
end Go.Proofs.Ytcjddojcfdeflaa
set_option linter.unusedSimpArgs false
namespace Go.Proofs.Ytcjddojcfdeflaa
open Go.RowKit Ev
theorem SlRow.put2 {b n i m : Nat} {ty : TypeId} {t : T V} {st : St} {x : V} {L : List (BitVec 64)} (h : SlRow b st x n L) (hx : x = .sl m 0 n n) (hg : st.h.get m = some (.cs ty n t)) (hi : i < n) (v : BitVec 64) : SlRow b ⟨st.nx, st.h.set m (.cs ty n (t.set i (wd v)))⟩ x n (L.set i v) := by
  obtain ⟨m2, ty2, t2, h1, h2, h3, h4, h5, h6, h7⟩ := h.put hi
  rw [hx] at h1
  injection h1 with h1
  subst h1
  rw [hg] at h4
  injection h4 with h4
  injection h4 with h4 _ h8
  subst h4; subst h8
  exact h7 v
def nputI (st : St) (N : Nd) (y z : V) (e : Env) (s : St) : Prop := ∃ k : Nat, k ≤ N.R.length ∧ e.get 3 = some z ∧ e.get 30 = some y ∧ e.get 31 = some (.int .i64 (N.R.length : Int)) ∧ e.get 32 = some (.int .i64 (k : Int)) ∧ SlRow st.nx s z 8 (runsN N k) ∧ Ext st.nx st s
set_option maxRecDepth 20000 in
set_option maxHeartbeats 2000000 in
theorem nput_any (st : St) (N : Nd) (y : V) (hy : RdRow st y 2 N.R.length (pairs N.R)) (nt : Nat) :
    Gd (callL Try.prog ⟨false, [], 0, nt⟩ 24 [ndV N y] st) fun r => RdRow r.2 r.1 1 (putN N).length (wv (putN N)) ∧ (fitsN N → SlRow st.nx r.2 r.1 8 (putN N)) ∧ Ext st.nx st r.2 := by
  have hone := hy.one
  rw [Gd_callL Try.func24 rfl]
  have he : ∀ v, Ext st.nx st ⟨st.nx + 1, st.h.set st.nx v⟩ := fun v => (Ext.refl _ _).new (Nat.le_refl _) _
  have hnd : V.g [.int .i64 N.t, .int .i64 N.l, .int .i64 N.s, y] = ndV N y := rfl
  have hcell : ∀ k : List V → Res, cellsOf (ndV N y) k = k [.int .i64 N.t, .int .i64 N.l, .int .i64 N.s, y] := fun k => rfl
  simp [hcell, evOp_call, sets, T.get_set, newC_is, loadE_eq, getC_eq, getsB_succ, getsB_zero]
  rw [hnd]
  refine Gd.mono (nfits_any _ N y (hy.ext (he _)) _) ?_
  rintro ⟨r, s1⟩ ⟨hr, x1⟩
  simp only at hr x1
  subst hr
  have l1 : st.nx < s1.nx := x1.le
  have hs1 : Ext st.nx st s1 := (he _).trans (x1.mono (Nat.le_succ _))
  have k0 : s1.h.get st.nx = _ := (x1.keep _ (Nat.lt_succ_self _)).trans (T.get_set_same _ _ _)
  have q0 : ¬ s1.nx = st.nx := by omega
  have q0' : ¬ st.nx = s1.nx := by omega
  by_cases hf : fitsN N
  · have hd : decide (fitsN N) = true := by simpa using hf
    have hs2 : ∀ v, Ext st.nx st ⟨s1.nx + 1, s1.h.set s1.nx v⟩ := fun v => hs1.new (by omega) v
    simp [T.get_set, hd]
    refine Gd_make (i := .i64) (i' := .i64) (n := 8) (q := 8) (fun k => el28 k) io39 (fun k => ze39 k) rfl rfl (Nat.le_refl _) (by omega) ?_
    have hm := SlRow.made (b := st.nx) (n := 8) (st := s1) (el := 39) (by omega) (by decide)
    generalize hS : (⟨s1.nx + 1, s1.h.set s1.nx (.cs 39 (rep [V.int .u64 0] 8).length (sets (rep [V.int .u64 0] 8) 0 .lf))⟩ : St) = s2 at hm ⊢
    have x2 : Ext st.nx st s2 := hS ▸ hs2 _
    have n2 : s2.nx = s1.nx + 1 := by rw [← hS]
    have k2 : s2.h.get st.nx = s1.h.get st.nx := by rw [← hS]; exact T.get_set_ne _ _ q0
    rw [k0] at k2
    by_cases ht : N.t = 0
    · have hp : putN N = List.replicate 8 0#64 := by unfold putN; rw [if_pos hf, if_pos ht]
      simp [evOp_call, T.get_set, loadE_eq, getC_eq, k2, ht]
      rw [hp]
      exact ⟨hm.rd, fun _ => hm, x2⟩
    · have hT : fitsT N := by unfold fitsN at hf; rw [if_neg ht] at hf; exact hf
      obtain ⟨m2, ty2, t2, e2, _, b2, g2, r2, _, _⟩ := hm.put (i := 0) (by omega)
      injection e2 with e2
      subst e2
      have p1 := hm.put2 (i := 0) rfl g2 (by omega) (pkH N)
      have p2 := p1.put2 (i := 1) rfl (T.get_set_same _ _ _) (by omega) (BitVec.ofInt 64 N.s)
      have x3 : Ext st.nx st _ := (x2.set (m := s1.nx) (by omega) b2 (.cs ty2 8 (t2.set 0 (wd (pkH N))))).set (m := s1.nx) (by omega) b2 (.cs ty2 8 ((t2.set 0 (wd (pkH N))).set 1 (wd (BitVec.ofInt 64 N.s))))
      simp only [T.set_set] at p2 x3
      simp [evOp_call, T.get_set, ht, loadE_eq, getC_eq, k2, q0, q0', g2, putB_eq, r2, hy.lenS]
      refine Gd_loop (nputI st N y (.sl s1.nx 0 8 8)) (fun en _ => muAt 32 N.R.length en) ?_ ?_
      · exact ⟨0, Nat.zero_le _, by simp [T.get_set], by simp [T.get_set], by simp [T.get_set], by simp [T.get_set], p2, x3⟩
      · clear p1 p2 x3 hm g2
        rintro en s ⟨k, hk, g3, g30, g31, g32, hz, hs⟩
        have hsn := hs.le
        have h4 := hT.2.2.2.1
        by_cases hlt : k < N.R.length
        · have hlt' : (k : Int) < N.R.length := by omega
          have hwk := wrap_nat (n := k) (by omega)
          obtain ⟨q, hq⟩ : ∃ q, q = 2 + k := ⟨_, rfl⟩
          have hw2 : IntKind.i64.wrap (2 + (k : Int)) = (q : Int) := by rw [show 2 + (k : Int) = (q : Int) by omega]; exact wrap_in (by omega) (by omega)
          have hys := hy.ext hs
          obtain ⟨m, o, ty, sz, tr, hid, hm, hg, ho, hc⟩ := hys.idx (st := s) un31 io87 hlt
          obtain ⟨⟨F, L⟩, hr⟩ : ∃ r, N.R[k]? = some r := ⟨_, List.getElem?_eq_getElem hlt⟩
          have hcl := pairs_at N.R k _ hr
          have t0 : tr.get o = some (.int .i64 F) := hc 0 _ (by omega) hcl.1
          have t1 : tr.get (o + 1) = some (.int .i64 L) := hc 1 _ (by omega) hcl.2
          have hne : ¬ s.nx = m := by omega
          have hext := fun v => (Ext.refl s.nx s).new (Nat.le_refl _) v
          obtain ⟨m3, ty3, t3, e3, _, b3, g3', r3, _, _⟩ := hz.put (i := q) (by omega)
          injection e3 with e3
          subst e3
          have hne3 : ¬ s.nx = s1.nx := by omega
          have hne3' : ¬ s1.nx = s.nx := by omega
          have hlt8 : q < 8 := by omega
          have hlt8' : q + 1 ≤ 8 := by omega
          simp [evOp_call, T.get_set, g3, g30, g31, g32, hlt', hid, loadE_eq, getC_eq, hg, getsB_2, t0, t1, newC_is, cellsOf, putB_eq, storeK_g, roT, sets, hne, hw2, hlt8, hlt8', hne3, hne3', g3', r3, hwk]
          have hput := (hz.ext (hext (.cs 87 2 ((((T.lf.set 0 (.int .i64 0)).set 1 (.int .i64 0)).set 0 (.int .i64 F)).set 1 (.int .i64 L))))).put2 (i := q) rfl ((T.get_set_ne _ _ hne3).trans g3') hlt8 (pkR (F, L))
          refine ⟨⟨k + 1, hlt, by simp [T.get_set, g3], by simp [T.get_set, g30], by simp [T.get_set, g31], by simp [T.get_set], ?_, (hs.trans ((hext _).mono hsn)).set (by omega) (by show s1.nx < s.nx + 1; omega) _⟩, muAt_lt g32 (by simp [T.get_set]) hlt⟩
          unfold runsN
          rw [hr, ← hq]
          exact hput
        · obtain rfl : k = N.R.length := by omega
          simp [evOp_call, T.get_set, g3, g30, g31, g32]
          refine Gd_headS (i := .i64) (k := 7) un28 io39 hz (by simp) (by omega) fun v hv => ?_
          simp [evOp_call, T.get_set]
          have hl7 : ((runsN N N.R.length).take 7).length = 7 := by rw [List.length_take, runsN_length]; rfl
          refine Gd.mono (slOf_any s 0 v ((runsN N N.R.length).take 7) (by rw [hl7]; exact hv) (by omega) _) ?_
          rintro _ rfl
          obtain ⟨m3, ty3, t3, e3, _, b3, g3', r3, _, _⟩ := hz.put (i := 7) (by omega)
          injection e3 with e3
          subst e3
          have hp := putN_t hT
          have hput := hz.put2 (i := 7) rfl g3' (by omega) (slOf ((runsN N N.R.length).take 7))
          have h7 : ∀ f : Nat → Res, asNat (.int .i64 7) f = f 7 := fun f => rfl
          simp [evOp_call, sets, T.get_set, putB_eq, roT, g3, g3', r3, h7]
          have hfin : SlRow st.nx ⟨s.nx, s.h.set s1.nx (.cs ty3 8 (t3.set 7 (wd (slOf ((runsN N N.R.length).take 7)))))⟩ (.sl s1.nx 0 8 8) 8 (putN N) := by rw [hp.1]; exact hput
          rw [hp.2]
          exact ⟨hfin.rd, fun _ => hfin, hs.set (by omega) b3 _⟩
  · have hd : decide (fitsN N) = false := by simpa using hf
    have hpr : putN N = [] := putN_bad hf
    simp [evOp_call, T.get_set, hd]
    rw [hpr]
    exact ⟨(OwnRow.nil 0 s1 1).rd, fun h => absurd h hf, hs1⟩
end Go.Proofs.Ytcjddojcfdeflaa

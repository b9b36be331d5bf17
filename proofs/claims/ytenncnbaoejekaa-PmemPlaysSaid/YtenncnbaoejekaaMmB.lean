/-
  Contracts of package pmem: a fall.
-/
import Derived.Test.YtenncnbaoejekaaMmA
set_option linter.unusedSimpArgs false
namespace Go.Proofs.Ytenncnbaoejekaa
open Go.RowKit Ev
def nilW : V := .c (.slice none 0 0)
def openB (r : LR) : Bool := decide (r.m.O.length ≠ 0)
def cntO (R : List LR) (j : Nat) : Nat := ((R.take j).filter openB).length
theorem cntO_le (R : List LR) (j : Nat) : cntO R j ≤ j := by
  unfold cntO
  exact Nat.le_trans (List.length_filter_le _ _) (by simp; omega)
theorem cntO_succ {R : List LR} {j : Nat} {r : LR} (h : R[j]? = some r) : cntO R (j + 1) = cntO R j + (if r.m.O.length = 0 then 0 else 1) := by
  unfold cntO
  rw [List.take_add_one, h]
  simp only [Option.toList_some, List.filter_append, List.length_append]
  congr 1
  by_cases hr : r.m.O.length = 0
  · rw [if_pos hr, List.filter_cons_of_neg (by simp [openB, hr])]; rfl
  · rw [if_neg hr, List.filter_cons_of_pos (by simpa [openB] using hr)]; rfl
def fallAt (K : List Int) (R : List LR) (i : Nat) (r : LR) : LR := if r.m.O.length = 0 then r else ⟨r.n, nilW, r.m.fall (K[cntO R i]?.getD 0)⟩
def fallN (K : List Int) (R : List LR) : Nat → List LR
  | 0 => R
  | j + 1 => match R[j]? with
    | some r => (fallN K R j).set j (fallAt K R j r)
    | none => fallN K R j
theorem fallN_length (K : List Int) (R : List LR) : ∀ j, (fallN K R j).length = R.length
  | 0 => rfl
  | j + 1 => by unfold fallN; split <;> simp [fallN_length K R j]
theorem fallN_get (K : List Int) (R : List LR) : ∀ (j i : Nat), (fallN K R j)[i]? = (R[i]?).map fun r => if i < j then fallAt K R i r else r
  | 0, i => by
    show R[i]? = _
    cases R[i]? <;> simp
  | j + 1, i => by
    have ih := fallN_get K R j i
    have hl := fallN_length K R j
    have e : fallN K R (j + 1) = match R[j]? with | some r => (fallN K R j).set j (fallAt K R j r) | none => fallN K R j := rfl
    rw [e]
    cases hj : R[j]? with
    | none =>
      simp only
      rw [ih]
      cases hi : R[i]? with
      | none => rfl
      | some r =>
        have h1 := lt_of_get hi
        have h2 : R.length ≤ j := List.getElem?_eq_none_iff.1 hj
        simp only [Option.map_some]
        rw [if_pos (by omega), if_pos (by omega)]
    | some r =>
      simp only
      have h1 := lt_of_get hj
      by_cases hij : j = i
      · subst hij
        rw [List.getElem?_set_self (by omega), hj]
        simp
      · rw [List.getElem?_set_ne hij, ih]
        cases hi : R[i]? with
        | none => rfl
        | some s =>
          simp only [Option.map_some]
          by_cases c : i < j
          · rw [if_pos c, if_pos (by omega)]
          · rw [if_neg c, if_neg (by omega)]
def MV.fell (v : MV) (K : List Int) : MV := { v with R := fallN K v.R v.R.length, off := true, fuse := 0, kz := nilW, K := [] }
def crI (st : St) (q : Nat) (v : MV) (x z : V) (K : List Int) (e : Env) (s : St) : Prop := ∃ j : Nat, j ≤ v.R.length ∧ e.get 0 = some (.p q 0) ∧ e.get 1 = some x ∧ e.get 4 = some (.int .i64 (cntO v.R j : Int)) ∧ e.get 15 = some z ∧ e.get 16 = some (.int .i64 (v.R.length : Int)) ∧ e.get 17 = some (.int .i64 (j : Int)) ∧ MStep q v { v with R := fallN K v.R j } st s
theorem fall_ok (m : LM) (k : Int) : okL (m.fall k) := ⟨0, rfl, Nat.zero_le _⟩
theorem fall_step {st s s' : St} {q j : Nat} {v : MV} {K : List Int} {r : LR} (hs : MStep q v { v with R := fallN K v.R j } st s) (hr : v.R[j]? = some r) (h0 : ¬ r.m.O.length = 0) (h1 : LineAt s' r.n nilW (r.m.fall (K[cntO v.R j]?.getD 0))) (h2 : Kept r.n r.y s s') :
    MStep q v { v with R := fallN K v.R (j + 1) } st s' := by
  have hrj : (fallN K v.R j)[j]? = some r := by rw [fallN_get, hr]; simp
  have hstep : fallN K v.R (j + 1) = (fallN K v.R j).set j ⟨r.n, nilW, r.m.fall (K[cntO v.R j]?.getD 0)⟩ := by
    rw [fallN, hr]; show (fallN K v.R j).set j (fallAt K v.R j r) = _
    unfold fallAt; rw [if_neg h0]
  rw [hstep]
  exact hs.trans (hs.at'.line hrj h1 h2 (fun k hk => .inl (.inl (ow_nil hk))) (fall_ok _ _))
set_option maxRecDepth 20000 in
set_option maxHeartbeats 4000000 in
theorem mcrash_any (st : St) (q : Nat) (v : MV) (h : MemAt st q v) (x : V) (K : List Int) (hx : ∀ st' v', MStep q v v' st st' → v'.kz = v.kz → v'.K = v.K → RdRow st' x 1 K.length (ivs K)) (hR : v.R.length ≤ 1000000) (nt : Nat) :
    Gd (callL Try.prog ⟨false, [], 0, nt⟩ 32 [.p q 0, x] st) fun r => r.1 = .t [] ∧ MStep q v (if v.off = true then v else v.fell K) st r.2 := by
  obtain ⟨t, h1, h2, h3, h4, h5, h6, h7, h8⟩ := h.blk
  rw [Gd_callL Try.func32 rfl]
  cases ho : v.off with
  | true =>
    rw [ho] at h3
    simp [sets, T.get_set, loadE_eq, getC_eq, h1, h3]
    exact MStep.refl h
  | false =>
    rw [ho] at h3
    simp [evOp_call, sets, T.get_set, loadE_eq, getC_eq, h1, h2, h3, h.row.lenS]
    refine Gd_loop (crI st q v x v.z K) (fun e _ => muAt 17 v.R.length e) ?_ ?_
    · exact ⟨0, Nat.zero_le _, by simp [T.get_set], by simp [T.get_set], by simp [T.get_set, cntO], by simp [T.get_set], by simp [T.get_set], by simp [T.get_set], MStep.refl h⟩
    · rintro e s ⟨j, hj, g0, g1, g4, g15, g16, g17, hs⟩
      by_cases hlt : j < v.R.length
      · have hlt' : (j : Int) < v.R.length := by omega
        have hwj := wrap_nat (n := j) (by omega)
        have hxr := hx s _ hs rfl rfl
        have hrow : RdRow s v.z 1 v.R.length (ptrs (fallN K v.R j)) := by have := hs.at'.row; rw [fallN_length] at this; exact this
        obtain ⟨r, hr⟩ : ∃ r, v.R[j]? = some r := ⟨_, List.getElem?_eq_getElem hlt⟩
        have hrj : (fallN K v.R j)[j]? = some r := by rw [fallN_get, hr]; simp
        obtain ⟨m1, o1, ty1, sz1, t1, i1, b1, k1, l1, d1⟩ := hrow.idx (st := s) un164 io160 hlt
        have hp : t1.get o1 = some (.p r.n 0) := d1 0 _ (by omega) (by
          rw [Nat.mul_one, Nat.add_zero]; unfold ptrs
          rw [List.getElem?_map, hrj]; rfl)
        obtain ⟨hln, hok⟩ := hs.at'.lines j r hrj
        have hcs := cntO_succ hr
        have hcl := cntO_le v.R j
        have hstep : fallN K v.R (j + 1) = (fallN K v.R j).set j (fallAt K v.R j r) := by rw [fallN, hr]
        simp [evOp_call, T.get_set, g0, g1, g4, g15, g16, g17, hlt', i1, loadE_eq, getC_eq, k1, hp]
        refine Gd.mono (open_any s r.n r.y r.m hln _) ?_
        rintro _ rfl
        by_cases h0 : r.m.O.length = 0
        · have h0' : (r.m.O.length : Int) = 0 := by omega
          rw [if_pos h0, Nat.add_zero] at hcs
          simp [evOp_call, T.get_set, g0, g1, g4, g15, g16, g17, h0', hwj]
          refine ⟨⟨j + 1, hlt, by simp [T.get_set, g0], by simp [T.get_set, g1], by simp [T.get_set, g4, hcs], by simp [T.get_set, g15], by simp [T.get_set, g16], by simp [T.get_set], ?_⟩, muAt_lt g17 (by simp [T.get_set]) hlt⟩
          have hself : (fallN K v.R j).set j (fallAt K v.R j r) = fallN K v.R j := by
            unfold fallAt; rw [if_pos h0]
            exact List.ext_getElem? fun i => by
              by_cases hij : j = i
              · subst hij; rw [List.getElem?_set_self (by rw [fallN_length]; exact hlt), hrj]
              · rw [List.getElem?_set_ne hij]
          rw [hstep, hself]
          exact hs
        · have h0' : ¬ (r.m.O.length : Int) = 0 := by omega
          rw [if_neg h0] at hcs
          have w1 : IntKind.i64.wrap ((cntO v.R j : Int) + 1) = ((cntO v.R j + 1 : Nat) : Int) := by rw [show ((cntO v.R j : Int) + 1) = ((cntO v.R j + 1 : Nat) : Int) by omega]; exact wrap_in (by omega) (by omega)
          obtain ⟨c, hc⟩ : ∃ c, c = cntO v.R j := ⟨_, rfl⟩
          rw [← hc] at g4 w1 hcs
          obtain ⟨c1, hc1⟩ : ∃ c1, c1 = c + 1 := ⟨_, rfl⟩
          rw [← hc1] at w1 hcs
          have h0' : ¬ (r.m.O.length : Int) = 0 := by omega
          have hO : ¬ r.m.O = [] := fun e => h0 (by rw [e]; rfl)
          by_cases hck : c < K.length
          · have hck' : (c : Int) < K.length := by omega
            obtain ⟨m2, o2, ty2, sz2, t2, i2, b2, k2, l2, d2⟩ := hxr.idx (st := s) un32 io3 hck
            obtain ⟨kp, hkp⟩ : ∃ kp, K[c]? = some kp := ⟨_, List.getElem?_eq_getElem hck⟩
            have e2 : t2.get o2 = some (.int .i64 kp) := d2 0 _ (by omega) (by rw [Nat.mul_one, Nat.add_zero]; unfold ivs; rw [List.getElem?_map, hkp]; rfl)
            simp [evOp_call, T.get_set, g0, g1, g4, g15, g16, g17, h0', hO, hxr.lenS, hck', i2, loadE_eq, getC_eq, k2, e2]
            refine Gd.mono (fall_any s r.n r.y r.m hln kp _) ?_
            rintro ⟨u, s2⟩ ⟨hu, f1, f2⟩
            simp only at hu f1 f2
            subst hu
            simp [evOp_call, T.get_set, g0, g1, g4, g15, g16, g17, w1, hwj]
            exact ⟨⟨j + 1, hlt, by simp [T.get_set, g0], by simp [T.get_set, g1], by simp [T.get_set, hcs], by simp [T.get_set, g15], by simp [T.get_set, g16], by simp [T.get_set], fall_step hs hr h0 (by rw [← hc, hkp]; exact f1) f2⟩, muAt_lt g17 (by simp [T.get_set]) hlt⟩
          · have hck' : ¬ (c : Int) < K.length := by omega
            have hkn : K[c]? = none := List.getElem?_eq_none (by omega)
            simp [evOp_call, T.get_set, g0, g1, g4, g15, g16, g17, h0', hO, hxr.lenS, hck']
            refine Gd.mono (fall_any s r.n r.y r.m hln 0 _) ?_
            rintro ⟨u, s2⟩ ⟨hu, f1, f2⟩
            simp only at hu f1 f2
            subst hu
            simp [evOp_call, T.get_set, g0, g1, g4, g15, g16, g17, w1, hwj]
            exact ⟨⟨j + 1, hlt, by simp [T.get_set, g0], by simp [T.get_set, g1], by simp [T.get_set, hcs], by simp [T.get_set, g15], by simp [T.get_set, g16], by simp [T.get_set], fall_step hs hr h0 (by rw [← hc, hkn]; exact f1) f2⟩, muAt_lt g17 (by simp [T.get_set]) hlt⟩
      · obtain rfl : j = v.R.length := by omega
        obtain ⟨t', p1, p2, p3, p4, p5, p6, p7, p8⟩ := hs.at'.blk
        simp [evOp_call, sets, T.get_set, g0, g1, g4, g15, g16, g17, loadE_eq, getC_eq, p1, putB_eq, roT]
        have hsB := hs.at'.setB (v' := v.fell K) (((t'.set 1 (.bool true)).set 2 (.int .i64 0)).set 3 (.c (.slice none 0 0))) (by simp [memIs, MV.fell, nilW, T.get_set, p2, p6, p7, p8]) rfl rfl ⟨rfl, .inl ⟨.inl rfl, rfl⟩⟩ (fun k hk => absurd hk nm_nil)
        exact hs.trans ⟨hsB.1, hsB.2, fun k hk => by
          rcases hk with rfl | hk | hk | hk
          · exact .inl (.inl rfl)
          · exact .inl (.inr (.inl hk))
          · exact absurd hk nm_nil
          · exact .inl (.inr (.inr (.inr hk)))⟩
end Go.Proofs.Ytenncnbaoejekaa

/-
  Contracts: records put in order.
-/
import Derived.Test.YtdoennkmcloalaaBsC
set_option linter.unusedSimpArgs false
namespace Go.Proofs.Ytdoennkmcloalaa
open Go.RowKit Ev
/-- a function's value called -/
noncomputable def funK (P : Program) (F : CallF) (c : Cx) (v : V) (args : List V) (st : St) : Res := match v with
  | .f (.func f) first caps => (match ext? P f with
    | some g => (match extE P g (first ++ args ++ caps) st with | some r => some r | none => extS P c f (first ++ args ++ caps) st)
    | none => F c f (first ++ args ++ caps) st)
  | _ => none
theorem funK_f {P : Program} {F : CallF} {c : Cx} {f : Nat} (h : ext? P f = none) (args : List V) (st : St) : funK P F c (.f (.func f) [] []) args st = F c f args st := by
  unfold funK
  simp [h]
theorem evOp_callV {P : Program} {F : CallF} {c : Cx} {e : Env} {st : St} {d : Option Nat} {ty : TypeId} {p : String} {af : Array Edge} {g : Option (Nat × Bool)} (q : Nat) (args : Array Operand) (ats : Array TypeId) : evOp P F c e st ⟨d, .call ⟨.value (.tmp q), args, ats⟩, ty, p, af, g⟩ = opds e args.toList fun args => opd e (.tmp q) fun f => funK P F c f args st := rfl
theorem nan_any (c : Cx) (st : St) (a : BitVec 64) : Gd (callL Try.prog c 208 [wd a] st) fun r => r = (.bool false, st) := by
  rw [Gd_callL Try.func208 rfl]
  simp [evOp_call, sets, T.get_set]
def cmpW (a b : BitVec 64) : Int := if a < b then -1 else if b < a then 1 else 0
theorem cmp_any (c : Cx) (st : St) (a b : BitVec 64) : Gd (callL Try.prog c 172 [wd a, wd b] st) fun r => r = (.int .i64 (cmpW a b), st) := by
  rw [Gd_callL Try.func172 rfl]
  simp [evOp_call, sets, T.get_set]
  refine Gd.mono (nan_any _ st a) ?_
  rintro _ rfl
  simp [evOp_call, sets, T.get_set]
  refine Gd.mono (nan_any _ st b) ?_
  rintro _ rfl
  unfold cmpW
  by_cases h1 : a < b
  · simp [evOp_call, sets, T.get_set, h1]
  · by_cases h2 : b < a
    · simp [evOp_call, sets, T.get_set, h1, h2]
    · simp [evOp_call, sets, T.get_set, h1, h2]
theorem all1_any (st : St) (a b : BitVec 64) (x y : V) (nt : Nat) :
    Gd (callL Try.prog ⟨false, [], 0, nt⟩ 171 [.g [wd a, x], .g [wd b, y]] st) fun r => r.1 = .int .i64 (cmpW a b) ∧ Ext st.nx st r.2 := by
  rw [Gd_callL Try.func171 rfl]
  simp [evOp_call, sets, T.get_set, newC_is, cellsOf, loadE_eq, getC_eq]
  refine Gd.mono (cmp_any _ _ a b) ?_
  rintro _ rfl
  simp [evOp_call, sets, T.get_set]
  exact ((Ext.refl _ _).new (Nat.le_refl _) _).new (Nat.le_succ _) _
/-- a block of records -/
abbrev RcE := BitVec 64 × V × List (Int × BitVec 64)
def RcB (st : St) (m : Nat) (E : List RcE) : Prop := m < st.nx ∧ ∃ ty t, st.h.get m = some (.cs ty (E.length * 2) t) ∧ ty ≠ roT ∧ ∀ j r, E[j]? = some r → t.get (j * 2) = some (wd r.1) ∧ t.get (j * 2 + 1) = some r.2.1 ∧ r.2.1.one = true
theorem RcB.ext {st st' : St} {m : Nat} {E : List RcE} (h : RcB st m E) (k : Ext st.nx st st') : RcB st' m E := by
  obtain ⟨h1, ty, t, h2, h3⟩ := h
  exact ⟨Nat.lt_of_lt_of_le h1 k.le, ty, t, (k.keep m h1).trans h2, h3⟩
theorem rc_put {i : Nat} {E : List RcE} {t : T V} {a : BitVec 64} {y : V} {K : List (Int × BitVec 64)} (hc : ∀ j r, E[j]? = some r → t.get (j * 2) = some (wd r.1) ∧ t.get (j * 2 + 1) = some r.2.1 ∧ r.2.1.one = true) (hi : i < E.length) (hy : y.one = true) :
    ∀ j r, (E.set i (a, y, K))[j]? = some r → ((t.set (i * 2) (wd a)).set (i * 2 + 1) y).get (j * 2) = some (wd r.1) ∧ ((t.set (i * 2) (wd a)).set (i * 2 + 1) y).get (j * 2 + 1) = some r.2.1 ∧ r.2.1.one = true := by
  intro j r hj
  rw [List.getElem?_set] at hj
  by_cases e : i = j
  · subst e
    rw [if_pos rfl, if_pos hi] at hj
    injection hj with hj
    subst hj
    refine ⟨?_, T.get_set_same _ _ _, hy⟩
    rw [T.get_set, if_neg (by omega)]; exact T.get_set_same _ _ _
  · rw [if_neg e] at hj
    obtain ⟨h1, h2, h3⟩ := hc j r hj
    refine ⟨?_, ?_, h3⟩
    · rw [T.get_set, if_neg (by omega), T.get_set, if_neg (by omega)]; exact h1
    · rw [T.get_set, if_neg (by omega), T.get_set, if_neg (by omega)]; exact h2
def ky (E : List RcE) (i : Nat) : Nat := ((E[i]?.getD (0#64, .u, [])).1).toNat
/-- in order but for the one at j -/
structure Sunk (E0 E : List RcE) (i j : Nat) : Prop where
  perm : E.Perm E0
  le : j ≤ i
  lt : i < E.length
  ord : ∀ p q, p < q → q ≤ i → p ≠ j → q ≠ j → ky E p ≤ ky E q
  up : ∀ q, j < q → q ≤ i → ky E j ≤ ky E q
theorem ky_set {E : List RcE} {i p : Nat} {r : RcE} (hi : i < E.length) : ky (E.set i r) p = if i = p then r.1.toNat else ky E p := by
  unfold ky
  rw [List.getElem?_set]
  by_cases e : i = p
  · rw [if_pos e, if_pos e, if_pos hi]; rfl
  · rw [if_neg e, if_neg e]
theorem Sunk.step {E0 E : List RcE} {i j : Nat} {a b : RcE} (h : Sunk E0 E i (j + 1)) (ha : E[j + 1]? = some a) (hb : E[j]? = some b) (hlt : a.1 < b.1) : Sunk E0 ((E.set (j + 1) b).set j a) i j := by
  have hl := h.lt
  have hji := h.le
  have e1 : E[j + 1]'(by omega) = a := by rw [List.getElem?_eq_getElem (by omega)] at ha; injection ha
  have e2 : E[j]'(by omega) = b := by rw [List.getElem?_eq_getElem (by omega)] at hb; injection hb
  have ka : ky E (j + 1) = a.1.toNat := by unfold ky; rw [ha]; rfl
  have kb : ky E j = b.1.toNat := by unfold ky; rw [hb]; rfl
  have hab : a.1.toNat < b.1.toNat := by rwa [BitVec.lt_def] at hlt
  have kk : ∀ p, ky ((E.set (j + 1) b).set j a) p = if j = p then a.1.toNat else if j + 1 = p then b.1.toNat else ky E p := fun p => by
    rw [ky_set (by rw [List.length_set]; omega), ky_set (by omega)]
  refine ⟨?_, by omega, by simp; omega, fun p q hpq hq hp hqj => ?_, fun q hjq hq => ?_⟩
  · have := @List.set_set_perm RcE E (j + 1) j (by omega) (by omega)
    rw [e1, e2] at this
    exact this.trans h.perm
  · rw [kk p, kk q, if_neg (show ¬ j = p by omega), if_neg (show ¬ j = q by omega)]
    by_cases c1 : j + 1 = p
    · rw [if_pos c1, if_neg (show ¬ j + 1 = q by omega), ← kb]
      exact h.ord j q (by omega) hq (by omega) (by omega)
    · rw [if_neg c1]
      by_cases c2 : j + 1 = q
      · rw [if_pos c2, ← kb]
        exact h.ord p j (by omega) (by omega) (by omega) (by omega)
      · rw [if_neg c2]
        exact h.ord p q hpq hq (by omega) (by omega)
  · rw [kk j, kk q, if_pos rfl, if_neg (show ¬ j = q by omega)]
    by_cases c2 : j + 1 = q
    · rw [if_pos c2]; omega
    · rw [if_neg c2, ← ka]
      exact h.up q (by omega) hq
/-- the first i are in order -/
def Srt (E : List RcE) (i : Nat) : Prop := ∀ p q, p < q → q < i → ky E p ≤ ky E q
theorem Sunk.done {E0 E : List RcE} {i j : Nat} (h : Sunk E0 E i j) (hd : j = 0 ∨ ∃ k a b, j = k + 1 ∧ E[k + 1]? = some a ∧ E[k]? = some b ∧ ¬ a.1 < b.1) : E.Perm E0 ∧ Srt E (i + 1) := by
  refine ⟨h.perm, fun p q hpq hq => ?_⟩
  by_cases c1 : p = j
  · subst c1; exact h.up q hpq (by omega)
  · by_cases c2 : q = j
    · subst c2
      rcases hd with hd | ⟨k, a, b, rfl, ha, hb, hn⟩
      · omega
      · have ka : ky E (k + 1) = a.1.toNat := by unfold ky; rw [ha]; rfl
        have kb : ky E k = b.1.toNat := by unfold ky; rw [hb]; rfl
        have hba : b.1.toNat ≤ a.1.toNat := by rw [BitVec.lt_def] at hn; omega
        rw [ka]
        by_cases c3 : p = k
        · rw [c3, kb]; exact hba
        · exact Nat.le_trans (h.ord p k (by omega) (by omega) (by omega) (by omega)) (by rw [kb]; exact hba)
    · exact h.ord p q hpq (by omega) c1 c2
def isI (s0 : St) (m : Nat) (E0 : List RcE) (e : Env) (s : St) : Prop := ∃ (i : Nat) (E : List RcE), 1 ≤ i ∧ i ≤ E.length ∧ e.get 0 = some (.sg m 0 E0.length 2) ∧ e.get 1 = some (.int .i64 0) ∧ e.get 2 = some (.int .i64 (E0.length : Int)) ∧ e.get 3 = some (.f (.func 171) [] []) ∧ e.get 8 = some (.int .i64 (i : Int)) ∧ E.Perm E0 ∧ Srt E i ∧ RcB s m E ∧ s0.nx ≤ s.nx ∧ (∀ k, k < s0.nx → k ≠ m → s.h.get k = s0.h.get k) ∧ (Wf s0 → Wf s)
def isJ (s0 : St) (m i : Nat) (E0 : List RcE) (e : Env) (s : St) : Prop := ∃ (j : Nat) (E : List RcE), e.get 0 = some (.sg m 0 E0.length 2) ∧ e.get 1 = some (.int .i64 0) ∧ e.get 2 = some (.int .i64 (E0.length : Int)) ∧ e.get 3 = some (.f (.func 171) [] []) ∧ e.get 8 = some (.int .i64 (i : Int)) ∧ e.get 9 = some (.int .i64 (j : Int)) ∧ Sunk E0 E i j ∧ RcB s m E ∧ s0.nx ≤ s.nx ∧ (∀ k, k < s0.nx → k ≠ m → s.h.get k = s0.h.get k) ∧ (Wf s0 → Wf s)
noncomputable def jAt (e : Env) : Nat := match e.get 9 with
  | some (.c (.int _ n)) => n.toNat
  | _ => 0
set_option maxRecDepth 20000 in
set_option maxHeartbeats 8000000 in
theorem isort_any (st : St) (m : Nat) (E : List RcE) (h0 : 0 < E.length) (h8 : E.length ≤ 16) (hE : RcB st m E) (nt : Nat) :
    Gd (callL Try.prog ⟨false, [], 0, nt⟩ 239 [.sg m 0 E.length 2, .int .i64 0, .int .i64 (E.length : Int), .f (.func 171) [] []] st) fun r => r.1 = .t [] ∧ ∃ E', E'.Perm E ∧ Srt E' E'.length ∧ RcB r.2 m E' ∧ st.nx ≤ r.2.nx ∧ (∀ k, k < st.nx → k ≠ m → r.2.h.get k = st.h.get k) ∧ (Wf st → Wf r.2) := by
  rw [Gd_callL Try.func239 rfl]
  simp [evOp_call, sets, T.get_set]
  refine Gd_loop (isI st m E) (fun e _ => muAt 8 E.length e) ?_ ?_
  · exact ⟨1, E, by omega, by omega, by simp [T.get_set], by simp [T.get_set], by simp [T.get_set], by simp [T.get_set], by simp [T.get_set]; decide, .refl _, fun p q hpq hq => absurd hq (by omega), hE, Nat.le_refl _, fun _ _ _ => rfl, id⟩
  rintro e s ⟨i, E1, hi1, hi, g0, g1, g2, g3, g8, hp, hso, hB, hle, hk, hwf⟩
  have hEl : E1.length = E.length := hp.length_eq
  by_cases hlt : i < E.length
  case neg =>
    obtain rfl : i = E1.length := by omega
    have hlt' : ¬ (E1.length : Int) < E.length := by omega
    simp [evOp_call, T.get_set, g0, g1, g2, g3, g8, hlt', sets]
    exact ⟨E1, hp, hso, hB, hle, hk, hwf⟩
  have hlt' : (i : Int) < E.length := by omega
  have hwi := wrap_nat (n := i) (by omega)
  simp [evOp_call, T.get_set, g0, g1, g2, g3, g8, hlt']
  refine Gd_loop (isJ st m i E) (fun e _ => jAt e) ?_ ?_
  · exact ⟨i, E1, by simp [T.get_set, g0], by simp [T.get_set, g1], by simp [T.get_set, g2], by simp [T.get_set, g3], by simp [T.get_set, g8], by simp [T.get_set], ⟨hp, Nat.le_refl _, by omega, fun p q hpq hq hpi hqi => hso p q hpq (by omega), fun q h1 h2 => absurd h1 (by omega)⟩, hB, hle, hk, hwf⟩
  have g8e := g8
  clear g0 g1 g2 g3 g8 hB hp hso hk hle hwf
  rintro e2 s2 ⟨j, E2, g0, g1, g2, g3, g8, g9, hsk, hB, hle, hk, hwf⟩
  have hEl2 : E2.length = E.length := hsk.perm.length_eq
  rcases (show j = 0 ∨ ∃ k, j = k + 1 from by cases j with | zero => exact .inl rfl | succ k => exact .inr ⟨k, rfl⟩) with rfl | ⟨k, rfl⟩
  · obtain ⟨f1, f2⟩ := hsk.done (.inl rfl)
    simp [evOp_call, T.get_set, g0, g1, g2, g3, g8, g9]
    refine ⟨by kernel_rfl, ?_⟩
    simp [evOp_call, T.get_set, g0, g1, g2, g3, g8, g9, hwi]
    exact ⟨⟨i + 1, E2, by omega, by omega, by simp [T.get_set, g0], by simp [T.get_set, g1], by simp [T.get_set, g2], by simp [T.get_set, g3], by simp [T.get_set], f1, f2, hB, hle, hk, hwf⟩, muAt_lt g8e (by simp [T.get_set]) hlt⟩
  have hji := hsk.le
  have hkp : (0 : Int) < ((k + 1 : Nat) : Int) := by omega
  have wk : IntKind.i64.wrap (((k + 1 : Nat) : Int) - 1) = (k : Int) := by rw [show ((k + 1 : Nat) : Int) - 1 = (k : Int) by omega]; exact wrap_in (by omega) (by omega)
  obtain ⟨a, ha⟩ : ∃ a, E2[k + 1]? = some a := ⟨_, List.getElem?_eq_getElem (by omega)⟩
  obtain ⟨b, hb⟩ : ∃ b, E2[k]? = some b := ⟨_, List.getElem?_eq_getElem (by omega)⟩
  obtain ⟨hm2, ty, t, hg, hro, hc⟩ := id hB
  obtain ⟨a1, a2, a3⟩ := hc _ _ ha
  obtain ⟨b1, b2, b3⟩ := hc _ _ hb
  have hi1' : k + 1 < E.length := by omega
  have hi2' : k < E.length := by omega
  simp [evOp_call, T.get_set, g0, g1, g2, g3, g8, g9, hkp]
  refine ⟨by kernel_rfl, ?_⟩
  have hask : ∀ f : Nat → Res, asNat (.int .i64 ((k : Int) + 1)) f = f (k + 1) := fun f => by
    rw [show (k : Int) + 1 = ((k + 1 : Nat) : Int) by omega]; exact asNat_cast ..
  have wk2 : IntKind.i64.wrap (k : Int) = (k : Int) := wrap_in (by omega) (by omega)
  have wk3 : IntKind.i64.wrap ((k : Int) + 1 - 1) = (k : Int) := by rw [show (k : Int) + 1 - 1 = (k : Int) by omega]; exact wk2
  simp [evOp_call, T.get_set, g0, g1, g2, g3, g8, g9, hkp, wk, wk2, wk3, hask, loadE_eq, getC_eq, getsB_succ, getsB_zero, hg, a1, a2, b1, b2, hi1', hi2', evOp_callV, funK_f xt171]
  rw [cxOf_call (by kernel_rfl) (by kernel_rfl), forb_nil]
  refine Gd.mono (all1_any s2 a.1 b.1 a.2.1 b.2.1 _) ?_
  rintro ⟨r, s3⟩ ⟨hr, e3⟩
  simp only at hr e3
  subst hr
  have hB3 := hB.ext e3
  obtain ⟨hm3, ty3, t3, hg3, hro3, hc3⟩ := id hB3
  have hg3' := (e3.keep m hm2).trans hg
  rw [hg3] at hg3'
  injection hg3' with hg3'
  injection hg3' with e1 _ e4
  subst e1
  subst e4
  have hle3 : st.nx ≤ s3.nx := Nat.le_trans hle e3.le
  have hk3 : ∀ k, k < st.nx → k ≠ m → s3.h.get k = st.h.get k := fun k h1 h2 => (e3.keep k (by omega)).trans (hk k h1 h2)
  have hwf3 : Wf st → Wf s3 := fun h => e3.wf (hwf h)
  by_cases hab : a.1 < b.1
  case neg =>
    have hcm : ¬ cmpW a.1 b.1 < 0 := by unfold cmpW; rw [if_neg hab]; split <;> omega
    obtain ⟨f1, f2⟩ := hsk.done (.inr ⟨k, a, b, rfl, ha, hb, hab⟩)
    simp [evOp_call, T.get_set, g0, g1, g2, g3, g8, g9, hcm, hwi]
    exact ⟨⟨i + 1, E2, by omega, by omega, by simp [T.get_set, g0], by simp [T.get_set, g1], by simp [T.get_set, g2], by simp [T.get_set, g3], by simp [T.get_set], f1, f2, hB3, hle3, hk3, hwf3⟩, muAt_lt g8e (by simp [T.get_set]) hlt⟩
  have hcm : cmpW a.1 b.1 < 0 := by unfold cmpW; rw [if_pos hab]; decide
  simp [evOp_call, T.get_set, g0, g1, g2, g3, g8, g9, hcm, hwi]
  refine ⟨by kernel_rfl, ?_⟩
  simp [evOp_call, T.get_set, g0, g1, g2, g3, g8, g9, hkp, wk, wk2, wk3, hask, loadE_eq, getC_eq, getsB_succ, getsB_zero, hg3, a1, a2, b1, b2, hi1', hi2', storeK_g, putB_eq]
  rw [cxOf_store]
  rotate_left
  · kernel_rfl
  have hr1 : (k + 1) * 2 + 2 ≤ E2.length * 2 := by omega
  have hr2 : k * 2 + 2 ≤ E2.length * 2 := by omega
  simp [evOp_call, T.get_set, g0, g1, g2, g3, g8, g9, hkp, wk, wk2, wk3, hask, loadE_eq, getC_eq, getsB_succ, getsB_zero, hg3, a1, a2, b1, b2, hi1', hi2', storeK_g, putB_eq, hr1, hr2, hro3, sets]
  rw [cxOf_store]
  rotate_left
  · kernel_rfl
  simp [evOp_call, T.get_set, g0, g1, g2, g3, g8, g9, hkp, wk, wk2, wk3, hask, loadE_eq, getC_eq, getsB_succ, getsB_zero, hg3, a1, a2, b1, b2, hi1', hi2', storeK_g, putB_eq, hr1, hr2, hro3, sets]
  have hst := hsk.step ha hb hab
  have hc1 := rc_put (i := k + 1) (a := b.1) (y := b.2.1) (K := b.2.2) hc (by omega) b3
  have hc2 := rc_put (i := k) (a := a.1) (y := a.2.1) (K := a.2.2) hc1 (by rw [List.length_set]; omega) a3
  refine ⟨⟨k, _, by simp [T.get_set, g0], by simp [T.get_set, g1], by simp [T.get_set, g2], by simp [T.get_set, g3], by simp [T.get_set, g8], by simp [T.get_set], hst, ⟨hm3, _, _, ?_, hro3, hc2⟩, hle3, fun k h1 h2 => ?_, fun h n hn => ?_⟩, ?_⟩
  · rw [List.length_set, List.length_set]; exact T.get_set_same _ _ _
  · exact (T.get_set_ne _ _ (fun e => h2 e.symm)).trans (hk3 k h1 h2)
  · exact (T.get_set_ne _ _ (by have : s3.nx ≤ n := hn; omega)).trans (hwf3 h n hn)
  · unfold jAt
    simp [T.get_set, g9]
/-- a row of records' cells -/
def rwE (E : List RcE) : List V := E.flatMap fun r => [wd r.1, r.2.1]
theorem rwE_app (E F : List RcE) : rwE (E ++ F) = rwE E ++ rwE F := by unfold rwE; rw [List.flatMap_append]
theorem rwE_length : ∀ E : List RcE, (rwE E).length = E.length * 2
  | [] => rfl
  | r :: E => by
    show ([wd r.1, r.2.1] ++ rwE E).length = _
    rw [List.length_append, rwE_length E]; simp; omega
theorem rwE_at : ∀ (E : List RcE) (j : Nat) (r : RcE), E[j]? = some r → (rwE E)[j * 2]? = some (wd r.1) ∧ (rwE E)[j * 2 + 1]? = some r.2.1
  | r0 :: E, 0, r, h => by simp at h; subst h; exact ⟨rfl, rfl⟩
  | r0 :: E, j + 1, r, h => by
    have := rwE_at E j r (by simpa using h)
    show ([wd r0.1, r0.2.1] ++ rwE E)[(j + 1) * 2]? = _ ∧ ([wd r0.1, r0.2.1] ++ rwE E)[(j + 1) * 2 + 1]? = _
    rw [show (j + 1) * 2 = 2 + j * 2 by omega, show 2 + j * 2 + 1 = 2 + (j * 2 + 1) by omega, List.getElem?_append_right (by simp), List.getElem?_append_right (by simp)]
    simp only [List.length_cons, List.length_nil]
    rw [show 2 + j * 2 - (0 + 1 + 1) = j * 2 by omega, show 2 + (j * 2 + 1) - (0 + 1 + 1) = j * 2 + 1 by omega]
    exact this
theorem RcB.row {st : St} {m : Nat} {E : List RcE} (h : RcB st m E) : RdRow st (.sg m 0 E.length 2) 2 E.length (rwE E) := by
  obtain ⟨h1, ty, t, h2, h3, h4⟩ := h
  refine ⟨rwE_length E, .inr (.inr ⟨m, 0, ty, E.length * 2, t, rfl, h1, h2, by omega, fun j v hj => ?_⟩)⟩
  have hjl := lt_of_get hj
  rw [rwE_length] at hjl
  obtain ⟨r, hr⟩ : ∃ r, E[j / 2]? = some r := ⟨_, List.getElem?_eq_getElem (by omega)⟩
  obtain ⟨a0, a1⟩ := rwE_at E (j / 2) r hr
  obtain ⟨b0, b1, _⟩ := h4 (j / 2) r hr
  rw [Nat.zero_add]
  rcases (show j = j / 2 * 2 ∨ j = j / 2 * 2 + 1 by omega) with e | e
  · rw [e] at hj ⊢; rw [a0] at hj; injection hj with hj; rw [b0, hj]
  · rw [e] at hj ⊢; rw [a1] at hj; injection hj with hj; rw [b1, hj]
def stI (st : St) (z : V) (n : Nat) (e : Env) (s : St) : Prop := e.get 0 = some z ∧ e.get 1 = some (.int .i64 (n : Int)) ∧ e.get 2 = some (.f (.func 171) [] []) ∧ e.get 6 = some (.int .i64 20) ∧ e.get 7 = some (.int .i64 0) ∧ e.get 8 = some (.int .i64 20) ∧ s = st
set_option maxRecDepth 20000 in
theorem stable_any (st : St) (m : Nat) (E : List RcE) (h0 : 0 < E.length) (h8 : E.length ≤ 16) (hE : RcB st m E) (nt : Nat) :
    Gd (callL Try.prog ⟨false, [], 0, nt⟩ 170 [.sg m 0 E.length 2, .f (.func 171) [] []] st) fun r => r.1 = .t [] ∧ ∃ E', E'.Perm E ∧ Srt E' E'.length ∧ RcB r.2 m E' ∧ st.nx ≤ r.2.nx ∧ (∀ k, k < st.nx → k ≠ m → r.2.h.get k = st.h.get k) ∧ (Wf st → Wf r.2) := by
  rw [Gd_callL Try.func170 rfl]
  have hl := hE.row.lenS st
  simp [evOp_call, sets, T.get_set, hl]
  rw [Gd_callL Try.func207 rfl]
  have c1 : ¬ (20 : Int) ≤ E.length := by omega
  have c2 : ¬ (20 : Int) < E.length := by omega
  simp [evOp_call, sets, T.get_set, c1, c2]
  refine Gd_loop (stI st (.sg m 0 E.length 2) E.length) (fun _ _ => 0) ?_ ?_
  · exact ⟨by simp [T.get_set], by simp [T.get_set], by simp [T.get_set], by simp [T.get_set], by simp [T.get_set], by simp [T.get_set], rfl⟩
  rintro e s ⟨g0, g1, g2, g6, g7, g8, rfl⟩
  simp [evOp_call, T.get_set, g0, g1, g2, g6, g7, g8, c1]
  refine Gd.mono (isort_any s m E h0 h8 hE _) ?_
  rintro ⟨r, s2⟩ ⟨hr, hq⟩
  simp only at hr hq
  subst hr
  simp [evOp_call, T.get_set, g0, g1, g2, g6, g7, g8, c1, c2]
  refine Gd_loop (stI s2 (.sg m 0 E.length 2) E.length) (fun _ _ => 0) ?_ ?_
  · exact ⟨by simp [T.get_set, g0], by simp [T.get_set, g1], by simp [T.get_set, g2], by simp [T.get_set, g6], by simp [T.get_set, g7], by simp [T.get_set, g8], rfl⟩
  clear g0 g1 g2 g6 g7 g8
  rintro e2 s3 ⟨g0, g1, g2, g6, g7, g8, rfl⟩
  simp [evOp_call, T.get_set, g0, g1, g2, g6, g7, g8, c1, c2, sets]
  exact hq
end Go.Proofs.Ytdoennkmcloalaa

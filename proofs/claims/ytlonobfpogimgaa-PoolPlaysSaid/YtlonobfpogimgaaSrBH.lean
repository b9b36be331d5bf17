/-
  PLAIN: SrB, SrC, SrD, SrE, SrF, SrG, SrH, in one text.
-/
import Derived.Test.YtlonobfpogimgaaSrA
import Derived.Test.YtlonobfpogimgaaTySort
set_option linter.unusedSimpArgs false
set_option linter.unusedVariables false
namespace Go.Proofs.Ytlonobfpogimgaa
open Go.RowKit Ev
theorem wrapI {n : Int} (h1 : -9223372036854775808 ≤ n) (h2 : n < 9223372036854775808) : IntKind.i64.wrap n = n := by
  simp only [IntKind.wrap, IntKind.signed, IntKind.bits]; simp; omega
def isI (lt : El → El → Prop) (st : St) (m n : Nat) (D : Nat → El) (a b : Nat) (F : V) (e : Env) (s : St) : Prop := ∃ (i : Nat) (D1 : Nat → El), a + 1 ≤ i ∧ (i ≤ b ∨ i = a + 1) ∧ e.get 0 = some (.sg m 0 n 2) ∧ e.get 1 = some (.int .i64 (a : Int)) ∧ e.get 2 = some (.int .i64 (b : Int)) ∧ e.get 3 = some F ∧ e.get 8 = some (.int .i64 (i : Int)) ∧ Out st m n D a b s D1 ∧ Srt lt D1 a i
def isJ (lt : El → El → Prop) (st : St) (m n : Nat) (D : Nat → El) (a b i : Nat) (F : V) (e : Env) (s : St) : Prop := ∃ (j : Nat) (D1 : Nat → El), e.get 0 = some (.sg m 0 n 2) ∧ e.get 1 = some (.int .i64 (a : Int)) ∧ e.get 2 = some (.int .i64 (b : Int)) ∧ e.get 3 = some F ∧ e.get 8 = some (.int .i64 (i : Int)) ∧ e.get 9 = some (.int .i64 (j : Int)) ∧ Out st m n D a b s D1 ∧ Sunk lt D1 a i j
noncomputable def jAt (t : Nat) (e : Env) : Nat := match e.get t with
  | some (.c (.int _ k)) => k.toNat
  | _ => 0
theorem jAt_eq {t : Nat} {e : Env} {i : IntKind} {k : Int} (h : e.get t = some (.int i k)) : jAt t e = k.toNat := by simp [jAt, h]
set_option maxRecDepth 20000 in
set_option maxHeartbeats 4000000 in
theorem ins_any {lt : El → El → Prop} {F : V} (hF : CmpF F lt) (st : St) (m n : Nat) (D : Nat → El) (hD : RowB st m n D) (a b : Nat) (hab : a ≤ b) (hb : b ≤ n) (hn : n ≤ 1073741824) (nt : Nat) :
    Gd (callL Try.prog ⟨false, [], 0, nt⟩ 58 [.sg m 0 n 2, .int .i64 (a : Int), .int .i64 (b : Int), F] st) fun r => r.1 = .t [] ∧ ∃ D', Out st m n D a b r.2 D' ∧ Srt lt D' a b := by
  rw [Gd_callL Try.func58 rfl]
  have wa : IntKind.i64.wrap ((a : Int) + 1) = ((a + 1 : Nat) : Int) := by rw [wrapI (by omega) (by omega)]; omega
  simp [evOp_call, sets, T.get_set, wa, -Int.natCast_add]
  refine Gd_loop (isI lt st m n D a b F) (fun e _ => muAt 8 b e) ?_ ?_
  · exact ⟨a + 1, D, Nat.le_refl _, .inr rfl, by simp [T.get_set], by simp [T.get_set], by simp [T.get_set], by simp [T.get_set], by simp [T.get_set], Out.refl _ _ hD, fun p q h1 h2 h3 => by omega⟩
  rintro e s ⟨i, D1, hi1, hi, g0, g1, g2, g3, g8, ho, hso⟩
  by_cases hlt : i < b
  case neg =>
    have hlt' : ¬ (i : Int) < b := by omega
    simp [evOp_call, T.get_set, g0, g1, g2, g3, g8, hlt', sets]
    refine ⟨D1, ho, fun p q h1 h2 h3 => hso p q h1 h2 ?_⟩
    rcases hi with hi | hi <;> omega
  have hlt' : (i : Int) < b := by omega
  have hwi : IntKind.i64.wrap ((i : Int) + 1) = ((i + 1 : Nat) : Int) := by rw [wrapI (by omega) (by omega)]; omega
  simp [evOp_call, T.get_set, g0, g1, g2, g3, g8, hlt', -Int.natCast_add]
  refine Gd_loop (isJ lt st m n D a b i F) (fun e _ => jAt 9 e) ?_ ?_
  · exact ⟨i, D1, by simp [T.get_set, g0], by simp [T.get_set, g1], by simp [T.get_set, g2], by simp [T.get_set, g3], by simp [T.get_set, g8], by simp [T.get_set], ho, Sunk.start hso (by omega)⟩
  have g8e := g8
  clear g0 g1 g2 g3 g8 ho hso
  rintro e2 s2 ⟨j, D2, g0, g1, g2, g3, g8, g9, ho, hsk⟩
  have hlo := hsk.lo
  have hhi := hsk.hi
  by_cases hja : j = a
  · have hj' : ¬ (a : Int) < (j : Int) := by omega
    have hfin := hsk.done hF.ord (.inl hja)
    simp [evOp_call, T.get_set, g0, g1, g2, g3, g8, g9, hj']
    refine ⟨by kernel_rfl, ?_⟩
    simp [evOp_call, T.get_set, g0, g1, g2, g3, g8, g9, hj', hwi, -Int.natCast_add]
    exact ⟨⟨i + 1, D2, by omega, .inl (by omega), by simp [T.get_set, g0], by simp [T.get_set, g1], by simp [T.get_set, g2], by simp [T.get_set, g3], by simp [T.get_set], ho, hfin⟩, muAt_lt g8e (by simp [T.get_set]) hlt⟩
  obtain ⟨k, rfl⟩ : ∃ k, j = k + 1 := ⟨j - 1, by omega⟩
  have hj' : (a : Int) < ((k + 1 : Nat) : Int) := by omega
  have wk : IntKind.i64.wrap (((k + 1 : Nat) : Int) - 1) = (k : Int) := by rw [wrapI (by omega) (by omega)]; omega
  obtain ⟨hm2, ty, t, hg, hro, hc⟩ := id ho.row
  have hk1 : k + 1 < n := by omega
  have hk0 : k < n := by omega
  obtain ⟨a1, a2⟩ := hc (k + 1) hk1
  obtain ⟨b1, b2⟩ := hc k hk0
  simp [evOp_call, T.get_set, g0, g1, g2, g3, g8, g9, hj', -Int.natCast_add]
  refine ⟨by kernel_rfl, ?_⟩
  simp [evOp_call, T.get_set, g0, g1, g2, g3, g8, g9, hj', wk, loadE_eq, getC_eq, getsB_succ, getsB_zero, hg, a1, a2, b1, b2, hk1, hk0, evOp_callV, -Int.natCast_add]
  rw [cxOf_call (by kernel_rfl) (by kernel_rfl), forb_nil]
  refine Gd.mono (hF.run s2 (D2 (k + 1)) (D2 k) _) ?_
  rintro ⟨r, s3⟩ ⟨kk, hr, hiff, e3⟩
  simp only at hr hiff e3
  subst hr
  have ho3 := ho.ext e3
  have hg3 : s3.h.get m = some (.cs ty (n * 2) t) := (e3.keep m hm2).trans hg
  have hm3 : m < s3.nx := Nat.lt_of_lt_of_le hm2 e3.le
  by_cases hl : lt (D2 (k + 1)) (D2 k)
  case neg =>
    have hcm : ¬ kk < 0 := fun h => hl (hiff.1 h)
    have hfin := hsk.done hF.ord (.inr ⟨k, rfl, by omega, hl⟩)
    simp [evOp_call, T.get_set, g0, g1, g2, g3, g8, g9, hcm, hwi, -Int.natCast_add]
    exact ⟨⟨i + 1, D2, by omega, .inl (by omega), by simp [T.get_set, g0], by simp [T.get_set, g1], by simp [T.get_set, g2], by simp [T.get_set, g3], by simp [T.get_set], ho3, hfin⟩, muAt_lt g8e (by simp [T.get_set]) hlt⟩
  have hcm : kk < 0 := hiff.2 hl
  have hr1 : (k + 1) * 2 + 2 ≤ n * 2 := by omega
  have hr2 : k * 2 + 2 ≤ n * 2 := by omega
  simp [evOp_call, T.get_set, g0, g1, g2, g3, g8, g9, hcm, -Int.natCast_add]
  refine ⟨by kernel_rfl, ?_⟩
  simp [evOp_call, T.get_set, g0, g1, g2, g3, g8, g9, wk, loadE_eq, getC_eq, getsB_succ, getsB_zero, hg3, a1, a2, b1, b2, hk1, hk0, storeK_g, putB_eq, hr1, hr2, hro, sets, -Int.natCast_add]
  rw [cxOf_store]
  rotate_left
  · kernel_rfl
  simp [evOp_call, T.get_set, g0, g1, g2, g3, g8, g9, wk, loadE_eq, getC_eq, getsB_succ, getsB_zero, hg3, a1, a2, b1, b2, hk1, hk0, storeK_g, putB_eq, hr1, hr2, hro, sets, -Int.natCast_add]
  rw [cxOf_store]
  rotate_left
  · kernel_rfl
  simp [evOp_call, T.get_set, g0, g1, g2, g3, g8, g9, wk, loadE_eq, getC_eq, getsB_succ, getsB_zero, hg3, a1, a2, b1, b2, hk1, hk0, storeK_g, putB_eq, hr1, hr2, hro, sets, -Int.natCast_add]
  refine ⟨⟨k, _, by simp [T.get_set, g0], by simp [T.get_set, g1], by simp [T.get_set, g2], by simp [T.get_set, g3], by simp [T.get_set, g8], by simp [T.get_set], ho3.swap hg3 hro hc hk1 hk0 (by omega) (by omega) (by omega) (by omega), hsk.step hF.ord (by omega) hl⟩, ?_⟩
  rw [jAt_eq g9, jAt_eq (k := (k : Int)) (i := .i64) (by simp [T.get_set])]
  omega
end Go.Proofs.Ytlonobfpogimgaa
set_option linter.unusedSimpArgs false
set_option linter.unusedVariables false
namespace Go.Proofs.Ytlonobfpogimgaa
open Go.RowKit Ev
def kid (r c : Nat) : Prop := c = 2 * r + 1 ∨ c = 2 * r + 2
/-- from lo on no one is less than its child -/
def HpR (lt : El → El → Prop) (D : Nat → El) (f hi lo : Nat) : Prop := ∀ r c, lo ≤ r → kid r c → c < hi → ¬ lt (D (f + r)) (D (f + c))
structure Sft (lt : El → El → Prop) (D : Nat → El) (f hi lo root : Nat) : Prop where
  lo_ : lo ≤ root
  oth : ∀ r c, lo ≤ r → r ≠ root → kid r c → c < hi → ¬ lt (D (f + r)) (D (f + c))
  up : ∀ p c, lo ≤ p → kid p root → kid root c → c < hi → ¬ lt (D (f + p)) (D (f + c))
theorem Sft.start {lt : El → El → Prop} {D : Nat → El} {f hi lo : Nat} (h : HpR lt D f hi (lo + 1)) : Sft lt D f hi lo lo :=
  ⟨Nat.le_refl _, fun r c h1 h2 h3 h4 => h r c (by omega) h3 h4, fun p c h1 h2 => by unfold kid at h2; omega⟩
theorem Sft.leaf {lt : El → El → Prop} {D : Nat → El} {f hi lo root : Nat} (h : Sft lt D f hi lo root) (hl : hi ≤ 2 * root + 1) : HpR lt D f hi lo := fun r c h1 h2 h3 => by
  by_cases e : r = root
  · subst e; unfold kid at h2; omega
  · exact h.oth r c h1 e h2 h3
theorem Sft.done {lt : El → El → Prop} (ho : Ord lt) {D : Nat → El} {f hi lo root c : Nat} (h : Sft lt D f hi lo root) (hm : ∀ c', kid root c' → c' < hi → ¬ lt (D (f + c)) (D (f + c'))) (hn : ¬ lt (D (f + root)) (D (f + c))) : HpR lt D f hi lo := fun r c' h1 h2 h3 => by
  by_cases e : r = root
  · subst e; exact ho.tr _ _ _ (hm c' h2 h3) hn
  · exact h.oth r c' h1 e h2 h3
theorem Sft.step {lt : El → El → Prop} (ho : Ord lt) {D : Nat → El} {f hi lo root c : Nat} (h : Sft lt D f hi lo root) (hk : kid root c) (hc : c < hi) (hm : ∀ c', kid root c' → c' < hi → ¬ lt (D (f + c)) (D (f + c'))) (hl : lt (D (f + root)) (D (f + c))) : Sft lt (swp D (f + root) (f + c)) f hi lo c := by
  have hlo := h.lo_
  have hrc : root < c := by unfold kid at hk; omega
  refine ⟨by omega, fun r c' h1 h2 h3 h4 => ?_, fun p c' h1 h2 h3 h4 => ?_⟩
  · by_cases e1 : r = root
    · subst e1
      rw [swp_i]
      by_cases e2 : c' = c
      · subst e2; rw [swp_j]; exact ho.asym _ _ hl
      · rw [swp_o D (by unfold kid at h3; omega) (by omega)]
        exact hm c' h3 h4
    · rw [swp_o D (i := f + root) (j := f + c) (k := f + r) (by omega) (by omega)]
      by_cases e2 : c' = root
      · subst e2
        rw [swp_i]
        exact h.up r c h1 h3 hk hc
      · have e3 : c' ≠ c := fun e => by subst e; unfold kid at h3 hk; omega
        rw [swp_o D (by omega) (by omega)]
        exact h.oth r c' h1 e1 h3 h4
  · have e1 : p = root := by unfold kid at h2 hk; omega
    subst e1
    have e2 : c < c' := by unfold kid at h3; omega
    rw [swp_i, swp_o D (by omega) (by omega)]
    exact h.oth c c' (by omega) (by omega) h3 h4
def sdI (lt : El → El → Prop) (st : St) (m n : Nat) (D : Nat → El) (f lo hi : Nat) (F : V) (e : Env) (s : St) : Prop := ∃ (r : Nat) (D1 : Nat → El), r ≤ 1073741824 ∧ e.get 0 = some (.sg m 0 n 2) ∧ e.get 2 = some (.int .i64 (hi : Int)) ∧ e.get 3 = some (.int .i64 (f : Int)) ∧ e.get 4 = some F ∧ e.get 10 = some (.int .i64 (r : Int)) ∧ Out st m n D f (f + hi) s D1 ∧ Sft lt D1 f hi lo r
set_option maxRecDepth 20000 in
set_option maxHeartbeats 8000000 in
theorem sift_any {lt : El → El → Prop} {F : V} (hF : CmpF F lt) (st : St) (m n : Nat) (D : Nat → El) (hD : RowB st m n D) (lo hi f : Nat) (hlo : lo ≤ 1073741824) (hb : f + hi ≤ n) (hn : n ≤ 1073741824) (hh : HpR lt D f hi (lo + 1)) (nt : Nat) :
    Gd (callL Try.prog ⟨false, [], 0, nt⟩ 70 [.sg m 0 n 2, .int .i64 (lo : Int), .int .i64 (hi : Int), .int .i64 (f : Int), F] st) fun r => r.1 = .t [] ∧ ∃ D', Out st m n D f (f + hi) r.2 D' ∧ HpR lt D' f hi lo := by
  rw [Gd_callL Try.func70 rfl]
  simp [evOp_call, sets, T.get_set]
  refine Gd_loop (sdI lt st m n D f lo hi F) (fun e _ => hi - jAt 10 e) ?_ ?_
  · exact ⟨lo, D, hlo, by simp [T.get_set], by simp [T.get_set], by simp [T.get_set], by simp [T.get_set], by simp [T.get_set], Out.refl _ _ hD, Sft.start hh⟩
  rintro e s ⟨r, D1, hr30, g0, g2, g3, g4, g10, ho, hsf⟩
  have w1 : IntKind.i64.wrap (2 * (r : Int)) = ((2 * r : Nat) : Int) := by rw [wrapI (by omega) (by omega)]; omega
  have w2 : IntKind.i64.wrap (((2 * r : Nat) : Int) + 1) = ((2 * r + 1 : Nat) : Int) := by rw [wrapI (by omega) (by omega)]; omega
  by_cases hlf : hi ≤ 2 * r + 1
  · have hlf' : (hi : Int) ≤ ((2 * r + 1 : Nat) : Int) := by omega
    simp [evOp_call, T.get_set, g0, g2, g3, g4, g10, w1, w2, hlf', sets, -Int.natCast_add, -Int.natCast_mul]
    exact ⟨D1, ho, hsf.leaf hlf⟩
  have hlf' : ¬ (hi : Int) ≤ ((2 * r + 1 : Nat) : Int) := by omega
  have w3 : IntKind.i64.wrap (((2 * r + 1 : Nat) : Int) + 1) = ((2 * r + 2 : Nat) : Int) := by rw [wrapI (by omega) (by omega)]; omega
  have w4 : IntKind.i64.wrap ((f : Int) + ((2 * r + 1 : Nat) : Int)) = ((f + (2 * r + 1) : Nat) : Int) := by rw [wrapI (by omega) (by omega)]; omega
  have w5 : IntKind.i64.wrap (((f + (2 * r + 1) : Nat) : Int) + 1) = ((f + (2 * r + 2) : Nat) : Int) := by rw [wrapI (by omega) (by omega)]; omega
  have w6 : IntKind.i64.wrap ((f : Int) + ((2 * r + 2 : Nat) : Int)) = ((f + (2 * r + 2) : Nat) : Int) := by rw [wrapI (by omega) (by omega)]; omega
  have w7 : IntKind.i64.wrap ((f : Int) + (r : Int)) = ((f + r : Nat) : Int) := by rw [wrapI (by omega) (by omega)]; omega
  obtain ⟨hm2, ty, t, hg, hro, hc⟩ := id ho.row
  have i1 : f + (2 * r + 1) < n := by omega
  have i0 : f + r < n := by omega
  obtain ⟨a1, a2⟩ := hc _ i1
  obtain ⟨z1, z2⟩ := hc _ i0
  have k1 : kid r (2 * r + 1) := .inl rfl
  by_cases hrt : 2 * r + 2 < hi
  case neg =>
    have hrt' : ¬ ((2 * r + 2 : Nat) : Int) < (hi : Int) := by omega
    have hmx : ∀ c', kid r c' → c' < hi → ¬ lt (D1 (f + (2 * r + 1))) (D1 (f + c')) := fun c' h1 h2 => by
      obtain rfl : c' = 2 * r + 1 := by unfold kid at h1; omega
      exact hF.ord.irr _
    have hk := k1
    have hos := ho
    have hgs := hg
    have hms := hm2
    simp [evOp_call, T.get_set, g0, g2, g3, g4, g10, w1, w2, w3, hlf', hrt', -Int.natCast_add, -Int.natCast_mul]
    refine ⟨by kernel_rfl, ?_⟩
    try simp [evOp_call, T.get_set, g0, g2, g3, g4, g10, w1, w2, w3, hlf', hrt', -Int.natCast_add, -Int.natCast_mul]
    refine ⟨by kernel_rfl, ?_⟩
    simp [evOp_call, T.get_set, g0, g2, g3, g4, g10, w4, w7, loadE_eq, getC_eq, getsB_succ, getsB_zero, hg, a1, a2, z1, z2, i1, i0, evOp_callV, -Int.natCast_add, -Int.natCast_mul]
    rw [cxOf_call (by kernel_rfl) (by kernel_rfl), forb_nil]
    refine Gd.mono (hF.run s (D1 (f + r)) (D1 (f + (2 * r + 1))) _) ?_
    rintro ⟨q, s9⟩ ⟨kk, hq, hiff, e9⟩
    simp only at hq hiff e9
    subst hq
    have ho9 := hos.ext e9
    have hg9 : s9.h.get m = some (.cs ty (n * 2) t) := (e9.keep m hms).trans hgs
    have hm9 : m < s9.nx := Nat.lt_of_lt_of_le hms e9.le
    by_cases hl : lt (D1 (f + r)) (D1 (f + (2 * r + 1)))
    case neg =>
      have hcm : ¬ kk < 0 := fun h => hl (hiff.1 h)
      simp [evOp_call, T.get_set, g0, g2, g3, g4, g10, hcm, sets, -Int.natCast_add, -Int.natCast_mul]
      exact ⟨D1, ho9, hsf.done hF.ord hmx hl⟩
    have hcm : kk < 0 := hiff.2 hl
    have hr1 : (f + r) * 2 + 2 ≤ n * 2 := by omega
    have hr2 : (f + (2 * r + 1)) * 2 + 2 ≤ n * 2 := by omega
    simp [evOp_call, T.get_set, g0, g2, g3, g4, g10, hcm, -Int.natCast_add, -Int.natCast_mul]
    refine ⟨by kernel_rfl, ?_⟩
    simp [evOp_call, T.get_set, g0, g2, g3, g4, g10, w7, w4, loadE_eq, getC_eq, getsB_succ, getsB_zero, hg9, a1, a2, z1, z2, i1, i0, storeK_g, putB_eq, hr1, hr2, hro, sets, -Int.natCast_add, -Int.natCast_mul]
    rw [cxOf_store]
    rotate_left
    · kernel_rfl
    simp [evOp_call, T.get_set, g0, g2, g3, g4, g10, w7, w4, loadE_eq, getC_eq, getsB_succ, getsB_zero, hg9, a1, a2, z1, z2, i1, i0, storeK_g, putB_eq, hr1, hr2, hro, sets, -Int.natCast_add, -Int.natCast_mul]
    rw [cxOf_store]
    rotate_left
    · kernel_rfl
    simp [evOp_call, T.get_set, g0, g2, g3, g4, g10, w7, w4, loadE_eq, getC_eq, getsB_succ, getsB_zero, hg9, a1, a2, z1, z2, i1, i0, storeK_g, putB_eq, hr1, hr2, hro, sets, -Int.natCast_add, -Int.natCast_mul]
    refine ⟨⟨(2 * r + 1), _, by omega, by simp [T.get_set, g0], by simp [T.get_set, g2], by simp [T.get_set, g3], by simp [T.get_set, g4], by simp [T.get_set], ho9.swap hg9 hro hc i0 i1 (by omega) (by omega) (by omega) (by omega), hsf.step hF.ord hk (by omega) hmx hl⟩, ?_⟩
    rw [jAt_eq g10, jAt_eq (k := (((2 * r + 1) : Nat) : Int)) (i := .i64) (by simp [T.get_set])]
    omega
  have hrt' : ((2 * r + 2 : Nat) : Int) < (hi : Int) := by omega
  have i2 : f + (2 * r + 2) < n := by omega
  obtain ⟨b1, b2⟩ := hc _ i2
  simp [evOp_call, T.get_set, g0, g2, g3, g4, g10, w1, w2, w3, hlf', hrt', -Int.natCast_add, -Int.natCast_mul]
  refine ⟨by kernel_rfl, ?_⟩
  simp [evOp_call, T.get_set, g0, g2, g3, g4, g10, w3, w4, w5, hrt', loadE_eq, getC_eq, getsB_succ, getsB_zero, hg, a1, a2, b1, b2, i1, i2, evOp_callV, -Int.natCast_add, -Int.natCast_mul]
  rw [cxOf_call (by kernel_rfl) (by kernel_rfl), forb_nil]
  refine Gd.mono (hF.run s (D1 (f + (2 * r + 1))) (D1 (f + (2 * r + 2))) _) ?_
  rintro ⟨q, t3⟩ ⟨kk, hq, hiff, e3⟩
  simp only at hq hiff e3
  subst hq
  have hot := ho.ext e3
  have hgt : t3.h.get m = some (.cs ty (n * 2) t) := (e3.keep m hm2).trans hg
  have hmt : m < t3.nx := Nat.lt_of_lt_of_le hm2 e3.le
  by_cases hll : lt (D1 (f + (2 * r + 1))) (D1 (f + (2 * r + 2)))
  case pos =>
    have hcm3 : kk < 0 := hiff.2 hll
    have hmx : ∀ c', kid r c' → c' < hi → ¬ lt (D1 (f + (2 * r + 2))) (D1 (f + c')) := fun c' h1 h2 => by
      rcases h1 with rfl | rfl
      · exact hF.ord.asym _ _ hll
      · exact hF.ord.irr _
    have hk : kid r (2 * r + 2) := .inr rfl
    simp [evOp_call, T.get_set, g0, g2, g3, g4, g10, hcm3, w3, -Int.natCast_add, -Int.natCast_mul]
    refine ⟨by kernel_rfl, ?_⟩
    simp [evOp_call, T.get_set, g0, g2, g3, g4, g10, w6, w7, loadE_eq, getC_eq, getsB_succ, getsB_zero, hgt, b1, b2, z1, z2, i2, i0, evOp_callV, -Int.natCast_add, -Int.natCast_mul]
    clear hiff
    rw [cxOf_call (by kernel_rfl) (by kernel_rfl), forb_nil]
    refine Gd.mono (hF.run t3 (D1 (f + r)) (D1 (f + (2 * r + 2))) _) ?_
    rintro ⟨q, s9⟩ ⟨kk, hq, hiff, e9⟩
    simp only at hq hiff e9
    subst hq
    have ho9 := hot.ext e9
    have hg9 : s9.h.get m = some (.cs ty (n * 2) t) := (e9.keep m hmt).trans hgt
    have hm9 : m < s9.nx := Nat.lt_of_lt_of_le hmt e9.le
    by_cases hl : lt (D1 (f + r)) (D1 (f + (2 * r + 2)))
    case neg =>
      have hcm : ¬ kk < 0 := fun h => hl (hiff.1 h)
      simp [evOp_call, T.get_set, g0, g2, g3, g4, g10, hcm, sets, -Int.natCast_add, -Int.natCast_mul]
      exact ⟨D1, ho9, hsf.done hF.ord hmx hl⟩
    have hcm : kk < 0 := hiff.2 hl
    have hr1 : (f + r) * 2 + 2 ≤ n * 2 := by omega
    have hr2 : (f + (2 * r + 2)) * 2 + 2 ≤ n * 2 := by omega
    simp [evOp_call, T.get_set, g0, g2, g3, g4, g10, hcm, -Int.natCast_add, -Int.natCast_mul]
    refine ⟨by kernel_rfl, ?_⟩
    simp [evOp_call, T.get_set, g0, g2, g3, g4, g10, w7, w6, loadE_eq, getC_eq, getsB_succ, getsB_zero, hg9, b1, b2, z1, z2, i2, i0, storeK_g, putB_eq, hr1, hr2, hro, sets, -Int.natCast_add, -Int.natCast_mul]
    rw [cxOf_store]
    rotate_left
    · kernel_rfl
    simp [evOp_call, T.get_set, g0, g2, g3, g4, g10, w7, w6, loadE_eq, getC_eq, getsB_succ, getsB_zero, hg9, b1, b2, z1, z2, i2, i0, storeK_g, putB_eq, hr1, hr2, hro, sets, -Int.natCast_add, -Int.natCast_mul]
    rw [cxOf_store]
    rotate_left
    · kernel_rfl
    simp [evOp_call, T.get_set, g0, g2, g3, g4, g10, w7, w6, loadE_eq, getC_eq, getsB_succ, getsB_zero, hg9, b1, b2, z1, z2, i2, i0, storeK_g, putB_eq, hr1, hr2, hro, sets, -Int.natCast_add, -Int.natCast_mul]
    refine ⟨⟨(2 * r + 2), _, by omega, by simp [T.get_set, g0], by simp [T.get_set, g2], by simp [T.get_set, g3], by simp [T.get_set, g4], by simp [T.get_set], ho9.swap hg9 hro hc i0 i2 (by omega) (by omega) (by omega) (by omega), hsf.step hF.ord hk (by omega) hmx hl⟩, ?_⟩
    rw [jAt_eq g10, jAt_eq (k := (((2 * r + 2) : Nat) : Int)) (i := .i64) (by simp [T.get_set])]
    omega
  have hcm3 : ¬ kk < 0 := fun h => hll (hiff.1 h)
  have hmx : ∀ c', kid r c' → c' < hi → ¬ lt (D1 (f + (2 * r + 1))) (D1 (f + c')) := fun c' h1 h2 => by
    rcases h1 with rfl | rfl
    · exact hF.ord.irr _
    · exact hll
  have hk := k1
  simp [evOp_call, T.get_set, g0, g2, g3, g4, g10, hcm3, w3, -Int.natCast_add, -Int.natCast_mul]
  refine ⟨by kernel_rfl, ?_⟩
  simp [evOp_call, T.get_set, g0, g2, g3, g4, g10, w4, w7, loadE_eq, getC_eq, getsB_succ, getsB_zero, hgt, a1, a2, z1, z2, i1, i0, evOp_callV, -Int.natCast_add, -Int.natCast_mul]
  clear hiff
  rw [cxOf_call (by kernel_rfl) (by kernel_rfl), forb_nil]
  refine Gd.mono (hF.run t3 (D1 (f + r)) (D1 (f + (2 * r + 1))) _) ?_
  rintro ⟨q, s9⟩ ⟨kk, hq, hiff, e9⟩
  simp only at hq hiff e9
  subst hq
  have ho9 := hot.ext e9
  have hg9 : s9.h.get m = some (.cs ty (n * 2) t) := (e9.keep m hmt).trans hgt
  have hm9 : m < s9.nx := Nat.lt_of_lt_of_le hmt e9.le
  by_cases hl : lt (D1 (f + r)) (D1 (f + (2 * r + 1)))
  case neg =>
    have hcm : ¬ kk < 0 := fun h => hl (hiff.1 h)
    simp [evOp_call, T.get_set, g0, g2, g3, g4, g10, hcm, sets, -Int.natCast_add, -Int.natCast_mul]
    exact ⟨D1, ho9, hsf.done hF.ord hmx hl⟩
  have hcm : kk < 0 := hiff.2 hl
  have hr1 : (f + r) * 2 + 2 ≤ n * 2 := by omega
  have hr2 : (f + (2 * r + 1)) * 2 + 2 ≤ n * 2 := by omega
  simp [evOp_call, T.get_set, g0, g2, g3, g4, g10, hcm, -Int.natCast_add, -Int.natCast_mul]
  refine ⟨by kernel_rfl, ?_⟩
  simp [evOp_call, T.get_set, g0, g2, g3, g4, g10, w7, w4, loadE_eq, getC_eq, getsB_succ, getsB_zero, hg9, a1, a2, z1, z2, i1, i0, storeK_g, putB_eq, hr1, hr2, hro, sets, -Int.natCast_add, -Int.natCast_mul]
  rw [cxOf_store]
  rotate_left
  · kernel_rfl
  simp [evOp_call, T.get_set, g0, g2, g3, g4, g10, w7, w4, loadE_eq, getC_eq, getsB_succ, getsB_zero, hg9, a1, a2, z1, z2, i1, i0, storeK_g, putB_eq, hr1, hr2, hro, sets, -Int.natCast_add, -Int.natCast_mul]
  rw [cxOf_store]
  rotate_left
  · kernel_rfl
  simp [evOp_call, T.get_set, g0, g2, g3, g4, g10, w7, w4, loadE_eq, getC_eq, getsB_succ, getsB_zero, hg9, a1, a2, z1, z2, i1, i0, storeK_g, putB_eq, hr1, hr2, hro, sets, -Int.natCast_add, -Int.natCast_mul]
  refine ⟨⟨(2 * r + 1), _, by omega, by simp [T.get_set, g0], by simp [T.get_set, g2], by simp [T.get_set, g3], by simp [T.get_set, g4], by simp [T.get_set], ho9.swap hg9 hro hc i0 i1 (by omega) (by omega) (by omega) (by omega), hsf.step hF.ord hk (by omega) hmx hl⟩, ?_⟩
  rw [jAt_eq g10, jAt_eq (k := (((2 * r + 1) : Nat) : Int)) (i := .i64) (by simp [T.get_set])]
  omega
end Go.Proofs.Ytlonobfpogimgaa
set_option linter.unusedSimpArgs false
set_option linter.unusedVariables false
namespace Go.Proofs.Ytlonobfpogimgaa
open Go.RowKit Ev
theorem HpR.top {lt : El → El → Prop} (ho : Ord lt) {D : Nat → El} {f hi : Nat} (h : HpR lt D f hi 0) : ∀ r, r < hi → ¬ lt (D f) (D (f + r)) := by
  intro r
  induction r using Nat.strongRecOn with
  | _ r ih =>
    intro hr
    rcases Nat.eq_zero_or_pos r with rfl | hp
    · exact ho.irr _
    · have h1 := h ((r - 1) / 2) r (Nat.zero_le _) (by unfold kid; omega) hr
      have h2 := ih ((r - 1) / 2) (by omega) (by omega)
      exact ho.tr _ _ _ h1 h2
/-- the heap's part, and what is in order behind it -/
structure Hps (lt : El → El → Prop) (D : Nat → El) (f hi k : Nat) : Prop where
  heap : HpR lt D f k 0
  tail : ∀ p q, p < q → k ≤ q → q < hi → ¬ lt (D (f + q)) (D (f + p))
theorem Hps.swap {lt : El → El → Prop} (ho : Ord lt) {D : Nat → El} {f hi k : Nat} (h : Hps lt D f hi (k + 1)) (hk : k < hi) :
    HpR lt (swp D f (f + k)) f k 1 ∧ ∀ p q, p < q → k ≤ q → q < hi → ¬ lt (swp D f (f + k) (f + q)) (swp D f (f + k) (f + p)) := by
  have htop := h.heap.top ho
  constructor
  · intro r c h1 h2 h3
    have hrc : r < c := by unfold kid at h2; omega
    rw [swp_o D (by omega) (by omega), swp_o D (by omega) (by omega)]
    exact h.heap r c (Nat.zero_le _) h2 (by omega)
  · intro p q h1 h2 h3
    by_cases e : q = k
    · subst e
      rw [swp_j]
      by_cases e2 : p = 0
      · subst e2; rw [Nat.add_zero, swp_i]; exact htop q (by omega)
      · rw [swp_o D (by omega) (by omega)]
        exact htop p (by omega)
    · rw [swp_o D (i := f) (j := f + k) (k := f + q) (by omega) (by omega)]
      by_cases e2 : p = k
      · subst e2
        rw [swp_j]
        have := h.tail 0 q (by omega) (by omega) h3
        exact this
      · by_cases e3 : p = 0
        · subst e3
          rw [Nat.add_zero, swp_i]
          exact h.tail k q (by omega) (by omega) h3
        · rw [swp_o D (by omega) (by omega)]
          exact h.tail p q h1 (by omega) h3
def hsI (lt : El → El → Prop) (st : St) (m n : Nat) (D : Nat → El) (a hi : Nat) (F : V) (e : Env) (s : St) : Prop := ∃ (k : Nat) (D1 : Nat → El), k ≤ hi ∧ e.get 0 = some (.sg m 0 n 2) ∧ e.get 3 = some F ∧ e.get 8 = some (.int .i64 (a : Int)) ∧ e.get 9 = some (.int .i64 0) ∧ e.get 10 = some (.int .i64 (hi : Int)) ∧ e.get 11 = some (.int .i64 ((k : Int) - 1)) ∧ Out st m n D a (a + hi) s D1 ∧ HpR lt D1 a hi k
def hsJ (lt : El → El → Prop) (st : St) (m n : Nat) (D : Nat → El) (a hi : Nat) (F : V) (e : Env) (s : St) : Prop := ∃ (k : Nat) (D1 : Nat → El), k ≤ hi ∧ e.get 0 = some (.sg m 0 n 2) ∧ e.get 3 = some F ∧ e.get 8 = some (.int .i64 (a : Int)) ∧ e.get 9 = some (.int .i64 0) ∧ e.get 12 = some (.int .i64 ((k : Int) - 1)) ∧ Out st m n D a (a + hi) s D1 ∧ Hps lt D1 a hi k
noncomputable def kAt (t : Nat) (e : Env) : Nat := match e.get t with
  | some (.c (.int _ k)) => (k + 1).toNat
  | _ => 0
theorem kAt_eq {t : Nat} {e : Env} {i : IntKind} {k : Int} (h : e.get t = some (.int i k)) : kAt t e = (k + 1).toNat := by simp [kAt, h]
set_option maxRecDepth 20000 in
set_option maxHeartbeats 8000000 in
theorem heap_any {lt : El → El → Prop} {F : V} (hF : CmpF F lt) (st : St) (m n : Nat) (D : Nat → El) (hD : RowB st m n D) (a b : Nat) (hab : a < b) (hb : b ≤ n) (hn : n ≤ 1000000000) (nt : Nat) :
    Gd (callL Try.prog ⟨false, [], 0, nt⟩ 60 [.sg m 0 n 2, .int .i64 (a : Int), .int .i64 (b : Int), F] st) fun r => r.1 = .t [] ∧ ∃ D', Out st m n D a b r.2 D' ∧ Srt lt D' a b := by
  rw [Gd_callL Try.func60 rfl]
  obtain ⟨hi, rfl⟩ : ∃ hi, b = a + hi := ⟨b - a, by omega⟩
  have w1 : IntKind.i64.wrap (((a + hi : Nat) : Int) - (a : Int)) = (hi : Int) := by rw [wrapI (by omega) (by omega)]; omega
  obtain ⟨h0, hh0⟩ : ∃ h0, hi = h0 + 1 := ⟨hi - 1, by omega⟩
  have w2 : IntKind.i64.wrap ((hi : Int) - 1) = (h0 : Int) := by rw [wrapI (by omega) (by omega)]; omega
  have hq : ∀ {s : St} {t : TypeId} {x y : Operand}, binE Try.prog s .quo t x y (.int .i64 (h0 : Int)) (.int .i64 2) = some (.int .i64 ((h0 / 2 : Nat) : Int), s) := fun {s t x y} => by
    rw [bin_quo, if_neg (by omega)]
    have e : ((h0 : Nat) : Int).tdiv 2 = ((h0 / 2 : Nat) : Int) := rfl
    rw [e, wrapI (by omega) (by omega)]
  simp [evOp_call, sets, T.get_set, w1, w2, hq, -bin_quo, -Int.natCast_add]
  refine Gd_loop (hsI lt st m n D a hi F) (fun e _ => kAt 11 e) ?_ ?_
  · refine ⟨h0 / 2 + 1, D, by omega, by simp [T.get_set], by simp [T.get_set], by simp [T.get_set], by simp [T.get_set], by simp [T.get_set], ?_, Out.refl _ _ hD, fun r c h1 h2 h3 => by unfold kid at h2; omega⟩
    simp [T.get_set]
  rintro e s ⟨k, D1, hk, g0, g3, g8, g9, g10, g11, ho, hhp⟩
  rcases Nat.eq_zero_or_pos k with rfl | hkp
  case inr =>
    obtain ⟨j, rfl⟩ : ∃ j, k = j + 1 := ⟨k - 1, by omega⟩
    have e1 : ((j + 1 : Nat) : Int) - 1 = (j : Int) := by omega
    rw [e1] at g11
    have hj : (0 : Int) ≤ (j : Int) := by omega
    have wj : IntKind.i64.wrap ((j : Int) - 1) = (j : Int) - 1 := wrapI (by omega) (by omega)
    simp [evOp_call, T.get_set, g0, g3, g8, g9, g10, g11, hj]
    refine Gd.mono (sift_any hF s m n D1 ho.row j hi a (by omega) hb (by omega) hhp _) ?_
    rintro ⟨r, s1⟩ ⟨hr, D2, ho2, hh2⟩
    simp only at hr ho2
    subst hr
    simp [evOp_call, T.get_set, g0, g3, g8, g9, g10, g11, wj]
    refine ⟨⟨j, D2, by omega, by simp [T.get_set, g0], by simp [T.get_set, g3], by simp [T.get_set, g8], by simp [T.get_set, g9], by simp [T.get_set, g10], by simp [T.get_set], ho.trans ho2, hh2⟩, ?_⟩
    rw [kAt_eq g11, kAt_eq (k := (j : Int) - 1) (i := .i64) (by simp [T.get_set])]
    omega
  have hj : ¬ (0 : Int) ≤ ((0 : Nat) : Int) - 1 := by omega
  have w5 : IntKind.i64.wrap ((hi : Int) - 1) = (hi : Int) - 1 := wrapI (by omega) (by omega)
  simp [evOp_call, T.get_set, g0, g3, g8, g9, g10, g11, hj, w5]
  refine Gd_loop (hsJ lt st m n D a hi F) (fun e _ => kAt 12 e) ?_ ?_
  · exact ⟨hi, D1, Nat.le_refl _, by simp [T.get_set, g0], by simp [T.get_set, g3], by simp [T.get_set, g8], by simp [T.get_set, g9], by simp [T.get_set], ho, ⟨hhp, fun p q h1 h2 h3 => by omega⟩⟩
  clear g0 g3 g8 g9 g10 g11 ho hhp
  rintro e s ⟨k, D1, hk, g0, g3, g8, g9, g12, ho, hhp⟩
  rcases Nat.eq_zero_or_pos k with rfl | hkp
  · have hj : ¬ (0 : Int) ≤ ((0 : Nat) : Int) - 1 := by omega
    simp [evOp_call, T.get_set, g0, g3, g8, g9, g12, hj, sets]
    refine ⟨D1, ho, fun p q h1 h2 h3 => ?_⟩
    have := hhp.tail (p - a) (q - a) (by omega) (by omega) (by omega)
    rw [show a + (q - a) = q by omega, show a + (p - a) = p by omega] at this
    exact this
  obtain ⟨j, rfl⟩ : ∃ j, k = j + 1 := ⟨k - 1, by omega⟩
  have e1 : ((j + 1 : Nat) : Int) - 1 = (j : Int) := by omega
  rw [e1] at g12
  have hj : (0 : Int) ≤ (j : Int) := by omega
  have wj : IntKind.i64.wrap ((j : Int) - 1) = (j : Int) - 1 := wrapI (by omega) (by omega)
  have w6 : IntKind.i64.wrap ((a : Int) + (j : Int)) = ((a + j : Nat) : Int) := by rw [wrapI (by omega) (by omega)]; omega
  obtain ⟨hm2, ty, t, hg, hro, hc⟩ := id ho.row
  have i0 : a < n := by omega
  have i1 : a + j < n := by omega
  obtain ⟨a1, a2⟩ := hc _ i0
  obtain ⟨b1, b2⟩ := hc _ i1
  have hr1 : a * 2 + 2 ≤ n * 2 := by omega
  have hr2 : (a + j) * 2 + 2 ≤ n * 2 := by omega
  simp [evOp_call, T.get_set, g0, g3, g8, g9, g12, hj]
  refine ⟨by kernel_rfl, ?_⟩
  simp [evOp_call, T.get_set, g0, g3, g8, g9, g12, w6, loadE_eq, getC_eq, getsB_succ, getsB_zero, hg, a1, a2, b1, b2, i0, i1, storeK_g, putB_eq, hr1, hr2, hro, sets, -Int.natCast_add]
  rw [cxOf_store]
  rotate_left
  · kernel_rfl
  simp [evOp_call, T.get_set, g0, g3, g8, g9, g12, w6, loadE_eq, getC_eq, getsB_succ, getsB_zero, hg, a1, a2, b1, b2, i0, i1, storeK_g, putB_eq, hr1, hr2, hro, sets, -Int.natCast_add]
  rw [cxOf_store]
  rotate_left
  · kernel_rfl
  simp [evOp_call, T.get_set, g0, g3, g8, g9, g12, w6, loadE_eq, getC_eq, getsB_succ, getsB_zero, hg, a1, a2, b1, b2, i0, i1, storeK_g, putB_eq, hr1, hr2, hro, sets, -Int.natCast_add]
  have ho2 := ho.swap hg hro hc i0 i1 (Nat.le_refl _) (by omega) (by omega) (by omega)
  obtain ⟨hs1, hs2⟩ := hhp.swap hF.ord (k := j) (by omega)
  refine Gd.mono (sift_any hF _ m n _ ho2.row 0 j a (by omega) (by omega) (by omega) hs1 _) ?_
  rintro ⟨r, s1⟩ ⟨hr, D2, ho3, hh2⟩
  simp only at hr ho3
  subst hr
  simp [evOp_call, T.get_set, g0, g3, g8, g9, g12, wj]
  refine ⟨⟨j, D2, by omega, by simp [T.get_set, g0], by simp [T.get_set, g3], by simp [T.get_set, g8], by simp [T.get_set, g9], by simp [T.get_set], ho2.trans (ho3.mono (Nat.le_refl _) (by omega)), ⟨hh2, fun p q h1 h2 h3 => ?_⟩⟩, ?_⟩
  · rw [ho3.out (k := a + q) (.inr (by omega))]
    by_cases hpj : p < j
    · exact ho3.all (p := fun x => ¬ lt (swp D1 a (a + j) (a + q)) x) (fun i k1 k2 => by
        have := hs2 (i - a) q (by omega) h2 h3
        rw [show a + (i - a) = i by omega] at this
        exact this) (a + p) (by omega) (by omega)
    · rw [ho3.out (k := a + p) (.inr (by omega))]
      exact hs2 p q h1 h2 h3
  · rw [kAt_eq g12, kAt_eq (k := (j : Int) - 1) (i := .i64) (by simp [T.get_set])]
    omega
end Go.Proofs.Ytlonobfpogimgaa
set_option linter.unusedSimpArgs false
set_option linter.unusedVariables false
namespace Go.Proofs.Ytlonobfpogimgaa
open Go.RowKit Ev
def SwB (s : St) (q w : Nat) : Prop := q < s.nx ∧ ∃ ty t, s.h.get q = some (.cs ty 1 t) ∧ ty ≠ roT ∧ t.get 0 = some (.int .i64 (w : Int))
theorem RowB.extq {st s : St} {m n q : Nat} {D : Nat → El} (h : RowB st m n D) (k : Ext q st s) (hq : m < q) : RowB s m n D := by
  obtain ⟨h1, ty, t, h2, h3⟩ := h
  exact ⟨Nat.lt_of_lt_of_le h1 k.le, ty, t, (k.keep m hq).trans h2, h3⟩
theorem SwB.ext {s s' : St} {q w : Nat} (h : SwB s q w) (k : Ext s.nx s s') : SwB s' q w := by
  obtain ⟨h1, ty, t, h2, h3⟩ := h
  exact ⟨Nat.lt_of_lt_of_le h1 k.le, ty, t, (k.keep q h1).trans h2, h3⟩
def o2Q (st : St) (q w i j : Nat) (r : V × St) : Prop := ∃ i' j' w' : Nat, r.1 = .t [.int .i64 (i' : Int), .int .i64 (j' : Int)] ∧ ((i' = i ∧ j' = j) ∨ (i' = j ∧ j' = i)) ∧ w' ≤ w + 1 ∧ SwB r.2 q w' ∧ Ext q st r.2
def meQ (st : St) (q w : Nat) (P : Nat → Prop) (r : V × St) : Prop := ∃ p w' : Nat, r.1 = .int .i64 (p : Int) ∧ P p ∧ w' ≤ w + 3 ∧ SwB r.2 q w' ∧ Ext q st r.2
set_option maxRecDepth 20000 in
set_option maxHeartbeats 4000000 in
theorem order2_any {lt : El → El → Prop} {F : V} (hF : CmpF F lt) (st : St) (m n : Nat) (D : Nat → El) (hD : RowB st m n D) (q w : Nat) (hq : SwB st q w) (hmq : m < q) (hw : w ≤ 1000) (i j : Nat) (hi : i < n) (hj : j < n) (nt : Nat) :
    Gd (callL Try.prog ⟨false, [], 0, nt⟩ 76 [.sg m 0 n 2, .int .i64 (i : Int), .int .i64 (j : Int), .p q 0, F] st) (o2Q st q w i j) := by
  rw [Gd_callL Try.func76 rfl]
  obtain ⟨hm2, ty, t, hg, hro, hc⟩ := id hD
  obtain ⟨a1, a2⟩ := hc _ hi
  obtain ⟨b1, b2⟩ := hc _ hj
  simp [evOp_call, sets, T.get_set]
  refine ⟨by kernel_rfl, ?_⟩
  simp [evOp_call, T.get_set, loadE_eq, getC_eq, getsB_succ, getsB_zero, hg, a1, a2, b1, b2, hi, hj, evOp_callV]
  rw [cxOf_call (by kernel_rfl) (by kernel_rfl), forb_nil]
  refine Gd.mono (hF.run st (D j) (D i) _) ?_
  rintro ⟨r, s1⟩ ⟨kk, hr, hiff, e1⟩
  simp only at hr hiff e1
  subst hr
  obtain ⟨hq1, ty2, t2, hg2, hro2, hc2⟩ := hq.ext e1
  have x1 : Ext q st s1 := e1.mono (Nat.le_of_lt hq.1)
  by_cases hl : kk < 0
  · have w1 : IntKind.i64.wrap ((w : Int) + 1) = ((w + 1 : Nat) : Int) := by rw [wrapI (by omega) (by omega)]; omega
    simp [evOp_call, T.get_set, hl, loadE_eq, getC_eq, hg2, hc2, w1, putB_eq, hro2, sets, -Int.natCast_add]
    exact ⟨j, i, w + 1, rfl, .inr ⟨rfl, rfl⟩, Nat.le_refl _, ⟨hq1, ty2, _, T.get_set_same _ _ _, hro2, by simp [T.get_set]⟩, x1.set (Nat.le_refl _) hq1 _⟩
  · simp [evOp_call, T.get_set, hl]
    exact ⟨i, j, w, rfl, .inl ⟨rfl, rfl⟩, Nat.le_succ _, ⟨hq1, ty2, t2, hg2, hro2, hc2⟩, x1⟩
set_option maxRecDepth 20000 in
set_option maxHeartbeats 4000000 in
theorem median_any {lt : El → El → Prop} {F : V} (hF : CmpF F lt) (st : St) (m n : Nat) (D : Nat → El) (hD : RowB st m n D) (q w : Nat) (hq : SwB st q w) (hmq : m < q) (hw : w ≤ 100) (i j k : Nat) (hi : i < n) (hj : j < n) (hk : k < n) (nt : Nat) :
    Gd (callL Try.prog ⟨false, [], 0, nt⟩ 74 [.sg m 0 n 2, .int .i64 (i : Int), .int .i64 (j : Int), .int .i64 (k : Int), .p q 0, F] st) (meQ st q w fun p => p = i ∨ p = j ∨ p = k) := by
  rw [Gd_callL Try.func74 rfl]
  simp [evOp_call, sets, T.get_set]
  refine Gd.mono (order2_any hF st m n D hD q w hq hmq (by omega) i j hi hj _) ?_
  rintro ⟨r, s1⟩ ⟨i1, j1, w1, hr, hij, hw1, hq1, x1⟩
  simp only at hr hq1 x1
  subst hr
  simp [evOp_call, T.get_set]
  have hi1 : i1 < n := by omega
  have hj1 : j1 < n := by omega
  refine Gd.mono (order2_any hF s1 m n D (hD.extq x1 hmq) q w1 hq1 hmq (by omega) j1 k hj1 hk _) ?_
  rintro ⟨r, s2⟩ ⟨j2, k2, w2, hr, hjk, hw2, hq2, x2⟩
  simp only at hr hq2 x2
  subst hr
  simp [evOp_call, T.get_set]
  have hj2 : j2 < n := by omega
  refine Gd.mono (order2_any hF s2 m n D (hD.extq (x1.trans x2) hmq) q w2 hq2 hmq (by omega) i1 j2 hi1 hj2 _) ?_
  rintro ⟨r, s3⟩ ⟨i3, j3, w3, hr, hij3, hw3, hq3, x3⟩
  simp only at hr hq3 x3
  subst hr
  simp [evOp_call, T.get_set]
  exact ⟨j3, _, rfl, by omega, by omega, hq3, x1.trans (x2.trans x3)⟩
set_option maxRecDepth 20000 in
theorem medAdj_any {lt : El → El → Prop} {F : V} (hF : CmpF F lt) (st : St) (m n : Nat) (D : Nat → El) (hD : RowB st m n D) (hn : n ≤ 1073741824) (q w : Nat) (hq : SwB st q w) (hmq : m < q) (hw : w ≤ 100) (i : Nat) (hi0 : 1 ≤ i) (hi : i + 1 < n) (nt : Nat) :
    Gd (callL Try.prog ⟨false, [], 0, nt⟩ 73 [.sg m 0 n 2, .int .i64 (i : Int), .p q 0, F] st) (meQ st q w fun p => p + 1 = i ∨ p = i ∨ p = i + 1) := by
  rw [Gd_callL Try.func73 rfl]
  have w1 : IntKind.i64.wrap ((i : Int) - 1) = ((i - 1 : Nat) : Int) := by rw [wrapI (by omega) (by omega)]; omega
  have w2 : IntKind.i64.wrap ((i : Int) + 1) = ((i + 1 : Nat) : Int) := by rw [wrapI (by omega) (by omega)]; omega
  simp [evOp_call, sets, T.get_set, w1, w2, -Int.natCast_add]
  refine Gd.mono (median_any hF st m n D hD q w hq hmq hw (i - 1) i (i + 1) (by omega) (by omega) hi _) ?_
  rintro ⟨r, s1⟩ ⟨p, w', hr, hp, hw', hq', x1⟩
  simp only at hr hq' x1
  subst hr
  simp [evOp_call, T.get_set]
  exact ⟨p, _, rfl, by omega, hw', hq', x1⟩
def pivQ (st : St) (a b : Nat) (r : V × St) : Prop := ∃ p h : Nat, r.1 = .t [.int .i64 (p : Int), .int .i64 (h : Int)] ∧ a ≤ p ∧ p < b ∧ Ext st.nx st r.2
set_option maxRecDepth 20000 in
set_option maxHeartbeats 4000000 in
theorem pivot_any {lt : El → El → Prop} {F : V} (hF : CmpF F lt) (st : St) (m n : Nat) (D : Nat → El) (hD : RowB st m n D) (hn : n ≤ 1073741824) (a b : Nat) (hab : a + 8 ≤ b) (hb : b ≤ n) (nt : Nat) :
    Gd (callL Try.prog ⟨false, [], 0, nt⟩ 62 [.sg m 0 n 2, .int .i64 (a : Int), .int .i64 (b : Int), F] st) (pivQ st a b) := by
  rw [Gd_callL Try.func62 rfl]
  obtain ⟨l, rfl⟩ : ∃ l, b = a + l := ⟨b - a, by omega⟩
  obtain ⟨u, hu⟩ : ∃ u, u = l / 4 := ⟨_, rfl⟩
  have w1 : IntKind.i64.wrap (((a + l : Nat) : Int) - (a : Int)) = (l : Int) := by rw [wrapI (by omega) (by omega)]; omega
  have hq : ∀ {s : St} {t : TypeId} {x y : Operand}, binE Try.prog s .quo t x y (.int .i64 (l : Int)) (.int .i64 4) = some (.int .i64 (u : Int), s) := fun {s t x y} => by
    rw [bin_quo, if_neg (by omega)]
    have e : ((l : Nat) : Int).tdiv 4 = ((l / 4 : Nat) : Int) := rfl
    rw [e, ← hu, wrapI (by omega) (by omega)]
  have w2 : IntKind.i64.wrap ((u : Int)) = (u : Int) := wrapI (by omega) (by omega)
  have w3 : IntKind.i64.wrap ((u : Int) * 2) = ((u * 2 : Nat) : Int) := by rw [wrapI (by omega) (by omega)]; omega
  have w4 : IntKind.i64.wrap ((u : Int) * 3) = ((u * 3 : Nat) : Int) := by rw [wrapI (by omega) (by omega)]; omega
  have w5 : IntKind.i64.wrap ((a : Int) + (u : Int)) = ((a + u : Nat) : Int) := by rw [wrapI (by omega) (by omega)]; omega
  have w6 : IntKind.i64.wrap ((a : Int) + ((u * 2 : Nat) : Int)) = ((a + u * 2 : Nat) : Int) := by rw [wrapI (by omega) (by omega)]; omega
  have w7 : IntKind.i64.wrap ((a : Int) + ((u * 3 : Nat) : Int)) = ((a + u * 3 : Nat) : Int) := by rw [wrapI (by omega) (by omega)]; omega
  have h8 : (8 : Int) ≤ (l : Int) := by omega
  obtain ⟨hm2, -⟩ := id hD
  simp [evOp_call, sets, T.get_set, w1, w2, w3, w4, w5, w6, w7, hq, h8, newC_is, -bin_quo, -Int.natCast_add, -Int.natCast_mul]
  obtain ⟨s0, hs0⟩ : ∃ s0 : St, s0 = ⟨st.nx + 1, st.h.set st.nx (.cs 3 1 (T.lf.set 0 (.int .i64 0)))⟩ := ⟨_, rfl⟩
  have x0 : Ext st.nx st s0 := by rw [hs0]; exact (Ext.refl _ _).new (Nat.le_refl _) _
  have hD0 : RowB s0 m n D := hD.ext x0
  have hq0 : SwB s0 st.nx 0 := by rw [hs0]; exact ⟨Nat.lt_succ_self _, _, _, T.get_set_same _ _ _, by decide, by simp [T.get_set]⟩
  rw [← hs0]
  by_cases h50 : 50 ≤ l
  case neg =>
    have h50' : ¬ (50 : Int) ≤ (l : Int) := by omega
    simp only [h50', decide_false]
    simp [evOp_call, T.get_set]
    refine Gd.mono (median_any hF s0 m n D hD0 st.nx 0 hq0 hm2 (by omega) (a + u) (a + u * 2) (a + u * 3) (by omega) (by omega) (by omega) _) ?_
    rintro ⟨r, t9⟩ ⟨p, w9, hr, hp, hw9, hq9, x9⟩
    simp only at hr hq9 x9
    subst hr
    obtain ⟨hq91, ty9, tt9, hg9, hro9, hc9⟩ := id hq9
    have x99 : Ext st.nx st t9 := x0.trans x9
    have hpa : a ≤ p ∧ p < a + l := by rcases hp with rfl | rfl | rfl <;> omega
    by_cases e0 : w9 = 0
    · subst e0
      simp [evOp_call, T.get_set, loadE_eq, getC_eq, hg9, hc9]
      exact ⟨p, 1, rfl, hpa.1, hpa.2, x99⟩
    have e0' : ¬ (w9 : Int) = 0 := by omega
    by_cases e12 : w9 = 12
    · subst e12
      simp [evOp_call, T.get_set, loadE_eq, getC_eq, hg9, hc9]
      exact ⟨p, 2, rfl, hpa.1, hpa.2, x99⟩
    have e12' : ¬ (w9 : Int) = 12 := by omega
    simp [evOp_call, T.get_set, loadE_eq, getC_eq, hg9, hc9, e0, e0', e12, e12']
    exact ⟨p, 0, rfl, hpa.1, hpa.2, x99⟩
  have h50' : (50 : Int) ≤ (l : Int) := by omega
  simp [evOp_call, T.get_set, h50', -Int.natCast_add, -Int.natCast_mul]
  refine Gd.mono (medAdj_any hF s0 m n D hD0 hn st.nx 0 hq0 hm2 (by omega) (a + u) (by omega) (by omega) _) ?_
  rintro ⟨r, s1⟩ ⟨p1, w1', hr, hp1, hw1, hq1, x1⟩
  simp only at hr hq1 x1
  subst hr
  simp [evOp_call, T.get_set, -Int.natCast_add, -Int.natCast_mul]
  refine Gd.mono (medAdj_any hF s1 m n D (hD0.extq x1 hm2) hn st.nx w1' hq1 hm2 (by omega) (a + u * 2) (by omega) (by omega) _) ?_
  rintro ⟨r, s2⟩ ⟨p2, w2', hr, hp2, hw2, hq2, x2⟩
  simp only at hr hq2 x2
  subst hr
  simp [evOp_call, T.get_set, -Int.natCast_add, -Int.natCast_mul]
  refine Gd.mono (medAdj_any hF s2 m n D (hD0.extq (x1.trans x2) hm2) hn st.nx w2' hq2 hm2 (by omega) (a + u * 3) (by omega) (by omega) _) ?_
  rintro ⟨r, s3⟩ ⟨p3, w3', hr, hp3, hw3, hq3, x3⟩
  simp only at hr hq3 x3
  subst hr
  simp [evOp_call, T.get_set]
  refine Gd.mono (median_any hF s3 m n D (hD0.extq (x1.trans (x2.trans x3)) hm2) st.nx w3' hq3 hm2 (by omega) p1 p2 p3 (by omega) (by omega) (by omega) _) ?_
  rintro ⟨r, t9⟩ ⟨p, w9, hr, hp, hw9, hq9, x9⟩
  simp only at hr hq9 x9
  subst hr
  obtain ⟨hq91, ty9, tt9, hg9, hro9, hc9⟩ := id hq9
  have x99 : Ext st.nx st t9 := (x0.trans (x1.trans (x2.trans x3))).trans x9
  have hpa : a ≤ p ∧ p < a + l := by rcases hp with rfl | rfl | rfl <;> omega
  by_cases e0 : w9 = 0
  · subst e0
    simp [evOp_call, T.get_set, loadE_eq, getC_eq, hg9, hc9]
    exact ⟨p, 1, rfl, hpa.1, hpa.2, x99⟩
  have e0' : ¬ (w9 : Int) = 0 := by omega
  by_cases e12 : w9 = 12
  · subst e12
    simp [evOp_call, T.get_set, loadE_eq, getC_eq, hg9, hc9]
    exact ⟨p, 2, rfl, hpa.1, hpa.2, x99⟩
  have e12' : ¬ (w9 : Int) = 12 := by omega
  simp [evOp_call, T.get_set, loadE_eq, getC_eq, hg9, hc9, e0, e0', e12, e12']
  exact ⟨p, 0, rfl, hpa.1, hpa.2, x99⟩
end Go.Proofs.Ytlonobfpogimgaa
set_option linter.unusedSimpArgs false
set_option linter.unusedVariables false
namespace Go.Proofs.Ytlonobfpogimgaa
open Go.RowKit Ev
def rvI (st : St) (m n : Nat) (D : Nat → El) (a b : Nat) (e : Env) (s : St) : Prop := ∃ (i j : Nat) (D1 : Nat → El), a ≤ i ∧ j < b ∧ i + j + 1 = a + b ∧ i ≤ j + 1 ∧ e.get 0 = some (.sg m 0 n 2) ∧ e.get 8 = some (.int .i64 (i : Int)) ∧ e.get 9 = some (.int .i64 (j : Int)) ∧ Out st m n D a b s D1
set_option maxRecDepth 20000 in
set_option maxHeartbeats 4000000 in
theorem rev_any (F : V) (st : St) (m n : Nat) (D : Nat → El) (hD : RowB st m n D) (a b : Nat) (hab : a < b) (hb : b ≤ n) (hn : n ≤ 1073741824) (nt : Nat) :
    Gd (callL Try.prog ⟨false, [], 0, nt⟩ 63 [.sg m 0 n 2, .int .i64 (a : Int), .int .i64 (b : Int), F] st) fun r => r.1 = .t [] ∧ ∃ D', Out st m n D a b r.2 D' := by
  rw [Gd_callL Try.func63 rfl]
  have w0 : IntKind.i64.wrap ((b : Int) - 1) = ((b - 1 : Nat) : Int) := by rw [wrapI (by omega) (by omega)]; omega
  simp [evOp_call, sets, T.get_set, w0]
  refine Gd_loop (rvI st m n D a b) (fun e _ => b - jAt 8 e) ?_ ?_
  · exact ⟨a, b - 1, D, Nat.le_refl _, by omega, by omega, by omega, by simp [T.get_set], by simp [T.get_set], by simp [T.get_set], Out.refl _ _ hD⟩
  rintro e s ⟨i, j, D1, h1, h2, h3, h4, g0, g8, g9, ho⟩
  by_cases hlt : i < j
  case neg =>
    have hlt' : ¬ (i : Int) < (j : Int) := by omega
    simp [evOp_call, T.get_set, g0, g8, g9, hlt', sets]
    exact ⟨D1, ho⟩
  have hlt' : (i : Int) < (j : Int) := by omega
  have w1 : IntKind.i64.wrap ((i : Int) + 1) = ((i + 1 : Nat) : Int) := by rw [wrapI (by omega) (by omega)]; omega
  have w2 : IntKind.i64.wrap ((j : Int) - 1) = ((j - 1 : Nat) : Int) := by rw [wrapI (by omega) (by omega)]; omega
  obtain ⟨hm2, ty, t, hg, hro, hc⟩ := id ho.row
  have i0 : i < n := by omega
  have i1 : j < n := by omega
  obtain ⟨a1, a2⟩ := hc _ i0
  obtain ⟨b1, b2⟩ := hc _ i1
  have hr1 : i * 2 + 2 ≤ n * 2 := by omega
  have hr2 : j * 2 + 2 ≤ n * 2 := by omega
  simp [evOp_call, T.get_set, g0, g8, g9, hlt', -Int.natCast_add]
  refine ⟨by kernel_rfl, ?_⟩
  simp [evOp_call, T.get_set, g0, g8, g9, w1, w2, loadE_eq, getC_eq, getsB_succ, getsB_zero, hg, a1, a2, b1, b2, i0, i1, storeK_g, putB_eq, hr1, hr2, hro, sets, -Int.natCast_add]
  rw [cxOf_store]
  rotate_left
  · kernel_rfl
  simp [evOp_call, T.get_set, g0, g8, g9, w1, w2, loadE_eq, getC_eq, getsB_succ, getsB_zero, hg, a1, a2, b1, b2, i0, i1, storeK_g, putB_eq, hr1, hr2, hro, sets, -Int.natCast_add]
  rw [cxOf_store]
  rotate_left
  · kernel_rfl
  simp [evOp_call, T.get_set, g0, g8, g9, w1, w2, loadE_eq, getC_eq, getsB_succ, getsB_zero, hg, a1, a2, b1, b2, i0, i1, storeK_g, putB_eq, hr1, hr2, hro, sets, -Int.natCast_add]
  refine ⟨⟨i + 1, j - 1, _, by omega, by omega, by omega, by omega, by simp [T.get_set, g0], by simp [T.get_set], by simp [T.get_set], ho.swap hg hro hc i0 i1 (by omega) (by omega) (by omega) (by omega)⟩, ?_⟩
  rw [jAt_eq g8, jAt_eq (k := ((i + 1 : Nat) : Int)) (i := .i64) (by simp [T.get_set])]
  omega
/-! ### some insertions -/
def piI (lt : El → El → Prop) (st : St) (m n : Nat) (D : Nat → El) (a b : Nat) (F : V) (e : Env) (s : St) : Prop := ∃ (i k : Nat) (D1 : Nat → El), a + 1 ≤ i ∧ i ≤ b ∧ k ≤ 5 ∧ e.get 0 = some (.sg m 0 n 2) ∧ e.get 1 = some (.int .i64 (a : Int)) ∧ e.get 2 = some (.int .i64 (b : Int)) ∧ e.get 3 = some F ∧ e.get 9 = some (.int .i64 (i : Int)) ∧ e.get 10 = some (.int .i64 (k : Int)) ∧ Out st m n D a b s D1 ∧ Srt lt D1 a i
def piW (lt : El → El → Prop) (st : St) (m n : Nat) (D : Nat → El) (a b k : Nat) (F : V) (e : Env) (s : St) : Prop := ∃ (i : Nat) (D1 : Nat → El), a + 1 ≤ i ∧ i ≤ b ∧ e.get 0 = some (.sg m 0 n 2) ∧ e.get 1 = some (.int .i64 (a : Int)) ∧ e.get 2 = some (.int .i64 (b : Int)) ∧ e.get 3 = some F ∧ e.get 9 = some (.int .i64 (i : Int)) ∧ e.get 10 = some (.int .i64 (k : Int)) ∧ Out st m n D a b s D1 ∧ Srt lt D1 a i
def piL (lt : El → El → Prop) (st : St) (m n : Nat) (D : Nat → El) (a b k i : Nat) (F : V) (e : Env) (s : St) : Prop := ∃ (j : Nat) (D1 : Nat → El), e.get 0 = some (.sg m 0 n 2) ∧ e.get 1 = some (.int .i64 (a : Int)) ∧ e.get 2 = some (.int .i64 (b : Int)) ∧ e.get 3 = some F ∧ e.get 9 = some (.int .i64 (i : Int)) ∧ e.get 10 = some (.int .i64 (k : Int)) ∧ e.get 11 = some (.int .i64 (j : Int)) ∧ Out st m n D a b s D1 ∧ Sunk lt D1 a (i - 1) j
def piR (lt : El → El → Prop) (st : St) (m n : Nat) (D : Nat → El) (a b k i : Nat) (F : V) (e : Env) (s : St) : Prop := ∃ (j : Nat) (D1 : Nat → El), i + 1 ≤ j ∧ j ≤ b ∧ e.get 0 = some (.sg m 0 n 2) ∧ e.get 1 = some (.int .i64 (a : Int)) ∧ e.get 2 = some (.int .i64 (b : Int)) ∧ e.get 3 = some F ∧ e.get 9 = some (.int .i64 (i : Int)) ∧ e.get 10 = some (.int .i64 (k : Int)) ∧ e.get 12 = some (.int .i64 (j : Int)) ∧ Out st m n D a b s D1 ∧ Srt lt D1 a i
def piQ (lt : El → El → Prop) (st : St) (m n : Nat) (D : Nat → El) (a b : Nat) (r : V × St) : Prop := ∃ (c : Bool) (D' : Nat → El), r.1 = .bool c ∧ Out st m n D a b r.2 D' ∧ (c = true → Srt lt D' a b)
theorem Srt.snoc {lt : El → El → Prop} (ho : Ord lt) {D : Nat → El} {a i : Nat} (h : Srt lt D a i) (hi : a + 1 ≤ i) (hn : ¬ lt (D i) (D (i - 1))) : Srt lt D a (i + 1) := fun p q h1 h2 h3 => by
  by_cases e : q = i
  · subst e
    by_cases e2 : p = q - 1
    · subst e2; exact hn
    · exact ho.tr _ _ _ (h p (q - 1) h1 (by omega) (by omega)) hn
  · exact h p q h1 h2 (by omega)
theorem Srt.far {lt : El → El → Prop} {D : Nat → El} {a i p q : Nat} (h : Srt lt D a i) (hp : i ≤ p) (hq : i ≤ q) : Srt lt (swp D p q) a i := fun x y h1 h2 h3 => by
  rw [swp_o D (by omega) (by omega), swp_o D (by omega) (by omega)]
  exact h x y h1 h2 h3
def piJ (lt : El → El → Prop) (st : St) (m n : Nat) (D : Nat → El) (a b k i : Nat) (F : V) (e : Env) (s : St) : Prop := ∃ (D1 : Nat → El), e.get 0 = some (.sg m 0 n 2) ∧ e.get 1 = some (.int .i64 (a : Int)) ∧ e.get 2 = some (.int .i64 (b : Int)) ∧ e.get 3 = some F ∧ e.get 9 = some (.int .i64 (i : Int)) ∧ e.get 10 = some (.int .i64 (k : Int)) ∧ Out st m n D a b s D1 ∧ Srt lt D1 a i
set_option maxRecDepth 20000 in
set_option maxHeartbeats 8000000 in
theorem pins_any {lt : El → El → Prop} {F : V} (hF : CmpF F lt) (st : St) (m n : Nat) (D : Nat → El) (hD : RowB st m n D) (a b : Nat) (hab : a < b) (hb : b ≤ n) (hn : n ≤ 1073741824) (hlo : 0 < a → ∀ i, a ≤ i → i < b → ¬ lt (D i) (D (a - 1))) (nt : Nat) :
    Gd (callL Try.prog ⟨false, [], 0, nt⟩ 64 [.sg m 0 n 2, .int .i64 (a : Int), .int .i64 (b : Int), F] st) (piQ lt st m n D a b) := by
  rw [Gd_callL Try.func64 rfl]
  have w0 : IntKind.i64.wrap ((a : Int) + 1) = ((a + 1 : Nat) : Int) := by rw [wrapI (by omega) (by omega)]; omega
  have hba : IntKind.i64.wrap ((b : Int) - (a : Int)) = ((b - a : Nat) : Int) := by rw [wrapI (by omega) (by omega)]; omega
  simp [evOp_call, sets, T.get_set, w0, -Int.natCast_add]
  refine Gd_loop (piI lt st m n D a b F) (fun e _ => muAt 10 5 e) ?_ ?_
  · exact ⟨a + 1, 0, D, Nat.le_refl _, by omega, by omega, by simp [T.get_set], by simp [T.get_set], by simp [T.get_set], by simp [T.get_set], by simp [T.get_set], by simp [T.get_set], Out.refl _ _ hD, fun p q h1 h2 h3 => by omega⟩
  rintro e s ⟨i, k, D1, h1, h2, h3, g0, g1, g2, g3, g9, g10, ho, hso⟩
  by_cases hk : k < 5
  case neg =>
    have hk' : ¬ (k : Int) < 5 := by omega
    simp [evOp_call, T.get_set, g0, g1, g2, g3, g9, g10, hk', sets]
    exact ⟨false, D1, rfl, ho, fun h => by cases h⟩
  have hk' : (k : Int) < 5 := by omega
  have wk5 : IntKind.i64.wrap ((k : Int) + 1) = ((k + 1 : Nat) : Int) := by rw [wrapI (by omega) (by omega)]; omega
  have g10e := g10
  simp [evOp_call, T.get_set, g0, g1, g2, g3, g9, g10, hk', -Int.natCast_add]
  refine Gd_loop (piW lt st m n D a b k F) (fun e _ => muAt 9 b e) ?_ ?_
  · exact ⟨i, D1, h1, h2, by simp [T.get_set, g0], by simp [T.get_set, g1], by simp [T.get_set, g2], by simp [T.get_set, g3], by simp [T.get_set, g9], by simp [T.get_set, g10], ho, hso⟩
  clear g0 g1 g2 g3 g9 g10 ho hso h1 h2 i D1
  rintro e s ⟨i, D1, h1, h2, g0, g1, g2, g3, g9, g10, ho, hso⟩
  have g9e := g9
  by_cases hib : i < b
  case neg =>
    obtain rfl : i = b := by omega
    have hib' : ¬ (i : Int) < (i : Int) := by omega
    simp [evOp_call, T.get_set, g0, g1, g2, g3, g9, g10, -Int.natCast_add]
    refine ⟨by kernel_rfl, ?_⟩
    exact ⟨true, D1, rfl, ho, fun _ => hso⟩
  have hib' : (i : Int) < (b : Int) := by omega
  have wi : IntKind.i64.wrap ((i : Int) + 1) = ((i + 1 : Nat) : Int) := by rw [wrapI (by omega) (by omega)]; omega
  have wm : IntKind.i64.wrap ((i : Int) - 1) = ((i - 1 : Nat) : Int) := by rw [wrapI (by omega) (by omega)]; omega
  obtain ⟨hm2, ty, t, hg, hro, hc⟩ := id ho.row
  have i0 : i < n := by omega
  have i1 : i - 1 < n := by omega
  obtain ⟨a1, a2⟩ := hc _ i0
  obtain ⟨b1, b2⟩ := hc _ i1
  simp [evOp_call, T.get_set, g0, g1, g2, g3, g9, g10, hib', -Int.natCast_add]
  refine ⟨by kernel_rfl, ?_⟩
  simp [evOp_call, T.get_set, g0, g1, g2, g3, g9, g10, hib', wm, loadE_eq, getC_eq, getsB_succ, getsB_zero, hg, a1, a2, b1, b2, i0, i1, evOp_callV, -Int.natCast_add]
  rw [cxOf_call (by kernel_rfl) (by kernel_rfl), forb_nil]
  refine Gd.mono (hF.run s (D1 i) (D1 (i - 1)) _) ?_
  rintro ⟨r, s3⟩ ⟨kk, hr, hiff, e3⟩
  simp only at hr hiff e3
  subst hr
  have ho3 := ho.ext e3
  have hg3 : s3.h.get m = some (.cs ty (n * 2) t) := (e3.keep m hm2).trans hg
  have hm3 : m < s3.nx := Nat.lt_of_lt_of_le hm2 e3.le
  by_cases hl : lt (D1 i) (D1 (i - 1))
  case neg =>
    have hcm : ¬ kk < 0 := fun h => hl (hiff.1 h)
    simp [evOp_call, T.get_set, g0, g1, g2, g3, g9, g10, hcm, wi, -Int.natCast_add]
    exact ⟨⟨i + 1, D1, by omega, by omega, by simp [T.get_set, g0], by simp [T.get_set, g1], by simp [T.get_set, g2], by simp [T.get_set, g3], by simp [T.get_set], by simp [T.get_set, g10], ho3, hso.snoc hF.ord h1 hl⟩, muAt_lt g9e (by simp [T.get_set]) hib⟩
  have hcm : kk < 0 := hiff.2 hl
  have hne : ¬ (i : Int) = (b : Int) := by omega
  by_cases h50 : b - a < 50
  · have h50' : ((b - a : Nat) : Int) < 50 := by omega
    simp [evOp_call, T.get_set, g0, g1, g2, g3, g9, g10, hcm, hne, hba, h50', -Int.natCast_add]
    exact ⟨false, D1, rfl, ho3, fun h => by cases h⟩
  have h50' : ¬ ((b - a : Nat) : Int) < 50 := by omega
  have hr1 : i * 2 + 2 ≤ n * 2 := by omega
  have hr2 : (i - 1) * 2 + 2 ≤ n * 2 := by omega
  simp [evOp_call, T.get_set, g0, g1, g2, g3, g9, g10, hcm, hne, hba, h50', -Int.natCast_add]
  refine ⟨by kernel_rfl, ?_⟩
  simp [evOp_call, T.get_set, g0, g1, g2, g3, g9, g10, wm, loadE_eq, getC_eq, getsB_succ, getsB_zero, hg3, a1, a2, b1, b2, i0, i1, storeK_g, putB_eq, hr1, hr2, hro, sets, -Int.natCast_add]
  rw [cxOf_store]
  rotate_left
  · kernel_rfl
  simp [evOp_call, T.get_set, g0, g1, g2, g3, g9, g10, wm, loadE_eq, getC_eq, getsB_succ, getsB_zero, hg3, a1, a2, b1, b2, i0, i1, storeK_g, putB_eq, hr1, hr2, hro, sets, -Int.natCast_add]
  rw [cxOf_store]
  rotate_left
  · kernel_rfl
  simp [evOp_call, T.get_set, g0, g1, g2, g3, g9, g10, wm, loadE_eq, getC_eq, getsB_succ, getsB_zero, hg3, a1, a2, b1, b2, i0, i1, storeK_g, putB_eq, hr1, hr2, hro, sets, -Int.natCast_add, -seqC_n]
  have ho4 := ho3.swap hg3 hro hc i0 i1 (by omega) (by omega) (by omega) (by omega)
  obtain ⟨D2, hD2⟩ : ∃ D2, D2 = swp D1 i (i - 1) := ⟨_, rfl⟩
  rw [← hD2] at ho4
  have hso2 : Srt lt D2 a (i - 1) := fun p q h1 h2 h3 => by
    rw [hD2, swp_o D1 (by omega) (by omega), swp_o D1 (by omega) (by omega)]
    exact hso p q h1 h2 (by omega)
  clear hg3 hg hc a1 a2 b1 b2 hr1 hr2 ho3 ho hso hD2 hl hiff hcm
  rw [seqC_n]
  refine Gd_seqJ (JE fun e s => piJ lt st m n D a b k i F e s) ?_ ?_
  · have wia : IntKind.i64.wrap ((i : Int) - (a : Int)) = ((i - a : Nat) : Int) := by rw [wrapI (by omega) (by omega)]; omega
    by_cases hia : 2 ≤ i - a
    case neg =>
      have hia' : ¬ (2 : Int) ≤ ((i - a : Nat) : Int) := by omega
      simp [evOp_call, T.get_set, g0, g1, g2, g3, g9, g10, wia, hia']
      exact ⟨_, _, rfl, D2, by simp [T.get_set, g0], by simp [T.get_set, g1], by simp [T.get_set, g2], by simp [T.get_set, g3], by simp [T.get_set, g9], by simp [T.get_set, g10], ho4, fun p q h1 h2 h3 => by omega⟩
    have hia' : (2 : Int) ≤ ((i - a : Nat) : Int) := by omega
    simp [evOp_call, T.get_set, g0, g1, g2, g3, g9, g10, wia, hia', wm]
    refine Gd_loop (piL lt st m n D a b k i F) (fun e _ => jAt 11 e) ?_ ?_
    · exact ⟨i - 1, D2, by simp [T.get_set, g0], by simp [T.get_set, g1], by simp [T.get_set, g2], by simp [T.get_set, g3], by simp [T.get_set, g9], by simp [T.get_set, g10], by simp [T.get_set], ho4, Sunk.start hso2 (by omega)⟩
    clear g0 g1 g2 g3 g9 g10 g9e ho4 hso2
    rintro e s ⟨j, D3, g0, g1, g2, g3, g9, g10, g11, ho, hsk⟩
    have hslo := hsk.lo
    have hshi := hsk.hi
    by_cases hj1 : 1 ≤ j
    case neg =>
      have hj1' : ¬ (1 : Int) ≤ (j : Int) := by omega
      have hfin := hsk.done hF.ord (.inl (by omega))
      rw [show i - 1 + 1 = i by omega] at hfin
      simp [evOp_call, T.get_set, g0, g1, g2, g3, g9, g10, g11, hj1']
      exact ⟨_, _, rfl, D3, by simp [T.get_set, g0], by simp [T.get_set, g1], by simp [T.get_set, g2], by simp [T.get_set, g3], by simp [T.get_set, g9], by simp [T.get_set, g10], ho, hfin⟩
    have hj1' : (1 : Int) ≤ (j : Int) := by omega
    obtain ⟨k0, rfl⟩ : ∃ k0, j = k0 + 1 := ⟨j - 1, by omega⟩
    have wj : IntKind.i64.wrap (((k0 + 1 : Nat) : Int) - 1) = (k0 : Int) := by rw [wrapI (by omega) (by omega)]; omega
    obtain ⟨hm2, ty, t, hg, hro, hc⟩ := id ho.row
    have j0 : k0 + 1 < n := by omega
    have j1 : k0 < n := by omega
    obtain ⟨a1, a2⟩ := hc _ j0
    obtain ⟨b1, b2⟩ := hc _ j1
    simp [evOp_call, T.get_set, g0, g1, g2, g3, g9, g10, g11, hj1', -Int.natCast_add]
    refine ⟨by kernel_rfl, ?_⟩
    simp [evOp_call, T.get_set, g0, g1, g2, g3, g9, g10, g11, wj, loadE_eq, getC_eq, getsB_succ, getsB_zero, hg, a1, a2, b1, b2, j0, j1, evOp_callV, -Int.natCast_add]
    rw [cxOf_call (by kernel_rfl) (by kernel_rfl), forb_nil]
    refine Gd.mono (hF.run s (D3 (k0 + 1)) (D3 k0) _) ?_
    rintro ⟨r, s3⟩ ⟨kk, hr, hiff, e3⟩
    simp only at hr hiff e3
    subst hr
    have ho3 := ho.ext e3
    have hg3 : s3.h.get m = some (.cs ty (n * 2) t) := (e3.keep m hm2).trans hg
    by_cases hl : lt (D3 (k0 + 1)) (D3 k0)
    case neg =>
      have hcm : ¬ kk < 0 := fun h => hl (hiff.1 h)
      have hfin := hsk.done hF.ord (if h : k0 + 1 = a then .inl h else .inr ⟨k0, rfl, by omega, hl⟩)
      rw [show i - 1 + 1 = i by omega] at hfin
      simp [evOp_call, T.get_set, g0, g1, g2, g3, g9, g10, g11, hcm, -Int.natCast_add]
      exact ⟨_, _, rfl, D3, by simp [T.get_set, g0], by simp [T.get_set, g1], by simp [T.get_set, g2], by simp [T.get_set, g3], by simp [T.get_set, g9], by simp [T.get_set, g10], ho3, hfin⟩
    have hcm : kk < 0 := hiff.2 hl
    have hka : a ≤ k0 := by
      rcases Nat.lt_or_ge k0 a with h | h
      · exfalso
        obtain rfl : a = k0 + 1 := by omega
        have h1 := hlo (by omega)
        have h2 := ho.all (p := fun x => ¬ lt x (D k0)) (fun i q1 q2 => by have := h1 i q1 q2; rwa [show k0 + 1 - 1 = k0 by omega] at this) (k0 + 1) (Nat.le_refl _) (by omega)
        rw [ho.out (k := k0) (.inl (by omega))] at hl
        exact h2 hl
      · exact h
    have hr1 : (k0 + 1) * 2 + 2 ≤ n * 2 := by omega
    have hr2 : k0 * 2 + 2 ≤ n * 2 := by omega
    simp [evOp_call, T.get_set, g0, g1, g2, g3, g9, g10, g11, hcm, -Int.natCast_add]
    refine ⟨by kernel_rfl, ?_⟩
    simp [evOp_call, T.get_set, g0, g1, g2, g3, g9, g10, g11, wj, loadE_eq, getC_eq, getsB_succ, getsB_zero, hg3, a1, a2, b1, b2, j0, j1, storeK_g, putB_eq, hr1, hr2, hro, sets, -Int.natCast_add]
    rw [cxOf_store]
    rotate_left
    · kernel_rfl
    simp [evOp_call, T.get_set, g0, g1, g2, g3, g9, g10, g11, wj, loadE_eq, getC_eq, getsB_succ, getsB_zero, hg3, a1, a2, b1, b2, j0, j1, storeK_g, putB_eq, hr1, hr2, hro, sets, -Int.natCast_add]
    rw [cxOf_store]
    rotate_left
    · kernel_rfl
    simp [evOp_call, T.get_set, g0, g1, g2, g3, g9, g10, g11, wj, loadE_eq, getC_eq, getsB_succ, getsB_zero, hg3, a1, a2, b1, b2, j0, j1, storeK_g, putB_eq, hr1, hr2, hro, sets, -Int.natCast_add]
    refine ⟨⟨k0, _, by simp [T.get_set, g0], by simp [T.get_set, g1], by simp [T.get_set, g2], by simp [T.get_set, g3], by simp [T.get_set, g9], by simp [T.get_set, g10], by simp [T.get_set], ho3.swap hg3 hro hc j0 j1 (by omega) (by omega) (by omega) (by omega), hsk.step hF.ord hka hl⟩, ?_⟩
    rw [jAt_eq g11, jAt_eq (k := (k0 : Int)) (i := .i64) (by simp [T.get_set])]
    omega
  clear g0 g1 g2 g3 g9 g10 g9e ho4 hso2
  rintro _ ⟨e, s, rfl, D2, g0, g1, g2, g3, g9, g10, ho, hso⟩
  rw [seqC_n]
  have wbi : IntKind.i64.wrap ((b : Int) - (i : Int)) = ((b - i : Nat) : Int) := by rw [wrapI (by omega) (by omega)]; omega
  by_cases hbi : 2 ≤ b - i
  case neg =>
    have hbi' : ¬ (2 : Int) ≤ ((b - i : Nat) : Int) := by omega
    simp [evOp_call, T.get_set, g0, g1, g2, g3, g9, g10, wbi, hbi', wk5, -Int.natCast_add]
    exact ⟨⟨i, k + 1, D2, h1, h2, by omega, by simp [T.get_set, g0], by simp [T.get_set, g1], by simp [T.get_set, g2], by simp [T.get_set, g3], by simp [T.get_set, g9], by simp [T.get_set], ho, hso⟩, muAt_lt g10e (by simp [T.get_set]) hk⟩
  have hbi' : (2 : Int) ≤ ((b - i : Nat) : Int) := by omega
  simp [evOp_call, T.get_set, g0, g1, g2, g3, g9, g10, wbi, hbi', wi, -Int.natCast_add]
  refine Gd_loop (piR lt st m n D a b k i F) (fun e _ => muAt 12 b e) ?_ ?_
  · exact ⟨i + 1, D2, Nat.le_refl _, by omega, by simp [T.get_set, g0], by simp [T.get_set, g1], by simp [T.get_set, g2], by simp [T.get_set, g3], by simp [T.get_set, g9], by simp [T.get_set, g10], by simp [T.get_set], ho, hso⟩
  clear g0 g1 g2 g3 g9 g10 ho hso
  rintro e s ⟨j, D3, hj1, hj2, g0, g1, g2, g3, g9, g10, g12, ho, hso⟩
  by_cases hjb : j < b
  case neg =>
    have hjb' : ¬ (j : Int) < (b : Int) := by omega
    simp [evOp_call, T.get_set, g0, g1, g2, g3, g9, g10, g12, hjb', wk5, -Int.natCast_add]
    exact ⟨⟨i, k + 1, D3, h1, h2, by omega, by simp [T.get_set, g0], by simp [T.get_set, g1], by simp [T.get_set, g2], by simp [T.get_set, g3], by simp [T.get_set, g9], by simp [T.get_set], ho, hso⟩, muAt_lt g10e (by simp [T.get_set]) hk⟩
  have hjb' : (j : Int) < (b : Int) := by omega
  obtain ⟨k0, rfl⟩ : ∃ k0, j = k0 + 1 := ⟨j - 1, by omega⟩
  have wj : IntKind.i64.wrap (((k0 + 1 : Nat) : Int) - 1) = (k0 : Int) := by rw [wrapI (by omega) (by omega)]; omega
  have wj2 : IntKind.i64.wrap (((k0 + 1 : Nat) : Int) + 1) = ((k0 + 1 + 1 : Nat) : Int) := by rw [wrapI (by omega) (by omega)]; omega
  obtain ⟨hm2, ty, t, hg, hro, hc⟩ := id ho.row
  have j0 : k0 + 1 < n := by omega
  have j1 : k0 < n := by omega
  obtain ⟨a1, a2⟩ := hc _ j0
  obtain ⟨b1, b2⟩ := hc _ j1
  simp [evOp_call, T.get_set, g0, g1, g2, g3, g9, g10, g12, hjb', -Int.natCast_add]
  refine ⟨by kernel_rfl, ?_⟩
  simp [evOp_call, T.get_set, g0, g1, g2, g3, g9, g10, g12, wj, loadE_eq, getC_eq, getsB_succ, getsB_zero, hg, a1, a2, b1, b2, j0, j1, evOp_callV, -Int.natCast_add]
  rw [cxOf_call (by kernel_rfl) (by kernel_rfl), forb_nil]
  refine Gd.mono (hF.run s (D3 (k0 + 1)) (D3 k0) _) ?_
  rintro ⟨r, s3⟩ ⟨kk, hr, hiff, e3⟩
  simp only at hr hiff e3
  subst hr
  have ho3 := ho.ext e3
  have hg3 : s3.h.get m = some (.cs ty (n * 2) t) := (e3.keep m hm2).trans hg
  by_cases hl : kk < 0
  case neg =>
    simp [evOp_call, T.get_set, g0, g1, g2, g3, g9, g10, g12, hl, wk5, -Int.natCast_add]
    exact ⟨⟨i, k + 1, D3, h1, h2, by omega, by simp [T.get_set, g0], by simp [T.get_set, g1], by simp [T.get_set, g2], by simp [T.get_set, g3], by simp [T.get_set, g9], by simp [T.get_set], ho3, hso⟩, muAt_lt g10e (by simp [T.get_set]) hk⟩
  have hr1 : (k0 + 1) * 2 + 2 ≤ n * 2 := by omega
  have hr2 : k0 * 2 + 2 ≤ n * 2 := by omega
  simp [evOp_call, T.get_set, g0, g1, g2, g3, g9, g10, g12, hl, -Int.natCast_add]
  refine ⟨by kernel_rfl, ?_⟩
  simp [evOp_call, T.get_set, g0, g1, g2, g3, g9, g10, g12, wj, wj2, loadE_eq, getC_eq, getsB_succ, getsB_zero, hg3, a1, a2, b1, b2, j0, j1, storeK_g, putB_eq, hr1, hr2, hro, sets, -Int.natCast_add]
  rw [cxOf_store]
  rotate_left
  · kernel_rfl
  simp [evOp_call, T.get_set, g0, g1, g2, g3, g9, g10, g12, wj, wj2, loadE_eq, getC_eq, getsB_succ, getsB_zero, hg3, a1, a2, b1, b2, j0, j1, storeK_g, putB_eq, hr1, hr2, hro, sets, -Int.natCast_add]
  rw [cxOf_store]
  rotate_left
  · kernel_rfl
  simp [evOp_call, T.get_set, g0, g1, g2, g3, g9, g10, g12, wj, wj2, loadE_eq, getC_eq, getsB_succ, getsB_zero, hg3, a1, a2, b1, b2, j0, j1, storeK_g, putB_eq, hr1, hr2, hro, sets, -Int.natCast_add]
  exact ⟨⟨k0 + 1 + 1, _, by omega, by omega, by simp [T.get_set, g0], by simp [T.get_set, g1], by simp [T.get_set, g2], by simp [T.get_set, g3], by simp [T.get_set, g9], by simp [T.get_set, g10], by simp [T.get_set], ho3.swap hg3 hro hc j0 j1 (by omega) (by omega) (by omega) (by omega), hso.far (by omega) (by omega)⟩, muAt_lt g12 (by simp [T.get_set]) hjb⟩
end Go.Proofs.Ytlonobfpogimgaa
set_option linter.unusedSimpArgs false
set_option linter.unusedVariables false
namespace Go.Proofs.Ytlonobfpogimgaa
open Go.RowKit Ev
structure ParI (lt : El → El → Prop) (D : Nat → El) (a b i j : Nat) : Prop where
  h1 : a + 1 ≤ i
  h2 : i ≤ j + 1
  h3 : j < b
  lo : ∀ p, a < p → p < i → lt (D p) (D a)
  hi : ∀ q, j < q → q < b → ¬ lt (D q) (D a)
theorem ParI.up {lt : El → El → Prop} {D : Nat → El} {a b i j : Nat} (h : ParI lt D a b i j) (hij : i ≤ j) (hl : lt (D i) (D a)) : ParI lt D a b (i + 1) j :=
  ⟨by have := h.h1; omega, by omega, h.h3, fun p q1 q2 => by
    by_cases e : p = i
    · subst e; exact hl
    · exact h.lo p q1 (by omega), h.hi⟩
theorem ParI.down {lt : El → El → Prop} {D : Nat → El} {a b i j : Nat} (h : ParI lt D a b i (j + 1)) (hij : i ≤ j + 1) (hl : ¬ lt (D (j + 1)) (D a)) : ParI lt D a b i j :=
  ⟨h.h1, by have := h.h2; omega, by have := h.h3; omega, h.lo, fun q q1 q2 => by
    by_cases e : q = j + 1
    · subst e; exact hl
    · exact h.hi q (by omega) q2⟩
theorem ParI.swap {lt : El → El → Prop} {D : Nat → El} {a b i j : Nat} (h : ParI lt D a b i (j + 1)) (hij : i < j + 1) (h1 : ¬ lt (D i) (D a)) (h2 : lt (D (j + 1)) (D a)) : ParI lt (swp D i (j + 1)) a b (i + 1) j := by
  have q1 := h.h1
  have q3 := h.h3
  refine ⟨by omega, by omega, by omega, fun p r1 r2 => ?_, fun q r1 r2 => ?_⟩
  · rw [swp_o D (k := a) (by omega) (by omega)]
    by_cases e : p = i
    · subst e; rw [swp_i]; exact h2
    · rw [swp_o D e (by omega)]; exact h.lo p r1 (by omega)
  · rw [swp_o D (k := a) (by omega) (by omega)]
    by_cases e : q = j + 1
    · subst e; rw [swp_j]; exact h1
    · rw [swp_o D (by omega) e]; exact h.hi q (by omega) r2
structure Parted (lt : El → El → Prop) (D : Nat → El) (a b j : Nat) : Prop where
  h1 : a ≤ j
  h2 : j < b
  lo : ∀ p, a ≤ p → p < j → lt (D p) (D j)
  hi : ∀ q, j < q → q < b → ¬ lt (D q) (D j)
theorem ParI.fin {lt : El → El → Prop} {D : Nat → El} {a b i j : Nat} (h : ParI lt D a b i j) (hij : j < i) : Parted lt (swp D j a) a b j := by
  have q1 := h.h1
  have q2 := h.h2
  refine ⟨by omega, h.h3, fun p r1 r2 => ?_, fun q r1 r2 => ?_⟩
  · rw [swp_i]
    by_cases e : p = a
    · subst e; rw [swp_j]; exact h.lo j (by omega) (by omega)
    · rw [swp_o D (by omega) e]; exact h.lo p (by omega) (by omega)
  · rw [swp_i, swp_o D (by omega) (by omega)]
    exact h.hi q r1 r2
def paG (m n a b J : Nat) (F : V) (i j : Nat) (e : Env) : Prop := j ≤ J ∧ e.get 0 = some (.sg m 0 n 2) ∧ e.get 1 = some (.int .i64 (a : Int)) ∧ e.get 4 = some F ∧ e.get 12 = some (.int .i64 (i : Int)) ∧ e.get 13 = some (.int .i64 (j : Int))
def paA (lt : El → El → Prop) (st : St) (m n : Nat) (D : Nat → El) (a b J : Nat) (F : V) (e : Env) (s : St) : Prop := ∃ (i j : Nat) (D1 : Nat → El), paG m n a b J F i j e ∧ Out st m n D a b s D1 ∧ ParI lt D1 a b i j
def paB (lt : El → El → Prop) (st : St) (m n : Nat) (D : Nat → El) (a b J : Nat) (F : V) (e : Env) (s : St) : Prop := ∃ (i j : Nat) (D1 : Nat → El), paG m n a b J F i j e ∧ Out st m n D a b s D1 ∧ ParI lt D1 a b i j ∧ (i ≤ j → ¬ lt (D1 i) (D1 a))
def paC (lt : El → El → Prop) (st : St) (m n : Nat) (D : Nat → El) (a b J : Nat) (F : V) (e : Env) (s : St) : Prop := ∃ (i j : Nat) (D1 : Nat → El), paG m n a b J F i j e ∧ Out st m n D a b s D1 ∧ ParI lt D1 a b i j ∧ (i ≤ j → ¬ lt (D1 i) (D1 a)) ∧ (i ≤ j → lt (D1 j) (D1 a))
def paD (lt : El → El → Prop) (st : St) (m n : Nat) (D : Nat → El) (a b J : Nat) (F : V) (e : Env) (s : St) : Prop := ∃ (i j : Nat) (D1 : Nat → El), paG m n a b J F i j e ∧ Out st m n D a b s D1 ∧ ParI lt D1 a b i j ∧ j < i
def paQ (lt : El → El → Prop) (st : St) (m n : Nat) (D : Nat → El) (a b : Nat) (r : V × St) : Prop := ∃ (j : Nat) (c : Bool) (D' : Nat → El), r.1 = .t [.int .i64 (j : Int), .bool c] ∧ Out st m n D a b r.2 D' ∧ Parted lt D' a b j
set_option maxRecDepth 20000 in
set_option maxHeartbeats 8000000 in
theorem part_any {lt : El → El → Prop} {F : V} (hF : CmpF F lt) (st : St) (m n : Nat) (D : Nat → El) (hD : RowB st m n D) (a b pv : Nat) (hap : a ≤ pv) (hpb : pv < b) (hb : b ≤ n) (hn : n ≤ 1073741824) (nt : Nat) :
    Gd (callL Try.prog ⟨false, [], 0, nt⟩ 66 [.sg m 0 n 2, .int .i64 (a : Int), .int .i64 (b : Int), .int .i64 (pv : Int), F] st) (paQ lt st m n D a b) := by
  rw [Gd_callL Try.func66 rfl]
  have wa : IntKind.i64.wrap ((a : Int) + 1) = ((a + 1 : Nat) : Int) := by rw [wrapI (by omega) (by omega)]; omega
  have wb : IntKind.i64.wrap ((b : Int) - 1) = ((b - 1 : Nat) : Int) := by rw [wrapI (by omega) (by omega)]; omega
  have ho := Out.refl a b hD
  obtain ⟨hm2, ty, t, hg, hro, hc⟩ := id ho.row
  have i0 : a < n := by omega
  have i1 : pv < n := by omega
  obtain ⟨a1, a2⟩ := hc _ i0
  obtain ⟨b1, b2⟩ := hc _ i1
  have hr1 : a * 2 + 2 ≤ n * 2 := by omega
  have hr2 : pv * 2 + 2 ≤ n * 2 := by omega
  simp [evOp_call, sets, T.get_set]
  refine ⟨by kernel_rfl, ?_⟩
  simp [evOp_call, T.get_set,   loadE_eq, getC_eq, getsB_succ, getsB_zero, hg, a1, a2, b1, b2, i0, i1, storeK_g, putB_eq, hr1, hr2, hro, sets, -Int.natCast_add]
  rw [cxOf_store]
  rotate_left
  · kernel_rfl
  simp [evOp_call, T.get_set,   loadE_eq, getC_eq, getsB_succ, getsB_zero, hg, a1, a2, b1, b2, i0, i1, storeK_g, putB_eq, hr1, hr2, hro, sets, -Int.natCast_add]
  rw [cxOf_store]
  rotate_left
  · kernel_rfl
  simp [evOp_call, T.get_set,   loadE_eq, getC_eq, getsB_succ, getsB_zero, hg, a1, a2, b1, b2, i0, i1, storeK_g, putB_eq, hr1, hr2, hro, sets, -Int.natCast_add, -seqC_n]
  have ho1 := ho.swap hg hro hc i0 i1 (by omega) (by omega) (by omega) (by omega)
  generalize swp D a pv = D1 at ho1
  clear hg hc a1 a2 b1 b2 hr1 hr2 ho i0 i1
  have ho := ho1
  clear ho1
  rw [seqC_n]
  refine Gd_seqJ (JE fun e s => paA lt st m n D a b b F e s) ?_ ?_
  · simp [evOp_call, sets, T.get_set, wa, wb, -Int.natCast_add]
    exact ⟨_, _, rfl, a + 1, b - 1, D1, ⟨by omega, by simp [T.get_set], by simp [T.get_set], by simp [T.get_set], by simp [T.get_set], by simp [T.get_set]⟩, ho, ⟨Nat.le_refl _, by omega, by omega, fun p q1 q2 => by omega, fun q q1 q2 => by omega⟩⟩
  clear ho D1
  rintro _ ⟨e, s, rfl, i, j, D1, ⟨hJ, g0, g1, g4, g12, g13⟩, ho, hp⟩
  rw [seqC_n]
  refine Gd_seqJ (JE fun e s => paB lt st m n D a b b F e s) ?_ ?_
  · rw [Gd_block]
    refine Gd_loop (paA lt st m n D a b b F) (fun e _ => b - jAt 12 e) ?_ ?_
    · exact ⟨i, j, D1, ⟨by omega, by simp [T.get_set, g0], by simp [T.get_set, g1], by simp [T.get_set, g4], by simp [T.get_set, g12], by simp [T.get_set, g13]⟩, ho, hp⟩
    clear hJ g0 g1 g4 g12 g13 ho hp
    rintro e s ⟨i, j, D1, ⟨hJ, g0, g1, g4, g12, g13⟩, ho, hp⟩
    have hp1 := hp.h1
    have hp2 := hp.h2
    have hp3 := hp.h3
    by_cases hij : i ≤ j
    case neg =>
      have hij' : ¬ (i : Int) ≤ (j : Int) := by omega
      simp [evOp_call, T.get_set, g0, g1, g4, g12, g13, hij']
      refine ⟨by kernel_rfl, ?_⟩
      exact ⟨_, _, rfl, i, j, D1, ⟨by omega, by simp [T.get_set, g0], by simp [T.get_set, g1], by simp [T.get_set, g4], by simp [T.get_set, g12], by simp [T.get_set, g13]⟩, ho, hp, fun h => absurd h hij⟩
    have hij' : (i : Int) ≤ (j : Int) := by omega
    obtain ⟨hm2, ty, t, hg, hro, hc⟩ := id ho.row
    have i0 : i < n := by omega
    have i1 : a < n := by omega
    obtain ⟨a1, a2⟩ := hc _ i0
    obtain ⟨b1, b2⟩ := hc _ i1
    simp [evOp_call, T.get_set, g0, g1, g4, g12, g13, hij']
    refine ⟨by kernel_rfl, ?_⟩
    simp [evOp_call, T.get_set, g0, g1, g4, g12, g13, hij', loadE_eq, getC_eq, getsB_succ, getsB_zero, hg, a1, a2, b1, b2, i0, i1, evOp_callV]
    rw [cxOf_call (by kernel_rfl) (by kernel_rfl), forb_nil]
    refine Gd.mono (hF.run s (D1 i) (D1 a) _) ?_
    rintro ⟨r, s3⟩ ⟨kk, hr, hiff, e3⟩
    simp only at hr hiff e3
    subst hr
    have ho3 := ho.ext e3
    have w1 : IntKind.i64.wrap ((i : Int) + 1) = ((i + 1 : Nat) : Int) := by rw [wrapI (by omega) (by omega)]; omega
    by_cases hl : lt (D1 i) (D1 a)
    case neg =>
      have hcm : ¬ kk < 0 := fun h => hl (hiff.1 h)
      simp [evOp_call, T.get_set, g0, g1, g4, g12, g13, hcm]
      exact ⟨_, _, rfl, i, j, D1, ⟨by omega, by simp [T.get_set, g0], by simp [T.get_set, g1], by simp [T.get_set, g4], by simp [T.get_set, g12], by simp [T.get_set, g13]⟩, ho3, hp, fun _ => hl⟩
    have hcm : kk < 0 := hiff.2 hl
    simp [evOp_call, T.get_set, g0, g1, g4, g12, g13, hcm, w1, -Int.natCast_add]
    refine ⟨⟨i + 1, j, D1, ⟨by omega, by simp [T.get_set, g0], by simp [T.get_set, g1], by simp [T.get_set, g4], by simp [T.get_set], by simp [T.get_set, g13]⟩, ho3, hp.up hij hl⟩, ?_⟩
    rw [jAt_eq g12, jAt_eq (k := ((i + 1 : Nat) : Int)) (i := .i64) (by simp [T.get_set])]
    omega
  clear hJ g0 g1 g4 g12 g13 ho hp i j D1
  rintro _ ⟨e, s, rfl, i, j, D1, ⟨hJ, g0, g1, g4, g12, g13⟩, ho, hp, hst⟩
  rw [seqC_n]
  refine Gd_seqJ (JE fun e s => paC lt st m n D a b b F e s) ?_ ?_
  · rw [Gd_block]
    refine Gd_loop (paB lt st m n D a b b F) (fun e _ => jAt 13 e) ?_ ?_
    · exact ⟨i, j, D1, ⟨by omega, by simp [T.get_set, g0], by simp [T.get_set, g1], by simp [T.get_set, g4], by simp [T.get_set, g12], by simp [T.get_set, g13]⟩, ho, hp, hst⟩
    clear hJ g0 g1 g4 g12 g13 ho hp hst
    rintro e s ⟨i, j, D1, ⟨hJ, g0, g1, g4, g12, g13⟩, ho, hp, hst⟩
    have hp1 := hp.h1
    have hp2 := hp.h2
    have hp3 := hp.h3
    by_cases hij : i ≤ j
    case neg =>
      have hij' : ¬ (i : Int) ≤ (j : Int) := by omega
      simp [evOp_call, T.get_set, g0, g1, g4, g12, g13, hij']
      refine ⟨by kernel_rfl, ?_⟩
      exact ⟨_, _, rfl, i, j, D1, ⟨by omega, by simp [T.get_set, g0], by simp [T.get_set, g1], by simp [T.get_set, g4], by simp [T.get_set, g12], by simp [T.get_set, g13]⟩, ho, hp, hst, fun h => absurd h hij⟩
    have hij' : (i : Int) ≤ (j : Int) := by omega
    obtain ⟨hm2, ty, t, hg, hro, hc⟩ := id ho.row
    have i0 : j < n := by omega
    have i1 : a < n := by omega
    obtain ⟨a1, a2⟩ := hc _ i0
    obtain ⟨b1, b2⟩ := hc _ i1
    simp [evOp_call, T.get_set, g0, g1, g4, g12, g13, hij']
    refine ⟨by kernel_rfl, ?_⟩
    simp [evOp_call, T.get_set, g0, g1, g4, g12, g13, hij', loadE_eq, getC_eq, getsB_succ, getsB_zero, hg, a1, a2, b1, b2, i0, i1, evOp_callV]
    rw [cxOf_call (by kernel_rfl) (by kernel_rfl), forb_nil]
    refine Gd.mono (hF.run s (D1 j) (D1 a) _) ?_
    rintro ⟨r, s3⟩ ⟨kk, hr, hiff, e3⟩
    simp only at hr hiff e3
    subst hr
    have ho3 := ho.ext e3
    obtain ⟨j0, rfl⟩ : ∃ j0, j = j0 + 1 := ⟨j - 1, by omega⟩
    have w1 : IntKind.i64.wrap (((j0 + 1 : Nat) : Int) - 1) = (j0 : Int) := by rw [wrapI (by omega) (by omega)]; omega
    by_cases hl : lt (D1 (j0 + 1)) (D1 a)
    case pos =>
      have hcm : kk < 0 := hiff.2 hl
      simp [evOp_call, T.get_set, g0, g1, g4, g12, g13, hcm]
      exact ⟨_, _, rfl, i, j0 + 1, D1, ⟨by omega, by simp [T.get_set, g0], by simp [T.get_set, g1], by simp [T.get_set, g4], by simp [T.get_set, g12], by simp [T.get_set, g13]⟩, ho3, hp, hst, fun _ => hl⟩
    have hcm : ¬ kk < 0 := fun h => hl (hiff.1 h)
    simp [evOp_call, T.get_set, g0, g1, g4, g12, g13, hcm, w1, -Int.natCast_add]
    refine ⟨⟨i, j0, D1, ⟨by omega, by simp [T.get_set, g0], by simp [T.get_set, g1], by simp [T.get_set, g4], by simp [T.get_set, g12], by simp [T.get_set]⟩, ho3, hp.down hij hl, fun h => hst (by omega)⟩, ?_⟩
    rw [jAt_eq g13, jAt_eq (k := (j0 : Int)) (i := .i64) (by simp [T.get_set])]
    omega
  clear hJ g0 g1 g4 g12 g13 ho hp hst i j D1
  rintro _ ⟨e, s, rfl, i, j, D1, ⟨hJ, g0, g1, g4, g12, g13⟩, ho, hp, hst, hst2⟩
  rw [seqC_n]
  have hp1 := hp.h1
  have hp2 := hp.h2
  have hp3 := hp.h3
  by_cases hij : j < i
  · have hij' : (j : Int) < (i : Int) := by omega
    simp [evOp_call, T.get_set, g0, g1, g4, g12, g13, hij']
    obtain ⟨hm2, ty, t, hg, hro, hc⟩ := id ho.row
    have i0 : j < n := by omega
    have i1 : a < n := by omega
    obtain ⟨a1, a2⟩ := hc _ i0
    obtain ⟨b1, b2⟩ := hc _ i1
    have hr1 : j * 2 + 2 ≤ n * 2 := by omega
    have hr2 : a * 2 + 2 ≤ n * 2 := by omega
    refine ⟨by kernel_rfl, ?_⟩
    simp [evOp_call, T.get_set, g0, g1, g4, g12, g13,  loadE_eq, getC_eq, getsB_succ, getsB_zero, hg, a1, a2, b1, b2, i0, i1, storeK_g, putB_eq, hr1, hr2, hro, sets, -Int.natCast_add]
    rw [cxOf_store]
    rotate_left
    · kernel_rfl
    simp [evOp_call, T.get_set, g0, g1, g4, g12, g13,  loadE_eq, getC_eq, getsB_succ, getsB_zero, hg, a1, a2, b1, b2, i0, i1, storeK_g, putB_eq, hr1, hr2, hro, sets, -Int.natCast_add]
    rw [cxOf_store]
    rotate_left
    · kernel_rfl
    simp [evOp_call, T.get_set, g0, g1, g4, g12, g13,  loadE_eq, getC_eq, getsB_succ, getsB_zero, hg, a1, a2, b1, b2, i0, i1, storeK_g, putB_eq, hr1, hr2, hro, sets, -Int.natCast_add]
    exact ⟨j, true, _, rfl, ho.swap hg hro hc i0 i1 (by omega) (by omega) (by omega) (by omega), hp.fin hij⟩
  have hij' : ¬ (j : Int) < (i : Int) := by omega
  obtain ⟨j0, rfl⟩ : ∃ j0, j = j0 + 1 := ⟨j - 1, by omega⟩
  have hne : i < j0 + 1 := by
    rcases Nat.lt_or_ge i (j0 + 1) with h | h
    · exact h
    · obtain rfl : i = j0 + 1 := by omega
      exact absurd (hst2 (Nat.le_refl _)) (hst (Nat.le_refl _))
  have w1 : IntKind.i64.wrap ((i : Int) + 1) = ((i + 1 : Nat) : Int) := by rw [wrapI (by omega) (by omega)]; omega
  have w2 : IntKind.i64.wrap (((j0 + 1 : Nat) : Int) - 1) = (j0 : Int) := by rw [wrapI (by omega) (by omega)]; omega
  simp [evOp_call, T.get_set, g0, g1, g4, g12, g13, hij', -Int.natCast_add]
  obtain ⟨hm2, ty, t, hg, hro, hc⟩ := id ho.row
  have i0 : i < n := by omega
  have i1 : (j0 + 1) < n := by omega
  obtain ⟨a1, a2⟩ := hc _ i0
  obtain ⟨b1, b2⟩ := hc _ i1
  have hr1 : i * 2 + 2 ≤ n * 2 := by omega
  have hr2 : (j0 + 1) * 2 + 2 ≤ n * 2 := by omega
  refine ⟨by kernel_rfl, ?_⟩
  simp [evOp_call, T.get_set, g0, g1, g4, g12, g13, w1, w2, loadE_eq, getC_eq, getsB_succ, getsB_zero, hg, a1, a2, b1, b2, i0, i1, storeK_g, putB_eq, hr1, hr2, hro, sets, -Int.natCast_add]
  rw [cxOf_store]
  rotate_left
  · kernel_rfl
  simp [evOp_call, T.get_set, g0, g1, g4, g12, g13, w1, w2, loadE_eq, getC_eq, getsB_succ, getsB_zero, hg, a1, a2, b1, b2, i0, i1, storeK_g, putB_eq, hr1, hr2, hro, sets, -Int.natCast_add]
  rw [cxOf_store]
  rotate_left
  · kernel_rfl
  simp [evOp_call, T.get_set, g0, g1, g4, g12, g13, w1, w2, loadE_eq, getC_eq, getsB_succ, getsB_zero, hg, a1, a2, b1, b2, i0, i1, storeK_g, putB_eq, hr1, hr2, hro, sets, -Int.natCast_add, -seqC_n]
  have ho2 := ho.swap hg hro hc i0 i1 (by omega) (by omega) (by omega) (by omega)
  have hp4 := hp.swap hne (hst (by omega)) (hst2 (by omega))
  generalize swp D1 i (j0 + 1) = D2 at ho2 hp4
  rw [seqC_n]
  simp [evOp_call, sets, T.get_set, g0, g1, g4, g12, g13, w1, w2, -Int.natCast_add, -seqC_n]
  rw [seqC_n]
  refine Gd_seqJ (JE fun e s => paA lt st m n D a b b F e s) ?_ ?_
  · simp [evOp_call, sets, T.get_set, g0, g1, g4, g12, g13, w1, w2, -Int.natCast_add]
    exact ⟨_, _, rfl, i + 1, j0, D2, ⟨by omega, by simp [T.get_set, g0], by simp [T.get_set, g1], by simp [T.get_set, g4], by simp [T.get_set], by simp [T.get_set]⟩, ho2, hp4⟩
  clear hJ g0 g1 g4 g12 g13 ho hp hst hst2 hp1 hp2 hp3 ho2 hp4 hg hc a1 a2 b1 b2 hr1 hr2 i0 i1 w1 w2 hij hij' hne D1 D2
  rintro _ ⟨e, s, rfl, i, j, D1, ⟨hJ, g0, g1, g4, g12, g13⟩, ho, hp⟩
  rw [seqC_n]
  refine Gd_seqJ (JE fun e s => paD lt st m n D a b b F e s) ?_ ?_
  · rw [Gd_block]
    refine Gd_loop (paA lt st m n D a b b F) (fun e _ => jAt 13 e) ?_ ?_
    · exact ⟨i, j, D1, ⟨hJ, g0, g1, g4, g12, g13⟩, ho, hp⟩
    clear hJ g0 g1 g4 g12 g13 ho hp i j D1
    rintro e0 s0 ⟨j9, jj, D1, ⟨hJ, g0, g1, g4, g12, g13e⟩, ho, hp⟩
    rw [Gd_block]
    refine Gd_seqJ (JE fun e s => paB lt st m n D a b jj F e s) ?_ ?_
    · rw [Gd_block]
      refine Gd_loop (paA lt st m n D a b jj F) (fun e _ => b - jAt 12 e) ?_ ?_
      · exact ⟨j9, jj, D1, ⟨Nat.le_refl _, g0, g1, g4, g12, g13e⟩, ho, hp⟩
      clear hJ g0 g1 g4 g12 ho hp D1
      rintro e s ⟨i, j, D1, ⟨hJ, g0, g1, g4, g12, g13⟩, ho, hp⟩
      have hp1 := hp.h1
      have hp2 := hp.h2
      have hp3 := hp.h3
      by_cases hij : i ≤ j
      case neg =>
        have hij' : ¬ (i : Int) ≤ (j : Int) := by omega
        simp [evOp_call, T.get_set, g0, g1, g4, g12, g13, hij']
        refine ⟨by kernel_rfl, ?_⟩
        exact ⟨_, _, rfl, i, j, D1, ⟨by omega, by simp [T.get_set, g0], by simp [T.get_set, g1], by simp [T.get_set, g4], by simp [T.get_set, g12], by simp [T.get_set, g13]⟩, ho, hp, fun h => absurd h hij⟩
      have hij' : (i : Int) ≤ (j : Int) := by omega
      obtain ⟨hm2, ty, t, hg, hro, hc⟩ := id ho.row
      have i0 : i < n := by omega
      have i1 : a < n := by omega
      obtain ⟨a1, a2⟩ := hc _ i0
      obtain ⟨b1, b2⟩ := hc _ i1
      simp [evOp_call, T.get_set, g0, g1, g4, g12, g13, hij']
      refine ⟨by kernel_rfl, ?_⟩
      simp [evOp_call, T.get_set, g0, g1, g4, g12, g13, hij', loadE_eq, getC_eq, getsB_succ, getsB_zero, hg, a1, a2, b1, b2, i0, i1, evOp_callV]
      rw [cxOf_call (by kernel_rfl) (by kernel_rfl), forb_nil]
      refine Gd.mono (hF.run s (D1 i) (D1 a) _) ?_
      rintro ⟨r, s3⟩ ⟨kk, hr, hiff, e3⟩
      simp only at hr hiff e3
      subst hr
      have ho3 := ho.ext e3
      have w1 : IntKind.i64.wrap ((i : Int) + 1) = ((i + 1 : Nat) : Int) := by rw [wrapI (by omega) (by omega)]; omega
      by_cases hl : lt (D1 i) (D1 a)
      case neg =>
        have hcm : ¬ kk < 0 := fun h => hl (hiff.1 h)
        simp [evOp_call, T.get_set, g0, g1, g4, g12, g13, hcm]
        exact ⟨_, _, rfl, i, j, D1, ⟨by omega, by simp [T.get_set, g0], by simp [T.get_set, g1], by simp [T.get_set, g4], by simp [T.get_set, g12], by simp [T.get_set, g13]⟩, ho3, hp, fun _ => hl⟩
      have hcm : kk < 0 := hiff.2 hl
      simp [evOp_call, T.get_set, g0, g1, g4, g12, g13, hcm, w1, -Int.natCast_add]
      refine ⟨⟨i + 1, j, D1, ⟨by omega, by simp [T.get_set, g0], by simp [T.get_set, g1], by simp [T.get_set, g4], by simp [T.get_set], by simp [T.get_set, g13]⟩, ho3, hp.up hij hl⟩, ?_⟩
      rw [jAt_eq g12, jAt_eq (k := ((i + 1 : Nat) : Int)) (i := .i64) (by simp [T.get_set])]
      omega
    clear hJ g0 g1 g4 g12 ho hp D1
    rintro _ ⟨e, s, rfl, i, j, D1, ⟨hJ, g0, g1, g4, g12, g13⟩, ho, hp, hst⟩
    rw [seqC_n]
    refine Gd_seqJ (JE fun e s => paC lt st m n D a b jj F e s) ?_ ?_
    · rw [Gd_block]
      refine Gd_loop (paB lt st m n D a b jj F) (fun e _ => jAt 13 e) ?_ ?_
      · exact ⟨i, j, D1, ⟨by omega, by simp [T.get_set, g0], by simp [T.get_set, g1], by simp [T.get_set, g4], by simp [T.get_set, g12], by simp [T.get_set, g13]⟩, ho, hp, hst⟩
      clear hJ g0 g1 g4 g12 g13 ho hp hst
      rintro e s ⟨i, j, D1, ⟨hJ, g0, g1, g4, g12, g13⟩, ho, hp, hst⟩
      have hp1 := hp.h1
      have hp2 := hp.h2
      have hp3 := hp.h3
      by_cases hij : i ≤ j
      case neg =>
        have hij' : ¬ (i : Int) ≤ (j : Int) := by omega
        simp [evOp_call, T.get_set, g0, g1, g4, g12, g13, hij']
        refine ⟨by kernel_rfl, ?_⟩
        exact ⟨_, _, rfl, i, j, D1, ⟨by omega, by simp [T.get_set, g0], by simp [T.get_set, g1], by simp [T.get_set, g4], by simp [T.get_set, g12], by simp [T.get_set, g13]⟩, ho, hp, hst, fun h => absurd h hij⟩
      have hij' : (i : Int) ≤ (j : Int) := by omega
      obtain ⟨hm2, ty, t, hg, hro, hc⟩ := id ho.row
      have i0 : j < n := by omega
      have i1 : a < n := by omega
      obtain ⟨a1, a2⟩ := hc _ i0
      obtain ⟨b1, b2⟩ := hc _ i1
      simp [evOp_call, T.get_set, g0, g1, g4, g12, g13, hij']
      refine ⟨by kernel_rfl, ?_⟩
      simp [evOp_call, T.get_set, g0, g1, g4, g12, g13, hij', loadE_eq, getC_eq, getsB_succ, getsB_zero, hg, a1, a2, b1, b2, i0, i1, evOp_callV]
      rw [cxOf_call (by kernel_rfl) (by kernel_rfl), forb_nil]
      refine Gd.mono (hF.run s (D1 j) (D1 a) _) ?_
      rintro ⟨r, s3⟩ ⟨kk, hr, hiff, e3⟩
      simp only at hr hiff e3
      subst hr
      have ho3 := ho.ext e3
      obtain ⟨j0, rfl⟩ : ∃ j0, j = j0 + 1 := ⟨j - 1, by omega⟩
      have w1 : IntKind.i64.wrap (((j0 + 1 : Nat) : Int) - 1) = (j0 : Int) := by rw [wrapI (by omega) (by omega)]; omega
      by_cases hl : lt (D1 (j0 + 1)) (D1 a)
      case pos =>
        have hcm : kk < 0 := hiff.2 hl
        simp [evOp_call, T.get_set, g0, g1, g4, g12, g13, hcm]
        exact ⟨_, _, rfl, i, j0 + 1, D1, ⟨by omega, by simp [T.get_set, g0], by simp [T.get_set, g1], by simp [T.get_set, g4], by simp [T.get_set, g12], by simp [T.get_set, g13]⟩, ho3, hp, hst, fun _ => hl⟩
      have hcm : ¬ kk < 0 := fun h => hl (hiff.1 h)
      simp [evOp_call, T.get_set, g0, g1, g4, g12, g13, hcm, w1, -Int.natCast_add]
      refine ⟨⟨i, j0, D1, ⟨by omega, by simp [T.get_set, g0], by simp [T.get_set, g1], by simp [T.get_set, g4], by simp [T.get_set, g12], by simp [T.get_set]⟩, ho3, hp.down hij hl, fun h => hst (by omega)⟩, ?_⟩
      rw [jAt_eq g13, jAt_eq (k := (j0 : Int)) (i := .i64) (by simp [T.get_set])]
      omega
    clear hJ g0 g1 g4 g12 g13 ho hp hst i j D1
    rintro _ ⟨e, s, rfl, i, j, D1, ⟨hJ, g0, g1, g4, g12, g13⟩, ho, hp, hst, hst2⟩
    rw [seqC_n]
    have hp1 := hp.h1
    have hp2 := hp.h2
    have hp3 := hp.h3
    by_cases hij : j < i
    · have hij' : (j : Int) < (i : Int) := by omega
      simp [evOp_call, T.get_set, g0, g1, g4, g12, g13, hij']
      exact ⟨_, _, rfl, i, j, D1, ⟨by omega, by simp [T.get_set, g0], by simp [T.get_set, g1], by simp [T.get_set, g4], by simp [T.get_set, g12], by simp [T.get_set, g13]⟩, ho, hp, hij⟩
    have hij' : ¬ (j : Int) < (i : Int) := by omega
    obtain ⟨j0, rfl⟩ : ∃ j0, j = j0 + 1 := ⟨j - 1, by omega⟩
    have hne : i < j0 + 1 := by
      rcases Nat.lt_or_ge i (j0 + 1) with h | h
      · exact h
      · obtain rfl : i = j0 + 1 := by omega
        exact absurd (hst2 (Nat.le_refl _)) (hst (Nat.le_refl _))
    have w1 : IntKind.i64.wrap ((i : Int) + 1) = ((i + 1 : Nat) : Int) := by rw [wrapI (by omega) (by omega)]; omega
    have w2 : IntKind.i64.wrap (((j0 + 1 : Nat) : Int) - 1) = (j0 : Int) := by rw [wrapI (by omega) (by omega)]; omega
    simp [evOp_call, T.get_set, g0, g1, g4, g12, g13, hij', -Int.natCast_add]
    obtain ⟨hm2, ty, t, hg, hro, hc⟩ := id ho.row
    have i0 : i < n := by omega
    have i1 : (j0 + 1) < n := by omega
    obtain ⟨a1, a2⟩ := hc _ i0
    obtain ⟨b1, b2⟩ := hc _ i1
    have hr1 : i * 2 + 2 ≤ n * 2 := by omega
    have hr2 : (j0 + 1) * 2 + 2 ≤ n * 2 := by omega
    refine ⟨by kernel_rfl, ?_⟩
    simp [evOp_call, T.get_set, g0, g1, g4, g12, g13, w1, w2, loadE_eq, getC_eq, getsB_succ, getsB_zero, hg, a1, a2, b1, b2, i0, i1, storeK_g, putB_eq, hr1, hr2, hro, sets, -Int.natCast_add]
    rw [cxOf_store]
    rotate_left
    · kernel_rfl
    simp [evOp_call, T.get_set, g0, g1, g4, g12, g13, w1, w2, loadE_eq, getC_eq, getsB_succ, getsB_zero, hg, a1, a2, b1, b2, i0, i1, storeK_g, putB_eq, hr1, hr2, hro, sets, -Int.natCast_add]
    rw [cxOf_store]
    rotate_left
    · kernel_rfl
    simp [evOp_call, T.get_set, g0, g1, g4, g12, g13, w1, w2, loadE_eq, getC_eq, getsB_succ, getsB_zero, hg, a1, a2, b1, b2, i0, i1, storeK_g, putB_eq, hr1, hr2, hro, sets, -Int.natCast_add]
    refine ⟨⟨i + 1, j0, _, ⟨by omega, by simp [T.get_set, g0], by simp [T.get_set, g1], by simp [T.get_set, g4], by simp [T.get_set], by simp [T.get_set]⟩, ho.swap hg hro hc i0 i1 (by omega) (by omega) (by omega) (by omega), hp.swap hne (hst (by omega)) (hst2 (by omega))⟩, ?_⟩
    rw [jAt_eq g13e, jAt_eq (k := (j0 : Int)) (i := .i64) (by simp [T.get_set])]
    omega
  clear hJ g0 g1 g4 g12 g13 ho hp i j D1
  rintro _ ⟨e, s, rfl, i, j, D1, ⟨hJ, g0, g1, g4, g12, g13⟩, ho, hp, hij⟩
  have hp1 := hp.h1
  have hp2 := hp.h2
  have hp3 := hp.h3
  simp [evOp_call, T.get_set, g0, g1, g4, g12, g13]
  obtain ⟨hm2, ty, t, hg, hro, hc⟩ := id ho.row
  have i0 : j < n := by omega
  have i1 : a < n := by omega
  obtain ⟨a1, a2⟩ := hc _ i0
  obtain ⟨b1, b2⟩ := hc _ i1
  have hr1 : j * 2 + 2 ≤ n * 2 := by omega
  have hr2 : a * 2 + 2 ≤ n * 2 := by omega
  refine ⟨by kernel_rfl, ?_⟩
  simp [evOp_call, T.get_set, g0, g1, g4, g12, g13,  loadE_eq, getC_eq, getsB_succ, getsB_zero, hg, a1, a2, b1, b2, i0, i1, storeK_g, putB_eq, hr1, hr2, hro, sets, -Int.natCast_add]
  rw [cxOf_store]
  rotate_left
  · kernel_rfl
  simp [evOp_call, T.get_set, g0, g1, g4, g12, g13,  loadE_eq, getC_eq, getsB_succ, getsB_zero, hg, a1, a2, b1, b2, i0, i1, storeK_g, putB_eq, hr1, hr2, hro, sets, -Int.natCast_add]
  rw [cxOf_store]
  rotate_left
  · kernel_rfl
  simp [evOp_call, T.get_set, g0, g1, g4, g12, g13,  loadE_eq, getC_eq, getsB_succ, getsB_zero, hg, a1, a2, b1, b2, i0, i1, storeK_g, putB_eq, hr1, hr2, hro, sets, -Int.natCast_add]
  exact ⟨j, false, _, rfl, ho.swap hg hro hc i0 i1 (by omega) (by omega) (by omega) (by omega), hp.fin hij⟩
end Go.Proofs.Ytlonobfpogimgaa
set_option linter.unusedSimpArgs false
set_option linter.unusedVariables false
namespace Go.Proofs.Ytlonobfpogimgaa
open Go.RowKit Ev
def geR (lt : El → El → Prop) (x y : El) : Prop := ¬ lt y x
structure ParE (lt : El → El → Prop) (X : El) (D : Nat → El) (a b i j : Nat) : Prop extends ParI (geR lt) D a b i j where
  pv : D a = X
theorem ParE.up {lt : El → El → Prop} {X : El} {D : Nat → El} {a b i j : Nat} (h : ParE lt X D a b i j) (hij : i ≤ j) (hl : geR lt (D i) (D a)) : ParE lt X D a b (i + 1) j := ⟨h.toParI.up hij hl, h.pv⟩
theorem ParE.down {lt : El → El → Prop} {X : El} {D : Nat → El} {a b i j : Nat} (h : ParE lt X D a b i (j + 1)) (hij : i ≤ j + 1) (hl : ¬ geR lt (D (j + 1)) (D a)) : ParE lt X D a b i j := ⟨h.toParI.down hij hl, h.pv⟩
theorem ParE.swap {lt : El → El → Prop} {X : El} {D : Nat → El} {a b i j : Nat} (h : ParE lt X D a b i (j + 1)) (hij : i < j + 1) (h1 : ¬ geR lt (D i) (D a)) (h2 : geR lt (D (j + 1)) (D a)) : ParE lt X (swp D i (j + 1)) a b (i + 1) j :=
  ⟨h.toParI.swap hij h1 h2, by have := h.h1; rw [swp_o D (by omega) (by omega)]; exact h.pv⟩
def peG (m n a b J : Nat) (F : V) (i j : Nat) (e : Env) : Prop := j ≤ J ∧ e.get 0 = some (.sg m 0 n 2) ∧ e.get 1 = some (.int .i64 (a : Int)) ∧ e.get 4 = some F ∧ e.get 11 = some (.int .i64 (i : Int)) ∧ e.get 12 = some (.int .i64 (j : Int))
def peA (lt : El → El → Prop) (X : El) (st : St) (m n : Nat) (D : Nat → El) (a b J : Nat) (F : V) (e : Env) (s : St) : Prop := ∃ (i j : Nat) (D1 : Nat → El), peG m n a b J F i j e ∧ Out st m n D a b s D1 ∧ ParE lt X D1 a b i j
def peB (lt : El → El → Prop) (X : El) (st : St) (m n : Nat) (D : Nat → El) (a b J : Nat) (F : V) (e : Env) (s : St) : Prop := ∃ (i j : Nat) (D1 : Nat → El), peG m n a b J F i j e ∧ Out st m n D a b s D1 ∧ ParE lt X D1 a b i j ∧ (i ≤ j → ¬ geR lt (D1 i) (D1 a))
def peC (lt : El → El → Prop) (X : El) (st : St) (m n : Nat) (D : Nat → El) (a b J : Nat) (F : V) (e : Env) (s : St) : Prop := ∃ (i j : Nat) (D1 : Nat → El), peG m n a b J F i j e ∧ Out st m n D a b s D1 ∧ ParE lt X D1 a b i j ∧ (i ≤ j → ¬ geR lt (D1 i) (D1 a)) ∧ (i ≤ j → geR lt (D1 j) (D1 a))
def peD (lt : El → El → Prop) (X : El) (st : St) (m n : Nat) (D : Nat → El) (a b J : Nat) (F : V) (e : Env) (s : St) : Prop := ∃ (i j : Nat) (D1 : Nat → El), peG m n a b J F i j e ∧ Out st m n D a b s D1 ∧ ParE lt X D1 a b i j ∧ j < i
def peQ (lt : El → El → Prop) (X : El) (st : St) (m n : Nat) (D : Nat → El) (a b : Nat) (r : V × St) : Prop := ∃ (mid : Nat) (D' : Nat → El), r.1 = .int .i64 (mid : Int) ∧ Out st m n D a b r.2 D' ∧ D' a = X ∧ a < mid ∧ mid ≤ b ∧ (∀ p, a ≤ p → p < mid → ¬ lt (D' a) (D' p)) ∧ (∀ q, mid ≤ q → q < b → lt (D' a) (D' q))
set_option maxRecDepth 20000 in
set_option maxHeartbeats 8000000 in
theorem pareq_any {lt : El → El → Prop} {F : V} (hF : CmpF F lt) (st : St) (m n : Nat) (D : Nat → El) (hD : RowB st m n D) (a b pv : Nat) (hap : a ≤ pv) (hpb : pv < b) (hb : b ≤ n) (hn : n ≤ 1073741824) (nt : Nat) :
    Gd (callL Try.prog ⟨false, [], 0, nt⟩ 65 [.sg m 0 n 2, .int .i64 (a : Int), .int .i64 (b : Int), .int .i64 (pv : Int), F] st) (peQ lt (D pv) st m n D a b) := by
  rw [Gd_callL Try.func65 rfl]
  have wa : IntKind.i64.wrap ((a : Int) + 1) = ((a + 1 : Nat) : Int) := by rw [wrapI (by omega) (by omega)]; omega
  have wb : IntKind.i64.wrap ((b : Int) - 1) = ((b - 1 : Nat) : Int) := by rw [wrapI (by omega) (by omega)]; omega
  have ho := Out.refl a b hD
  obtain ⟨hm2, ty, t, hg, hro, hc⟩ := id ho.row
  have i0 : a < n := by omega
  have i1 : pv < n := by omega
  obtain ⟨a1, a2⟩ := hc _ i0
  obtain ⟨b1, b2⟩ := hc _ i1
  have hr1 : a * 2 + 2 ≤ n * 2 := by omega
  have hr2 : pv * 2 + 2 ≤ n * 2 := by omega
  simp [evOp_call, sets, T.get_set]
  refine ⟨by kernel_rfl, ?_⟩
  simp [evOp_call, T.get_set,   loadE_eq, getC_eq, getsB_succ, getsB_zero, hg, a1, a2, b1, b2, i0, i1, storeK_g, putB_eq, hr1, hr2, hro, sets, -Int.natCast_add]
  rw [cxOf_store]
  rotate_left
  · kernel_rfl
  simp [evOp_call, T.get_set,   loadE_eq, getC_eq, getsB_succ, getsB_zero, hg, a1, a2, b1, b2, i0, i1, storeK_g, putB_eq, hr1, hr2, hro, sets, -Int.natCast_add]
  rw [cxOf_store]
  rotate_left
  · kernel_rfl
  simp [evOp_call, T.get_set,   loadE_eq, getC_eq, getsB_succ, getsB_zero, hg, a1, a2, b1, b2, i0, i1, storeK_g, putB_eq, hr1, hr2, hro, sets, -Int.natCast_add, -seqC_n]
  have ho1 := ho.swap hg hro hc i0 i1 (by omega) (by omega) (by omega) (by omega)
  have hpv : swp D a pv a = D pv := swp_i D a pv
  generalize swp D a pv = D1 at ho1 hpv
  clear hg hc a1 a2 b1 b2 hr1 hr2 ho i0 i1
  have ho := ho1
  clear ho1
  rw [seqC_n]
  refine Gd_seqJ (JE fun e s => peA lt (D pv) st m n D a b b F e s) ?_ ?_
  · simp [evOp_call, sets, T.get_set, wa, wb, -Int.natCast_add]
    exact ⟨_, _, rfl, a + 1, b - 1, D1, ⟨by omega, by simp [T.get_set], by simp [T.get_set], by simp [T.get_set], by simp [T.get_set], by simp [T.get_set]⟩, ho, ⟨⟨Nat.le_refl _, by omega, by omega, fun p q1 q2 => by omega, fun q q1 q2 => by omega⟩, hpv⟩⟩
  clear ho hpv D1
  rintro _ ⟨e, s, rfl, i, j, D1, ⟨hJ, g0, g1, g4, g11, g12⟩, ho, hp⟩
  rw [seqC_n]
  refine Gd_seqJ (JE fun e s => peD lt (D pv) st m n D a b b F e s) ?_ ?_
  · rw [Gd_block]
    refine Gd_loop (peA lt (D pv) st m n D a b b F) (fun e _ => jAt 12 e) ?_ ?_
    · exact ⟨i, j, D1, ⟨hJ, g0, g1, g4, g11, g12⟩, ho, hp⟩
    clear hJ g0 g1 g4 g11 g12 ho hp i j D1
    rintro e0 s0 ⟨j9, jj, D1, ⟨hJ, g0, g1, g4, g11, g12e⟩, ho, hp⟩
    rw [Gd_block]
    refine Gd_seqJ (JE fun e s => peB lt (D pv) st m n D a b jj F e s) ?_ ?_
    · rw [Gd_block]
      refine Gd_loop (peA lt (D pv) st m n D a b jj F) (fun e _ => b - jAt 11 e) ?_ ?_
      · exact ⟨j9, jj, D1, ⟨Nat.le_refl _, g0, g1, g4, g11, g12e⟩, ho, hp⟩
      clear hJ g0 g1 g4 g11 ho hp D1
      rintro e s ⟨i, j, D1, ⟨hJ, g0, g1, g4, g11, g12⟩, ho, hp⟩
      have hp1 := hp.h1
      have hp2 := hp.h2
      have hp3 := hp.h3
      by_cases hij : i ≤ j
      case neg =>
        have hij' : ¬ (i : Int) ≤ (j : Int) := by omega
        simp [evOp_call, T.get_set, g0, g1, g4, g11, g12, hij']
        refine ⟨by kernel_rfl, ?_⟩
        exact ⟨_, _, rfl, i, j, D1, ⟨by omega, by simp [T.get_set, g0], by simp [T.get_set, g1], by simp [T.get_set, g4], by simp [T.get_set, g11], by simp [T.get_set, g12]⟩, ho, hp, fun h => absurd h hij⟩
      have hij' : (i : Int) ≤ (j : Int) := by omega
      obtain ⟨hm2, ty, t, hg, hro, hc⟩ := id ho.row
      have i0 : a < n := by omega
      have i1 : i < n := by omega
      obtain ⟨a1, a2⟩ := hc _ i0
      obtain ⟨b1, b2⟩ := hc _ i1
      simp [evOp_call, T.get_set, g0, g1, g4, g11, g12, hij']
      refine ⟨by kernel_rfl, ?_⟩
      simp [evOp_call, T.get_set, g0, g1, g4, g11, g12, hij', loadE_eq, getC_eq, getsB_succ, getsB_zero, hg, a1, a2, b1, b2, i0, i1, evOp_callV]
      rw [cxOf_call (by kernel_rfl) (by kernel_rfl), forb_nil]
      refine Gd.mono (hF.run s (D1 a) (D1 i) _) ?_
      rintro ⟨r, s3⟩ ⟨kk, hr, hiff, e3⟩
      simp only at hr hiff e3
      subst hr
      have ho3 := ho.ext e3
      have w1 : IntKind.i64.wrap ((i : Int) + 1) = ((i + 1 : Nat) : Int) := by rw [wrapI (by omega) (by omega)]; omega
      by_cases hl : lt (D1 a) (D1 i)
      case pos =>
        have hcm : kk < 0 := hiff.2 hl
        simp [evOp_call, T.get_set, g0, g1, g4, g11, g12, hcm]
        exact ⟨_, _, rfl, i, j, D1, ⟨by omega, by simp [T.get_set, g0], by simp [T.get_set, g1], by simp [T.get_set, g4], by simp [T.get_set, g11], by simp [T.get_set, g12]⟩, ho3, hp, fun _ h => h hl⟩
      have hcm : ¬ kk < 0 := fun h => hl (hiff.1 h)
      simp [evOp_call, T.get_set, g0, g1, g4, g11, g12, hcm, w1, -Int.natCast_add]
      refine ⟨⟨i + 1, j, D1, ⟨by omega, by simp [T.get_set, g0], by simp [T.get_set, g1], by simp [T.get_set, g4], by simp [T.get_set], by simp [T.get_set, g12]⟩, ho3, hp.up hij hl⟩, ?_⟩
      rw [jAt_eq g11, jAt_eq (k := ((i + 1 : Nat) : Int)) (i := .i64) (by simp [T.get_set])]
      omega
    clear hJ g0 g1 g4 g11 ho hp D1
    rintro _ ⟨e, s, rfl, i, j, D1, ⟨hJ, g0, g1, g4, g11, g12⟩, ho, hp, hst⟩
    rw [seqC_n]
    refine Gd_seqJ (JE fun e s => peC lt (D pv) st m n D a b jj F e s) ?_ ?_
    · rw [Gd_block]
      refine Gd_loop (peB lt (D pv) st m n D a b jj F) (fun e _ => jAt 12 e) ?_ ?_
      · exact ⟨i, j, D1, ⟨by omega, by simp [T.get_set, g0], by simp [T.get_set, g1], by simp [T.get_set, g4], by simp [T.get_set, g11], by simp [T.get_set, g12]⟩, ho, hp, hst⟩
      clear hJ g0 g1 g4 g11 g12 ho hp hst
      rintro e s ⟨i, j, D1, ⟨hJ, g0, g1, g4, g11, g12⟩, ho, hp, hst⟩
      have hp1 := hp.h1
      have hp2 := hp.h2
      have hp3 := hp.h3
      by_cases hij : i ≤ j
      case neg =>
        have hij' : ¬ (i : Int) ≤ (j : Int) := by omega
        simp [evOp_call, T.get_set, g0, g1, g4, g11, g12, hij']
        refine ⟨by kernel_rfl, ?_⟩
        exact ⟨_, _, rfl, i, j, D1, ⟨by omega, by simp [T.get_set, g0], by simp [T.get_set, g1], by simp [T.get_set, g4], by simp [T.get_set, g11], by simp [T.get_set, g12]⟩, ho, hp, hst, fun h => absurd h hij⟩
      have hij' : (i : Int) ≤ (j : Int) := by omega
      obtain ⟨hm2, ty, t, hg, hro, hc⟩ := id ho.row
      have i0 : a < n := by omega
      have i1 : j < n := by omega
      obtain ⟨a1, a2⟩ := hc _ i0
      obtain ⟨b1, b2⟩ := hc _ i1
      simp [evOp_call, T.get_set, g0, g1, g4, g11, g12, hij']
      refine ⟨by kernel_rfl, ?_⟩
      simp [evOp_call, T.get_set, g0, g1, g4, g11, g12, hij', loadE_eq, getC_eq, getsB_succ, getsB_zero, hg, a1, a2, b1, b2, i0, i1, evOp_callV]
      rw [cxOf_call (by kernel_rfl) (by kernel_rfl), forb_nil]
      refine Gd.mono (hF.run s (D1 a) (D1 j) _) ?_
      rintro ⟨r, s3⟩ ⟨kk, hr, hiff, e3⟩
      simp only at hr hiff e3
      subst hr
      have ho3 := ho.ext e3
      obtain ⟨j0, rfl⟩ : ∃ j0, j = j0 + 1 := ⟨j - 1, by omega⟩
      have w1 : IntKind.i64.wrap (((j0 + 1 : Nat) : Int) - 1) = (j0 : Int) := by rw [wrapI (by omega) (by omega)]; omega
      by_cases hl : lt (D1 a) (D1 (j0 + 1))
      case neg =>
        have hcm : ¬ kk < 0 := fun h => hl (hiff.1 h)
        simp [evOp_call, T.get_set, g0, g1, g4, g11, g12, hcm]
        exact ⟨_, _, rfl, i, j0 + 1, D1, ⟨by omega, by simp [T.get_set, g0], by simp [T.get_set, g1], by simp [T.get_set, g4], by simp [T.get_set, g11], by simp [T.get_set, g12]⟩, ho3, hp, hst, fun _ => hl⟩
      have hcm : kk < 0 := hiff.2 hl
      simp [evOp_call, T.get_set, g0, g1, g4, g11, g12, hcm, w1, -Int.natCast_add]
      refine ⟨⟨i, j0, D1, ⟨by omega, by simp [T.get_set, g0], by simp [T.get_set, g1], by simp [T.get_set, g4], by simp [T.get_set, g11], by simp [T.get_set]⟩, ho3, hp.down hij (fun h => h hl), fun h => hst (by omega)⟩, ?_⟩
      rw [jAt_eq g12, jAt_eq (k := (j0 : Int)) (i := .i64) (by simp [T.get_set])]
      omega
    clear hJ g0 g1 g4 g11 g12 ho hp hst i j D1
    rintro _ ⟨e, s, rfl, i, j, D1, ⟨hJ, g0, g1, g4, g11, g12⟩, ho, hp, hst, hst2⟩
    rw [seqC_n]
    have hp1 := hp.h1
    have hp2 := hp.h2
    have hp3 := hp.h3
    by_cases hij : j < i
    · have hij' : (j : Int) < (i : Int) := by omega
      simp [evOp_call, T.get_set, g0, g1, g4, g11, g12, hij']
      exact ⟨_, _, rfl, i, j, D1, ⟨by omega, by simp [T.get_set, g0], by simp [T.get_set, g1], by simp [T.get_set, g4], by simp [T.get_set, g11], by simp [T.get_set, g12]⟩, ho, hp, hij⟩
    have hij' : ¬ (j : Int) < (i : Int) := by omega
    obtain ⟨j0, rfl⟩ : ∃ j0, j = j0 + 1 := ⟨j - 1, by omega⟩
    have hne : i < j0 + 1 := by
      rcases Nat.lt_or_ge i (j0 + 1) with h | h
      · exact h
      · obtain rfl : i = j0 + 1 := by omega
        exact absurd (hst2 (Nat.le_refl _)) (hst (Nat.le_refl _))
    have w1 : IntKind.i64.wrap ((i : Int) + 1) = ((i + 1 : Nat) : Int) := by rw [wrapI (by omega) (by omega)]; omega
    have w2 : IntKind.i64.wrap (((j0 + 1 : Nat) : Int) - 1) = (j0 : Int) := by rw [wrapI (by omega) (by omega)]; omega
    simp [evOp_call, T.get_set, g0, g1, g4, g11, g12, hij', -Int.natCast_add]
    obtain ⟨hm2, ty, t, hg, hro, hc⟩ := id ho.row
    have i0 : i < n := by omega
    have i1 : (j0 + 1) < n := by omega
    obtain ⟨a1, a2⟩ := hc _ i0
    obtain ⟨b1, b2⟩ := hc _ i1
    have hr1 : i * 2 + 2 ≤ n * 2 := by omega
    have hr2 : (j0 + 1) * 2 + 2 ≤ n * 2 := by omega
    refine ⟨by kernel_rfl, ?_⟩
    simp [evOp_call, T.get_set, g0, g1, g4, g11, g12, w1, w2, loadE_eq, getC_eq, getsB_succ, getsB_zero, hg, a1, a2, b1, b2, i0, i1, storeK_g, putB_eq, hr1, hr2, hro, sets, -Int.natCast_add]
    rw [cxOf_store]
    rotate_left
    · kernel_rfl
    simp [evOp_call, T.get_set, g0, g1, g4, g11, g12, w1, w2, loadE_eq, getC_eq, getsB_succ, getsB_zero, hg, a1, a2, b1, b2, i0, i1, storeK_g, putB_eq, hr1, hr2, hro, sets, -Int.natCast_add]
    rw [cxOf_store]
    rotate_left
    · kernel_rfl
    simp [evOp_call, T.get_set, g0, g1, g4, g11, g12, w1, w2, loadE_eq, getC_eq, getsB_succ, getsB_zero, hg, a1, a2, b1, b2, i0, i1, storeK_g, putB_eq, hr1, hr2, hro, sets, -Int.natCast_add]
    refine ⟨⟨i + 1, j0, _, ⟨by omega, by simp [T.get_set, g0], by simp [T.get_set, g1], by simp [T.get_set, g4], by simp [T.get_set], by simp [T.get_set]⟩, ho.swap hg hro hc i0 i1 (by omega) (by omega) (by omega) (by omega), hp.swap hne (hst (by omega)) (hst2 (by omega))⟩, ?_⟩
    rw [jAt_eq g12e, jAt_eq (k := (j0 : Int)) (i := .i64) (by simp [T.get_set])]
    omega
  clear hJ g0 g1 g4 g11 g12 ho hp i j D1
  rintro _ ⟨e, s, rfl, i, j, D1, ⟨hJ, g0, g1, g4, g11, g12⟩, ho, hp, hij⟩
  have hp1 := hp.h1
  have hp2 := hp.h2
  have hp3 := hp.h3
  simp [evOp_call, T.get_set, g0, g1, g4, g11, g12]
  refine ⟨i, D1, rfl, ho, hp.pv, by omega, by omega, fun p q1 q2 => ?_, fun q q1 q2 => ?_⟩
  · by_cases e1 : p = a
    · subst e1; exact hF.ord.irr _
    · exact hp.lo p (by omega) q2
  · exact Classical.not_not.1 (hp.hi q (by omega) q2)
end Go.Proofs.Ytlonobfpogimgaa

/-
  BitsNext's walk.
-/
import Derived.Test.YtnigikccijjihaaBitsU
import Derived.Test.YtnigikccijjihaaIn
import Derived.Test.YtnigikccijjihaaEq
set_option linter.unusedSimpArgs false
namespace Go.Proofs.Ytnigikccijjihaa
open Go.RowKit Ev
theorem namesOkB : Ev.namesOk Try.prog = true := by kernel_rfl
theorem mixesB : Try.prog.follows .mixedOrders = true := by kernel_rfl
theorem ranBits : Ev.yesQ Try.prog 100000 88 = true := by kernel_rfl
theorem bitsAwake (W : World) : Calls Try.prog 88 #[] W fun e W' => e = .returned (.bool true) ∧ Below W.heap.size W W' := Ev.yesQ_ok namesOkB mixesB ranBits W
def cntN (L : List (BitVec 64)) : Nat → Nat
  | 0 => 0
  | n + 1 => cntN L n + (bit L n).toNat
theorem cntN_word {L : List (BitVec 64)} {i : Nat} {w : BitVec 64} (h : L[i]? = some w) : ∀ j, j ≤ 64 → cntN L (64 * i + j) = cntN L (64 * i) + Pop.pc w.toNat j
  | 0, _ => rfl
  | j + 1, hj => by
    have hb : bit L (64 * i + j) = w.toNat.testBit j := by
      unfold bit
      rw [show (64 * i + j) / 64 = i by omega, show (64 * i + j) % 64 = j by omega, h]
      rfl
    show cntN L (64 * i + j) + (bit L (64 * i + j)).toNat = cntN L (64 * i) + (Pop.pc w.toNat j + (w.toNat.testBit j).toNat)
    rw [cntN_word h j (by omega), hb]; omega
theorem cntN_take (L : List (BitVec 64)) : ∀ i, i ≤ L.length → cntN L (64 * i) = cntL (L.take i)
  | 0, _ => rfl
  | i + 1, hi => by
    obtain ⟨w, hw⟩ : ∃ w, L[i]? = some w := ⟨_, List.getElem?_eq_getElem hi⟩
    rw [show 64 * (i + 1) = 64 * i + 64 by omega, cntN_word hw 64 (Nat.le_refl _), cntN_take L i (by omega), cntL_take hw]
theorem cntN_le (L : List (BitVec 64)) : ∀ n, cntN L n ≤ n
  | 0 => Nat.le_refl _
  | n + 1 => by
    have := cntN_le L n
    have h1 : (bit L n).toNat ≤ 1 := by cases bit L n <;> decide
    show cntN L n + _ ≤ _; omega
theorem cntN_gap {L : List (BitVec 64)} {a : Nat} : ∀ k, (∀ j, a ≤ j → j < a + k → bit L j = false) → cntN L (a + k) = cntN L a
  | 0, _ => rfl
  | k + 1, h => by
    show cntN L (a + k) + (bit L (a + k)).toNat = _
    rw [cntN_gap k fun j h1 h2 => h j h1 (by omega), h (a + k) (by omega) (by omega)]; rfl
theorem nextF_some {p : Nat → Bool} : ∀ {n i r : Nat}, nextF p n i = some r → i ≤ r ∧ r < i + n ∧ p r = true ∧ ∀ j, i ≤ j → j < r → p j = false
  | 0, _, _, h => by cases h
  | n + 1, i, r, h => by
    unfold nextF at h
    cases hp : p i with
    | true =>
      rw [hp, if_pos rfl] at h
      injection h with h; subst h
      exact ⟨Nat.le_refl _, by omega, hp, fun j h1 h2 => by omega⟩
    | false =>
      rw [hp, if_neg (by simp)] at h
      obtain ⟨h1, h2, h3, h4⟩ := nextF_some h
      refine ⟨by omega, by omega, h3, fun j h5 h6 => ?_⟩
      by_cases hj : j = i
      · rw [hj]; exact hp
      · exact h4 j (by omega) h6
theorem nextF_none {p : Nat → Bool} : ∀ {n i : Nat}, nextF p n i = none → ∀ j, i ≤ j → j < i + n → p j = false
  | 0, _, _, j, h1, h2 => by omega
  | n + 1, i, h, j, h1, h2 => by
    unfold nextF at h
    cases hp : p i with
    | true => rw [hp, if_pos rfl] at h; cases h
    | false =>
      rw [hp, if_neg (by simp)] at h
      by_cases hj : j = i
      · rw [hj]; exact hp
      · exact nextF_none h j (by omega) (by omega)
def bnI (st : St) (q : Nat) (v : V) (L : List (BitVec 64)) (en : Env) (s : St) : Prop := ∃ k a : Nat, k ≤ a ∧ a ≤ 64 * L.length ∧ en.get 0 = some v ∧ en.get 3 = some (.p q 0) ∧ en.get 4 = some (.int .i64 (cntN L a : Int)) ∧ en.get 5 = some (.int .i64 (a : Int)) ∧ en.get 6 = some (.int .i64 (k : Int)) ∧
  s.h.get q = some (.cs 103 1 (T.lf.set 0 v)) ∧ q < s.nx ∧ Ext st.nx st s
set_option maxHeartbeats 2000000 in
theorem g_BitsNext (st : St) (v : V) (L : List (BitVec 64)) (hx : RdRow st v 1 L.length (wv L)) :
    Gd (lawC Try.prog 88 ⟨false, [], 0, 0⟩ 19 [v] st) fun r => r.1 = .bool true := by
  rw [Gd_lawC Try.func19 rfl]
  have hone := hx.one
  by_cases h5 : (5 : Int) < L.length
  · simp [evOp_call, sets, T.get_set, hx.lenS, h5]
  · have hL5 : L.length ≤ 5 := by omega
    have hw64 : IntKind.i64.wrap (64 * (L.length : Int)) = 64 * (L.length : Int) := wrap_in (by omega) (by omega)
    have he : Ext st.nx st ⟨st.nx + 1, st.h.set st.nx (.cs 103 1 (T.lf.set 0 v))⟩ := (Ext.refl _ _).new (Nat.le_refl _) _
    simp [evOp_call, sets, T.get_set, hx.lenS, h5, hone, cellsOf, newC_is, storeK_g, putB_eq, roT]
    refine Gd_loop (bnI st st.nx v L) (fun en _ => muAt 6 (64 * L.length + 1) en) ?_ ?_
    · exact ⟨0, 0, Nat.le_refl _, Nat.zero_le _, by simp [T.get_set], by simp [T.get_set], by simp [T.get_set, cntN], by simp [T.get_set], by simp [T.get_set], T.get_set_same _ _ _, Nat.lt_succ_self _, he⟩
    · rintro en s ⟨k, a, hka, ha, g0, g3, g4, g5, g6, hg, hq, hs⟩
      have hxs := hx.ext hs
      have hk64 : (k : Int) ≤ 64 * (L.length : Int) := by omega
      have hwk := wrap_nat (n := k) (by omega)
      have hcl := cntN_le L a
      have hwc : IntKind.i64.wrap ((cntN L a : Int) + 1) = (cntN L a : Int) + 1 := wrap_in (by omega) (by omega)
      simp [evOp_call, T.get_set, g0, g3, g4, g5, g6, hxs.lenS, hw64, hk64, loadE_eq, getC_eq, hg, getsB_1, oracF_cons]
      refine Gd.mono (next_any s v L hxs (by omega) true a (64 * (L.length : Int)) (by omega) _) ?_
      rintro ⟨r, s1⟩ ⟨hr, e1⟩
      simp only at hr e1
      have hs1 := hs.trans (e1.mono hs.le)
      have hg1 : s1.h.get st.nx = some (.cs 103 1 (T.lf.set 0 v)) := by rw [e1.keep _ hq]; exact hg
      have b1 := e1.le
      have hxs1 := hxs.ext e1
      have hfB : fromB (a : Int) = a := by unfold fromB; split <;> omega
      have heB : endB L (64 * (L.length : Int)) = 64 * (L.length : Int) := by unfold endB; split <;> omega
      have hnB : nextB L true a (64 * (L.length : Int)) = nextF (fun i => bit L i == true) (64 * L.length - a) a := by
        unfold nextB
        rw [hfB, heB]
        congr 1
        omega
      rw [hnB] at hr
      cases hn : nextF (fun i => bit L i == true) (64 * L.length - a) a with
      | none =>
        rw [hn] at hr
        subst hr
        have hgap : cntN L (64 * L.length) = cntN L a := by
          have := cntN_gap (L := L) (a := a) (64 * L.length - a) fun j h1 h2 => by
            have := nextF_none hn j h1 h2
            simpa using this
          rwa [show a + (64 * L.length - a) = 64 * L.length by omega] at this
        have hcnt : cntL L = cntN L a := by rw [← hgap, cntN_take L _ (Nat.le_refl _), List.take_length]
        simp [evOp_call, nextV, T.get_set, g0, g3, g4, g5, g6, loadE_eq, getC_eq, hg1, getsB_1, oracF_cons]
        refine Gd.mono (count_any s1 v L hxs1 (by omega) _) ?_
        rintro ⟨r, s2⟩ ⟨hr, e2⟩
        simp only at hr e2
        subst hr
        simp [evOp_call, T.get_set, g0, g3, g4, g5, g6, hcnt]
      | some i =>
        rw [hn] at hr
        subst hr
        obtain ⟨i1, i2, i3, i4⟩ := nextF_some hn
        have hbi : bit L i = true := by simpa using i3
        have hia : ¬ (i : Int) < a := by omega
        have hwi := wrap_nat (n := i) (by omega)
        have hci : cntN L (i + 1) = cntN L a + 1 := by
          have := cntN_gap (L := L) (a := a) (i - a) fun j h1 h2 => by
            have := i4 j h1 (by omega)
            simpa using this
          show cntN L i + (bit L i).toNat = _
          rw [show i = a + (i - a) by omega, this, show a + (i - a) = i by omega, hbi]; rfl
        simp [evOp_call, nextV, T.get_set, g0, g3, g4, g5, g6, loadE_eq, getC_eq, hg1, getsB_1, oracF_cons, hia]
        refine Gd.mono (bhas_any s1 v L hxs1 i (by omega) _) ?_
        rintro ⟨r, s2⟩ ⟨hr, e2⟩
        simp only at hr e2
        rw [hasI_nat, hbi] at hr
        subst hr
        simp [evOp_call, T.get_set, g0, g3, g4, g5, g6, hwc, hwk, hwi]
        refine ⟨⟨k + 1, i + 1, by omega, by omega, by simp [T.get_set, g0], by simp [T.get_set, g3], by simp [T.get_set, hci], by simp [T.get_set], by simp [T.get_set], ?_, by have := e2.le; omega, hs1.trans (e2.mono hs1.le)⟩, muAt_lt g6 (by simp [T.get_set]) (by omega)⟩
        rw [e2.keep _ (by omega)]; exact hg1
/-- whatever words came in -/
theorem w_BitsNext (L0 : List Int) (W : World) (x : Value) (hx : InRow W x 1 L0.length (L0.map fun v => V.int .u64 v)) (hw : ∀ r ∈ L0, (Lit.int .u64 r).wf = true) : Calls Try.prog 19 #[x] W fun e W' => e = .returned (.bool true) ∧ Below W.heap.size W W' := by
  obtain ⟨K, hK, hm⟩ := wv_of hw
  rw [hm, ← hK] at hx
  obtain ⟨st, ρ, v, hb, _, hv, _, hr⟩ := (Begin.zero W).row hx
  exact law_calls (lawC_sound namesOkB mixesB Try.func88 rfl bitsAwake) hb (.cons hv .nil) (g_BitsNext st v K hr)
end Go.Proofs.Ytnigikccijjihaa

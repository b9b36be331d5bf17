/-
  Contract of slices.Delete, of one, for a row of whole numbers of one's own.
-/
import Derived.Test.YtdoennkmcloalaaTyAll
import Derived.Test.YtdoennkmcloalaaInk
set_option linter.unusedSimpArgs false
set_option linter.unusedVariables false
namespace Go.Proofs.Ytdoennkmcloalaa
open Go.RowKit Ev
set_option maxRecDepth 20000 in
set_option maxHeartbeats 8000000 in
theorem delC_I : ∀ (wb nt : Nat) (st : St) (m n i ty s0 : Nat) (tr : T V) (old : List V), wb ≤ m → i < n → n ≤ 1048576 → n * 1 ≤ s0 → st.h.get m = some (.cs ty s0 tr) → ty ≠ roT → old.length = n * 1 → (∀ j a, old[j]? = some a → tr.get j = some a) →
    Gd (callL Try.prog ⟨false, [], wb, nt⟩ 174 [.sg m 0 n 1, .int .i64 (i : Int), .int .i64 ((i : Int) + 1)] st) fun r => r.1 = .sg m 0 (n - 1) 1 ∧ ∃ tr', r.2 = ⟨st.nx, st.h.set m (.cs ty s0 tr')⟩ ∧ ∀ j a, (delL (i * 1) 1 old)[j]? = some a → tr'.get j = some a := by
  suffices hall : ∀ z, z = 1 → ∀ (wb nt : Nat) (st : St) (m n i ty s0 : Nat) (tr : T V) (old : List V), wb ≤ m → i < n → n ≤ 1048576 → n * z ≤ s0 → st.h.get m = some (.cs ty s0 tr) → ty ≠ roT → old.length = n * z → (∀ j a, old[j]? = some a → tr.get j = some a) →
      Gd (callL Try.prog ⟨false, [], wb, nt⟩ 174 [.sg m 0 n z, .int .i64 (i : Int), .int .i64 ((i : Int) + 1)] st) fun r => r.1 = .sg m 0 (n - 1) z ∧ ∃ tr', r.2 = ⟨st.nx, st.h.set m (.cs ty s0 tr')⟩ ∧ ∀ j a, (delL (i * z) z old)[j]? = some a → tr'.get j = some a from hall 1 rfl
  intro z hz
  have hio : infoOk Try.prog 3 z = true := by rw [hz]; exact io3
  have hz1 : 1 ≤ z := by omega
  have hzl : ∃ zs : List V, zs.length = z ∧ ∀ kk : List V → Res, zero Try.prog 3 kk = kk zs := ⟨_, by rw [hz]; rfl, fun kk => ze3 kk⟩
  clear hz
  obtain ⟨zs, hzs, hze⟩ := hzl
  intro wb nt st m n i ty s0 tr old hwb hi hmax hs0 g2 hro o1 o2
  have hu := un76
  have e2 : i * z ≤ n * z := Nat.mul_le_mul_right z (by omega)
  have e4 : (n - (i + 1)) * z = n * z - (i + 1) * z := Nat.sub_mul ..
  have e5 : (n - 1) * z = n * z - 1 * z := Nat.sub_mul ..
  have e8 : (i + 1) * z ≤ n * z := Nat.mul_le_mul_right z hi
  have e9 : (i + 1) * z = i * z + z := Nat.succ_mul ..
  generalize hRR : (fun r : V × St => r.1 = .sg m 0 (n - 1) z ∧ ∃ tr', r.2 = ⟨st.nx, st.h.set m (.cs ty s0 tr')⟩ ∧ ∀ j a, (delL (i * z) z old)[j]? = some a → tr'.get j = some a) = RR
  rw [Gd_callL Try.func174 rfl]
  have hnl : ∀ s : St, lenS s (.sg m 0 n z) = some (.int .i64 (n : Int), s) := fun _ => rfl
  have hii : ¬ (i : Int) = (i : Int) + 1 := by omega
  simp [evOp_call, sets, T.get_set, hnl]
  obtain ⟨v1, hv1⟩ := sg_three (P := Try.prog) (m := m) (n := n) (h := i + 1) (j := i) (e := (((((((((T.lf.set 0 (V.sg m 0 n z)).set 1 (V.int IntKind.i64 ↑i)).set 2 (V.int IntKind.i64 (↑i + 1))).set 6 (V.c (Value.slice none 0 0))).set 8 (V.sg m 0 n z)).set 9 (V.int IntKind.i64 ↑i)).set 10 (V.int IntKind.i64 (↑i + 1))).set 11 (V.sg m 0 n z)).set 12 (V.int IntKind.i64 ↑n))) (x := .tmp 9) (y := .tmp 10) (w := .tmp 12) (i1 := .i64) (i2 := .i64) (i3 := .i64) hu hio (by simp [T.get_set]) (by simp [T.get_set]) (by simp [T.get_set]) (by omega) (by omega)
  rw [hv1]
  simp [evOp_call, sets, T.get_set, hnl, hii]
  refine ⟨by kernel_rfl, ?_⟩
  rw [sg_hi (k := i) (i := .i64) hu hio (by simp [T.get_set]) (by omega)]
  simp [evOp_call, sets, T.get_set, hnl, hii]
  rw [sg_loA (k := i + 1) (i := .i64) hu hio (by simp [T.get_set]) (by omega)]
  have hx : ∃ x : V, (if i + 1 = n ∧ i + 1 ≠ 0 then V.e else .sg m (0 + (i + 1) * z) (n - (i + 1)) z) = x ∧ (∀ s', x ≠ .s s') ∧ (∀ k : Nat → Res, lenA x k = k (n - (i + 1))) ∧ ∀ k : List V → Res, firsts ⟨false, [], wb, 33⟩ st z (n - (i + 1)) x k = k (old.drop (i * z + z)) := by
    by_cases h : i + 1 = n
    · refine ⟨.e, by rw [if_pos ⟨h, by omega⟩], fun _ h => (by cases h), fun k => by rw [show n - (i + 1) = 0 by omega]; rfl, fun k => ?_⟩
      rw [show n - (i + 1) = 0 by omega, show old.drop (i * z + z) = [] from List.drop_eq_nil_of_le (by rw [← e9, h]; omega)]
      rfl
    · refine ⟨_, by rw [if_neg (fun h' => h h'.1)], fun _ h => (by cases h), fun k => rfl, fun k => ?_⟩
      have b1 : Nat.ble (n - (i + 1)) (n - (i + 1)) = true := Nat.ble_eq ▸ Nat.le_refl _
      show (match Nat.ble (n - (i + 1)) (n - (i + 1)) with | true => getC _ st m fun t => getsB t ((n - (i + 1)) * z) (0 + (i + 1) * z) k | false => none) = _
      rw [b1]
      simp only [getC_eq, ok_top, inF_nil, Bool.not_false, g2, cond_true, Option.bind_some, csK_cs]
      have hl : (old.drop (i * z + z)).length = (n - (i + 1)) * z := by rw [List.length_drop]; omega
      rw [← hl]
      refine getsB_list (fun j a h => ?_) k
      rw [List.getElem?_drop] at h
      rw [Nat.zero_add, e9]; exact o2 _ a h
  obtain ⟨x, hx1, hx2, hx3, hx4⟩ := hx
  rw [hx1]
  simp [evOp_call, sets, T.get_set, hnl, hii]
  rw [cxOf_call (by kernel_rfl) (by kernel_rfl), forb_nil, app_in hu hu hio hx2 hx3 hx4 (by rw [List.length_drop]; omega) (by omega) rfl hwb g2 hro (by rw [show i + (n - (i + 1)) = n - 1 by omega]; omega)]
  have e10 : i + (n - (i + 1)) = n - 1 := by omega
  have hnl2 : ∀ s : St, lenS s (.sg m 0 (n - 1) z) = some (.int .i64 ((n - 1 : Nat) : Int), s) := fun _ => rfl
  rw [e10]
  simp [evOp_call, sets, T.get_set, hnl, hii, hnl2]
  rw [sg_past (n := n - 1) (h := n) (i := .i64) (j := .i64) hu hio rfl (T.get_set_same _ _ _) (by simp [T.get_set]) (by simp [T.get_set]) (by omega) hs0]
  simp [evOp_call, sets, T.get_set, hnl, hii, hnl2]
  rw [clr_sg hu hio hze rfl hwb (T.get_set_same _ _ _) hro (by rw [rep_length, hzs, show n - (n - 1) = 1 by omega]; omega)]
  simp [evOp_call, sets, T.get_set, hnl, hii, hnl2]
  rw [← hRR]
  exact ⟨rfl, _, rfl, fun j a h => del_get (by omega) o2 (by omega) h⟩
end Go.Proofs.Ytdoennkmcloalaa

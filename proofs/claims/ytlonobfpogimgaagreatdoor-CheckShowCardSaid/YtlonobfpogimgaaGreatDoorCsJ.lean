/-
  PLAIN: unlike numbers have unlike texts; four joined come apart again.
-/
import Derived.Test.YtlonobfpogimgaaGreatDoorCsI
set_option linter.unusedSimpArgs false
set_option linter.unusedVariables false
namespace Go.Proofs.YtlonobfpogimgaaGreatDoor
open Go.RowKit Ev
def valD (l : Tx) : Nat := l.foldl (fun a b => a * 10 + (b - 48)) 0
theorem valD_app (l : Tx) (b : Nat) : valD (l ++ [b]) = valD l * 10 + (b - 48) := by unfold valD; rw [List.foldl_append]; rfl
theorem dg_succ (nd u : Nat) : dg (nd + 1) u = dg nd (u / 10) ++ [48 + u % 10] := by
  unfold dg
  rw [List.range_succ, List.map_append]
  congr 1
  · refine List.map_congr_left fun i hi => ?_
    have hi' := List.mem_range.1 hi
    unfold dgt
    rw [show nd + 1 - 1 - i = (nd - 1 - i) + 1 by omega, Nat.pow_succ, Nat.mul_comm, ← Nat.div_div_eq_div_mul]
  · simp [dgt]
theorem valD_dg : ∀ (nd u : Nat), u < 10 ^ nd → valD (dg nd u) = u
  | 0, u, h => by
    have : u = 0 := by simpa using h
    subst this; rfl
  | nd + 1, u, h => by
    rw [dg_succ, valD_app, valD_dg nd (u / 10) (by rw [Nat.div_lt_iff_lt_mul (by omega), ← Nat.pow_succ]; exact h)]
    omega
theorem valD_sm (v : Nat) (hv : v < 100) : valD (smN v) = v := by
  unfold smN valD
  split <;> simp <;> omega
def vl (t : Tx) : Int := match t with
  | [] => 0
  | b :: r => if b = 45 then -(valD r : Int) else (valD (b :: r) : Int)
theorem vl_dig {t : Tx} (h : ∀ b ∈ t, 48 ≤ b) : vl t = (valD t : Int) := by
  cases t with
  | nil => rfl
  | cons b r =>
    have := h b (by simp)
    show (if b = 45 then -(valD r : Int) else (valD (b :: r) : Int)) = _
    rw [if_neg (by omega)]
theorem dg_dig (nd u : Nat) : ∀ b ∈ dg nd u, 48 ≤ b ∧ b < 58 := fun b hb => by
  obtain ⟨i, _, rfl⟩ := List.mem_map.1 hb
  exact dgt_lt u (nd - 1 - i)
theorem vl_it {n : Int} (h : fin64 n) : vl (itT n) = n := by
  obtain ⟨h1, h2⟩ := h
  have hu : n.natAbs < 2 ^ 64 := by omega
  have h3 := (ndN_ok hu).1
  unfold Lt10 at h3
  unfold itT
  split
  · rename_i hs
    obtain ⟨_, _, k2⟩ := smN_ok n.toNat (by omega)
    rw [vl_dig fun b hb => (k2 b hb).1, valD_sm _ (by omega)]
    omega
  · split
    · show (if (45 : Nat) = 45 then -(valD (dg (ndN n.natAbs) n.natAbs) : Int) else (valD (45 :: dg (ndN n.natAbs) n.natAbs) : Int)) = n
      rw [if_pos rfl, valD_dg _ _ h3]
      omega
    · rw [vl_dig fun b hb => (dg_dig _ _ b hb).1, valD_dg _ _ h3]
      omega
theorem it_inj {n n' : Int} (h : fin64 n) (h' : fin64 n') (e : itT n = itT n') : n = n' := by
  rw [← vl_it h, ← vl_it h', e]
theorem it_no (n : Int) : 32 ∉ itT n := fun hb => by
  unfold itT at hb
  split at hb
  · rename_i hs
    obtain ⟨_, _, k2⟩ := smN_ok n.toNat (by omega)
    have := k2 _ hb
    omega
  · split at hb
    · rcases List.mem_cons.1 hb with hb | hb
      · omega
      · have := dg_dig _ _ _ hb; omega
    · have := dg_dig _ _ _ hb; omega
theorem it_len {n : Int} (h : fin64 n) : 1 ≤ (itT n).length := by
  obtain ⟨h1, h2⟩ := h
  have hu : n.natAbs < 2 ^ 64 := by omega
  have h3 := (ndN_ok hu).1
  unfold Lt10 at h3
  unfold itT
  split
  · exact (smN_ok n.toNat (by omega)).2.1
  · rename_i hs
    split
    · simp
    · rw [dg_len]
      rcases Nat.eq_zero_or_pos (ndN n.natAbs) with h0 | h0
      · rw [h0] at h3
        simp at h3
        omega
      · exact h0
theorem cut_at {x y s t : Tx} (hx : 32 ∉ x) (hy : 32 ∉ y) (e : x ++ 32 :: s = y ++ 32 :: t) : x = y ∧ s = t := by
  induction x generalizing y with
  | nil =>
    cases y with
    | nil => simp at e; exact ⟨rfl, e⟩
    | cons b y => simp at e; exact absurd (by rw [e.1]; simp) hy
  | cons a x ih =>
    cases y with
    | nil => simp at e; exact absurd (by rw [e.1]; simp) hx
    | cons b y =>
      simp only [List.cons_append, List.cons.injEq] at e
      obtain ⟨rfl, e⟩ := e
      obtain ⟨h1, h2⟩ := ih (fun h => hx (by simp [h])) (fun h => hy (by simp [h])) e
      exact ⟨by rw [h1], h2⟩
theorem shT_eq (p k a m : Int) : shT p k a m = itT p ++ 32 :: (itT k ++ 32 :: (itT a ++ 32 :: itT m)) := by
  unfold shT jnF
  simp
theorem shT_inj {p k a m p' k' a' m' : Int} (hp : fin64 p) (hk : fin64 k) (ha : fin64 a) (hm : fin64 m) (hp' : fin64 p') (hk' : fin64 k') (ha' : fin64 a') (hm' : fin64 m') : (shT p k a m = shT p' k' a' m') ↔ (p = p' ∧ k = k' ∧ a = a' ∧ m = m') := by
  constructor
  · intro e
    rw [shT_eq, shT_eq] at e
    obtain ⟨e1, e⟩ := cut_at (it_no _) (it_no _) e
    obtain ⟨e2, e⟩ := cut_at (it_no _) (it_no _) e
    obtain ⟨e3, e4⟩ := cut_at (it_no _) (it_no _) e
    exact ⟨it_inj hp hp' e1, it_inj hk hk' e2, it_inj ha ha' e3, it_inj hm hm' e4⟩
  · rintro ⟨rfl, rfl, rfl, rfl⟩; rfl
theorem shT_len {p k a m : Int} (hp : fin64 p) (hk : fin64 k) (ha : fin64 a) (hm : fin64 m) : 7 ≤ (shT p k a m).length := by
  rw [shT_eq]
  have := it_len hp
  have := it_len hk
  have := it_len ha
  have := it_len hm
  simp only [List.length_append, List.length_cons]
  omega
end Go.Proofs.YtlonobfpogimgaaGreatDoor

/-
  Contracts of package books: kept, done.
-/
import Derived.Test.YtdoennkmcloalaaBsB
set_option linter.unusedSimpArgs false
namespace Go.Proofs.Ytdoennkmcloalaa
open Go.RowKit Ev
def bdnQ (st : St) (q : Nat) (v : MV) (n : Nat) (c : Int) (r : V × St) : Prop := ∃ v' e, r.1 = .int .i64 e ∧ MStep q v v' st r.2 ∧
      ((¬ (0 ≤ c ∧ c < n) ∧ e = 1 ∧ absV v' = absV v) ∨ ((0 ≤ c ∧ c < n) ∧ e = (clearA (absV v) (4 * c) 4).2 ∧ absV v' = (clearA (absV v) (4 * c) 4).1))
/-- the memory's own step, and then, or not, the object's -/
def BsStep (q p : Nat) (v v' : MV) (s s' : St) : Prop := ∃ s1, MStep q v v' s s1 ∧ (s' = s1 ∨ ∃ t, s' = ⟨s1.nx, s1.h.set p t⟩)
def bkpQ (st : St) (q : Nat) (v : MV) (p : Nat) (z : V) (n : Nat) (m : BitVec 64) (c : Int) (K : List (Int × BitVec 64)) (r : V × St) : Prop := ∃ v' num e m', r.1 = .t [wd num, .int .i64 e] ∧ BsStep q p v v' st r.2 ∧ BsAt r.2 q v' p z n m' ∧
      ((¬ (0 ≤ c ∧ c < n) ∧ e = 1 ∧ num = 0#64 ∧ m' = m ∧ absV v' = absV v) ∨ ((0 ≤ c ∧ c < n) ∧ e = (keepA (absV v) (4 * c) 4 (nextW m) K).2 ∧ absV v' = (keepA (absV v) (4 * c) 4 (nextW m) K).1 ∧ (e = 0 → num = nextW m ∧ m' = nextW m) ∧ (e ≠ 0 → num = 0#64 ∧ m' = m)))
set_option maxRecDepth 20000 in
set_option maxHeartbeats 8000000 in
theorem bskeep_any (st : St) (q : Nat) (v : MV) (hm : MemAt st q v) (p : Nat) (z : V) (n : Nat) (hn : n ≤ 8) (m : BitVec 64) (hb : BsAt st q v p z n m) (H : List (Option RecW)) (hs : Shelf n (absV v) H) (c : Int) (y : V) (K : List (Int × BitVec 64)) (hy : RdRow st y 2 K.length (iw K)) (hK : K.length ≤ 400) (nt : Nat) :
    Gd (callL Try.prog ⟨false, [], 0, nt⟩ 102 [.p p 0, .int .i64 c, y] st) (bkpQ st q v p z n m c K) := by
  rw [Gd_callL Try.func102 rfl]
  simp [evOp_call, sets, T.get_set]
  refine Gd.mono (bhas_any st q p n v z m hb c _) ?_
  rintro _ rfl
  by_cases hc : 0 ≤ c ∧ c < n
  case neg =>
    simp [evOp_call, sets, T.get_set, hc]
    exact ⟨v, 0#64, 1, m, rfl, ⟨st, MStep.refl hm, .inl rfl⟩, hb, .inl ⟨hc, rfl, rfl, rfl, rfl⟩⟩
  simp [evOp_call, sets, T.get_set, hc]
  refine Gd.mono (bnext_any st q p n v z m hb _) ?_
  rintro _ rfl
  obtain ⟨i, rfl⟩ := Int.eq_ofNat_of_zero_le hc.1
  have hi : i < n := by omega
  obtain ⟨t, k1, k2, k3⟩ := hb.blk
  obtain ⟨mb, o, ty, sz, tr, hid, hmb, hg, ho, hcl⟩ := hb.row.1.idx (st := st) un142 io122 hi
  have t0 : tr.get o = some (.p q 0) := hcl 0 _ (by omega) (bkRow_at q n hi rfl)
  have t1 : tr.get (o + 1) = some (.int .i64 (4 * (i : Int))) := hcl 1 _ (by omega) (bkRow_at q n hi rfl)
  have t2 : tr.get (o + 1 + 1) = some (.int .i64 4) := hcl 2 _ (by omega) (bkRow_at q n hi rfl)
  have t3 : tr.get (o + 1 + 1 + 1) = some (.int .i64 (i : Int)) := hcl 3 _ (by omega) (bkRow_at q n hi rfl)
  have hone := hy.one
  simp [evOp_call, sets, T.get_set, loadE_eq, getC_eq, getsB_succ, getsB_zero, k1, k2, k3, hid, hg, t0, t1, t2, t3, hone, wd_one]
  rw [← bkV_cs' q i]
  refine Gd.mono (bkeep_any st q v hm (4 * n) 0 hs.c.sz2 (by omega) (4 * (i : Int)) 4 i (by omega) (nextW m) y K hy (by omega) (by
    by_cases hf : fitsR (nextW m) K
    · rw [putR_length hf]; omega
    · rw [putR_nil.2 hf]; omega) _) ?_
  rintro ⟨r, s1⟩ ⟨hr, v1, hs1, ha1⟩
  simp only at hr hs1
  subst hr
  have hb1 := hb.step hs1
  obtain ⟨t', k1', k2', k3'⟩ := hb1.blk
  by_cases he : (keepA (absV v) (4 * (i : Int)) 4 (nextW m) K).2 = 0
  · simp [evOp_call, sets, T.get_set, he, loadE_eq, getC_eq, storeK_wd, putB_eq, roT, k1']
    exact ⟨v1, nextW m, 0, nextW m, rfl, ⟨s1, hs1, .inr ⟨_, rfl⟩⟩, hb1.put (by simp [T.get_set, k2']) (by simp [T.get_set]), .inr ⟨hc, he.symm, ha1, fun _ => ⟨rfl, rfl⟩, fun h => absurd rfl h⟩⟩
  · simp [evOp_call, sets, T.get_set, he]
    exact ⟨v1, 0#64, (keepA (absV v) (4 * (i : Int)) 4 (nextW m) K).2, m, rfl, ⟨s1, hs1, .inl rfl⟩, hb1, .inr ⟨hc, rfl, ha1, fun h => absurd h he, fun _ => ⟨rfl, rfl⟩⟩⟩
set_option maxRecDepth 20000 in
set_option maxHeartbeats 8000000 in
theorem bsdone_any (st : St) (q : Nat) (v : MV) (hm : MemAt st q v) (p : Nat) (z : V) (n : Nat) (hn : n ≤ 8) (m : BitVec 64) (hb : BsAt st q v p z n m) (H : List (Option RecW)) (hs : Shelf n (absV v) H) (c : Int) (nt : Nat) :
    Gd (callL Try.prog ⟨false, [], 0, nt⟩ 103 [.p p 0, .int .i64 c] st) (bdnQ st q v n c) := by
  rw [Gd_callL Try.func103 rfl]
  simp [evOp_call, sets, T.get_set]
  refine Gd.mono (bhas_any st q p n v z m hb c _) ?_
  rintro _ rfl
  by_cases hc : 0 ≤ c ∧ c < n
  case neg =>
    simp [evOp_call, sets, T.get_set, hc]
    exact ⟨v, 1, rfl, MStep.refl hm, .inl ⟨hc, rfl, rfl⟩⟩
  obtain ⟨i, rfl⟩ := Int.eq_ofNat_of_zero_le hc.1
  have hi : i < n := by omega
  obtain ⟨t, k1, k2, k3⟩ := hb.blk
  obtain ⟨mb, o, ty, sz, tr, hid, hmb, hg, ho, hcl⟩ := hb.row.1.idx (st := st) un142 io122 hi
  have t0 : tr.get o = some (.p q 0) := hcl 0 _ (by omega) (bkRow_at q n hi rfl)
  have t1 : tr.get (o + 1) = some (.int .i64 (4 * (i : Int))) := hcl 1 _ (by omega) (bkRow_at q n hi rfl)
  have t2 : tr.get (o + 1 + 1) = some (.int .i64 4) := hcl 2 _ (by omega) (bkRow_at q n hi rfl)
  have t3 : tr.get (o + 1 + 1 + 1) = some (.int .i64 (i : Int)) := hcl 3 _ (by omega) (bkRow_at q n hi rfl)
  simp [evOp_call, sets, T.get_set, hc, loadE_eq, getC_eq, getsB_succ, getsB_zero, k1, k2, k3, hid, hg, t0, t1, t2, t3]
  rw [← bkV_cs' q i]
  refine Gd.mono (bclear_any st q v hm (4 * n) 0 hs.c.sz2 (by omega) (4 * (i : Int)) 4 i (by omega) _) ?_
  rintro ⟨r, s1⟩ ⟨hr, v1, hs1, ha1⟩
  simp only at hr hs1
  subst hr
  simp [evOp_call, sets, T.get_set]
  exact ⟨v1, _, rfl, hs1, .inr ⟨hc, rfl, ha1⟩⟩
end Go.Proofs.Ytdoennkmcloalaa

/-
  PLAIN: PmA, PmB, PmC, PmD, in one text.
-/
import Derived.Test.YtdoennkmcloalaaPmPQ
import Derived.Test.YtdoennkmcloalaaMmG
import Derived.Test.YtdoennkmcloalaaIn
set_option linter.unusedSimpArgs false
namespace Go.Proofs.Ytdoennkmcloalaa
open Go.RowKit Ev
theorem namesOkP : Ev.namesOk Try.prog = true := by kernel_rfl
theorem mixesP : Try.prog.follows .mixedOrders = true := by kernel_rfl
/-- a whole number's lowest bits -/
theorem and_low {P : Program} {st : St} {t : TypeId} {x y : Operand} (a : Int) (k : Nat) (hk : k ≤ 62) : binE P st .and t x y (.c (.int .i64 a)) (.c (.int .i64 ((2 ^ k - 1 : Nat) : Int))) = some (.int .i64 (a % ((2 ^ k : Nat) : Int)), st) := by
  have hp : 0 < 2 ^ k := Nat.two_pow_pos k
  have hle : 2 ^ k ≤ 2 ^ 62 := Nat.pow_le_pow_right (by omega) hk
  cases a with
  | ofNat n =>
    have h := bin_and (P := P) (st := st) (t := t) (x := x) (y := y) (k := .i64) (a := n) (b := 2 ^ k - 1)
    rw [Nat.and_two_pow_sub_one_eq_mod] at h
    have hlt := Nat.mod_lt n hp
    rw [wrap_in (by omega) (by omega)] at h
    exact h
  | negSucc n =>
    have hlt := Nat.mod_lt n hp
    have e : (2 ^ k - 1) ^^^ ((2 ^ k - 1) &&& n) = 2 ^ k - 1 - n % 2 ^ k := by
      rw [Nat.and_comm, Nat.and_two_pow_sub_one_eq_mod]
      apply Nat.eq_of_testBit_eq
      intro i
      rw [Nat.testBit_xor, Nat.testBit_two_pow_sub_one]
      rw [show 2 ^ k - 1 - n % 2 ^ k = 2 ^ k - (n % 2 ^ k + 1) by omega, Nat.testBit_two_pow_sub_succ hlt]
      by_cases hi : i < k
      · simp [hi]
      · have : n % 2 ^ k < 2 ^ i := Nat.lt_of_lt_of_le hlt (Nat.pow_le_pow_right (by omega) (by omega))
        simp [hi, Nat.testBit_lt_two_pow this]
    have e2 : (Int.negSucc n) % ((2 ^ k : Nat) : Int) = ((2 ^ k - 1 - n % 2 ^ k : Nat) : Int) := by
      rw [Int.negSucc_emod n (by exact_mod_cast hp)]
      omega
    rw [e2, ← e]
    have hb : binE P st .and t x y (.c (.int .i64 (Int.negSucc n))) (.c (.int .i64 ((2 ^ k - 1 : Nat) : Int))) = some (.int .i64 (IntKind.i64.wrap (((2 ^ k - 1) ^^^ ((2 ^ k - 1) &&& n) : Nat) : Int)), st) := by
      have h : binI .and .i64 (Int.negSucc n) ((2 ^ k - 1 : Nat) : Int) = some (.int .i64 (IntKind.i64.wrap (((2 ^ k - 1) ^^^ ((2 ^ k - 1) &&& n) : Nat) : Int))) := by
        show some (Value.int .i64 (wr .i64 _)) = _
        rw [wr_eq]; rfl
      simp only [binE, eqKd, h, ofV, fA, ret, fi_eq]
    rw [hb, wrap_in (by rw [e]; omega) (by rw [e]; omega)]
@[simp] theorem and_31 {P : Program} {st : St} {t : TypeId} {x y : Operand} (a : Int) : binE P st .and t x y (.c (.int .i64 a)) (.c (.int .i64 31)) = some (.int .i64 (a % 32), st) := and_low a 5 (by omega)
@[simp] theorem and_15 {P : Program} {st : St} {t : TypeId} {x y : Operand} (a : Int) : binE P st .and t x y (.c (.int .i64 a)) (.c (.int .i64 15)) = some (.int .i64 (a % 16), st) := and_low a 4 (by omega)
@[simp] theorem and_1 {P : Program} {st : St} {t : TypeId} {x y : Operand} (a : Int) : binE P st .and t x y (.c (.int .i64 a)) (.c (.int .i64 1)) = some (.int .i64 (a % 2), st) := and_low a 1 (by omega)
/-- calls of a memory -/
def actC : Codec (Int × Int × BitVec 64 × List Int) := pairC iC (pairC iC (pairC wC (rowC iC)))
theorem actC_at {st : St} {y : Nat → V} {a : Int × Int × BitVec 64 × List Int} (h : actC.at' st y a) : y 0 = .int .i64 a.1 ∧ y 1 = .int .i64 a.2.1 ∧ y 2 = wd a.2.2.1 ∧ (rowC iC).at' st (fun j => y (3 + j)) a.2.2.2 ∧ (-9223372036854775808 ≤ a.1 ∧ a.1 ≤ 9223372036854775807) ∧ (-9223372036854775808 ≤ a.2.1 ∧ a.2.1 ≤ 9223372036854775807) := by
  obtain ⟨⟨h1, h2⟩, ⟨h3, h4⟩, ⟨h5, _⟩, h6⟩ := h
  refine ⟨h1, h3, h5, ?_, h2, h4⟩
  refine (rowC iC).locA (fun j _ => ?_) h6
  show y (1 + (1 + (1 + j))) = y (3 + j)
  rw [show 1 + (1 + (1 + j)) = 3 + j by omega]
theorem okS.R {v : MV} {n i : Nat} (h : okS (absV v) n i) : v.R.length = n ∧ ∀ r ∈ v.R, r.m.O.length ≤ i := by
  refine ⟨by have := h.len; simpa [absV] using this, fun r hr => h.op r.m (List.mem_map_of_mem hr)⟩
theorem lineM_ok (W : List (BitVec 64)) (i : Nat) : okP (lineM W i) := ⟨initS_len _, rfl, fun r hr => by cases hr⟩
theorem fromA_ok (W : List (BitVec 64)) (n : Nat) : okS (fromA W n) n 0 := ⟨by simp [fromA], rfl, fun m hm => by
  obtain ⟨i, _, rfl⟩ := List.mem_map.1 hm
  exact lineM_ok W i, fun m hm => by
  obtain ⟨i, _, rfl⟩ := List.mem_map.1 hm
  exact Nat.zero_le _⟩
theorem store_fuse {s : AS} {n i : Nat} (h : okS s n i) (hf : s.fuse < 1) {a : Int} (ha : 0 ≤ a ∧ a < 8 * n) (w : BitVec 64) : (s.store a w).fuse < 1 ∧ s.storeE a = 0 := by
  obtain ⟨h1, h2⟩ := AS.store_on (w := w) h.off hf ⟨ha.1, by rw [h.len]; omega⟩
  rw [h1]; exact ⟨hf, h2⟩
def psI (st : St) (x y k : V) (q n : Nat) (e : Env) (s : St) : Prop := ∃ (i : Nat) (v : MV), i ≤ n ∧ e.get 0 = some x ∧ e.get 1 = some y ∧ e.get 2 = some k ∧ e.get 7 = some (.p q 0) ∧ e.get 9 = some (.int .i64 (i : Int)) ∧ MLive st s q v ∧ okS (absV v) 4 i ∧ (absV v).fuse < 1
def psK (sf : St) (wx nx : V) (nb : Nat) (e : Env) (s : St) : Prop := ∃ i : Nat, i ≤ 32 ∧ e.get 10 = some wx ∧ e.get 13 = some nx ∧ e.get 11 = some (.p nb 0) ∧ e.get 14 = some (.int .i64 (i : Int)) ∧ s = sf
theorem fits_ints : Fits Try.prog (rowC iC) 76 := fits_row Try.underlying76 (by kernel_rfl) (by decide) (fits_i Try.underlying3)
end Go.Proofs.Ytdoennkmcloalaa
set_option linter.unusedSimpArgs false
namespace Go.Proofs.Ytdoennkmcloalaa
open Go.RowKit Ev
abbrev ActD := Int × Int × BitVec 64 × List Int
def PA (L : List ActD) (n : Nat) (i : Nat) (v : BitVec 64) : Prop := v = 0#64 ∨ ∃ (k : Nat) (a : ActD), k < n ∧ L[k]? = some a ∧ a.2.1 % 16 = (i : Int) ∧ a.2.2.1 = v
theorem PA.mono {L : List ActD} {n m i : Nat} {v : BitVec 64} (h : PA L n i v) (k : n ≤ m) : PA L m i v := h.imp id fun ⟨q, a, h1, h2⟩ => ⟨q, a, by omega, h2⟩
theorem zero_S {n l p : Nat} {v : BitVec 64} (h : (lineM (List.replicate n 0#64) l).S[p]? = some v) : v = 0#64 := by
  obtain ⟨h1, h2⟩ := initS_get h
  rw [h2, List.getElem?_take, if_pos h1, List.getElem?_drop, List.getElem?_replicate]
  split <;> rfl
theorem atom_zero (n : Nat) (P : Nat → BitVec 64 → Prop) (h : ∀ i, P i 0#64) : atomB n P (zeroA n) 0 := by
  refine ⟨fromA_ok _ _, by show (0 : Int) < 1; omega, fun l m hm => ?_⟩
  have hm' : ((List.range n).map (lineM (List.replicate (n * 8) 0#64)))[l]? = some m := hm
  rw [List.getElem?_map] at hm'
  cases hr : (List.range n)[l]? with
  | none => rw [hr] at hm'; cases hm'
  | some k =>
    rw [hr] at hm'
    injection hm' with hm'
    subst hm'
    exact ⟨fun p v _ hv => by rw [zero_S hv]; exact h _, fun r hr => by cases hr⟩
def paI (st : St) (x k : V) (q n : Nat) (L : List ActD) (e : Env) (s : St) : Prop := ∃ (i : Nat) (v : MV), i ≤ n ∧ e.get 0 = some x ∧ e.get 1 = some k ∧ e.get 5 = some (.p q 0) ∧ e.get 7 = some (.int .i64 (i : Int)) ∧ MLive st s q v ∧ atomB 2 (PA L i) (absV v) i
def paO (sf : St) (x wx : V) (e : Env) (s : St) : Prop := ∃ i : Nat, i ≤ 16 ∧ e.get 0 = some x ∧ e.get 8 = some wx ∧ e.get 9 = some (.int .i64 (i : Int)) ∧ s = sf
def paK (sf : St) (x wx : V) (i : Nat) (L : List ActD) (w : BitVec 64) (e : Env) (s : St) : Prop := ∃ (k : Nat) (b : Bool), k ≤ L.length ∧ e.get 0 = some x ∧ e.get 8 = some wx ∧ e.get 9 = some (.int .i64 (i : Int)) ∧ e.get 10 = some (.bool b) ∧ e.get 11 = some (.int .i64 (k : Int)) ∧ (PA L k i w → b = true) ∧ s = sf
theorem PA.succ {L : List ActD} {n i : Nat} {v : BitVec 64} {a : ActD} (ha : L[n]? = some a) (h : PA L (n + 1) i v) : PA L n i v ∨ (a.2.1 % 16 = (i : Int) ∧ a.2.2.1 = v) := by
  rcases h with h | ⟨k, b, h1, h2, h3⟩
  · exact .inl (.inl h)
  · by_cases e : k = n
    · subst e
      rw [ha] at h2
      injection h2 with h2
      subst h2
      exact .inr h3
    · exact .inl (.inr ⟨k, b, by omega, h2, h3⟩)
end Go.Proofs.Ytdoennkmcloalaa
set_option linter.unusedSimpArgs false
namespace Go.Proofs.Ytdoennkmcloalaa
open Go.RowKit Ev
structure M2 (st s : St) (qa : Nat) (va : MV) (qb : Nat) (vb : MV) : Prop where
  a : MLive st s qa va
  b : MLive st s qb vb
  d : ∀ k, MOw qa va k → ¬ MOw qb vb k
theorem M2.symm {st s : St} {qa qb : Nat} {va vb : MV} (h : M2 st s qa va qb vb) : M2 st s qb vb qa va := ⟨h.b, h.a, fun k h1 h2 => h.d k h2 h1⟩
theorem M2.left {st s s' : St} {qa qb : Nat} {va va' vb : MV} (h : M2 st s qa va qb vb) (k : MStep qa va va' s s') : M2 st s' qa va' qb vb :=
  ⟨h.a.step k, ⟨h.b.at'.other k.kept.le fun n hn => k.kept.keep n (h.b.at'.own_lt hn) fun e => h.d n e hn, h.b.own, (h.a.step k).ext⟩, fun n h1 h2 => by
    rcases k.own n h1 with e | e
    · exact h.d n e h2
    · have := h.b.at'.own_lt h2; omega⟩
theorem M2.right {st s s' : St} {qa qb : Nat} {va vb vb' : MV} (h : M2 st s qa va qb vb) (k : MStep qb vb vb' s s') : M2 st s' qa va qb vb' := (h.symm.left k).symm
theorem M2.more {st s s' : St} {qa qb : Nat} {va vb : MV} (h : M2 st s qa va qb vb) (k : Ext s.nx s s') : M2 st s' qa va qb vb := ⟨h.a.more k, h.b.more k, h.d⟩
theorem M2.make {st s s' : St} {qa qb : Nat} {va vb : MV} (h : MLive st s qa va) (k : MLive s s' qb vb) : M2 st s' qa va qb vb :=
  ⟨h.more k.ext, k.from h.ext |> fun x => ⟨x.at', x.own, x.ext⟩, fun n h1 h2 => by have := h.at'.own_lt h1; have := k.own n h2; omega⟩
/-- behind the fall of both -/
def FuO (calls i : Nat) (A B : AS) : Prop := calls ≤ i ∧ A.off = true ∧ B.off = true ∧ A.L = B.L ∧ A.fuse < 1 ∧ B.fuse < 1 ∧ A.L.length = 3 ∧ ∀ m ∈ A.L, m.O = []
/-- ahead of a step, behind what falls there -/
def FuM (calls i : Nat) (K : List Int) (A B : AS) : Prop :=
  (i + 1 < calls ∧ A.L = B.L ∧ okS A 3 i ∧ okS B 3 i ∧ A.fuse = (calls : Int) - i ∧ B.fuse < 1 ∧ A.K = K) ∨
  (i + 1 = calls ∧ okS A 3 i ∧ A.fuse = 1 ∧ A.K = K ∧ B.off = true ∧ B.L = fallM K A.L ∧ B.fuse < 1) ∨ FuO calls i A B
def FuA (calls i : Nat) (K : List Int) (A B : AS) : Prop :=
  (i < calls ∧ A.L = B.L ∧ okS A 3 i ∧ okS B 3 i ∧ A.fuse = (calls : Int) - i ∧ B.fuse < 1 ∧ A.K = K) ∨ FuO calls i A B
theorem FuA.mid {calls i : Nat} {K : List Int} {A B : AS} (h : FuA calls i K A B) (hn : i + 1 ≠ calls) : FuM calls i K A B := by
  rcases h with ⟨h1, h2⟩ | h
  · exact .inl ⟨by omega, h2⟩
  · exact .inr (.inr h)
theorem FuA.crash {calls i : Nat} {K : List Int} {A B : AS} (h : FuA calls i K A B) (hn : i + 1 = calls) : B.off = false ∧ FuM calls i K A (B.fell K) := by
  rcases h with ⟨h1, h2, h3, h4, h5, h6, h7⟩ | h
  · exact ⟨h4.off, .inr (.inl ⟨hn, h3, by omega, h7, rfl, by rw [h2]; rfl, by show (0 : Int) < 1; omega⟩)⟩
  · have := h.1; omega
/-- what a call does -/
structure OpK (i : Nat) (op : AS → AS) (opE : AS → Int) (g : List LM → List LM) : Prop where
  off : ∀ s, s.off = true → op s = s ∧ opE s = 14
  blow : ∀ s, okS s 3 i → s.fuse = 1 → op s = s.lit ∧ opE s = 14
  run : ∀ s, okS s 3 i → s.fuse ≠ 1 → (op s).L = g s.L ∧ (op s).fuse = s.lit.fuse ∧ (op s).K = s.lit.K ∧ opE s = 0 ∧ okS (op s) 3 (i + 1)
theorem lit_on {s : AS} (h : s.fuse ≠ 1) : s.lit.L = s.L ∧ s.lit.off = s.off ∧ s.lit.K = s.K ∧ (s.fuse < 1 → s.lit.fuse = s.fuse) ∧ (1 < s.fuse → s.lit.fuse = s.fuse - 1) := by
  unfold AS.lit
  by_cases h1 : s.fuse < 1
  · rw [if_pos h1]; exact ⟨rfl, rfl, rfl, fun _ => rfl, fun _ => by omega⟩
  · rw [if_neg h1, if_pos (by omega)]; exact ⟨rfl, rfl, rfl, fun _ => by omega, fun _ => rfl⟩
theorem FuM.step {calls i : Nat} {K : List Int} {A B : AS} {op : AS → AS} {opE : AS → Int} {g : List LM → List LM} (h : FuM calls i K A B) (k : OpK i op opE g) :
    FuA calls (i + 1) K (op A) (op B) ∧ opE A = opE B ∧ opE A = (if calls ≤ i + 1 then 14 else 0) ∧ (op A).off = (op B).off := by
  rcases h with ⟨h1, h2, h3, h4, h5, h6, h7⟩ | ⟨h1, h2, h3, h4, h5, h6, h7⟩ | ⟨h1, h2, h3, h4, h5, h6, h7, h8⟩
  · obtain ⟨a1, a2, a3, a4, a5⟩ := k.run A h3 (by omega)
    obtain ⟨b1, b2, b3, b4, b5⟩ := k.run B h4 (by omega)
    obtain ⟨_, _, l3, _, l5⟩ := lit_on (s := A) (by omega)
    obtain ⟨_, _, _, m4, _⟩ := lit_on (s := B) (by omega)
    refine ⟨.inl ⟨by omega, by rw [a1, b1, h2], a5, b5, ?_, by rw [b2, m4 h6]; exact h6, by rw [a3, l3, h7]⟩, by rw [a4, b4], by rw [a4, if_neg (by omega)], by rw [a5.off, b5.off]⟩
    rw [a2, l5 (by omega), h5]; omega
  · obtain ⟨a1, a2⟩ := k.blow A h2 h3
    obtain ⟨b1, b2⟩ := k.off B h5
    have hl : A.lit = A.fell A.K := by unfold AS.lit; rw [if_neg (by omega), if_neg (by omega)]
    refine ⟨.inr ⟨by omega, by rw [a1, hl]; rfl, by rw [b1]; exact h5, by rw [a1, b1, hl, h6, h4]; rfl, by rw [a1, hl]; show (0 : Int) < 1; omega, by rw [b1]; exact h7, by rw [a1, hl]; show (fallM A.K A.L).length = 3; rw [fallM_length, h2.len], fun m hm => by
      rw [a1, hl] at hm
      obtain ⟨x, _, hx⟩ := fallM_mem hm
      rcases hx with ⟨rfl, hx⟩ | ⟨c, rfl⟩
      · exact hx
      · rfl⟩, by rw [a2, b2], by rw [a2, if_pos (by omega)], by rw [a1, b1, hl, h5]; rfl⟩
  · obtain ⟨a1, a2⟩ := k.off A h2
    obtain ⟨b1, b2⟩ := k.off B h3
    exact ⟨.inr ⟨by omega, by rw [a1]; exact h2, by rw [b1]; exact h3, by rw [a1, b1]; exact h4, by rw [a1]; exact h5, by rw [b1]; exact h6, by rw [a1]; exact h7, by rw [a1]; exact h8⟩, by rw [a2, b2], by rw [a2, if_pos (by omega)], by rw [a1, b1, h2, h3]⟩
theorem opk_store (i : Nat) {a : Int} (ha : 0 ≤ a ∧ a < 24) (w : BitVec 64) : OpK i (fun s => s.store a w) (fun s => s.storeE a) (fun L => L.set (a / 8).toNat ((L[(a / 8).toNat]?.getD LM0).store (a % 8) w)) := by
  refine ⟨fun s h => ?_, fun s h hf => ?_, fun s h hf => ?_⟩
  · simp [AS.store, AS.storeE, h]
  · have hin : s.in8 a := ⟨ha.1, by rw [h.len]; omega⟩
    simp [AS.store, AS.storeE, h.off, hin, hf]
  · have hin : s.in8 a := ⟨ha.1, by rw [h.len]; omega⟩
    obtain ⟨l1, l2, _⟩ := lit_on hf
    have he : s.store a w = { s.lit with L := s.L.set (a / 8).toNat ((s.L[(a / 8).toNat]?.getD LM0).store (a % 8) w), a := IntKind.i64.wrap (s.a + 1) } := by simp [AS.store, h.off, hin, hf]
    obtain ⟨m, hm⟩ := in8_get hin
    have hmm := List.mem_of_getElem? hm
    refine ⟨by rw [he], by rw [he], by rw [he], by simp [AS.storeE, h.off, hin, hf], ?_⟩
    rw [he, hm]
    refine ⟨by simp [h.len], by show s.lit.off = false; rw [l2, h.off], fun x hx => ?_, fun x hx => ?_⟩
    · rcases set_mem hx with hx | rfl
      · exact h.ok x hx
      · exact (h.ok m hmm).store _ _
    · rcases set_mem hx with hx | rfl
      · have := h.op x hx; omega
      · have := h.op m hmm
        have h2 : ((m.store (a % 8) w).O).length ≤ m.O.length + 1 := by unfold LM.store; split <;> simp
        exact Nat.le_trans h2 (by omega)
theorem opk_flush (i : Nat) {a : Int} (ha : 0 ≤ a ∧ a < 3) : OpK i (fun s => s.flush [a]) (fun s => s.flushE [a]) (fun L => flushL L [a]) := by
  have may : ∀ s : AS, okS s 3 i → s.may [a] := fun s h j hj => by
    rw [h.len]; simp at hj; omega
  refine ⟨fun s h => ?_, fun s h hf => ?_, fun s h hf => ?_⟩
  · simp [AS.flush, AS.flushE, h]
  · simp [AS.flush, AS.flushE, h.off, may s h, hf]
  · obtain ⟨l1, l2, _⟩ := lit_on hf
    have he : s.flush [a] = { s.lit with L := flushL s.L [a], b := IntKind.i64.wrap (s.b + 1) } := by simp [AS.flush, h.off, may s h, hf]
    refine ⟨by rw [he], by rw [he], by rw [he], by simp [AS.flushE, h.off, may s h, hf], ?_⟩
    rw [he]
    have hmy := may s h
    exact ⟨by show (flushL s.L [a]).length = 3; rw [flushL_length, h.len], by show s.lit.off = false; rw [l2, h.off], flushL_ok (fun _ h => h.flush) [a] s.L hmy h.ok, flushL_ok (P := fun m => m.O.length ≤ i + 1) (fun _ h => h) [a] s.L hmy fun m hm => by have := h.op m hm; omega⟩
theorem opk_fence (i : Nat) : OpK i (fun s => s.fence) (fun s => s.fenceE) (fun L => L.map fenceM) := by
  refine ⟨fun s h => ?_, fun s h hf => ?_, fun s h hf => ?_⟩
  · simp [AS.fence, AS.fenceE, h]
  · simp [AS.fence, AS.fenceE, h.off, hf]
  · obtain ⟨l1, l2, _⟩ := lit_on hf
    have he : s.fence = { s.lit with L := s.L.map fenceM, c := IntKind.i64.wrap (s.c + 1) } := by simp [AS.fence, h.off, hf]
    refine ⟨by rw [he], by rw [he], by rw [he], by simp [AS.fenceE, h.off, hf], ?_⟩
    rw [he]
    refine ⟨by show (s.L.map fenceM).length = 3; rw [List.length_map, h.len], by show s.lit.off = false; rw [l2, h.off], fun m hm => ?_, fun m hm => ?_⟩
    · obtain ⟨x, hx, rfl⟩ := List.mem_map.1 hm
      exact (h.ok x hx).fence
    · obtain ⟨x, hx, rfl⟩ := List.mem_map.1 hm
      have := h.op x hx
      show (x.O.drop _).length ≤ i + 1
      rw [List.length_drop]; omega
/-- the sizes that the contracts ask for -/
def SzA (s : AS) (i : Nat) : Prop := s.L.length = 3 ∧ s.fuse ≤ 30 ∧ ∀ m ∈ s.L, m.O.length ≤ i
theorem okS.sz {s : AS} {i : Nat} (h : okS s 3 i) (hf : s.fuse ≤ 30) : SzA s i := ⟨h.len, hf, h.op⟩
theorem FuO.sz {calls i : Nat} {A B : AS} (h : FuO calls i A B) : SzA A i ∧ SzA B i := by
  obtain ⟨h1, h2, h3, h4, h5, h6, h7, h8⟩ := h
  exact ⟨⟨h7, by omega, fun m hm => by rw [h8 m hm]; exact Nat.zero_le _⟩, ⟨by rw [← h4]; exact h7, by omega, fun m hm => by rw [← h4] at hm; rw [h8 m hm]; exact Nat.zero_le _⟩⟩
theorem FuA.sz {calls i : Nat} {K : List Int} {A B : AS} (h : FuA calls i K A B) (hc : calls ≤ 30) : SzA A i ∧ SzA B i := by
  rcases h with ⟨h1, h2, h3, h4, h5, h6, h7⟩ | h
  · exact ⟨h3.sz (by omega), h4.sz (by omega)⟩
  · exact h.sz
theorem FuM.sz {calls i : Nat} {K : List Int} {A B : AS} (h : FuM calls i K A B) (hc : calls ≤ 30) : SzA A i ∧ SzA B i := by
  rcases h with ⟨h1, h2, h3, h4, h5, h6, h7⟩ | ⟨h1, h2, h3, h4, h5, h6, h7⟩ | h
  · exact ⟨h3.sz (by omega), h4.sz (by omega)⟩
  · refine ⟨h2.sz (by omega), by rw [h6, fallM_length, h2.len], by omega, fun m hm => ?_⟩
    rw [h6] at hm
    obtain ⟨x, _, hx⟩ := fallM_mem hm
    rcases hx with ⟨rfl, hx⟩ | ⟨c, rfl⟩
    · rw [hx]; exact Nat.zero_le _
    · exact Nat.zero_le _
  · exact h.sz
theorem SzA.v {v : MV} {i : Nat} (h : SzA (absV v) i) : v.R.length = 3 ∧ v.fuse ≤ 30 ∧ ∀ r ∈ v.R, r.m.O.length ≤ i :=
  ⟨by have := h.1; simpa [absV] using this, h.2.1, fun r hr => h.2.2 r.m (List.mem_map_of_mem hr)⟩
end Go.Proofs.Ytdoennkmcloalaa
set_option linter.unusedSimpArgs false
namespace Go.Proofs.Ytdoennkmcloalaa
open Go.RowKit Ev
def smI (st : St) (x y : V) (L K : List (BitVec 64)) (e : Env) (s : St) : Prop := ∃ i : Nat, i ≤ L.length ∧ e.get 0 = some x ∧ e.get 1 = some y ∧ e.get 5 = some (.int .i64 (i : Int)) ∧ (∀ j, j < i → L[j]? = K[j]?) ∧ s = st
def pfI (st : St) (x k : V) (calls : Nat) (K : List Int) (qa qb n : Nat) (e : Env) (s : St) : Prop := ∃ (i : Nat) (va vb : MV), i ≤ n ∧ e.get 0 = some x ∧ e.get 1 = some (.int .i64 (calls : Int)) ∧ e.get 2 = some k ∧ e.get 7 = some (.p qa 0) ∧ e.get 9 = some (.p qb 0) ∧ e.get 11 = some (.int .i64 (i : Int)) ∧
  M2 st s qa va qb vb ∧ FuA calls i K (absV va) (absV vb)
def pfJ (st : St) (x k : V) (calls i : Nat) (K : List Int) (qa qb : Nat) (r : X × Env × St) : Prop := ∃ (e : Env) (s : St) (va vb : MV), r = (.n, e, s) ∧ e.get 0 = some x ∧ e.get 1 = some (.int .i64 (calls : Int)) ∧ e.get 2 = some k ∧ e.get 7 = some (.p qa 0) ∧ e.get 9 = some (.p qb 0) ∧ e.get 11 = some (.int .i64 (i : Int)) ∧
  M2 st s qa va qb vb ∧ FuM calls i K (absV va) (absV vb)
def pfK (st : St) (x k : V) (calls i : Nat) (K : List Int) (qa qb : Nat) (r : X × Env × St) : Prop := ∃ (e : Env) (s : St) (va vb : MV) (c : Int), r = (.n, e, s) ∧ e.get 0 = some x ∧ e.get 1 = some (.int .i64 (calls : Int)) ∧ e.get 2 = some k ∧ e.get 7 = some (.p qa 0) ∧ e.get 9 = some (.p qb 0) ∧ e.get 11 = some (.int .i64 (i : Int)) ∧
  e.get 12 = some (.int .i64 c) ∧ e.get 13 = some (.int .i64 c) ∧ c = (if calls ≤ i + 1 then 14 else 0) ∧ va.off = vb.off ∧ M2 st s qa va qb vb ∧ FuA calls (i + 1) K (absV va) (absV vb)
end Go.Proofs.Ytdoennkmcloalaa

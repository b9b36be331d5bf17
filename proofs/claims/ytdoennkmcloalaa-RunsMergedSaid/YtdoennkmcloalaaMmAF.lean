/-
  PLAIN: Mm, MmA, MmB, MmC, MmD, MmE, MmF, in one text.
-/
import Derived.Test.YtdoennkmcloalaaLnT
set_option linter.unusedSimpArgs false
namespace Go.Proofs.Ytdoennkmcloalaa
open Go.RowKit Ev
structure LR where
  n : Nat
  y : V
  m : LM
structure MV where
  z : V
  kz : V
  R : List LR
  off : Bool
  fuse : Int
  K : List Int
  a : Int
  b : Int
  c : Int
def ivs (K : List Int) : List V := K.map fun v => .int .i64 v
def ptrs (R : List LR) : List V := R.map fun r => .p r.n 0
def okL (m : LM) : Prop := ∃ f : Nat, m.F = f ∧ f ≤ m.O.length
def memIs (t : T V) (v : MV) : Prop := t.get 0 = some v.z ∧ t.get 1 = some (.bool v.off) ∧ t.get 2 = some (.int .i64 v.fuse) ∧ t.get 3 = some v.kz ∧ t.get 4 = some (.int .i64 v.a) ∧ t.get 5 = some (.int .i64 v.b) ∧ t.get 6 = some (.int .i64 v.c)
/-- the names that a memory has -/
def MOw (q : Nat) (v : MV) (k : Nat) : Prop := k = q ∨ Nm v.z k ∨ Nm v.kz k ∨ ∃ r ∈ v.R, Ow r.n r.y k
structure MemAt (st : St) (q : Nat) (v : MV) : Prop where
  lt : q < st.nx
  blk : ∃ t, st.h.get q = some (.cs 224 7 t) ∧ memIs t v
  row : RdRow st v.z 1 v.R.length (ptrs v.R)
  keep : RdRow st v.kz 1 v.K.length (ivs v.K)
  lines : ∀ (i : Nat) (r : LR), v.R[i]? = some r → LineAt st r.n r.y r.m ∧ okL r.m
  q1 : ¬ Nm v.z q
  q2 : ¬ Nm v.kz q
  own1 : ∀ (i : Nat) (r : LR), v.R[i]? = some r → ∀ k, Ow r.n r.y k → k ≠ q ∧ ¬ Nm v.z k ∧ ¬ Nm v.kz k
  own2 : ∀ (i j : Nat) (r s : LR), i ≠ j → v.R[i]? = some r → v.R[j]? = some s → ∀ k, Ow r.n r.y k → ¬ Ow s.n s.y k
structure MKept (q : Nat) (v : MV) (st st' : St) : Prop where
  le : st.nx ≤ st'.nx
  wf : Wf st → Wf st'
  keep : ∀ k, k < st.nx → ¬ MOw q v k → st'.h.get k = st.h.get k
theorem MKept.refl (q : Nat) (v : MV) (st : St) : MKept q v st st := ⟨Nat.le_refl _, fun h => h, fun _ _ _ => rfl⟩
/-- what a step comes to: the memory, what is kept, its names -/
structure MStep (q : Nat) (v v' : MV) (st st' : St) : Prop where
  at' : MemAt st' q v'
  kept : MKept q v st st'
  own : ∀ k, MOw q v' k → MOw q v k ∨ st.nx ≤ k
theorem MStep.refl {q : Nat} {v : MV} {st : St} (h : MemAt st q v) : MStep q v v st st := ⟨h, .refl _ _ _, fun _ h => .inl h⟩
theorem MStep.trans {q : Nat} {v1 v2 v3 : MV} {s1 s2 s3 : St} (h : MStep q v1 v2 s1 s2) (k : MStep q v2 v3 s2 s3) : MStep q v1 v3 s1 s3 := by
  refine ⟨k.at', ⟨Nat.le_trans h.kept.le k.kept.le, fun w => k.kept.wf (h.kept.wf w), fun n hn ho => ?_⟩, fun n hn => ?_⟩
  · rw [k.kept.keep n (Nat.lt_of_lt_of_le hn h.kept.le) (fun e => by
      rcases h.own n e with e | e
      · exact ho e
      · omega)]
    exact h.kept.keep n hn ho
  · rcases k.own n hn with e | e
    · exact h.own n e
    · exact .inr (Nat.le_trans h.kept.le e)
/-- all its names lie behind b: then nothing ahead of b changes -/
theorem MStep.ext {q b : Nat} {v v' : MV} {s s' : St} (h : MStep q v v' s s') (hb : b ≤ s.nx) (ho : ∀ k, MOw q v k → b ≤ k) : Ext b s s' :=
  ⟨h.kept.le, h.kept.wf, fun k hk => h.kept.keep k (by omega) (fun e => by have := ho k e; omega)⟩
theorem MStep.own_ge {q b : Nat} {v v' : MV} {s s' : St} (h : MStep q v v' s s') (hb : b ≤ s.nx) (ho : ∀ k, MOw q v k → b ≤ k) : ∀ k, MOw q v' k → b ≤ k := fun k hk => by
  rcases h.own k hk with e | e
  · exact ho k e
  · omega
theorem MemAt.own_lt {st : St} {q : Nat} {v : MV} (h : MemAt st q v) {k : Nat} (hk : MOw q v k) : k < st.nx := by
  rcases hk with rfl | hk | hk | ⟨r, hr, hk⟩
  · exact h.lt
  · exact h.row.nm_lt hk
  · exact h.keep.nm_lt hk
  · obtain ⟨i, hi⟩ := List.getElem?_of_mem hr
    exact (h.lines i r hi).1.own_lt hk
theorem MemAt.other {st st' : St} {q : Nat} {v : MV} (h : MemAt st q v) (hle : st.nx ≤ st'.nx) (k : ∀ n, MOw q v n → st'.h.get n = st.h.get n) : MemAt st' q v := by
  obtain ⟨t, h1, h2⟩ := h.blk
  refine ⟨Nat.lt_of_lt_of_le h.lt hle, ⟨t, by rw [k q (.inl rfl)]; exact h1, h2⟩, h.row.other hle fun n hn => k n (.inr (.inl hn)), h.keep.other hle fun n hn => k n (.inr (.inr (.inl hn))), fun i r hi => ?_, h.q1, h.q2, h.own1, h.own2⟩
  exact ⟨(h.lines i r hi).1.other hle fun n hn => k n (.inr (.inr (.inr ⟨r, List.mem_of_getElem? hi, hn⟩))), (h.lines i r hi).2⟩
theorem MemAt.ext {st st' : St} {q : Nat} {v : MV} (h : MemAt st q v) (k : Ext st.nx st st') : MemAt st' q v := h.other k.le fun _ hn => k.keep _ (h.own_lt hn)
theorem MStep.ofExt {st st' : St} {q : Nat} {v : MV} (h : MemAt st q v) (k : Ext st.nx st st') : MStep q v v st st' := ⟨h.ext k, ⟨k.le, k.wf, fun n hn _ => k.keep n hn⟩, fun _ h => .inl h⟩
/-- its own block is written -/
theorem MemAt.setB {st : St} {q : Nat} {v v' : MV} (h : MemAt st q v) (t' : T V) (ht : memIs t' v') (hz : v'.z = v.z) (hR : v'.R = v.R) (hk : RdRow st v'.kz 1 v'.K.length (ivs v'.K)) (hkq : ∀ k, Nm v'.kz k → k ≠ q ∧ (Nm v.kz k ∨ ∀ n, MOw q v n → n ≠ k)) :
    MemAt ⟨st.nx, st.h.set q (.cs 224 7 t')⟩ q v' ∧ MKept q v st ⟨st.nx, st.h.set q (.cs 224 7 t')⟩ := by
  have ne : ∀ n, n ≠ q → (st.h.set q (.cs 224 7 t')).get n = st.h.get n := fun n hn => T.get_set_ne _ _ (fun e => hn e.symm)
  refine ⟨⟨h.lt, ⟨t', T.get_set_same _ _ _, ht⟩, ?_, ?_, fun i r hi => ?_, ?_, fun e => (hkq q e).1 rfl, fun i r hi k hk2 => ?_, fun i j r s hij hi hj => ?_⟩, ⟨Nat.le_refl _, ((Ext.refl 0 st).set (Nat.zero_le _) h.lt _).wf, fun k _ hk => ne k (fun e => hk (.inl e))⟩⟩
  · rw [hz, hR]; exact h.row.other (Nat.le_refl _) fun n hn => ne n (fun e => h.q1 (by rw [← e]; exact hn))
  · exact hk.other (Nat.le_refl _) fun n hn => ne n (hkq n hn).1
  · rw [hR] at hi
    exact ⟨(h.lines i r hi).1.other (Nat.le_refl _) fun n hn => ne n (h.own1 i r hi n hn).1, (h.lines i r hi).2⟩
  · rw [hz]; exact h.q1
  · rw [hR] at hi
    obtain ⟨o1, o2, o3⟩ := h.own1 i r hi k hk2
    refine ⟨o1, by rw [hz]; exact o2, fun e => ?_⟩
    rcases (hkq k e).2 with e2 | e2
    · exact o3 e2
    · exact e2 k (.inr (.inr (.inr ⟨r, List.mem_of_getElem? hi, hk2⟩))) rfl
  · rw [hR] at hi hj
    exact h.own2 i j r s hij hi hj
/-- a line of it is written -/
theorem MemAt.line {st st' : St} {q i : Nat} {v : MV} {r : LR} (h : MemAt st q v) (hi : v.R[i]? = some r) {y' : V} {m' : LM} (h1 : LineAt st' r.n y' m') (h2 : Kept r.n r.y st st') (h3 : ∀ k, Ow r.n y' k → Ow r.n r.y k ∨ st.nx ≤ k) (h4 : okL m') :
    MStep q v { v with R := v.R.set i ⟨r.n, y', m'⟩ } st st' := by
  have hil := lt_of_get hi
  have keepN : ∀ n, n < st.nx → ¬ Ow r.n r.y n → st'.h.get n = st.h.get n := h2.keep
  have hown : ∀ (j : Nat) (s : LR), (v.R.set i ⟨r.n, y', m'⟩)[j]? = some s → (j = i ∧ s = ⟨r.n, y', m'⟩) ∨ (j ≠ i ∧ v.R[j]? = some s) := fun j s hs => by
    by_cases hij : j = i
    · subst hij
      rw [List.getElem?_set_self hil] at hs
      injection hs with hs
      exact .inl ⟨rfl, hs.symm⟩
    · rw [List.getElem?_set_ne (fun e => hij e.symm)] at hs
      exact .inr ⟨hij, hs⟩
  have hp : ptrs (v.R.set i ⟨r.n, y', m'⟩) = ptrs v.R := by
    apply List.ext_getElem?
    intro j
    unfold ptrs
    rw [List.getElem?_map, List.getElem?_map]
    by_cases hij : j = i
    · subst hij; rw [List.getElem?_set_self hil, hi]; rfl
    · rw [List.getElem?_set_ne (fun e => hij e.symm)]
  have own1' := h.own1 i r hi
  obtain ⟨t, b1, b2⟩ := h.blk
  refine ⟨⟨Nat.lt_of_lt_of_le h.lt h2.le, ⟨t, ?_, b2⟩, ?_, h.keep.other h2.le fun n hn => keepN n (h.keep.nm_lt hn) (fun e => (own1' n e).2.2 hn), fun j s hs => ?_, h.q1, h.q2, fun j s hs k hk => ?_, fun j l s u hjl hs hu k hk => ?_⟩, ⟨h2.le, h2.wf, fun k hk ho => keepN k hk (fun e => ho (.inr (.inr (.inr ⟨r, List.mem_of_getElem? hi, e⟩))))⟩, fun k hk => ?_⟩
  · rw [keepN q h.lt (fun e => (own1' q e).1 rfl)]; exact b1
  · show RdRow st' v.z 1 (v.R.set i ⟨r.n, y', m'⟩).length (ptrs (v.R.set i ⟨r.n, y', m'⟩))
    rw [hp, List.length_set]
    exact h.row.other h2.le fun n hn => keepN n (h.row.nm_lt hn) (fun e => (own1' n e).2.1 hn)
  · rcases hown j s hs with ⟨rfl, rfl⟩ | ⟨hji, hs⟩
    · exact ⟨h1, h4⟩
    · exact ⟨(h.lines j s hs).1.other h2.le fun n hn => keepN n ((h.lines j s hs).1.own_lt hn) (h.own2 j i s r hji hs hi n hn), (h.lines j s hs).2⟩
  · rcases hown j s hs with ⟨rfl, rfl⟩ | ⟨hji, hs⟩
    · rcases h3 k hk with e | e
      · exact own1' k e
      · exact ⟨fun e2 => by have := h.lt; omega, fun e2 => by have := h.row.nm_lt e2; omega, fun e2 => by have := h.keep.nm_lt e2; omega⟩
    · exact h.own1 j s hs k hk
  · rcases hown j s hs with ⟨rfl, rfl⟩ | ⟨hji, hs2⟩
    · rcases hown l u hu with ⟨rfl, rfl⟩ | ⟨hli, hu2⟩
      · exact absurd rfl hjl
      · rcases h3 k hk with e | e
        · exact h.own2 j l r u hjl hi hu2 k e
        · exact fun e2 => by have := (h.lines l u hu2).1.own_lt e2; omega
    · rcases hown l u hu with ⟨rfl, rfl⟩ | ⟨hli, hu2⟩
      · intro e2
        rcases h3 k e2 with e | e
        · exact h.own2 j l s r hjl hs2 hi k hk e
        · have := (h.lines j s hs2).1.own_lt hk; omega
      · exact h.own2 j l s u hjl hs2 hu2 k hk
  · rcases hk with rfl | hk | hk | ⟨s, hs, hk⟩
    · exact .inl (.inl rfl)
    · exact .inl (.inr (.inl hk))
    · exact .inl (.inr (.inr (.inl hk)))
    · obtain ⟨j, hj⟩ := List.getElem?_of_mem hs
      rcases hown j s hj with ⟨rfl, rfl⟩ | ⟨hji, hj⟩
      · rcases h3 k hk with e | e
        · exact .inl (.inr (.inr (.inr ⟨r, List.mem_of_getElem? hi, e⟩)))
        · exact .inr e
      · exact .inl (.inr (.inr (.inr ⟨s, List.mem_of_getElem? hj, hk⟩)))
end Go.Proofs.Ytdoennkmcloalaa
set_option linter.unusedSimpArgs false
namespace Go.Proofs.Ytdoennkmcloalaa
open Go.RowKit Ev
theorem moff_any (st : St) (q : Nat) (v : MV) (h : MemAt st q v) (nt : Nat) :
    Gd (callL Try.prog ⟨false, [], 0, nt⟩ 89 [.p q 0] st) fun r => r = (.bool v.off, st) := by
  obtain ⟨t, h1, h2, h3, h4, h5, h6, h7, h8⟩ := h.blk
  rw [Gd_callL Try.func89 rfl]
  simp [sets, T.get_set, loadE_eq, getC_eq, h1, h3]
theorem mlines_any (st : St) (q : Nat) (v : MV) (h : MemAt st q v) (nt : Nat) :
    Gd (callL Try.prog ⟨false, [], 0, nt⟩ 197 [.p q 0] st) fun r => r = (.int .i64 (v.R.length : Int), st) := by
  obtain ⟨t, h1, h2, h3, h4, h5, h6, h7, h8⟩ := h.blk
  rw [Gd_callL Try.func197 rfl]
  simp [sets, T.get_set, loadE_eq, getC_eq, h1, h2, h.row.lenS]
theorem mon_any (st : St) (q : Nat) (v : MV) (h : MemAt st q v) (nt : Nat) :
    Gd (callL Try.prog ⟨false, [], 0, nt⟩ 91 [.p q 0] st) fun r => r.1 = .t [] ∧ MStep q v { v with off := false } st r.2 := by
  obtain ⟨t, h1, h2, h3, h4, h5, h6, h7, h8⟩ := h.blk
  rw [Gd_callL Try.func91 rfl]
  simp [sets, T.get_set, loadE_eq, getC_eq, h1, putB_eq, roT]
  obtain ⟨a1, a2⟩ := h.setB (v' := { v with off := false }) (t.set 1 (.bool false)) (by simp [memIs, T.get_set, *]) rfl rfl h.keep (fun k hk => ⟨fun e => h.q2 (by rw [← e]; exact hk), .inl hk⟩)
  exact ⟨a1, a2, fun k hk => .inl hk⟩
def word8 (R : List LR) (a : Int) : Prop := 0 ≤ a ∧ a / 8 < R.length
instance (R : List LR) (a : Int) : Decidable (word8 R a) := by unfold word8; infer_instance
def lineOf (v : MV) (a : Int) : LR := v.R[(a / 8).toNat]?.getD ⟨0, .u, ⟨[], [], [], 0⟩⟩
def wordV (v : MV) (a : Int) : V := if v.off = true then .t [.c (.pointer none), .int .i64 0, .int .i64 14] else if word8 v.R a then .t [.p (lineOf v a).n 0, .int .i64 (a % 8), .int .i64 0] else .t [.c (.pointer none), .int .i64 0, .int .i64 1]
theorem lineOf_get {v : MV} {a : Int} (h : word8 v.R a) : v.R[(a / 8).toNat]? = some (lineOf v a) := by
  obtain ⟨h1, h2⟩ := h
  unfold lineOf
  rw [List.getElem?_eq_getElem (by omega)]; rfl
theorem mword_any (st : St) (q : Nat) (v : MV) (h : MemAt st q v) (a : Int) (ha : -9223372036854775808 ≤ a ∧ a ≤ 9223372036854775807) (nt : Nat) :
    Gd (callL Try.prog ⟨false, [], 0, nt⟩ 233 [.p q 0, .int .i64 a] st) fun r => r = (wordV v a, st) := by
  obtain ⟨t, h1, h2, h3, h4, h5, h6, h7, h8⟩ := h.blk
  rw [Gd_callL Try.func233 rfl]
  unfold wordV
  cases ho : v.off with
  | true =>
    rw [ho] at h3
    simp [sets, T.get_set, loadE_eq, getC_eq, h1, h3]
  | false =>
    rw [ho] at h3
    by_cases c1 : a < 0
    · have hw : ¬ word8 v.R a := fun h => by have := h.1; omega
      simp [evOp_call, sets, T.get_set, loadE_eq, getC_eq, h1, h3, c1, hw]
    · have hd : a.tdiv 8 = a / 8 := Int.tdiv_eq_ediv_of_nonneg (by omega)
      have hm : a.tmod 8 = a % 8 := Int.tmod_eq_emod_of_nonneg (by omega)
      have w1 : IntKind.i64.wrap (a / 8) = a / 8 := wrap_in (by omega) (by omega)
      have w2 : IntKind.i64.wrap (a % 8) = a % 8 := wrap_in (by omega) (by omega)
      by_cases c2 : (v.R.length : Int) ≤ a / 8
      · have hw : ¬ word8 v.R a := fun h => by have := h.2; omega
        simp [evOp_call, sets, T.get_set, loadE_eq, getC_eq, h1, h2, h3, c1, hd, w1, h.row.lenS, c2, hw]
      · have hw : word8 v.R a := ⟨by omega, by omega⟩
        obtain ⟨i, hi⟩ : ∃ i : Nat, (i : Int) = a / 8 := ⟨(a / 8).toNat, by omega⟩
        have hlt : i < v.R.length := by omega
        obtain ⟨m1, o1, ty1, sz1, t1, i1, b1, k1, l1, d1⟩ := h.row.idx (st := st) un222 io225 hlt
        have hp : t1.get o1 = some (.p (lineOf v a).n 0) := d1 0 _ (by omega) (by
          rw [Nat.mul_one, Nat.add_zero]; unfold ptrs
          have := lineOf_get hw
          rw [show (a / 8).toNat = i by omega] at this
          rw [List.getElem?_map, this]; rfl)
        rw [← hi] at hd w1 c2
        simp [evOp_call, sets, T.get_set, loadE_eq, getC_eq, h1, h2, h3, c1, hd, hm, w1, w2, h.row.lenS, c2, hw, i1, k1, hp]
end Go.Proofs.Ytdoennkmcloalaa
set_option linter.unusedSimpArgs false
namespace Go.Proofs.Ytdoennkmcloalaa
open Go.RowKit Ev
def nilW : V := .c (.slice none 0 0)
def openB (r : LR) : Bool := decide (r.m.O.length ≠ 0)
def cntO (R : List LR) (j : Nat) : Nat := ((R.take j).filter openB).length
theorem cntO_le (R : List LR) (j : Nat) : cntO R j ≤ j := by
  unfold cntO
  exact Nat.le_trans (List.length_filter_le _ _) (by simp; omega)
theorem cntO_succ {R : List LR} {j : Nat} {r : LR} (h : R[j]? = some r) : cntO R (j + 1) = cntO R j + (if r.m.O.length = 0 then 0 else 1) := by
  unfold cntO
  rw [List.take_add_one, h]
  simp only [Option.toList_some, List.filter_append, List.length_append]
  congr 1
  by_cases hr : r.m.O.length = 0
  · rw [if_pos hr, List.filter_cons_of_neg (by simp [openB, hr])]; rfl
  · rw [if_neg hr, List.filter_cons_of_pos (by simpa [openB] using hr)]; rfl
def fallAt (K : List Int) (R : List LR) (i : Nat) (r : LR) : LR := if r.m.O.length = 0 then r else ⟨r.n, nilW, r.m.fall (K[cntO R i]?.getD 0)⟩
def fallN (K : List Int) (R : List LR) : Nat → List LR
  | 0 => R
  | j + 1 => match R[j]? with
    | some r => (fallN K R j).set j (fallAt K R j r)
    | none => fallN K R j
theorem fallN_length (K : List Int) (R : List LR) : ∀ j, (fallN K R j).length = R.length
  | 0 => rfl
  | j + 1 => by unfold fallN; split <;> simp [fallN_length K R j]
theorem fallN_get (K : List Int) (R : List LR) : ∀ (j i : Nat), (fallN K R j)[i]? = (R[i]?).map fun r => if i < j then fallAt K R i r else r
  | 0, i => by
    show R[i]? = _
    cases R[i]? <;> simp
  | j + 1, i => by
    have ih := fallN_get K R j i
    have hl := fallN_length K R j
    have e : fallN K R (j + 1) = match R[j]? with | some r => (fallN K R j).set j (fallAt K R j r) | none => fallN K R j := rfl
    rw [e]
    cases hj : R[j]? with
    | none =>
      simp only
      rw [ih]
      cases hi : R[i]? with
      | none => rfl
      | some r =>
        have h1 := lt_of_get hi
        have h2 : R.length ≤ j := List.getElem?_eq_none_iff.1 hj
        simp only [Option.map_some]
        rw [if_pos (by omega), if_pos (by omega)]
    | some r =>
      simp only
      have h1 := lt_of_get hj
      by_cases hij : j = i
      · subst hij
        rw [List.getElem?_set_self (by omega), hj]
        simp
      · rw [List.getElem?_set_ne hij, ih]
        cases hi : R[i]? with
        | none => rfl
        | some s =>
          simp only [Option.map_some]
          by_cases c : i < j
          · rw [if_pos c, if_pos (by omega)]
          · rw [if_neg c, if_neg (by omega)]
def MV.fell (v : MV) (K : List Int) : MV := { v with R := fallN K v.R v.R.length, off := true, fuse := 0, kz := nilW, K := [] }
def crI (st : St) (q : Nat) (v : MV) (x z : V) (K : List Int) (e : Env) (s : St) : Prop := ∃ j : Nat, j ≤ v.R.length ∧ e.get 0 = some (.p q 0) ∧ e.get 1 = some x ∧ e.get 4 = some (.int .i64 (cntO v.R j : Int)) ∧ e.get 15 = some z ∧ e.get 16 = some (.int .i64 (v.R.length : Int)) ∧ e.get 17 = some (.int .i64 (j : Int)) ∧ MStep q v { v with R := fallN K v.R j } st s
theorem fall_ok (m : LM) (k : Int) : okL (m.fall k) := ⟨0, rfl, Nat.zero_le _⟩
theorem fall_step {st s s' : St} {q j : Nat} {v : MV} {K : List Int} {r : LR} (hs : MStep q v { v with R := fallN K v.R j } st s) (hr : v.R[j]? = some r) (h0 : ¬ r.m.O.length = 0) (h1 : LineAt s' r.n nilW (r.m.fall (K[cntO v.R j]?.getD 0))) (h2 : Kept r.n r.y s s') :
    MStep q v { v with R := fallN K v.R (j + 1) } st s' := by
  have hrj : (fallN K v.R j)[j]? = some r := by rw [fallN_get, hr]; simp
  have hstep : fallN K v.R (j + 1) = (fallN K v.R j).set j ⟨r.n, nilW, r.m.fall (K[cntO v.R j]?.getD 0)⟩ := by
    rw [fallN, hr]; show (fallN K v.R j).set j (fallAt K v.R j r) = _
    unfold fallAt; rw [if_neg h0]
  rw [hstep]
  exact hs.trans (hs.at'.line hrj h1 h2 (fun k hk => .inl (.inl (ow_nil hk))) (fall_ok _ _))
set_option maxRecDepth 20000 in
set_option maxHeartbeats 4000000 in
theorem mcrash_any (st : St) (q : Nat) (v : MV) (h : MemAt st q v) (x : V) (K : List Int) (hx : ∀ st' v', MStep q v v' st st' → v'.kz = v.kz → v'.K = v.K → RdRow st' x 1 K.length (ivs K)) (hR : v.R.length ≤ 1000000) (nt : Nat) :
    Gd (callL Try.prog ⟨false, [], 0, nt⟩ 90 [.p q 0, x] st) fun r => r.1 = .t [] ∧ MStep q v (if v.off = true then v else v.fell K) st r.2 := by
  obtain ⟨t, h1, h2, h3, h4, h5, h6, h7, h8⟩ := h.blk
  rw [Gd_callL Try.func90 rfl]
  cases ho : v.off with
  | true =>
    rw [ho] at h3
    simp [sets, T.get_set, loadE_eq, getC_eq, h1, h3]
    exact MStep.refl h
  | false =>
    rw [ho] at h3
    simp [evOp_call, sets, T.get_set, loadE_eq, getC_eq, h1, h2, h3, h.row.lenS]
    refine Gd_loop (crI st q v x v.z K) (fun e _ => muAt 17 v.R.length e) ?_ ?_
    · exact ⟨0, Nat.zero_le _, by simp [T.get_set], by simp [T.get_set], by simp [T.get_set, cntO], by simp [T.get_set], by simp [T.get_set], by simp [T.get_set], MStep.refl h⟩
    · rintro e s ⟨j, hj, g0, g1, g4, g15, g16, g17, hs⟩
      by_cases hlt : j < v.R.length
      · have hlt' : (j : Int) < v.R.length := by omega
        have hwj := wrap_nat (n := j) (by omega)
        have hxr := hx s _ hs rfl rfl
        have hrow : RdRow s v.z 1 v.R.length (ptrs (fallN K v.R j)) := by have := hs.at'.row; rw [fallN_length] at this; exact this
        obtain ⟨r, hr⟩ : ∃ r, v.R[j]? = some r := ⟨_, List.getElem?_eq_getElem hlt⟩
        have hrj : (fallN K v.R j)[j]? = some r := by rw [fallN_get, hr]; simp
        obtain ⟨m1, o1, ty1, sz1, t1, i1, b1, k1, l1, d1⟩ := hrow.idx (st := s) un222 io225 hlt
        have hp : t1.get o1 = some (.p r.n 0) := d1 0 _ (by omega) (by
          rw [Nat.mul_one, Nat.add_zero]; unfold ptrs
          rw [List.getElem?_map, hrj]; rfl)
        obtain ⟨hln, hok⟩ := hs.at'.lines j r hrj
        have hcs := cntO_succ hr
        have hcl := cntO_le v.R j
        have hstep : fallN K v.R (j + 1) = (fallN K v.R j).set j (fallAt K v.R j r) := by rw [fallN, hr]
        simp [evOp_call, T.get_set, g0, g1, g4, g15, g16, g17, hlt', i1, loadE_eq, getC_eq, k1, hp]
        refine Gd.mono (open_any s r.n r.y r.m hln _) ?_
        rintro _ rfl
        by_cases h0 : r.m.O.length = 0
        · have h0' : (r.m.O.length : Int) = 0 := by omega
          rw [if_pos h0, Nat.add_zero] at hcs
          simp [evOp_call, T.get_set, g0, g1, g4, g15, g16, g17, h0', hwj]
          refine ⟨⟨j + 1, hlt, by simp [T.get_set, g0], by simp [T.get_set, g1], by simp [T.get_set, g4, hcs], by simp [T.get_set, g15], by simp [T.get_set, g16], by simp [T.get_set], ?_⟩, muAt_lt g17 (by simp [T.get_set]) hlt⟩
          have hself : (fallN K v.R j).set j (fallAt K v.R j r) = fallN K v.R j := by
            unfold fallAt; rw [if_pos h0]
            exact List.ext_getElem? fun i => by
              by_cases hij : j = i
              · subst hij; rw [List.getElem?_set_self (by rw [fallN_length]; exact hlt), hrj]
              · rw [List.getElem?_set_ne hij]
          rw [hstep, hself]
          exact hs
        · have h0' : ¬ (r.m.O.length : Int) = 0 := by omega
          rw [if_neg h0] at hcs
          have w1 : IntKind.i64.wrap ((cntO v.R j : Int) + 1) = ((cntO v.R j + 1 : Nat) : Int) := by rw [show ((cntO v.R j : Int) + 1) = ((cntO v.R j + 1 : Nat) : Int) by omega]; exact wrap_in (by omega) (by omega)
          obtain ⟨c, hc⟩ : ∃ c, c = cntO v.R j := ⟨_, rfl⟩
          rw [← hc] at g4 w1 hcs
          obtain ⟨c1, hc1⟩ : ∃ c1, c1 = c + 1 := ⟨_, rfl⟩
          rw [← hc1] at w1 hcs
          have h0' : ¬ (r.m.O.length : Int) = 0 := by omega
          have hO : ¬ r.m.O = [] := fun e => h0 (by rw [e]; rfl)
          by_cases hck : c < K.length
          · have hck' : (c : Int) < K.length := by omega
            obtain ⟨m2, o2, ty2, sz2, t2, i2, b2, k2, l2, d2⟩ := hxr.idx (st := s) un76 io3 hck
            obtain ⟨kp, hkp⟩ : ∃ kp, K[c]? = some kp := ⟨_, List.getElem?_eq_getElem hck⟩
            have e2 : t2.get o2 = some (.int .i64 kp) := d2 0 _ (by omega) (by rw [Nat.mul_one, Nat.add_zero]; unfold ivs; rw [List.getElem?_map, hkp]; rfl)
            simp [evOp_call, T.get_set, g0, g1, g4, g15, g16, g17, h0', hO, hxr.lenS, hck', i2, loadE_eq, getC_eq, k2, e2]
            refine Gd.mono (fall_any s r.n r.y r.m hln kp _) ?_
            rintro ⟨u, s2⟩ ⟨hu, f1, f2⟩
            simp only at hu f1 f2
            subst hu
            simp [evOp_call, T.get_set, g0, g1, g4, g15, g16, g17, w1, hwj]
            exact ⟨⟨j + 1, hlt, by simp [T.get_set, g0], by simp [T.get_set, g1], by simp [T.get_set, hcs], by simp [T.get_set, g15], by simp [T.get_set, g16], by simp [T.get_set], fall_step hs hr h0 (by rw [← hc, hkp]; exact f1) f2⟩, muAt_lt g17 (by simp [T.get_set]) hlt⟩
          · have hck' : ¬ (c : Int) < K.length := by omega
            have hkn : K[c]? = none := List.getElem?_eq_none (by omega)
            simp [evOp_call, T.get_set, g0, g1, g4, g15, g16, g17, h0', hO, hxr.lenS, hck']
            refine Gd.mono (fall_any s r.n r.y r.m hln 0 _) ?_
            rintro ⟨u, s2⟩ ⟨hu, f1, f2⟩
            simp only at hu f1 f2
            subst hu
            simp [evOp_call, T.get_set, g0, g1, g4, g15, g16, g17, w1, hwj]
            exact ⟨⟨j + 1, hlt, by simp [T.get_set, g0], by simp [T.get_set, g1], by simp [T.get_set, hcs], by simp [T.get_set, g15], by simp [T.get_set, g16], by simp [T.get_set], fall_step hs hr h0 (by rw [← hc, hkn]; exact f1) f2⟩, muAt_lt g17 (by simp [T.get_set]) hlt⟩
      · obtain rfl : j = v.R.length := by omega
        obtain ⟨t', p1, p2, p3, p4, p5, p6, p7, p8⟩ := hs.at'.blk
        simp [evOp_call, sets, T.get_set, g0, g1, g4, g15, g16, g17, loadE_eq, getC_eq, p1, putB_eq, roT]
        have hsB := hs.at'.setB (v' := v.fell K) (((t'.set 1 (.bool true)).set 2 (.int .i64 0)).set 3 (.c (.slice none 0 0))) (by simp [memIs, MV.fell, nilW, T.get_set, p2, p6, p7, p8]) rfl rfl ⟨rfl, .inl ⟨.inl rfl, rfl⟩⟩ (fun k hk => absurd hk nm_nil)
        exact hs.trans ⟨hsB.1, hsB.2, fun k hk => by
          rcases hk with rfl | hk | hk | hk
          · exact .inl (.inl rfl)
          · exact .inl (.inr (.inl hk))
          · exact absurd hk nm_nil
          · exact .inl (.inr (.inr (.inr hk)))⟩
end Go.Proofs.Ytdoennkmcloalaa
set_option linter.unusedSimpArgs false
namespace Go.Proofs.Ytdoennkmcloalaa
open Go.RowKit Ev
/-- a memory, but for where it lies -/
structure AS where
  L : List LM
  off : Bool
  fuse : Int
  K : List Int
  a : Int
  b : Int
  c : Int
def absV (v : MV) : AS := ⟨v.R.map (·.m), v.off, v.fuse, v.K, v.a, v.b, v.c⟩
def cntM (L : List LM) (i : Nat) : Nat := ((L.take i).filter fun m => decide (m.O.length ≠ 0)).length
def fallM (K : List Int) (L : List LM) : List LM := L.mapIdx fun i m => if m.O.length = 0 then m else m.fall (K[cntM L i]?.getD 0)
theorem cntM_R (R : List LR) (i : Nat) : cntM (R.map (·.m)) i = cntO R i := by
  unfold cntM cntO
  rw [← List.map_take, List.filter_map, List.length_map]
  rfl
theorem fallN_m (K : List Int) (R : List LR) : (fallN K R R.length).map (·.m) = fallM K (R.map (·.m)) := by
  apply List.ext_getElem?
  intro i
  unfold fallM
  rw [List.getElem?_map, fallN_get, List.getElem?_mapIdx, List.getElem?_map]
  cases h : R[i]? with
  | none => rfl
  | some r =>
    have := lt_of_get h
    simp only [Option.map_some]
    rw [if_pos this, cntM_R]
    unfold fallAt
    split <;> rfl
def AS.fell (s : AS) (K : List Int) : AS := { s with L := fallM K s.L, off := true, fuse := 0, K := [] }
theorem abs_fell (v : MV) (K : List Int) : absV (v.fell K) = (absV v).fell K := by
  unfold absV MV.fell AS.fell
  simp only [fallN_m]
def MV.lit (v : MV) : MV := if v.fuse < 1 then v else if 1 < v.fuse then { v with fuse := v.fuse - 1 } else ({ v with fuse := 0 } : MV).fell v.K
def AS.lit (s : AS) : AS := if s.fuse < 1 then s else if 1 < s.fuse then { s with fuse := s.fuse - 1 } else s.fell s.K
theorem abs_lit (v : MV) : absV v.lit = (absV v).lit := by
  show absV v.lit = if v.fuse < 1 then absV v else if 1 < v.fuse then { absV v with fuse := v.fuse - 1 } else (absV v).fell v.K
  unfold MV.lit
  by_cases h1 : v.fuse < 1
  · rw [if_pos h1, if_pos h1]
  · rw [if_neg h1, if_neg h1]
    by_cases h2 : 1 < v.fuse
    · rw [if_pos h2, if_pos h2]; rfl
    · rw [if_neg h2, if_neg h2, abs_fell]; rfl
theorem MemAt.setF {st : St} {q : Nat} {v : MV} (h : MemAt st q v) (t' : T V) (f a b c : Int) (ht : memIs t' { v with fuse := f, a := a, b := b, c := c }) :
    MStep q v { v with fuse := f, a := a, b := b, c := c } st ⟨st.nx, st.h.set q (.cs 224 7 t')⟩ := by
  obtain ⟨a1, a2⟩ := h.setB (v' := { v with fuse := f, a := a, b := b, c := c }) t' ht rfl rfl h.keep (fun k hk => ⟨fun e => h.q2 (by rw [← e]; exact hk), .inl hk⟩)
  exact ⟨a1, a2, fun k hk => .inl hk⟩
theorem mcrash_on (st : St) (q : Nat) (v : MV) (h : MemAt st q v) (ho : v.off = false) (x : V) (K : List Int) (hx : ∀ st' v', MStep q v v' st st' → v'.kz = v.kz → v'.K = v.K → RdRow st' x 1 K.length (ivs K)) (hR : v.R.length ≤ 1000000) (nt : Nat) :
    Gd (callL Try.prog ⟨false, [], 0, nt⟩ 90 [.p q 0, x] st) fun r => r.1 = .t [] ∧ MStep q v (v.fell K) st r.2 := by
  refine Gd.mono (mcrash_any st q v h x K hx hR nt) ?_
  rintro r ⟨h1, h2⟩
  rw [if_neg (by rw [ho]; simp)] at h2
  exact ⟨h1, h2⟩
theorem mburn_any (st : St) (q : Nat) (v : MV) (h : MemAt st q v) (ho : v.off = false) (hf : v.fuse ≤ 9223372036854775807) (hR : v.R.length ≤ 1000000) (nt : Nat) :
    Gd (callL Try.prog ⟨false, [], 0, nt⟩ 236 [.p q 0] st) fun r => r.1 = .bool (decide (v.fuse = 1)) ∧ MStep q v v.lit st r.2 := by
  obtain ⟨t, h1, h2, h3, h4, h5, h6, h7, h8⟩ := h.blk
  rw [Gd_callL Try.func236 rfl]
  unfold MV.lit
  by_cases c1 : v.fuse < 1
  · have c2 : ¬ v.fuse = 1 := by omega
    simp [evOp_call, sets, T.get_set, loadE_eq, getC_eq, h1, h4, c1, c2]
    exact MStep.refl h
  · have w1 : IntKind.i64.wrap (v.fuse - 1) = v.fuse - 1 := wrap_in (by omega) (by omega)
    by_cases c2 : 1 < v.fuse
    · have c3 : ¬ v.fuse = 1 := by omega
      have c4 : 0 < v.fuse - 1 := by omega
      simp [evOp_call, sets, T.get_set, loadE_eq, getC_eq, h1, h4, c1, c2, c3, w1, c4, putB_eq, roT]
      exact h.setF _ (v.fuse - 1) v.a v.b v.c (by simp [memIs, T.get_set, *])
    · have c3 : v.fuse = 1 := by omega
      have hs := h.setF (t.set 2 (.int .i64 0)) 0 v.a v.b v.c (by simp [memIs, T.get_set, *])
      obtain ⟨t', p1, p2, p3, p4, p5, p6, p7, p8⟩ := hs.at'.blk
      have w0 : IntKind.i64.wrap 0 = 0 := by decide
      simp [evOp_call, sets, T.get_set, loadE_eq, getC_eq, h1, h4, h5, c3, w0, putB_eq, roT]
      refine Gd.mono (mcrash_on _ q _ hs.at' ho v.kz v.K (fun st' v' hs' e1 e2 => ?_) hR _) ?_
      · have := hs'.at'.keep
        rw [e1, e2] at this
        exact this
      · rintro ⟨r, s1⟩ ⟨hr, x1⟩
        simp only at hr x1
        subst hr
        simp [T.get_set]
        exact hs.trans x1
def LM0 : LM := ⟨[], [], [], 0⟩
def AS.in8 (s : AS) (a : Int) : Prop := 0 ≤ a ∧ a / 8 < s.L.length
instance (s : AS) (a : Int) : Decidable (s.in8 a) := by unfold AS.in8; infer_instance
/-- a store: what it comes to, what it answers -/
def AS.store (s : AS) (a : Int) (w : BitVec 64) : AS := if s.off = true then s else if s.in8 a then (if s.fuse = 1 then s.lit else { s.lit with L := s.L.set (a / 8).toNat ((s.L[(a / 8).toNat]?.getD LM0).store (a % 8) w), a := IntKind.i64.wrap (s.a + 1) }) else s
def AS.storeE (s : AS) (a : Int) : Int := if s.off = true then 14 else if s.in8 a then (if s.fuse = 1 then 14 else 0) else 1
theorem abs_in8 (v : MV) (a : Int) : word8 v.R a ↔ (absV v).in8 a := by unfold word8 AS.in8 absV; simp
theorem MemAt.alone {st st' : St} {q : Nat} {v : MV} (h : MemAt st q v) (hle : st.nx ≤ st'.nx) (k : ∀ n, MOw q v n → st'.h.get n = st.h.get n) : MemAt st' q v := h.other hle k
theorem lit_not1 {v : MV} (h : ¬ v.fuse = 1) : v.lit.R = v.R ∧ v.lit.off = v.off ∧ v.lit.a = v.a ∧ v.lit.b = v.b ∧ v.lit.c = v.c ∧ v.lit.z = v.z ∧ v.lit.kz = v.kz ∧ v.lit.K = v.K := by
  unfold MV.lit
  by_cases c1 : v.fuse < 1
  · rw [if_pos c1]; exact ⟨rfl, rfl, rfl, rfl, rfl, rfl, rfl, rfl⟩
  · rw [if_neg c1, if_pos (by omega)]; exact ⟨rfl, rfl, rfl, rfl, rfl, rfl, rfl, rfl⟩
set_option maxRecDepth 20000 in
set_option maxHeartbeats 4000000 in
theorem mstore_any (st : St) (q : Nat) (v : MV) (h : MemAt st q v) (a : Int) (w : BitVec 64) (ha : -9223372036854775808 ≤ a ∧ a ≤ 9223372036854775807) (hf : v.fuse ≤ 9223372036854775807) (hR : v.R.length ≤ 1000000) (hO : ∀ r ∈ v.R, r.m.O.length < 1000) (nt : Nat) :
    Gd (callL Try.prog ⟨false, [], 0, nt⟩ 235 [.p q 0, .int .i64 a, wd w] st) fun r => r.1 = .int .i64 ((absV v).storeE a) ∧ ∃ v', MStep q v v' st r.2 ∧ absV v' = (absV v).store a w := by
  rw [Gd_callL Try.func235 rfl]
  have hoff : (absV v).off = v.off := rfl
  have hfu : (absV v).fuse = v.fuse := rfl
  simp [evOp_call, sets, T.get_set]
  refine Gd.mono (mword_any st q v h a ha _) ?_
  rintro _ rfl
  unfold AS.store AS.storeE
  rw [hoff, hfu]
  by_cases ho : v.off = true
  · have hwv : wordV v a = .t [.c (.pointer none), .int .i64 0, .int .i64 14] := if_pos ho
    rw [hwv, if_pos ho, if_pos ho]
    simp [evOp_call, sets, T.get_set]
    exact ⟨v, MStep.refl h, rfl⟩
  · have ho' : v.off = false := by simpa using ho
    rw [if_neg ho, if_neg ho]
    by_cases hw : word8 v.R a
    · have hw2 := (abs_in8 v a).1 hw
      have hwv : wordV v a = .t [.p (lineOf v a).n 0, .int .i64 (a % 8), .int .i64 0] := by unfold wordV; rw [if_neg ho, if_pos hw]
      rw [hwv]
      simp [evOp_call, sets, T.get_set, hw2]
      refine Gd.mono (mburn_any st q v h ho' hf hR _) ?_
      rintro ⟨r, s1⟩ ⟨hr, x1⟩
      simp only at hr x1
      subst hr
      by_cases h1 : v.fuse = 1
      · simp [evOp_call, sets, T.get_set, h1]
        exact ⟨v.lit, x1, abs_lit v⟩
      · obtain ⟨e1, e2, e3, e4, e5, e6, e7, e8⟩ := lit_not1 h1
        have hlg : v.lit.R[(a / 8).toNat]? = some (lineOf v a) := by rw [e1]; exact lineOf_get hw
        obtain ⟨hln, hok⟩ := x1.at'.lines _ _ hlg
        simp [evOp_call, sets, T.get_set, h1]
        refine Gd.mono (store_any s1 _ _ _ hln (a % 8) w _ (hO _ (List.mem_of_getElem? (lineOf_get hw)))) ?_
        rintro ⟨r, s2⟩ ⟨hr, y', l1, l2, l3⟩
        simp only at hr l1 l2 l3
        subst hr
        have hok' : okL ((lineOf v a).m.store (a % 8) w) := by
          obtain ⟨f, hf1, hf2⟩ := hok
          unfold LM.store
          split
          · exact ⟨f, hf1, by show f ≤ (_ ++ [_]).length; rw [List.length_append]; omega⟩
          · exact ⟨f, hf1, hf2⟩
        have x2 := x1.trans (x1.at'.line hlg l1 l2 l3 hok')
        obtain ⟨t', p1, p2, p3, p4, p5, p6, p7, p8⟩ := x2.at'.blk
        have x3 := x2.at'.setF (t'.set 4 (.int .i64 (IntKind.i64.wrap (v.a + 1)))) v.lit.fuse (IntKind.i64.wrap (v.a + 1)) v.lit.b v.lit.c (by simp [memIs, T.get_set, *])
        simp only at p6
        rw [e3] at p6
        simp [evOp_call, sets, T.get_set, loadE_eq, getC_eq, p1, p6, putB_eq, roT]
        refine ⟨_, x2.trans x3, ?_⟩
        have hL : (absV v).L[(a / 8).toNat]? = some (lineOf v a).m := by
          show (v.R.map (·.m))[(a / 8).toNat]? = _
          rw [List.getElem?_map, lineOf_get hw]; rfl
        rw [← abs_lit, hL]
        show (⟨(v.lit.R.set (a / 8).toNat ⟨(lineOf v a).n, y', (lineOf v a).m.store (a % 8) w⟩).map (·.m), _, _, _, _, _, _⟩ : AS) = ⟨(v.R.map (·.m)).set (a / 8).toNat ((lineOf v a).m.store (a % 8) w), _, _, _, _, _, _⟩
        rw [List.map_set, e1]
        rfl
    · have hw2 : ¬ (absV v).in8 a := fun e => hw ((abs_in8 v a).2 e)
      have hwv : wordV v a = .t [.c (.pointer none), .int .i64 0, .int .i64 1] := by unfold wordV; rw [if_neg ho, if_neg hw]
      rw [hwv]
      simp [evOp_call, sets, T.get_set, hw2]
      exact ⟨v, MStep.refl h, rfl⟩
end Go.Proofs.Ytdoennkmcloalaa
set_option linter.unusedSimpArgs false
namespace Go.Proofs.Ytdoennkmcloalaa
open Go.RowKit Ev
/-- a row of words that was made with room -/
def CRow (b : Nat) (st : St) (x : V) (n c : Nat) (L : List (BitVec 64)) : Prop := L.length = n ∧ n ≤ c ∧ ∃ m ty t, x = .sl m 0 n c ∧ b ≤ m ∧ m < st.nx ∧ st.h.get m = some (.cs ty c t) ∧ ty ≠ roT ∧ ∀ j v, L[j]? = some v → t.get j = some (wd v)
theorem CRow.rd {b n c : Nat} {st : St} {x : V} {L : List (BitVec 64)} (h : CRow b st x n c L) : RdRow st x 1 n (wv L) := by
  obtain ⟨h1, hc, m, ty, t, rfl, h2, h3, h4, h5, h6⟩ := h
  refine ⟨by simp [h1], .inr (.inl ⟨m, 0, c, ty, c, t, rfl, h3, h4, by omega, fun j v hj => ?_⟩)⟩
  unfold wv at hj
  rw [List.getElem?_map] at hj
  cases hq : L[j]? with
  | none => rw [hq] at hj; cases hj
  | some w => rw [hq] at hj; injection hj with hj; subst hj; rw [Nat.zero_add]; exact h6 j w hq
theorem CRow.ext {b n c : Nat} {st st' : St} {x : V} {L : List (BitVec 64)} (h : CRow b st x n c L) (k : Ext st.nx st st') : CRow b st' x n c L := by
  obtain ⟨h1, hc, m, ty, t, rfl, h2, h3, h4, h5⟩ := h
  exact ⟨h1, hc, m, ty, t, rfl, h2, Nat.lt_of_lt_of_le h3 k.le, (k.keep _ h3).trans h4, h5⟩
theorem Gd_appendW {P : Program} {st : St} {b t t' el el' n c nt : Nat} {s x : V} {L : List (BitVec 64)} {w : BitVec 64} {Q : V × St → Prop} (hu : P.underlying t = some (.slice el)) (hk : P.underlying t' = some (.slice el')) (hi : infoOk P el 1 = true)
    (h : CRow b st s n c L) (hn : n < c) (hx : ∀ s', x ≠ .s s') (hl : ∀ k : Nat → Res, lenA x k = k 1) (hf : ∀ k : List V → Res, firsts ⟨false, [], 0, nt⟩ st 1 1 x k = k [wd w]) (hmax : n + 1 ≤ 1073741824)
    (hQ : ∀ s' st', CRow b st' s' (n + 1) c (L ++ [w]) → Ext b st st' → Q (s', st')) : Gd (builtinE P ⟨false, [], 0, nt⟩ .append [t, t'] [s, x] st) Q := by
  obtain ⟨h1, hc, m, ty, tr, rfl, h2, h3, h4, h5, h6⟩ := h
  have e1 : builtinE P ⟨false, [], 0, nt⟩ .append [t, t'] [.sl m 0 n c, x] st = appE ⟨false, [], 0, nt⟩ st el 1 n 1 (.sl m 0 n c) [wd w] := by
    unfold builtinE
    simp only [elemOf_ok hu hi, lenA_sl, hk]
    cases x with
    | s s' => exact absurd rfl (hx s')
    | _ => simp only [hl, hf, infoOk_small hi hmax]
  rw [e1]
  unfold appE
  rw [fn_eq]
  have hble : Nat.ble (n + 1) c = true := by rw [Nat.ble_eq]; omega
  simp only [hble, fn_eq]
  have hsz : 0 + n * 1 + [wd w].length ≤ c := by simp; omega
  rw [putB_eq]
  have hcok : (⟨false, [], 0, nt⟩ : Cx).ok m = true := rfl
  rw [hcok, h4]
  simp only [cond_true, Option.bind_some, csK_cs]
  rw [if_pos ⟨hsz, h5, Nat.zero_le _⟩]
  refine ⟨_, rfl, hQ _ _ ⟨by simp [h1], by omega, m, ty, _, rfl, h2, h3, T.get_set_same _ _ _, h5, fun j v hj => ?_⟩ ((Ext.refl b st).set h2 h3 _)⟩
  show (tr.set (0 + n * 1) (wd w)).get j = _
  rw [T.get_set]
  by_cases hj2 : 0 + n * 1 = j
  · rw [if_pos hj2]
    rw [List.getElem?_append_right (by omega), show j - L.length = 0 by omega] at hj
    injection hj with hj
    rw [← hj]
  · rw [if_neg hj2]
    have := lt_of_get hj
    simp at this
    rw [List.getElem?_append_left (by omega)] at hj
    exact h6 j v hj
def AS.load (s : AS) (a : Int) : BitVec 64 := if s.off = true then 0#64 else if s.in8 a then ((s.L[(a / 8).toNat]?.getD LM0).N[(a % 8).toNat]?.getD 0#64) else 0#64
def AS.loadE (s : AS) (a : Int) : Int := if s.off = true then 14 else if s.in8 a then 0 else 1
theorem mload_any (st : St) (q : Nat) (v : MV) (h : MemAt st q v) (a : Int) (ha : -9223372036854775808 ≤ a ∧ a ≤ 9223372036854775807) (nt : Nat) :
    Gd (callL Try.prog ⟨false, [], 0, nt⟩ 200 [.p q 0, .int .i64 a] st) fun r => r = (.t [wd ((absV v).load a), .int .i64 ((absV v).loadE a)], st) := by
  rw [Gd_callL Try.func200 rfl]
  simp [evOp_call, sets, T.get_set]
  refine Gd.mono (mword_any st q v h a ha _) ?_
  rintro _ rfl
  have hoff : (absV v).off = v.off := rfl
  unfold AS.load AS.loadE
  rw [hoff]
  by_cases ho : v.off = true
  · have hwv : wordV v a = .t [.c (.pointer none), .int .i64 0, .int .i64 14] := if_pos ho
    rw [hwv, if_pos ho, if_pos ho]
    simp [evOp_call, sets, T.get_set, wd_0]
  · rw [if_neg ho, if_neg ho]
    by_cases hw : word8 v.R a
    · have hw2 := (abs_in8 v a).1 hw
      have hwv : wordV v a = .t [.p (lineOf v a).n 0, .int .i64 (a % 8), .int .i64 0] := by unfold wordV; rw [if_neg ho, if_pos hw]
      have hL : (absV v).L[(a / 8).toNat]? = some (lineOf v a).m := by
        show (v.R.map (·.m))[(a / 8).toNat]? = _
        rw [List.getElem?_map, lineOf_get hw]; rfl
      rw [hwv, hL]
      simp [evOp_call, sets, T.get_set, hw2]
      refine Gd.mono (load_any st _ _ _ (h.lines _ _ (lineOf_get hw)).1 (a % 8) _) ?_
      rintro _ rfl
      rw [if_pos ⟨by omega, by omega⟩]
      simp [evOp_call, sets, T.get_set]
    · have hw2 : ¬ (absV v).in8 a := fun e => hw ((abs_in8 v a).2 e)
      have hwv : wordV v a = .t [.c (.pointer none), .int .i64 0, .int .i64 1] := by unfold wordV; rw [if_neg ho, if_neg hw]
      rw [hwv]
      simp [evOp_call, sets, T.get_set, hw2, wd_0]
def fenceM (m : LM) : LM := ⟨setAll m.S (m.O.take m.F.toNat), m.N, m.O.drop m.F.toNat, 0⟩
def AS.fence (s : AS) : AS := if s.off = true then s else if s.fuse = 1 then s.lit else { s.lit with L := s.L.map fenceM, c := IntKind.i64.wrap (s.c + 1) }
def AS.fenceE (s : AS) : Int := if s.off = true then 14 else if s.fuse = 1 then 14 else 0
/-- every line by itself, from the first on -/
def eachN (f : LM → LM) (L : List LM) : Nat → List LM
  | 0 => L
  | j + 1 => match L[j]? with
    | some m => (eachN f L j).set j (f m)
    | none => eachN f L j
theorem eachN_length (f : LM → LM) (L : List LM) : ∀ j, (eachN f L j).length = L.length
  | 0 => rfl
  | j + 1 => by unfold eachN; split <;> simp [eachN_length f L j]
theorem eachN_get (f : LM → LM) (L : List LM) : ∀ (j i : Nat), (eachN f L j)[i]? = (L[i]?).map fun m => if i < j then f m else m
  | 0, i => by
    show L[i]? = _
    cases L[i]? <;> simp
  | j + 1, i => by
    have ih := eachN_get f L j i
    have hl := eachN_length f L j
    have e : eachN f L (j + 1) = match L[j]? with | some m => (eachN f L j).set j (f m) | none => eachN f L j := rfl
    rw [e]
    cases hj : L[j]? with
    | none =>
      simp only
      rw [ih]
      cases hi : L[i]? with
      | none => rfl
      | some r =>
        have h1 := lt_of_get hi
        have h2 : L.length ≤ j := List.getElem?_eq_none_iff.1 hj
        simp only [Option.map_some]
        rw [if_pos (by omega), if_pos (by omega)]
    | some r =>
      simp only
      have h1 := lt_of_get hj
      by_cases hij : j = i
      · subst hij
        rw [List.getElem?_set_self (by omega), hj]
        simp
      · rw [List.getElem?_set_ne hij, ih]
        cases hi : L[i]? with
        | none => rfl
        | some s =>
          simp only [Option.map_some]
          by_cases c : i < j
          · rw [if_pos c, if_pos (by omega)]
          · rw [if_neg c, if_neg (by omega)]
theorem eachN_all (f : LM → LM) (L : List LM) : eachN f L L.length = L.map f := by
  apply List.ext_getElem?
  intro i
  rw [eachN_get, List.getElem?_map]
  cases h : L[i]? with
  | none => rfl
  | some m => simp only [Option.map_some]; rw [if_pos (lt_of_get h)]
/-- the same, but for its lines -/
def Same (u v : MV) : Prop := v.z = u.z ∧ v.off = u.off ∧ v.fuse = u.fuse ∧ v.K = u.K ∧ v.a = u.a ∧ v.b = u.b ∧ v.c = u.c ∧ v.R.length = u.R.length
theorem Same.refl (u : MV) : Same u u := ⟨rfl, rfl, rfl, rfl, rfl, rfl, rfl, rfl⟩
theorem Same.set {u v : MV} (h : Same u v) (i : Nat) (r : LR) : Same u { v with R := v.R.set i r } := by
  obtain ⟨h1, h2, h3, h4, h5, h6, h7, h8⟩ := h
  exact ⟨h1, h2, h3, h4, h5, h6, h7, by simp [h8]⟩
theorem Same.abs {u v : MV} (h : Same u v) {X : List LM} (hX : v.R.map (·.m) = X) : absV v = { absV u with L := X } := by
  obtain ⟨h1, h2, h3, h4, h5, h6, h7, h8⟩ := h
  unfold absV
  rw [hX, h2, h3, h4, h5, h6, h7]
def feI (st : St) (q : Nat) (v : MV) (e : Env) (s : St) : Prop := ∃ (j : Nat) (v' : MV), j ≤ v.R.length ∧ e.get 0 = some (.p q 0) ∧ e.get 16 = some v.z ∧ e.get 17 = some (.int .i64 (v.R.length : Int)) ∧ e.get 18 = some (.int .i64 (j : Int)) ∧
  MStep q v v' st s ∧ Same v v' ∧ (∀ i, j ≤ i → v'.R[i]? = v.R[i]?) ∧ v'.R.map (·.m) = eachN fenceM (v.R.map (·.m)) j
set_option maxRecDepth 20000 in
set_option maxHeartbeats 4000000 in
theorem mfence_any (st : St) (q : Nat) (v : MV) (h : MemAt st q v) (hf : v.fuse ≤ 9223372036854775807) (hR : v.R.length ≤ 1000000) (nt : Nat) :
    Gd (callL Try.prog ⟨false, [], 0, nt⟩ 204 [.p q 0] st) fun r => r.1 = .int .i64 (absV v).fenceE ∧ ∃ v', MStep q v v' st r.2 ∧ absV v' = (absV v).fence := by
  obtain ⟨t, h1, h2, h3, h4, h5, h6, h7, h8⟩ := h.blk
  rw [Gd_callL Try.func204 rfl]
  have hoff : (absV v).off = v.off := rfl
  have hfu : (absV v).fuse = v.fuse := rfl
  unfold AS.fence AS.fenceE
  rw [hoff, hfu]
  by_cases ho : v.off = true
  · rw [if_pos ho, if_pos ho]
    simp [evOp_call, sets, T.get_set, loadE_eq, getC_eq, h1, h3, ho]
    exact ⟨v, MStep.refl h, rfl⟩
  · have ho' : v.off = false := by simpa using ho
    rw [if_neg ho, if_neg ho]
    simp [evOp_call, sets, T.get_set, loadE_eq, getC_eq, h1, h3, ho']
    refine Gd.mono (mburn_any st q v h ho' hf hR _) ?_
    rintro ⟨r, s1⟩ ⟨hr, x1⟩
    simp only at hr x1
    subst hr
    by_cases hf1 : v.fuse = 1
    · simp [evOp_call, sets, T.get_set, hf1]
      exact ⟨v.lit, x1, abs_lit v⟩
    · obtain ⟨e1, e2, e3, e4, e5, e6, e7, e8⟩ := lit_not1 hf1
      have hm1 := x1.at'
      generalize hu : v.lit = u at x1 hm1 e1 e2 e3 e4 e5 e6 e7 e8
      obtain ⟨t', p1, p2, p3, p4, p5, p6, p7, p8⟩ := hm1.blk
      have hRu : u.R.length ≤ 1000000 := by rw [e1]; exact hR
      simp [evOp_call, sets, T.get_set, hf1, loadE_eq, getC_eq, p1, p2, hm1.row.lenS]
      refine Gd_loop (feI s1 q u) (fun e _ => muAt 18 u.R.length e) ?_ ?_
      · exact ⟨0, u, Nat.zero_le _, by simp [T.get_set], by simp [T.get_set], by simp [T.get_set], by simp [T.get_set], MStep.refl hm1, Same.refl _, fun _ _ => rfl, rfl⟩
      · rintro e s ⟨j, v', hj, g0, g16, g17, g18, hs, hsm, er, ea⟩
        by_cases hlt : j < u.R.length
        · have hlt' : (j : Int) < u.R.length := by omega
          have hwj := wrap_nat (n := j) (by omega)
          obtain ⟨r, hr⟩ : ∃ r, u.R[j]? = some r := ⟨_, List.getElem?_eq_getElem hlt⟩
          have hrj : v'.R[j]? = some r := by rw [er j (Nat.le_refl _)]; exact hr
          have hrow := hs.at'.row
          rw [hsm.1, hsm.2.2.2.2.2.2.2] at hrow
          obtain ⟨m1, o1, ty1, sz1, t1, i1, b1, k1, l1, d1⟩ := hrow.idx (st := s) un222 io225 hlt
          have hp : t1.get o1 = some (.p r.n 0) := d1 0 _ (by omega) (by
            rw [Nat.mul_one, Nat.add_zero]; unfold ptrs
            rw [List.getElem?_map, hrj]; rfl)
          obtain ⟨hln, f, hf1, hf2⟩ := hs.at'.lines j r hrj
          simp [evOp_call, T.get_set, g0, g16, g17, g18, hlt', i1, loadE_eq, getC_eq, k1, hp]
          refine Gd.mono (fence_any s r.n r.y r.m hln f hf1 hf2 _) ?_
          rintro ⟨x, s2⟩ ⟨hx, y', l1, l2, l3⟩
          simp only at hx l1 l2 l3
          subst hx
          have hfm : fenceM r.m = ⟨setAll r.m.S (r.m.O.take f), r.m.N, r.m.O.drop f, 0⟩ := by unfold fenceM; rw [hf1]; rfl
          simp [evOp_call, T.get_set, g0, g16, g17, g18, hwj]
          refine ⟨⟨j + 1, _, hlt, by simp [T.get_set, g0], by simp [T.get_set, g16], by simp [T.get_set, g17], by simp [T.get_set], hs.trans (hs.at'.line hrj l1 l2 l3 ⟨0, rfl, Nat.zero_le _⟩), hsm.set _ _, fun i hi => ?_, ?_⟩, muAt_lt g18 (by simp [T.get_set]) hlt⟩
          · show (v'.R.set j _)[i]? = _
            rw [List.getElem?_set_ne (by omega)]
            exact er i (by omega)
          · show (v'.R.set j _).map (·.m) = _
            have hmj : (u.R.map (·.m))[j]? = some r.m := by rw [List.getElem?_map, hr]; rfl
            rw [List.map_set, ea, eachN, hmj]
            simp only [hfm]
        · obtain rfl : j = u.R.length := by omega
          obtain ⟨t2, w1, w2, w3, w4, w5, w6, w7, w8⟩ := hs.at'.blk
          have hx3 := hs.at'.setF (t2.set 6 (.int .i64 (IntKind.i64.wrap (v'.c + 1)))) v'.fuse v'.a v'.b (IntKind.i64.wrap (v'.c + 1)) (by simp [memIs, T.get_set, w2, w3, w4, w5, w6, w7])
          simp [evOp_call, sets, T.get_set, g0, g16, g17, g18, loadE_eq, getC_eq, w1, w8, putB_eq, roT]
          refine ⟨_, (x1.trans hs).trans hx3, ?_⟩
          have hlen : u.R.length = (u.R.map (·.m)).length := by simp
          rw [hlen, eachN_all] at ea
          have hcc : v'.c = (absV v).c := by rw [hsm.2.2.2.2.2.2.1, e5]; rfl
          have hab := hsm.abs ea
          rw [← abs_lit, hu, ← hcc]
          have hLL : (absV v).L = (absV u).L := by unfold absV; rw [e1]
          rw [hLL]
          have : absV ({ v' with fuse := v'.fuse, a := v'.a, b := v'.b, c := IntKind.i64.wrap (v'.c + 1) } : MV) = { absV v' with c := IntKind.i64.wrap (v'.c + 1) } := rfl
          rw [this, hab]
          rfl
end Go.Proofs.Ytdoennkmcloalaa
set_option linter.unusedSimpArgs false
namespace Go.Proofs.Ytdoennkmcloalaa
open Go.RowKit Ev
theorem MStep.row {q z n : Nat} {v v' : MV} {s s' : St} {x : V} {l : List V} (h : MStep q v v' s s') (hx : RdRow s x z n l) (hn : ∀ k, Nm x k → ¬ MOw q v k) : RdRow s' x z n l :=
  hx.other h.kept.le fun k hk => h.kept.keep k (hx.nm_lt hk) (hn k hk)
def flushM (m : LM) : LM := { m with F := m.O.length }
def flushL (L : List LM) (ls : List Int) : List LM := ls.foldl (fun L i => L.set i.toNat (flushM (L[i.toNat]?.getD LM0))) L
theorem flushL_length (ls : List Int) : ∀ L, (flushL L ls).length = L.length := by
  induction ls with
  | nil => intro L; rfl
  | cons i ls ih => intro L; show (flushL (L.set _ _) ls).length = _; rw [ih, List.length_set]
theorem flushL_take {L : List LM} {ls : List Int} {k : Nat} {i : Int} (h : ls[k]? = some i) : flushL L (ls.take (k + 1)) = (flushL L (ls.take k)).set i.toNat (flushM ((flushL L (ls.take k))[i.toNat]?.getD LM0)) := by
  unfold flushL; rw [List.take_add_one, h]; simp
def AS.may (s : AS) (ls : List Int) : Prop := ∀ i ∈ ls, 0 ≤ i ∧ i < s.L.length
instance (s : AS) (ls : List Int) : Decidable (s.may ls) := by unfold AS.may; infer_instance
def AS.flush (s : AS) (ls : List Int) : AS := if s.off = true then s else if s.may ls then (if s.fuse = 1 then s.lit else { s.lit with L := flushL s.L ls, b := IntKind.i64.wrap (s.b + 1) }) else s
def AS.flushE (s : AS) (ls : List Int) : Int := if s.off = true then 14 else if s.may ls then (if s.fuse = 1 then 14 else 0) else 1
def flI (st : St) (q : Nat) (x : V) (n : Nat) (ls : List Int) (e : Env) (s : St) : Prop := ∃ k : Nat, k ≤ ls.length ∧ e.get 0 = some (.p q 0) ∧ e.get 1 = some x ∧ e.get 13 = some x ∧ e.get 14 = some (.int .i64 (ls.length : Int)) ∧ e.get 15 = some (.int .i64 (k : Int)) ∧ (∀ i ∈ ls.take k, 0 ≤ i ∧ i < (n : Int)) ∧ s = st
def flJ (st : St) (q : Nat) (v : MV) (x : V) (ls : List Int) (e : Env) (s : St) : Prop := ∃ (k : Nat) (v' : MV), k ≤ ls.length ∧ e.get 0 = some (.p q 0) ∧ e.get 1 = some x ∧ e.get 33 = some x ∧ e.get 34 = some (.int .i64 (ls.length : Int)) ∧ e.get 35 = some (.int .i64 (k : Int)) ∧
  MStep q v v' st s ∧ Same v v' ∧ v'.R.map (·.m) = flushL (v.R.map (·.m)) (ls.take k)
theorem ivs_get {K : List Int} {i : Nat} {k : Int} (h : K[i]? = some k) : (ivs K)[i * 1 + 0]? = some (.int .i64 k) := by
  rw [Nat.mul_one, Nat.add_zero]; unfold ivs; rw [List.getElem?_map, h]; rfl
theorem ptrs_get {R : List LR} {i : Nat} {r : LR} (h : R[i]? = some r) : (ptrs R)[i * 1 + 0]? = some (.p r.n 0) := by
  rw [Nat.mul_one, Nat.add_zero]; unfold ptrs; rw [List.getElem?_map, h]; rfl
theorem mem_take1 {α : Type} {K : List α} {k : Nat} {r : α} (h : K[k]? = some r) {P : α → Prop} (h1 : ∀ q ∈ K.take k, P q) (h2 : P r) : ∀ q ∈ K.take (k + 1), P q := by
  intro q hq
  rw [List.take_add_one, h] at hq
  rcases List.mem_append.1 hq with hq | hq
  · exact h1 q hq
  · simp at hq; subst hq; exact h2
set_option maxRecDepth 20000 in
set_option maxHeartbeats 4000000 in
theorem mflush_any (st : St) (q : Nat) (v : MV) (h : MemAt st q v) (x : V) (ls : List Int) (hx : RdRow st x 1 ls.length (ivs ls)) (hxn : ∀ k, Nm x k → ¬ MOw q v k) (hls : ls.length ≤ 1000000) (hf : v.fuse ≤ 9223372036854775807) (hR : v.R.length ≤ 1000000) (nt : Nat) :
    Gd (callL Try.prog ⟨false, [], 0, nt⟩ 203 [.p q 0, x] st) fun r => r.1 = .int .i64 ((absV v).flushE ls) ∧ ∃ v', MStep q v v' st r.2 ∧ absV v' = (absV v).flush ls := by
  obtain ⟨t, h1, h2, h3, h4, h5, h6, h7, h8⟩ := h.blk
  rw [Gd_callL Try.func203 rfl]
  have hoff : (absV v).off = v.off := rfl
  have hfu : (absV v).fuse = v.fuse := rfl
  have hlenL : (absV v).L.length = v.R.length := by simp [absV]
  unfold AS.flush AS.flushE
  rw [hoff, hfu]
  by_cases ho : v.off = true
  · rw [if_pos ho, if_pos ho]
    simp [evOp_call, sets, T.get_set, loadE_eq, getC_eq, h1, h3, ho]
    exact ⟨v, MStep.refl h, rfl⟩
  · have ho' : v.off = false := by simpa using ho
    rw [if_neg ho, if_neg ho]
    simp [evOp_call, sets, T.get_set, loadE_eq, getC_eq, h1, h3, ho', hx.lenS]
    refine Gd_loop (flI st q x v.R.length ls) (fun e _ => muAt 15 ls.length e) ?_ ?_
    · exact ⟨0, Nat.zero_le _, by simp [T.get_set], by simp [T.get_set], by simp [T.get_set], by simp [T.get_set], by simp [T.get_set], fun i hi => by simp at hi, rfl⟩
    · rintro e s ⟨k, hk, g0, g1, g13, g14, g15, hok, rfl⟩
      by_cases hlt : k < ls.length
      · have hlt' : (k : Int) < ls.length := by omega
        have hwk := wrap_nat (n := k) (by omega)
        obtain ⟨m1, o1, ty1, sz1, t1, i1, b1, k1, l1, d1⟩ := hx.idx (st := s) un76 io3 hlt
        obtain ⟨i, hi⟩ : ∃ i, ls[k]? = some i := ⟨_, List.getElem?_eq_getElem hlt⟩
        have hp : t1.get o1 = some (.int .i64 i) := d1 0 _ (by omega) (ivs_get hi)
        by_cases c1 : i < 0
        · have hno : ¬ (absV v).may ls := fun e => by have := (e i (List.mem_of_getElem? hi)).1; omega
          simp [evOp_call, T.get_set, g0, g1, g13, g14, g15, hlt', i1, loadE_eq, getC_eq, k1, hp, c1, hno]
          exact ⟨v, MStep.refl h, rfl⟩
        · by_cases c2 : (v.R.length : Int) ≤ i
          · have hno : ¬ (absV v).may ls := fun e => by have := (e i (List.mem_of_getElem? hi)).2; rw [hlenL] at this; omega
            simp [evOp_call, T.get_set, g0, g1, g13, g14, g15, hlt', i1, loadE_eq, getC_eq, k1, hp, c1, h1, h2, h.row.lenS, c2, hno]
            exact ⟨v, MStep.refl h, rfl⟩
          · simp [evOp_call, T.get_set, g0, g1, g13, g14, g15, hlt', i1, loadE_eq, getC_eq, k1, hp, c1, h1, h2, h.row.lenS, c2, hwk]
            exact ⟨⟨k + 1, hlt, by simp [T.get_set, g0], by simp [T.get_set, g1], by simp [T.get_set, g13], by simp [T.get_set, g14], by simp [T.get_set], mem_take1 hi hok ⟨by omega, by omega⟩, rfl⟩, muAt_lt g15 (by simp [T.get_set]) hlt⟩
      · obtain rfl : k = ls.length := by omega
        rw [List.take_length] at hok
        have hyes : (absV v).may ls := fun i hi => by rw [hlenL]; exact hok i hi
        simp [evOp_call, T.get_set, g0, g1, g13, g14, g15, hyes]
        refine Gd.mono (mburn_any s q v h ho' hf hR _) ?_
        rintro ⟨r, s1⟩ ⟨hr, x1⟩
        simp only at hr x1
        subst hr
        by_cases hf1 : v.fuse = 1
        · simp [evOp_call, sets, T.get_set, hf1]
          exact ⟨v.lit, x1, abs_lit v⟩
        · obtain ⟨e1, e2, e3, e4, e5, e6, e7, e8⟩ := lit_not1 hf1
          have hm1 := x1.at'
          have hx1 := x1.row hx hxn
          have hxn1 : ∀ k, Nm x k → ¬ MOw q v.lit k := fun k hk e => by
            rcases x1.own k e with e | e
            · exact hxn k hk e
            · have := hx.nm_lt hk; omega
          generalize hu : v.lit = u at x1 hm1 e1 e2 e3 e4 e5 e6 e7 e8 hxn1
          simp [evOp_call, sets, T.get_set, g0, g1, hf1, hx.lenS]
          refine Gd_loop (flJ s1 q u x ls) (fun e _ => muAt 35 ls.length e) ?_ ?_
          · exact ⟨0, u, Nat.zero_le _, by simp [T.get_set, g0], by simp [T.get_set, g1], by simp [T.get_set], by simp [T.get_set], by simp [T.get_set], MStep.refl hm1, Same.refl _, rfl⟩
          · rintro en s2 ⟨k, v', hk2, f0, f1, f33, f34, f35, hs, hsm, ea⟩
            by_cases hlt : k < ls.length
            · have hlt' : (k : Int) < ls.length := by omega
              have hwk := wrap_nat (n := k) (by omega)
              have hxs := hs.row hx1 hxn1
              obtain ⟨m1, o1, ty1, sz1, t1, i1, b1, k1, l1, d1⟩ := hxs.idx (st := s2) un76 io3 hlt
              obtain ⟨i, hi⟩ : ∃ i, ls[k]? = some i := ⟨_, List.getElem?_eq_getElem hlt⟩
              have hp : t1.get o1 = some (.int .i64 i) := d1 0 _ (by omega) (ivs_get hi)
              obtain ⟨hi1, hi2⟩ := hok i (List.mem_of_getElem? hi)
              obtain ⟨n, rfl⟩ := Int.eq_ofNat_of_zero_le hi1
              have hnu : n < v'.R.length := by rw [hsm.2.2.2.2.2.2.2, e1]; omega
              obtain ⟨r, hr⟩ : ∃ r, v'.R[n]? = some r := ⟨_, List.getElem?_eq_getElem hnu⟩
              obtain ⟨t2, p1, p2, p3, p4, p5, p6, p7, p8⟩ := hs.at'.blk
              have hrow := hs.at'.row
              obtain ⟨m3, o3, ty3, sz3, t3, i3, b3, k3, l3, d3⟩ := hrow.idx (st := s2) un222 io225 hnu
              have hp3 : t3.get o3 = some (.p r.n 0) := d3 0 _ (by omega) (ptrs_get hr)
              obtain ⟨hln, f, hf1, hf2⟩ := hs.at'.lines n r hr
              simp [evOp_call, T.get_set, f0, f1, f33, f34, f35, hlt', i1, loadE_eq, getC_eq, k1, hp, p1, p2, i3, k3, hp3]
              refine Gd.mono (flush_any s2 r.n r.y r.m hln _) ?_
              rintro ⟨w, s3⟩ ⟨hw, l1, l2⟩
              simp only at hw l1 l2
              subst hw
              simp [evOp_call, T.get_set, f0, f1, f33, f34, f35, hwk]
              refine ⟨⟨k + 1, _, hlt, by simp [T.get_set, f0], by simp [T.get_set, f1], by simp [T.get_set, f33], by simp [T.get_set, f34], by simp [T.get_set], hs.trans (hs.at'.line hr l1 l2 (fun k hk => .inl hk) ⟨r.m.O.length, rfl, Nat.le_refl _⟩), hsm.set _ _, ?_⟩, muAt_lt f35 (by simp [T.get_set]) hlt⟩
              show (v'.R.set n _).map (·.m) = _
              rw [List.map_set, flushL_take hi, ← ea]
              show _ = (v'.R.map (·.m)).set n (flushM ((v'.R.map (·.m))[n]?.getD LM0))
              rw [List.getElem?_map, hr]
              rfl
            · obtain rfl : k = ls.length := by omega
              rw [List.take_length] at ea
              obtain ⟨t2, w1, w2, w3, w4, w5, w6, w7, w8⟩ := hs.at'.blk
              have hx3 := hs.at'.setF (t2.set 5 (.int .i64 (IntKind.i64.wrap (v'.b + 1)))) v'.fuse v'.a (IntKind.i64.wrap (v'.b + 1)) v'.c (by simp [memIs, T.get_set, w2, w3, w4, w5, w6, w8])
              simp [evOp_call, sets, T.get_set, f0, f1, f33, f34, f35, loadE_eq, getC_eq, w1, w7, putB_eq, roT]
              refine ⟨_, (x1.trans hs).trans hx3, ?_⟩
              have hcc : v'.b = (absV v).b := by rw [hsm.2.2.2.2.2.1, e4]; rfl
              have hab := hsm.abs ea
              rw [← abs_lit, hu, ← hcc]
              have hLL : (absV v).L = (absV u).L := by unfold absV; rw [e1]
              rw [hLL]
              have : absV ({ v' with fuse := v'.fuse, a := v'.a, b := IntKind.i64.wrap (v'.b + 1), c := v'.c } : MV) = { absV v' with b := IntKind.i64.wrap (v'.b + 1) } := rfl
              rw [this, hab]
              rfl
end Go.Proofs.Ytdoennkmcloalaa
set_option linter.unusedSimpArgs false
namespace Go.Proofs.Ytdoennkmcloalaa
open Go.RowKit Ev
def allN (L : List LM) : List (BitVec 64) := L.flatMap (·.N)
theorem allN_succ {L : List LM} {j : Nat} {m : LM} (h : L[j]? = some m) : allN (L.take (j + 1)) = allN (L.take j) ++ m.N := by
  unfold allN; rw [List.take_add_one, h]; simp
theorem take_get {α : Type} {l : List α} {i : Nat} {x : α} (h : l[i]? = some x) : l.take (i + 1) = l.take i ++ [x] := by rw [List.take_add_one, h]; rfl
def woO (st : St) (q : Nat) (v : MV) (e : Env) (s : St) : Prop := ∃ (j : Nat) (y : V), j ≤ v.R.length ∧ e.get 0 = some (.p q 0) ∧ e.get 3 = some y ∧ e.get 17 = some v.z ∧ e.get 18 = some (.int .i64 (v.R.length : Int)) ∧ e.get 19 = some (.int .i64 (j : Int)) ∧ CRow st.nx s y (8 * j) (8 * v.R.length) (allN (v.R.map (·.m) |>.take j)) ∧ Ext st.nx st s
def woI (st : St) (q j : Nat) (v : MV) (r : LR) (e : Env) (s : St) : Prop := ∃ (i : Nat) (y : V), i ≤ 8 ∧ e.get 0 = some (.p q 0) ∧ e.get 3 = some y ∧ e.get 5 = some (.p r.n 0) ∧ e.get 17 = some v.z ∧ e.get 18 = some (.int .i64 (v.R.length : Int)) ∧ e.get 19 = some (.int .i64 (j : Int)) ∧ e.get 23 = some (.int .i64 (i : Int)) ∧ CRow st.nx s y (8 * j + i) (8 * v.R.length) (allN (v.R.map (·.m) |>.take j) ++ r.m.N.take i) ∧ Ext st.nx st s
def AS.fused (s : AS) (n : Int) (K : List Int) : AS := if s.off = true then s else { s with fuse := n, K := K }
theorem mfuse_any (st : St) (q : Nat) (v : MV) (h : MemAt st q v) (n : Int) (x : V) (K : List Int) (hx : RdRow st x 1 K.length (ivs K)) (hK : K.length ≤ 1000000) (nt : Nat) :
    Gd (callL Try.prog ⟨false, [], 0, nt⟩ 87 [.p q 0, .int .i64 n, x] st) fun r => r.1 = .t [] ∧ ∃ v', MStep q v v' st r.2 ∧ absV v' = (absV v).fused n K := by
  obtain ⟨t, h1, h2, h3, h4, h5, h6, h7, h8⟩ := h.blk
  rw [Gd_callL Try.func87 rfl]
  unfold AS.fused
  have hoff : (absV v).off = v.off := rfl
  rw [hoff]
  by_cases ho : v.off = true
  · rw [if_pos ho]
    simp [evOp_call, sets, T.get_set, loadE_eq, getC_eq, h1, h3, ho]
    exact ⟨v, MStep.refl h, rfl⟩
  · have ho' : v.off = false := by simpa using ho
    rw [if_neg ho]
    simp [evOp_call, sets, T.get_set, loadE_eq, getC_eq, h1, h3, ho']
    refine Gd_append_nil un76 un76 io3 (Nat.le_refl _) (by decide) hx.notS hx.len (fun k => hx.firsts k) hx.1 (by omega) ?_
    intro s' st' hs' he' _
    have hone := hs'.rd.one
    have hm := MStep.ofExt h he'
    obtain ⟨t2, p1, p2, p3, p4, p5, p6, p7, p8⟩ := hm.at'.blk
    obtain ⟨a1, a2⟩ := hm.at'.setB (v' := { v with fuse := n, K := K, kz := s' }) ((t2.set 2 (.int .i64 n)).set 3 s') (by simp [memIs, T.get_set, p2, p3, p6, p7, p8]) rfl rfl hs'.rd (fun k hk => by
      have hge := hs'.nm_ge hk
      exact ⟨fun e => by have := h.lt; omega, .inr fun m hm2 e => by have := h.own_lt hm2; omega⟩)
    simp [evOp_call, sets, T.get_set, loadE_eq, getC_eq, p1, putB_eq, roT, storeK_1 hone]
    refine ⟨_, ⟨a1, ⟨Nat.le_trans hm.kept.le a2.le, fun w => a2.wf (hm.kept.wf w), fun k hk hnk => ?_⟩, fun k hk => ?_⟩, by show (⟨_, v.off, n, K, v.a, v.b, v.c⟩ : AS) = ⟨_, false, n, K, v.a, v.b, v.c⟩; rw [ho']; rfl⟩
    · rw [a2.keep k (Nat.lt_of_lt_of_le hk hm.kept.le) hnk]
      exact hm.kept.keep k hk hnk
    · rcases hk with rfl | hk | hk | hk
      · exact .inl (.inl rfl)
      · exact .inl (.inr (.inl hk))
      · exact .inr (hs'.nm_ge hk)
      · exact .inl (.inr (.inr (.inr hk)))
end Go.Proofs.Ytdoennkmcloalaa

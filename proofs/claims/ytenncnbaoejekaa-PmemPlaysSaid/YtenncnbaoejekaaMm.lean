/-
  PLAIN: a memory of lines.
-/
import Derived.Test.YtenncnbaoejekaaLnT
set_option linter.unusedSimpArgs false
namespace Go.Proofs.Ytenncnbaoejekaa
open Go.RowKit Ev
structure LR where
  n : Nat
  y : V
  m : LM
structure MV where
  z : V
  kz : V
  R : List LR
  off : Bool
  fuse : Int
  K : List Int
  a : Int
  b : Int
  c : Int
def ivs (K : List Int) : List V := K.map fun v => .int .i64 v
def ptrs (R : List LR) : List V := R.map fun r => .p r.n 0
def okL (m : LM) : Prop := ∃ f : Nat, m.F = f ∧ f ≤ m.O.length
def memIs (t : T V) (v : MV) : Prop := t.get 0 = some v.z ∧ t.get 1 = some (.bool v.off) ∧ t.get 2 = some (.int .i64 v.fuse) ∧ t.get 3 = some v.kz ∧ t.get 4 = some (.int .i64 v.a) ∧ t.get 5 = some (.int .i64 v.b) ∧ t.get 6 = some (.int .i64 v.c)
/-- the names that a memory has -/
def MOw (q : Nat) (v : MV) (k : Nat) : Prop := k = q ∨ Nm v.z k ∨ Nm v.kz k ∨ ∃ r ∈ v.R, Ow r.n r.y k
structure MemAt (st : St) (q : Nat) (v : MV) : Prop where
  lt : q < st.nx
  blk : ∃ t, st.h.get q = some (.cs 166 7 t) ∧ memIs t v
  row : RdRow st v.z 1 v.R.length (ptrs v.R)
  keep : RdRow st v.kz 1 v.K.length (ivs v.K)
  lines : ∀ (i : Nat) (r : LR), v.R[i]? = some r → LineAt st r.n r.y r.m ∧ okL r.m
  q1 : ¬ Nm v.z q
  q2 : ¬ Nm v.kz q
  own1 : ∀ (i : Nat) (r : LR), v.R[i]? = some r → ∀ k, Ow r.n r.y k → k ≠ q ∧ ¬ Nm v.z k ∧ ¬ Nm v.kz k
  own2 : ∀ (i j : Nat) (r s : LR), i ≠ j → v.R[i]? = some r → v.R[j]? = some s → ∀ k, Ow r.n r.y k → ¬ Ow s.n s.y k
structure MKept (q : Nat) (v : MV) (st st' : St) : Prop where
  le : st.nx ≤ st'.nx
  wf : Wf st → Wf st'
  keep : ∀ k, k < st.nx → ¬ MOw q v k → st'.h.get k = st.h.get k
theorem MKept.refl (q : Nat) (v : MV) (st : St) : MKept q v st st := ⟨Nat.le_refl _, fun h => h, fun _ _ _ => rfl⟩
/-- what a step comes to: the memory, what is kept, its names -/
structure MStep (q : Nat) (v v' : MV) (st st' : St) : Prop where
  at' : MemAt st' q v'
  kept : MKept q v st st'
  own : ∀ k, MOw q v' k → MOw q v k ∨ st.nx ≤ k
theorem MStep.refl {q : Nat} {v : MV} {st : St} (h : MemAt st q v) : MStep q v v st st := ⟨h, .refl _ _ _, fun _ h => .inl h⟩
theorem MStep.trans {q : Nat} {v1 v2 v3 : MV} {s1 s2 s3 : St} (h : MStep q v1 v2 s1 s2) (k : MStep q v2 v3 s2 s3) : MStep q v1 v3 s1 s3 := by
  refine ⟨k.at', ⟨Nat.le_trans h.kept.le k.kept.le, fun w => k.kept.wf (h.kept.wf w), fun n hn ho => ?_⟩, fun n hn => ?_⟩
  · rw [k.kept.keep n (Nat.lt_of_lt_of_le hn h.kept.le) (fun e => by
      rcases h.own n e with e | e
      · exact ho e
      · omega)]
    exact h.kept.keep n hn ho
  · rcases k.own n hn with e | e
    · exact h.own n e
    · exact .inr (Nat.le_trans h.kept.le e)
/-- all its names lie behind b: then nothing ahead of b changes -/
theorem MStep.ext {q b : Nat} {v v' : MV} {s s' : St} (h : MStep q v v' s s') (hb : b ≤ s.nx) (ho : ∀ k, MOw q v k → b ≤ k) : Ext b s s' :=
  ⟨h.kept.le, h.kept.wf, fun k hk => h.kept.keep k (by omega) (fun e => by have := ho k e; omega)⟩
theorem MStep.own_ge {q b : Nat} {v v' : MV} {s s' : St} (h : MStep q v v' s s') (hb : b ≤ s.nx) (ho : ∀ k, MOw q v k → b ≤ k) : ∀ k, MOw q v' k → b ≤ k := fun k hk => by
  rcases h.own k hk with e | e
  · exact ho k e
  · omega
theorem MemAt.own_lt {st : St} {q : Nat} {v : MV} (h : MemAt st q v) {k : Nat} (hk : MOw q v k) : k < st.nx := by
  rcases hk with rfl | hk | hk | ⟨r, hr, hk⟩
  · exact h.lt
  · exact h.row.nm_lt hk
  · exact h.keep.nm_lt hk
  · obtain ⟨i, hi⟩ := List.getElem?_of_mem hr
    exact (h.lines i r hi).1.own_lt hk
theorem MemAt.other {st st' : St} {q : Nat} {v : MV} (h : MemAt st q v) (hle : st.nx ≤ st'.nx) (k : ∀ n, MOw q v n → st'.h.get n = st.h.get n) : MemAt st' q v := by
  obtain ⟨t, h1, h2⟩ := h.blk
  refine ⟨Nat.lt_of_lt_of_le h.lt hle, ⟨t, by rw [k q (.inl rfl)]; exact h1, h2⟩, h.row.other hle fun n hn => k n (.inr (.inl hn)), h.keep.other hle fun n hn => k n (.inr (.inr (.inl hn))), fun i r hi => ?_, h.q1, h.q2, h.own1, h.own2⟩
  exact ⟨(h.lines i r hi).1.other hle fun n hn => k n (.inr (.inr (.inr ⟨r, List.mem_of_getElem? hi, hn⟩))), (h.lines i r hi).2⟩
theorem MemAt.ext {st st' : St} {q : Nat} {v : MV} (h : MemAt st q v) (k : Ext st.nx st st') : MemAt st' q v := h.other k.le fun _ hn => k.keep _ (h.own_lt hn)
theorem MStep.ofExt {st st' : St} {q : Nat} {v : MV} (h : MemAt st q v) (k : Ext st.nx st st') : MStep q v v st st' := ⟨h.ext k, ⟨k.le, k.wf, fun n hn _ => k.keep n hn⟩, fun _ h => .inl h⟩
/-- its own block is written -/
theorem MemAt.setB {st : St} {q : Nat} {v v' : MV} (h : MemAt st q v) (t' : T V) (ht : memIs t' v') (hz : v'.z = v.z) (hR : v'.R = v.R) (hk : RdRow st v'.kz 1 v'.K.length (ivs v'.K)) (hkq : ∀ k, Nm v'.kz k → k ≠ q ∧ (Nm v.kz k ∨ ∀ n, MOw q v n → n ≠ k)) :
    MemAt ⟨st.nx, st.h.set q (.cs 166 7 t')⟩ q v' ∧ MKept q v st ⟨st.nx, st.h.set q (.cs 166 7 t')⟩ := by
  have ne : ∀ n, n ≠ q → (st.h.set q (.cs 166 7 t')).get n = st.h.get n := fun n hn => T.get_set_ne _ _ (fun e => hn e.symm)
  refine ⟨⟨h.lt, ⟨t', T.get_set_same _ _ _, ht⟩, ?_, ?_, fun i r hi => ?_, ?_, fun e => (hkq q e).1 rfl, fun i r hi k hk2 => ?_, fun i j r s hij hi hj => ?_⟩, ⟨Nat.le_refl _, ((Ext.refl 0 st).set (Nat.zero_le _) h.lt _).wf, fun k _ hk => ne k (fun e => hk (.inl e))⟩⟩
  · rw [hz, hR]; exact h.row.other (Nat.le_refl _) fun n hn => ne n (fun e => h.q1 (by rw [← e]; exact hn))
  · exact hk.other (Nat.le_refl _) fun n hn => ne n (hkq n hn).1
  · rw [hR] at hi
    exact ⟨(h.lines i r hi).1.other (Nat.le_refl _) fun n hn => ne n (h.own1 i r hi n hn).1, (h.lines i r hi).2⟩
  · rw [hz]; exact h.q1
  · rw [hR] at hi
    obtain ⟨o1, o2, o3⟩ := h.own1 i r hi k hk2
    refine ⟨o1, by rw [hz]; exact o2, fun e => ?_⟩
    rcases (hkq k e).2 with e2 | e2
    · exact o3 e2
    · exact e2 k (.inr (.inr (.inr ⟨r, List.mem_of_getElem? hi, hk2⟩))) rfl
  · rw [hR] at hi hj
    exact h.own2 i j r s hij hi hj
/-- a line of it is written -/
theorem MemAt.line {st st' : St} {q i : Nat} {v : MV} {r : LR} (h : MemAt st q v) (hi : v.R[i]? = some r) {y' : V} {m' : LM} (h1 : LineAt st' r.n y' m') (h2 : Kept r.n r.y st st') (h3 : ∀ k, Ow r.n y' k → Ow r.n r.y k ∨ st.nx ≤ k) (h4 : okL m') :
    MStep q v { v with R := v.R.set i ⟨r.n, y', m'⟩ } st st' := by
  have hil := lt_of_get hi
  have keepN : ∀ n, n < st.nx → ¬ Ow r.n r.y n → st'.h.get n = st.h.get n := h2.keep
  have hown : ∀ (j : Nat) (s : LR), (v.R.set i ⟨r.n, y', m'⟩)[j]? = some s → (j = i ∧ s = ⟨r.n, y', m'⟩) ∨ (j ≠ i ∧ v.R[j]? = some s) := fun j s hs => by
    by_cases hij : j = i
    · subst hij
      rw [List.getElem?_set_self hil] at hs
      injection hs with hs
      exact .inl ⟨rfl, hs.symm⟩
    · rw [List.getElem?_set_ne (fun e => hij e.symm)] at hs
      exact .inr ⟨hij, hs⟩
  have hp : ptrs (v.R.set i ⟨r.n, y', m'⟩) = ptrs v.R := by
    apply List.ext_getElem?
    intro j
    unfold ptrs
    rw [List.getElem?_map, List.getElem?_map]
    by_cases hij : j = i
    · subst hij; rw [List.getElem?_set_self hil, hi]; rfl
    · rw [List.getElem?_set_ne (fun e => hij e.symm)]
  have own1' := h.own1 i r hi
  obtain ⟨t, b1, b2⟩ := h.blk
  refine ⟨⟨Nat.lt_of_lt_of_le h.lt h2.le, ⟨t, ?_, b2⟩, ?_, h.keep.other h2.le fun n hn => keepN n (h.keep.nm_lt hn) (fun e => (own1' n e).2.2 hn), fun j s hs => ?_, h.q1, h.q2, fun j s hs k hk => ?_, fun j l s u hjl hs hu k hk => ?_⟩, ⟨h2.le, h2.wf, fun k hk ho => keepN k hk (fun e => ho (.inr (.inr (.inr ⟨r, List.mem_of_getElem? hi, e⟩))))⟩, fun k hk => ?_⟩
  · rw [keepN q h.lt (fun e => (own1' q e).1 rfl)]; exact b1
  · show RdRow st' v.z 1 (v.R.set i ⟨r.n, y', m'⟩).length (ptrs (v.R.set i ⟨r.n, y', m'⟩))
    rw [hp, List.length_set]
    exact h.row.other h2.le fun n hn => keepN n (h.row.nm_lt hn) (fun e => (own1' n e).2.1 hn)
  · rcases hown j s hs with ⟨rfl, rfl⟩ | ⟨hji, hs⟩
    · exact ⟨h1, h4⟩
    · exact ⟨(h.lines j s hs).1.other h2.le fun n hn => keepN n ((h.lines j s hs).1.own_lt hn) (h.own2 j i s r hji hs hi n hn), (h.lines j s hs).2⟩
  · rcases hown j s hs with ⟨rfl, rfl⟩ | ⟨hji, hs⟩
    · rcases h3 k hk with e | e
      · exact own1' k e
      · exact ⟨fun e2 => by have := h.lt; omega, fun e2 => by have := h.row.nm_lt e2; omega, fun e2 => by have := h.keep.nm_lt e2; omega⟩
    · exact h.own1 j s hs k hk
  · rcases hown j s hs with ⟨rfl, rfl⟩ | ⟨hji, hs2⟩
    · rcases hown l u hu with ⟨rfl, rfl⟩ | ⟨hli, hu2⟩
      · exact absurd rfl hjl
      · rcases h3 k hk with e | e
        · exact h.own2 j l r u hjl hi hu2 k e
        · exact fun e2 => by have := (h.lines l u hu2).1.own_lt e2; omega
    · rcases hown l u hu with ⟨rfl, rfl⟩ | ⟨hli, hu2⟩
      · intro e2
        rcases h3 k e2 with e | e
        · exact h.own2 j l s r hjl hs2 hi k hk e
        · have := (h.lines j s hs2).1.own_lt hk; omega
      · exact h.own2 j l s u hjl hs2 hu2 k hk
  · rcases hk with rfl | hk | hk | ⟨s, hs, hk⟩
    · exact .inl (.inl rfl)
    · exact .inl (.inr (.inl hk))
    · exact .inl (.inr (.inr (.inl hk)))
    · obtain ⟨j, hj⟩ := List.getElem?_of_mem hs
      rcases hown j s hj with ⟨rfl, rfl⟩ | ⟨hji, hj⟩
      · rcases h3 k hk with e | e
        · exact .inl (.inr (.inr (.inr ⟨r, List.mem_of_getElem? hi, e⟩)))
        · exact .inr e
      · exact .inl (.inr (.inr (.inr ⟨s, List.mem_of_getElem? hj, hk⟩)))
end Go.Proofs.Ytenncnbaoejekaa

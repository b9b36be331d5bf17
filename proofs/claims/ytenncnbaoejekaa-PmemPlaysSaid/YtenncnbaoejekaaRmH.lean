/-
  Contracts of the document's own memory: a line more.
-/
import Derived.Test.YtenncnbaoejekaaRmG
import Derived.Test.YtenncnbaoejekaaMmG
set_option linter.unusedSimpArgs false
namespace Go.Proofs.Ytenncnbaoejekaa
open Go.RowKit Ev
/-- a memory that was made behind st, and nothing else changed -/
structure RMLive (st s : St) (q : Nat) (v : RV) : Prop where
  at' : RMemAt s q v
  own : ∀ k, RMOw q v k → st.nx ≤ k
  ext : Ext st.nx st s
theorem RMLive.step {st s s' : St} {q : Nat} {v v' : RV} (h : RMLive st s q v) (k : RMStep q v v' s s') : RMLive st s' q v' :=
  ⟨k.at', k.own_ge h.ext.le h.own, h.ext.trans (k.ext h.ext.le h.own)⟩
theorem RMLive.more {st s s' : St} {q : Nat} {v : RV} (h : RMLive st s q v) (k : Ext s.nx s s') : RMLive st s' q v := ⟨h.at'.ext k, h.own, h.ext.trans (k.mono h.ext.le)⟩
theorem RMLive.from {st st1 s : St} {q : Nat} {v : RV} (h : RMLive st1 s q v) (k : Ext st.nx st st1) : RMLive st s q v :=
  ⟨h.at', fun n hn => Nat.le_trans k.le (h.own n hn), k.trans (h.ext.mono k.le)⟩
/-- a line more -/
theorem RMemAt.push {s s1 s3 : St} {q n' : Nat} {v : RV} {m : LM} {z' : V} {t' : T V} (h : RMemAt s q v) (hkz : ∀ k, ¬ Nm v.kz k) (x1 : Ext s.nx s s1) {ys : V} (hl : RLn s1 ⟨n', ys, nilW, m⟩) (hn : s.nx ≤ n') (hys : ∀ k, Nm ys k → s.nx ≤ k)
    (hle : s1.nx ≤ s3.nx) (hwf : Wf s1 → Wf s3) (hk : ∀ k, k < s1.nx → ¬ Nm v.z k → s3.h.get k = s1.h.get k) (hz : RdRow s3 z' 1 (v.R.length + 1) (rptrs (v.R ++ [⟨n', ys, nilW, m⟩]))) (hzn : ∀ k, Nm z' k → Nm v.z k ∨ s1.nx ≤ k)
    (ht : rmemIs t' { v with z := z', R := v.R ++ [⟨n', ys, nilW, m⟩] }) :
    RMStep q v { v with z := z', R := v.R ++ [⟨n', ys, nilW, m⟩] } s ⟨s3.nx, s3.h.set q (.cs 49 7 t')⟩ := by
  have hnl : n' < s1.nx := hl.own_lt (.inl rfl)
  have hsn := x1.le
  have hq := h.lt
  have ne : ∀ n, n ≠ q → (s3.h.set q (.cs 49 7 t')).get n = s3.h.get n := fun n hn => T.get_set_ne _ _ (fun e => hn e.symm)
  have keepO : ∀ k, k < s1.nx → k ≠ q → ¬ Nm v.z k → (s3.h.set q (.cs 49 7 t')).get k = s1.h.get k := fun k h1 h2 h3 => (ne k h2).trans (hk k h1 h3)
  have hone : ∀ k, ROw n' ys nilW k → s.nx ≤ k ∧ k < s1.nx := fun k hk => by
    refine ⟨?_, hl.own_lt hk⟩
    rcases hk with rfl | hk | hk
    · exact hn
    · exact hys k hk
    · exact absurd hk nm_nil
  have hget : ∀ (i : Nat) (r : RR), (v.R ++ [⟨n', ys, nilW, m⟩])[i]? = some r → (i < v.R.length ∧ v.R[i]? = some r) ∨ (i = v.R.length ∧ r = ⟨n', ys, nilW, m⟩) := fun i r hi => by
    by_cases hlt : i < v.R.length
    · rw [List.getElem?_append_left hlt] at hi; exact .inl ⟨hlt, hi⟩
    · rw [List.getElem?_append_right (by omega)] at hi
      have h0 := lt_of_get hi
      simp at h0
      rw [show i - v.R.length = 0 by omega] at hi
      injection hi with hi
      exact .inr ⟨by omega, hi.symm⟩
  have zlt : ∀ k, Nm v.z k → k < s.nx := fun k hk => h.row.nm_lt hk
  have h1 := h.ext x1
  refine ⟨⟨by show q < s3.nx; omega, ⟨t', T.get_set_same _ _ _, ht⟩, ?_, ?_, fun i r hi => ?_, fun e => ?_, h.q2, fun i r hi k hk2 => ?_, fun i j r u hij hi hj k hk2 hk3 => ?_⟩, ⟨by show s.nx ≤ s3.nx; omega, fun w => ((Ext.refl 0 s3).set (Nat.zero_le _) (by omega : q < s3.nx) _).wf (hwf (x1.wf w)), fun k hk2 hno => ?_⟩, fun k hk2 => ?_⟩
  · show RdRow _ z' 1 (v.R ++ [(⟨n', ys, nilW, m⟩ : RR)]).length _
    rw [List.length_append]
    exact hz.other (Nat.le_refl _) fun k hk2 => ne k fun e => by
      rcases hzn k hk2 with e2 | e2
      · exact h.q1 (by rw [← e]; exact e2)
      · omega
  · exact h1.keep.other hle fun k hk2 => keepO k (h1.keep.nm_lt hk2) (fun e => h.q2 (by rw [← e]; exact hk2)) (fun _ => hkz k hk2)
  · rcases hget i r hi with ⟨_, hi⟩ | ⟨_, rfl⟩
    · exact (h1.lines i r hi).other hle fun k hk2 => keepO k ((h1.lines i r hi).own_lt hk2) (h.own1 i r hi k hk2).1 (h.own1 i r hi k hk2).2.1
    · refine hl.other hle fun k hk2 => ?_
      have := hone k hk2
      exact keepO _ this.2 (by omega) (fun e => by have := zlt _ e; omega)
  · rcases hzn q e with e2 | e2
    · exact h.q1 e2
    · omega
  · rcases hget i r hi with ⟨_, hi⟩ | ⟨_, rfl⟩
    · obtain ⟨o1, o2, o3⟩ := h.own1 i r hi k hk2
      refine ⟨o1, fun e => ?_, o3⟩
      rcases hzn k e with e2 | e2
      · exact o2 e2
      · have := (h.lines i r hi).own_lt hk2; omega
    · have := hone k hk2
      refine ⟨by omega, fun e => ?_, fun e => by have := h.keep.nm_lt e; omega⟩
      rcases hzn _ e with e2 | e2
      · have := zlt _ e2; omega
      · omega
  · rcases hget i r hi with ⟨hi1, gi⟩ | ⟨hi1, rfl⟩
    · rcases hget j u hj with ⟨hj1, gj⟩ | ⟨hj1, rfl⟩
      · exact h.own2 i j r u hij gi gj k hk2 hk3
      · have e := hone k hk3
        have := (h.lines i r gi).own_lt hk2; omega
    · rcases hget j u hj with ⟨hj1, gj⟩ | ⟨hj1, rfl⟩
      · have e := hone k hk2
        have := (h.lines j u gj).own_lt hk3; omega
      · omega
  · have hkz : ¬ Nm v.z k := fun e => hno (.inr (.inl e))
    rw [keepO k (by omega) (fun e => hno (.inl e)) hkz, x1.keep k hk2]
  · rcases hk2 with rfl | hk2 | hk2 | ⟨r, hr, hk2⟩
    · exact .inl (.inl rfl)
    · rcases hzn k hk2 with e | e
      · exact .inl (.inr (.inl e))
      · exact .inr (by omega)
    · exact .inl (.inr (.inr (.inl hk2)))
    · obtain ⟨i, hi⟩ := List.getElem?_of_mem hr
      rcases hget i r hi with ⟨_, hi⟩ | ⟨_, rfl⟩
      · exact .inl (.inr (.inr (.inr ⟨r, List.mem_of_getElem? hi, hk2⟩)))
      · exact .inr (hone k hk2).1
end Go.Proofs.Ytenncnbaoejekaa

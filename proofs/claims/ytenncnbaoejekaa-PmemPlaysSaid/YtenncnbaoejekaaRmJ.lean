/-
  PLAIN: the program's memory and the document's own are alike.
-/
import Derived.Test.YtenncnbaoejekaaRmI
import Derived.Test.YtenncnbaoejekaaSpD
set_option linter.unusedSimpArgs false
namespace Go.Proofs.Ytenncnbaoejekaa
open Go.RowKit Ev
/-- alike, but for what a fuse that is not there would keep -/
structure Sim (s r : AS) : Prop where
  L : r.L = s.L
  off : r.off = s.off
  fuse : r.fuse = s.fuse
  a : r.a = s.a
  b : r.b = s.b
  c : r.c = s.c
  K : 1 ≤ s.fuse → r.K = s.K
theorem Sim.refl (s : AS) : Sim s s := ⟨rfl, rfl, rfl, rfl, rfl, rfl, fun _ => rfl⟩
theorem Sim.fell {s r : AS} (h : Sim s r) (ho : s.off = false) (K : List Int) : Sim (s.fell K) (r.rfell K) := by
  unfold AS.fell AS.rfell
  rw [if_neg (by rw [h.off, ho]; simp)]
  exact ⟨by show fallM K r.L = fallM K s.L; rw [h.L], rfl, rfl, h.a, h.b, h.c, fun e => by have e : (1 : Int) ≤ 0 := e; omega⟩
theorem Sim.crash {s r : AS} (h : Sim s r) (K : List Int) : Sim (if s.off = true then s else s.fell K) (r.rfell K) := by
  by_cases ho : s.off = true
  · rw [if_pos ho]; unfold AS.rfell; rw [if_pos (by rw [h.off]; exact ho)]; exact h
  · rw [if_neg ho]; exact h.fell (by simpa using ho) K
theorem Sim.on {s r : AS} (h : Sim s r) : Sim { s with off := false } { r with off := false } := ⟨h.L, rfl, h.fuse, h.a, h.b, h.c, h.K⟩
theorem Sim.fused {s r : AS} (h : Sim s r) (n : Int) (K : List Int) : Sim (s.fused n K) (r.fused n K) := by
  unfold AS.fused
  rw [h.off]
  by_cases ho : s.off = true
  · rw [if_pos ho, if_pos ho]; exact h
  · rw [if_neg ho, if_neg ho]; exact ⟨h.L, rfl, rfl, h.a, h.b, h.c, fun _ => rfl⟩
theorem Sim.lit {s r : AS} (h : Sim s r) (ho : s.off = false) : Sim s.lit r.rlit := by
  unfold AS.lit AS.rlit
  rw [h.fuse]
  by_cases c1 : s.fuse < 1
  · rw [if_pos c1, if_pos c1]; exact h
  · rw [if_neg c1, if_neg c1]
    have hK := h.K (by omega)
    by_cases c2 : 1 < s.fuse
    · rw [if_pos c2, if_pos c2]; exact ⟨h.L, h.off, rfl, h.a, h.b, h.c, fun _ => hK⟩
    · rw [if_neg c2, if_neg c2, ← hK]
      have h0 : Sim ({ s with fuse := 0 } : AS) ({ r with fuse := 0 } : AS) := ⟨h.L, h.off, rfl, h.a, h.b, h.c, fun e => by have e : (1 : Int) ≤ 0 := e; omega⟩
      exact h0.fell ho r.K
theorem Sim.in8 {s r : AS} (h : Sim s r) (a : Int) : r.in8 a ↔ s.in8 a := by unfold AS.in8; rw [h.L]
theorem Sim.may {s r : AS} (h : Sim s r) (ls : List Int) : r.may ls ↔ s.may ls := by unfold AS.may; rw [h.L]
theorem Sim.with' {s r : AS} (h : Sim s r) (L : List LM) (a b c : Int) : Sim { s with L := L, a := a, b := b, c := c } { r with L := L, a := a, b := b, c := c } := ⟨rfl, h.off, h.fuse, rfl, rfl, rfl, h.K⟩
theorem Sim.store {s r : AS} (h : Sim s r) (a : Int) (w : BitVec 64) : Sim (s.store a w) (r.rstore a w) ∧ r.storeE a = s.storeE a := by
  unfold AS.store AS.rstore AS.storeE
  rw [h.off, h.fuse, h.L, h.a]
  by_cases ho : s.off = true
  · rw [if_pos ho, if_pos ho, if_pos ho, if_pos ho]; exact ⟨h, rfl⟩
  · rw [if_neg ho, if_neg ho, if_neg ho, if_neg ho]
    have hl := h.lit (by simpa using ho)
    by_cases hi : s.in8 a
    · rw [if_pos hi, if_pos hi, if_pos ((h.in8 a).2 hi), if_pos ((h.in8 a).2 hi)]
      by_cases hf : s.fuse = 1
      · rw [if_pos hf, if_pos hf]; exact ⟨hl, rfl⟩
      · rw [if_neg hf, if_neg hf]
        exact ⟨⟨rfl, hl.off, hl.fuse, rfl, hl.b, hl.c, hl.K⟩, rfl⟩
    · rw [if_neg hi, if_neg hi, if_neg (fun e => hi ((h.in8 a).1 e)), if_neg (fun e => hi ((h.in8 a).1 e))]; exact ⟨h, rfl⟩
theorem Sim.flush {s r : AS} (h : Sim s r) (ls : List Int) : Sim (s.flush ls) (r.rflush ls) ∧ r.flushE ls = s.flushE ls := by
  unfold AS.flush AS.rflush AS.flushE
  rw [h.off, h.fuse, h.L, h.b]
  by_cases ho : s.off = true
  · rw [if_pos ho, if_pos ho, if_pos ho, if_pos ho]; exact ⟨h, rfl⟩
  · rw [if_neg ho, if_neg ho, if_neg ho, if_neg ho]
    have hl := h.lit (by simpa using ho)
    by_cases hi : s.may ls
    · rw [if_pos hi, if_pos hi, if_pos ((h.may ls).2 hi), if_pos ((h.may ls).2 hi)]
      by_cases hf : s.fuse = 1
      · rw [if_pos hf, if_pos hf]; exact ⟨hl, rfl⟩
      · rw [if_neg hf, if_neg hf]
        exact ⟨⟨rfl, hl.off, hl.fuse, hl.a, rfl, hl.c, hl.K⟩, rfl⟩
    · rw [if_neg hi, if_neg hi, if_neg (fun e => hi ((h.may ls).1 e)), if_neg (fun e => hi ((h.may ls).1 e))]; exact ⟨h, rfl⟩
theorem Sim.fence {s r : AS} (h : Sim s r) : Sim s.fence r.rfence ∧ r.fenceE = s.fenceE := by
  unfold AS.fence AS.rfence AS.fenceE
  rw [h.off, h.fuse, h.L, h.c]
  by_cases ho : s.off = true
  · rw [if_pos ho, if_pos ho, if_pos ho]; exact ⟨h, rfl⟩
  · rw [if_neg ho, if_neg ho, if_neg ho]
    have hl := h.lit (by simpa using ho)
    by_cases hf : s.fuse = 1
    · rw [if_pos hf, if_pos hf]; exact ⟨hl, rfl⟩
    · rw [if_neg hf, if_neg hf]
      exact ⟨⟨rfl, hl.off, hl.fuse, hl.a, hl.b, rfl, hl.K⟩, rfl⟩
theorem Sim.load {s r : AS} (h : Sim s r) (a : Int) : r.load a = s.load a ∧ r.loadE a = s.loadE a := by
  unfold AS.load AS.loadE
  rw [h.off]
  by_cases ho : s.off = true
  · simp [ho]
  · by_cases hi : s.in8 a
    · have hr := (h.in8 a).2 hi
      simp [ho, hi, hr, h.L]
    · have hr : ¬ r.in8 a := fun e => hi ((h.in8 a).1 e)
      simp [ho, hi, hr]
/-- lines in order, whatever the power does -/
theorem okLs.lit {s : AS} {n : Nat} (h : okLs s.L n) : okLs s.lit.L n := by
  unfold AS.lit
  split
  · exact h
  · split
    · exact h
    · exact h.fall _
theorem okLs.store {s : AS} {n : Nat} (h : okLs s.L n) (a : Int) (w : BitVec 64) : okLs (s.store a w).L n := by
  unfold AS.store
  split
  · exact h
  · split
    · split
      · exact h.lit
      · rename_i h1 h2 h3
        obtain ⟨i1, i2⟩ := h2
        rw [h.len] at i2
        exact h.st (a := a) ⟨i1, by omega⟩ w
    · exact h
theorem okLs.flush {s : AS} {n : Nat} (h : okLs s.L n) (ls : List Int) : okLs (s.flush ls).L n := by
  unfold AS.flush
  split
  · exact h
  · split
    · split
      · exact h.lit
      · rename_i h1 h2 h3
        exact h.fl h2
    · exact h
theorem okLs.fence {s : AS} {n : Nat} (h : okLs s.L n) : okLs s.fence.L n := by
  unfold AS.fence
  split
  · exact h
  · split
    · exact h.lit
    · exact h.fe
theorem mcount_any (st : St) (q : Nat) (v : MV) (h : MemAt st q v) (nt : Nat) :
    Gd (callL Try.prog ⟨false, [], 0, nt⟩ 40 [.p q 0] st) fun r => r = (.t [.int .i64 v.a, .int .i64 v.b, .int .i64 v.c], st) := by
  obtain ⟨t, h1, h2, h3, h4, h5, h6, h7, h8⟩ := h.blk
  rw [Gd_callL Try.func40 rfl]
  simp [evOp_call, sets, T.get_set, loadE_eq, getC_eq, h1, h6, h7, h8]
  kernel_rfl
/-- the program's memory and the document's own, apart -/
structure MR (st s : St) (q : Nat) (v : MV) (p : Nat) (u : RV) : Prop where
  a : MLive st s q v
  b : RMLive st s p u
  d : ∀ k, MOw q v k → ¬ RMOw p u k
theorem MR.left {st s s' : St} {q p : Nat} {v v' : MV} {u : RV} (h : MR st s q v p u) (k : MStep q v v' s s') : MR st s' q v' p u := by
  have ha := h.a.step k
  refine ⟨ha, ⟨h.b.at'.other k.kept.le fun n hn => k.kept.keep n (h.b.at'.own_lt hn) (fun e => h.d n e hn), h.b.own, ha.ext⟩, fun n hn hr => ?_⟩
  rcases k.own n hn with e | e
  · exact h.d n e hr
  · have := h.b.at'.own_lt hr; omega
theorem MR.right {st s s' : St} {q p : Nat} {v : MV} {u u' : RV} (h : MR st s q v p u) (k : RMStep p u u' s s') : MR st s' q v p u' := by
  have hb := h.b.step k
  refine ⟨⟨h.a.at'.other k.kept.le fun n hn => k.kept.keep n (h.a.at'.own_lt hn) (h.d n hn), h.a.own, hb.ext⟩, hb, fun n hn hr => ?_⟩
  rcases k.own n hr with e | e
  · exact h.d n hn e
  · have := h.a.at'.own_lt hn; omega
theorem MR.more {st s s' : St} {q p : Nat} {v : MV} {u : RV} (h : MR st s q v p u) (k : Ext s.nx s s') : MR st s' q v p u := ⟨h.a.more k, h.b.more k, h.d⟩
theorem MR.make {st s s' : St} {q p : Nat} {v : MV} {u : RV} (h : MLive st s q v) (k : RMLive s s' p u) : MR st s' q v p u :=
  ⟨h.more k.ext, ⟨k.at', fun n hn => Nat.le_trans h.ext.le (k.own n hn), h.ext.trans (k.ext.mono h.ext.le)⟩, fun n hn hr => by have := h.at'.own_lt hn; have := k.own n hr; omega⟩
end Go.Proofs.Ytenncnbaoejekaa

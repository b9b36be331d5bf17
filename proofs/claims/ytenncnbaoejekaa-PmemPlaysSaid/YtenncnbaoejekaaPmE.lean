/-
  PmemPlays: what stands between the regions.
-/
import Derived.Test.YtenncnbaoejekaaFlAE
import Derived.Test.YtenncnbaoejekaaRmJ
import Derived.Test.YtenncnbaoejekaaSpH
set_option linter.unusedSimpArgs false
namespace Go.Proofs.Ytenncnbaoejekaa
open Go.RowKit Ev
theorem mnew_bad (st : St) (n : Int) (hn : n < 1 ∨ 1024 < n) (nt : Nat) :
    Gd (callL Try.prog ⟨false, [], 0, nt⟩ 24 [.int .i64 n] st) fun r => r = (.t [.c (.pointer none), .int .i64 1], st) := by
  rw [Gd_callL Try.func24 rfl]
  by_cases c1 : n < 1
  · simp [evOp_call, sets, T.get_set, c1]
  · have c2 : 1024 < n := by omega
    simp [evOp_call, sets, T.get_set, c1, c2]
theorem moff_fl (st : St) (q : Nat) (v : MV) (h : MemAt st q v) (fl : List (Nat × Nat)) (hfo : ∀ k, MOw q v k → inF fl k = false) (nt : Nat) :
    Gd (callL Try.prog ⟨false, fl, 0, nt⟩ 41 [.p q 0] st) fun r => r = (.bool v.off, st) := by
  obtain ⟨t, h1, h2, h3, h4, h5, h6, h7, h8⟩ := h.blk
  have f0 := hfo q (.inl rfl)
  rw [Gd_callL Try.func41 rfl]
  simp [f0, sets, T.get_set, loadE_eq, getC_eq, h1, h3]
structure EP (x : V) (n q p i : Nat) (e : Env) : Prop where
  g0 : e.get 0 = some (.int .i64 (n : Int))
  g1 : e.get 1 = some x
  g5 : e.get 5 = some (.p q 0)
  g7 : e.get 7 = some (.p p 0)
  g8 : e.get 8 = some (.int .i64 (i : Int))
/-- both memories, alike -/
structure Alike (st s : St) (q : Nat) (v : MV) (p : Nat) (u : RV) (n i : Nat) : Prop where
  mr : MR st s q v p u
  sim : Sim (absV v) (absR u)
  ok : okLs (absV v).L n
  sz : szB (absV v) n i
theorem Alike.u {st s : St} {q : Nat} {v : MV} {p : Nat} {u : RV} {n i : Nat} (h : Alike st s q v p u n i) : u.R.length = n ∧ u.fuse ≤ 9223372036854775807 ∧ (∀ r ∈ u.R, r.m.O.length ≤ i) ∧ ∀ m ∈ (absR u).L, okP m := by
  have hL := h.sim.L
  have hf := h.sim.fuse
  refine ⟨?_, ?_, fun r hr => ?_, fun m hm => ?_⟩
  · have := congrArg List.length hL; rw [h.ok.len] at this; simpa [absR] using this
  · have hf : u.fuse = v.fuse := hf; rw [hf]; exact h.sz.v.2.1
  · have : r.m ∈ (absR u).L := List.mem_map_of_mem hr
    rw [hL] at this; exact h.sz.2.2 _ this
  · rw [hL] at hm; exact h.ok.ok m hm
def ppI (st : St) (x : V) (n q p l : Nat) (e : Env) (s : St) : Prop := ∃ (i : Nat) (v : MV) (u : RV), i ≤ l ∧ EP x n q p i e ∧ Alike st s q v p u n i
/-- a box beside them -/
structure PX (st s : St) (q : Nat) (v : MV) (p : Nat) (u : RV) (nb : Nat) (tb : T V) : Prop where
  mr : MR st s q v p u
  box : s.h.get nb = some (.cs 34 4 tb)
  nv : ¬ MOw q v nb
  nu : ¬ RMOw p u nb
  lt : nb < s.nx
theorem PX.left {st s s' : St} {q p nb : Nat} {v v' : MV} {u : RV} {tb : T V} (h : PX st s q v p u nb tb) (k : MStep q v v' s s') : PX st s' q v' p u nb tb :=
  ⟨h.mr.left k, (k.kept.keep nb h.lt h.nv).trans h.box, k.not_own h.nv h.lt, h.nu, Nat.lt_of_lt_of_le h.lt k.kept.le⟩
theorem PX.right {st s s' : St} {q p nb : Nat} {v : MV} {u u' : RV} {tb : T V} (h : PX st s q v p u nb tb) (k : RMStep p u u' s s') : PX st s' q v p u' nb tb :=
  ⟨h.mr.right k, (k.kept.keep nb h.lt h.nu).trans h.box, h.nv, fun e => by
    rcases k.own nb e with e | e
    · exact h.nu e
    · have := h.lt; omega, Nat.lt_of_lt_of_le h.lt k.kept.le⟩
def ppJ (st : St) (x : V) (n q p i nb : Nat) (tb : T V) (r : X × Env × St) : Prop := ∃ (e : Env) (s : St) (v : MV) (u : RV), r = (.n, e, s) ∧ EP x n q p i e ∧ e.get 9 = some (.p nb 0) ∧ e.get 10 = some (.bool true) ∧ PX st s q v p u nb tb ∧ Sim (absV v) (absR u) ∧ okLs (absV v).L n ∧ szB (absV v) n (i + 1)
def ppA (sb : St) (x : V) (n q p i nb : Nat) (b : Bool) (r : X × Env × St) : Prop := ∃ e : Env, r = (.n, e, sb) ∧ EP x n q p i e ∧ e.get 9 = some (.p nb 0) ∧ e.get 75 = some (.bool b)
def ppB (sb : St) (x : V) (n q p i nb : Nat) (r : X × Env × St) : Prop := ∃ e : Env, r = (.n, e, sb) ∧ EP x n q p i e ∧ e.get 9 = some (.p nb 0) ∧ e.get 10 = some (.bool true)
end Go.Proofs.Ytenncnbaoejekaa

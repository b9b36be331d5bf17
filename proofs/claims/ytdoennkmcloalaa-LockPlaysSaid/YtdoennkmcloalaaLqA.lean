/-
  The law LockPlays: what stands between two calls.
-/
import Derived.Test.YtdoennkmcloalaaLqP
import Derived.Test.YtdoennkmcloalaaEqS
set_option linter.unusedSimpArgs false
set_option linter.unusedVariables false
namespace Go.Proofs.Ytdoennkmcloalaa
open Go.RowKit Ev
theorem pr_bool {P : Program} (d : Nat) {t : TypeId} (a b : Bool) (h : P.underlying t = some .bool) : pureRun P (Op.equalIn (d + 1) t (.bool a) (.bool b)) = some (a == b) := by
  unfold Op.equalIn
  rw [pr_bind (pr_underlying h)]
  simp [pr_pure]
theorem feBool {P : Program} {d : Nat} {xs ys : Array Value} {f : Field} {a b : Bool} (hn : f.name ≠ "_") (hu : P.underlying f.type = some .bool) (hx : xs[f.offset]? = some (.bool a)) (hy : ys[f.offset]? = some (.bool b)) : FieldEq P (d + 1) xs ys f (a == b) := by
  have hp : ∀ (cs : Array Value) v, cs[f.offset]? = some v → pureRun P (part f.type cs f.offset) = some v := fun cs v hv => by
    unfold part isAgg
    rw [pr_bind (a := false) (by rw [pr_bind (pr_underlying hu)]; rfl)]
    simp only [hv]
    rfl
  exact ⟨hn, _, _, hp xs _ hx, hp ys _ hy, pr_bool d a b hu⟩
abbrev LAct := Int × Int × List Wn
abbrev laC := pairC iC (pairC iC (rowC (pairC iC bC)))
theorem rowC_wants {st : St} {x : Nat → V} {l : List Wn} (h : (rowC (pairC iC bC)).at' st x l) : RdRow st (x 0) 2 l.length (cellsK l) := by
  obtain ⟨_, _, _, xs, h1, h2⟩ := h
  have hz : (pairC iC bC).z = 2 := rfl
  have e : (List.range (l.length * (pairC iC bC).z)).map xs = cellsK l := by
    apply List.ext_getElem?
    intro j
    rw [hz, List.getElem?_map]
    by_cases hj : j < l.length * 2
    · rw [List.getElem?_range hj]
      obtain ⟨r, hr⟩ : ∃ r, l[j / 2]? = some r := ⟨_, List.getElem?_eq_getElem (by omega)⟩
      obtain ⟨g0, g1⟩ := cellsK_get l (j / 2) r hr
      have h3 := h2 (j / 2) r hr
      have a0 : xs (j / 2 * 2 + 0) = .int .i64 r.1 := h3.1.1
      have a1 : xs (j / 2 * 2 + 1) = .bool r.2 := h3.2.1
      rcases (show j = j / 2 * 2 + 0 ∨ j = j / 2 * 2 + 1 by omega) with e | e
      · rw [e, g0, Option.map_some, a0]
      · rw [e, g1, Option.map_some, a1]
    · rw [List.getElem?_eq_none (by rw [List.length_range]; omega), List.getElem?_eq_none (by rw [cellsK_length]; omega)]; rfl
  rw [e, hz] at h1
  exact h1
theorem cell_inj {x y : Int × Bool} (h : V.int .i64 x.1 = V.int .i64 y.1) (k : V.bool x.2 = V.bool y.2) : x = y := by
  injection h with h; injection h with _ h; injection k with k; injection k with k
  exact Prod.ext h k
theorem neqWant (st : St) (x y : Operand) (a c : Int) (b d : Bool) : binE Try.prog st .neq 170 x y (.g [.int .i64 a, .bool b]) (.g [.int .i64 c, .bool d]) = some (.bool (!decide ((a, b) = (c, d))), st) := by
  have := neq_struct (st := st) (x := x) (y := y) (l := [.int .i64 a, .bool b]) (l' := [.int .i64 c, .bool d]) (xs := [.int .i64 a, .bool b]) (ys := [.int .i64 c, .bool d]) Try.underlying170 (by kernel_rfl) (by kernel_rfl) rfl rfl
    (.cons (.int (d := 9998) (by decide) Try.underlying3 rfl rfl) (.cons (feBool (d := 9998) (by decide) Try.underlying4 rfl rfl) .nil))
  have he : ([a == c, (b == d)].all id) = decide ((a, b) = (c, d)) := by
    have hac : (a == c) = decide (a = c) := by by_cases e : a = c <;> simp [e]
    have hbd : (b == d) = decide (b = d) := by by_cases e : b = d <;> simp [e]
    rw [hac, hbd]; simp
  rw [he] at this
  exact this
/-- a row, and blocks that it does not lie in -/
def AwayK (q p4 : Nat) (KB : Nat → Prop) (x : V) : Prop := ∀ m, (∃ o k r, x = .sl m o k r) ∨ (∃ o k r, x = .sg m o k r) → m ≠ q ∧ ¬ KB m ∧ m ≠ p4
def HvAt (s : St) (q p4 : Nat) (KB : Nat → Prop) (hv : Int → List Wn) : Prop := p4 < s.nx ∧ p4 ≠ q ∧ ¬ KB p4 ∧ ∃ th, s.h.get p4 = some (.cs 165 6 th) ∧ ∀ p : Nat, p < 6 → ∃ x, th.get p = some x ∧ x.one = true ∧ RdRow s x 2 (hv p).length (cellsK (hv p)) ∧ AwayK q p4 KB x
structure LwH (st s : St) (q a b p4 : Nat) (KB : Nat → Prop) (hv : Int → List Wn) (ky : Int → List Int × Bool) : Prop where
  lk : LkAt s q a b p4 KB hv ky
  cons : Cons hv ky
  hav : HvAt s q p4 KB hv
  ext : Ext st.nx st s
  lo : st.nx ≤ q ∧ st.nx ≤ a ∧ st.nx ≤ b ∧ st.nx ≤ p4 ∧ ∀ n, KB n → st.nx ≤ n
theorem LkAt.mps {s : St} {q a b pb : Nat} {KB : Nat → Prop} {hv : Int → List Wn} {ky : Int → List Int × Bool} (h : LkAt s q a b pb KB hv ky) : (∃ M c, s.h.get a = some (.mp M c)) ∧ (∃ M c, s.h.get b = some (.mp M c)) ∧ (∀ n, KB n → n < s.nx) ∧ a < s.nx ∧ b < s.nx ∧ q < s.nx := by
  obtain ⟨A, B, ca, cb, ⟨h1, h2, h3, h4, h5, h6, h7, h8, h9⟩, hM⟩ := h
  exact ⟨⟨_, _, h8⟩, ⟨_, _, h9⟩, hM.kbLt, h2, h3, h1⟩
/-- what is in the own blocks stays, where the table is changed -/
theorem RdRow.frK {s s' : St} {a b : Nat} {KB KB' : Nat → Prop} (h : FrK s s' a b KB KB') (ha : ∃ M c, s.h.get a = some (.mp M c)) (hb : ∃ M c, s.h.get b = some (.mp M c)) {x : V} {z n : Nat} {l : List V} (hr : RdRow s x z n l) (hx : ∀ m, (∃ o k r, x = .sl m o k r) ∨ (∃ o k r, x = .sg m o k r) → ¬ KB m) : RdRow s' x z n l := by
  obtain ⟨M, c, ga⟩ := ha
  obtain ⟨M', c', gb⟩ := hb
  have kp : ∀ m ty sz t, m < s.nx → ¬ KB m → s.h.get m = some (.cs ty sz t) → s'.h.get m = some (.cs ty sz t) := fun m ty sz t h1 h2 h3 =>
    (h.keep m h1 (fun e => by rw [e, ga] at h3; cases h3) (fun e => by rw [e, gb] at h3; cases h3) h2).trans h3
  obtain ⟨z1, z2⟩ := hr
  refine ⟨z1, ?_⟩
  have hle := h.le
  rcases z2 with z2 | ⟨m, o, r, ty, sz, t, rfl, z3, z4, z5⟩ | ⟨m, o, ty, sz, t, rfl, z3, z4, z5⟩
  · exact .inl z2
  · exact .inr (.inl ⟨m, o, r, ty, sz, t, rfl, by omega, kp _ _ _ _ z3 (hx m (.inl ⟨_, _, _, rfl⟩)) z4, z5⟩)
  · exact .inr (.inr ⟨m, o, ty, sz, t, rfl, by omega, kp _ _ _ _ z3 (hx m (.inr ⟨_, _, _, rfl⟩)) z4, z5⟩)
theorem HvAt.frK {s s' : St} {q a b p4 : Nat} {KB KB' : Nat → Prop} {hv : Int → List Wn} (hh : HvAt s q p4 KB hv) (h : FrK s s' a b KB KB') (ha : ∃ M c, s.h.get a = some (.mp M c)) (hb : ∃ M c, s.h.get b = some (.mp M c)) : HvAt s' q p4 KB' hv := by
  have hle := h.le
  obtain ⟨h1, h2, h3, th, h4, h5⟩ := hh
  refine ⟨by omega, h2, fun hk => ?_, th, ?_, fun p hp => ?_⟩
  · rcases h.more p4 hk with e | e
    · exact h3 e
    · omega
  · obtain ⟨M, c, ga⟩ := ha
    obtain ⟨M', c', gb⟩ := hb
    exact (h.keep p4 h1 (fun e => by rw [e, ga] at h4; cases h4) (fun e => by rw [e, gb] at h4; cases h4) h3).trans h4
  · obtain ⟨x, e1, e2, e3, e4⟩ := h5 p hp
    refine ⟨x, e1, e2, RdRow.frK h ha hb e3 fun m hm => (e4 m hm).2.1, fun m hm => ⟨(e4 m hm).1, fun hk => ?_, (e4 m hm).2.2⟩⟩
    rcases h.more m hk with e | e
    · exact (e4 m hm).2.1 e
    · have : m < s.nx := by
        rcases hm with ⟨o, k, r, hm⟩ | ⟨o, k, r, hm⟩
        · exact e3.lt_of.2 _ _ _ _ hm
        · exact e3.lt_of.1 _ _ _ _ hm
      omega
theorem FrK.ext {st s s' : St} {a b : Nat} {KB KB' : Nat → Prop} (h : FrK s s' a b KB KB') (hx : Ext st.nx st s) (ha : st.nx ≤ a) (hb : st.nx ≤ b) (hk : ∀ n, KB n → st.nx ≤ n) : Ext st.nx st s' :=
  ⟨Nat.le_trans hx.le h.le, fun w => h.wf (hx.wf w), fun n hn => (h.keep n (Nat.lt_of_lt_of_le hn hx.le) (by omega) (by omega) (fun hh => by have := hk n hh; omega)).trans (hx.keep n hn)⟩
theorem LwH.more {st s s' : St} {q a b p4 : Nat} {KB : Nat → Prop} {hv : Int → List Wn} {ky : Int → List Int × Bool} (h : LwH st s q a b p4 KB hv ky) (k : Ext s.nx s s') : LwH st s' q a b p4 KB hv ky := by
  obtain ⟨m1, m2, m3, _⟩ := h.lk.mps
  exact ⟨h.lk.ext k, h.cons, h.hav.frK (k.frK a b KB) m1 m2, h.ext.trans (k.mono h.ext.le), h.lo⟩
/-- somebody's place in the law's own row -/
theorem HvAt.put {s : St} {q p4 w : Nat} {KB : Nat → Prop} {hv : Int → List Wn} {x : V} {L : List Wn} (h : HvAt s q p4 KB hv) (hw : w < 6) (hx : x.one = true) (hr : RdRow s x 2 L.length (cellsK L)) (hxa : AwayK q p4 KB x) : ∃ th, s.h.get p4 = some (.cs 165 6 th) ∧ HvAt ⟨s.nx, s.h.set p4 (.cs 165 6 (th.set w x))⟩ q p4 KB (updI hv (w : Int) L) := by
  obtain ⟨h1, h2, h3, th, h4, h5⟩ := h
  refine ⟨th, h4, h1, h2, h3, _, T.get_set_same _ _ _, fun p hp => ?_⟩
  have kp' : ∀ {x' : V} {n : Nat} {l : List V}, RdRow s x' 2 n l → AwayK q p4 KB x' → RdRow ⟨s.nx, s.h.set p4 (.cs 165 6 (th.set w x))⟩ x' 2 n l := fun hr' ha => hr'.setOther (fun o l z e => (ha p4 (.inr ⟨_, _, _, e⟩)).2.2 rfl) (fun o l z e => (ha p4 (.inl ⟨_, _, _, e⟩)).2.2 rfl) _
  by_cases e : p = w
  · subst e
    refine ⟨x, T.get_set_same _ _ _, hx, ?_, hxa⟩
    rw [updI_same]
    exact kp' hr hxa
  · obtain ⟨x', g1, g2, g3, g4⟩ := h5 p hp
    refine ⟨x', (T.get_set_ne _ _ (fun h => e h.symm)).trans g1, g2, ?_, g4⟩
    rw [updI_ne _ _ (by omega)]
    exact kp' g3 g4
/-- what the law asks for, and what it reckons -/
def Cf (hv : Int → List Wn) (who : Int) (K : List Wn) : Prop := ∃ (p : Nat) (u w : Wn), p < 6 ∧ (p : Int) ≠ who ∧ u ∈ hv p ∧ w ∈ K ∧ u.1 = w.1 ∧ (u.2 = true ∨ w.2 = true)
def WantC (hv : Int → List Wn) (who : Int) (K : List Wn) (c : Int) : Prop := (c = 1 ∧ (K = [] ∨ hv who ≠ [] ∨ ¬ UpK K)) ∨ (c = 15 ∧ (K ≠ [] ∧ hv who = [] ∧ UpK K) ∧ Cf hv who K) ∨ (c = 0 ∧ (K ≠ [] ∧ hv who = [] ∧ UpK K) ∧ ¬ Cf hv who K)
theorem Cons.cf {hv : Int → List Wn} {ky : Int → List Int × Bool} (h : Cons hv ky) {who : Int} {K : List Wn} (hw : hv who = []) : Cf hv who K ↔ ∃ w ∈ K, Busy ky w := by
  constructor
  · rintro ⟨p, u, w, _, _, hu, hwK, he, ho⟩
    exact ⟨w, hwK, (h.busy w).2 ⟨p, u, hu, he, ho⟩⟩
  · rintro ⟨w, hwK, hb⟩
    obtain ⟨p, u, hu, he, ho⟩ := (h.busy w).1 hb
    have hr := h.rng p (List.ne_nil_of_mem hu)
    refine ⟨p.toNat, u, w, by omega, fun e => ?_, by rw [show ((p.toNat : Nat) : Int) = p by omega]; exact hu, hwK, he, ho⟩
    have : p = who := by omega
    rw [this, hw] at hu; cases hu
theorem Cons.same {hv : Int → List Wn} {ky : Int → List Int × Bool} (h : Cons hv ky) {who : Int} {K : List Wn} {c c' : Int} (hc : WantC hv who K c) (hc' : RefC hv ky who K c') : c' = c := by
  rcases hc with ⟨e, h1⟩ | ⟨e, ⟨h1, h2, h3⟩, h4⟩ | ⟨e, ⟨h1, h2, h3⟩, h4⟩ <;> rcases hc' with ⟨e', g1⟩ | ⟨e', g1, g2, g3, g4⟩ | ⟨e', g1, g2, g3, g4⟩
  · omega
  · rcases h1 with h1 | h1 | h1
    · exact absurd h1 g1
    · exact absurd g2 h1
    · exact absurd g3 h1
  · rcases h1 with h1 | h1 | h1
    · exact absurd h1 g1
    · exact absurd g2 h1
    · exact absurd g3 h1
  · rcases g1 with g1 | g1 | g1
    · exact absurd g1 h1
    · exact absurd h2 g1
    · exact absurd h3 g1
  · omega
  · obtain ⟨w, hw, hb⟩ := (h.cf h2).1 h4; exact absurd hb (g4 w hw)
  · rcases g1 with g1 | g1 | g1
    · exact absurd g1 h1
    · exact absurd h2 g1
    · exact absurd h3 g1
  · exact absurd ((h.cf h2).2 g4) h4
  · omega
end Go.Proofs.Ytdoennkmcloalaa

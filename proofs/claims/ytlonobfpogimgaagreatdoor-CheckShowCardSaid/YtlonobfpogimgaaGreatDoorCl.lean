/-
  PLAIN: pieces over a list of statements: a function's body laid out flat; loops cut between their rounds.
-/
import Derived.Test.YtlonobfpogimgaaGreatDoorEc
namespace Go.Proofs.YtlonobfpogimgaaGreatDoor.Ev
open Go.RowKit

noncomputable def flat (c : Code) : List Code := Code.rec (motive := fun _ => List Code) [.skip] (fun i o d => [.region i o d]) (fun _ _ x y => x ++ y) (fun o a b _ _ => [.cond o a b]) (fun i b _ => [.block i b]) (fun b _ => [.loop b]) (fun o t a b _ _ => [.rangeFunc o t a b]) (fun i => [.exit i]) (fun b _ => [.scope b]) (fun i => [.label i]) (fun i => [.goto i]) [.ret] (fun s => [.refuse s]) c
def wpL (P : Program) (Q : Exit → Act → World → Prop) : List Code → Act → World → Prop
  | [], a, w => Q .normal a w
  | x :: l, a, w => x.wp P (Exit.then (wpL P Q l) Q) a w
theorem flat_wp {P : Program} {Q : Exit → Act → World → Prop} : ∀ (c : Code) (l : List Code) (a : Act) (w : World), wpL P Q (flat c ++ l) a w → c.wp P (Exit.then (wpL P Q l) Q) a w := by
  intro c
  induction c with
  | seq x y ihx ihy =>
    intro l a w h
    have h' : wpL P Q ((flat x ++ flat y) ++ l) a w := h
    rw [List.append_assoc] at h'
    refine wp_seq (wp_mono (ihx _ a w h') fun ex a w h => ?_)
    cases ex with
    | normal => exact ihy l a w h
    | _ => exact h
  | _ => exact fun l a w h => h
noncomputable def dropL (m : Nat) (l : List Code) : List Code := nr (fun l => l) (fun _ ih l => match l with | _ :: l => ih l | [] => []) m l
noncomputable def runS (G : CodeF) (c : Cx) (m : Nat) (l : List Code) (e : Env) (st : St) : Option (Env × St) :=
  nr (fun _ e st => some (e, st)) (fun _ ih l e st => match l with
    | a :: l => (match G c a e st with
      | some (.n, e, st) => ih l e st
      | _ => none)
    | [] => none) m l e st
noncomputable def stepS (G : CodeF) (c : Cx) (m : Nat) (l : List Code) (keep : List Nat) (e : Env) (st : St) : Option (Env × St) := match runS G c m l e st with
  | some (e, st) => some (e, gc keep st)
  | none => none
noncomputable def lastS (P : Program) (G : CodeF) (fn : Func) (m : Nat) (l : List Code) (e : Env) (st : St) : Bool := match runS G ⟨false, [], 0, fn.ntmps⟩ m l e st with
  | some (e, st) => (match dropL m l with
    | x :: _ => (match G ⟨false, [], 0, fn.ntmps⟩ x e st with
      | some (.ret, e, st) => (match resOf P ⟨false, [], 0, fn.ntmps⟩ e st fn.results.toList fun l => (match l with | [x] => some (x, st) | l => some (.t l, st)) with | some (.c (.bool true), _) => true | _ => false)
      | _ => false)
    | [] => false)
  | none => false
def GoodL (P : Program) (fn : Func) (l : List Code) (e : Env) (st : St) : Prop := Wf st → ∀ (B0 : Nat) (ρ : Rho) (τ : Mem) (w0 w : World) (a : Act), EnvRel ρ e a → fn.ntmps ≤ a.tmps.size → a.defers = [] → Agree ⟨false, [], 0, fn.ntmps⟩ st τ → Real ρ B0 τ w → (∀ n, st.nx ≤ n → ρ n = none) → Below B0 w0 w → wpL P (Fin P fn B0 w0) l a w
def GoodLR (P : Program) (fn : Func) (k : Nat) (b : Code) (l : List Code) (n : Nat) (e : Env) (st : St) : Prop := Wf st → ∀ (B0 : Nat) (ρ : Rho) (τ : Mem) (w0 w : World) (a : Act), EnvRel ρ e a → fn.ntmps ≤ a.tmps.size → a.defers = [] → Agree ⟨false, [], 0, fn.ntmps⟩ st τ → Real ρ B0 τ w → (∀ n, st.nx ≤ n → ρ n = none) → Below B0 w0 w →
  Code.rounds P b (Exit.inBlock k (Exit.then (wpL P (Fin P fn B0 w0) l) (Fin P fn B0 w0))) n a w
section
variable {P : Program} {fn : Func}
theorem dom_none {ρ ρ' : Rho} {st st' : St} (hfr : ∀ n, st.nx ≤ n → ρ n = none) (hle : st.nx ≤ st'.nx) (d : Dom ρ ρ' st st') : ∀ n, st'.nx ≤ n → ρ' n = none := fun n h1 => by
  cases e : ρ' n with
  | none => rfl
  | some r =>
    rcases d n r e with e | e
    · rw [hfr n (Nat.le_trans hle h1)] at e; cases e
    · omega
theorem gc_wf {keep : List Nat} {st : St} (hwf : Wf st) : Wf (gc keep st) := fun n hn => by
  cases h : (gc keep st).h.get n with
  | none => rfl
  | some b => have := gc_sub h; rw [hwf n hn] at this; cases this
theorem GoodL.gc {l : List Code} {e : Env} {st : St} {keep : List Nat} (k : GoodL P fn l e (Ev.gc keep st)) : GoodL P fn l e st := fun hwf B0 ρ τ w0 w a he ht hd hag hre hfr hb =>
  k (gc_wf hwf) B0 ρ τ w0 w a he ht hd (fun n b h1 h2 => hag n b h1 (gc_sub h2)) hre hfr hb
theorem GoodLR.gc {k : Nat} {b : Code} {l : List Code} {n : Nat} {e : Env} {st : St} {keep : List Nat} (g : GoodLR P fn k b l n e (Ev.gc keep st)) : GoodLR P fn k b l n e st := fun hwf B0 ρ τ w0 w a he ht hd hag hre hfr hb =>
  g (gc_wf hwf) B0 ρ τ w0 w a he ht hd (fun n b h1 h2 => hag n b h1 (gc_sub h2)) hre hfr hb
theorem GoodL.run {G : CodeF} (hG : CodeSound P G) : ∀ {m : Nat} {l : List Code} {e e1 : Env} {st st1 : St}, runS G ⟨false, [], 0, fn.ntmps⟩ m l e st = some (e1, st1) → GoodL P fn (dropL m l) e1 st1 → GoodL P fn l e st
  | 0, l, e, e1, st, st1, h, k => by
    have h' : (some (e, st) : Option (Env × St)) = some (e1, st1) := h
    injection h' with h'; injection h' with h1 h2; subst h1 h2
    exact k
  | m + 1, [], e, e1, st, st1, h, k => by cases h
  | m + 1, a :: l, e, e1, st, st1, h, k => by
    have h' : (match G ⟨false, [], 0, fn.ntmps⟩ a e st with
        | some (.n, e, st) => runS G ⟨false, [], 0, fn.ntmps⟩ m l e st
        | _ => none) = some (e1, st1) := h
    have k' : GoodL P fn (dropL m l) e1 st1 := k
    clear h k
    split at h'
    · rename_i e2 st2 hev
      have g2 := GoodL.run hG h' k'
      intro hwf B0 ρ τ w0 w a' he ht hd hag hre hfr hb
      obtain ⟨s1, k1⟩ := hG _ _ _ _ _ _ _ hev hwf
      show Code.wp P a _ a' w
      refine k1 B0 ρ τ w a' he ht hag hre (fun n h1 _ => hfr n h1) _ ?_
      intro ρ' a2 w2 l d he2 ht2 hd2 m2 b2
      exact g2 (s1.wf hwf) B0 ρ' _ w0 w2 a2 he2 ht2 (hd2.trans hd) (hag.step s1 hwf) m2 (dom_none hfr s1.le d) (hb.trans b2)
    · cases h'
theorem GoodL.step {G : CodeF} (hG : CodeSound P G) {m : Nat} {l : List Code} {keep : List Nat} {e e1 : Env} {st st1 : St} (h : stepS G ⟨false, [], 0, fn.ntmps⟩ m l keep e st = some (e1, st1)) (k : GoodL P fn (dropL m l) e1 st1) : GoodL P fn l e st := by
  unfold stepS at h
  split at h
  · rename_i e2 st2 hr
    injection h with h; injection h with h1 h2; subst h1 h2
    exact GoodL.run hG hr k.gc
  · cases h
theorem GoodL.ret {G : CodeF} (hG : CodeSound P G) {x : Code} {l : List Code} {e : Env} {st : St} (h : (match G ⟨false, [], 0, fn.ntmps⟩ x e st with
      | some (.ret, e, st) => (match resOf P ⟨false, [], 0, fn.ntmps⟩ e st fn.results.toList fun l => (match l with | [x] => some (x, st) | l => some (.t l, st)) with | some (.c (.bool true), _) => true | _ => false)
      | _ => false) = true) : GoodL P fn (x :: l) e st := by
  split at h
  · rename_i e1 st1 hev
    have hl : lastC P G fn x e st = true := by
      unfold lastC
      rw [hev]
      exact h
    have g := Good.last hG hl
    intro hwf B0 ρ τ w0 w a he ht hd hag hre hfr hb
    obtain ⟨s1, k1⟩ := hG _ _ _ _ _ _ _ hev hwf
    have g1 := g hwf B0 ρ τ w0 w a he ht hd hag hre hfr hb
    show Code.wp P x _ a w
    refine k1 B0 ρ τ w a he ht hag hre (fun n h1 _ => hfr n h1) _ ?_
    intro ρ' a2 w2 l d he2 ht2 hd2 m2 b2
    show Fin P fn B0 w0 .ret a2 w2
    split at h
    · rename_i st2 hres
      obtain ⟨rs, h3, h4⟩ := resOf_ok hres
      obtain ⟨xs, q1, q2⟩ := h4 B0 ρ' _ w2 a2 he2 (hag.step s1 hwf) m2
      split at h3
      · obtain ⟨rfl, _⟩ := some_inv h3
        obtain ⟨yv, rfl, hy⟩ := relL1 q1
        simp only [Rel] at hy
        obtain ⟨rfl, _⟩ := hy
        refine ⟨.inr rfl, hd2.trans hd, ?_, hb.trans b2⟩
        have hmap : (fn.results.mapM fun x => (match x with | .tmp t => pure (a2.tmps.getD t undef) | .cell q t => do loadVar t (← asAddr (a2.tmps.getD q undef)) : Sem Value)).run P w2 = .ok [Value.bool true].toArray w2 := by
          have q2' : (fn.results.toList.mapM fun x => (match x with | .tmp t => pure (a2.tmps.getD t undef) | .cell q t => do loadVar t (← asAddr (a2.tmps.getD q undef)) : Sem Value)).run P w2 = .ok [Value.bool true] w2 := q2
          rw [Array.mapM_eq_mapM_toList]
          simp only [Sem.run_map, q2', Result.andThen_ok]
        unfold results
        rw [Sem.run_bind]
        exact congrArg (fun r : Result (Array Value) => r.andThen fun vs w' => (pure (if h : vs.size = 1 then vs[0] else .tuple vs) : Sem Value).run P w') hmap
      · have := (some_inv h3).1
        cases this
    · cases h
  · cases h
theorem GoodL.last {G : CodeF} (hG : CodeSound P G) {m : Nat} {l : List Code} {e : Env} {st : St} (h : lastS P G fn m l e st = true) : GoodL P fn l e st := by
  unfold lastS at h
  split at h
  · rename_i e1 st1 hr
    split at h
    · rename_i x l' hd
      exact GoodL.run hG hr (by rw [hd]; exact GoodL.ret hG h)
    · cases h
  · cases h
theorem GoodLR.enter {k : Nat} {b : Code} {l : List Code} {n : Nat} {e : Env} {st : St} (g : GoodLR P fn k b l n e st) : GoodL P fn (.block k (.loop b) :: l) e st := fun hwf B0 ρ τ w0 w a he ht hd hag hre hfr hb =>
  wp_block (wp_loop_rounds n (g hwf B0 ρ τ w0 w a he ht hd hag hre hfr hb))
theorem GoodLR.run {G : CodeF} (hG : CodeSound P G) {k : Nat} {b : Code} {l : List Code} {n : Nat} : ∀ {m : Nat} {e e1 : Env} {st st1 : St}, runR G ⟨false, [], 0, fn.ntmps⟩ m b e st = some (e1, st1) → GoodLR P fn k b l n e1 st1 → GoodLR P fn k b l (n + m) e st
  | 0, e, e1, st, st1, h, g => by
    have h' : (some (e, st) : Option (Env × St)) = some (e1, st1) := h
    injection h' with h'; injection h' with h1 h2; subst h1 h2
    exact g
  | m + 1, e, e1, st, st1, h, g => by
    have h' : (match G ⟨false, [], 0, fn.ntmps⟩ b e st with
      | some (.n, e, st) => runR G ⟨false, [], 0, fn.ntmps⟩ m b e st
      | _ => none) = some (e1, st1) := h
    clear h
    split at h'
    · rename_i e2 st2 hev
      have g2 := GoodLR.run hG h' g
      intro hwf B0 ρ τ w0 w a' he ht hd hag hre hfr hb
      obtain ⟨s1, k1⟩ := hG _ _ _ _ _ _ _ hev hwf
      show Code.rounds P b _ ((n + m) + 1) a' w
      rw [rounds_succ]
      refine k1 B0 ρ τ w a' he ht hag hre (fun n h1 _ => hfr n h1) _ ?_
      intro ρ' a2 w2 l d he2 ht2 hd2 m2 b2
      exact g2 (s1.wf hwf) B0 ρ' _ w0 w2 a2 he2 ht2 (hd2.trans hd) (hag.step s1 hwf) m2 (dom_none hfr s1.le d) (hb.trans b2)
    · cases h'
theorem GoodLR.step {G : CodeF} (hG : CodeSound P G) {k : Nat} {b : Code} {l : List Code} {m : Nat} {keep : List Nat} {e e1 : Env} {st st1 : St} (h : stepR G ⟨false, [], 0, fn.ntmps⟩ m b keep e st = some (e1, st1)) (g : ∃ n, GoodLR P fn k b l n e1 st1) : ∃ n, GoodLR P fn k b l n e st := by
  obtain ⟨n, g⟩ := g
  unfold stepR at h
  split at h
  · rename_i e2 st2 hr
    injection h with h; injection h with h1 h2; subst h1 h2
    exact ⟨_, GoodLR.run hG hr g.gc⟩
  · cases h
theorem GoodLR.exit {G : CodeF} (hL : LoopSound P G) {k : Nat} {b : Code} {l : List Code} {keep : List Nat} {e e1 : Env} {st st1 : St} (h : exitR G ⟨false, [], 0, fn.ntmps⟩ k b keep e st = some (e1, st1)) (g : GoodL P fn l e1 st1) : ∃ n, GoodLR P fn k b l n e st := by
  unfold exitR at h
  split at h
  · rename_i j e2 st2 hev
    split at h
    · rename_i hj
      have hj' : j = k := by simpa [nbeq] using hj
      subst hj'
      injection h with h; injection h with h1 h2; subst h1 h2
      have g2 := g.gc
      by_cases hwf : Wf st
      · obtain ⟨n, s1, k1⟩ := hL _ _ _ _ _ _ _ hev hwf
        refine ⟨n, fun _ B0 ρ τ w0 w a' he ht hd hag hre hfr hb => k1 B0 ρ τ w a' he ht hag hre (fun n h1 _ => hfr n h1) _ ?_⟩
        intro ρ' a2 w2 l d he2 ht2 hd2 m2 b2
        show Exit.inBlock j _ (.exit j) a2 w2
        simp only [Exit.inBlock, if_true]
        exact g2 (s1.wf hwf) B0 ρ' _ w0 w2 a2 he2 ht2 (hd2.trans hd) (hag.step s1 hwf) m2 (dom_none hfr s1.le d) (hb.trans b2)
      · exact ⟨0, fun h => absurd h hwf⟩
    · cases h
  · cases h
noncomputable def lbL (l : List Code) : Code := match l with | .block _ (.loop b) :: _ => b | _ => .skip
theorem GoodL.loop {k : Nat} {l : List Code} {e : Env} {st : St} (hl : l = .block k (.loop (lbL l)) :: dropL 1 l) (g : ∃ n, GoodLR P fn k (lbL l) (dropL 1 l) n e st) : GoodL P fn l e st := by
  obtain ⟨n, g⟩ := g
  rw [hl]
  exact g.enter
/-- the whole body -/
theorem GoodL.good {B : Code} {e : Env} {st : St} (g : GoodL P fn (flat B) e st) : Good P fn B e st := fun hwf B0 ρ τ w0 w a he ht hd hag hre hfr hb => by
  have h := flat_wp (Q := Fin P fn B0 w0) B [] a w (by rw [List.append_nil]; exact g hwf B0 ρ τ w0 w a he ht hd hag hre hfr hb)
  refine wp_mono h fun ex a w h => ?_
  cases ex <;> exact h
end
end Go.Proofs.YtlonobfpogimgaaGreatDoor.Ev

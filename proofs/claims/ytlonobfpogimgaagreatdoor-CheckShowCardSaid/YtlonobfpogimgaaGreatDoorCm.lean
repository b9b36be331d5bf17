/-
  PLAIN: pieces anywhere, also inside of calls: the state of a run with what is still to come: statements, blocks, loops, operations, callers.
-/
import Derived.Test.YtlonobfpogimgaaGreatDoorCl
namespace Go.Proofs.YtlonobfpogimgaaGreatDoor.Ev
open Go.RowKit

/-- in a loop, ahead of a round -/
def LoopW (P : Program) (c : Code) (Q : Exit → Act → World → Prop) (a : Act) (w : World) : Prop :=
  ∀ b k cs, ∃ e a' w', Q e a' w' ∧ Arrives P (lone (b.at a (.code c :: .inLoop c :: k)) cs w) b k cs e a' w'
theorem LoopW.enter {P : Program} {Q : Exit → Act → World → Prop} {a : Act} {w : World} {c : Code} (h : LoopW P c Q a w) : (Code.loop c).wp P Q a w := fun b k cs => by
  obtain ⟨e, a', w', hq, harr⟩ := h b k cs
  exact ⟨e, a', w', hq, .of_steps (.one step_loop) harr⟩
theorem LoopW.unfold {P : Program} {Q : Exit → Act → World → Prop} {a : Act} {w : World} {c : Code} (h : c.wp P (Exit.then (LoopW P c Q) Q) a w) : LoopW P c Q a w := by
  intro b k cs
  obtain ⟨e, a₁, w₁, hq, harr⟩ := h b (.inLoop c :: k) cs
  cases e with
  | normal =>
    obtain ⟨e₂, a₂, w₂, hq₂, harr₂⟩ := hq b k cs
    exact ⟨e₂, a₂, w₂, hq₂, .of_steps (Steps.trans harr (.one step_inLoop)) harr₂⟩
  | exit id => exact ⟨_, a₁, w₁, hq, .pass (x := .inLoop c) rfl (fun _ _ => .inl (by simp)) harr⟩
  | goto l => exact ⟨_, a₁, w₁, hq, .pass (x := .inLoop c) rfl (fun _ _ => .inl (by simp)) harr⟩
  | ret => exact ⟨_, a₁, w₁, hq, .pass (x := .inLoop c) rfl (fun _ _ => .inl (by simp)) harr⟩
  | panic ch => exact ⟨_, a₁, w₁, hq, .pass (x := .inLoop c) rfl (fun _ _ => .inl (by simp)) harr⟩
  | outgrown => exact ⟨_, a₁, w₁, hq, .pass (x := .inLoop c) rfl (fun _ _ => .inl (by simp)) harr⟩

inductive Fr where
  | sq (l : List Code)
  | bk (k : Nat)
  | lp (b : Code)
  | op (ops : Array Oper) (l : List Oper)
  | cl (fn : Func) (e : Env) (nt : Nat) (d : Option Nat)
def never : Exit → Act → World → Prop := fun _ _ _ => False
/-- what comes behind -/
def kont (P : Program) (F : Exit → Act → World → Prop) : List Fr → List Act → Exit → Act → World → Prop
  | [], _ => F
  | .sq l :: S, as => Exit.then (wpL P (kont P F S as) l) (kont P F S as)
  | .bk k :: S, as => Exit.inBlock k (kont P F S as)
  | .lp b :: S, as => Exit.then (LoopW P b (kont P F S as)) (kont P F S as)
  | .op ops l :: S, as => Exit.then (wpList P ops (kont P F S as) l) never
  | .cl fn _ _ d :: S, a :: as => fun ex a' w => (ex = .normal ∨ ex = .ret) ∧ a'.defers = [] ∧ ∃ v, (results fn a'.tmps).run P w = .ok v w ∧ kont P F S as .normal (a.put d v) w
  | .cl .. :: _, [] => never
def StRel (ρ : Rho) : List Fr → List Act → Prop
  | [], _ => True
  | .cl _ e nt d :: S, a :: as => EnvRel ρ e a ∧ nt ≤ a.tmps.size ∧ a.defers = [] ∧ (∀ u, d = some u → u < nt) ∧ StRel ρ S as
  | .cl .. :: _, [] => False
  | .sq _ :: S, as => StRel ρ S as
  | .bk _ :: S, as => StRel ρ S as
  | .lp _ :: S, as => StRel ρ S as
  | .op _ _ :: S, as => StRel ρ S as
theorem StRel.mono {ρ ρ' : Rho} (hρ : ρ.le ρ') : ∀ (S : List Fr) (as : List Act), StRel ρ S as → StRel ρ' S as
  | [], _, _ => trivial
  | .cl _ _ _ _ :: S, _ :: as, h => ⟨h.1.mono hρ, h.2.1, h.2.2.1, h.2.2.2.1, StRel.mono hρ S as h.2.2.2.2⟩
  | .cl .. :: _, [], h => h
  | .sq _ :: S, as, h => StRel.mono hρ S as h
  | .bk _ :: S, as, h => StRel.mono hρ S as h
  | .lp _ :: S, as, h => StRel.mono hρ S as h
  | .op _ _ :: S, as, h => StRel.mono hρ S as h
/-- what lay below the first name and was not told stays untold -/
def Old (st0 st : St) : Prop := ∀ n, n < st0.nx → st0.h.get n = none → st.h.get n = none
def Inv (st0 st : St) (τ0 τ : Mem) : Prop := ∀ n, (n < st0.nx ∧ st0.h.get n = none) ∨ st.nx ≤ n → τ n = τ0 n
/-- how a run stands to its beginning -/
structure At (st0 st1 st : St) (B0 : Nat) (ρ0 ρ : Rho) (τ0 τ : Mem) (w0 w : World) : Prop where
  free : ∀ n, st0.nx ≤ n → n < st1.nx → ρ0 n = none
  le : ρ0.le ρ
  dom : ∀ n r, ρ n = some r → ρ0 n = some r ∨ (st0.nx ≤ n ∧ n < st.nx)
  inv : Inv st0 st τ0 τ
  agr : Agree ⟨false, [], 0, 0⟩ st τ
  real : Real ρ B0 τ w
  bel : Below B0 w0 w
theorem At.fresh {st0 st1 st st' : St} {B0 : Nat} {ρ0 ρ : Rho} {τ0 τ : Mem} {w0 w : World} (h : At st0 st1 st B0 ρ0 ρ τ0 τ w0 w) (h0 : st0.nx ≤ st.nx) (k : st'.nx ≤ st1.nx) : Fresh ρ st st' := fun n h1 h2 => by
  cases e : ρ n with
  | none => rfl
  | some r =>
    rcases h.dom n r e with e | e
    · rw [h.free n (by omega) (by omega)] at e; cases e
    · omega
theorem At.step {st0 st1 st st' : St} {nt : Nat} {B0 : Nat} {ρ0 ρ ρ' : Rho} {τ0 τ : Mem} {w0 w w' : World} (h : At st0 st1 st B0 ρ0 ρ τ0 τ w0 w) (hwf : Wf st) (ho : Old st0 st) (h0 : st0.nx ≤ st.nx) (s : StepOk ⟨false, [], 0, nt⟩ st st') (l : ρ.le ρ') (d : Dom ρ ρ' st st') (m : Real ρ' B0 (ov st st' τ) w') (b : Below B0 w w') : At st0 st1 st' B0 ρ0 ρ' τ0 (ov st st' τ) w0 w' := by
  refine ⟨h.free, h.le.trans l, fun n r e => ?_, fun n hn => ?_, ?_, m, h.bel.trans b⟩
  · rcases d n r e with e | e
    · rcases h.dom n r e with e | e
      · exact .inl e
      · exact .inr ⟨e.1, Nat.lt_of_lt_of_le e.2 s.le⟩
    · exact .inr ⟨Nat.le_trans h0 e.1, e.2⟩
  · have hle := s.le
    have e : ov st st' τ n = τ n := by
      unfold ov
      rcases hn with hn | hn
      · rw [if_neg (by omega)]
        by_cases hq : st.h.get n = st'.h.get n
        · rw [if_pos hq]
        · exact absurd (ho n hn.1 hn.2) (s.chg n (by omega) hq).2.1
      · rw [if_neg (by omega), if_pos (by rw [hwf n (by omega), s.wf hwf n hn])]
    rw [e]
    refine h.inv n ?_
    rcases hn with hn | hn
    · exact .inl hn
    · exact .inr (Nat.le_trans s.le hn)
  · have s' : StepOk ⟨false, [], 0, 0⟩ st st' := ⟨s.le, s.chg, s.wf, s.live⟩
    exact h.agr.step s' hwf
theorem Old.step {st0 st st' : St} {c : Cx} (h : Old st0 st) (h0 : st0.nx ≤ st.nx) (s : StepOk c st st') : Old st0 st' := fun n h1 h2 => by
  have e := h n h1 h2
  by_cases hq : st.h.get n = st'.h.get n
  · rw [← hq]; exact e
  · exact absurd e (s.chg n (by omega) hq).2.1
def Ended (P : Program) (fn : Func) (st0 : St) (v : V) (st1 : St) (B0 : Nat) (ρ0 : Rho) (τ0 : Mem) (w0 : World) (F : Exit → Act → World → Prop) : Prop :=
  ∀ (ρ : Rho) (τ : Mem) (w : World) (a : Act) (ex : Exit) (v' : Value), At st0 st1 st1 B0 ρ0 ρ τ0 τ w0 w → (ex = .normal ∨ ex = .ret) → a.defers = [] → Rel ρ v v' → (results fn a.tmps).run P w = .ok v' w → F ex a w
def GoodM (P : Program) (fn : Func) (st0 : St) (v : V) (st1 : St) (S : List Fr) (nt : Nat) (l : List Code) (e : Env) (st : St) : Prop := Wf st → Old st0 st → st0.nx ≤ st.nx → (st.nx ≤ st1.nx ∧ Old st0 st1 ∧ Wf st1) ∧
  ∀ (B0 : Nat) (ρ0 : Rho) (τ0 : Mem) (w0 : World) (ρ : Rho) (τ : Mem) (w : World) (as : List Act) (a : Act) (F : Exit → Act → World → Prop), At st0 st1 st B0 ρ0 ρ τ0 τ w0 w → StRel ρ S as → EnvRel ρ e a → nt ≤ a.tmps.size → a.defers = [] → Ended P fn st0 v st1 B0 ρ0 τ0 w0 F → wpL P (kont P F S as) l a w
section
variable {P : Program} {fn : Func} {st0 st1 : St} {v : V} {S : List Fr} {nt : Nat} {l : List Code} {e : Env} {st : St}
theorem GoodM.gc {keep : List Nat} (k : GoodM P fn st0 v st1 S nt l e (Ev.gc keep st)) : GoodM P fn st0 v st1 S nt l e st := fun hwf ho h0 => by
  have ho' : Old st0 (Ev.gc keep st) := fun n h1 h2 => by
    cases h : (Ev.gc keep st).h.get n with
    | none => rfl
    | some b => have := gc_sub h; rw [ho n h1 h2] at this; cases this
  obtain ⟨k1, k2⟩ := k (gc_wf hwf) ho' h0
  exact ⟨k1, fun B0 ρ0 τ0 w0 ρ τ w as a F h hs he ht hd hF => k2 B0 ρ0 τ0 w0 ρ τ w as a F ⟨h.free, h.le, h.dom, h.inv, fun n b h1 h2 => h.agr n b h1 (gc_sub h2), h.real, h.bel⟩ hs he ht hd hF⟩
theorem GoodM.run {G : CodeF} (hG : CodeSound P G) : ∀ {m : Nat} {l : List Code} {e e1 : Env} {st st2 : St}, runS G ⟨false, [], 0, nt⟩ m l e st = some (e1, st2) → GoodM P fn st0 v st1 S nt (dropL m l) e1 st2 → GoodM P fn st0 v st1 S nt l e st
  | 0, l, e, e1, st, st2, h, k => by
    have h' : (some (e, st) : Option (Env × St)) = some (e1, st2) := h
    injection h' with h'; injection h' with h1 h2; subst h1 h2
    exact k
  | m + 1, [], e, e1, st, st2, h, k => by cases h
  | m + 1, a :: l, e, e1, st, st2, h, k => by
    have h' : (match G ⟨false, [], 0, nt⟩ a e st with
        | some (.n, e, st) => runS G ⟨false, [], 0, nt⟩ m l e st
        | _ => none) = some (e1, st2) := h
    have k' : GoodM P fn st0 v st1 S nt (dropL m l) e1 st2 := k
    clear h k
    split at h'
    · rename_i e2 st3 hev
      have g2 := GoodM.run hG h' k'
      intro hwf ho h0
      obtain ⟨s1, k1⟩ := hG _ _ _ _ _ _ _ hev hwf
      obtain ⟨q1, q2⟩ := g2 (s1.wf hwf) (ho.step h0 s1) (Nat.le_trans h0 s1.le)
      refine ⟨⟨Nat.le_trans s1.le q1.1, q1.2⟩, fun B0 ρ0 τ0 w0 ρ τ w as a' F h hs he ht hd hF => ?_⟩
      show Code.wp P a _ a' w
      refine k1 B0 ρ τ w a' he ht (fun n b h1 h2 => h.agr n b h1 h2) h.real (h.fresh h0 q1.1) _ ?_
      intro ρ' a2 w2 l d he2 ht2 hd2 m2 b2
      exact q2 B0 ρ0 τ0 w0 ρ' _ w2 as a2 F (h.step hwf ho h0 s1 l d m2 b2) (hs.mono l) he2 ht2 (hd2.trans hd) hF
    · cases h'
theorem GoodM.step {G : CodeF} (hG : CodeSound P G) {m : Nat} {keep : List Nat} {e1 : Env} {st2 : St} (h : stepS G ⟨false, [], 0, nt⟩ m l keep e st = some (e1, st2)) (k : GoodM P fn st0 v st1 S nt (dropL m l) e1 st2) : GoodM P fn st0 v st1 S nt l e st := by
  unfold stepS at h
  split at h
  · rename_i e2 st3 hr
    injection h with h; injection h with h1 h2; subst h1 h2
    exact GoodM.run hG hr k.gc
  · cases h
/-! ### along the code -/
noncomputable def popEx (k : Nat) (S : List Fr) : Option (List Fr) := lr none (fun x S ih => match x with
  | .sq _ => ih
  | .lp _ => ih
  | .bk j => (match Nat.beq k j with | true => some S | false => ih)
  | _ => none) S
noncomputable def popRt (S : List Fr) : List Fr := lr [] (fun x S ih => match x with
  | .sq _ => ih
  | .lp _ => ih
  | .bk _ => ih
  | x => x :: S) S
theorem popEx_ok {F : Exit → Act → World → Prop} {k : Nat} {as : List Act} {a : Act} {w : World} : ∀ {S S' : List Fr}, popEx k S = some S' → kont P F S' as .normal a w → kont P F S as (.exit k) a w
  | [], _, h, _ => by cases h
  | .sq _ :: S, S', h, g => popEx_ok (S := S) (S' := S') h g
  | .lp _ :: S, S', h, g => popEx_ok (S := S) (S' := S') h g
  | .bk j :: S, S', h, g => by
    have h' : (match Nat.beq k j with | true => some S | false => popEx k S) = some S' := h
    show Exit.inBlock j _ (.exit k) a w
    split at h'
    · rename_i hj
      have hj' : k = j := by simpa [nbeq] using hj
      injection h' with h'
      subst h' hj'
      simp only [Exit.inBlock, if_true]
      exact g
    · rename_i hj
      have hj' : ¬ k = j := by simpa [nbeq] using hj
      simp only [Exit.inBlock, hj', if_false]
      exact popEx_ok h' g
  | .op _ _ :: _, _, h, _ => by cases h
  | .cl _ _ _ _ :: _, _, h, _ => by cases h
theorem popEx_st {ρ : Rho} {k : Nat} {as : List Act} : ∀ {S S' : List Fr}, popEx k S = some S' → StRel ρ S as → StRel ρ S' as
  | [], _, h, _ => by cases h
  | .sq _ :: S, S', h, g => popEx_st (S := S) (S' := S') h g
  | .lp _ :: S, S', h, g => popEx_st (S := S) (S' := S') h g
  | .bk j :: S, S', h, g => by
    have h' : (match Nat.beq k j with | true => some S | false => popEx k S) = some S' := h
    split at h'
    · injection h' with h'
      subst h'
      exact g
    · exact popEx_st (S := S) h' g
  | .op _ _ :: _, _, h, _ => by cases h
  | .cl _ _ _ _ :: _, _, h, _ => by cases h
theorem popRt_ok {F : Exit → Act → World → Prop} {as : List Act} {a : Act} {w : World} : ∀ {S : List Fr}, kont P F (popRt S) as .ret a w → kont P F S as .ret a w
  | [], g => g
  | .sq _ :: S, g => popRt_ok (S := S) g
  | .lp _ :: S, g => popRt_ok (S := S) g
  | .bk _ :: S, g => popRt_ok (S := S) g
  | .op _ _ :: _, g => g
  | .cl _ _ _ _ :: _, g => g
theorem popRt_st {ρ : Rho} {as : List Act} : ∀ {S : List Fr}, StRel ρ S as → StRel ρ (popRt S) as
  | [], g => g
  | .sq _ :: S, g => popRt_st (S := S) g
  | .lp _ :: S, g => popRt_st (S := S) g
  | .bk _ :: S, g => popRt_st (S := S) g
  | .op _ _ :: _, g => g
  | .cl _ _ _ _ :: _, g => g
noncomputable def nav1 (e : Env) (S : List Fr) (l : List Code) : List Fr × List Code := match l with
  | [] => (match S with
    | .sq l :: S => (S, l)
    | .bk _ :: S => (S, [])
    | .lp b :: S => (.lp b :: S, flat b)
    | .op _ [] :: S => (S, [])
    | _ => (S, []))
  | .skip :: l => (S, l)
  | .label _ :: l => (S, l)
  | .seq a b :: l => (S, flat (.seq a b) ++ l)
  | .block k b :: l => (.bk k :: .sq l :: S, flat b)
  | .loop b :: l => (.lp b :: .sq l :: S, flat b)
  | .cond x a b :: l => (match (opd e x some : Option V) with
    | some (.c (.bool true)) => (S, flat a ++ l)
    | some (.c (.bool false)) => (S, flat b ++ l)
    | _ => (S, .cond x a b :: l))
  | .exit k :: l => (match popEx k S with
    | some S => (S, [])
    | none => (S, .exit k :: l))
  | .region _ ops false :: l => (.op ops ops.toList :: .sq l :: S, [])
  | l => (S, l)
noncomputable def navs (n : Nat) (e : Env) (S : List Fr) (l : List Code) : List Fr × List Code := nr (fun S l => (S, l)) (fun _ ih S l => Prod.rec (motive := fun _ => List Fr × List Code) (fun S l => ih S l) (nav1 e S l)) n S l
theorem flat_wpL {Q : Exit → Act → World → Prop} (c : Code) (l : List Code) (a : Act) (w : World) (h : wpL P Q (flat c ++ l) a w) : wpL P Q (c :: l) a w := flat_wp c l a w h
theorem flat_wp1 {Q : Exit → Act → World → Prop} (c : Code) (a : Act) (w : World) (h : wpL P Q (flat c) a w) : c.wp P Q a w := by
  have h1 := flat_wp (Q := Q) c [] a w (by rw [List.append_nil]; exact h)
  exact wp_mono h1 fun ex a w h => by cases ex <;> exact h
theorem GoodM.navOne (k : GoodM P fn st0 v st1 (nav1 e S l).1 nt (nav1 e S l).2 e st) : GoodM P fn st0 v st1 S nt l e st := by
  intro hwf ho h0
  obtain ⟨q1, q2⟩ := k hwf ho h0
  refine ⟨q1, fun B0 ρ0 τ0 w0 ρ τ w as a F hat hs he ht hd hF => ?_⟩
  clear k
  have k := fun h => q2 B0 ρ0 τ0 w0 ρ τ w as a F hat h he ht hd hF
  clear q2
  match l, S, hs, k with
  | [], [], hs, k => exact k hs
  | [], .sq l :: S, hs, k => exact k hs
  | [], .bk j :: S, hs, k => exact k hs
  | [], .lp b :: S, hs, k => exact LoopW.unfold (flat_wp1 b a w (k hs))
  | [], .op ops [] :: S, hs, k => exact k hs
  | [], .op ops (o :: r) :: S, hs, k => exact k hs
  | [], .cl fn e nt d :: S, hs, k => exact k hs
  | .skip :: l, S, hs, k => exact wp_skip (k hs)
  | .label _ :: l, S, hs, k => exact wp_label (k hs)
  | .seq x y :: l, S, hs, k => exact flat_wpL _ _ _ _ (k hs)
  | .block j b :: l, S, hs, k => exact wp_block (flat_wp1 b a w (k hs))
  | .loop b :: l, S, hs, k => exact LoopW.enter (LoopW.unfold (flat_wp1 b a w (k hs)))
  | .cond x c1 c2 :: l, S, hs, k =>
    have hx : nav1 e S (.cond x c1 c2 :: l) = (match (opd e x some : Option V) with
      | some (.c (.bool true)) => (S, flat c1 ++ l)
      | some (.c (.bool false)) => (S, flat c2 ++ l)
      | _ => (S, .cond x c1 c2 :: l)) := rfl
    rw [hx] at k
    split at k
    · rename_i ho
      obtain ⟨v, h1, h2⟩ := opd_inv ho
      injection h1 with h1; subst h1
      exact wp_cond_true (rel_true (h2 ρ a (he.tmp x))) (flat_wp _ _ _ _ (k hs))
    · rename_i ho
      obtain ⟨v, h1, h2⟩ := opd_inv ho
      injection h1 with h1; subst h1
      exact wp_cond_false (rel_true (h2 ρ a (he.tmp x))) (flat_wp _ _ _ _ (k hs))
    · exact k hs
  | .exit j :: l, S, hs, k =>
    have hx : nav1 e S (.exit j :: l) = (match popEx j S with
      | some S => (S, [])
      | none => (S, .exit j :: l)) := rfl
    rw [hx] at k
    split at k
    · rename_i S' hp
      exact wp_exit (popEx_ok hp (k (popEx_st hp hs)))
    · exact k hs
  | .ret :: l, S, hs, k => exact k hs
  | .region i ops false :: l, S, hs, k => exact wp_region_list (k hs)
  | .region i ops true :: l, S, hs, k => exact k hs
  | .rangeFunc _ _ _ _ :: l, S, hs, k => exact k hs
  | .scope _ :: l, S, hs, k => exact k hs
  | .goto _ :: l, S, hs, k => exact k hs
  | .refuse _ :: l, S, hs, k => exact k hs
theorem GoodM.nav : ∀ {n : Nat} {S : List Fr} {l : List Code}, GoodM P fn st0 v st1 (navs n e S l).1 nt (navs n e S l).2 e st → GoodM P fn st0 v st1 S nt l e st
  | 0, _, _, k => k
  | n + 1, _, _, k => GoodM.navOne (GoodM.nav (n := n) k)
/-! ### operations -/
theorem evOps_app {call : CallF} {c : Cx} {e' : Env} {st' : St} (hs : CallSound P call) (hn : Named P) (hb : HasBody P call) {ops : Array Oper} {l2 : List Oper} :
    ∀ {l : List Oper} {e : Env} {st : St}, evOps P call c ops.toList l e st = some (e', st') → Wf st → StepOk c st st' ∧
      ∀ (B0 : Nat) (ρ : Rho) (τ : Mem) (w : World) (a : Act), EnvRel ρ e a → c.nt ≤ a.tmps.size → Agree c st τ → Real ρ B0 τ w → Fresh ρ st st' → ∀ Q : Exit → Act → World → Prop, Cont c st st' e' B0 ρ τ w a (wpList P ops Q l2) → wpList P ops Q (l ++ l2) a w
  | [], e, st, h, _ => by
    have h' : (some (e, st) : Option (Env × St)) = some (e', st') := h
    injection h' with h'; injection h' with h1 h2; subst h1 h2
    exact ⟨.refl _ _, fun B0 ρ τ w a he ht hag hre _ Q hQ => hQ ρ a w (Rho.le_refl _) (Dom.refl _ _ _) he ht rfl (by rw [ov_self]; exact hre) (Below.refl _ _)⟩
  | o :: l, e, st, h, hwf => by
    have h' : (match wants e ops.toList o with
      | true => match evOp P call c e st o with
        | none => none
        | some (v, st) => putK c e o.dst v fun e => evOps P call c ops.toList l e st
      | false => putK c e o.dst .u fun e => evOps P call c ops.toList l e st) = some (e', st') := h
    split at h'
    · rename_i hw
      split at h'
      · cases h'
      · rename_i v st1 hop
        obtain ⟨hd, h2⟩ := putK_inv h'
        obtain ⟨s1, k1⟩ := evOp_ok hs hn hb hwf hop
        obtain ⟨s2, k2⟩ := evOps_app (l2 := l2) hs hn hb h2 (s1.wf hwf)
        refine ⟨s1.trans s2, fun B0 ρ τ w a he ht hag hre hf Q hQ => ?_⟩
        simp only [List.cons_append, wpList]
        rw [wants_eq (ρ := ρ) (e := e) fun j w oj t _ _ _ => he t, hw, if_pos rfl]
        refine .inl (k1 B0 ρ τ w a (fun x _ => he.tmp x) hag hre (hf.left s2.le) _ _ fun ρ1 v1 w1 l1 d1 r1 m1 b1 => ?_)
        refine k2 B0 ρ1 _ w1 _ ((he.mono l1).put r1 fun u hu => Nat.lt_of_lt_of_le (hd u hu) ht) (by rw [put_size]; exact ht) (hag.step s1 hwf) m1 (hf.right s1.le d1) Q ?_
        intro ρ2 a2 w2 l2 d2 he2 ht2 hd2 m2 b2
        exact hQ ρ2 a2 w2 (l1.trans l2) (d1.trans d2 s1.le s2.le) he2 ht2 (hd2.trans (put_defers _ _ _)) (by rw [ov_trans s1 s2 hwf hag] at m2; exact m2) (b1.trans b2)
    · rename_i hw
      obtain ⟨hd, h2⟩ := putK_inv h'
      obtain ⟨s2, k2⟩ := evOps_app (l2 := l2) hs hn hb h2 hwf
      refine ⟨s2, fun B0 ρ τ w a he ht hag hre hf Q hQ => ?_⟩
      simp only [List.cons_append, wpList]
      rw [wants_eq (ρ := ρ) (e := e) fun j w oj t _ _ _ => he t, hw, if_neg (by simp)]
      refine k2 B0 ρ τ w _ (he.put rel_u fun u hu => Nat.lt_of_lt_of_le (hd u hu) ht) (by rw [put_size]; exact ht) hag hre hf Q ?_
      intro ρ2 a2 w2 l2 d2 he2 ht2 hd2 m2 b2
      exact hQ ρ2 a2 w2 l2 d2 he2 ht2 (hd2.trans (put_defers _ _ _)) m2 b2
noncomputable def opsA (P : Program) (F : CallF) (nt j : Nat) (keep : List Nat) (S : List Fr) (e : Env) (st : St) : Option (Env × St) := match S with
  | .op ops l :: _ => (match evOpsQ P F ⟨false, [], 0, nt⟩ ops.toList (l.take j) e st with
    | some (e, st) => some (e, gc keep st)
    | none => none)
  | _ => none
noncomputable def opsS (j : Nat) (S : List Fr) : List Fr := match S with
  | .op ops l :: S => .op ops (l.drop j) :: S
  | S => S
theorem GoodM.ops {F : CallF} (hn : Named P) (hF : CallSound P F ∧ HasBody P F) {j : Nat} {keep : List Nat} {e1 : Env} {st2 : St} (h : opsA P F nt j keep S e st = some (e1, st2)) (k : GoodM P fn st0 v st1 (opsS j S) nt [] e1 st2) : GoodM P fn st0 v st1 S nt [] e st := by
  unfold opsA at h
  split at h
  · rename_i ops r S'
    split at h
    · rename_i e2 st2 hr
      injection h with h; injection h with h1 h2; subst h1 h2
      replace k := k.gc
      rw [evOpsQ_eq] at hr
      intro hwf ho h0
      obtain ⟨s1, k1⟩ := evOps_app (l2 := r.drop j) hF.1 hn hF.2 hr hwf
      obtain ⟨q1, q2⟩ := k (s1.wf hwf) (ho.step h0 s1) (Nat.le_trans h0 s1.le)
      refine ⟨⟨Nat.le_trans s1.le q1.1, q1.2⟩, fun B0 ρ0 τ0 w0 ρ τ w as a F h hs he ht hd hF => ?_⟩
      show wpList P ops _ r a w
      rw [← List.take_append_drop j r]
      refine k1 B0 ρ τ w a he ht (fun n b h1 h2 => h.agr n b h1 h2) h.real (h.fresh h0 q1.1) _ ?_
      intro ρ' a2 w2 l d he2 ht2 hd2 m2 b2
      exact q2 B0 ρ0 τ0 w0 ρ' _ w2 as a2 F (h.step hwf ho h0 s1 l d m2 b2) (StRel.mono l S' as hs) he2 ht2 (hd2.trans hd) hF
    · cases h
  · cases h
/-! ### into a call, and back -/
noncomputable def entV (P : Program) (e : Env) (ops : List Oper) (o : Oper) : Option (Nat × List V) := match wants e ops o with
  | false => none
  | true => (match o.op with
    | .call cl => (match cl.callee with
      | .value f => opds e cl.args.toList fun args => opd e f fun v => (match v with
        | .f (.func f) first caps => (match ext? P f with
          | some _ => none
          | none => some (f, first ++ args ++ caps))
        | _ => none)
      | _ => none)
    | _ => none)
noncomputable def okDst (nt : Nat) (d : Option Nat) : Bool := match d with
  | none => true
  | some u => Nat.blt u nt
noncomputable def entX (P : Program) (nt : Nat) (e : Env) (S : List Fr) : Option (Func × Code × List V × List Fr) := match S with
  | .op ops (o :: r) :: S => (match okDst nt o.dst with
    | false => none
    | true => (match entV P e ops.toList o with
      | none => none
      | some x => (match lget P.funcs.toList x.1 with
        | none => none
        | some fn => (match fn.body with
          | none => none
          | some b => some (fn, b, x.2, .cl fn e nt o.dst :: .op ops r :: S)))))
  | _ => none
noncomputable def entA (P : Program) (nt : Nat) (e : Env) (S : List Fr) : Option (List V) := match entX P nt e S with
  | some x => some x.2.2.1
  | none => none
noncomputable def entS (P : Program) (nt : Nat) (e : Env) (S : List Fr) : List Fr := match entX P nt e S with
  | some x => x.2.2.2
  | none => []
noncomputable def entN (P : Program) (nt : Nat) (e : Env) (S : List Fr) : Nat := match entX P nt e S with
  | some x => x.1.ntmps
  | none => 0
noncomputable def entL (P : Program) (nt : Nat) (e : Env) (S : List Fr) : List Code := match entX P nt e S with
  | some x => flat x.2.1
  | none => []
theorem okDst_ok {d : Option Nat} (h : okDst nt d = true) : ∀ u, d = some u → u < nt := fun u hu => by
  subst hu
  simpa [okDst, Nat.blt_eq] using h
theorem entV_ok (hn : Named P) {ops : Array Oper} {o : Oper} {f : Nat} {args : List V} {c : Func} {b : Code} (h : entV P e ops.toList o = some (f, args)) (hf : P.funcs[f]? = some c) (hb : c.body = some b) :
    wants e ops.toList o = true ∧ ∀ (ρ : Rho) (w : World) (a : Act), EnvRel ρ e a → ∃ vs, RelL ρ args vs ∧ (execOp a.eval o).run P w = .ok (.enter f ⟨vs⟩) w := by
  unfold entV at h
  split at h
  · cases h
  · rename_i hw
    refine ⟨hw, fun ρ w a he => ?_⟩
    split at h
    · rename_i cl ho
      split at h
      · rename_i fo hc
        obtain ⟨args', h1, h2⟩ := opds_inv h
        obtain ⟨vf, h3, h4⟩ := opd_inv h1
        split at h3
        · rename_i fid first caps
          split at h3
          · cases h3
          · injection h3 with h3; injection h3 with h3 h5; subst h3 h5
            have hv := h4 ρ a (he.tmp fo)
            simp only [Rel] at hv
            obtain ⟨fa, ca, hv, k1, k2⟩ := hv
            have ka := h2 ρ a fun y _ => he.tmp y
            have hargs : (⟨fa⟩ ++ cl.args.map a.eval ++ ⟨ca⟩ : Array Value) = ⟨fa ++ cl.args.toList.map a.eval ++ ca⟩ := by
              apply Array.ext'; simp
            have hne : ¬ c.name = "runtime.NumGoroutine" := hn fid c hf
            refine ⟨_, RelL.append (RelL.append k1 ka) k2, ?_⟩
            simp only [execOp, ho, resolve, hc, Sem.run_bind, hv, Deferred.ofValue, Sem.run_pure, Result.andThen_ok, invoke, callFunc, run_program, hf, hargs]
            rw [if_neg (by simpa using hne)]
            simp [hb]
        · cases h3
      · cases h
    · cases h
theorem GoodM.enter (hn : Named P) {args : List V} (h : entA P nt e S = some args) (k : GoodM P fn st0 v st1 (entS P nt e S) (entN P nt e S) (entL P nt e S) (sets args 0 .lf) st) : GoodM P fn st0 v st1 S nt [] e st := by
  unfold entA at h
  unfold entS entN entL at k
  split at h
  · rename_i x hx
    rw [hx] at k
    injection h with h
    unfold entX at hx
    split at hx
    · rename_i ops o r S'
      split at hx
      · cases hx
      · rename_i hdst
        split at hx
        · cases hx
        · rename_i y hy
          split at hx
          · cases hx
          · rename_i c hf
            rw [lget_eq] at hf
            have hf' : P.funcs[y.1]? = some c := by simpa using hf
            split at hx
            · cases hx
            · rename_i b hb
              injection hx with hx
              subst hx
              subst h
              obtain ⟨hw, hrun⟩ := entV_ok hn (f := y.1) (args := y.2) hy hf' hb
              intro hwf ho h0
              obtain ⟨q1, q2⟩ := k hwf ho h0
              refine ⟨q1, fun B0 ρ0 τ0 w0 ρ τ w as a F hat hs he ht hd hF => ?_⟩
              obtain ⟨vs, k1, k2⟩ := hrun ρ w a he
              show wpList P ops _ (o :: r) a w
              simp only [wpList]
              rw [wants_eq (ρ := ρ) (e := e) fun j w oj t _ _ _ => he t, hw, if_pos rfl]
              refine .inl ?_
              unfold Oper.wp
              rw [k2, Oper.upon_enter]
              refine calls_of_wp hf' hb (wp_mono (flat_wp1 b _ w (q2 B0 ρ0 τ0 w0 ρ τ w (a :: as) _ F hat ⟨he, ht, hd, okDst_ok hdst, hs⟩ (env_init k1 c.ntmps) ?_ rfl hF)) fun ex a' w' hk => ?_)
              · simp only [Array.size_append, List.size_toArray, Array.size_replicate]; omega
              · obtain ⟨hx, hdf, v, hres, hkk⟩ := hk
                rcases hx with rfl | rfl
                · exact ⟨hdf, v, hres, hkk⟩
                · exact ⟨hdf, v, hres, hkk⟩
    · cases hx
  · cases h
noncomputable def resV (P : Program) (fn : Func) (e : Env) (st : St) : Option (V × St) := resOf P ⟨false, [], 0, 0⟩ e st fn.results.toList fun l => (match l with
  | [x] => some (x, st)
  | l => some (.t l, st))
theorem resV_ok {c : Func} {v : V} {st' : St} (h : resV P c e st = some (v, st')) {B0 : Nat} {ρ : Rho} {τ : Mem} {w : World} {a : Act} (he : EnvRel ρ e a) (hag : Agree ⟨false, [], 0, 0⟩ st τ) (hre : Real ρ B0 τ w) : ∃ v', Rel ρ v v' ∧ (results c a.tmps).run P w = .ok v' w := by
  obtain ⟨rs, h3, h4⟩ := resOf_ok h
  obtain ⟨xs, g1, g2⟩ := h4 B0 ρ τ w a he hag hre
  have hmap : (c.results.mapM fun x => (match x with | .tmp t => pure (a.tmps.getD t undef) | .cell q t => do loadVar t (← asAddr (a.tmps.getD q undef)) : Sem Value)).run P w = .ok xs.toArray w := by
    have g2' : (c.results.toList.mapM fun x => (match x with | .tmp t => pure (a.tmps.getD t undef) | .cell q t => do loadVar t (← asAddr (a.tmps.getD q undef)) : Sem Value)).run P w = .ok xs w := g2
    rw [Array.mapM_eq_mapM_toList]
    simp only [Sem.run_map, g2', Result.andThen_ok]
  have hgen : (results c a.tmps).run P w = .ok (if h : xs.toArray.size = 1 then xs.toArray[0] else .tuple xs.toArray) w := by
    unfold results
    rw [Sem.run_bind]
    exact congrArg (fun r : Result (Array Value) => r.andThen fun vs w' => (pure (if h : vs.size = 1 then vs[0] else .tuple vs) : Sem Value).run P w') hmap
  rw [hgen]
  split at h3
  · obtain ⟨rfl, _⟩ := some_inv h3
    obtain ⟨y, rfl, hy⟩ := relL1 g1
    exact ⟨y, hy, by simp⟩
  · rename_i hne
    obtain ⟨rfl, _⟩ := some_inv h3
    have hlen := g1.length
    have hn1 : ¬ xs.length = 1 := fun e => by
      rw [e] at hlen
      obtain ⟨q, rfl⟩ := List.length_eq_one_iff.1 hlen.symm
      exact hne q rfl
    refine ⟨.tuple xs.toArray, ?_, by simp [hn1]⟩
    simp only [Rel]
    exact ⟨xs, rfl, g1⟩
noncomputable def atEnd (S : List Fr) (l : List Code) : Option (List Fr) := match l with
  | [] => some S
  | .ret :: _ => some (popRt S)
  | _ => none
theorem atEnd_ok {S' : List Fr} (h : atEnd S l = some S') {F : Exit → Act → World → Prop} {as : List Act} {a : Act} {w : World} (k : ∀ ex, (ex = .normal ∨ ex = .ret) → kont P F S' as ex a w) : wpL P (kont P F S as) l a w := by
  unfold atEnd at h
  split at h
  · injection h with h; subst h; exact k _ (.inl rfl)
  · injection h with h; subst h; exact wp_ret (popRt_ok (k _ (.inr rfl)))
  · cases h
theorem atEnd_st {S' : List Fr} {ρ : Rho} {as : List Act} (h : atEnd S l = some S') (k : StRel ρ S as) : StRel ρ S' as := by
  unfold atEnd at h
  split at h
  · injection h with h; subst h; exact k
  · injection h with h; subst h; exact popRt_st k
  · cases h
noncomputable def retX (P : Program) (S : List Fr) (l : List Code) (e : Env) (st : St) : Option (Env × Nat × List Fr) := match atEnd S l with
  | some (.cl c e0 nt0 d :: S) => (match resV P c e st with
    | some x => some (putE e0 d x.1, nt0, S)
    | none => none)
  | _ => none
noncomputable def retA (P : Program) (S : List Fr) (l : List Code) (e : Env) (st : St) : Option Env := match retX P S l e st with
  | some x => some x.1
  | none => none
noncomputable def retN (S : List Fr) (l : List Code) : Nat := match atEnd S l with
  | some (.cl _ _ nt0 _ :: _) => nt0
  | _ => 0
noncomputable def retS (S : List Fr) (l : List Code) : List Fr := match atEnd S l with
  | some (.cl _ _ _ _ :: S) => S
  | _ => []
theorem GoodM.back {e1 : Env} (h : retA P S l e st = some e1) (k : GoodM P fn st0 v st1 (retS S l) (retN S l) [] e1 st) : GoodM P fn st0 v st1 S nt l e st := by
  unfold retA at h
  split at h
  · rename_i x hx
    injection h with h; subst h
    unfold retX at hx
    unfold retS retN at k
    split at hx
    · rename_i c e0 nt0 d S' hS
      rw [hS] at k
      split at hx
      · rename_i x hres
        injection hx with hx; subst hx
        intro hwf ho h0
        obtain ⟨q1, q2⟩ := k hwf ho h0
        refine ⟨q1, fun B0 ρ0 τ0 w0 ρ τ w as a F hat hs he ht hd hF => ?_⟩
        have hs' := atEnd_st hS hs
        cases as with
        | nil => exact hs'.elim
        | cons a0 as =>
          obtain ⟨u1, u2, u3, u4, u5⟩ := hs'
          refine atEnd_ok hS fun ex hex => ?_
          obtain ⟨v', hv, hr⟩ := resV_ok (v := x.1) (st' := x.2) hres he hat.agr hat.real
          refine ⟨hex, hd, v', hr, ?_⟩
          exact q2 B0 ρ0 τ0 w0 ρ τ w as _ F hat u5 (u1.put hv fun u hu => Nat.lt_of_lt_of_le (u4 u hu) u2) (by rw [put_size]; exact u2) ((put_defers _ _ _).trans u3) hF
      · cases hx
    · cases hx
  · cases h
noncomputable def endX (P : Program) (fn : Func) (S : List Fr) (l : List Code) (e : Env) (st : St) : Option V := match atEnd S l with
  | some [] => (match resV P fn e st with
    | some x => some x.1
    | _ => none)
  | _ => none
theorem GoodM.done (h : endX P fn S l e st = some v) : GoodM P fn st0 v st S nt l e st := by
  unfold endX at h
  split at h
  · rename_i hS
    split at h
    · rename_i x hres
      injection h with h; subst h
      refine fun hwf ho h0 => ⟨⟨Nat.le_refl _, ho, hwf⟩, fun B0 ρ0 τ0 w0 ρ τ w as a F hat hs he ht hd hF => ?_⟩
      refine atEnd_ok hS fun ex hex => ?_
      obtain ⟨v', hv, hr⟩ := resV_ok (v := x.1) (st' := x.2) hres he hat.agr hat.real
      exact hF ρ τ w a ex v' hat hex hd hv hr
    · cases h
  · cases h
/-- a law -/
theorem GoodM.good {B : Code} {e : Env} (g : GoodM P fn ⟨0, .lf⟩ (.bool true) st1 [] fn.ntmps (flat B) e ⟨0, .lf⟩) : Ev.Good P fn B e ⟨0, .lf⟩ :=
  GoodL.good fun hwf B0 ρ τ w0 w a he ht hd hag hre hfr hb => by
    obtain ⟨q1, q2⟩ := g hwf (fun n h => by cases h) (Nat.le_refl _)
    exact q2 B0 ρ τ w0 ρ τ w [] a (Fin P fn B0 w0) ⟨fun n h _ => hfr n h, Rho.le_refl _, fun n r h => .inl h, fun n _ => rfl, fun n b h1 h2 => hag n b h1 h2, hre, hb⟩ trivial he ht hd fun ρ' τ' w' a' ex v' hat hx hd' hv hr => by
      simp only [Rel] at hv
      obtain ⟨rfl, _⟩ := hv
      exact ⟨hx, hd', hr, hat.bel⟩
end
end Go.Proofs.YtlonobfpogimgaaGreatDoor.Ev

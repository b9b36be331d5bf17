/-
  PLAIN: pieces of loops anywhere: some rounds at once.
-/
import Derived.Test.YtlonobfpogimgaaGreatDoorCo
namespace Go.Proofs.YtlonobfpogimgaaGreatDoor.Ev
open Go.RowKit
noncomputable def nav3 (e : Env) (S : List Fr) (l : List Code) : List Fr × List Code := match l, S with
  | [], .lp b :: S => (.lp b :: S, [b])
  | .loop b :: l, S => (.lp b :: .sq l :: S, [b])
  | l, S => nav1 e S l
noncomputable def navs3 (n : Nat) (e : Env) (S : List Fr) (l : List Code) : List Fr × List Code := nr (fun S l => (S, l)) (fun _ ih S l => Prod.rec (motive := fun _ => List Fr × List Code) (fun S l => ih S l) (nav3 e S l)) n S l
section
variable {P : Program} {fn : Func} {st0 st1 : St} {v : V} {S : List Fr} {nt : Nat} {l : List Code} {e : Env} {st : St}
theorem wpL_one {Q : Exit → Act → World → Prop} {b : Code} {a : Act} {w : World} (h : wpL P Q [b] a w) : b.wp P Q a w :=
  wp_mono (show b.wp P (Exit.then (wpL P Q []) Q) a w from h) fun ex a w h => by cases ex <;> exact h
theorem one_wpL {Q : Exit → Act → World → Prop} {b : Code} {a : Act} {w : World} (h : b.wp P Q a w) : wpL P Q [b] a w :=
  show b.wp P (Exit.then (wpL P Q []) Q) a w from wp_mono h fun ex a w h => by cases ex <;> exact h
theorem GoodM.navOne3 (k : GoodM P fn st0 v st1 (nav3 e S l).1 nt (nav3 e S l).2 e st) : GoodM P fn st0 v st1 S nt l e st := by
  have hx : ∀ (l : List Code) (S : List Fr), (∀ b S', ¬ (l = [] ∧ S = .lp b :: S')) → (∀ b l', l ≠ .loop b :: l') → nav3 e S l = nav1 e S l := fun l S h1 h2 => by
    unfold nav3
    split
    · exact absurd ⟨rfl, rfl⟩ (h1 _ _)
    · exact absurd rfl (h2 _ _)
    · rfl
  by_cases h1 : ∃ b S', l = [] ∧ S = .lp b :: S'
  · obtain ⟨b, S', rfl, rfl⟩ := h1
    intro hwf ho h0
    obtain ⟨q1, q2⟩ := k hwf ho h0
    exact ⟨q1, fun B0 ρ0 τ0 w0 ρ τ w as a F hat hs he ht hd hF => LoopW.unfold (wpL_one (q2 B0 ρ0 τ0 w0 ρ τ w as a F hat hs he ht hd hF))⟩
  · by_cases h2 : ∃ b l', l = .loop b :: l'
    · obtain ⟨b, l', rfl⟩ := h2
      intro hwf ho h0
      have k' : GoodM P fn st0 v st1 (.lp b :: .sq l' :: S) nt [b] e st := by
        cases S <;> exact k
      obtain ⟨q1, q2⟩ := k' hwf ho h0
      exact ⟨q1, fun B0 ρ0 τ0 w0 ρ τ w as a F hat hs he ht hd hF => LoopW.enter (LoopW.unfold (wpL_one (q2 B0 ρ0 τ0 w0 ρ τ w as a F hat hs he ht hd hF)))⟩
    · rw [hx l S (fun b S' h => h1 ⟨b, S', h⟩) (fun b l' h => h2 ⟨b, l', h⟩)] at k
      exact GoodM.navOne k
theorem GoodM.nav3 : ∀ {n : Nat} {S : List Fr} {l : List Code}, GoodM P fn st0 v st1 (navs3 n e S l).1 nt (navs3 n e S l).2 e st → GoodM P fn st0 v st1 S nt l e st
  | 0, _, _, k => k
  | n + 1, _, _, k => GoodM.navOne3 (GoodM.nav3 (n := n) k)
theorem GoodM.runRounds {G : CodeF} (hG : CodeSound P G) {b : Code} : ∀ {m : Nat} {e e1 : Env} {st st2 : St}, runR G ⟨false, [], 0, nt⟩ m b e st = some (e1, st2) → GoodM P fn st0 v st1 (.lp b :: S) nt [b] e1 st2 → GoodM P fn st0 v st1 (.lp b :: S) nt [b] e st
  | 0, e, e1, st, st2, h, k => by
    have h' : (some (e, st) : Option (Env × St)) = some (e1, st2) := h
    injection h' with h'; injection h' with h1 h2; subst h1 h2
    exact k
  | m + 1, e, e1, st, st2, h, k => by
    have h' : (match G ⟨false, [], 0, nt⟩ b e st with
      | some (.n, e, st) => runR G ⟨false, [], 0, nt⟩ m b e st
      | _ => none) = some (e1, st2) := h
    clear h
    split at h'
    · rename_i e2 st3 hev
      have g2 := GoodM.runRounds hG h' k
      intro hwf ho h0
      obtain ⟨s1, k1⟩ := hG _ _ _ _ _ _ _ hev hwf
      obtain ⟨q1, q2⟩ := g2 (s1.wf hwf) (ho.step h0 s1) (Nat.le_trans h0 s1.le)
      refine ⟨⟨Nat.le_trans s1.le q1.1, q1.2⟩, fun B0 ρ0 τ0 w0 ρ τ w as a' F h hs he ht hd hF => ?_⟩
      refine one_wpL (k1 B0 ρ τ w a' he ht (fun n b h1 h2 => h.agr n b h1 h2) h.real (h.fresh h0 q1.1) _ ?_)
      intro ρ' a2 w2 l d he2 ht2 hd2 m2 b2
      exact LoopW.unfold (wpL_one (q2 B0 ρ0 τ0 w0 ρ' _ w2 as a2 F (h.step hwf ho h0 s1 l d m2 b2) (StRel.mono l S as hs) he2 ht2 (hd2.trans hd) hF))
    · cases h'
noncomputable def loopB (S : List Fr) : Code := match S with
  | .lp b :: _ => b
  | _ => .skip
theorem GoodM.rounds {G : CodeF} (hG : CodeSound P G) {m : Nat} {keep : List Nat} {e1 : Env} {st2 : St} (hS : S = .lp (loopB S) :: S.tail) (hl : l = [loopB S]) (h : stepR G ⟨false, [], 0, nt⟩ m (loopB S) keep e st = some (e1, st2)) (k : GoodM P fn st0 v st1 S nt l e1 st2) : GoodM P fn st0 v st1 S nt l e st := by
  subst hl
  generalize loopB S = b at *
  generalize S.tail = T at *
  subst hS
  unfold stepR at h
  split at h
  · rename_i e2 st3 hr
    injection h with h; injection h with h1 h2; subst h1 h2
    exact GoodM.runRounds hG hr k.gc
  · cases h
end
/-! ### the oracle, where some blocks may not be touched -/
/-- none of these names is told -/
noncomputable def clearQ (l : List (Nat × Nat)) (h : T B) : Bool := lr true (fun x _ ih => and2 (nr true (fun k ih => and2 (match h.get (x.1 + k) with | none => true | some _ => false) ih) (x.2 - x.1)) ih) l
noncomputable def plainN (c : Cx) : Bool := match c.all, c.wb with
  | false, 0 => true
  | _, _ => false
noncomputable def seesN (f : Nat) (args : List V) (st0 : St) (c : Cx) (f' : Nat) (args' : List V) (st : St) : Bool :=
  and2 (Nat.beq f' f) (and2 (plainN c) (and2 (clearQ c.l st0.h) (and2 (Nat.beq st.nx st0.nx) (and2 (qVs args' args) (subT qB2 st0.h st.h)))))
noncomputable def orcN (base : CallF) (f : Nat) (args : List V) (st0 : St) (v : V) (st1 : St) : CallF := fun c f' args' st => match seesN f args st0 c f' args' st with
  | true => some (v, ⟨st1.nx, overT st.h st1.h⟩)
  | false => base c f' args' st
section
variable {P : Program}
theorem inF_ex : ∀ {l : List (Nat × Nat)} {n : Nat}, inF l n = true → ∃ x, x ∈ l ∧ x.1 ≤ n ∧ n < x.2
  | [], n, h => by cases h
  | x :: l, n, h => by
    have h' : (match Nat.ble x.1 n with | true => (match Nat.blt n x.2 with | true => true | false => inF l n) | false => inF l n) = true := h
    split at h'
    · rename_i h1
      split at h'
      · rename_i h2
        exact ⟨x, by simp, Nat.le_of_ble_eq_true h1, by rw [Nat.blt_eq] at h2; exact h2⟩
      · obtain ⟨y, h3, h4⟩ := inF_ex h'
        exact ⟨y, by simp [h3], h4⟩
    · obtain ⟨y, h3, h4⟩ := inF_ex h'
      exact ⟨y, by simp [h3], h4⟩
theorem clear1 {h : T B} {lo : Nat} : ∀ {m : Nat}, nr true (fun k ih => and2 (match h.get (lo + k) with | none => true | some _ => false) ih) m = true → ∀ k, k < m → h.get (lo + k) = none
  | 0, _, k, hk => by omega
  | m + 1, hc, k, hk => by
    rw [nr_succ] at hc
    obtain ⟨h1, h2⟩ := and2_ok hc
    by_cases e : k = m
    · subst e
      split at h1
      · assumption
      · cases h1
    · exact clear1 h2 k (by omega)
theorem clearQ_mem {h : T B} : ∀ {l : List (Nat × Nat)}, clearQ l h = true → ∀ x, x ∈ l → ∀ n, x.1 ≤ n → n < x.2 → h.get n = none
  | [], _, x, hx, _, _, _ => by simp at hx
  | y :: l, hc, x, hx, n, h1, h2 => by
    obtain ⟨k1, k2⟩ := and2_ok (show and2 (nr true (fun k ih => and2 (match h.get (y.1 + k) with | none => true | some _ => false) ih) (y.2 - y.1)) (clearQ l h) = true from hc)
    rcases List.mem_cons.1 hx with rfl | hx
    · have := clear1 k1 (n - x.1) (by omega)
      rwa [show x.1 + (n - x.1) = n by omega] at this
    · exact clearQ_mem k2 x hx n h1 h2
theorem clearQ_ok {h : T B} {l : List (Nat × Nat)} {nt n : Nat} {b : B} (hc : clearQ l h = true) (hb : h.get n = some b) : Cx.ok ⟨false, l, 0, nt⟩ n = true := by
  show (!inF l n) = true
  cases hi : inF l n with
  | false => rfl
  | true =>
    obtain ⟨x, h1, h2, h3⟩ := inF_ex hi
    rw [clearQ_mem hc x h1 n h2 h3] at hb
    cases hb
theorem orcN_sound {base : CallF} (hb : CallSound P base ∧ HasBody P base) {f : Nat} {fn : Func} {b : Code} {args : List V} {st0 st1 : St} {v : V} (hf : P.funcs[f]? = some fn) (hbd : fn.body = some b)
    (g : GoodM P fn st0 v st1 [] fn.ntmps (flat b) (sets args 0 .lf) st0) (hk : subT lvB st0.h st1.h = true) : CallSound P (orcN base f args st0 v st1) ∧ HasBody P (orcN base f args st0 v st1) := by
  constructor
  · intro c f' args' st v2 st2 h hwf
    unfold orcN at h
    split at h
    · rename_i hs
      obtain ⟨s1, hs⟩ := and2_ok hs
      obtain ⟨s2, hs⟩ := and2_ok hs
      obtain ⟨s6, hs⟩ := and2_ok hs
      obtain ⟨s3, hs⟩ := and2_ok hs
      obtain ⟨s4, s5⟩ := and2_ok hs
      have e1 := Nat.eq_of_beq_eq_true s1
      have e3 := Nat.eq_of_beq_eq_true s3
      have e4 := qVs_ok s4
      subst e1 e4
      obtain ⟨rfl, rfl⟩ := some_inv h
      obtain ⟨call, cl, cwb, cnt⟩ := c
      unfold plainN at s2
      split at s2
      · rename_i c1 c3
        simp only at c1 c3
        subst c1 c3
        have hok : ∀ n b, st0.h.get n = some b → Cx.ok ⟨false, cl, 0, cnt⟩ n = true := fun n b h => clearQ_ok s6 h
        have hin : ∀ n b, st0.h.get n = some b → st.h.get n = some b := fun n b h => by
          obtain ⟨b', h1, h2⟩ := subT_get s5 h
          rw [qB2_ok h2]; exact h1
        have hwf0 : Wf st0 := fun n hn => by
          cases h : st0.h.get n with
          | none => rfl
          | some b => have := hin n b h; rw [hwf n (by omega)] at this; cases this
        obtain ⟨⟨q1, q2, q3⟩, q4⟩ := g hwf0 (fun n _ h => h) (Nat.le_refl _)
        have hget : ∀ n, (overT st.h st1.h).get n = orO (st.h.get n) (st1.h.get n) := overT_get _ _
        have hst : StepOk ⟨false, cl, 0, cnt⟩ st ⟨st1.nx, overT st.h st1.h⟩ := by
          refine ⟨by show st.nx ≤ st1.nx; omega, fun n hn hne => ?_, fun _ n hn => ?_, fun n hn hne b hb => ?_⟩
          · have hne' : st.h.get n ≠ orO (st.h.get n) (st1.h.get n) := by rw [← hget]; exact hne
            cases h1 : st1.h.get n with
            | none => rw [h1] at hne'; exact absurd rfl hne'
            | some b1 =>
              have hs0 : st0.h.get n ≠ none := fun h3 => by rw [q2 n (by omega) h3] at h1; cases h1
              obtain ⟨b0, hb0⟩ := Option.ne_none_iff_exists'.1 hs0
              exact ⟨hok n b0 hb0, by rw [hin n b0 hb0]; exact Option.some_ne_none _, by show (overT st.h st1.h).get n ≠ none; rw [hget, h1]; exact Option.some_ne_none _, Nat.zero_le _⟩
          · show (overT st.h st1.h).get n = none
            have hn' : st1.nx ≤ n := hn
            rw [hget, q3 n hn', hwf n (by omega)]
            rfl
          · have hne' : st.h.get n ≠ orO (st.h.get n) (st1.h.get n) := by rw [← hget]; exact hne
            cases h0 : st0.h.get n with
            | none =>
              rw [q2 n (by omega) h0] at hne'
              exact absurd rfl hne'
            | some b0 =>
              rw [hin n b0 h0] at hb
              injection hb with hb
              subst hb
              obtain ⟨_, _, h1⟩ := subT_get hk h0
              exact lvB_ok h1
        refine ⟨hst, fun B0 ρ τ w vs hvs hag hre hfr R hR => ?_⟩
        have hag0 : Agree ⟨false, [], 0, 0⟩ st0 τ := fun n b _ h => hag n b (hok n b h) (hin n b h)
        refine calls_of_wp hf hbd (wp_mono (flat_wp1 b _ w (q4 B0 ρ τ w ρ τ w [] _ (fun ex a' w' => (ex = .normal ∨ ex = .ret) ∧ a'.defers = [] ∧ ∃ v', (results fn a'.tmps).run P w' = .ok v' w' ∧ R (.returned v') w') ⟨fun n h1 h2 => hfr n (by omega) h2, Rho.le_refl _, fun n r h => .inl h, fun n _ => rfl, hag0, hre, Below.refl _ _⟩ trivial (env_init hvs fn.ntmps) ?_ rfl ?_)) fun ex a' w' hk => ?_)
        · simp only [Array.size_append, List.size_toArray, Array.size_replicate]; omega
        · intro ρ' τ' w' a' ex v' hat hx hd hv hr
          refine ⟨hx, hd, v', hr, hR ρ' v' w' hat.le (fun n r h => ?_) hv ?_ hat.bel⟩
          · rcases hat.dom n r h with h | h
            · exact .inl h
            · exact .inr ⟨by omega, h.2⟩
          · have key : ∀ n b, ov st ⟨st1.nx, overT st.h st1.h⟩ τ n = some b → τ' n = some b := fun n b h => by
              have h : (open Classical in if st.nx ≤ n ∧ n < st1.nx then (overT st.h st1.h).get n else if st.h.get n = (overT st.h st1.h).get n then τ n else (overT st.h st1.h).get n) = some b := h
              split at h
              · rename_i hn
                have h : (overT st.h st1.h).get n = some b := h
                rw [hget, hwf n hn.1] at h
                cases h1 : st1.h.get n with
                | none => rw [h1] at h; cases h
                | some b1 => rw [h1] at h; have h' : some b1 = some b := h; injection h' with h'; subst h'; exact hat.agr n _ rfl h1
              · rename_i hn
                split at h
                · rename_i he
                  rcases Nat.lt_or_ge n st.nx with hlt | hge
                  · cases h0 : st0.h.get n with
                    | none => rw [hat.inv n (.inl ⟨by omega, h0⟩)]; exact h
                    | some b0 =>
                      obtain ⟨b1, h1, _⟩ := subT_get hk h0
                      have h2 := hag0 n b0 rfl h0
                      rw [h2] at h
                      injection h with h
                      subst h
                      rw [hin n b0 h0, hget, h1] at he
                      have he' : some b0 = some b1 := he
                      injection he' with he'
                      subst he'
                      exact hat.agr n _ rfl h1
                  · rw [hat.inv n (.inr (by omega))]; exact h
                · cases h1 : st1.h.get n with
                  | none => rename_i he; rw [hget, h1] at he; exact absurd rfl he
                  | some b1 => rw [hget, h1] at h; have h' : some b1 = some b := h; injection h' with h'; subst h'; exact hat.agr n _ rfl h1
            exact ⟨hat.real.size, fun n b h => hat.real.blk n b (key n b h), fun n m b b' r r' h h' => hat.real.inj n m b b' r r' (key n b h) (key m b' h'), hat.real.kept⟩
        · obtain ⟨hx, hdf, v, hres, hkk⟩ := hk
          rcases hx with rfl | rfl
          · exact ⟨hdf, v, hres, hkk⟩
          · exact ⟨hdf, v, hres, hkk⟩
      · cases s2
    · exact hb.1 _ _ _ _ _ _ h hwf
  · intro c f' args' st r h
    unfold orcN at h
    split at h
    · rename_i hs
      obtain ⟨s1, hs⟩ := and2_ok hs
      have e1 := Nat.eq_of_beq_eq_true s1
      subst e1
      exact ⟨fn, b, hf, hbd⟩
    · exact hb.2 _ _ _ _ _ h
end
end Go.Proofs.YtlonobfpogimgaaGreatDoor.Ev

/-
  PLAIN: a call that stands beside loads which may come ahead of it or behind: it is run where the loaded blocks are taken away; so the contract for the empty guard serves.
-/
import Derived.Test.YtcjddojcfdeflaaSc
set_option linter.unusedSimpArgs false
set_option linter.unusedVariables false
namespace Go.Proofs.Ytcjddojcfdeflaa.Ev
open Go.RowKit
/-- the blocks that a guard holds are taken away -/
noncomputable def erT (l : List (Nat × Nat)) (h : T B) : Nat → T B
  | 0 => .lf
  | n + 1 => if inF l n = true then erT l h n else match h.get n with
    | some b => (erT l h n).set n b
    | none => erT l h n
theorem erT_get (l : List (Nat × Nat)) (h : T B) (m : Nat) : ∀ n, (erT l h n).get m = if m < n ∧ inF l m = false then h.get m else none
  | 0 => by simp [erT]
  | n + 1 => by
    have ih := erT_get l h m n
    unfold erT
    by_cases hi : inF l n = true
    · rw [if_pos hi, ih]
      by_cases hm : m = n
      · subst hm; rw [if_neg (by omega), if_neg (by rw [hi]; simp)]
      · by_cases h2 : m < n ∧ inF l m = false
        · rw [if_pos h2, if_pos ⟨by omega, h2.2⟩]
        · rw [if_neg h2, if_neg (fun h3 => h2 ⟨by omega, h3.2⟩)]
    · rw [if_neg hi]
      have hi' : inF l n = false := by simpa using hi
      cases hg : h.get n with
      | none =>
        simp only
        rw [ih]
        by_cases hm : m = n
        · subst hm; rw [if_neg (by omega)]; split <;> simp [hg]
        · by_cases h2 : m < n ∧ inF l m = false
          · rw [if_pos h2, if_pos ⟨by omega, h2.2⟩]
          · rw [if_neg h2, if_neg (fun h3 => h2 ⟨by omega, h3.2⟩)]
      | some b =>
        simp only
        rw [T.get_set]
        by_cases hm : n = m
        · subst hm; rw [if_pos rfl, if_pos ⟨by omega, hi'⟩, hg]
        · rw [if_neg hm, ih]
          by_cases h2 : m < n ∧ inF l m = false
          · rw [if_pos h2, if_pos ⟨by omega, h2.2⟩]
          · rw [if_neg h2, if_neg (fun h3 => h2 ⟨by omega, h3.2⟩)]
noncomputable def er (l : List (Nat × Nat)) (st : St) : St := ⟨st.nx, erT l st.h st.nx⟩
@[simp] theorem er_nx (l : List (Nat × Nat)) (st : St) : (er l st).nx = st.nx := rfl
theorem er_get (l : List (Nat × Nat)) (st : St) (m : Nat) : (er l st).h.get m = if m < st.nx ∧ inF l m = false then st.h.get m else none := erT_get l st.h m st.nx
theorem er_wf (l : List (Nat × Nat)) (st : St) : Wf (er l st) := fun n hn => by
  rw [er_get, if_neg (fun h => by have : st.nx ≤ n := hn; omega)]
/-- .. and are laid back -/
noncomputable def mgT (l : List (Nat × Nat)) (h h1 : T B) : Nat → T B
  | 0 => h1
  | n + 1 => if inF l n = true then (match h.get n with
    | some b => (mgT l h h1 n).set n b
    | none => mgT l h h1 n) else mgT l h h1 n
theorem mgT_get (l : List (Nat × Nat)) (h h1 : T B) (m : Nat) : ∀ n, (mgT l h h1 n).get m = if m < n ∧ inF l m = true ∧ h.get m ≠ none then h.get m else h1.get m
  | 0 => by simp [mgT]
  | n + 1 => by
    have ih := mgT_get l h h1 m n
    unfold mgT
    have stay : m ≠ n → (if m < n ∧ inF l m = true ∧ h.get m ≠ none then h.get m else h1.get m) = if m < n + 1 ∧ inF l m = true ∧ h.get m ≠ none then h.get m else h1.get m := fun hm => by
      by_cases h2 : m < n ∧ inF l m = true ∧ h.get m ≠ none
      · rw [if_pos h2, if_pos ⟨by omega, h2.2⟩]
      · rw [if_neg h2, if_neg (fun h3 => h2 ⟨by omega, h3.2⟩)]
    by_cases hi : inF l n = true
    · rw [if_pos hi]
      cases hg : h.get n with
      | none =>
        simp only
        rw [ih]
        by_cases hm : m = n
        · subst hm; rw [if_neg (by omega), if_neg (fun h3 => h3.2.2 hg)]
        · exact stay hm
      | some b =>
        simp only
        rw [T.get_set]
        by_cases hm : n = m
        · subst hm; rw [if_pos rfl, if_pos ⟨by omega, hi, by rw [hg]; simp⟩, hg]
        · rw [if_neg hm, ih]; exact stay (fun e => hm e.symm)
    · rw [if_neg hi, ih]
      by_cases hm : m = n
      · subst hm; rw [if_neg (by omega), if_neg (fun h3 => hi h3.2.1)]
      · exact stay hm
noncomputable def mg (l : List (Nat × Nat)) (st st1 : St) : St := open Classical in if st1 = er l st then st else ⟨st1.nx, mgT l st.h st1.h st.nx⟩
/-- a call, its guard's blocks taken away -/
noncomputable def liftF (F : CallF) : CallF := fun c f args st => match c.l with
  | [] => F c f args st
  | l => (F ⟨c.all, [], c.wb, c.nt⟩ f args (er l st)).map fun r => (r.1, mg l st r.2)
@[simp] theorem liftF_nil (F : CallF) (a : Bool) (wb nt f : Nat) (args : List V) (st : St) : liftF F ⟨a, [], wb, nt⟩ f args st = F ⟨a, [], wb, nt⟩ f args st := rfl
theorem liftF_cons (F : CallF) (a : Bool) (x : Nat × Nat) (l : List (Nat × Nat)) (wb nt f : Nat) (args : List V) (st : St) : liftF F ⟨a, x :: l, wb, nt⟩ f args st = (F ⟨a, [], wb, nt⟩ f args (er (x :: l) st)).map fun r => (r.1, mg (x :: l) st r.2) := rfl
theorem mg_same (l : List (Nat × Nat)) (st : St) : mg l st (er l st) = st := by unfold mg; rw [if_pos rfl]
/-- what is there is there behind it, too -/
structure Sub (s1 s2 : St) : Prop where
  nx : s2.nx = s1.nx
  get : ∀ m b, s1.h.get m = some b → s2.h.get m = some b
theorem mg_get {l : List (Nat × Nat)} {st st1 : St} (h : ∀ n, n < st.nx → inF l n = true → st1.h.get n = none) (hn : st.nx ≤ st1.nx) (hw : Wf st) (m : Nat) : (mg l st st1).h.get m = if m < st.nx ∧ inF l m = true then st.h.get m else st1.h.get m := by
  unfold mg
  by_cases e : st1 = er l st
  · rw [if_pos e, e, er_get]
    by_cases h2 : m < st.nx
    · by_cases h3 : inF l m = true
      · rw [if_pos ⟨h2, h3⟩]
      · rw [if_neg (fun h4 => h3 h4.2), if_pos ⟨h2, by simpa using h3⟩]
    · rw [if_neg (fun h4 => h2 h4.1), if_neg (fun h4 => h2 h4.1)]
      exact hw m (by omega)
  · rw [if_neg e]
    show (mgT l st.h st1.h st.nx).get m = _
    rw [mgT_get]
    by_cases h2 : m < st.nx ∧ inF l m = true
    · rw [if_pos h2]
      by_cases h3 : st.h.get m = none
      · rw [if_neg (fun h4 => h4.2.2 h3), h m h2.1 h2.2, h3]
      · rw [if_pos ⟨h2.1, h2.2, h3⟩]
    · rw [if_neg h2, if_neg (fun h4 => h2 ⟨h4.1, h4.2.1⟩)]
theorem mg_nx {l : List (Nat × Nat)} {st st1 : St} : (mg l st st1).nx = st1.nx := by
  unfold mg
  by_cases e : st1 = er l st
  · rw [if_pos e, e]; rfl
  · rw [if_neg e]
theorem liftF_sound {P : Program} {F : CallF} (h : CallSound P F ∧ HasBody P F) : CallSound P (liftF F) ∧ HasBody P (liftF F) := by
  constructor
  · intro c f args st v st' h' hwf
    obtain ⟨a, l, wb, nt⟩ := c
    cases l with
    | nil => exact h.1 _ _ _ _ _ _ h' hwf
    | cons x l =>
      rw [liftF_cons] at h'
      cases hF : F ⟨a, [], wb, nt⟩ f args (er (x :: l) st) with
      | none => rw [hF] at h'; cases h'
      | some r =>
        obtain ⟨v1, st1⟩ := r
        rw [hF] at h'
        simp only [Option.map_some, Option.some.injEq, Prod.mk.injEq] at h'
        obtain ⟨rfl, rfl⟩ := h'
        obtain ⟨hs, hsem⟩ := h.1 _ _ _ _ _ _ hF (er_wf _ _)
        have hnx : st.nx ≤ st1.nx := hs.le
        have hgone : ∀ n, n < st.nx → inF (x :: l) n = true → st1.h.get n = none := fun n hn hi => by
          by_cases e : (er (x :: l) st).h.get n = st1.h.get n
          · rw [← e, er_get, if_neg (fun h => by rw [hi] at h; cases h.2)]
          · exact absurd (by rw [er_get, if_neg (fun h => by rw [hi] at h; cases h.2)]) (hs.chg n hn e).2.1
        have hg := mg_get hgone hnx hwf
        have key : ∀ n, n < st.nx → st.h.get n ≠ (mg (x :: l) st st1).h.get n → inF (x :: l) n = false ∧ (er (x :: l) st).h.get n = st.h.get n ∧ (mg (x :: l) st st1).h.get n = st1.h.get n := fun n hn hne => by
          rw [hg] at hne ⊢
          by_cases hi : inF (x :: l) n = true
          · rw [if_pos ⟨hn, hi⟩] at hne; exact absurd rfl hne
          · have hi' : inF (x :: l) n = false := by simpa using hi
            exact ⟨hi', by rw [er_get, if_pos ⟨hn, hi'⟩], by rw [if_neg (fun h => hi h.2)]⟩
        refine ⟨⟨by rw [mg_nx]; exact hnx, fun n hn hne => ?_, fun _ n hn => ?_, fun n hn hne b hb => ?_⟩, ?_⟩
        · obtain ⟨k1, k2, k3⟩ := key n hn hne
          have hne' := hne
          rw [k3, ← k2] at hne'
          obtain ⟨q1, q2, q3, q4⟩ := hs.chg n hn hne'
          refine ⟨?_, by rw [← k2]; exact q2, by rw [k3]; exact q3, q4⟩
          cases a with
          | true => cases q1
          | false => show (!inF (x :: l) n) = true; rw [k1]; rfl
        · rw [mg_nx] at hn
          rw [hg, if_neg (fun h => by omega)]
          exact hs.wf (er_wf _ _) n hn
        · obtain ⟨k1, k2, k3⟩ := key n hn hne
          rw [k3, ← k2] at hne
          exact hs.live n hn hne b (by rw [k2]; exact hb)
        · intro B0 ρ τ w vs hvs hag hre hfr R hR
          refine hsem B0 ρ τ w vs hvs (fun n b hok hb => ?_) hre (fun n h1 h2 => hfr n h1 (by rw [mg_nx]; exact h2)) R fun ρ' v' w' q1 q2 q3 q4 q5 => hR ρ' v' w' q1 (fun n r hr => ?_) q3 ?_ q5
          · rw [er_get] at hb
            split at hb
            · rename_i hc
              refine hag n b ?_ hb
              cases a with
              | true => cases hok
              | false => show (!inF (x :: l) n) = true; rw [hc.2]; rfl
            · cases hb
          · rcases q2 n r hr with h | h
            · exact .inl h
            · exact .inr ⟨h.1, by rw [mg_nx]; exact h.2⟩
          · have e : ov st (mg (x :: l) st st1) τ = ov (er (x :: l) st) st1 τ := by
              funext n
              unfold ov
              rw [mg_nx, er_nx]
              by_cases h1 : st.nx ≤ n ∧ n < st1.nx
              · rw [if_pos h1, if_pos h1, hg, if_neg (fun h => by omega)]
              · rw [if_neg h1, if_neg h1]
                by_cases hn : n < st.nx
                · by_cases hi : inF (x :: l) n = true
                  · have e1 : (er (x :: l) st).h.get n = none := by rw [er_get, if_neg (fun h => by rw [hi] at h; cases h.2)]
                    rw [if_pos (by rw [hg, if_pos ⟨hn, hi⟩]), if_pos (by rw [e1, hgone n hn hi])]
                  · have hi' : inF (x :: l) n = false := by simpa using hi
                    have e1 : (er (x :: l) st).h.get n = st.h.get n := by rw [er_get, if_pos ⟨hn, hi'⟩]
                    have e2 : (mg (x :: l) st st1).h.get n = st1.h.get n := by rw [hg, if_neg (fun h => hi h.2)]
                    rw [e1, e2]
                · have e1 : (er (x :: l) st).h.get n = st.h.get n := by rw [er_get, if_neg (fun h => hn h.1), hwf n (by omega)]
                  have e2 : (mg (x :: l) st st1).h.get n = st1.h.get n := by rw [hg, if_neg (fun h => hn h.1)]
                  rw [e1, e2]
            rw [e]; exact q4
  · intro c f args st r h'
    obtain ⟨a, l, wb, nt⟩ := c
    cases l with
    | nil => exact h.2 _ _ _ _ _ h'
    | cons x l =>
      rw [liftF_cons] at h'
      cases hF : F ⟨a, [], wb, nt⟩ f args (er (x :: l) st) with
      | none => rw [hF] at h'; cases h'
      | some r => exact h.2 _ _ _ _ _ hF
/-! ### calls, one function more of which is run so -/
noncomputable def addF (P : Program) (F : CallF) (f : Nat) : CallF := fun c g args st => match Nat.beq g f with
  | true => callOf P (evF P (liftF F)) c g args st
  | false => F c g args st
theorem addF_ne (P : Program) (F : CallF) {f g : Nat} (h : Nat.beq g f = false) (c : Cx) (args : List V) (st : St) : addF P F f c g args st = F c g args st := by unfold addF; rw [h]
theorem addF_both {P : Program} (hn : namesOk P = true) (hm : P.follows .mixedOrders = true) {F : CallF} (f : Nat) (h : CallSound P F ∧ HasBody P F) : CallSound P (addF P F f) ∧ HasBody P (addF P F f) := by
  constructor
  · intro c g args st v st' h' hwf
    unfold addF at h'
    split at h'
    · exact callOf_sound (evF_sound hn hm (liftF_sound h)) _ _ _ _ _ _ h' hwf
    · exact h.1 _ _ _ _ _ _ h' hwf
  · intro c g args st r h'
    unfold addF at h'
    split at h'
    · exact callOf_body _ _ _ _ _ h'
    · exact h.2 _ _ _ _ _ h'
theorem Gd_addF {P : Program} {F : CallF} {c : Cx} {st : St} {f : Nat} {fn : Func} {code : Code} (hf : P.funcs[f]? = some fn) (hb : fn.body = some code) (args : List V) (Q : V × St → Prop) :
    Gd (addF P F f c f args st) Q = Gd ((over P (liftF F)).E ⟨c.all, c.l, c.wb, fn.ntmps⟩ code (sets args 0 .lf) st) (retK P c fn Q) := by
  unfold addF
  rw [Nat.beq_refl]
  exact Gd_callOf hf hb args Q
/-- the law itself is run over these -/
noncomputable def lawX (P : Program) (F : CallF) (fa : Nat) : CallF := callOf P (evF P (oracF (liftF F) fa))
theorem lawX_sound {P : Program} (hn : namesOk P = true) (hm : P.follows .mixedOrders = true) {F : CallF} (h : CallSound P F ∧ HasBody P F) {fa : Nat} {fn : Func} {b : Code} (hf : P.funcs[fa]? = some fn) (hbd : fn.body = some b) (ha : ∀ w, Calls P fa #[] w fun e w' => e = .returned (.bool true) ∧ Below w.heap.size w w') : CallSound P (lawX P F fa) :=
  callOf_sound (evF_sound hn hm (oracF_sound (liftF_sound h) hf hbd ha))
theorem Gd_lawX {P : Program} {F : CallF} {c : Cx} {st : St} {fa f : Nat} {fn : Func} {code : Code} (hf : P.funcs[f]? = some fn) (hb : fn.body = some code) (args : List V) (Q : V × St → Prop) :
    Gd (lawX P F fa c f args st) Q = Gd ((Ev.over P (oracF (liftF F) fa)).E ⟨c.all, c.l, c.wb, fn.ntmps⟩ code (sets args 0 .lf) st) (retK P c fn Q) := Gd_callOf hf hb args Q
/-! ### the rules for a call under a guard -/
/-- the contract for the empty guard, where the guard's blocks are taken away -/
theorem Gd_lift {F : CallF} {x : Nat × Nat} {l : List (Nat × Nat)} {a : Bool} {wb nt f : Nat} {args : List V} {st : St} {R : V → St → Prop} {Q : V × St → Prop}
    (h : Gd (F ⟨a, [], wb, nt⟩ f args (er (x :: l) st)) fun r => R r.1 r.2 ∧ Ext st.nx (er (x :: l) st) r.2)
    (k : ∀ v st1 st', R v st1 → Sub st1 st' → Ext st.nx st st' → Q (v, st')) : Gd (liftF F ⟨a, x :: l, wb, nt⟩ f args st) Q := by
  rw [liftF_cons]
  obtain ⟨⟨v, st1⟩, h1, h2, h3⟩ := h
  refine ⟨(v, mg (x :: l) st st1), by rw [h1]; rfl, ?_⟩
  have hnx : st.nx ≤ st1.nx := h3.le
  by_cases e : st1 = er (x :: l) st
  · subst e
    rw [mg_same]
    refine k v _ st h2 ⟨rfl, fun m b hb => ?_⟩ (Ext.refl _ _)
    rw [er_get] at hb
    split at hb
    · exact hb
    · cases hb
  have hgone : ∀ n, n < st.nx → inF (x :: l) n = true → st1.h.get n = none := fun n hn hi => by
    rw [h3.keep n hn, er_get, if_neg (fun h => by rw [hi] at h; cases h.2)]
  have hg : ∀ m, (mg (x :: l) st st1).h.get m = if m < st.nx ∧ inF (x :: l) m = true then st.h.get m else st1.h.get m := fun m => by
    unfold mg
    rw [if_neg e]
    show (mgT (x :: l) st.h st1.h st.nx).get m = _
    rw [mgT_get]
    by_cases h2 : m < st.nx ∧ inF (x :: l) m = true
    · rw [if_pos h2]
      by_cases h3 : st.h.get m = none
      · rw [if_neg (fun h4 => h4.2.2 h3), hgone m h2.1 h2.2, h3]
      · rw [if_pos ⟨h2.1, h2.2, h3⟩]
    · rw [if_neg h2, if_neg (fun h4 => h2 ⟨h4.1, h4.2.1⟩)]
  refine k v st1 _ h2 ⟨mg_nx, fun m b hb => ?_⟩ ⟨by rw [mg_nx]; exact hnx, fun _ n hn => ?_, fun n hn => ?_⟩
  · rw [hg, if_neg (fun h => by rw [hgone m h.1 h.2] at hb; cases hb)]; exact hb
  · rw [mg_nx] at hn
    rw [hg, if_neg (fun h => by omega)]
    exact h3.wf (er_wf _ _) n hn
  · rw [hg]
    by_cases hi : inF (x :: l) n = true
    · rw [if_pos ⟨hn, hi⟩]
    · rw [if_neg (fun h => hi h.2), h3.keep n hn, er_get, if_pos ⟨hn, by simpa using hi⟩]
/-- a call that makes nothing -/
theorem Gd_lift0 {F : CallF} {x : Nat × Nat} {l : List (Nat × Nat)} {a : Bool} {wb nt f : Nat} {args : List V} {st : St} {v : V} {Q : V × St → Prop}
    (h : Gd (F ⟨a, [], wb, nt⟩ f args (er (x :: l) st)) fun r => r = (v, er (x :: l) st)) (k : Q (v, st)) : Gd (liftF F ⟨a, x :: l, wb, nt⟩ f args st) Q := by
  rw [liftF_cons]
  obtain ⟨r, h1, rfl⟩ := h
  exact ⟨(v, st), by rw [h1]; simp [mg_same], k⟩
theorem RdRow.er {st : St} {x : V} {z n : Nat} {L : List V} (h : RdRow st x z n L) {l : List (Nat × Nat)} (hm : ∀ m, (∃ o k q, x = .sl m o k q) ∨ (∃ o k q, x = .sg m o k q) → inF l m = false) : RdRow (er l st) x z n L := by
  obtain ⟨h1, h2⟩ := h
  refine ⟨h1, ?_⟩
  rcases h2 with h2 | ⟨m, o, q, ty, sz, t, rfl, h3, h4, h5, h6⟩ | ⟨m, o, ty, sz, t, rfl, h3, h4, h5, h6⟩
  · exact .inl h2
  · exact .inr (.inl ⟨m, o, q, ty, sz, t, rfl, h3, by rw [er_get, if_pos ⟨h3, hm m (.inl ⟨_, _, _, rfl⟩)⟩]; exact h4, h5, h6⟩)
  · exact .inr (.inr ⟨m, o, ty, sz, t, rfl, h3, by rw [er_get, if_pos ⟨h3, hm m (.inr ⟨_, _, _, rfl⟩)⟩]; exact h4, h5, h6⟩)
theorem RdRow.sub {s1 s2 : St} (k : Sub s1 s2) {x : V} {z n : Nat} {L : List V} (h : RdRow s1 x z n L) : RdRow s2 x z n L := by
  obtain ⟨h1, h2⟩ := h
  refine ⟨h1, ?_⟩
  rcases h2 with h2 | ⟨m, o, q, ty, sz, t, rfl, h3, h4, h5, h6⟩ | ⟨m, o, ty, sz, t, rfl, h3, h4, h5, h6⟩
  · exact .inl h2
  · exact .inr (.inl ⟨m, o, q, ty, sz, t, rfl, by rw [k.nx]; exact h3, k.get _ _ h4, h5, h6⟩)
  · exact .inr (.inr ⟨m, o, ty, sz, t, rfl, by rw [k.nx]; exact h3, k.get _ _ h4, h5, h6⟩)
theorem OwnRow.sub {s1 s2 : St} (k : Sub s1 s2) {b : Nat} {x : V} {z n : Nat} {L : List V} (h : OwnRow b s1 x z n L) : OwnRow b s2 x z n L := by
  obtain ⟨h1, h2⟩ := h
  refine ⟨h1, ?_⟩
  rcases h2 with h2 | ⟨m, ty, t, rfl, h3, h4, h5, h6⟩
  · exact .inl h2
  · exact .inr ⟨m, ty, t, rfl, h3, by rw [k.nx]; exact h4, k.get _ _ h5, h6⟩
end Go.Proofs.Ytcjddojcfdeflaa.Ev
namespace Go.Proofs.Ytcjddojcfdeflaa
open Go.RowKit Ev
theorem SlRow.sub {s1 s2 : St} (k : Sub s1 s2) {b n : Nat} {x : V} {L : List (BitVec 64)} (h : SlRow b s1 x n L) : SlRow b s2 x n L := by
  obtain ⟨h1, m, ty, t, rfl, h2, h3, h4, h5, h6⟩ := h
  exact ⟨h1, m, ty, t, rfl, h2, by rw [k.nx]; exact h3, k.get _ _ h4, h5, h6⟩
end Go.Proofs.Ytcjddojcfdeflaa

/-
  PLAIN: a call that stands beside loads of a block that it reads too: it may write nothing that was; so the contract that lets it write serves, where what was stays.
-/
import Derived.Test.YtcjddojcfdeflaaEx
set_option linter.unusedSimpArgs false
set_option linter.unusedVariables false
namespace Go.Proofs.Ytcjddojcfdeflaa.Ev
open Go.RowKit
noncomputable def wbF (F : CallF) : CallF := fun c f args st => match F ⟨c.all, c.l, 0, c.nt⟩ f args st with
  | some r => open Classical in if (∀ n, n < st.nx → st.h.get n ≠ r.2.h.get n → c.wb ≤ n) then some r else none
  | none => none
@[simp] theorem wbF_zero (F : CallF) (a : Bool) (l : List (Nat × Nat)) (nt f : Nat) (args : List V) (st : St) : wbF F ⟨a, l, 0, nt⟩ f args st = F ⟨a, l, 0, nt⟩ f args st := by
  unfold wbF
  cases F ⟨a, l, 0, nt⟩ f args st with
  | none => rfl
  | some r => exact if_pos fun n _ _ => Nat.zero_le _
theorem wbF_both {P : Program} {F : CallF} (h : CallSound P F ∧ HasBody P F) : CallSound P (wbF F) ∧ HasBody P (wbF F) := by
  have key : ∀ (c : Cx) f args st r, wbF F c f args st = some r → F ⟨c.all, c.l, 0, c.nt⟩ f args st = some r ∧ ∀ n, n < st.nx → st.h.get n ≠ r.2.h.get n → c.wb ≤ n := fun c f args st r h' => by
    unfold wbF at h'
    cases hF : F ⟨c.all, c.l, 0, c.nt⟩ f args st with
    | none => rw [hF] at h'; cases h'
    | some r1 =>
      rw [hF] at h'
      simp only at h'
      split at h'
      · rename_i hc
        injection h' with h'
        subst h'
        exact ⟨rfl, hc⟩
      · cases h'
  constructor
  · intro c f args st v st' h' hwf
    obtain ⟨hF, hc⟩ := key c f args st _ h'
    obtain ⟨hs, hsem⟩ := h.1 _ _ _ _ _ _ hF hwf
    refine ⟨⟨hs.le, fun n hn hne => ?_, hs.wf, hs.live⟩, fun B0 ρ τ w vs hvs hag hre hfr R hR => hsem B0 ρ τ w vs hvs hag hre hfr R hR⟩
    obtain ⟨a1, a2, a3, _⟩ := hs.chg n hn hne
    exact ⟨a1, a2, a3, hc n hn hne⟩
  · intro c f args st r h'
    exact h.2 _ _ _ _ _ (key c f args st r h').1
theorem Gd_wb {F : CallF} {a : Bool} {l : List (Nat × Nat)} {wb nt f : Nat} {args : List V} {st : St} {Q : V × St → Prop} (h : Gd (F ⟨a, l, 0, nt⟩ f args st) fun r => Q r ∧ Ext st.nx st r.2) : Gd (wbF F ⟨a, l, wb, nt⟩ f args st) Q := by
  obtain ⟨r, h1, h2, h3⟩ := h
  refine ⟨r, ?_, h2⟩
  unfold wbF
  rw [h1]
  exact if_pos fun n hn hne => absurd (h3.keep n hn).symm hne
theorem Gd_wbK {F : CallF} {a : Bool} {l : List (Nat × Nat)} {wb nt f : Nat} {args : List V} {st : St} {R : V → St → Prop} {Q : V × St → Prop} (h : Gd (F ⟨a, l, 0, nt⟩ f args st) fun r => R r.1 r.2 ∧ Ext st.nx st r.2) (k : ∀ v s', R v s' → Ext st.nx st s' → Q (v, s')) : Gd (wbF F ⟨a, l, wb, nt⟩ f args st) Q :=
  Gd_wb (Gd.mono h fun r h => ⟨k r.1 r.2 h.1 h.2, h.2⟩)
theorem someClash {e : Env} {l : List (Nat × Nat)} : ∀ {args : List Operand}, (∃ x ∈ args, clashes e l x = true) → lr false (fun x _ r => match clashes e l x with | true => true | false => r) args = true
  | [], h => by obtain ⟨x, h, _⟩ := h; cases h
  | x :: args, h => by
    show (match clashes e l x with | true => true | false => lr false (fun x _ r => match clashes e l x with | true => true | false => r) args) = true
    cases hx : clashes e l x with
    | true => rfl
    | false =>
      obtain ⟨y, hy, h2⟩ := h
      rcases List.mem_cons.1 hy with rfl | hy
      · rw [hx] at h2; cases h2
      · exact someClash ⟨y, hy, h2⟩
theorem cxOf_callX {c : Cx} {e : Env} {s0 : St} {d : Option Nat} {cl : Call} {ty : TypeId} {p : String} {af : Array Edge} {g : Option (Nat × Bool)} {ops : List Oper} {i : Nat} {rs : List (Nat × Nat × Nat)} (l : List (Nat × Nat)) (ht : touches (.call cl) = true) (hm : mayW ops i = false) (hl : looseW ops e i = some l) (ha : ∀ p ∈ l, isRo s0.h p.1 = false) (hc : ∃ x ∈ cl.args.toList, clashes e l x = true) :
    cxOf c ops ⟨d, .call cl, ty, p, af, g⟩ i rs s0 e = ⟨c.all, forb (befOf ops i) rs c.l, s0.nx, c.nt⟩ := by
  have h0 : cxOf c ops ⟨d, .call cl, ty, p, af, g⟩ i rs s0 e = (match touches (.call cl) with
      | false => ⟨true, [], c.wb, c.nt⟩
      | true => (match mayW ops i with
        | true => ⟨c.all, forb (befOf ops i) rs c.l, c.wb, c.nt⟩
        | false => (match (match looseW ops e i with
            | none => none
            | some l => (match lr false (fun x _ r => match clashes e (alive s0.h l) x with | true => true | false => r) cl.args.toList with
              | true => none
              | false => some (alive s0.h l))) with
          | some l => ⟨c.all, l ++ forb (befOf ops i) rs c.l, c.wb, c.nt⟩
          | none => ⟨c.all, forb (befOf ops i) rs c.l, s0.nx, c.nt⟩))) := rfl
  rw [h0, ht, hm, hl]
  simp only [alive_own ha, someClash hc]
end Go.Proofs.Ytcjddojcfdeflaa.Ev

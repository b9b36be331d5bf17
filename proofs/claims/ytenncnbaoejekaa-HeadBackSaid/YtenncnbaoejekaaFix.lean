/-
  PLAIN: the evaluator without its count of steps, its calls answered by a given function.
-/
import Derived.Test.YtenncnbaoejekaaEvW
import Derived.Test.YtenncnbaoejekaaCh
namespace Go.Proofs.Ytenncnbaoejekaa.Ev
open Go.RowKit

/-- one step of the evaluator, over what is known of shorter ones, and of calls -/
noncomputable def stepF (P : Program) (F : CallF) (ih : CodeF) : CodeF := fun cx c e st =>
  match c with
  | .skip => some (.n, e, st)
  | .label _ => some (.n, e, st)
  | .region _ ops d => (match d with
    | true => (match regOk ops.toList with
      | true => (match evDraw P F cx ops.toList ops.toList 0 [] e st with
        | none => none
        | some (e, st) => some (.n, e, st))
      | false => none)
    | false => (match evOps P F cx ops.toList ops.toList e st with
      | none => none
      | some (e, st) => some (.n, e, st)))
  | .seq a b => (match ih cx a e st with
    | some (.n, e, st) => ih cx b e st
    | r => r)
  | .cond x a b => opd e x fun v => (match v with
    | .c (.bool true) => ih cx a e st
    | .c (.bool false) => ih cx b e st
    | _ => none)
  | .block i b => (match ih cx b e st with
    | some (.ex j, e, st) => (match Nat.beq j i with | true => some (.n, e, st) | false => some (.ex j, e, st))
    | r => r)
  | .loop b => (match ih cx b e st with
    | some (.n, e, st) => ih cx (.loop b) e st
    | r => r)
  | .exit i => some (.ex i, e, st)
  | .ret => some (.ret, e, st)
  | _ => none
section
variable {P : Program}
theorem step_F (ih : CodeF) : step P ih = stepF P (callOf P ih) ih := rfl
theorem evG_succ {F : CallF} (n : Nat) : evG P F (n + 1) = stepF P F (evG P F n) := rfl
/-- a step is asked of finitely much -/
theorem stepF_lim {F : Nat → CodeF} {G : CodeF} {FF : Nat → CallF} {GG : CallF} (K : Chain FF GG) (hm : ∀ n m, n ≤ m → Le (F n) (F m)) (hl : ∀ cx c e st r, G cx c e st = some r → ∃ n, F n cx c e st = some r) {cx : Cx} {c : Code} {e : Env} {st : St} {r : X × Env × St} (h : stepF P GG G cx c e st = some r) :
    ∃ n, ∀ m, n ≤ m → stepF P (FF m) (F m) cx c e st = some r := by
  have hl' : ∀ {cx c e st r}, G cx c e st = some r → ∃ n, ∀ m, n ≤ m → F m cx c e st = some r := fun h => by
    obtain ⟨n, hn⟩ := hl _ _ _ _ _ h
    exact ⟨n, fun m hnm => hm n m hnm _ _ _ _ _ hn⟩
  cases c with
  | skip => exact ⟨0, fun _ _ => h⟩
  | label l => exact ⟨0, fun _ _ => h⟩
  | exit i => exact ⟨0, fun _ _ => h⟩
  | ret => exact ⟨0, fun _ _ => h⟩
  | region id ops d =>
    cases d with
    | false =>
      simp only [stepF] at h ⊢
      split at h
      · cases h
      · rename_i e1 st1 h1
        obtain ⟨n, hn⟩ := evOps_lim K h1
        exact ⟨n, fun m hnm => by rw [hn m hnm]; exact h⟩
    | true =>
      simp only [stepF] at h ⊢
      split at h
      · rename_i hreg
        split at h
        · cases h
        · rename_i e1 st1 h1
          obtain ⟨n, hn⟩ := evDraw_lim K h1
          exact ⟨n, fun m hnm => by rw [hn m hnm]; exact h⟩
      · cases h
  | seq a b =>
    simp only [stepF] at h ⊢
    split at h
    · rename_i e1 st1 h1
      obtain ⟨n1, hn1⟩ := hl' h1
      obtain ⟨n2, hn2⟩ := hl' h
      refine ⟨max n1 n2, fun m hnm => ?_⟩
      rw [hn1 m (by omega)]
      exact hn2 m (by omega)
    · rename_i hne
      obtain ⟨n1, hn1⟩ := hl' h
      refine ⟨n1, fun m hnm => ?_⟩
      rw [hn1 m hnm]
      obtain ⟨x, e1, st1⟩ := r
      cases x with
      | n => exact (hne _ _ h).elim
      | _ => rfl
  | cond x a b =>
    simp only [stepF] at h ⊢
    obtain ⟨v, h1, h2⟩ := opd_get h
    split at h1
    · obtain ⟨n, hn⟩ := hl' h1
      exact ⟨n, fun m hnm => h2 _ (hn m hnm)⟩
    · obtain ⟨n, hn⟩ := hl' h1
      exact ⟨n, fun m hnm => h2 _ (hn m hnm)⟩
    · cases h1
  | block i b =>
    simp only [stepF] at h ⊢
    split at h
    · rename_i j e1 st1 h1
      obtain ⟨n, hn⟩ := hl' h1
      exact ⟨n, fun m hnm => by rw [hn m hnm]; exact h⟩
    · rename_i hne
      obtain ⟨n, hn⟩ := hl' h
      refine ⟨n, fun m hnm => ?_⟩
      rw [hn m hnm]
      obtain ⟨x, e1, st1⟩ := r
      cases x with
      | ex j => exact (hne _ _ _ h).elim
      | _ => rfl
  | loop b =>
    simp only [stepF] at h ⊢
    split at h
    · rename_i e1 st1 h1
      obtain ⟨n1, hn1⟩ := hl' h1
      obtain ⟨n2, hn2⟩ := hl' h
      refine ⟨max n1 n2, fun m hnm => ?_⟩
      rw [hn1 m (by omega)]
      exact hn2 m (by omega)
    · rename_i hne
      obtain ⟨n1, hn1⟩ := hl' h
      refine ⟨n1, fun m hnm => ?_⟩
      rw [hn1 m hnm]
      obtain ⟨x, e1, st1⟩ := r
      cases x with
      | n => exact (hne _ _ h).elim
      | _ => rfl
  | rangeFunc f ps as b => cases h
  | scope b => cases h
  | goto l => cases h
  | refuse y => cases h
theorem chain_const (F : CallF) : Chain (fun _ => F) F := ⟨fun _ _ _ _ _ _ _ _ h => h, fun _ _ _ _ _ h => ⟨0, h⟩⟩
theorem stepF_mono {FF : CallF} {F G : CodeF} (h : Le F G) : Le (stepF P FF F) (stepF P FF G) := by
  intro cx c e st r hr
  obtain ⟨n, hn⟩ := stepF_lim (chain_const FF) (F := fun n => match n with | 0 => F | _ + 1 => G) (G := F) (fun n m hnm => by
    cases n with
    | zero => cases m with
      | zero => exact fun _ _ _ _ _ h => h
      | succ m => exact h
    | succ n => cases m with
      | zero => omega
      | succ m => exact fun _ _ _ _ _ h => h) (fun cx c e st r h => ⟨0, h⟩) hr
  exact hn (n + 1) (by omega)
theorem evG_le {F : CallF} : ∀ n, Le (evG P F n) (evG P F (n + 1))
  | 0 => fun _ _ _ _ _ h => by cases h
  | n + 1 => by rw [evG_succ, evG_succ]; exact stepF_mono (evG_le n)
theorem evG_mono {F : CallF} {n m : Nat} (h : n ≤ m) : Le (evG P F n) (evG P F m) := by
  induction m with
  | zero => obtain rfl : n = 0 := by omega
            exact fun _ _ _ _ _ h => h
  | succ m ih =>
    by_cases e : n = m + 1
    · subst e; exact fun _ _ _ _ _ h => h
    · exact fun cx c e st r h' => evG_le m _ _ _ _ _ (ih (by omega) _ _ _ _ _ h')
/-- the evaluator, whatever the count -/
noncomputable def evF (P : Program) (F : CallF) : CodeF := open Classical in fun cx c e st => if h : ∃ r n, evG P F n cx c e st = some r then some (Classical.choose h) else none
theorem evF_some {F : CallF} {cx : Cx} {c : Code} {e : Env} {st : St} {r : X × Env × St} : evF P F cx c e st = some r ↔ ∃ n, evG P F n cx c e st = some r := by
  unfold evF
  constructor
  · intro h
    split at h
    · rename_i hx
      injection h with h
      subst h
      exact Classical.choose_spec hx
    · cases h
  · rintro ⟨n, hn⟩
    have hx : ∃ r n, evG P F n cx c e st = some r := ⟨r, n, hn⟩
    rw [dif_pos hx]
    obtain ⟨m, hm⟩ := Classical.choose_spec hx
    have h1 := evG_mono (Nat.le_max_left n m) _ _ _ _ _ hn
    have h2 := evG_mono (Nat.le_max_right n m) _ _ _ _ _ hm
    rw [h1] at h2
    exact h2.symm
theorem evF_eq {F : CallF} : evF P F = stepF P F (evF P F) := by
  funext cx c e st
  apply Option.ext
  intro r
  constructor
  · intro h
    obtain ⟨n, hn⟩ := evF_some.1 h
    cases n with
    | zero => cases hn
    | succ n =>
      rw [evG_succ] at hn
      exact stepF_mono (fun _ _ _ _ _ h => evF_some.2 ⟨n, h⟩) _ _ _ _ _ hn
  · intro h
    obtain ⟨n, hn⟩ := stepF_lim (chain_const F) (F := evG P F) (fun n m => evG_mono) (fun _ _ _ _ _ h => evF_some.1 h) h
    exact evF_some.2 ⟨n + 1, hn n (Nat.le_refl _)⟩
theorem evF_sound (hn : namesOk P = true) (hm : P.follows .mixedOrders = true) {F : CallF} (h : CallSound P F ∧ HasBody P F) : CodeSound P (evF P F) := by
  intro c code e st x e' st' h'
  obtain ⟨n, h'⟩ := evF_some.1 h'
  exact evG_sound hn hm h n c code e st x e' st' h'
/-- calls, and the code that is run over them -/
structure Mach (P : Program) where
  F : CallF
  E : CodeF
  fix : E = stepF P F E
noncomputable def callee (P : Program) : Mach P := ⟨callL P, evL P, evL_eq⟩
noncomputable def over (P : Program) (F : CallF) : Mach P := ⟨F, evF P F, evF_eq⟩
end
end Go.Proofs.Ytenncnbaoejekaa.Ev

/-
  PLAIN: the evaluator where calls are turned into others at each level: contracts that are known, rows into which a part is put, guards that are lifted.
-/
import Derived.Test.YtgcpgidofikcdaaGreatDoorIns
set_option linter.unusedSimpArgs false
set_option linter.unusedVariables false
namespace Go.Proofs.YtgcpgidofikcdaaGreatDoor.Ev
open Go.RowKit
section
variable {P : Program}
theorem stepF_ok (hd : DrawSound P) (hn : Named P) {F : CallF} (hcall : CallSound P F) (hbody : HasBody P F) {ih : CodeF} (ihc : CodeSound P ih) (ihl : LoopSound P ih) : CodeSound P (stepF P F ih) ∧ LoopSound P (stepF P F ih) := by
  have loop : LoopSound P (stepF P F ih) := by
    intro c b e st x e' st' h hwf
    have h' : (match ih c b e st with
      | some (.n, e, st) => ih c (.loop b) e st
      | r => r) = some (x, e', st') := h
    split at h'
    · rename_i e1 st1 hb
      obtain ⟨s1, k1⟩ := ihc _ _ _ _ _ _ _ hb hwf
      obtain ⟨m, s2, k2⟩ := ihl _ _ _ _ _ _ _ h' (s1.wf hwf)
      refine ⟨m + 1, s1.trans s2, fun B0 ρ τ w a he ht hag hre hf Q hQ => ?_⟩
      rw [rounds_succ]
      refine k1 B0 ρ τ w a he ht hag hre (hf.left s2.le) _ ?_
      exact cont_step s1 s2 hwf hag hf hQ fun ρ' a' w' he' ht' hag' hre' hf' hc' => k2 B0 ρ' _ w' a' he' ht' hag' hre' hf' Q hc'
    · rename_i hne
      obtain ⟨s1, k1⟩ := ihc _ _ _ _ _ _ _ h' hwf
      refine ⟨1, s1, fun B0 ρ τ w a he ht hag hre hf Q hQ => ?_⟩
      rw [rounds_succ]
      refine k1 B0 ρ τ w a he ht hag hre hf _ fun ρ' a' w' q1 q2 q3 q4 q5 q6 q7 => ?_
      have := hQ ρ' a' w' q1 q2 q3 q4 q5 q6 q7
      cases x with
      | n => exact (hne e' st' h').elim
      | ex i => exact this
      | ret => exact this
  refine ⟨fun c code e st x e' st' h hwf => ?_, loop⟩
  cases code with
  | skip =>
    have h' : (some (X.n, e, st) : Option (X × Env × St)) = some (x, e', st') := h
    injection h' with h'; injection h' with h1 h'; injection h' with h2 h3; subst h1 h2 h3
    exact ⟨.refl _ _, fun B0 ρ τ w a he ht hag hre hf Q hQ => wp_skip (cont_refl hQ he ht hre)⟩
  | label l =>
    have h' : (some (X.n, e, st) : Option (X × Env × St)) = some (x, e', st') := h
    injection h' with h'; injection h' with h1 h'; injection h' with h2 h3; subst h1 h2 h3
    exact ⟨.refl _ _, fun B0 ρ τ w a he ht hag hre hf Q hQ => wp_label (cont_refl hQ he ht hre)⟩
  | exit i =>
    have h' : (some (X.ex i, e, st) : Option (X × Env × St)) = some (x, e', st') := h
    injection h' with h'; injection h' with h1 h'; injection h' with h2 h3; subst h1 h2 h3
    exact ⟨.refl _ _, fun B0 ρ τ w a he ht hag hre hf Q hQ => wp_exit (cont_refl hQ he ht hre)⟩
  | ret =>
    have h' : (some (X.ret, e, st) : Option (X × Env × St)) = some (x, e', st') := h
    injection h' with h'; injection h' with h1 h'; injection h' with h2 h3; subst h1 h2 h3
    exact ⟨.refl _ _, fun B0 ρ τ w a he ht hag hre hf Q hQ => wp_ret (cont_refl hQ he ht hre)⟩
  | region id ops d =>
    cases d with
    | false =>
      have h' : (match evOps P (F) c ops.toList ops.toList e st with
        | none => none
        | some (e, st) => some (X.n, e, st)) = some (x, e', st') := h
      split at h'
      · cases h'
      · rename_i e1 st1 hop
        injection h' with h'; injection h' with h1 h'; injection h' with h2 h3; subst h1 h2 h3
        obtain ⟨s1, k1⟩ := evOps_ok hcall hn hbody hop hwf
        exact ⟨s1, fun B0 ρ τ w a he ht hag hre hf Q hQ => wp_region_list (k1 B0 ρ τ w a he ht hag hre hf Q hQ)⟩
    | true =>
      have h' : (match regOk ops.toList with
        | true => (match evDraw P (F) c ops.toList ops.toList 0 [] e st with
          | none => none
          | some (e, st) => some (X.n, e, st))
        | false => none) = some (x, e', st') := h
      split at h'
      · rename_i hreg
        split at h'
        · cases h'
        · rename_i e1 st1 hop
          injection h' with h'; injection h' with h1 h'; injection h' with h2 h3; subst h1 h2 h3
          exact hd _ hcall hbody c ops id e e1 st st1 hreg hop hwf
      · cases h'
  | seq a b =>
    have h' : (match ih c a e st with
      | some (.n, e, st) => ih c b e st
      | r => r) = some (x, e', st') := h
    split at h'
    · rename_i e1 st1 hb
      obtain ⟨s1, k1⟩ := ihc _ _ _ _ _ _ _ hb hwf
      obtain ⟨s2, k2⟩ := ihc _ _ _ _ _ _ _ h' (s1.wf hwf)
      refine ⟨s1.trans s2, fun B0 ρ τ w a he ht hag hre hf Q hQ => wp_seq ?_⟩
      refine k1 B0 ρ τ w a he ht hag hre (hf.left s2.le) _ ?_
      exact cont_step s1 s2 hwf hag hf hQ fun ρ' a' w' he' ht' hag' hre' hf' hc' => k2 B0 ρ' _ w' a' he' ht' hag' hre' hf' Q hc'
    · rename_i hne
      obtain ⟨s1, k1⟩ := ihc _ _ _ _ _ _ _ h' hwf
      refine ⟨s1, fun B0 ρ τ w a he ht hag hre hf Q hQ => wp_seq ?_⟩
      refine k1 B0 ρ τ w a he ht hag hre hf _ fun ρ' a' w' q1 q2 q3 q4 q5 q6 q7 => ?_
      have := hQ ρ' a' w' q1 q2 q3 q4 q5 q6 q7
      cases x with
      | n => exact (hne e' st' h').elim
      | ex i => exact this
      | ret => exact this
  | cond y a b =>
    have h' : (opd e y fun v => (match v with
      | .c (.bool true) => ih c a e st
      | .c (.bool false) => ih c b e st
      | _ => none)) = some (x, e', st') := h
    obtain ⟨v, h1, h2⟩ := opd_inv h'
    split at h1
    · obtain ⟨s1, k1⟩ := ihc _ _ _ _ _ _ _ h1 hwf
      refine ⟨s1, fun B0 ρ τ w a he ht hag hre hf Q hQ => wp_cond_true ?_ (k1 B0 ρ τ w a he ht hag hre hf Q hQ)⟩
      exact rel_true (h2 ρ a (he.tmp y))
    · obtain ⟨s1, k1⟩ := ihc _ _ _ _ _ _ _ h1 hwf
      refine ⟨s1, fun B0 ρ τ w a he ht hag hre hf Q hQ => wp_cond_false ?_ (k1 B0 ρ τ w a he ht hag hre hf Q hQ)⟩
      exact rel_true (h2 ρ a (he.tmp y))
    · cases h1
  | block i b =>
    have h' : (match ih c b e st with
      | some (.ex j, e, st) => (match Nat.beq j i with | true => some (X.n, e, st) | false => some (.ex j, e, st))
      | r => r) = some (x, e', st') := h
    split at h'
    · rename_i j e1 st1 hb
      obtain ⟨s1, k1⟩ := ihc _ _ _ _ _ _ _ hb hwf
      split at h'
      · rename_i hj
        injection h' with h'; injection h' with h1 h'; injection h' with h2 h3; subst h1 h2 h3
        have hj' : j = i := by simpa [nbeq] using hj
        refine ⟨s1, fun B0 ρ τ w a he ht hag hre hf Q hQ => wp_block (k1 B0 ρ τ w a he ht hag hre hf _ fun ρ' a' w' q1 q2 q3 q4 q5 q6 q7 => ?_)⟩
        show Exit.inBlock i Q (.exit j) a' w'
        simp only [Exit.inBlock, hj', if_true]
        exact hQ ρ' a' w' q1 q2 q3 q4 q5 q6 q7
      · rename_i hj
        injection h' with h'; injection h' with h1 h'; injection h' with h2 h3; subst h1 h2 h3
        have hj' : ¬ j = i := by simpa [nbeq] using hj
        refine ⟨s1, fun B0 ρ τ w a he ht hag hre hf Q hQ => wp_block (k1 B0 ρ τ w a he ht hag hre hf _ fun ρ' a' w' q1 q2 q3 q4 q5 q6 q7 => ?_)⟩
        show Exit.inBlock i Q (.exit j) a' w'
        simp only [Exit.inBlock, hj', if_false]
        exact hQ ρ' a' w' q1 q2 q3 q4 q5 q6 q7
    · rename_i hne
      obtain ⟨s1, k1⟩ := ihc _ _ _ _ _ _ _ h' hwf
      refine ⟨s1, fun B0 ρ τ w a he ht hag hre hf Q hQ => wp_block (k1 B0 ρ τ w a he ht hag hre hf _ fun ρ' a' w' q1 q2 q3 q4 q5 q6 q7 => ?_)⟩
      have := hQ ρ' a' w' q1 q2 q3 q4 q5 q6 q7
      cases x with
      | n => exact this
      | ex i => exact (hne _ e' st' h').elim
      | ret => exact this
  | loop b =>
    obtain ⟨m, s1, k1⟩ := loop _ _ _ _ _ _ _ h hwf
    exact ⟨s1, fun B0 ρ τ w a he ht hag hre hf Q hQ => wp_loop_rounds m (k1 B0 ρ τ w a he ht hag hre hf Q hQ)⟩
  | rangeFunc f ps as b => cases h
  | scope b =>
    obtain ⟨s1, k1⟩ := ihc _ _ _ _ _ _ _ h hwf
    refine ⟨s1, fun B0 ρ τ w a he ht hag hre hf Q hQ => wp_scope_straight (k1 B0 ρ τ w a he ht hag hre hf _ fun ρ' a' w' q1 q2 q3 q4 q5 q6 q7 => ?_)⟩
    have := hQ ρ' a' w' q1 q2 q3 q4 q5 q6 q7
    cases x with
    | n => exact this
    | ex i => exact this
    | ret => exact this
  | goto l => cases h
  | refuse y => cases h
/-- how calls are turned into others, soundly -/
structure XOk (P : Program) (X : CallF → CallF) : Prop where
  lim : ∀ {FF : Nat → CallF} {GG : CallF}, Chain FF GG → Chain (fun n => X (FF n)) (X GG)
  sound : ∀ {F : CallF}, CallSound P F ∧ HasBody P F → CallSound P (X F) ∧ HasBody P (X F)
abbrev LeF (F G : CallF) : Prop := LeC F G
def two {α : Type} (x y : α) : Nat → α
  | 0 => x
  | _ + 1 => y
theorem chain_two {F G : CallF} (h : LeF F G) : Chain (two F G) G := ⟨fun n m hnm c f args st r hr => by
    cases n with
    | zero => cases m with
      | zero => exact hr
      | succ m => exact h _ _ _ _ _ hr
    | succ n => cases m with
      | zero => omega
      | succ m => exact hr, fun c f args st r hr => ⟨1, hr⟩⟩
theorem chain_two' {F G : CallF} (h : LeF F G) : Chain (two F G) F := ⟨(chain_two h).mono, fun c f args st r hr => ⟨0, hr⟩⟩
theorem XOk.mono {X : CallF → CallF} (hX : XOk P X) {F G : CallF} (h : LeF F G) : LeF (X F) (X G) := fun c f args st r hr => (hX.lim (chain_two h)).mono 0 1 (Nat.zero_le _) c f args st r hr
theorem stepF_mono2 {FF GG : CallF} {F G : CodeF} (hF : LeF FF GG) (h : Le F G) : Le (stepF P FF F) (stepF P GG G) := by
  intro cx c e st r hr
  obtain ⟨n, hn⟩ := stepF_lim (chain_two' hF) (F := two F G) (G := F) (fun n m hnm => by
    cases n with
    | zero => cases m with
      | zero => exact fun _ _ _ _ _ h => h
      | succ m => exact h
    | succ n => cases m with
      | zero => omega
      | succ m => exact fun _ _ _ _ _ h => h) (fun cx c e st r h => ⟨0, h⟩) hr
  exact hn (n + 1) (by omega)
noncomputable def evX (P : Program) (X : CallF → CallF) (n : Nat) : CodeF := nr (fun _ _ _ _ => none) (fun _ ih => stepF P (X (callOf P ih)) ih) n
theorem evX_succ (X : CallF → CallF) (n : Nat) : evX P X (n + 1) = stepF P (X (callOf P (evX P X n))) (evX P X n) := rfl
theorem evX_le {X : CallF → CallF} (hX : XOk P X) : ∀ n, Le (evX P X n) (evX P X (n + 1))
  | 0 => fun _ _ _ _ _ h => by cases h
  | n + 1 => by rw [evX_succ, evX_succ]; exact stepF_mono2 (hX.mono (callOf_mono (evX_le hX n))) (evX_le hX n)
theorem evX_mono {X : CallF → CallF} (hX : XOk P X) {n m : Nat} (h : n ≤ m) : Le (evX P X n) (evX P X m) := by
  induction m with
  | zero => obtain rfl : n = 0 := by omega
            exact fun _ _ _ _ _ h => h
  | succ m ih =>
    by_cases e : n = m + 1
    · subst e; exact fun _ _ _ _ _ h => h
    · exact fun cx c e st r h' => evX_le hX m _ _ _ _ _ (ih (by omega) _ _ _ _ _ h')
noncomputable def evXL (P : Program) (X : CallF → CallF) : CodeF := open Classical in fun cx c e st => if h : ∃ r n, evX P X n cx c e st = some r then some (Classical.choose h) else none
theorem evXL_some {X : CallF → CallF} (hX : XOk P X) {cx : Cx} {c : Code} {e : Env} {st : St} {r : Ev.X × Env × St} : evXL P X cx c e st = some r ↔ ∃ n, evX P X n cx c e st = some r := by
  unfold evXL
  constructor
  · intro h
    split at h
    · rename_i hx
      injection h with h
      subst h
      exact Classical.choose_spec hx
    · cases h
  · rintro ⟨n, hn⟩
    have hx : ∃ r n, evX P X n cx c e st = some r := ⟨r, n, hn⟩
    rw [dif_pos hx]
    obtain ⟨m, hm⟩ := Classical.choose_spec hx
    have h1 := evX_mono hX (Nat.le_max_left n m) _ _ _ _ _ hn
    have h2 := evX_mono hX (Nat.le_max_right n m) _ _ _ _ _ hm
    rw [h1] at h2
    exact h2.symm
theorem callOf_chain {F : Nat → CodeF} {G : CodeF} (hm : ∀ n m, n ≤ m → Le (F n) (F m)) (hl : ∀ cx c e st r, G cx c e st = some r → ∃ n, F n cx c e st = some r) : Chain (fun n => callOf P (F n)) (callOf P G) := ⟨fun n m hnm => callOf_mono (hm n m hnm), fun cx f args st r h => by
    unfold callOf at h ⊢
    split at h
    · cases h
    · rename_i fn hf
      split at h
      · cases h
      · rename_i b hb
        rw [initE_eq] at h
        split at h
        · rename_i e1 st1 h1
          obtain ⟨n, hn⟩ := hl _ _ _ _ _ h1
          exact ⟨n, by simp only [initE_eq, hn]; exact h⟩
        · rename_i e1 st1 h1
          obtain ⟨n, hn⟩ := hl _ _ _ _ _ h1
          exact ⟨n, by simp only [initE_eq, hn]; exact h⟩
        · cases h⟩
theorem evXL_eq {X : CallF → CallF} (hX : XOk P X) : evXL P X = stepF P (X (callOf P (evXL P X))) (evXL P X) := by
  funext cx c e st
  apply Option.ext
  intro r
  have up : ∀ n, Le (evX P X n) (evXL P X) := fun n _ _ _ _ _ h => (evXL_some hX).2 ⟨n, h⟩
  constructor
  · intro h
    obtain ⟨n, hn⟩ := (evXL_some hX).1 h
    cases n with
    | zero => cases hn
    | succ n =>
      rw [evX_succ] at hn
      exact stepF_mono2 (hX.mono (callOf_mono (up n))) (up n) _ _ _ _ _ hn
  · intro h
    obtain ⟨n, hn⟩ := stepF_lim (hX.lim (callOf_chain (P := P) (F := evX P X) (G := evXL P X) (fun n m => evX_mono hX) (fun _ _ _ _ _ h => (evXL_some hX).1 h))) (F := evX P X) (fun n m => evX_mono hX) (fun _ _ _ _ _ h => (evXL_some hX).1 h) h
    exact (evXL_some hX).2 ⟨n + 1, hn n (Nat.le_refl _)⟩
theorem evX_ok (hn : namesOk P = true) (hm : P.follows .mixedOrders = true) {X : CallF → CallF} (hX : XOk P X) : ∀ n, CodeSound P (evX P X n) ∧ LoopSound P (evX P X n)
  | 0 => ⟨fun _ _ _ _ _ _ _ h _ => (by cases h), fun _ _ _ _ _ _ _ h _ => (by cases h)⟩
  | n + 1 => by
    obtain ⟨h1, h2⟩ := evX_ok hn hm hX n
    have h3 := hX.sound ⟨callOf_sound h1, callOf_body⟩
    rw [evX_succ]
    exact stepF_ok (draw_sound (named_of hn) hm) (named_of hn) h3.1 h3.2 h1 h2
theorem evXL_sound (hn : namesOk P = true) (hm : P.follows .mixedOrders = true) {X : CallF → CallF} (hX : XOk P X) : CodeSound P (evXL P X) := fun c code e st x e' st' h hwf => by
  obtain ⟨n, h⟩ := (evXL_some hX).1 h
  exact (evX_ok hn hm hX n).1 c code e st x e' st' h hwf
/-- calls, turned at each level -/
noncomputable def callX (P : Program) (X : CallF → CallF) : CallF := X (callOf P (evXL P X))
theorem callX_both (hn : namesOk P = true) (hm : P.follows .mixedOrders = true) {X : CallF → CallF} (hX : XOk P X) : CallSound P (callX P X) ∧ HasBody P (callX P X) := hX.sound ⟨callOf_sound (evXL_sound hn hm hX), callOf_body⟩
noncomputable def machX {X : CallF → CallF} (hX : XOk P X) : Mach P := ⟨callX P X, evXL P X, evXL_eq hX⟩
/-! ### three ways -/
theorem XOk.id : XOk P fun F => F := ⟨fun h => h, fun h => h⟩
theorem XOk.comp {X Y : CallF → CallF} (hX : XOk P X) (hY : XOk P Y) : XOk P fun F => X (Y F) := ⟨fun h => hX.lim (hY.lim h), fun h => hX.sound (hY.sound h)⟩
theorem XOk.lift : XOk P liftF := ⟨fun {FF GG} h => ⟨fun n m hnm c f args st r hr => by
    obtain ⟨a, l, wb, nt⟩ := c
    cases l with
    | nil => exact h.mono n m hnm _ _ _ _ _ hr
    | cons x l =>
      rw [liftF_cons] at hr ⊢
      cases hF : FF n ⟨a, [], wb, nt⟩ f args (er (x :: l) st) with
      | none => rw [hF] at hr; cases hr
      | some q => rw [hF] at hr; rw [h.mono n m hnm _ _ _ _ _ hF]; exact hr, fun c f args st r hr => by
    obtain ⟨a, l, wb, nt⟩ := c
    cases l with
    | nil => exact h.lim _ _ _ _ _ hr
    | cons x l =>
      rw [liftF_cons] at hr
      cases hF : GG ⟨a, [], wb, nt⟩ f args (er (x :: l) st) with
      | none => rw [hF] at hr; cases hr
      | some q =>
        obtain ⟨n, hn⟩ := h.lim _ _ _ _ _ hF
        refine ⟨n, ?_⟩
        rw [liftF_cons]
        rw [hF] at hr; rw [hn]; exact hr⟩, fun h => liftF_sound h⟩
/-- functions whose contracts are known over other calls -/
noncomputable def knF (S : Nat → Bool) (K : CallF) (F : CallF) : CallF := fun c g args st => match S g with
  | true => K c g args st
  | false => F c g args st
theorem XOk.kn {S : Nat → Bool} {K : CallF} (hK : CallSound P K ∧ HasBody P K) : XOk P (knF S K) := ⟨fun {FF GG} h => ⟨fun n m hnm c f args st r hr => by
    unfold knF at hr ⊢
    split at hr
    · exact hr
    · exact h.mono n m hnm _ _ _ _ _ hr, fun c f args st r hr => by
    unfold knF at hr ⊢
    split at hr
    · exact ⟨0, hr⟩
    · exact h.lim _ _ _ _ _ hr⟩, fun h => ⟨fun c f args st v st' hr hwf => by
    unfold knF at hr
    split at hr
    · exact hK.1 _ _ _ _ _ _ hr hwf
    · exact h.1 _ _ _ _ _ _ hr hwf, fun c f args st r hr => by
    unfold knF at hr
    split at hr
    · exact hK.2 _ _ _ _ _ hr
    · exact h.2 _ _ _ _ _ hr⟩⟩
theorem XOk.ins {F' : CallF} {f z : Nat} (h : CallSound P F' ∧ HasBody P F') (hc : InsC F' f z) (hb : ∃ fn b, P.funcs[f]? = some fn ∧ fn.body = some b) : XOk P fun F => insF F f z := ⟨fun {FF GG} k => ⟨fun n m hnm c g args st r hr => by
    revert hr
    unfold insF
    split
    · split
      · split
        · exact fun hr => hr
        · exact k.mono n m hnm _ _ _ _ _
      · exact k.mono n m hnm _ _ _ _ _
    · exact k.mono n m hnm _ _ _ _ _, fun c g args st r hr => by
    revert hr
    unfold insF
    split
    · split
      · split
        · exact fun hr => ⟨0, hr⟩
        · exact k.lim _ _ _ _ _
      · exact k.lim _ _ _ _ _
    · exact k.lim _ _ _ _ _⟩, fun k => insF_sound h hc hb k⟩
end
end Go.Proofs.YtgcpgidofikcdaaGreatDoor.Ev

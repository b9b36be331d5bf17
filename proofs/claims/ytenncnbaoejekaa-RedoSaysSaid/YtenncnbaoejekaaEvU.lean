/-
  PLAIN: regions that draw their order, done; the evaluator is sound; a law that it runs to true holds.
-/
import Derived.Test.YtenncnbaoejekaaEvT
import Derived.Orders
namespace Go.Proofs.Ytenncnbaoejekaa.Ev
open Go.RowKit

theorem looks_tmp {L : List Oper} {o : Oper} {t : Nat} (h : Operand.tmp t ∈ o.op.operands.toList) : t ∈ looks L o := by
  unfold looks
  refine List.mem_append_left _ ?_
  revert h
  generalize o.op.operands.toList = l
  intro h
  induction l with
  | nil => cases h
  | cons x l ih =>
    rw [lr_cons]
    rcases List.mem_cons.1 h with e | h
    · subst e; exact List.mem_cons_self
    · have := ih h
      cases x <;> first | exact List.mem_cons_of_mem _ this | exact this
theorem looks_guard {L : List Oper} {o oj : Oper} {t j : Nat} {w : Bool} (hg : o.guard = some (j, w)) (hj : L[j]? = some oj) (hd : oj.dst = some t) : t ∈ looks L o := by
  unfold looks
  refine List.mem_append_right _ ?_
  rw [hg]
  simp only [lget_eq, hj, hd]
  exact List.mem_singleton.2 rfl
def undone (listed : Array Bool) : Nat := listed.count false
theorem undone_set {listed : Array Bool} {i : Nat} (hi : i < listed.size) (h : listed.getD i true = false) : undone (listed.setIfInBounds i true) + 1 = undone listed := by
  have hl : listed[i] = false := by simpa [Array.getD, hi] using h
  unfold undone
  have hpos : 0 < listed.count false := Array.count_pos_iff.2 (hl ▸ Array.getElem_mem hi)
  rw [Array.setIfInBounds, dif_pos hi, Array.count_set hi]
  simp [hl]
  omega
section
variable {P : Program} {call : CallF} {c : Cx} {ops : Array Oper} {E : Nat → Env} {S : Nat → St} {Vv : Nat → V} {RS : Nat → List (Nat × Nat × Nat)}
/-- the slots when D is done -/
structure TmpOk (L : List Oper) (E : Nat → Env) (Vv : Nat → V) (D : Nat → Prop) (ρ : Rho) (a : Act) : Prop where
  x1 : ∀ (j : Nat) (o : Oper) (t : Nat), D j → L[j]? = some o → o.dst = some t → Rel ρ (Vv j) (a.tmps.getD t undef)
  x2 : ∀ t : Nat, (∀ (j : Nat) (o : Oper), D j → L[j]? = some o → o.dst ≠ some t) → Rel ρ (((E 0).get t).getD .u) (a.tmps.getD t undef)
theorem TmpOk.put {L : List Oper} {D : Nat → Prop} {ρ ρ' : Rho} {a : Act} (X : TmpOk L E Vv D ρ a) (hf : RegFacts L) (hρ : ρ.le ρ') {i : Nat} {o : Oper} (ho : L[i]? = some o) {v : Value} (hv : Rel ρ' (Vv i) v) (hd : ∀ u, o.dst = some u → u < a.tmps.size) :
    TmpOk L E Vv (fun j => D j ∨ j = i) ρ' (a.put o.dst v) := by
  refine ⟨fun j o' t h ho' hd' => ?_, fun t h => ?_⟩
  · rw [put_tmps _ _ _ _ hd]
    by_cases hji : j = i
    · subst hji
      rw [ho] at ho'; injection ho' with ho'; subst ho'
      rw [if_pos hd']; exact hv
    · rw [if_neg (hf.uniq j i o' o t ho' ho hji hd')]
      exact (X.x1 j o' t (h.resolve_right hji) ho' hd').mono hρ
  · rw [put_tmps _ _ _ _ hd, if_neg (h i o (.inr rfl) ho)]
    exact (X.x2 t fun j o' hj => h j o' (.inl hj)).mono hρ
theorem TmpOk.look {L : List Oper} {D : Nat → Prop} {ρ : Rho} {a : Act} (X : TmpOk L E Vv D ρ a) (T : Run P call c L E S Vv RS) (hD : DoneOk L D) {i : Nat} {o : Oper} (N : Next L D i o) {t : Nat} (ht : t ∈ looks L o) : Rel ρ (((E i).get t).getD .u) (a.tmps.getD t undef) := by
  have hi := N.lt
  obtain ⟨s1, s2⟩ := T.slot i (by omega)
  by_cases h : ∃ (j : Nat) (o' : Oper), L[j]? = some o' ∧ o'.dst = some t
  · obtain ⟨j, o', h1, h2⟩ := h
    have one : ∀ (k : Nat) (o2 : Oper), L[k]? = some o2 → o2.dst = some t → k = j := fun k o2 k1 k2 => by
      by_cases e : k = j
      · exact e
      · exact absurd h2 (T.fact.uniq k j o2 o' t k1 h1 e k2)
    rcases T.fact.look i j o o' t N.op h1 h2 ht with hb | hb
    · rw [s1 j o' t (T.fact.lt i j o N.op hb) h1 h2, Option.getD_some]
      exact X.x1 j o' t (N.bef j hb) h1 h2
    · have hlt := T.fact.lt j i o' h1 hb
      rw [s2 t fun k o2 hk k1 k2 => by have := one k o2 k1 k2; omega]
      exact X.x2 t fun k o2 hk k1 k2 => by
        have := one k o2 k1 k2
        subst this
        exact N.undone (hD.shut _ _ hk hb)
  · have hn : ∀ (j : Nat) (o' : Oper), L[j]? = some o' → o'.dst ≠ some t := fun j o' h1 h2 => h ⟨j, o', h1, h2⟩
    rw [s2 t fun j o' _ => hn j o']
    exact X.x2 t fun j o' _ => hn j o'
def Listed (listed : Array Bool) (j : Nat) : Prop := listed.getD j false = true
theorem listed_set {listed : Array Bool} {i : Nat} (hi : i < listed.size) (j : Nat) : Listed (listed.setIfInBounds i true) j ↔ (Listed listed j ∨ j = i) := by
  unfold Listed
  constructor
  · intro h
    by_cases hji : j = i
    · exact .inr hji
    · rw [getD_set_ne false (fun e => hji e.symm)] at h; exact .inl h
  · rintro (h | h)
    · exact getD_set_true h
    · subst h; simp [Array.getD, hi]
theorem MemOk.congr {L : List Oper} {τ0 τ : Mem} {D D' : Nat → Prop} {m : Nat} (h : MemOk L S τ0 D m τ) (e : ∀ j, D' j ↔ D j) : MemOk L S τ0 D' m τ := by
  have : D' = D := funext fun j => propext (e j)
  rw [this]; exact h
theorem TmpOk.congr {L : List Oper} {D D' : Nat → Prop} {ρ : Rho} {a : Act} (h : TmpOk L E Vv D ρ a) (e : ∀ j, D' j ↔ D j) : TmpOk L E Vv D' ρ a := by
  have : D' = D := funext fun j => propext (e j)
  rw [this]; exact h
theorem DoneOk.congr {L : List Oper} {D D' : Nat → Prop} (h : DoneOk L D) (e : ∀ j, D' j ↔ D j) : DoneOk L D' := by
  have : D' = D := funext fun j => propext (e j)
  rw [this]; exact h
/-- every order -/
theorem Run.any (T : Run P call c ops.toList E S Vv RS) {B0 : Nat} {ρ0 : Rho} {τ0 : Mem} {w0 : World} {a0 : Act} (hag : Agree c (S 0) τ0) (hfr : Fresh ρ0 (S 0) (S ops.toList.length)) (hnt : ∀ (i : Nat) (o : Oper) (t : Nat), ops.toList[i]? = some o → o.dst = some t → t < c.nt)
    {Q : Exit → Act → World → Prop} (hQ : Cont c (S 0) (S ops.toList.length) (E ops.toList.length) B0 ρ0 τ0 w0 a0 (Q .normal)) : ∀ (fuel : Nat) (listed : Array Bool) (ρ : Rho) (τ : Mem) (w : World) (a : Act) (m : Nat), listed.size = ops.size → undone listed = fuel →
    DoneOk ops.toList (Listed listed) → MemOk ops.toList S τ0 (Listed listed) m τ → TmpOk ops.toList E Vv (Listed listed) ρ a → ρ0.le ρ → (∀ n r, ρ n = some r → ρ0 n = some r ∨ ∃ j, Listed listed j ∧ (S j).nx ≤ n ∧ n < (S (j + 1)).nx) →
    c.nt ≤ a.tmps.size → a.defers = a0.defers → Real ρ B0 τ w → Below B0 w0 w → wpAny P .any ops Q fuel listed a w := by
  have nxt : ∀ (listed : Array Bool) (i : Nat), listed.size = ops.size → DoneOk ops.toList (Listed listed) → i ∈ Region.ready .any ops listed → ∃ o, ops[i]? = some o ∧ Next ops.toList (Listed listed) i o ∧ i < listed.size ∧ listed.getD i true = false := by
    intro listed i hsz hD hi
    obtain ⟨h1, o, h2, h3⟩ := mem_ready.1 hi
    have hlt : i < ops.size := by
      rcases Nat.lt_or_ge i ops.size with h | h
      · exact h
      · rw [Array.getElem?_eq_none h] at h2; cases h2
    have ho : ops.toList[i]? = some o := by simpa using h2
    refine ⟨o, h2, ⟨ho, fun hd => ?_, fun j hb => ?_⟩, by omega, h1⟩
    · unfold Listed at hd
      simp [Array.getD, hsz, hlt] at h1 hd
      rw [h1] at hd; cases hd
    · obtain ⟨x, k1, k2, k3⟩ := (befOf_bit ho (T.fact.edge i o ho) j).1 hb
      have hx : Listed listed x.on := h3 x (by simpa using k1) k2
      rcases k3 with rfl | k3
      · exact hx
      · exact hD.shut _ _ hx k3
  have fin : ∀ (listed : Array Bool) (ρ : Rho) (τ : Mem) (w : World) (a : Act) (m : Nat), MemOk ops.toList S τ0 (Listed listed) m τ → TmpOk ops.toList E Vv (Listed listed) ρ a → ρ0.le ρ → (∀ n r, ρ n = some r → ρ0 n = some r ∨ ∃ j, Listed listed j ∧ (S j).nx ≤ n ∧ n < (S (j + 1)).nx) →
      c.nt ≤ a.tmps.size → a.defers = a0.defers → Real ρ B0 τ w → Below B0 w0 w → DoneOk ops.toList (Listed listed) → (∀ j, j < ops.toList.length → Listed listed j) → Q .normal a w := by
    intro listed ρ τ w a m M X l d ht hdf hre hb hD hall
    have hdm : Dom ρ0 ρ (S 0) (S ops.toList.length) := fun n r e => by
      rcases d n r e with h | ⟨j, h1, h2, h3⟩
      · exact .inl h
      · have hj := hD.lt j h1
        have := T.nx (i := 0) (j := j) (by omega) (by omega)
        have := T.nx (i := j + 1) (j := ops.toList.length) (by omega) (by omega)
        exact .inr (by omega)
    refine hQ ρ a w l hdm (fun t => ?_) ht hdf ?_ hb
    · obtain ⟨s1, s2⟩ := T.slot ops.toList.length (Nat.le_refl _)
      by_cases h : ∃ (j : Nat) (o' : Oper), ops.toList[j]? = some o' ∧ o'.dst = some t
      · obtain ⟨j, o', h1, h2⟩ := h
        have hj : j < ops.toList.length := by
          rcases Nat.lt_or_ge j ops.toList.length with h | h
          · exact h
          · rw [List.getElem?_eq_none h] at h1; cases h1
        rw [s1 j o' t hj h1 h2, Option.getD_some]
        exact X.x1 j o' t (hall j hj) h1 h2
      · have hn : ∀ (j : Nat) (o' : Oper), ops.toList[j]? = some o' → o'.dst ≠ some t := fun j o' h1 h2 => h ⟨j, o', h1, h2⟩
        rw [s2 t fun j o' _ => hn j o']
        exact X.x2 t fun j o' _ => hn j o'
    · rw [← T.done hall M]; exact hre
  have stuck : ∀ (listed : Array Bool), listed.size = ops.size → Region.ready .any ops listed = [] → ∀ j, j < ops.toList.length → Listed listed j := by
    intro listed hsz hr j
    induction j using Nat.strongRecOn with
    | _ j ih =>
      intro hj
      cases hb : listed.getD j false with
      | true => exact hb
      | false =>
        exfalso
        have hj' : j < ops.size := by simpa using hj
        have hmem : j ∈ Region.ready .any ops listed := mem_ready.2 ⟨by
          simp [Array.getD, hsz, hj'] at hb ⊢; exact hb, ops[j], Array.getElem?_eq_getElem hj', fun x hx hbx => by
          have := T.fact.edge j ops[j] (by simp [hj']) x (by simpa using hx) hbx
          exact ih x.on this (by omega)⟩
        rw [hr] at hmem; cases hmem
  intro fuel
  induction fuel with
  | zero =>
    intro listed ρ τ w a m hsz hu hD M X l d ht hdf hre hb
    have hr : Region.ready .any ops listed = [] := by
      rw [List.eq_nil_iff_forall_not_mem]
      intro i hi
      obtain ⟨o, _, _, h1, h2⟩ := nxt listed i hsz hD hi
      have := undone_set h1 h2
      omega
    exact ⟨hr, fin listed ρ τ w a m M X l d ht hdf hre hb hD (stuck listed hsz hr)⟩
  | succ fuel ih =>
    intro listed ρ τ w a m hsz hu hD M X l d ht hdf hre hb
    refine ⟨fun hr => fin listed ρ τ w a m M X l d ht hdf hre hb hD (stuck listed hsz hr), fun i hi => ?_⟩
    obtain ⟨o, ho, N, h1, h2⟩ := nxt listed i hsz hD hi
    have hil := N.lt
    have hwfi := T.wf i (by omega)
    have hun := undone_set h1 h2
    have hdt : ∀ u, o.dst = some u → u < a.tmps.size := fun u hu => Nat.lt_of_lt_of_le (hnt i o u N.op hu) ht
    obtain ⟨m', M'⟩ := T.next hD hag M N
    have look : ∀ t, t ∈ looks ops.toList o → Rel ρ (((E i).get t).getD .u) (a.tmps.getD t undef) := fun t h => X.look T hD N h
    have hwt : Region.wanted o (yielded ops a.tmps) = wants (E i) ops.toList o := wants_eq fun j w' oj t hg hj hd => look t (looks_guard hg (by simpa using hj) hd)
    have hdom : ∀ (ρ' : Rho), Dom ρ ρ' (S i) (S (i + 1)) → ∀ n r, ρ' n = some r → ρ0 n = some r ∨ ∃ j, Listed (listed.setIfInBounds i true) j ∧ (S j).nx ≤ n ∧ n < (S (j + 1)).nx := by
      intro ρ' hd n r e
      rcases hd n r e with e | e
      · exact (d n r e).imp id fun ⟨j, k1, k2⟩ => ⟨j, (listed_set h1 j).2 (.inl k1), k2⟩
      · exact .inr ⟨i, (listed_set h1 i).2 (.inr rfl), e⟩
    have go : ∀ (ρ' : Rho) (v' : Value) (w' : World), ρ.le ρ' → Dom ρ ρ' (S i) (S (i + 1)) → Rel ρ' (Vv i) v' → Real ρ' B0 (ov (S i) (S (i + 1)) τ) w' → Below B0 w w' → wpAny P .any ops Q fuel (listed.setIfInBounds i true) (a.put o.dst v') w' := by
      intro ρ' v' w' q1 q2 q3 q4 q5
      exact ih _ ρ' _ w' _ m' (by simpa using hsz) (by omega) ((hD.step N).congr (listed_set h1)) (M'.congr (listed_set h1)) ((X.put T.fact q1 N.op q3 hdt).congr (listed_set h1)) (l.trans q1) (hdom ρ' q2) (by rw [put_size]; exact ht) ((put_defers _ _ _).trans hdf) q4 (hb.trans q5)
    unfold wpOp
    rw [ho]
    simp only [hwt]
    obtain ⟨hst, _⟩ := T.step i o N.op
    rcases hst with ⟨k1, _⟩ | ⟨k1, k2, k3⟩
    · rw [k1, if_pos rfl]
      obtain ⟨_, hop⟩ := T.op i o N.op hwfi k1
      refine .inl (hop B0 ρ τ w a (fun x hx t ht' => look t (looks_tmp (ht' ▸ hx))) (T.agree hD hag M N) hre (fun n n1 n2 => ?_) _ Q go)
      cases e : ρ n with
      | none => rfl
      | some r =>
        exfalso
        have n3 := T.nx (i := 0) (j := i) (by omega) (by omega)
        have n4 := T.nx (i := i + 1) (j := ops.toList.length) (by omega) (by omega)
        rcases d n r e with e | ⟨j, e1, e2, e3⟩
        · rw [hfr n (by omega) (by omega)] at e; cases e
        · exact N.undone (T.own1 (hD.lt j e1) hil e2 e3 n1 n2 ▸ e1)
    · rw [k1, if_neg (by simp)]
      refine go ρ undef w (Rho.le_refl _) (Dom.refl _ _ _) (by rw [k2]; exact rel_u) ?_ (Below.refl _ _)
      rw [k3, ov_self]; exact hre
/-- regions that draw -/
theorem draw_sound (hn : Named P) (hm : P.follows .mixedOrders = true) : DrawSound P := by
  intro call hs hb c ops id e e' st st' hok h hwf
  obtain ⟨E, S, Vv, RS, h1, h2, h3, h4, h5, h6⟩ := trace_of h
  simp only [Nat.zero_add] at h4 h5 h6
  have T : Run P call c ops.toList E S Vv RS := ⟨regOk_facts hok, h6, h3, h2 ▸ hwf, fun i o ho hw hwt => by
    obtain ⟨k, _⟩ := h6 i o ho
    rcases k with ⟨_, k⟩ | ⟨k, _⟩
    · exact evOp_ok hs hn hb hw k
    · rw [hwt] at k; cases k⟩
  subst h1 h2 h4 h5
  refine ⟨T.all _ (Nat.le_refl _), fun B0 ρ τ w a he ht hag hre hfr Q hQ => wp_region_any hm ?_⟩
  have zero : ∀ j, Listed (Array.replicate ops.size false) j ↔ False := fun j => by
    unfold Listed
    simp [Array.getD]
  refine T.any hag hfr (fun i o t ho hd => (h6 i o ho).2.2.1 t hd) hQ ops.size _ ρ τ _ a 0 (by simp) (by unfold undone; simp) ⟨fun j hj => ((zero j).1 hj).elim, fun i j hi => ((zero i).1 hi).elim⟩ (MemOk.zero.congr zero) ⟨fun j o t hj => ((zero j).1 hj).elim, fun t h => he t⟩ (Rho.le_refl _) (fun n r e => .inl e) ht rfl (hre.same rfl) (Below.refl _ _).drew
end
end Go.Proofs.Ytenncnbaoejekaa.Ev

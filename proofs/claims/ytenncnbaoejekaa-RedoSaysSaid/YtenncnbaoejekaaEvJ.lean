/-
  PLAIN: each operation of the evaluator is the model's: operators, conversions.
-/
import Derived.Test.YtenncnbaoejekaaEvI
namespace Go.Proofs.Ytenncnbaoejekaa.Ev
open Go.RowKit

/-! ### texts -/
theorem eqL_eq : ∀ (a b : List Nat), eqL a b = decide (a = b)
  | [], [] => rfl
  | [], _ :: _ => rfl
  | _ :: _, [] => rfl
  | x :: a, y :: b => by
    have h : eqL (x :: a) (y :: b) = (match Nat.beq x y with | true => eqL a b | false => false) := rfl
    rw [h, nbeq, eqL_eq a b]
    by_cases hxy : x = y <;> simp [hxy]
theorem ofNat_inj {x y : Nat} (hx : x < 256) (hy : y < 256) (h : UInt8.ofNat x = UInt8.ofNat y) : x = y := by
  have := congrArg UInt8.toNat h
  simpa [Nat.mod_eq_of_lt hx, Nat.mod_eq_of_lt hy] using this
theorem map_inj : ∀ (a b : List Nat), (∀ x, x ∈ a → x < 256) → (∀ x, x ∈ b → x < 256) → ((a.map UInt8.ofNat == b.map UInt8.ofNat) = decide (a = b))
  | [], [], _, _ => rfl
  | [], _ :: _, _, _ => rfl
  | _ :: _, [], _, _ => rfl
  | x :: a, y :: b, h, k => by
    have ih := map_inj a b (fun z hz => h z (by simp [hz])) (fun z hz => k z (by simp [hz]))
    rw [List.map_cons, List.map_cons, List.cons_beq_cons, ih]
    by_cases hxy : x = y
    · subst hxy; simp
    · have : ¬ UInt8.ofNat x = UInt8.ofNat y := fun e => hxy (ofNat_inj (h x (by simp)) (k y (by simp)) e)
      simp [hxy, this]
theorem ltL_eq : ∀ (a b : List Nat), (∀ x, x ∈ a → x < 256) → (∀ x, x ∈ b → x < 256) → ltL a b = Op.bytesLess (a.map UInt8.ofNat) (b.map UInt8.ofNat)
  | [], [], _, _ => rfl
  | [], _ :: _, _, _ => rfl
  | _ :: _, [], _, _ => rfl
  | x :: a, y :: b, h, k => by
    have e : ltL (x :: a) (y :: b) = (match Nat.blt x y with | true => true | false => match Nat.beq x y with | true => ltL a b | false => false) := rfl
    have ih := ltL_eq a b (fun z hz => h z (by simp [hz])) (fun z hz => k z (by simp [hz]))
    have hx := h x (by simp)
    have hy := k y (by simp)
    rw [e, ih]
    simp only [List.map_cons, Op.bytesLess]
    have e1 : decide (UInt8.ofNat x < UInt8.ofNat y) = Nat.blt x y := by
      rw [Bool.eq_iff_iff]
      simp [UInt8.lt_iff_toNat_lt, Nat.mod_eq_of_lt hx, Nat.mod_eq_of_lt hy, Nat.blt_eq]
    have e2 : (UInt8.ofNat x == UInt8.ofNat y) = Nat.beq x y := by
      rw [nbeq, Bool.eq_iff_iff]
      simp only [beq_iff_eq, decide_eq_true_eq]
      exact ⟨ofNat_inj hx hy, fun e => by rw [e]⟩
    rw [e1, e2]
    cases Nat.blt x y <;> cases Nat.beq x y <;> rfl
theorem ba_toList (l : List UInt8) : (⟨⟨l⟩⟩ : ByteArray).toList = l := by
  rw [ByteArray.toList_eq]
section
variable {P : Program} {c : Cx} {st st' : St} {v : V} {e : Env} {o : Oper}
theorem strOp_ok {β : Type} {q : β} {op : BinOp} {a b : List Nat} {k : V → Option β} (h : strOp op a b k = some q) (ha : ∀ x, x ∈ a → x < 256) (hb : ∀ x, x ∈ b → x < 256) :
    ∃ x y, k x = some q ∧ (∀ ρ, Rel ρ x y) ∧ ∀ w, (Op.stringOp op ⟨⟨a.map UInt8.ofNat⟩⟩ ⟨⟨b.map UInt8.ofNat⟩⟩).run P w = .ok y w := by
  have e1 := map_inj a b ha hb
  have e2 := ltL_eq a b ha hb
  unfold strOp at h
  simp only [fb_eq, fl_eq] at h
  split at h
  · split at h
    · rename_i hl
      refine ⟨_, .string ⟨⟨(a ++ b).map UInt8.ofNat⟩⟩, h, fun ρ => ?_, fun w => ?_⟩
      · simp only [Rel]
        exact ⟨trivial, fun x hx => (List.mem_append.1 hx).elim (ha x) (hb x)⟩
      · have hl' : a.length + b.length ≤ 1073741824 := by simpa [Nat.ble_eq] using hl
        have hn : ¬ (((⟨⟨a.map UInt8.ofNat⟩⟩ : ByteArray).size + (⟨⟨b.map UInt8.ofNat⟩⟩ : ByteArray).size : Nat) : Int) > IntKind.i64.max := by
          simp [ByteArray.size, IntKind.max, IntKind.signed, IntKind.bits]; omega
        simp only [Op.stringOp, hn, if_false, Sem.run_pure]
        congr 2
        apply ba_eq
        simp
    · cases h
  all_goals first
    | (refine ⟨_, _, h, fun ρ => rel_bool _, fun w => ?_⟩
       simp only [Op.stringOp, ba_toList, e1, ← e2, eqL_eq, Sem.run_pure])
    | (cases h)
theorem eqGuard_plain {op : BinOp} {t : TypeId} {x y : Operand} {a b : Value} (h1 : ¬ (a = .nilIface ∧ b = .nilIface)) (h2 : ∀ l m, ¬ (a = .agg l ∧ b = .agg m)) (w : World) : (eqGuard op t x y a b).run P w = .ok () w := by
  unfold eqGuard
  split
  case h_3 => rfl
  all_goals
    rw [if_neg (by simp)]
    split
    · exact absurd ⟨rfl, rfl⟩ h1
    · exact absurd ⟨rfl, rfl⟩ (h2 _ _)
    · rfl
theorem nil_ok {d : TypeDesc} {t : TypeId} {va vb : V} {b : Bool} (hu : P.underlying t = some d) (h : nilQ d va vb = some b) {ρ : Rho} {x y : Value} (hx : Rel ρ va x) (hy : Rel ρ vb y) (w : World) :
    (∀ ox oy op, (eqGuard op t ox oy x y).run P w = .ok () w) ∧ (Go.binOp .eql t x y).run P w = .ok (.bool b) w ∧ (Go.binOp .neq t x y).run P w = .ok (.bool (!b)) w := by
  have key : ∀ (x y : Value), (Op.equalIn (9999 + 1) t x y).run P w = .ok b w → (Op.equal t x y).run P w = .ok b w := fun _ _ h => h
  unfold nilQ at h
  split at h
  case h_14 => cases h
  all_goals
    injection h with h
    subst h
    simp only [Rel] at hx hy
  case h_1 | h_4 | h_11 =>
    obtain ⟨e1, _⟩ := hx
    obtain ⟨e2, _⟩ := hy
    have hk := key x y (by rw [e1, e2, Op.equalIn]; simp only [Sem.run_bind, run_underlying' hu, Result.andThen_ok]; rfl)
    subst e1 e2
    exact ⟨fun _ _ _ => eqGuard_plain (by simp) (by simp) w, by simp [Go.binOp, hk], by simp [Go.binOp, hk]⟩
  case h_2 | h_5 | h_12 =>
    obtain ⟨e1, _⟩ := hx
    obtain ⟨r, _, e2⟩ := hy
    have hk := key x y (by rw [e1, e2, Op.equalIn]; simp only [Sem.run_bind, run_underlying' hu, Result.andThen_ok]; rfl)
    subst e1 e2
    exact ⟨fun _ _ _ => eqGuard_plain (by simp) (by simp) w, by simp [Go.binOp, hk], by simp [Go.binOp, hk]⟩
  case h_3 | h_6 | h_13 =>
    obtain ⟨r, _, e1⟩ := hx
    obtain ⟨e2, _⟩ := hy
    have hk := key x y (by rw [e1, e2, Op.equalIn]; simp only [Sem.run_bind, run_underlying' hu, Result.andThen_ok]; rfl)
    subst e1 e2
    exact ⟨fun _ _ _ => eqGuard_plain (by simp) (by simp) w, by simp [Go.binOp, hk], by simp [Go.binOp, hk]⟩
  case h_7 =>
    obtain ⟨e1, _⟩ := hx
    obtain ⟨r, _, _, _, e2⟩ := hy
    have hk := key x y (by rw [e1, e2, Op.equalIn]; simp only [Sem.run_bind, run_underlying' hu, Result.andThen_ok]; rfl)
    subst e1 e2
    exact ⟨fun _ _ _ => eqGuard_plain (by simp) (by simp) w, by simp [Go.binOp, hk], by simp [Go.binOp, hk]⟩
  case h_8 =>
    obtain ⟨r, _, _, _, e1⟩ := hx
    obtain ⟨e2, _⟩ := hy
    have hk := key x y (by rw [e1, e2, Op.equalIn]; simp only [Sem.run_bind, run_underlying' hu, Result.andThen_ok]; rfl)
    subst e1 e2
    exact ⟨fun _ _ _ => eqGuard_plain (by simp) (by simp) w, by simp [Go.binOp, hk], by simp [Go.binOp, hk]⟩
  case h_9 =>
    obtain ⟨e1, _⟩ := hx
    obtain ⟨a, cc, e2⟩ := hy
    have hk := key x y (by rw [e1, e2, Op.equalIn]; simp only [Sem.run_bind, run_underlying' hu, Result.andThen_ok]; rfl)
    subst e1 e2
    exact ⟨fun _ _ _ => eqGuard_plain (by simp) (by simp) w, by simp [Go.binOp, hk], by simp [Go.binOp, hk]⟩
  case h_10 =>
    obtain ⟨a, cc, e1⟩ := hx
    obtain ⟨e2, _⟩ := hy
    have hk := key x y (by rw [e1, e2, Op.equalIn]; simp only [Sem.run_bind, run_underlying' hu, Result.andThen_ok]; rfl)
    subst e1 e2
    exact ⟨fun _ _ _ => eqGuard_plain (by simp) (by simp) w, by simp [Go.binOp, hk], by simp [Go.binOp, hk]⟩
theorem binE_ok {op : BinOp} {t yt : TypeId} {x y : Operand} {va vb : V} (ho : o.op = .binOp op t x y yt) (h : binE P st op t x y va vb = some (v, st'))
    (ha : ∀ (ρ : Rho) (a : Act), TmpRel ρ e a x → Rel ρ va (a.eval x)) (hb : ∀ (ρ : Rho) (a : Act), TmpRel ρ e a y → Rel ρ vb (a.eval y)) : StepOk c st st' ∧ OpOk P c st st' v e o := by
  have hex : ∀ (a : Act) (w : World) (u : Value), (∀ ox oy, (eqGuard op t ox oy (a.eval x) (a.eval y)).run P w = .ok () w) → (Go.binOp op t (a.eval x) (a.eval y)).run P w = .ok u w → (execOp a.eval o).run P w = .ok (.value u) w := fun a w u h1 h2 => by
    simp [execOp, ho, h1, h2]
  have mx : x ∈ o.op.operands.toList := by simp [ho, Op.operands]
  have my : y ∈ o.op.operands.toList := by simp [ho, Op.operands]
  have pure_ok : ∀ {s1 : Value} {s2 : Value}, valV va = some s1 → valV vb = some s2 → pu P (do eqGuard op t x y s1 s2; Go.binOp op t s1 s2) (ret st) = some (v, st') → StepOk c st st' ∧ OpOk P c st st' v e o := fun h1 h2 h3 => by
    obtain ⟨u, z, h4, h5, h6⟩ := pu_inv h3
    obtain ⟨rfl, rfl⟩ := ret_inv h4
    refine opOk_val fun B0 ρ τ w a hx _ _ => ⟨z, h5 ρ, ?_⟩
    have e1 := valV_rel h1 (ha ρ a (hx x mx))
    have e2 := valV_rel h2 (hb ρ a (hx y my))
    have := h6 w
    simp only [execOp, ho, Sem.run_bind, e1, e2] at this ⊢
    rw [this]; rfl
  unfold binE at h
  split at h
  · rename_i k n k' m
    have eqx : ∀ (ρ : Rho) (a : Act), (∀ x, x ∈ o.op.operands.toList → TmpRel ρ e a x) → a.eval x = .int k n ∧ a.eval y = .int k' m := fun ρ a hx => ⟨rel_num (ha ρ a (hx x mx)), rel_num (hb ρ a (hx y my))⟩
    split at h
    · split at h
      · rename_i u hu
        obtain ⟨v1, h1, h2⟩ := ofV_inv h
        obtain ⟨rfl, rfl⟩ := ret_inv h1
        refine opOk_val fun B0 ρ τ w a hx _ _ => ⟨u, h2 ρ, ?_⟩
        obtain ⟨e1, e2⟩ := eqx ρ a hx
        exact hex a w u (fun ox oy => by rw [e1, e2]; exact eqGuard_plain (by simp) (by simp) w) (by rw [e1, e2]; exact shI_ok t hu)
      · cases h
    · split at h
      · rename_i u hu
        obtain ⟨v1, h1, h2⟩ := ofV_inv h
        obtain ⟨rfl, rfl⟩ := ret_inv h1
        refine opOk_val fun B0 ρ τ w a hx _ _ => ⟨u, h2 ρ, ?_⟩
        obtain ⟨e1, e2⟩ := eqx ρ a hx
        exact hex a w u (fun ox oy => by rw [e1, e2]; exact eqGuard_plain (by simp) (by simp) w) (by rw [e1, e2]; exact shI_ok t hu)
      · cases h
    · rename_i g1 g2
      split at h
      · rename_i hk
        split at h
        · rename_i u hu
          obtain ⟨v1, h1, h2⟩ := ofV_inv h
          obtain ⟨rfl, rfl⟩ := ret_inv h1
          refine opOk_val fun B0 ρ τ w a hx _ _ => ⟨u, h2 ρ, ?_⟩
          obtain ⟨e1, e2⟩ := eqx ρ a hx
          have := eqKd_eq hk
          subst this
          exact hex a w u (fun ox oy => by rw [e1, e2]; exact eqGuard_plain (by simp) (by simp) w) (by rw [e1, e2]; exact binI_ok t hu g1 g2)
        · cases h
      · cases h
  · rename_i la lb
    have ha' : ∀ (ρ : Rho) (a : Act), TmpRel ρ e a x → a.eval x = .string ⟨⟨la.map UInt8.ofNat⟩⟩ ∧ ∀ b, b ∈ la → b < 256 := fun ρ a h => by have := ha ρ a h; simpa only [Rel] using this
    have hb' : ∀ (ρ : Rho) (a : Act), TmpRel ρ e a y → a.eval y = .string ⟨⟨lb.map UInt8.ofNat⟩⟩ ∧ ∀ b, b ∈ lb → b < 256 := fun ρ a h => by have := hb ρ a h; simpa only [Rel] using this
    by_cases hlt : (∀ b, b ∈ la → b < 256) ∧ (∀ b, b ∈ lb → b < 256)
    · obtain ⟨u, z, h1, h2, h3⟩ := strOp_ok (P := P) h hlt.1 hlt.2
      obtain ⟨rfl, rfl⟩ := ret_inv h1
      refine opOk_val fun B0 ρ τ w a hx _ _ => ⟨z, h2 ρ, ?_⟩
      have e1 := (ha' ρ a (hx x mx)).1
      have e2 := (hb' ρ a (hx y my)).1
      exact hex a w z (fun ox oy => by rw [e1, e2]; exact eqGuard_plain (by simp) (by simp) w) (by
        rw [e1, e2]
        have : Go.binOp op t (.string ⟨⟨la.map UInt8.ofNat⟩⟩) (.string ⟨⟨lb.map UInt8.ofNat⟩⟩) = Op.stringOp op ⟨⟨la.map UInt8.ofNat⟩⟩ ⟨⟨lb.map UInt8.ofNat⟩⟩ := by cases op <;> rfl
        rw [this]; exact h3 w)
    · have hst : st = st' := by
        unfold strOp at h
        simp only [fb_eq, fl_eq] at h
        split at h
        · split at h
          · exact (ret_inv h).2
          · cases h
        all_goals first
          | exact (ret_inv h).2
          | cases h
      subst hst
      refine ⟨.refl _ _, fun B0 ρ τ w a hx _ _ _ K Q _ => ?_⟩
      exact absurd ⟨(ha' ρ a (hx x mx)).2, (hb' ρ a (hx y my)).2⟩ hlt
  · split at h
    · rename_i d hu
      split at h
      · rename_i b hn
        rw [fb_eq] at h
        obtain ⟨rfl, rfl⟩ := some_inv h
        refine opOk_val fun B0 ρ τ w a hx _ _ => ⟨.bool b, rel_bool _, ?_⟩
        obtain ⟨k1, k2, k3⟩ := nil_ok hu hn (ha ρ a (hx x mx)) (hb ρ a (hx y my)) w
        exact hex a w _ (fun ox oy => k1 ox oy _) k2
      · split at h
        · rename_i s1 s2 q1 q2
          exact pure_ok q1 q2 h
        · cases h
    · rename_i d hu
      split at h
      · rename_i b hn
        rw [fb_eq] at h
        obtain ⟨rfl, rfl⟩ := some_inv h
        refine opOk_val fun B0 ρ τ w a hx _ _ => ⟨.bool (!b), rel_bool _, ?_⟩
        obtain ⟨k1, k2, k3⟩ := nil_ok hu hn (ha ρ a (hx x mx)) (hb ρ a (hx y my)) w
        exact hex a w _ (fun ox oy => k1 ox oy _) k3
      · split at h
        · rename_i s1 s2 q1 q2
          exact pure_ok q1 q2 h
        · cases h
    · cases h
theorem ok_binOp {op : BinOp} {t yt : TypeId} {x y : Operand} (ho : o.op = .binOp op t x y yt) (h : (opd e x fun a => opd e y fun b => binE P st op t x y a b) = some (v, st')) : StepOk c st st' ∧ OpOk P c st st' v e o := by
  obtain ⟨va, h1, h2⟩ := opd_inv h
  obtain ⟨vb, h3, h4⟩ := opd_inv h1
  exact binE_ok ho h3 h2 h4
end
end Go.Proofs.Ytenncnbaoejekaa.Ev

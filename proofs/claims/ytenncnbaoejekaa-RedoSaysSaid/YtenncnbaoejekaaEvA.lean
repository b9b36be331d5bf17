/-
  PLAIN: laws of the evaluator's tables and of its numbers.
-/
import Derived.Test.YtenncnbaoejekaaEv
import Derived.ProofKit
import Derived.Below
namespace Go.Proofs.Ytenncnbaoejekaa.Ev

/-! ### recursors -/
section
variable {α β : Type}
@[simp] theorem lr_nil (z : β) (s : α → List α → β → β) : lr z s [] = z := rfl
@[simp] theorem lr_cons (z : β) (s : α → List α → β → β) (a : α) (l : List α) : lr z s (a :: l) = s a l (lr z s l) := rfl
@[simp] theorem nr_zero (z : β) (s : Nat → β → β) : nr z s 0 = z := rfl
@[simp] theorem nr_succ (z : β) (s : Nat → β → β) (n : Nat) : nr z s (n + 1) = s n (nr z s n) := rfl
@[simp] theorem fn_eq (m : Nat) (k : Nat → β) : fn m k = k m := by cases m <;> rfl
@[simp] theorem fi_eq (n : Int) (k : Int → β) : fi n k = k n := by cases n <;> simp [fi]
@[simp] theorem fl_eq (l : List Nat) (k : List Nat → β) : fl l k = k l := by
  induction l generalizing k with
  | nil => rfl
  | cons x l ih =>
    have h : fl (x :: l) k = fn x fun x => fl l fun l => k (x :: l) := rfl
    rw [h, fn_eq, ih]
@[simp] theorem fb_eq (b : Bool) (k : Bool → β) : fb b k = k b := by cases b <;> rfl
end

/-! ### tables -/
theorem pf_inj : ∀ (f f' m m' : Nat), m ≤ f → m' ≤ f' → pf f m = pf f' m' → m = m'
  | 0, 0, m, m', h, h', _ => by omega
  | 0, f' + 1, m, m', h, h', e => by
    have hm : m = 0 := by omega
    subst hm
    cases m' with
    | zero => rfl
    | succ k => exact absurd e (by simp [pf])
  | f + 1, 0, m, m', h, h', e => by
    have hm : m' = 0 := by omega
    subst hm
    cases m with
    | zero => rfl
    | succ k => exact absurd e (by simp [pf])
  | f + 1, f' + 1, m, m', h, h', e => by
    cases m with
    | zero => cases m' with
      | zero => rfl
      | succ k => exact absurd e (by simp [pf])
    | succ k => cases m' with
      | zero => exact absurd e (by simp [pf])
      | succ k' =>
        have h1 : pf (f + 1) (k + 1) = (Nat.beq (k % 2) 0) :: pf f (k / 2) := rfl
        have h2 : pf (f' + 1) (k' + 1) = (Nat.beq (k' % 2) 0) :: pf f' (k' / 2) := rfl
        rw [h1, h2] at e
        injection e with e1 e2
        have := pf_inj f f' (k / 2) (k' / 2) (by omega) (by omega) e2
        have e3 : (k % 2 = 0) = (k' % 2 = 0) := by
          rw [Bool.eq_iff_iff] at e1
          simpa [Nat.beq_eq] using e1
        have : k = k' := by
          by_cases hk : k % 2 = 0
          · have hk' : k' % 2 = 0 := by rw [← e3]; exact hk
            omega
          · have hk' : ¬ k' % 2 = 0 := by rw [← e3]; exact hk
            omega
        rw [this]
theorem pth_inj {m m' : Nat} (h : pth m = pth m') : m = m' := pf_inj m m' m m' (Nat.le_refl _) (Nat.le_refl _) h
theorem T.setP_eq {α : Type} (v : α) : ∀ (p : List Bool) {β : Type} (t : T α) (k : T α → β), T.setP p v t k = k (T.setP p v t fun t => t)
  | [], _, t, k => by cases t <;> rfl
  | false :: p, _, .lf, k => by
    show T.setP p v .lf (fun r => k (.nd .lf none r)) = k (T.setP p v .lf fun r => .nd .lf none r)
    rw [T.setP_eq v p .lf (fun r => k (.nd .lf none r)), T.setP_eq v p .lf (fun r => T.nd .lf none r)]
  | false :: p, _, .nd l o r, k => by
    show T.setP p v r (fun r => k (.nd l o r)) = k (T.setP p v r fun r => .nd l o r)
    rw [T.setP_eq v p r (fun r => k (.nd l o r)), T.setP_eq v p r (fun r => T.nd l o r)]
  | true :: p, _, .lf, k => by
    show T.setP p v .lf (fun r => k (.nd r none .lf)) = k (T.setP p v .lf fun r => .nd r none .lf)
    rw [T.setP_eq v p .lf (fun r => k (.nd r none .lf)), T.setP_eq v p .lf (fun r => T.nd r none .lf)]
  | true :: p, _, .nd l o r, k => by
    show T.setP p v l (fun l => k (.nd l o r)) = k (T.setP p v l fun l => .nd l o r)
    rw [T.setP_eq v p l (fun l => k (.nd l o r)), T.setP_eq v p l (fun l => T.nd l o r)]
section
variable {α β : Type}
@[simp] theorem T.setK_eq (t : T α) (n : Nat) (v : α) (k : T α → β) : t.setK n v k = k (t.set n v) := T.setP_eq v (pth n) t k
theorem T.getP_lf (p : List Bool) : T.getP p (.lf : T α) = none := by cases p <;> rfl
@[simp] theorem T.get_lf (n : Nat) : (T.lf : T α).get n = none := T.getP_lf _
theorem T.getP_setP (v : α) : ∀ (p q : List Bool) (t : T α), T.getP q (T.setP p v t fun t => t) = if p = q then some v else T.getP q t
  | [], [], t => by cases t <;> rfl
  | [], b :: q, .lf => by
    cases b
    · show T.getP q (.lf : T α) = _; simp [T.getP_lf]
    · show T.getP q (.lf : T α) = _; simp [T.getP_lf]
  | [], b :: q, .nd l o r => by cases b <;> rfl
  | false :: p, q, .lf => by
    have h : T.setP (false :: p) v (.lf : T α) (fun t => t) = .nd .lf none (T.setP p v .lf fun t => t) := T.setP_eq v p .lf _
    rw [h]
    match q with
    | [] => rfl
    | true :: q => show T.getP q (.lf : T α) = _; simp [T.getP_lf]
    | false :: q => show T.getP q (T.setP p v .lf fun t => t) = _; rw [T.getP_setP v p q]; simp [T.getP_lf]
  | false :: p, q, .nd l o r => by
    have h : T.setP (false :: p) v (.nd l o r : T α) (fun t => t) = .nd l o (T.setP p v r fun t => t) := T.setP_eq v p r _
    rw [h]
    match q with
    | [] => rfl
    | true :: q => show T.getP q l = _; simp; rfl
    | false :: q => show T.getP q (T.setP p v r fun t => t) = _; rw [T.getP_setP v p q]; simp; rfl
  | true :: p, q, .lf => by
    have h : T.setP (true :: p) v (.lf : T α) (fun t => t) = .nd (T.setP p v .lf fun t => t) none .lf := T.setP_eq v p .lf _
    rw [h]
    match q with
    | [] => rfl
    | false :: q => show T.getP q (.lf : T α) = _; simp [T.getP_lf]
    | true :: q => show T.getP q (T.setP p v .lf fun t => t) = _; rw [T.getP_setP v p q]; simp [T.getP_lf]
  | true :: p, q, .nd l o r => by
    have h : T.setP (true :: p) v (.nd l o r : T α) (fun t => t) = .nd (T.setP p v l fun t => t) o r := T.setP_eq v p l _
    rw [h]
    match q with
    | [] => rfl
    | false :: q => show T.getP q r = _; simp; rfl
    | true :: q => show T.getP q (T.setP p v l fun t => t) = _; rw [T.getP_setP v p q]; simp; rfl
theorem T.get_set (t : T α) (n m : Nat) (v : α) : (t.set n v).get m = if n = m then some v else t.get m := by
  unfold T.get T.set
  rw [T.getP_setP]
  by_cases h : n = m
  · simp [h]
  · rw [if_neg h, if_neg (fun e => h (pth_inj e))]
@[simp] theorem T.get_set_same (t : T α) (n : Nat) (v : α) : (t.set n v).get n = some v := by rw [T.get_set, if_pos rfl]
theorem T.get_set_ne (t : T α) {n m : Nat} (v : α) (h : n ≠ m) : (t.set n v).get m = t.get m := by rw [T.get_set, if_neg h]
theorem lget_eq (l : List α) (n : Nat) : lget l n = l[n]? := by
  induction l generalizing n with
  | nil => rfl
  | cons a l ih => cases n with
    | zero => rfl
    | succ n => exact ih n
end
end Go.Proofs.Ytenncnbaoejekaa.Ev

/-
  PLAIN: the evaluator over inputs that are not known: memory, rows, builtins, by rewriting.
-/
import Derived.Test.YtenncnbaoejekaaSy
namespace Go.Proofs.Ytenncnbaoejekaa.Ev
open Go.RowKit
section
variable {P : Program} {F : CallF} {c : Cx} {e : Env} {st : St} {β : Type}
@[simp] theorem asNat_cast (i : IntKind) (n : Nat) (k : Nat → Option β) : asNat (.c (.int i (n : Int))) k = k n := rfl
@[simp] theorem asNat_lit (i : IntKind) (n : Nat) (k : Nat → Option β) : asNat (.c (.int i (OfNat.ofNat n))) k = k n := rfl
@[simp] theorem asNat_0 (i : IntKind) (k : Nat → Option β) : asNat (.c (.int i 0)) k = k 0 := rfl
@[simp] theorem asNat_1 (i : IntKind) (k : Nat → Option β) : asNat (.c (.int i 1)) k = k 1 := rfl
theorem asNat_of {i : IntKind} {x : Int} (h : 0 ≤ x) (k : Nat → Option β) : asNat (.c (.int i x)) k = k x.toNat := by
  obtain ⟨n, rfl⟩ := Int.eq_ofNat_of_zero_le h
  rfl
/-! ### blocks -/
def csK (b : B) (k : TypeId → Nat → T V → Option β) : Option β := match b with
  | .cs ty sz t => k ty sz t
  | _ => none
@[simp] theorem csK_cs (ty sz : Nat) (t : T V) (k : TypeId → Nat → T V → Option β) : csK (.cs ty sz t) k = k ty sz t := rfl
theorem getC_eq (n : Nat) (k : T V → Option β) : getC c st n k = bif c.ok n then (st.h.get n).bind fun b => csK b fun _ _ t => k t else none := by
  unfold getC
  rw [getB_eq]
  cases c.ok n with
  | false => rfl
  | true =>
    cases st.h.get n with
    | none => rfl
    | some b => cases b <;> rfl
def aggK (a : Option Bool) (x y : Option β) : Option β := match a with
  | some true => x
  | some false => y
  | none => none
@[simp] theorem aggK_t (x y : Option β) : aggK (some true) x y = x := rfl
@[simp] theorem aggK_f (x y : Option β) : aggK (some false) x y = y := rfl
theorem loadE_eq (t : TypeId) (n i : Nat) (k : V → Option β) : loadE P c st t n i k = getC c st n fun b => aggK (agg? P t) (szOf P t fun z => getsB b z i fun l => k (.g l)) ((b.get i).bind k) := by
  unfold loadE
  congr 1
  funext b
  cases agg? P t with
  | none => rfl
  | some a => cases a with
    | true => rfl
    | false => cases h : T.get b i <;> rfl
theorem getsB_zero (t : T V) (i : Nat) (k : List V → Option β) : getsB t 0 i k = k [] := rfl
theorem getsB_succ (t : T V) (n i : Nat) (k : List V → Option β) : getsB t (n + 1) i k = (t.get i).bind fun x => getsB t n (i + 1) fun l => k (x :: l) := by
  have h : getsB t (n + 1) i k = (match t.get i with | none => none | some x => fn (i + 1) fun i => getsB t n i fun l => k (x :: l)) := rfl
  rw [h]
  cases t.get i with
  | none => rfl
  | some x => simp
/-- so many cells, told by a list -/
theorem getsB_list {t : T V} : ∀ {l : List V} {i : Nat}, (∀ j x, l[j]? = some x → t.get (i + j) = some x) → ∀ k : List V → Option β, getsB t l.length i k = k l
  | [], _, _, _ => rfl
  | x :: l, i, h, k => by
    show getsB t (l.length + 1) i k = _
    rw [getsB_succ, show t.get i = some x from h 0 x rfl]
    exact getsB_list (fun j y hj => by have := h (j + 1) y hj; rwa [show i + (j + 1) = i + 1 + j by omega] at this) _
theorem putB_eq (n i : Nat) (cs : List V) (k : St → Option β) : putB c st n i cs k = bif c.ok n then (st.h.get n).bind fun b => csK b fun ty sz t => (if i + cs.length ≤ sz ∧ ty ≠ roT ∧ c.wb ≤ n then k ⟨st.nx, st.h.set n (.cs ty sz (sets cs i t))⟩ else none) else none := by
  unfold putB
  rw [getB_eq]
  cases c.ok n with
  | false => rfl
  | true =>
    cases st.h.get n with
    | none => rfl
    | some b => cases b with
      | cs ty sz t =>
        simp only [Option.bind_some, cond_true, csK_cs]
        by_cases h1 : i + cs.length ≤ sz
        · have h1' : Nat.ble (i + cs.length) sz = true := by rw [Nat.ble_eq]; exact h1
          by_cases h2 : ty = roT
          · have h2' : Nat.beq ty roT = true := by subst h2; rfl
            simp [h1', h2]
          · have h2' : Nat.beq ty roT = false := by
              cases h : Nat.beq ty roT with
              | false => rfl
              | true => exact absurd (Nat.eq_of_beq_eq_true h) h2
            simp only [h1', h2', setsK_eq, setB_eq]
            by_cases h3 : c.wb ≤ n <;> simp [h1, h2, h3]
        · have h1' : Nat.ble (i + cs.length) sz = false := by
            cases h : Nat.ble (i + cs.length) sz with
            | false => rfl
            | true => rw [Nat.ble_eq] at h; exact absurd h h1
          simp [h1', h1]
      | _ => rfl
theorem newC_is (ty : TypeId) (cs : List V) (k : Nat → St → Option β) : newC st ty cs k = k st.nx ⟨st.nx + 1, st.h.set st.nx (.cs ty cs.length (sets cs 0 .lf))⟩ := newC_eq ..
theorem newB_is (b : B) (k : Nat → St → Option β) : newB st b k = k st.nx ⟨st.nx + 1, st.h.set st.nx b⟩ := newB_eq ..
/-! ### types -/
theorem szOf_is {t : TypeId} {i : TypeInfo} (h : P.info? t = some i) (k : Nat → Option β) : szOf P t k = k i.size := by simp [szOf, h]
theorem elemOf_is {t el : TypeId} {i : TypeInfo} (h : P.underlying t = some (.slice el)) (hi : P.info? el = some i) (k : TypeId → Nat → Option β) : elemOf P t k = k el i.size := by simp [elemOf, h, szOf_is hi]
/-! ### rows -/
theorem idxE_sl {t el : TypeId} {z : Nat} (h : P.underlying t = some (.slice el)) (hz : ∀ k : Nat → Option β, szOf P el k = k z) (m o len cap i : Nat) (k : V → Option β) : idxE P t (.sl m o len cap) i k = if i < len then k (.p m (o + i * z)) else none := by
  unfold idxE
  rw [h]
  simp only [hz, fn_eq]
  by_cases hi : i < len
  · have : Nat.blt i len = true := by rw [Nat.blt_eq]; exact hi
    simp [this, hi]
  · have : Nat.blt i len = false := by
      cases hb : Nat.blt i len with
      | false => rfl
      | true => rw [Nat.blt_eq] at hb; exact absurd hb hi
    simp [this, hi]
theorem idxE_sg {t el : TypeId} {z : Nat} (h : P.underlying t = some (.slice el)) (hz : ∀ k : Nat → Option β, szOf P el k = k z) (m o len w i : Nat) (k : V → Option β) : idxE P t (.sg m o len w) i k = if i < len then k (.p m (o + i * z)) else none := by
  unfold idxE
  rw [h]
  simp only [hz, fn_eq]
  by_cases hi : i < len
  · have : Nat.blt i len = true := by rw [Nat.blt_eq]; exact hi
    simp [this, hi]
  · have : Nat.blt i len = false := by
      cases hb : Nat.blt i len with
      | false => rfl
      | true => rw [Nat.blt_eq] at hb; exact absurd hb hi
    simp [this, hi]
theorem idxE_arr {t el : TypeId} {n z : Nat} (h : P.underlying t = some (.array n el)) (hz : ∀ k : Nat → Option β, szOf P el k = k z) (m o i : Nat) (k : V → Option β) : idxE P t (.p m o) i k = if i < n then k (.p m (o + i * z)) else none := by
  unfold idxE
  rw [h]
  simp only [hz, fn_eq]
  by_cases hi : i < n
  · have : Nat.blt i n = true := by rw [Nat.blt_eq]; exact hi
    simp [this, hi]
  · have : Nat.blt i n = false := by
      cases hb : Nat.blt i n with
      | false => rfl
      | true => rw [Nat.blt_eq] at hb; exact absurd hb hi
    simp [this, hi]
@[simp] theorem lenA_nil (k : Nat → Option β) : lenA (.c (.slice none 0 0)) k = k 0 := rfl
@[simp] theorem lenA_sl (m o l q : Nat) (k : Nat → Option β) : lenA (.sl m o l q) k = k l := rfl
@[simp] theorem lenA_sg (m o l q : Nat) (k : Nat → Option β) : lenA (.sg m o l q) k = k l := rfl
@[simp] theorem lenA_e (k : Nat → Option β) : lenA .e k = k 0 := rfl
@[simp] theorem lenA_s (l : List Nat) (k : Nat → Option β) : lenA (.s l) k = k l.length := by simp [lenA]
/-! ### calls -/
def packR (st : St) (l : List V) : Res := match l with
  | [x] => some (x, st)
  | l => some (.t l, st)
@[simp] theorem packR_1 (x : V) : packR st [x] = some (x, st) := rfl
@[simp] theorem packR_0 : packR st [] = some (.t [], st) := rfl
@[simp] theorem packR_2 (x y : V) (l : List V) : packR st (x :: y :: l) = some (.t (x :: y :: l), st) := rfl
def retK (P : Program) (c : Cx) (fn : Func) (Q : V × St → Prop) : X × Env × St → Prop
  | (.ex _, _, _) => False
  | (_, e, st) => Gd (resOf P c e st fn.results.toList (packR st)) Q
@[simp] theorem retK_n (fn : Func) (Q : V × St → Prop) : retK P c fn Q (.n, e, st) = Gd (resOf P c e st fn.results.toList (packR st)) Q := rfl
@[simp] theorem retK_ret (fn : Func) (Q : V × St → Prop) : retK P c fn Q (.ret, e, st) = Gd (resOf P c e st fn.results.toList (packR st)) Q := rfl
@[simp] theorem retK_ex (fn : Func) (Q : V × St → Prop) (i : Nat) : retK P c fn Q (.ex i, e, st) = False := rfl
theorem Gd_callOf {F : CodeF} {f : Nat} {fn : Func} {code : Code} (hf : P.funcs[f]? = some fn) (hb : fn.body = some code) (args : List V) (Q : V × St → Prop) :
    Gd (callOf P F c f args st) Q = Gd (F ⟨c.all, c.l, c.wb, fn.ntmps⟩ code (sets args 0 .lf) st) (retK P c fn Q) := by
  unfold callOf
  rw [lget_eq, Array.getElem?_toList, hf]
  simp only [hb, initE_eq]
  cases h : F ⟨c.all, c.l, c.wb, fn.ntmps⟩ code (sets args 0 .lf) st with
  | none => simp
  | some r =>
    obtain ⟨x, e1, st1⟩ := r
    cases x with
    | ex i => simp
    | n =>
      simp only [Gd_some, retK_n]
      congr 2
    | ret =>
      simp only [Gd_some, retK_ret]
      congr 2
theorem Gd_callL {f : Nat} {fn : Func} {code : Code} (hf : P.funcs[f]? = some fn) (hb : fn.body = some code) (args : List V) (Q : V × St → Prop) :
    Gd (callL P c f args st) Q = Gd ((callee P).E ⟨c.all, c.l, c.wb, fn.ntmps⟩ code (sets args 0 .lf) st) (retK P c fn Q) := Gd_callOf hf hb args Q
/-- a loop: what holds ahead of each round; what grows less -/
theorem Gd_loop {M : Mach P} (I : Env → St → Prop) (μ : Env → St → Nat) {b : Code} {Q : X × Env × St → Prop} (h0 : I e st)
    (h : ∀ e st, I e st → Gd (M.E c b e st) (seqK (fun e' st' => I e' st' ∧ μ e' st' < μ e st) Q)) : Gd (M.E c (.loop b) e st) Q := by
  have key : ∀ n e st, μ e st = n → I e st → Gd (M.E c (.loop b) e st) Q := by
    intro n
    induction n using Nat.strongRecOn with
    | _ n ih =>
      intro e st hn hI
      obtain ⟨⟨x, e1, st1⟩, h1, h2⟩ := h e st hI
      rw [evL_at]
      simp only [stepF]
      rw [h1]
      cases x with
      | n =>
        obtain ⟨hI1, hlt⟩ := h2
        exact ih (μ e1 st1) (hn ▸ hlt) e1 st1 rfl hI1
      | ex i => exact ⟨_, rfl, h2⟩
      | ret => exact ⟨_, rfl, h2⟩
  exact key _ e st rfl h0
/-! ### what stays -/
/-- all below b is as it was; more may be there -/
structure Ext (b : Nat) (st st' : St) : Prop where
  le : st.nx ≤ st'.nx
  wf : Wf st → Wf st'
  keep : ∀ n, n < b → st'.h.get n = st.h.get n
theorem Ext.refl (b : Nat) (st : St) : Ext b st st := ⟨Nat.le_refl _, fun h => h, fun _ _ => rfl⟩
theorem Ext.trans {b : Nat} {s1 s2 s3 : St} (h : Ext b s1 s2) (k : Ext b s2 s3) : Ext b s1 s3 := ⟨Nat.le_trans h.le k.le, fun w => k.wf (h.wf w), fun n hn => (k.keep n hn).trans (h.keep n hn)⟩
theorem Ext.mono {b b' : Nat} {s1 s2 : St} (h : Ext b s1 s2) (k : b' ≤ b) : Ext b' s1 s2 := ⟨h.le, h.wf, fun n hn => h.keep n (Nat.lt_of_lt_of_le hn k)⟩
theorem Ext.new {b : Nat} {s1 s2 : St} (h : Ext b s1 s2) (hb : b ≤ s2.nx) (x : B) : Ext b s1 ⟨s2.nx + 1, s2.h.set s2.nx x⟩ :=
  ⟨Nat.le_trans h.le (Nat.le_succ _), fun w n hn => by
    have hn' : s2.nx + 1 ≤ n := hn
    show (s2.h.set s2.nx x).get n = none
    rw [T.get_set_ne _ _ (by omega)]
    exact h.wf w n (by omega), fun n hn => by
    show (s2.h.set s2.nx x).get n = _
    rw [T.get_set_ne _ _ (by omega)]
    exact h.keep n hn⟩
theorem Ext.set {b : Nat} {s1 s2 : St} (h : Ext b s1 s2) {m : Nat} (hm : b ≤ m) (hlt : m < s2.nx) (x : B) : Ext b s1 ⟨s2.nx, s2.h.set m x⟩ :=
  ⟨h.le, fun w n hn => by
    have hn' : s2.nx ≤ n := hn
    show (s2.h.set m x).get n = none
    rw [T.get_set_ne _ _ (by omega)]
    exact h.wf w n (by omega), fun n hn => by
    show (s2.h.set m x).get n = _
    rw [T.get_set_ne _ _ (by omega)]
    exact h.keep n hn⟩
end
end Go.Proofs.Ytenncnbaoejekaa.Ev

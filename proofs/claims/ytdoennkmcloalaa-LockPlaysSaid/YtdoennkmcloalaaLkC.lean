/-
  Contracts: Delete of a row's only one.
-/
import Derived.Test.YtdoennkmcloalaaLkB
set_option linter.unusedSimpArgs false
set_option linter.unusedVariables false
namespace Go.Proofs.Ytdoennkmcloalaa
open Go.RowKit Ev
section
variable {P : Program} {F : CallF} {c : Cx} {e : Env} {st : St}
@[simp] theorem evOp_sl3 (d : Option Nat) (ty : TypeId) (p : String) (af : Array Edge) (g : Option (Nat × Bool)) (t : TypeId) (x mx : Operand) (lo hi : Option Operand) : evOp P F c e st ⟨d, .slice t x lo hi (some mx), ty, p, af, g⟩ = opd e x fun v => slice3E P e t v lo hi mx fun a => some (a, st) := rfl
@[simp] theorem evOp_clear (d : Option Nat) (ty : TypeId) (p : String) (af : Array Edge) (g : Option (Nat × Bool)) (x : Operand) (t : TypeId) : evOp P F c e st ⟨d, .call ⟨.builtin .clear, #[x], #[t]⟩, ty, p, af, g⟩ = opd e x fun v => builtinE P c .clear [t] [v] st := rfl
@[simp] theorem evOp_delete (d : Option Nat) (ty : TypeId) (p : String) (af : Array Edge) (g : Option (Nat × Bool)) (x y : Operand) (t u : TypeId) : evOp P F c e st ⟨d, .call ⟨.builtin .delete, #[x, y], #[t, u]⟩, ty, p, af, g⟩ = opd e x fun v => opd e y fun w => mdelE P c st t v w := rfl
theorem sl3_one {t el m : Nat} {x y z : Operand} {i j k : IntKind} (hu : P.underlying t = some (.slice el)) (hi : infoOk P el 1 = true) (hx : opv e x = some (.int i ((0 : Nat) : Int))) (hy : opv e y = some (.int j ((1 : Nat) : Int))) (hz : opv e z = some (.int k ((1 : Nat) : Int))) (kk : V → Res) : slice3E P e t (.sg m 0 1 1) (some x) (some y) z kk = kk (.sl m 0 1 1) := by
  unfold slice3E
  rw [hu]
  simp only [infoOk_sz hi, bnd_at hx, bnd_at hy, bnd_at hz]
  have b1 : Nat.ble 0 1 = true := rfl
  have b2 : Nat.ble 1 1 = true := rfl
  have b3 : Nat.beq 1 1 = true := rfl
  have b4 : Nat.beq 1 0 = false := rfl
  simp only [b1, b2, b3, b4, fn_eq]
theorem slK_hi0 {t el m : Nat} {x : Operand} {i : IntKind} (hu : P.underlying t = some (.slice el)) (hi : infoOk P el 1 = true) (hx : opv e x = some (.int i ((0 : Nat) : Int))) : sliceK P c e st t (.sg m 0 1 1) none (some x) = some (.sg m 0 0 1, st) := by
  unfold sliceK
  rw [sliceE_hi hu hi hx m 0 1 (by omega)]
theorem slK_lo1 {t el m : Nat} {x : Operand} {i : IntKind} (hu : P.underlying t = some (.slice el)) (hi : infoOk P el 1 = true) (hx : opv e x = some (.int i ((1 : Nat) : Int))) : sliceK P c e st t (.sg m 0 1 1) (some x) none = some (.e, st) := by
  unfold sliceK
  rw [sliceE_lo hu hi hx m 0 1 (by omega), if_pos (by omega)]
theorem slK_past {t el m ty : Nat} {tr : T V} {x y : Operand} {i j : IntKind} (hu : P.underlying t = some (.slice el)) (hi : infoOk P el 1 = true) (hok : c.ok m = true) (hg : st.h.get m = some (.cs ty 1 tr)) (hx : opv e x = some (.int i ((0 : Nat) : Int))) (hy : opv e y = some (.int j ((1 : Nat) : Int))) : sliceK P c e st t (.sg m 0 0 1) (some x) (some y) = some (.sg m 0 1 1, st) := by
  have b1 : Nat.ble 0 1 = true := rfl
  have b2 : Nat.ble 1 0 = false := rfl
  have b3 : Nat.beq 1 1 = true := rfl
  have b4 : Nat.beq 0 1 = false := rfl
  have b5 : Nat.beq 0 0 = true := rfl
  have e1 : sliceE P e t (.sg m 0 0 1) (some x) (some y) (fun a => (some (a, st) : Res)) = none := by
    unfold sliceE
    rw [hu]
    simp only [infoOk_sz hi, bnd_at hx, bnd_at hy, b1, b2, b3]
  unfold sliceK
  rw [e1]
  show sliceG P c st e t (.sg m 0 0 1) (some x) (some y) = _
  unfold sliceG
  rw [hu]
  simp only [infoOk_sz hi, getB_eq, hok, hg, Option.bind_some, cond_true, bnd_at hx, bnd_at hy]
  have b6 : Nat.ble (0 + 1 * 1) 1 = true := rfl
  simp only [b1, b3, b4, b5, b6, Bool.false_and, fn_eq]
theorem app_e {t t' el el' m ty : Nat} {tr : T V} (hu : P.underlying t = some (.slice el)) (hk : P.underlying t' = some (.slice el')) (hi : infoOk P el 1 = true) (hok : c.ok m = true) (hwb : c.wb ≤ m) (hg : st.h.get m = some (.cs ty 1 tr)) (hro : ty ≠ roT) : builtinE P c .append [t, t'] [.sg m 0 0 1, .e] st = some (.sg m 0 0 1, ⟨st.nx, st.h.set m (.cs ty 1 tr)⟩) := by
  have hsm : small P el (0 + 0) = true := infoOk_small hi (by omega)
  have e1 : builtinE P c .append [t, t'] [.sg m 0 0 1, .e] st = appE c st el 1 0 0 (.sg m 0 0 1) [] := by
    unfold builtinE
    simp only [elemOf_ok hu hi, hk]
    show (match small P el (0 + 0) with | true => appE c st el 1 0 0 (.sg m 0 0 1) [] | false => none) = _
    rw [hsm]
  rw [e1]
  have hr : Nat.beq ty roT = false := by
    cases h : Nat.beq ty roT with
    | false => rfl
    | true => exact absurd (Nat.eq_of_beq_eq_true h) hro
  unfold appE
  have b3 : Nat.beq 1 1 = true := rfl
  have b6 : Nat.ble (0 + (0 + 0) * 1) 1 = true := rfl
  simp only [fn_eq, b3, getB_eq, hok, hg, Option.bind_some, cond_true, hr, b6, putB_eq]
  simp [hro, hwb, sets]
theorem clr_one {t el m ty : Nat} {tr : T V} {z0 : V} (hu : P.underlying t = some (.slice el)) (hi : infoOk P el 1 = true) (hz : ∀ k : List V → Res, zero P el k = k [z0]) (hok : c.ok m = true) (hwb : c.wb ≤ m) (hg : st.h.get m = some (.cs ty 1 tr)) (hro : ty ≠ roT) : builtinE P c .clear [t] [.sg m 0 1 1] st = some (.t [], ⟨st.nx, st.h.set m (.cs ty 1 (tr.set 0 z0))⟩) := by
  have e1 : builtinE P c .clear [t] [.sg m 0 1 1] st = Ev.elemOf P t fun el _ => zero P el fun zs => putB c st m 0 (rep zs 1) fun st => (some (.t [], st) : Res) := rfl
  rw [e1, elemOf_ok hu hi, hz]
  have hrp : rep [z0] 1 = [z0] := rfl
  rw [hrp]
  simp [putB_eq, hok, hg, hro, hwb, sets]
end
set_option maxRecDepth 20000 in
set_option maxHeartbeats 4000000 in
theorem del_one (st : St) (m ty : Nat) (tr : T V) (w : Int) (hm : m < st.nx) (hg : st.h.get m = some (.cs ty 1 tr)) (hro : ty ≠ roT) (nt : Nat) : Gd (callL Try.prog ⟨false, [], 0, nt⟩ 174 [.sg m 0 1 1, .int .i64 0, .int .i64 1] st) fun r => r.1 = .sg m 0 0 1 ∧ r.2 = ⟨st.nx, st.h.set m (.cs ty 1 (tr.set 0 (.int .i64 0)))⟩ := by
  rw [Gd_callL Try.func174 rfl]
  have h1 : ∀ s : St, lenS s (V.sg m 0 1 1) = some (.int .i64 1, s) := fun s => rfl
  have h0 : ∀ s : St, lenS s (V.sg m 0 0 1) = some (.int .i64 0, s) := fun s => rfl
  simp [evOp_call, sets, T.get_set, h1, h0]
  rw [sl3_one (i := .i64) (j := .i64) (k := .i64) un76 io3 (by simp [T.get_set]) (by simp [T.get_set]) (by simp [T.get_set])]
  simp [evOp_call, sets, T.get_set, h1, h0]
  refine ⟨by kernel_rfl, ?_⟩
  rw [slK_hi0 (i := .i64) un76 io3 (by simp [T.get_set])]
  simp [evOp_call, sets, T.get_set, h1, h0]
  rw [slK_lo1 (i := .i64) un76 io3 (by simp [T.get_set])]
  simp [evOp_call, sets, T.get_set, h1, h0]
  rw [cxOf_call (by kernel_rfl) (by kernel_rfl), forb_nil, app_e un76 un76 io3 rfl (Nat.zero_le _) hg hro]
  simp [evOp_call, sets, T.get_set, h1, h0]
  rw [slK_past (i := .i64) (j := .i64) un76 io3 rfl (T.get_set_same _ _ _) (by simp [T.get_set]) (by simp [T.get_set])]
  simp [evOp_call, sets, T.get_set, h1, h0]
  rw [clr_one un76 io3 (fun k => ze3 k) rfl (Nat.zero_le _) (T.get_set_same _ _ _) hro]
  simp [evOp_call, sets, T.get_set, h1, h0]
end Go.Proofs.Ytdoennkmcloalaa

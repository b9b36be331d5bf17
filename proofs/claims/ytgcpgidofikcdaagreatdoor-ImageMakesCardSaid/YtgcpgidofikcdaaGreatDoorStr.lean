/-
  PLAIN: texts: their length, their bytes, parts of them; what is asked of package bytealg.
-/
import Derived.Test.YtgcpgidofikcdaaGreatDoorIn
import Derived.Lib.Bytealg
set_option linter.unusedSimpArgs false
namespace Go.Proofs.YtgcpgidofikcdaaGreatDoor.Ev
open Go.RowKit
section
variable {P : Program} {F : CallF} {c : Cx} {e : Env} {st : St}
@[simp] theorem len_str {t : TypeId} (hu : P.underlying t = some .string) (l : List Nat) : builtinE P c .len [t] [.s l] st = some (.int .i64 (l.length : Int), st) := by
  unfold builtinE
  simp only [hu, fn_eq]
  rfl
noncomputable def indexK (P : Program) (st : St) (t : TypeId) (v : V) (i : Nat) : Res := match P.underlying t, v with
    | some .string, .s l => (match lget l i with
      | some b => some (.int .u8 (.ofNat b), st)
      | none => none)
    | some (.array len el), .g l => (match Nat.blt i len with
      | true => szOf P el fun z => fn (i * z) fun o => partE P el l o fun v => some (v, st)
      | false => none)
    | _, _ => none
@[simp] theorem evOp_index (d : Option Nat) (ty : TypeId) (p : String) (af : Array Edge) (g : Option (Nat × Bool)) (t : TypeId) (x ix : Operand) : evOp P F c e st ⟨d, .index t x ix, ty, p, af, g⟩ = opd e x fun v => opd e ix fun i => asNat i fun i => indexK P st t v i := rfl
theorem indexK_str {t : TypeId} (hu : P.underlying t = some .string) (l : List Nat) (i b : Nat) (h : l[i]? = some b) : indexK P st t (.s l) i = some (.int .u8 (b : Int), st) := by
  unfold indexK
  rw [hu]
  simp only [lget_eq, h]
  rfl
theorem sliceK_str {t : TypeId} (hu : P.underlying t = some .string) {lo hi : Option Operand} {a b : Nat} (l : List Nat) (h1 : ∀ f : Nat → Res, bnd e 0 lo f = f a) (h2 : ∀ f : Nat → Res, bnd e l.length hi f = f b) (hab : a ≤ b) (hb : b ≤ l.length) :
    sliceK P c e st t (.s l) lo hi = some (.s ((l.take b).drop a), st) := by
  unfold sliceK sliceE
  rw [hu]
  have b1 : Nat.ble a b = true := by rw [Nat.ble_eq]; exact hab
  have b2 : Nat.ble b l.length = true := by rw [Nat.ble_eq]; exact hb
  simp only [fn_eq, h1, h2, b1, b2, fl_eq]
theorem sliceK_strLo {t : TypeId} (hu : P.underlying t = some .string) {x : Operand} {k : Nat} {i : IntKind} (l : List Nat) (hv : opv e x = some (.int i (k : Int))) (hk : k ≤ l.length) : sliceK P c e st t (.s l) (some x) none = some (.s (l.drop k), st) := by
  have := sliceK_str (P := P) (c := c) (e := e) (st := st) hu (lo := some x) (hi := none) (b := l.length) l (fun f => bnd_at hv f) (fun _ => rfl) hk (Nat.le_refl _)
  simpa using this
theorem Gd_strLo {t : TypeId} {Q : V × St → Prop} (hu : P.underlying t = some .string) {x : Operand} {k : Nat} {i : IntKind} {l : List Nat} (hv : opv e x = some (.int i (k : Int))) (hk : k ≤ l.length) (hQ : Q (.s (l.drop k), st)) : Gd (sliceK P c e st t (.s l) (some x) none) Q := by
  rw [sliceK_strLo hu l hv hk, Gd_some]; exact hQ
@[simp] theorem bin_seql {t : TypeId} {x y : Operand} (a b : List Nat) : binE P st .eql t x y (.s a) (.s b) = some (.bool (decide (a = b)), st) := by
  show strOp .eql a b (ret st) = _
  simp only [strOp, fb_eq, eqL_eq]; rfl
@[simp] theorem bin_sneq {t : TypeId} {x y : Operand} (a b : List Nat) : binE P st .neq t x y (.s a) (.s b) = some (.bool (!decide (a = b)), st) := by
  show strOp .neq a b (ret st) = _
  simp only [strOp, fb_eq, eqL_eq]; rfl
@[simp] theorem bytes_mk (a : Array UInt8) : Ev.bytes ⟨a⟩ = a.toList.map UInt8.toNat := rfl
/-! ### where a byte stands first, how often it stands -/
def fidx (b : Nat) (l : List Nat) : Option Nat := (List.range l.length).find? fun i => l[i]?.getD 0 == b
def idxI (b : Nat) (l : List Nat) : Int := match fidx b l with | some i => (i : Int) | none => -1
theorem ext_idx (l : List Nat) (hl : ∀ b ∈ l, b < 256) (b : Nat) (hb : b < 256) : extE P Extern.BytealgIndexByte.indexByte [.s l, .c (.int .u8 (b : Int))] st = some (.int .i64 (idxI b l), st) := by
  have h1 : valsA [.s l, .c (.int .u8 (b : Int))] = some [.string ⟨⟨l.map UInt8.ofNat⟩⟩, .int .u8 (b : Int)] := rfl
  unfold extE
  rw [h1]
  have hsz : (⟨⟨l.map UInt8.ofNat⟩⟩ : ByteArray).size = l.length := by simp [ByteArray.size]
  have hp : (fun (i : Nat) => (⟨⟨l.map UInt8.ofNat⟩⟩ : ByteArray)[i]! == UInt8.ofNat b) = fun (i : Nat) => l[i]?.getD 0 == b := by
    funext i
    have e3 : l[i]?.getD 0 = ((⟨⟨l.map UInt8.ofNat⟩⟩ : ByteArray)[i]!).toNat := by
      by_cases hi : i < l.length
      · have e2 : (⟨⟨l.map UInt8.ofNat⟩⟩ : ByteArray)[i]! = (⟨⟨l.map UInt8.ofNat⟩⟩ : ByteArray)[i]'(by rw [hsz]; exact hi) := getElem!_pos _ _ _
        have e4 : (⟨⟨l.map UInt8.ofNat⟩⟩ : ByteArray)[i]'(by rw [hsz]; exact hi) = UInt8.ofNat l[i] := by
          show (⟨l.map UInt8.ofNat⟩ : Array UInt8)[i]'_ = _
          simp
        rw [e2, e4, List.getElem?_eq_getElem hi]
        have := hl l[i] (List.getElem_mem hi)
        simp; omega
      · have e2 : (⟨⟨l.map UInt8.ofNat⟩⟩ : ByteArray)[i]! = default := getElem!_neg _ _ (by rw [hsz]; exact hi)
        rw [e2, List.getElem?_eq_none (by omega)]
        rfl
    rw [e3]
    rw [Bool.eq_iff_iff]
    simp only [beq_iff_eq]
    constructor
    · intro h; rw [h]; simp; omega
    · intro h
      apply UInt8.toNat_inj.1
      rw [h]; simp; omega
  have hrun : pureRun P (Extern.BytealgIndexByte.indexByte #[.string ⟨⟨l.map UInt8.ofNat⟩⟩, .int .u8 (b : Int)]) = some (.int .i64 (idxI b l)) := by
    show pureRun P (match (List.range (⟨⟨l.map UInt8.ofNat⟩⟩ : ByteArray).size).find? fun i => (⟨⟨l.map UInt8.ofNat⟩⟩ : ByteArray)[i]! == UInt8.ofNat b with
      | some i => (pure (goInt i) : Sem Value)
      | none => pure (goInt (-1))) = _
    rw [hsz, hp]
    unfold idxI fidx
    cases (List.range l.length).find? fun i => l[i]?.getD 0 == b <;> rfl
  show pu P (Extern.BytealgIndexByte.indexByte #[.string ⟨⟨l.map UInt8.ofNat⟩⟩, .int .u8 (b : Int)]) (ret st) = _
  unfold pu
  rw [hrun]
  simp [ofV, fA, ret]
end
end Go.Proofs.YtgcpgidofikcdaaGreatDoor.Ev

/-
  PLAIN: texts: their length, their bytes, parts of them; what is asked of package bytealg.
-/
import Derived.Test.YtlonobfpogimgaaIn
import Derived.Lib.Bytealg
set_option linter.unusedSimpArgs false
namespace Go.Proofs.Ytlonobfpogimgaa.Ev
open Go.RowKit
section
variable {P : Program} {F : CallF} {c : Cx} {e : Env} {st : St}
@[simp] theorem len_str {t : TypeId} (hu : P.underlying t = some .string) (l : List Nat) : builtinE P c .len [t] [.s l] st = some (.int .i64 (l.length : Int), st) := by
  unfold builtinE
  simp only [hu, fn_eq]
  rfl
noncomputable def indexK (P : Program) (st : St) (t : TypeId) (v : V) (i : Nat) : Res := match P.underlying t, v with
    | some .string, .s l => (match lget l i with
      | some b => some (.int .u8 (.ofNat b), st)
      | none => none)
    | some (.array len el), .g l => (match Nat.blt i len with
      | true => szOf P el fun z => fn (i * z) fun o => partE P el l o fun v => some (v, st)
      | false => none)
    | _, _ => none
@[simp] theorem evOp_index (d : Option Nat) (ty : TypeId) (p : String) (af : Array Edge) (g : Option (Nat × Bool)) (t : TypeId) (x ix : Operand) : evOp P F c e st ⟨d, .index t x ix, ty, p, af, g⟩ = opd e x fun v => opd e ix fun i => asNat i fun i => indexK P st t v i := rfl
theorem indexK_str {t : TypeId} (hu : P.underlying t = some .string) (l : List Nat) (i b : Nat) (h : l[i]? = some b) : indexK P st t (.s l) i = some (.int .u8 (b : Int), st) := by
  unfold indexK
  rw [hu]
  simp only [lget_eq, h]
  rfl
theorem sliceK_str {t : TypeId} (hu : P.underlying t = some .string) {lo hi : Option Operand} {a b : Nat} (l : List Nat) (h1 : ∀ f : Nat → Res, bnd e 0 lo f = f a) (h2 : ∀ f : Nat → Res, bnd e l.length hi f = f b) (hab : a ≤ b) (hb : b ≤ l.length) :
    sliceK P c e st t (.s l) lo hi = some (.s ((l.take b).drop a), st) := by
  unfold sliceK sliceE
  rw [hu]
  have b1 : Nat.ble a b = true := by rw [Nat.ble_eq]; exact hab
  have b2 : Nat.ble b l.length = true := by rw [Nat.ble_eq]; exact hb
  simp only [fn_eq, h1, h2, b1, b2, fl_eq]
theorem sliceK_strHi {t : TypeId} (hu : P.underlying t = some .string) {x : Operand} {k : Nat} {i : IntKind} (l : List Nat) (hv : opv e x = some (.int i (k : Int))) (hk : k ≤ l.length) : sliceK P c e st t (.s l) none (some x) = some (.s (l.take k), st) := by
  have := sliceK_str (P := P) (c := c) (e := e) (st := st) hu (lo := none) (hi := some x) (a := 0) l (fun _ => rfl) (fun f => bnd_at hv f) (Nat.zero_le _) hk
  simpa using this
theorem sliceK_strLo {t : TypeId} (hu : P.underlying t = some .string) {x : Operand} {k : Nat} {i : IntKind} (l : List Nat) (hv : opv e x = some (.int i (k : Int))) (hk : k ≤ l.length) : sliceK P c e st t (.s l) (some x) none = some (.s (l.drop k), st) := by
  have := sliceK_str (P := P) (c := c) (e := e) (st := st) hu (lo := some x) (hi := none) (b := l.length) l (fun f => bnd_at hv f) (fun _ => rfl) hk (Nat.le_refl _)
  simpa using this
theorem sliceK_strMid {t : TypeId} (hu : P.underlying t = some .string) {x y : Operand} {k m : Nat} {i j : IntKind} (l : List Nat) (hv : opv e x = some (.int i (k : Int))) (hw : opv e y = some (.int j (m : Int))) (hk : k ≤ m) (hm : m ≤ l.length) : sliceK P c e st t (.s l) (some x) (some y) = some (.s ((l.take m).drop k), st) :=
  sliceK_str hu l (fun f => bnd_at hv f) (fun f => bnd_at hw f) hk hm
theorem Gd_strHi {t : TypeId} {Q : V × St → Prop} (hu : P.underlying t = some .string) {x : Operand} {k : Nat} {i : IntKind} {l : List Nat} (hv : opv e x = some (.int i (k : Int))) (hk : k ≤ l.length) (hQ : Q (.s (l.take k), st)) : Gd (sliceK P c e st t (.s l) none (some x)) Q := by
  rw [sliceK_strHi hu l hv hk, Gd_some]; exact hQ
theorem Gd_strLo {t : TypeId} {Q : V × St → Prop} (hu : P.underlying t = some .string) {x : Operand} {k : Nat} {i : IntKind} {l : List Nat} (hv : opv e x = some (.int i (k : Int))) (hk : k ≤ l.length) (hQ : Q (.s (l.drop k), st)) : Gd (sliceK P c e st t (.s l) (some x) none) Q := by
  rw [sliceK_strLo hu l hv hk, Gd_some]; exact hQ
theorem Gd_strMid {t : TypeId} {Q : V × St → Prop} (hu : P.underlying t = some .string) {x y : Operand} {k m : Nat} {i j : IntKind} {l : List Nat} (hv : opv e x = some (.int i (k : Int))) (hw : opv e y = some (.int j (m : Int))) (hk : k ≤ m) (hm : m ≤ l.length) (hQ : Q (.s ((l.take m).drop k), st)) : Gd (sliceK P c e st t (.s l) (some x) (some y)) Q := by
  rw [sliceK_strMid hu l hv hw hk hm, Gd_some]; exact hQ
@[simp] theorem storeK_s (l : List Nat) (t : TypeId) (n i : Nat) : storeK P c st t n i (.s l) = szOf P t fun z => if 1 = z then putB c st n i [.s l] fun st => some (.u, st) else none := storeK_1 rfl t n i
@[simp] theorem bin_seql {t : TypeId} {x y : Operand} (a b : List Nat) : binE P st .eql t x y (.s a) (.s b) = some (.bool (decide (a = b)), st) := by
  show strOp .eql a b (ret st) = _
  simp only [strOp, fb_eq, eqL_eq]; rfl
@[simp] theorem bin_sneq {t : TypeId} {x y : Operand} (a b : List Nat) : binE P st .neq t x y (.s a) (.s b) = some (.bool (!decide (a = b)), st) := by
  show strOp .neq a b (ret st) = _
  simp only [strOp, fb_eq, eqL_eq]; rfl
theorem bin_sadd {t : TypeId} {x y : Operand} (a b : List Nat) (h : a.length + b.length ≤ 1073741824) : binE P st .add t x y (.s a) (.s b) = some (.s (a ++ b), st) := by
  show strOp .add a b (ret st) = _
  have b1 : Nat.ble (a.length + b.length) 1073741824 = true := by rw [Nat.ble_eq]; exact h
  simp only [strOp, b1, fl_eq]; rfl
@[simp] theorem bytes_mk (a : Array UInt8) : Ev.bytes ⟨a⟩ = a.toList.map UInt8.toNat := rfl
/-! ### where a byte stands first, how often it stands -/
def fidx (b : Nat) (l : List Nat) : Option Nat := (List.range l.length).find? fun i => l[i]?.getD 0 == b
def idxI (b : Nat) (l : List Nat) : Int := match fidx b l with | some i => (i : Int) | none => -1
theorem fidx_some {b i : Nat} {l : List Nat} (h : fidx b l = some i) : l[i]? = some b ∧ b ∉ l.take i := by
  unfold fidx at h
  rw [List.find?_range_eq_some] at h
  obtain ⟨h1, h2, h3⟩ := h
  have hi : i < l.length := by simpa using h2
  rw [List.getElem?_eq_getElem hi] at h1 ⊢
  refine ⟨by simpa using h1, fun hm => ?_⟩
  obtain ⟨j, hj, e⟩ := List.getElem_of_mem hm
  have hj1 : j < i ∧ j < l.length := by rw [List.length_take] at hj; omega
  have := h3 j hj1.1
  rw [List.getElem?_eq_getElem hj1.2] at this
  rw [List.getElem_take] at e
  simp [e] at this
theorem fidx_none {b : Nat} {l : List Nat} (h : fidx b l = none) : b ∉ l := by
  unfold fidx at h
  rw [List.find?_eq_none] at h
  intro hm
  obtain ⟨j, hj, e⟩ := List.getElem_of_mem hm
  have := h j (by simpa using hj)
  rw [List.getElem?_eq_getElem hj] at this
  simp [e] at this
theorem fidx_mem {b : Nat} {l : List Nat} : (fidx b l).isSome = decide (b ∈ l) := by
  cases h : fidx b l with
  | none => have := fidx_none h; simp [this]
  | some i => have := List.mem_of_getElem? (fidx_some h).1; simp [this]
theorem idxI_neg {b : Nat} {l : List Nat} : (0 ≤ idxI b l) ↔ b ∈ l := by
  unfold idxI
  cases h : fidx b l with
  | none => have := fidx_none h; simp [this]
  | some i => have := List.mem_of_getElem? (fidx_some h).1; simp [this]
theorem valA_s (l : List Nat) : valA (.s l) = some (.string ⟨⟨l.map UInt8.ofNat⟩⟩) := rfl
theorem ext_idx (l : List Nat) (hl : ∀ b ∈ l, b < 256) (b : Nat) (hb : b < 256) : extE P Extern.BytealgIndexByte.indexByte [.s l, .c (.int .u8 (b : Int))] st = some (.int .i64 (idxI b l), st) := by
  have h1 : valsA [.s l, .c (.int .u8 (b : Int))] = some [.string ⟨⟨l.map UInt8.ofNat⟩⟩, .int .u8 (b : Int)] := rfl
  unfold extE
  rw [h1]
  have hsz : (⟨⟨l.map UInt8.ofNat⟩⟩ : ByteArray).size = l.length := by simp [ByteArray.size]
  have hp : (fun (i : Nat) => (⟨⟨l.map UInt8.ofNat⟩⟩ : ByteArray)[i]! == UInt8.ofNat b) = fun (i : Nat) => l[i]?.getD 0 == b := by
    funext i
    have e3 : l[i]?.getD 0 = ((⟨⟨l.map UInt8.ofNat⟩⟩ : ByteArray)[i]!).toNat := by
      by_cases hi : i < l.length
      · have e2 : (⟨⟨l.map UInt8.ofNat⟩⟩ : ByteArray)[i]! = (⟨⟨l.map UInt8.ofNat⟩⟩ : ByteArray)[i]'(by rw [hsz]; exact hi) := getElem!_pos _ _ _
        have e4 : (⟨⟨l.map UInt8.ofNat⟩⟩ : ByteArray)[i]'(by rw [hsz]; exact hi) = UInt8.ofNat l[i] := by
          show (⟨l.map UInt8.ofNat⟩ : Array UInt8)[i]'_ = _
          simp
        rw [e2, e4, List.getElem?_eq_getElem hi]
        have := hl l[i] (List.getElem_mem hi)
        simp; omega
      · have e2 : (⟨⟨l.map UInt8.ofNat⟩⟩ : ByteArray)[i]! = default := getElem!_neg _ _ (by rw [hsz]; exact hi)
        rw [e2, List.getElem?_eq_none (by omega)]
        rfl
    rw [e3]
    rw [Bool.eq_iff_iff]
    simp only [beq_iff_eq]
    constructor
    · intro h; rw [h]; simp; omega
    · intro h
      apply UInt8.toNat_inj.1
      rw [h]; simp; omega
  have hrun : pureRun P (Extern.BytealgIndexByte.indexByte #[.string ⟨⟨l.map UInt8.ofNat⟩⟩, .int .u8 (b : Int)]) = some (.int .i64 (idxI b l)) := by
    show pureRun P (match (List.range (⟨⟨l.map UInt8.ofNat⟩⟩ : ByteArray).size).find? fun i => (⟨⟨l.map UInt8.ofNat⟩⟩ : ByteArray)[i]! == UInt8.ofNat b with
      | some i => (pure (goInt i) : Sem Value)
      | none => pure (goInt (-1))) = _
    rw [hsz, hp]
    unfold idxI fidx
    cases (List.range l.length).find? fun i => l[i]?.getD 0 == b <;> rfl
  show pu P (Extern.BytealgIndexByte.indexByte #[.string ⟨⟨l.map UInt8.ofNat⟩⟩, .int .u8 (b : Int)]) (ret st) = _
  unfold pu
  rw [hrun]
  simp [ofV, fA, ret]
theorem ext_count (l : List Nat) (hl : ∀ b ∈ l, b < 256) (b : Nat) (hb : b < 256) : extE P Extern.BytealgCount.count [.s l, .c (.int .u8 (b : Int))] st = some (.int .i64 ((l.count b : Nat) : Int), st) := by
  have key : ∀ (m : List Nat) (k : Nat), (∀ b ∈ m, b < 256) → (m.map UInt8.ofNat).foldl (fun n x => if x == UInt8.ofNat b then n + 1 else n) k = k + m.count b := by
    intro m
    induction m with
    | nil => intro k _; simp
    | cons x m ih =>
      intro k hm
      have hx : x < 256 := hm x (by simp)
      have hxb : (UInt8.ofNat x == UInt8.ofNat b) = (x == b) := by
        rw [Bool.eq_iff_iff]
        simp only [beq_iff_eq]
        constructor
        · intro h
          have := congrArg UInt8.toNat h
          simp at this
          omega
        · rintro rfl; rfl
      rw [List.map_cons, List.foldl_cons, hxb, ih _ (fun b h => hm b (by simp [h])), List.count_cons]
      cases x == b <;> simp <;> omega
  have hrun : pureRun P (Extern.BytealgCount.count #[.string ⟨⟨l.map UInt8.ofNat⟩⟩, .int .u8 (b : Int)]) = some (.int .i64 ((l.count b : Nat) : Int)) := by
    show pureRun P (pure (goInt ((⟨⟨l.map UInt8.ofNat⟩⟩ : ByteArray).foldl (fun (n : Int) x => if x == UInt8.ofNat b then n + 1 else n) ((0 : Nat) : Int))) : Sem Value) = _
    rw [Lib.foldl_data, Lib.count_foldl]
    show (some (goInt (((0 : Nat) : Int) + (Lib.countByte (l.map UInt8.ofNat) (UInt8.ofNat b) : Nat))) : Option Value) = _
    have this : Lib.countByte (l.map UInt8.ofNat) (UInt8.ofNat b) = l.count b := by
      have := key l 0 hl
      rw [Nat.zero_add] at this
      rw [← this]
      unfold Lib.countByte
      have gen : ∀ (m : List UInt8) (k : Nat), m.foldl (fun n x => if x == UInt8.ofNat b then n + 1 else n) k = k + m.count (UInt8.ofNat b) := by
        intro m
        induction m with
        | nil => intro k; simp
        | cons x m ih =>
          intro k
          rw [List.foldl_cons, ih, List.count_cons]
          cases x == UInt8.ofNat b <;> simp <;> omega
      rw [gen, Nat.zero_add]
    rw [this]
    simp [goInt]
  show pu P (Extern.BytealgCount.count #[.string ⟨⟨l.map UInt8.ofNat⟩⟩, .int .u8 (b : Int)]) (ret st) = _
  unfold pu
  rw [hrun]
  simp [ofV, fA, ret]
end
end Go.Proofs.Ytlonobfpogimgaa.Ev

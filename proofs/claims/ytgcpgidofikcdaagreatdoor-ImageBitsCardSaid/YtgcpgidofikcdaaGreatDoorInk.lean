/-
  PLAIN: rules for rows with room behind them: parts of them, copies, appends; what a row with a part put in reads.
-/
import Derived.Test.YtgcpgidofikcdaaGreatDoorInj
import Derived.Test.YtgcpgidofikcdaaGreatDoorMid
set_option linter.unusedSimpArgs false
set_option linter.unusedVariables false
namespace Go.Proofs.YtgcpgidofikcdaaGreatDoor.Ev
open Go.RowKit
section
variable {P : Program} {c : Cx} {e : Env} {st : St}
theorem sl_lo {t el z m o len cap k : Nat} {x : Operand} {i : IntKind} (hu : P.underlying t = some (.slice el)) (hi : infoOk P el z = true) (hx : opv e x = some (.int i (k : Int))) (h1 : k ≤ len) (h2 : len ≤ cap) (h3 : k < cap) : sliceK P c e st t (.sl m o len cap) (some x) none = some (.sl m (o + k * z) (len - k) (cap - k), st) := by
  have b1 : Nat.ble k len = true := Nat.ble_eq ▸ h1
  have b2 : Nat.ble len cap = true := Nat.ble_eq ▸ h2
  have b3 : Nat.beq cap k = false := by
    cases h : Nat.beq cap k with
    | false => rfl
    | true => have := Nat.eq_of_beq_eq_true h; omega
  have hb : ∀ f : Nat → Res, bnd e len none f = f len := fun _ => rfl
  unfold sliceK sliceE
  rw [hu]
  simp only [infoOk_sz hi, bnd_at hx, hb, b1, b2, b3, fn_eq]
theorem sl_any {t el z m o len cap k : Nat} {x : Operand} {i : IntKind} (hu : P.underlying t = some (.slice el)) (hi : infoOk P el z = true) (hx : opv e x = some (.int i (k : Int))) (h1 : k ≤ len) (h2 : len ≤ cap) : ∃ v, sliceK P c e st t (.sl m o len cap) (some x) none = some (v, st) := by
  have b1 : Nat.ble k len = true := Nat.ble_eq ▸ h1
  have b2 : Nat.ble len cap = true := Nat.ble_eq ▸ h2
  have hb : ∀ f : Nat → Res, bnd e len none f = f len := fun _ => rfl
  unfold sliceK sliceE
  rw [hu]
  simp only [infoOk_sz hi, bnd_at hx, hb, b1, b2, fn_eq]
  exact ⟨_, rfl⟩
theorem sl_hi {t el z m o len cap k : Nat} {x : Operand} {i : IntKind} (hu : P.underlying t = some (.slice el)) (hi : infoOk P el z = true) (hx : opv e x = some (.int i (k : Int))) (h1 : k ≤ cap) : sliceK P c e st t (.sl m o len cap) none (some x) = some (.sl m o k cap, st) := by
  have b1 : Nat.ble 0 k = true := Nat.ble_eq ▸ Nat.zero_le k
  have b2 : Nat.ble k cap = true := Nat.ble_eq ▸ h1
  have hb : ∀ f : Nat → Res, bnd e 0 none f = f 0 := fun _ => rfl
  have b3 : (match Nat.beq cap 0 with | true => o | false => o + 0 * z) = o := by cases Nat.beq cap 0 <;> simp
  unfold sliceK sliceE
  rw [hu]
  simp only [infoOk_sz hi, bnd_at hx, hb, b1, b2, fn_eq, Nat.sub_zero]
  exact congrArg (fun q => (some (V.sl m q k cap, st) : Res)) b3
theorem sg_lo {t el z m o len k : Nat} {x : Operand} {i : IntKind} (hu : P.underlying t = some (.slice el)) (hi : infoOk P el z = true) (hx : opv e x = some (.int i (k : Int))) (h1 : k < len) : sliceK P c e st t (.sg m o len z) (some x) none = some (.sg m (o + k * z) (len - k) z, st) := by
  unfold sliceK
  rw [sliceE_lo hu hi hx m o len (by omega), if_neg (by omega)]
theorem firsts_cs {z n m o l q ty sz : Nat} {tr : T V} {L : List V} (hok : c.ok m = true) (hg : st.h.get m = some (.cs ty sz tr)) (hn : n ≤ l) (hl : L.length = n * z) (hL : ∀ j a, L[j]? = some a → tr.get (o + j) = some a) {β : Type} (k : List V → Option β) : firsts c st z n (.sl m o l q) k = k L := by
  have b1 : Nat.ble n l = true := Nat.ble_eq ▸ hn
  show (match Nat.ble n l with | true => getC c st m fun t => getsB t (n * z) o k | false => none) = _
  rw [b1]
  simp only [getC_eq, hok, hg, cond_true, Option.bind_some, csK_cs]
  rw [← hl]
  exact getsB_list hL k
/-- a copy, its source by what it reads -/
theorem copy_d {t t' el z m o ld q lx n ty sz : Nat} {x : V} {L : List V} {tr : T V} (hu : P.underlying t = some (.slice el)) (hi : infoOk P el z = true) (hlx : ∀ k : Nat → Res, lenA x k = k lx) (hn : Nat.min lx ld = n) (hf : ∀ k : List V → Res, firsts c st z n x k = k L)
    (hok : c.ok m = true) (hw : c.wb ≤ m) (hg : st.h.get m = some (.cs ty sz tr)) (hro : ty ≠ roT) (hle : o + L.length ≤ sz) : builtinE P c .copy [t, t'] [.sl m o ld q, x] st = some (.int .i64 (n : Int), ⟨st.nx, st.h.set m (.cs ty sz (sets L o tr))⟩) := by
  have h0 : builtinE P c .copy [t, t'] [.sl m o ld q, x] st = Ev.elemOf P t fun _ z => lenA x fun lx => fn (Nat.min lx ld) fun n => firsts c st z n x fun cs => putB c st m o cs fun st => (some (.int .i64 (.ofNat n), st) : Res) := rfl
  rw [h0, elemOf_ok hu hi, hlx, fn_eq, hn, hf, putB_eq, hg]
  simp only [hok, cond_true, Option.bind_some, csK_cs, if_pos (show o + L.length ≤ sz ∧ ty ≠ roT ∧ c.wb ≤ m from ⟨hle, hro, hw⟩)]
  rfl
theorem copy_g {t t' el z m o ld w lx n ty sz : Nat} {x : V} {L : List V} {tr : T V} (hu : P.underlying t = some (.slice el)) (hi : infoOk P el z = true) (hlx : ∀ k : Nat → Res, lenA x k = k lx) (hn : Nat.min lx ld = n) (hf : ∀ k : List V → Res, firsts c st z n x k = k L)
    (hok : c.ok m = true) (hw : c.wb ≤ m) (hg : st.h.get m = some (.cs ty sz tr)) (hro : ty ≠ roT) (hle : o + L.length ≤ sz) : builtinE P c .copy [t, t'] [.sg m o ld w, x] st = some (.int .i64 (n : Int), ⟨st.nx, st.h.set m (.cs ty sz (sets L o tr))⟩) := by
  have h0 : builtinE P c .copy [t, t'] [.sg m o ld w, x] st = Ev.elemOf P t fun _ z => lenA x fun lx => fn (Nat.min lx ld) fun n => firsts c st z n x fun cs => putB c st m o cs fun st => (some (.int .i64 (.ofNat n), st) : Res) := rfl
  rw [h0, elemOf_ok hu hi, hlx, fn_eq, hn, hf, putB_eq, hg]
  simp only [hok, cond_true, Option.bind_some, csK_cs, if_pos (show o + L.length ≤ sz ∧ ty ≠ roT ∧ c.wb ≤ m from ⟨hle, hro, hw⟩)]
  rfl
/-- an append where there is room -/
theorem app_room {t t' el el' z m o n cap lx ty sz : Nat} {x : V} {L : List V} {tr : T V} (hu : P.underlying t = some (.slice el)) (hk : P.underlying t' = some (.slice el')) (hi : infoOk P el z = true) (hx : ∀ s', x ≠ .s s') (hlx : ∀ k : Nat → Res, lenA x k = k lx) (hf : ∀ k : List V → Res, firsts c st z lx x k = k L)
    (hmax : n + lx ≤ 1073741824) (hcap : n + lx ≤ cap) (hok : c.ok m = true) (hw : c.wb ≤ m) (hg : st.h.get m = some (.cs ty sz tr)) (hro : ty ≠ roT) (hle : o + n * z + L.length ≤ sz) : builtinE P c .append [t, t'] [.sl m o n cap, x] st = some (.sl m o (n + lx) cap, ⟨st.nx, st.h.set m (.cs ty sz (sets L (o + n * z) tr))⟩) := by
  have hls : ∀ k : Nat → Res, lenA (.sl m o n cap) k = k n := fun _ => rfl
  have e1 : builtinE P c .append [t, t'] [.sl m o n cap, x] st = appE c st el z n lx (.sl m o n cap) L := by
    unfold builtinE
    simp only [elemOf_ok hu hi, hls, hk]
    cases x with
    | s s' => exact absurd rfl (hx s')
    | _ => simp only [hlx, hf, infoOk_small hi hmax]
  have b1 : Nat.ble (n + lx) cap = true := Nat.ble_eq ▸ hcap
  rw [e1]
  unfold appE
  simp only [fn_eq, b1, putB_eq, hg, hok, cond_true, Option.bind_some, csK_cs, if_pos (show o + n * z + L.length ≤ sz ∧ ty ≠ roT ∧ c.wb ≤ m from ⟨hle, hro, hw⟩)]
/-- .. and where there is none -/
theorem app_none {t t' el el' z m o n cap lx : Nat} {x : V} {L old : List V} (hu : P.underlying t = some (.slice el)) (hk : P.underlying t' = some (.slice el')) (hi : infoOk P el z = true) (hx : ∀ s', x ≠ .s s') (hlx : ∀ k : Nat → Res, lenA x k = k lx) (hf : ∀ k : List V → Res, firsts c st z lx x k = k L)
    (hmax : n + lx ≤ 1073741824) (hcap : cap < n + lx) (ho : ∀ k : List V → Res, firsts c st z n (.sl m o n cap) k = k old) : builtinE P c .append [t, t'] [.sl m o n cap, x] st = some (.sg st.nx 0 (n + lx) z, ⟨st.nx + 1, st.h.set st.nx (.cs el (old ++ L).length (sets (old ++ L) 0 .lf))⟩) := by
  have hls : ∀ k : Nat → Res, lenA (.sl m o n cap) k = k n := fun _ => rfl
  have e1 : builtinE P c .append [t, t'] [.sl m o n cap, x] st = appE c st el z n lx (.sl m o n cap) L := by
    unfold builtinE
    simp only [elemOf_ok hu hi, hls, hk]
    cases x with
    | s s' => exact absurd rfl (hx s')
    | _ => simp only [hlx, hf, infoOk_small hi hmax]
  have b1 : Nat.ble (n + lx) cap = false := by
    cases h : Nat.ble (n + lx) cap with
    | false => rfl
    | true => rw [Nat.ble_eq] at h; omega
  rw [e1]
  unfold appE growE
  simp only [fn_eq, b1, ho, newC_is]
/-- noughts behind it, where there is no room -/
theorem app_mk {t t' el z m o n cap lx : Nat} {k : IntKind} {zs old : List V} (hu : P.underlying t = some (.slice el)) (hk : P.underlying t' = some (.int k)) (hi : infoOk P el z = true) (hzs : ∀ kk : List V → Res, zero P el kk = kk zs)
    (hmax : n + lx ≤ 1073741824) (hcap : cap < n + lx) (ho : ∀ k : List V → Res, firsts c st z n (.sl m o n cap) k = k old) : builtinE P c .append [t, t'] [.sl m o n cap, .c (.int .i64 (lx : Int))] st = some (.sg st.nx 0 (n + lx) z, ⟨st.nx + 1, st.h.set st.nx (.cs el (old ++ rep zs lx).length (sets (old ++ rep zs lx) 0 .lf))⟩) := by
  have hls : ∀ k : Nat → Res, lenA (.sl m o n cap) k = k n := fun _ => rfl
  have e1 : builtinE P c .append [t, t'] [.sl m o n cap, .c (.int .i64 (Int.ofNat lx))] st = appE c st el z n lx (.sl m o n cap) (rep zs lx) := by
    unfold builtinE
    simp only [elemOf_ok hu hi, hls, hk, hzs, infoOk_small hi hmax]
  have b1 : Nat.ble (n + lx) cap = false := by
    cases h : Nat.ble (n + lx) cap with
    | false => rfl
    | true => rw [Nat.ble_eq] at h; omega
  show builtinE P c .append [t, t'] [.sl m o n cap, .c (.int .i64 (Int.ofNat lx))] st = _
  rw [e1]
  unfold appE growE
  simp only [fn_eq, b1, ho, newC_is]
@[simp] theorem evOp_cap {F : CallF} (d : Option Nat) (ty : TypeId) (p : String) (af : Array Edge) (g : Option (Nat × Bool)) (args : Array Operand) (ats : Array TypeId) : evOp P F c e st ⟨d, .call ⟨.builtin .cap, args, ats⟩, ty, p, af, g⟩ = opds e args.toList fun args => builtinE P c .cap ats.toList args st := rfl
/-- a row of one's own, and another: they do not overlap -/
theorem ext_over {F : CallF} {d : Option Nat} {ty : TypeId} {p : String} {af : Array Edge} {g : Option (Nat × Bool)} {f : Nat} (hx : (ext? P f).isSome = true) (hk : xKind P f = 2) (ho : ovArg P f = true) {x1 x2 : Operand} {ats : Array TypeId} {b o k q m u l r ty1 sz1 ty2 sz2 : Nat} {t1 t2 : T V} (ha1 : opv e x1 = some (.sl b o k q)) (ha2 : opv e x2 = some (.sl m u l r)) (hne : b ≠ m) (h1 : 0 < k) (h2 : 0 < l) (ok1 : c.ok b = true) (ok2 : c.ok m = true) (g1 : st.h.get b = some (.cs ty1 sz1 t1)) (g2 : st.h.get m = some (.cs ty2 sz2 t2)) (r1 : ty1 ≠ roT) (u1 : ty1 ≠ unT) (r2 : ty2 ≠ roT) (s1 : 0 < sz1) (s2 : 0 < sz2) : evOp P F c e st ⟨d, .call ⟨.value (.func f), #[x1, x2], ats⟩, ty, p, af, g⟩ = some (.bool false, st) := by
  obtain ⟨g0, hg⟩ := Option.isSome_iff_exists.1 hx
  have ha : ∀ kk : List V → Res, opds e [x1, x2] kk = kk [.sl b o k q, .sl m u l r] := fun kk => by
    rw [opds_bind]
    show (opvs e [x1, x2]).bind kk = _
    rw [opvs_cons, opvs_cons, opvs_nil, ha1, ha2]
    rfl
  rw [evOp_ext hg, ha, extR_none (by rfl)]
  have b1 : Nat.beq b m = false := by rw [nbeq]; exact decide_eq_false hne
  have b2 : Nat.blt 0 k = true := by rw [Nat.blt_eq]; exact h1
  have b3 : Nat.blt 0 l = true := by rw [Nat.blt_eq]; exact h2
  have b4 : Nat.beq ty1 roT = false := by rw [nbeq]; exact decide_eq_false r1
  have b5 : Nat.beq ty1 unT = false := by rw [nbeq]; exact decide_eq_false u1
  have b6 : Nat.beq ty2 roT = false := by rw [nbeq]; exact decide_eq_false r2
  have b7 : Nat.blt 0 sz1 = true := by rw [Nat.blt_eq]; exact s1
  have b8 : Nat.blt 0 sz2 = true := by rw [Nat.blt_eq]; exact s2
  unfold extS
  rw [hk]
  show (match slBlk (.sl b o k q), slBlk (.sl m u l r) with
    | some (n, la), some (m, lb) => (match Nat.beq n m, ovArg P f, Nat.blt 0 la, Nat.blt 0 lb with
      | false, true, true, true => getB c st n fun x => getB c st m fun y => (match x, y with
        | .cs ty sz _, .cs ty' sz' _ => (match Nat.beq ty roT || Nat.beq ty unT, Nat.beq ty' roT, Nat.blt 0 sz, Nat.blt 0 sz' with
          | false, false, true, true => some (V.bool false, st)
          | _, _, _, _ => none)
        | _, _ => none)
      | _, _, _, _ => none)
    | _, _ => none) = _
  simp only [slBlk, b1, ho, b2, b3]
  rw [getB_get b _ _ ok1 g1, getB_get m _ _ ok2 g2]
  simp only [b4, b5, b6, b7, b8, Bool.or_self]
theorem cap_sl {t el z m o n cap : Nat} (hu : P.underlying t = some (.slice el)) (hi : infoOk P el z = true) : builtinE P c .cap [t] [.sl m o n cap] st = some (.int .i64 (cap : Int), st) := by
  have h0 : builtinE P c .cap [t] [.sl m o n cap] st = Ev.elemOf P t fun _ _ => (some (.int .i64 (.ofNat cap), st) : Res) := rfl
  rw [h0, elemOf_ok hu hi]; rfl
end
section
variable {P : Program} {c : Cx} {e : Env} {st : St}
@[simp] theorem evOp_sl3 {F : CallF} (d : Option Nat) (ty : TypeId) (p : String) (af : Array Edge) (g : Option (Nat × Bool)) (t : TypeId) (x mx : Operand) (lo hi : Option Operand) : evOp P F c e st ⟨d, .slice t x lo hi (some mx), ty, p, af, g⟩ = opd e x fun v => slice3E P e t v lo hi mx fun a => some (a, st) := rfl
@[simp] theorem evOp_clear {F : CallF} (d : Option Nat) (ty : TypeId) (p : String) (af : Array Edge) (g : Option (Nat × Bool)) (x : Operand) (t : TypeId) : evOp P F c e st ⟨d, .call ⟨.builtin .clear, #[x], #[t]⟩, ty, p, af, g⟩ = opd e x fun v => builtinE P c .clear [t] [v] st := rfl
/-- three places of a row of one's own: what it tells is a row -/
theorem sg_three {t el z m n h j : Nat} {x y w : Operand} {i1 i2 i3 : IntKind} (hu : P.underlying t = some (.slice el)) (hi : infoOk P el z = true) (hx : opv e x = some (.int i1 (j : Int))) (hy : opv e y = some (.int i2 (h : Int))) (hw : opv e w = some (.int i3 (n : Int))) (h1 : j ≤ h) (h2 : h ≤ n) : ∃ v, ∀ kk : V → Res, slice3E P e t (.sg m 0 n z) (some x) (some y) w kk = kk v := by
  have b1 : Nat.ble j h = true := Nat.ble_eq ▸ h1
  have b2 : Nat.ble h n = true := Nat.ble_eq ▸ h2
  have b3 : Nat.ble n n = true := Nat.ble_eq ▸ Nat.le_refl n
  unfold slice3E
  rw [hu]
  simp only [infoOk_sz hi, bnd_at hx, bnd_at hy, bnd_at hw, b1, b2, b3, Nat.beq_refl, fn_eq]
  exact ⟨_, fun _ => rfl⟩
theorem sg_hi {t el z m o n k : Nat} {x : Operand} {i : IntKind} (hu : P.underlying t = some (.slice el)) (hi : infoOk P el z = true) (hx : opv e x = some (.int i (k : Int))) (h : k ≤ n) : sliceK P c e st t (.sg m o n z) none (some x) = some (.sg m o k z, st) := by
  unfold sliceK
  rw [sliceE_hi hu hi hx m o n h]
theorem sg_loA {t el z m o n k : Nat} {x : Operand} {i : IntKind} (hu : P.underlying t = some (.slice el)) (hi : infoOk P el z = true) (hx : opv e x = some (.int i (k : Int))) (h : k ≤ n) : sliceK P c e st t (.sg m o n z) (some x) none = some (if k = n ∧ k ≠ 0 then .e else .sg m (o + k * z) (n - k) z, st) := by
  unfold sliceK
  rw [sliceE_lo hu hi hx m o n h]
/-- beyond its length, where its block is known -/
theorem sg_past {t el z m n h sz ty : Nat} {tr : T V} {x y : Operand} {i j : IntKind} (hu : P.underlying t = some (.slice el)) (hi : infoOk P el z = true) (hok : c.ok m = true) (hg : st.h.get m = some (.cs ty sz tr)) (hx : opv e x = some (.int i (n : Int))) (hy : opv e y = some (.int j (h : Int))) (h1 : n < h) (h2 : h * z ≤ sz) : sliceK P c e st t (.sg m 0 n z) (some x) (some y) = some (.sg m (n * z) (h - n) z, st) := by
  have b1 : Nat.ble n h = true := Nat.ble_eq ▸ Nat.le_of_lt h1
  have b2 : Nat.ble h n = false := by
    cases q : Nat.ble h n with
    | false => rfl
    | true => rw [Nat.ble_eq] at q; omega
  have b4 : Nat.beq n h = false := by rw [nbeq]; exact decide_eq_false (by omega)
  have b5 : Nat.ble (h * z) sz = true := by rw [Nat.ble_eq]; omega
  have e1 : sliceE P e t (.sg m 0 n z) (some x) (some y) (fun a => (some (a, st) : Res)) = none := by
    unfold sliceE
    rw [hu]
    simp only [infoOk_sz hi, bnd_at hx, bnd_at hy, b1, b2, Nat.beq_refl]
  unfold sliceK
  rw [e1]
  show sliceG P c st e t (.sg m 0 n z) (some x) (some y) = _
  unfold sliceG
  rw [hu]
  simp only [infoOk_sz hi, getB_eq, hok, hg, Option.bind_some, cond_true, bnd_at hx, bnd_at hy, b1, b4, Nat.beq_refl, Bool.false_and, fn_eq, Nat.zero_add, b5]
/-- an append within the block -/
theorem app_in {t t' el el' z m n lx ty sz : Nat} {x : V} {L : List V} {tr : T V} (hu : P.underlying t = some (.slice el)) (hk : P.underlying t' = some (.slice el')) (hi : infoOk P el z = true) (hx : ∀ s', x ≠ .s s') (hlx : ∀ k : Nat → Res, lenA x k = k lx) (hf : ∀ k : List V → Res, firsts c st z lx x k = k L) (hl : L.length = lx * z)
    (hmax : n + lx ≤ 1073741824) (hok : c.ok m = true) (hw : c.wb ≤ m) (hg : st.h.get m = some (.cs ty sz tr)) (hro : ty ≠ roT) (hle : (n + lx) * z ≤ sz) : builtinE P c .append [t, t'] [.sg m 0 n z, x] st = some (.sg m 0 (n + lx) z, ⟨st.nx, st.h.set m (.cs ty sz (sets L (n * z) tr))⟩) := by
  have hls : ∀ k : Nat → Res, lenA (.sg m 0 n z) k = k n := fun _ => rfl
  have e1 : builtinE P c .append [t, t'] [.sg m 0 n z, x] st = appE c st el z n lx (.sg m 0 n z) L := by
    unfold builtinE
    simp only [elemOf_ok hu hi, hls, hk]
    cases x with
    | s s' => exact absurd rfl (hx s')
    | _ => simp only [hlx, hf, infoOk_small hi hmax]
  have b4 : Nat.beq ty roT = false := by rw [nbeq]; exact decide_eq_false hro
  have b5 : Nat.ble ((n + lx) * z) sz = true := by rw [Nat.ble_eq]; omega
  have e2 : (n + lx) * z = n * z + lx * z := Nat.add_mul ..
  rw [e1]
  unfold appE
  simp only [fn_eq, Nat.beq_refl, b4, b5, getB_eq, putB_eq, hg, hok, cond_true, Option.bind_some, csK_cs, Nat.zero_add, if_pos (show n * z + L.length ≤ sz ∧ ty ≠ roT ∧ c.wb ≤ m from ⟨by omega, hro, hw⟩)]
theorem clr_sg {t el z m o n ty sz : Nat} {zs : List V} {tr : T V} (hu : P.underlying t = some (.slice el)) (hi : infoOk P el z = true) (hz : ∀ kk : List V → Res, zero P el kk = kk zs) (hok : c.ok m = true) (hw : c.wb ≤ m) (hg : st.h.get m = some (.cs ty sz tr)) (hro : ty ≠ roT) (hle : o + (rep zs n).length ≤ sz) : builtinE P c .clear [t] [.sg m o n z] st = some (.t [], ⟨st.nx, st.h.set m (.cs ty sz (sets (rep zs n) o tr))⟩) := by
  have e1 : builtinE P c .clear [t] [.sg m o n z] st = Ev.elemOf P t fun el _ => zero P el fun zs => putB c st m o (rep zs n) fun st => (some (.t [], st) : Res) := rfl
  rw [e1, elemOf_ok hu hi, hz, putB_eq, hg]
  simp only [hok, cond_true, Option.bind_some, csK_cs, if_pos (show o + (rep zs n).length ≤ sz ∧ ty ≠ roT ∧ c.wb ≤ m from ⟨hle, hro, hw⟩)]
end
/-- the row without a part -/
def delL (q z : Nat) (old : List V) : List V := old.take q ++ old.drop (q + z)
theorem del_get {q z r : Nat} {old zs : List V} {tr : T V} (hq : q + z ≤ old.length) (ht : ∀ j a, old[j]? = some a → tr.get j = some a) (hr : r = old.length - z) {j : Nat} {a : V} (h : (delL q z old)[j]? = some a) : (sets zs r (sets (old.drop (q + z)) q tr)).get j = some a := by
  have hlt := (List.getElem?_eq_some_iff.1 h).1
  simp only [delL, List.length_append, List.length_take, List.length_drop] at hlt
  rw [get_sets, if_neg (by omega), get_sets]
  unfold delL at h
  by_cases h1 : q ≤ j ∧ j < q + (old.drop (q + z)).length
  · rw [if_pos h1]
    rw [List.getElem?_append_right (by simp; omega)] at h
    rw [← h]; congr 1; simp; omega
  · rw [if_neg h1]
    rw [List.length_drop] at h1
    have hj : j < q := by omega
    rw [List.getElem?_append_left (by simp; omega), List.getElem?_take, if_pos hj] at h
    exact ht j a h
theorem ins_get {q : Nat} {old new : List V} {tr : T V} (hq : q ≤ old.length) (ht : ∀ j a, j < q → old[j]? = some a → tr.get j = some a) {j : Nat} {a : V} (h : (insL q old new)[j]? = some a) : (sets new q (sets (old.drop q) (q + new.length) tr)).get j = some a := by
  unfold insL at h
  rw [get_sets]
  by_cases h1 : q ≤ j ∧ j < q + new.length
  · rw [if_pos h1]
    rw [List.getElem?_append_right (by simp; omega), List.getElem?_append_left (by simp; omega)] at h
    rw [← h]; congr 1; simp; omega
  · rw [if_neg h1, get_sets]
    by_cases h2 : q + new.length ≤ j ∧ j < q + new.length + (old.drop q).length
    · rw [if_pos h2]
      rw [List.getElem?_append_right (by simp; omega), List.getElem?_append_right (by simp; omega)] at h
      rw [← h]; congr 1; simp; omega
    · rw [if_neg h2]
      have hlt : j < (old.take q ++ (new ++ old.drop q)).length := (List.getElem?_eq_some_iff.1 h).1
      simp only [List.length_append, List.length_take, List.length_drop] at hlt h2
      have hj : j < q := by omega
      rw [List.getElem?_append_left (by simp; omega), List.getElem?_take, if_pos hj] at h
      exact ht j a hj h
theorem ins_get' {q : Nat} {old new : List V} {tr : T V} (hq : q ≤ old.length) (ht : ∀ j a, j < q → old[j]? = some a → tr.get j = some a) {j : Nat} {a : V} (h : (insL q old new)[j]? = some a) : (sets (old.drop q) (q + new.length) (sets new q tr)).get j = some a := by
  have e := ins_get hq ht h
  rw [get_sets, get_sets] at e
  rw [get_sets, get_sets, ← e]
  by_cases h1 : q ≤ j ∧ j < q + new.length
  · rw [if_pos h1, if_neg (by omega), if_pos h1]
  · rw [if_neg h1]
    by_cases h2 : q + new.length ≤ j ∧ j < q + new.length + (old.drop q).length
    · rw [if_pos h2, if_neg h1]
    · rw [if_neg h2, if_neg h1]
/-- put behind the last -/
theorem ins_end {old new : List V} {q : Nat} (h : q = old.length) : insL q old new = old ++ new := by
  subst h; simp [insL]
theorem app_get {old new : List V} {tr : T V} {q : Nat} (hq : q = old.length) (ht : ∀ j a, old[j]? = some a → tr.get j = some a) {j : Nat} {a : V} (h : (old ++ new)[j]? = some a) : (sets new q tr).get j = some a := by
  subst hq
  rw [get_sets]
  by_cases h1 : old.length ≤ j ∧ j < old.length + new.length
  · rw [if_pos h1]
    rw [List.getElem?_append_right h1.1] at h; exact h
  · rw [if_neg h1]
    have hlt := (List.getElem?_eq_some_iff.1 h).1
    rw [List.length_append] at hlt
    rw [List.getElem?_append_left (by omega)] at h
    exact ht j a h
end Go.Proofs.YtgcpgidofikcdaaGreatDoor.Ev

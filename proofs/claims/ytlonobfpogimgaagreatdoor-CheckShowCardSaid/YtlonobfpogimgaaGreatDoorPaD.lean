/-
  Contracts of package strings: a Builder.
-/
import Derived.Test.YtlonobfpogimgaaGreatDoorPaGa
set_option linter.unusedSimpArgs false
namespace Go.Proofs.YtlonobfpogimgaaGreatDoor
open Go.RowKit Ev
@[simp] theorem opv_nilI (e : Env) : opv e (.const .nilIface) = some (.c .nilIface) := rfl
/-- the bytes so far -/
def BufR (el : TypeId) (b0 : Nat) (st : St) (x : V) (acc : Tx) : Prop := (x = .c (.slice none 0 0) ∧ acc = []) ∨ 0 < acc.length ∧ ∃ m t, x = .sg m 0 acc.length 1 ∧ b0 ≤ m ∧ m < st.nx ∧ st.h.get m = some (.cs el acc.length t) ∧ ∀ j v, (yv acc)[j]? = some v → t.get j = some v
theorem BufR.one {el : TypeId} {b0 : Nat} {st : St} {x : V} {acc : Tx} (h : BufR el b0 st x acc) : x.one = true := by
  rcases h with ⟨rfl, _⟩ | ⟨_, m, t, rfl, _⟩ <;> rfl
theorem BufR.lenS {el : TypeId} {b0 : Nat} {st s2 : St} {x : V} {acc : Tx} (h : BufR el b0 st x acc) : Ev.lenS s2 x = some (.int .i64 (acc.length : Int), s2) := by
  rcases h with ⟨rfl, rfl⟩ | ⟨_, m, t, rfl, _⟩ <;> simp [Ev.lenS, lenA]
theorem BufR.setB {el : TypeId} {b0 b : Nat} {st : St} {x : V} {acc : Tx} (h : BufR el b0 st x acc) (hb : b < b0) (w : B) : BufR el b0 ⟨st.nx, st.h.set b w⟩ x acc := by
  rcases h with h | ⟨h0, m, t, e, h1, h2, h3, h4⟩
  · exact .inl h
  · exact .inr ⟨h0, m, t, e, h1, h2, (T.get_set_ne _ _ (by omega)).trans h3, h4⟩
theorem bytes_firsts {c : Cx} {st : St} (l : Tx) (k : List V → Res) : firsts c st 1 l.length (.s l) k = k (yv l) := by
  have b1 : Nat.beq 1 1 = true := rfl
  have b2 : Nat.ble l.length l.length = true := by rw [Nat.ble_eq]; exact Nat.le_refl _
  simp only [firsts, b1, b2, List.take_length]
  rfl
theorem Gd_appStr {P : Program} {st : St} {t t' el b nt : Nat} {x : V} {acc l : Tx} {Q : V × St → Prop} (hu : P.underlying t = some (.slice el)) (hk : P.underlying t' = some .string) (hi : infoOk P el 1 = true) (hro : el ≠ roT)
    (h : BufR el b st x acc) (hb : b ≤ st.nx) (hmax : acc.length + l.length ≤ 1073741824)
    (hQ : ∀ x' st', BufR el b st' x' (acc ++ l) → Ext b st st' → Q (x', st')) : Gd (builtinE P ⟨false, [], 0, nt⟩ .append [t, t'] [x, .s l] st) Q := by
  have hsm : small P el (acc.length + l.length) = true := infoOk_small hi hmax
  have hz := infoOk_pos hi
  have e1 : builtinE P ⟨false, [], 0, nt⟩ .append [t, t'] [x, .s l] st = appE ⟨false, [], 0, nt⟩ st el 1 acc.length l.length x (yv l) := by
    unfold builtinE
    simp only [elemOf_ok hu hi, hk]
    have hl : ∀ k : Nat → Res, lenA x k = k acc.length := fun k => by
      rcases h with ⟨rfl, rfl⟩ | ⟨_, m, t, rfl, _⟩ <;> rfl
    rw [hl]
    show lenA (.s l) _ = _
    have hl2 : ∀ k : Nat → Res, lenA (.s l) k = k l.length := fun k => by simp only [lenA, fn_eq]
    rw [hl2, bytes_firsts, hsm]
  rw [e1]
  unfold appE
  rw [fn_eq]
  rcases h with ⟨rfl, rfl⟩ | ⟨hp0, m, tr, rfl, h3, h4, h5, h6⟩
  · cases l with
    | nil =>
      simp only [List.length_nil]
      refine ⟨_, rfl, hQ _ _ (.inl ⟨rfl, rfl⟩) (Ext.refl _ _)⟩
    | cons a l =>
      simp only [List.length_nil, List.length_cons, Nat.zero_add]
      have e2 : growE ⟨false, [], 0, nt⟩ st el 1 0 (l.length + 1) (.c (.slice none 0 0)) (yv (a :: l)) = newC st el ([] ++ yv (a :: l)) fun n st => some (.sg n 0 (l.length + 1) 1, st) := rfl
      rw [e2, newC_is]
      refine ⟨_, rfl, hQ _ _ (.inr ⟨by simp, st.nx, sets (yv (a :: l)) 0 .lf, by simp, hb, Nat.lt_succ_self _, ?_, fun j v hj => ?_⟩) ((Ext.refl _ _).new hb _)⟩
      · show (st.h.set st.nx _).get st.nx = _
        rw [T.get_set_same]; simp
      · rw [get_sets, if_pos ⟨Nat.zero_le _, by have := (List.getElem?_eq_some_iff.1 hj).1; simpa using this⟩]
        simpa using hj
  · have hbe : Nat.beq 1 1 = true := rfl
    have hroq : Nat.beq el roT = false := by
      cases hh : Nat.beq el roT with
      | false => rfl
      | true => exact absurd (Nat.eq_of_beq_eq_true hh) hro
    simp only [hbe]
    rw [getB_get m _ _ rfl h5]
    simp only [hroq]
    cases l with
    | nil =>
      have hble : Nat.ble (0 + (acc.length + ([] : Tx).length) * 1) acc.length = true := by rw [Nat.ble_eq]; simp
      simp only [hble, fn_eq]
      rw [putB_eq, h5]
      have hc : 0 + acc.length * 1 + (yv []).length ≤ acc.length ∧ el ≠ roT ∧ 0 ≤ m := ⟨by simp [yv], hro, Nat.zero_le _⟩
      simp only [ok_top, inF_nil, Bool.not_false, cond_true, Option.bind_some, csK_cs, if_pos hc]
      refine ⟨_, rfl, hQ _ _ (.inr ⟨by simpa using hp0, m, tr, by simp, h3, h4, by simp; rfl, by simpa using h6⟩) ((Ext.refl b st).set h3 h4 _)⟩
    | cons a l =>
      have hble : Nat.ble (0 + (acc.length + (a :: l).length) * 1) acc.length = false := by
        cases hh : Nat.ble (0 + (acc.length + (a :: l).length) * 1) acc.length with
        | false => rfl
        | true => rw [Nat.ble_eq, List.length_cons] at hh; omega
      have hbeq : Nat.beq (0 + acc.length * 1) acc.length = true := by rw [Nat.zero_add, Nat.mul_one]; exact Nat.beq_refl _
      simp only [hble, hbeq, setB_eq, Nat.zero_le, if_pos]
      have hty : tyM el el = el := by unfold tyM; rw [Nat.beq_refl]
      rw [setsK_eq, fn_eq, fn_eq, newB_is, hty]
      refine ⟨_, rfl, hQ _ _ (.inr ⟨by rw [List.length_append]; omega, st.nx, sets (yv (a :: l)) acc.length tr, by simp, hb, Nat.lt_succ_self _, ?_, fun j v hj => ?_⟩) (((Ext.refl b st).set h3 h4 _).new hb _)⟩
      · show ((st.h.set m .gone).set st.nx _).get st.nx = _
        rw [T.get_set_same]; simp
      · rw [get_sets]
        rw [yv_app] at hj
        rcases Nat.lt_or_ge j (yv acc).length with hj1 | hj1
        · rw [if_neg (by rw [yv_length] at hj1; omega)]
          rw [List.getElem?_append_left hj1] at hj
          exact h6 j v hj
        · rw [List.getElem?_append_right hj1, yv_length] at hj
          have hlt := (List.getElem?_eq_some_iff.1 hj).1
          rw [yv_length] at hj1
          rw [if_pos (by omega)]
          exact hj
/-- a Builder in a block of its own -/
def BuAt (st : St) (b : Nat) (acc : Tx) : Prop := b < st.nx ∧ ∃ t x, st.h.get b = some (.cs 79 2 t) ∧ (t.get 0 = some (.c (.pointer none)) ∨ t.get 0 = some (.p b 0)) ∧ t.get 1 = some x ∧ BufR 5 (b + 1) st x acc
theorem BuAt.new (st : St) : BuAt ⟨st.nx + 1, st.h.set st.nx (.cs 79 2 (sets [.c (.pointer none), .c (.slice none 0 0)] 0 .lf))⟩ st.nx [] :=
  ⟨Nat.lt_succ_self _, _, _, T.get_set_same _ _ _, .inl (by simp [sets, T.get_set]), by simp [sets, T.get_set], .inl ⟨rfl, rfl⟩⟩
theorem xesc : ext? Tryz.prog 100 = some Extern.AbiNoEscape.same := by kernel_rfl
theorem kesc : xKind Tryz.prog 100 = 1 := by kernel_rfl
theorem esc_is (c : Cx) (st : St) (b o : Nat) : extR Tryz.prog c 100 Extern.AbiNoEscape.same [.p b o] st = some (.p b o, st) := by
  rw [extR_none rfl]
  unfold extS
  rw [kesc]
  rfl
theorem ptr_nil {t el : TypeId} {st : St} {x y : Operand} (hu : Tryz.prog.underlying t = some (.pointer el)) : binE Tryz.prog st .eql t x y (.c (.pointer none)) (.c (.pointer none)) = some (.bool true, st) := by
  simp [binE, hu, nilQ]
theorem ptr_not {t el : TypeId} {st : St} {x y : Operand} (hu : Tryz.prog.underlying t = some (.pointer el)) (b o : Nat) : binE Tryz.prog st .eql t x y (.p b o) (.c (.pointer none)) = some (.bool false, st) := by
  simp [binE, hu, nilQ]
theorem ptr_same {t el : TypeId} {i : TypeInfo} {st : St} {x y : Operand} (hu : Tryz.prog.underlying t = some (.pointer el)) (hi : Tryz.prog.info? el = some i) (b o : Nat) : binE Tryz.prog st .neq t x y (.p b o) (.p b o) = some (.bool false, st) := by
  have e1 : (Nat.beq b b && Nat.beq o o) = true := by simp
  simp only [binE, hu, e1, hi]
theorem unPB : Tryz.prog.underlying 76 = some (.pointer 79) := by kernel_rfl
theorem unUP : Tryz.prog.underlying 153 = some .unsafePointer := by kernel_rfl
theorem inB : (Tryz.prog.info? 79).isSome = true := by kernel_rfl
theorem conv_toU {c : Cx} {st : St} {b : Nat} {t : T V} (hc : c.ok b = true) (h : st.h.get b = some (.cs 79 2 t)) : convE Tryz.prog c st 76 153 (.p b 0) = some (.p b 0, st) := by
  unfold convE
  simp only [unPB, unUP, sz79]
  rw [getB_get b _ _ hc h]
  rfl
theorem conv_ofU {c : Cx} {st : St} {b : Nat} {t : T V} (hc : c.ok b = true) (h : st.h.get b = some (.cs 79 2 t)) : convE Tryz.prog c st 153 76 (.p b 0) = some (.p b 0, st) := by
  unfold convE
  simp only [unPB, unUP, sz79]
  rw [getB_get b _ _ hc h]
  rfl
set_option maxRecDepth 20000 in
theorem copyCheck_any (st : St) (b : Nat) (acc : Tx) (h : BuAt st b acc) (nt : Nat) :
    Gd (callL Tryz.prog ⟨false, [], 0, nt⟩ 70 [.p b 0] st) fun r => BuAt r.2 b acc ∧ (∃ t, r.2.h.get b = some (.cs 79 2 t) ∧ t.get 0 = some (.p b 0)) ∧ Ext b st r.2 := by
  rw [Gd_callL Tryz.func70 rfl]
  obtain ⟨hlt, t, x, h1, h2, h3, h4⟩ := h
  obtain ⟨i, hi⟩ := Option.isSome_iff_exists.1 inB
  rcases h2 with h2 | h2
  · have hn := @ptr_nil 76 79 st (.tmp 5) (.const (.pointer none)) unPB
    have c1 := @conv_toU ⟨false, [], 0, 20⟩ st b t rfl h1
    have c2 := @conv_ofU ⟨false, [], 0, 20⟩ st b t rfl h1
    simp [evOp_call, evOp_ext xesc, esc_is, sets, T.get_set, loadE_eq, getC_eq, h1, h2, hn, c1, c2, putB_eq, roT, sets]
    exact ⟨⟨hlt, _, x, T.get_set_same _ _ _, .inr (by simp [T.get_set]), by simp [T.get_set, h3], h4.setB (by omega) _⟩, (Ext.refl _ _).set (Nat.le_refl _) hlt _⟩
  · have hn := @ptr_not 76 79 st (.tmp 5) (.const (.pointer none)) unPB b 0
    have hs := @ptr_same 76 79 i st (.tmp 17) (.tmp 18) unPB hi b 0
    simp [evOp_call, sets, T.get_set, loadE_eq, getC_eq, h1, h2, hn, hs]
    exact ⟨⟨hlt, t, x, h1, .inr h2, h3, h4⟩, Ext.refl _ _⟩
set_option maxRecDepth 20000 in
theorem write_any (st : St) (b : Nat) (acc : Tx) (h : BuAt st b acc) (l : Tx) (hl : acc.length + l.length ≤ 1073741824) (nt : Nat) :
    Gd (callL Tryz.prog ⟨false, [], 0, nt⟩ 36 [.p b 0, .s l] st) fun r => BuAt r.2 b (acc ++ l) ∧ Ext b st r.2 := by
  rw [Gd_callL Tryz.func36 rfl]
  simp [evOp_call, sets, T.get_set]
  refine Gd.mono (copyCheck_any st b acc h _) ?_
  rintro ⟨r, s1⟩ ⟨⟨hlt, t, x, h1, h2, h3, h4⟩, ⟨t', h5, h6⟩, x1⟩
  simp only at hlt h1 h2 h3 h4 h5 h6 x1
  rw [h1] at h5
  injection h5 with h5
  injection h5 with _ _ h5
  subst h5
  have hone := h4.one
  simp [evOp_call, sets, T.get_set, loadE_eq, getC_eq, h1, h3]
  refine Gd_appStr un77 un9 io5 (by decide) h4 (by omega) hl ?_
  intro x' s2 h7 x2
  have hone' := h7.one
  have k2 : s2.h.get b = _ := (x2.keep b (Nat.lt_succ_self _)).trans h1
  have hlt2 : b < s2.nx := Nat.lt_of_lt_of_le hlt x2.le
  simp [evOp_call, sets, T.get_set, storeK_1 hone', putB_eq, k2, roT, len_str un9]
  exact ⟨⟨hlt2, _, x', T.get_set_same _ _ _, .inr (by simp [T.get_set, h6]), by simp [T.get_set], h7.setB (by omega) _⟩, (x1.trans (x2.mono (by omega))).set (Nat.le_refl _) hlt2 _⟩
theorem sliceData_is {c : Cx} {st : St} {t : TypeId} (x : V) : builtinE Tryz.prog c .unsafeSliceData [t] [x] st = (match x with
    | .c (.slice none 0 0) => some (.c (.pointer none), st)
    | .sg n o l _ => (match Nat.blt 0 l with | true => some (.p n o, st) | false => none)
    | .sl n o _ q => (match Nat.blt 0 q with | true => some (.p n o, st) | false => none)
    | _ => none) := rfl
theorem unPU : Tryz.prog.underlying 128 = some (.pointer 5) := by kernel_rfl
theorem bytes_back : ∀ (l : Tx), okS l → ∀ k : List Nat → Res, bytesOfAs (yv l) k = k l
  | [], _, k => rfl
  | b :: l, h, k => by
    have hb : Nat.blt b 256 = true := by rw [Nat.blt_eq]; exact h b (by simp)
    have ih := bytes_back l (fun x hx => h x (by simp [hx])) fun r => k (b :: r)
    show (match Nat.blt b 256 with | true => bytesOfAs (yv l) (fun r => k (b :: r)) | false => none) = _
    rw [hb]
    exact ih
set_option maxRecDepth 20000 in
theorem ustr_is {nt : Nat} {st : St} {m : Nat} {tr : T V} {acc : Tx} (hacc : okS acc) (hl : acc.length ≤ 1073741824) (hp : 0 < acc.length) (h : st.h.get m = some (.cs 5 acc.length tr)) (h8 : ∀ j v, (yv acc)[j]? = some v → tr.get j = some v) :
    builtinE Tryz.prog ⟨false, [], 0, nt⟩ .unsafeString [128, 3] [.p m 0, .int .i64 (acc.length : Int)] st = some (.s acc, ⟨st.nx, st.h.set m .gone⟩) := by
  have b0 : Nat.beq acc.length 0 = false := by
    cases hh : Nat.beq acc.length 0 with
    | false => rfl
    | true => have := Nat.eq_of_beq_eq_true hh; omega
  have b1 : (Nat.ble acc.length acc.length && Nat.ble acc.length 9223372036854775807) = true := by
    rw [Bool.and_eq_true, Nat.ble_eq, Nat.ble_eq]; omega
  unfold builtinE
  show (match Nat.beq acc.length 0, V.p m 0 with
      | true, .c (.pointer none) => (some (.s [], st) : Res)
      | true, .p _ _ => some (.s [], st)
      | false, .p n 0 => (match Tryz.prog.underlying 128 with
        | some (.pointer el) => szOf Tryz.prog el fun z => getB ⟨false, [], 0, nt⟩ st n fun b => (match b with
          | .cs ty sz tr => (match Nat.beq ty el, Nat.beq ty roT || Nat.beq ty unT, Nat.beq z 1, Nat.ble acc.length sz && Nat.ble acc.length 9223372036854775807 with
            | true, false, true, true => getsB tr acc.length 0 fun l => bytesOfAs l fun l => setB ⟨false, [], 0, nt⟩ st n .gone fun st => some (.s l, st)
            | _, _, _, _ => none)
          | _ => none)
        | _ => none)
      | _, _ => none) = _
  rw [b0, unPU]
  simp only [sz5]
  rw [getB_get m _ _ rfl h]
  simp only [b1]
  have hg := @getsB_list (V × St) tr (yv acc) 0 (fun j x hx => by rw [Nat.zero_add]; exact h8 j x hx)
  rw [yv_length] at hg
  show getsB tr acc.length 0 _ = _
  rw [hg, bytes_back acc hacc, setB_eq, if_pos (Nat.zero_le _)]
set_option maxRecDepth 20000 in
theorem string_any (st : St) (b : Nat) (acc : Tx) (h : BuAt st b acc) (hacc : okS acc) (hl : acc.length ≤ 1073741824) (nt : Nat) :
    Gd (callL Tryz.prog ⟨false, [], 0, nt⟩ 37 [.p b 0] st) fun r => r.1 = .s acc ∧ Ext b st r.2 := by
  rw [Gd_callL Tryz.func37 rfl]
  obtain ⟨hlt, t, x, h1, h2, h3, h4⟩ := h
  simp [evOp_call, sets, T.get_set]
  refine ⟨by kernel_rfl, ?_⟩
  simp [evOp_call, sets, T.get_set, loadE_eq, getC_eq, h1, h3]
  rcases h4 with ⟨rfl, rfl⟩ | ⟨hp0, m, tr, rfl, h5, h6, h7, h8⟩
  · simp [evOp_bi .unsafeSliceData (by decide) (by decide), sliceData_is, evOp_call, sets, T.get_set, loadE_eq, getC_eq, h1, h3, lenS, lenA]
    rw [cxOf_call (by kernel_rfl) (by kernel_rfl), forb_nil]
    simp [evOp_bi .unsafeString (by decide) (by decide), T.get_set]
    have hu : ∀ c : Cx, builtinE Tryz.prog c .unsafeString [128, 3] [.c (.pointer none), .int .i64 0] st = some (.s [], st) := fun c => rfl
    rw [hu]
    simp [T.get_set]
    exact Ext.refl _ _
  · have hbl : Nat.blt 0 acc.length = true := by rw [Nat.blt_eq]; exact hp0
    simp [evOp_bi .unsafeSliceData (by decide) (by decide), sliceData_is, evOp_call, sets, T.get_set, loadE_eq, getC_eq, h1, h3, lenS, lenA, hbl]
    rw [cxOf_call (by kernel_rfl) (by kernel_rfl), forb_nil]
    simp [evOp_bi .unsafeString (by decide) (by decide), T.get_set]
    rw [ustr_is hacc hl hp0 h7 h8]
    simp [T.get_set]
    exact (Ext.refl _ _).set (by omega) h6 _
end Go.Proofs.YtlonobfpogimgaaGreatDoor

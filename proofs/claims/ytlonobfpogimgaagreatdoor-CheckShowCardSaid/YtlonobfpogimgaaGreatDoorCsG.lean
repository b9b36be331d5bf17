/-
  Contracts of package strings: a Builder that was grown ahead.
-/
import Derived.Test.YtlonobfpogimgaaGreatDoorCsF
import Derived.Test.YtlonobfpogimgaaGreatDoorDrw
set_option linter.unusedSimpArgs false
set_option linter.unusedVariables false
namespace Go.Proofs.YtlonobfpogimgaaGreatDoor
open Go.RowKit Ev
noncomputable def mkzG : Array Value → Sem Value := Extern.BytealgMakeNoZero.makeNoZero Tryz.f101.params Tryz.f101.resultTypes
theorem xmkz : ext? Tryz.prog 101 = some mkzG := by rfl
set_option maxRecDepth 20000 in
theorem mkz_none (n : Nat) (st : St) : extE Tryz.prog mkzG [.c (.int .i64 (n : Int))] st = none := by
  have e : extE Tryz.prog mkzG [.c (.int .i64 (n : Int))] st = pu Tryz.prog (mkzG ⟨[.int .i64 (n : Int)]⟩) (ret st) := rfl
  rw [e]
  have h : pureRun Tryz.prog (mkzG ⟨[.int .i64 (n : Int)]⟩) = none := by
    unfold mkzG Extern.BytealgMakeNoZero.makeNoZero
    show pureRun Tryz.prog (if (((n : Int) < 0 || (n : Int) > 2 ^ 48) = true) then _ else _) = none
    split <;> rfl
  unfold pu
  rw [h]
set_option maxRecDepth 20000 in
theorem mkz_is (c : Cx) (n : Nat) (hn : n ≤ 1073741824) (st : St) : extR Tryz.prog c 101 mkzG [.c (.int .i64 (n : Int))] st = some (.sg st.nx 0 n 1, ⟨st.nx + 1, st.h.set st.nx (.cs 5 n .lf)⟩) := by
  rw [extR_none (mkz_none n st)]
  have k1 : xKind Tryz.prog 101 = 3 := by kernel_rfl
  have k2 : mkEl Tryz.prog 101 = some 5 := by kernel_rfl
  have k3 : Nat.ble n 1073741824 = true := by rw [Nat.ble_eq]; exact hn
  unfold extS
  rw [k1]
  show (match mkEl Tryz.prog 101, Nat.ble n 1073741824 with
    | some el, true => newB st (.cs el n .lf) fun m st => (some (.sg m 0 n 1, st) : Res)
    | _, _ => none) = _
  rw [k2, k3]
  simp only [newB_is]
theorem cap_nil {P : Program} {c : Cx} {st : St} {t el z : Nat} (hu : P.underlying t = some (.slice el)) (hi : infoOk P el z = true) : builtinE P c .cap [t] [.c (.slice none 0 0)] st = some (.int .i64 0, st) := by
  show Ev.elemOf P t (fun _ _ => (some (.int .i64 0, st) : Res)) = _
  rw [elemOf_ok hu hi]
set_option maxRecDepth 20000 in
theorem cpck_any (st : St) (b : Nat) (t : T V) (hlt : b < st.nx) (h1 : st.h.get b = some (.cs 79 2 t)) (h2 : t.get 0 = some (.c (.pointer none)) ∨ t.get 0 = some (.p b 0)) (nt : Nat) :
    Gd (callL Tryz.prog ⟨false, [], 0, nt⟩ 70 [.p b 0] st) fun r => ∃ t2, r.2.h.get b = some (.cs 79 2 t2) ∧ t2.get 0 = some (.p b 0) ∧ t2.get 1 = t.get 1 ∧ Ext b st r.2 ∧ r.2.nx = st.nx ∧ ∀ n, n ≠ b → r.2.h.get n = st.h.get n := by
  rw [Gd_callL Tryz.func70 rfl]
  obtain ⟨i, hi⟩ := Option.isSome_iff_exists.1 inB
  rcases h2 with h2 | h2
  · have hn := @ptr_nil 76 79 st (.tmp 5) (.const (.pointer none)) unPB
    have c1 := @conv_toU ⟨false, [], 0, 20⟩ st b t rfl h1
    have c2 := @conv_ofU ⟨false, [], 0, 20⟩ st b t rfl h1
    simp [evOp_call, evOp_ext xesc, esc_is, sets, T.get_set, loadE_eq, getC_eq, h1, h2, hn, c1, c2, putB_eq, roT, sets]
    exact ⟨(Ext.refl _ _).set (Nat.le_refl _) hlt _, fun n hn h => absurd h.symm hn⟩
  · have hn := @ptr_not 76 79 st (.tmp 5) (.const (.pointer none)) unPB b 0
    have hs := @ptr_same 76 79 i st (.tmp 17) (.tmp 18) unPB hi b 0
    simp [evOp_call, sets, T.get_set, loadE_eq, getC_eq, h1, h2, hn, hs]
    exact Ext.refl _ _
theorem Gd_sg0 {P : Program} {c : Cx} {e : Env} {st : St} {Q : V × St → Prop} {t el m len : Nat} (hu : P.underlying t = some (.slice el)) (hz : ∀ k : Nat → Res, szOf P el k = k 1) {hi : Option Operand} (h2 : ∀ f : Nat → Res, bnd e len hi f = f 0) (hQ : Q (.sg m 0 0 1, st)) : Gd (sliceK P c e st t (.sg m 0 len 1) none hi) Q := by
  unfold sliceK sliceE
  rw [hu]
  have h1 : ∀ f : Nat → Res, bnd e 0 none f = f 0 := fun _ => rfl
  have b2 : Nat.ble 0 len = true := by rw [Nat.ble_eq]; omega
  have b1 : Nat.ble 0 0 = true := rfl
  have b3 : Nat.beq 0 0 = true := rfl
  have b4 : Nat.beq 1 1 = true := rfl
  simp only [hz, h1, h2, b1, b2, b3, b4, fn_eq, Bool.not_true, Bool.and_false]
  exact ⟨_, rfl, hQ⟩
theorem copy_nilG {P : Program} {c : Cx} {st : St} {t t' el z : Nat} (hu : P.underlying t = some (.slice el)) (hi : infoOk P el z = true) (m o l q : Nat) : builtinE P c .copy [t, t'] [.sg m o l q, .c (.slice none 0 0)] st = putB c st m o [] fun st => some (.int .i64 0, st) := by
  unfold builtinE
  simp only [elemOf_ok hu hi]
  rfl
/-- a Builder with room -/
def BuG (st : St) (b : Nat) (acc : Tx) (cap : Nat) : Prop := b < st.nx ∧ ∃ t m t', st.h.get b = some (.cs 79 2 t) ∧ (t.get 0 = some (.c (.pointer none)) ∨ t.get 0 = some (.p b 0)) ∧ t.get 1 = some (.sg m 0 acc.length 1) ∧ b + 1 ≤ m ∧ m < st.nx ∧
  st.h.get m = some (.cs 5 cap t') ∧ acc.length ≤ cap ∧ ∀ (j : Nat) (v : V), (yv acc)[j]? = some v → t'.get j = some v
set_option maxRecDepth 20000 in
theorem grow_any (st : St) (b : Nat) (t : T V) (hlt : b < st.nx) (h1 : st.h.get b = some (.cs 79 2 t)) (h2 : t.get 0 = some (.c (.pointer none)) ∨ t.get 0 = some (.p b 0)) (h3 : t.get 1 = some (.c (.slice none 0 0))) (n : Nat) (hn : 0 < n) (hmax : n ≤ 1000000) (nt : Nat) :
    Gd (callL Tryz.prog ⟨false, [], 0, nt⟩ 35 [.p b 0, .int .i64 (n : Int)] st) fun r => BuG r.2 b [] n ∧ Ext b st r.2 := by
  rw [Gd_callL Tryz.func35 rfl]
  simp [evOp_call, sets, T.get_set]
  refine Gd.mono (cpck_any st b t hlt h1 h2 _) ?_
  rintro ⟨r, s1⟩ ⟨t2, k1, k2, k3, k4, k5, k6⟩
  simp only at k1 k2 k3 k4 k5 k6
  rw [h3] at k3
  have hn0 : ¬ (n : Int) < 0 := by omega
  have hnp : (0 : Int) < (n : Int) := by omega
  simp [evOp_call, sets, T.get_set, hn0]
  refine ⟨by kernel_rfl, ?_⟩
  simp [evOp_call, sets, T.get_set, loadE_eq, getC_eq, k1, k2, k3, hnp, hn0]
  have hcap : ∀ (c : Cx) (st : St), builtinE Tryz.prog c .cap [77] [.c (.slice none 0 0)] st = some (.int .i64 0, st) := fun c st => cap_nil un77 io5
  simp [evOp_call, sets, T.get_set, loadE_eq, getC_eq, k1, k2, k3, hnp, hn0, evOp_bi .cap (by decide) (by decide), hcap, lenS, lenA]
  simp [evOp_call, sets, T.get_set, wi0, hnp, hn]
  rw [Gd_callL Tryz.func71 rfl]
  simp [evOp_call, sets, T.get_set]
  refine ⟨by kernel_rfl, ?_⟩
  simp [evOp_call, sets, T.get_set, loadE_eq, getC_eq, k1, k2, k3, hnp, hn0, evOp_bi .cap (by decide) (by decide), hcap, lenS, lenA, wi0, evOp_ext xmkz]
  have hwn : IntKind.i64.wrap (n : Int) = (n : Int) := wrap_i (by omega) (by omega)
  simp only [hwn, Int.zero_add]
  rw [mkz_is _ n (by omega)]
  have hbn : b < s1.nx := by omega
  have hne : ¬ s1.nx = b := by omega
  have hne1 : ¬ b = s1.nx := by omega
  have hld : ∀ (bb nx' : Nat), inF ((0, b) :: (b + 1, nx') :: forb bb [(8, s1.nx, s1.nx + 1)] []) b = false := fun bb nx' => inF_lds fun e he => by simp at he; subst he; exact hbn
  simp [evOp_call, sets, T.get_set, loadE_eq, getC_eq, k1, k2, k3, hnp, hn0, evOp_bi .cap (by decide) (by decide), hcap, lenS, lenA, wi0, hld, hne]
  refine Gd_sg0 un77 (fun k => sz5 k) (fun f => bnd_at (k := 0) (i := .i64) (by simp [T.get_set]; try rfl) f) ?_
  simp [evOp_call, sets, T.get_set, loadE_eq, getC_eq, k1, k2, k3, hne]
  rw [copy_nilG un77 io5]
  simp [evOp_call, sets, T.get_set, loadE_eq, getC_eq, putB_eq, k1, k2, k3, hne, hne1, roT]
  refine ⟨⟨by show b < s1.nx + 1; omega, _, s1.nx, .lf, T.get_set_same _ _ _, .inr (by simp [T.get_set, k2]), by simp [T.get_set], by show b + 1 ≤ s1.nx; omega, Nat.lt_succ_self _, ?_, Nat.zero_le _, fun j v hj => by simp [yv] at hj⟩, ?_⟩
  · show (T.set (T.set s1.h s1.nx _) b _).get s1.nx = _
    rw [T.get_set_ne _ _ hne1, T.get_set_same]
  · have x1 : Ext b st ⟨s1.nx + 1, s1.h.set s1.nx (.cs 5 n .lf)⟩ := k4.new (by omega) _
    exact x1.set (Nat.le_refl _) (by show b < s1.nx + 1; omega) _
set_option maxRecDepth 20000 in
theorem writeG_any (st : St) (b : Nat) (acc : Tx) (cap : Nat) (h : BuG st b acc cap) (l : Tx) (hl : acc.length + l.length ≤ cap) (hc : cap ≤ 1000000) (nt : Nat) :
    Gd (callL Tryz.prog ⟨false, [], 0, nt⟩ 36 [.p b 0, .s l] st) fun r => BuG r.2 b (acc ++ l) cap ∧ Ext b st r.2 := by
  rw [Gd_callL Tryz.func36 rfl]
  obtain ⟨hlt, t, m, t', h1, h2, h3, h4, h5, h6, h7, h8⟩ := h
  simp [evOp_call, sets, T.get_set]
  refine Gd.mono (cpck_any st b t hlt h1 h2 _) ?_
  rintro ⟨r, s1⟩ ⟨t2, k1, k2, k3, k4, k5, k6⟩
  simp only at k1 k2 k3 k4 k5 k6
  rw [h3] at k3
  have g6 : s1.h.get m = some (.cs 5 cap t') := (k6 m (by omega)).trans h6
  have hmb : ¬ m = b := by omega
  have hbm : ¬ b = m := by omega
  simp [evOp_call, sets, T.get_set, loadE_eq, getC_eq, k1, k2, k3]
  have hap : ∀ (c : Cx) , c = ⟨false, [], 0, 19⟩ → builtinE Tryz.prog c .append [77, 9] [.sg m 0 acc.length 1, .s l] s1 = some (.sg m 0 (acc.length + l.length) 1, ⟨s1.nx, s1.h.set m (.cs 5 cap (sets (yv l) acc.length t'))⟩) := fun c hcx => by
    subst hcx
    have hsm : small Tryz.prog 5 (acc.length + l.length) = true := infoOk_small io5 (by omega)
    have e1 : builtinE Tryz.prog ⟨false, [], 0, 19⟩ .append [77, 9] [.sg m 0 acc.length 1, .s l] s1 = appE ⟨false, [], 0, 19⟩ s1 5 1 acc.length l.length (.sg m 0 acc.length 1) (yv l) := by
      unfold builtinE
      simp only [elemOf_ok un77 io5, un9]
      have hl1 : ∀ k : Nat → Res, lenA (.sg m 0 acc.length 1) k = k acc.length := fun k => rfl
      rw [hl1]
      show lenA (.s l) _ = _
      have hl2 : ∀ k : Nat → Res, lenA (.s l) k = k l.length := fun k => by simp only [lenA, fn_eq]
      rw [hl2, bytes_firsts, hsm]
    rw [e1]
    unfold appE
    rw [fn_eq]
    have hbe : Nat.beq 1 1 = true := rfl
    have hroq : Nat.beq 5 roT = false := by rfl
    have hble : Nat.ble (0 + (acc.length + l.length) * 1) cap = true := by rw [Nat.ble_eq]; omega
    simp only [hbe]
    rw [getB_get m _ _ rfl g6]
    simp only [hroq, hble, fn_eq]
    rw [putB_eq, g6]
    have hcc : 0 + acc.length * 1 + (yv l).length ≤ cap ∧ 5 ≠ roT ∧ 0 ≤ m := ⟨by rw [yv_length]; omega, by decide, Nat.zero_le _⟩
    simp only [ok_top, inF_nil, Bool.not_false, cond_true, Option.bind_some, csK_cs, if_pos hcc]
    rw [Nat.zero_add, Nat.mul_one]
  rw [hap _ rfl]
  simp [evOp_call, sets, T.get_set, loadE_eq, getC_eq, k1, k2, k3, hmb, hbm, putB_eq, roT, len_str un9, storeK_1]
  refine ⟨⟨by show b < s1.nx; omega, _, m, sets (yv l) acc.length t', T.get_set_same _ _ _, .inr (by simp [T.get_set, k2]), by simp [T.get_set], h4, by show m < s1.nx; omega, (T.get_set_ne _ _ hbm).trans (T.get_set_same _ _ _), by rw [List.length_append]; exact hl, fun j v hj => ?_⟩, ?_⟩
  · rw [get_sets]
    rw [yv_app] at hj
    rcases Nat.lt_or_ge j (yv acc).length with hj1 | hj1
    · rw [if_neg (by rw [yv_length] at hj1; omega)]
      rw [List.getElem?_append_left hj1] at hj
      exact h8 j v hj
    · rw [List.getElem?_append_right hj1, yv_length] at hj
      have hlt := (List.getElem?_eq_some_iff.1 hj).1
      rw [yv_length] at hj1
      rw [if_pos (by omega)]
      exact hj
  · exact (k4.set (by omega) (by omega) _).set (Nat.le_refl _) (by show b < s1.nx; omega) _
set_option maxRecDepth 20000 in
theorem ustrG_is {nt : Nat} {st : St} {m cap : Nat} {tr : T V} {acc : Tx} (hacc : okS acc) (hl : acc.length ≤ cap) (hc : cap ≤ 1000000) (hp : 0 < acc.length) (h : st.h.get m = some (.cs 5 cap tr)) (h8 : ∀ (j : Nat) (v : V), (yv acc)[j]? = some v → tr.get j = some v) :
    builtinE Tryz.prog ⟨false, [], 0, nt⟩ .unsafeString [128, 3] [.p m 0, .int .i64 (acc.length : Int)] st = some (.s acc, ⟨st.nx, st.h.set m .gone⟩) := by
  have b0 : Nat.beq acc.length 0 = false := by
    cases hh : Nat.beq acc.length 0 with
    | false => rfl
    | true => have := Nat.eq_of_beq_eq_true hh; omega
  have b1 : (Nat.ble acc.length cap && Nat.ble acc.length 9223372036854775807) = true := by
    rw [Bool.and_eq_true, Nat.ble_eq, Nat.ble_eq]; omega
  unfold builtinE
  show (match Nat.beq acc.length 0, V.p m 0 with
      | true, .c (.pointer none) => (some (.s [], st) : Res)
      | true, .p _ _ => some (.s [], st)
      | false, .p n 0 => (match Tryz.prog.underlying 128 with
        | some (.pointer el) => szOf Tryz.prog el fun z => getB ⟨false, [], 0, nt⟩ st n fun b => (match b with
          | .cs ty sz tr => (match Nat.beq ty el, Nat.beq ty roT || Nat.beq ty unT, Nat.beq z 1, Nat.ble acc.length sz && Nat.ble acc.length 9223372036854775807 with
            | true, false, true, true => getsB tr acc.length 0 fun l => bytesOfAs l fun l => setB ⟨false, [], 0, nt⟩ st n .gone fun st => some (.s l, st)
            | _, _, _, _ => none)
          | _ => none)
        | _ => none)
      | _, _ => none) = _
  rw [b0, unPU]
  simp only [sz5]
  rw [getB_get m _ _ rfl h]
  simp only [b1]
  have hg := @getsB_list (V × St) tr (yv acc) 0 (fun j x hx => by rw [Nat.zero_add]; exact h8 j x hx)
  rw [yv_length] at hg
  show getsB tr acc.length 0 _ = _
  rw [hg, bytes_back acc hacc, setB_eq, if_pos (Nat.zero_le _)]
set_option maxRecDepth 20000 in
theorem stringG_any (st : St) (b : Nat) (acc : Tx) (cap : Nat) (h : BuG st b acc cap) (hacc : okS acc) (hp0 : 0 < acc.length) (hc : cap ≤ 1000000) (nt : Nat) :
    Gd (callL Tryz.prog ⟨false, [], 0, nt⟩ 37 [.p b 0] st) fun r => r.1 = .s acc ∧ Ext b st r.2 := by
  rw [Gd_callL Tryz.func37 rfl]
  obtain ⟨hlt, t, m, t', h1, h2, h3, h4, h5, h6, h7, h8⟩ := h
  simp [evOp_call, sets, T.get_set]
  refine ⟨by kernel_rfl, ?_⟩
  simp [evOp_call, sets, T.get_set, loadE_eq, getC_eq, h1, h3]
  have hbl : Nat.blt 0 acc.length = true := by rw [Nat.blt_eq]; exact hp0
  simp [evOp_bi .unsafeSliceData (by decide) (by decide), sliceData_is, evOp_call, sets, T.get_set, loadE_eq, getC_eq, h1, h3, lenS, lenA, hbl]
  rw [cxOf_call (by kernel_rfl) (by kernel_rfl), forb_nil]
  simp [evOp_bi .unsafeString (by decide) (by decide), T.get_set]
  rw [ustrG_is hacc h7 hc hp0 h6 h8]
  simp [T.get_set]
  exact (Ext.refl _ _).set (by omega) h5 _
end Go.Proofs.YtlonobfpogimgaaGreatDoor

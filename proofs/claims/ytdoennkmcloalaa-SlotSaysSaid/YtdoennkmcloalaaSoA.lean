/-
  Contracts of package strings: ContainsAny of "/" and the nought.
-/
import Derived.Test.YtdoennkmcloalaaTyAll
import Derived.Test.YtdoennkmcloalaaStr
import Derived.Test.YtdoennkmcloalaaDrw
import Derived.Test.YtdoennkmcloalaaEqS
set_option linter.unusedSimpArgs false
set_option linter.unusedVariables false
namespace Go.Proofs.Ytdoennkmcloalaa
open Go.RowKit Ev
theorem sxidx : ext? Try.prog 261 = some Extern.BytealgIndexByte.indexByte := by kernel_rfl
theorem sidxB_any (c : Cx) (st : St) (s : List Nat) (hs : ∀ b ∈ s, b < 256) (b : Nat) (hb : b < 256) : Gd (callL Try.prog c 257 [.s s, .int .u8 (b : Int)] st) fun r => r = (.int .i64 (idxI b s), st) := by
  rw [Gd_callL Try.func257 rfl]
  have h1 := ext_idx (P := Try.prog) (st := st) s hs b hb
  simp [evOp_ext sxidx, sets, T.get_set, extR_some h1]
theorem sidx_any (c : Cx) (st : St) (s : List Nat) (hs : ∀ b ∈ s, b < 256) (b : Nat) (hb : b < 256) : Gd (callL Try.prog c 243 [.s s, .int .u8 (b : Int)] st) fun r => r = (.int .i64 (idxI b s), st) := by
  rw [Gd_callL Try.func243 rfl]
  simp [evOp_call, sets, T.get_set]
  refine Gd.mono (sidxB_any _ st s hs b hb) ?_
  rintro _ rfl
  simp [T.get_set]
/-! ### runes -/
section
variable {P : Program} {F : CallF} {c : Cx} {e : Env} {st : St}
noncomputable def rangeK (P : Program) (st : St) (t : TypeId) (v : V) : Res := match P.underlying t, v with
    | some .string, .s l => newB st (.it l 0) fun n st => some (.p n 0, st)
    | _, _ => none
noncomputable def nextK (c : Cx) (st : St) (v : V) : Res := match v with
    | .p n 0 => getB c st n fun b => (match b with
      | .it l pos => (match lget l pos with
        | none => some (.t [.bool false], st)
        | some b => (match Nat.blt b 128 with
          | true => fn (pos + 1) fun q => setB c st n (.it l q) fun st => some (.t [.bool true, .int .i64 (.ofNat pos), .int .i32 (.ofNat b)], st)
          | false => fn (decL l pos).1 fun r => fn (pos + (decL l pos).2) fun q => setB c st n (.it l q) fun st => some (.t [.bool true, .int .i64 (.ofNat pos), .int .i32 (.ofNat r)], st)))
      | _ => none)
    | _ => none
@[simp] theorem evOp_range (d : Option Nat) (ty : TypeId) (p : String) (af : Array Edge) (g : Option (Nat × Bool)) (t : TypeId) (x : Operand) : evOp P F c e st ⟨d, .range t x, ty, p, af, g⟩ = opd e x fun v => rangeK P st t v := rfl
@[simp] theorem evOp_next (d : Option Nat) (ty : TypeId) (p : String) (af : Array Edge) (g : Option (Nat × Bool)) (x : Operand) : evOp P F c e st ⟨d, .next x true, ty, p, af, g⟩ = opd e x fun v => nextK c st v := rfl
theorem rangeK_str {t : TypeId} (hu : P.underlying t = some .string) (l : List Nat) : rangeK P st t (.s l) = some (.p st.nx 0, ⟨st.nx + 1, st.h.set st.nx (.it l 0)⟩) := by
  unfold rangeK
  rw [hu]
  simp only [newB_eq]
theorem nextK_end {n k : Nat} {l : List Nat} (hok : c.ok n = true) (h : st.h.get n = some (.it l k)) (hk : l.length ≤ k) : nextK c st (.p n 0) = some (.t [.bool false], st) := by
  unfold nextK
  simp only [getB_eq, hok, h, cond_true, Option.bind_some, lget_eq, List.getElem?_eq_none hk]
theorem nextK_lo {n k b : Nat} {l : List Nat} (hok : c.ok n = true) (hw : c.wb ≤ n) (h : st.h.get n = some (.it l k)) (hk : l[k]? = some b) (hb : b < 128) : nextK c st (.p n 0) = some (.t [.bool true, .int .i64 (k : Int), .int .i32 (b : Int)], ⟨st.nx, st.h.set n (.it l (k + 1))⟩) := by
  have h1 : Nat.blt b 128 = true := by rw [Nat.blt_eq]; exact hb
  have h2 : Nat.ble c.wb n = true := by rw [Nat.ble_eq]; exact hw
  unfold nextK
  simp only [getB_eq, hok, h, cond_true, Option.bind_some, lget_eq, hk, h1, fn_eq, setB, h2, T.setK_eq]
  rfl
theorem nextK_hi {n k b : Nat} {l : List Nat} (hok : c.ok n = true) (hw : c.wb ≤ n) (h : st.h.get n = some (.it l k)) (hk : l[k]? = some b) (hb : ¬ b < 128) : nextK c st (.p n 0) = some (.t [.bool true, .int .i64 (k : Int), .int .i32 ((decL l k).1 : Int)], ⟨st.nx, st.h.set n (.it l (k + (decL l k).2))⟩) := by
  have h1 : Nat.blt b 128 = false := by
    cases h : Nat.blt b 128 with
    | false => rfl
    | true => rw [Nat.blt_eq] at h; exact absurd h hb
  have h2 : Nat.ble c.wb n = true := by rw [Nat.ble_eq]; exact hw
  unfold nextK
  simp only [getB_eq, hok, h, cond_true, Option.bind_some, lget_eq, hk, h1, fn_eq, setB, h2, T.setK_eq]
  rfl
end
theorem validN_iff (c : Nat) : validN c = true ↔ c < 55296 ∨ (57344 ≤ c ∧ c ≤ 1114111) := by
  simp [validN, Nat.blt_eq, Nat.ble_eq]
theorem contL_ge {l : List Nat} {i : Nat} (h : contL l i = true) : ∃ b, l[i]? = some b ∧ 128 ≤ b := by
  unfold contL at h
  rw [lget_eq] at h
  cases hl : l[i]? with
  | none => rw [hl] at h; cases h
  | some b =>
    rw [hl] at h
    have : b / 64 = 2 := by simpa [nbeq] using h
    exact ⟨b, rfl, by omega⟩
/-- what is read where no low byte stands -/
theorem decL_hi {l : List Nat} {i b : Nat} (hl : l[i]? = some b) (hb : ¬ b < 128) : 128 ≤ (decL l i).1 ∧ validN (decL l i).1 = true ∧ 1 ≤ (decL l i).2 ∧ (∀ j, i ≤ j → j < i + (decL l i).2 → ∃ x, l[j]? = some x ∧ 128 ≤ x) := by
  have one : ∀ j, i ≤ j → j < i + 1 → ∃ x, l[j]? = some x ∧ 128 ≤ x := fun j h1 h2 => by
    obtain rfl : j = i := by omega
    exact ⟨b, hl, by omega⟩
  have bad : 128 ≤ ((65533, 1) : Nat × Nat).1 ∧ validN ((65533, 1) : Nat × Nat).1 = true ∧ 1 ≤ ((65533, 1) : Nat × Nat).2 ∧ (∀ j, i ≤ j → j < i + ((65533, 1) : Nat × Nat).2 → ∃ x, l[j]? = some x ∧ 128 ≤ x) := ⟨by decide, by decide, Nat.le_refl _, one⟩
  have hat : atL l i = b := by unfold atL; rw [lget_eq, hl]
  have h1 : Nat.blt b 128 = false := by
    cases h : Nat.blt b 128 with
    | false => rfl
    | true => rw [Nat.blt_eq] at h; exact absurd h hb
  unfold decL
  simp only [hat, h1]
  split
  · rename_i hc
    simp only [Bool.and_eq_true] at hc
    split
    · rename_i h2
      rw [Nat.ble_eq] at h2
      obtain ⟨x, hx, hx2⟩ := contL_ge hc.2
      refine ⟨h2, ?_, by show 1 ≤ 2; omega, fun j q1 q2 => ?_⟩
      · rw [validN_iff]
        left
        have := Nat.mod_lt (atL l (i + 1)) (show 0 < 64 by decide)
        have := Nat.mod_lt b (show 0 < 32 by decide)
        show b % 32 * 64 + atL l (i + 1) % 64 < 55296
        omega
      · have q3 : j < i + 2 := q2
        rcases (by omega : j = i ∨ j = i + 1) with rfl | rfl
        · exact ⟨b, hl, by omega⟩
        · exact ⟨x, hx, hx2⟩
    · exact bad
  · split
    · rename_i _ hc
      simp only [Bool.and_eq_true] at hc
      split
      · rename_i h2
        simp only [Bool.and_eq_true, Nat.ble_eq] at h2
        obtain ⟨x, hx, hx2⟩ := contL_ge hc.1.2
        obtain ⟨y, hy, hy2⟩ := contL_ge hc.2
        refine ⟨by have := h2.1; show 128 ≤ _; omega, h2.2, by show 1 ≤ 3; omega, fun j q1 q2 => ?_⟩
        have q3 : j < i + 3 := q2
        rcases (by omega : j = i ∨ j = i + 1 ∨ j = i + 2) with rfl | rfl | rfl
        · exact ⟨b, hl, by omega⟩
        · exact ⟨x, hx, hx2⟩
        · exact ⟨y, hy, hy2⟩
      · exact bad
    · split
      · rename_i _ _ hc
        simp only [Bool.and_eq_true] at hc
        split
        · rename_i h2
          simp only [Bool.and_eq_true, Nat.ble_eq] at h2
          obtain ⟨x, hx, hx2⟩ := contL_ge hc.1.1.2
          obtain ⟨y, hy, hy2⟩ := contL_ge hc.1.2
          obtain ⟨z, hz, hz2⟩ := contL_ge hc.2
          refine ⟨by have := h2.1; show 128 ≤ _; omega, h2.2, by show 1 ≤ 4; omega, fun j q1 q2 => ?_⟩
          have q3 : j < i + 4 := q2
          rcases (by omega : j = i ∨ j = i + 1 ∨ j = i + 2 ∨ j = i + 3) with rfl | rfl | rfl | rfl
          · exact ⟨b, hl, by omega⟩
          · exact ⟨x, hx, hx2⟩
          · exact ⟨y, hy, hy2⟩
          · exact ⟨z, hz, hz2⟩
        · exact bad
      · exact bad
theorem conv_rune {c : Cx} {st : St} (n : Int) : convE Try.prog c st 21 9 (.c (.int .i32 n)) = some (.s (encL n), st) := by
  unfold convE
  rw [un21, un9]
  simp
theorem valid_any (c : Cx) (st : St) (r : Nat) (h : validN r = true) : Gd (callL Try.prog c 244 [.int .i32 (r : Int)] st) fun x => x = (.bool true, st) := by
  rw [Gd_callL Try.func244 rfl]
  rw [validN_iff] at h
  by_cases h1 : r < 55296
  · have h1' : (r : Int) < 55296 := by omega
    simp [evOp_call, sets, T.get_set, h1, h1']
  · have h1' : ¬ (r : Int) < 55296 := by omega
    have h2 : (57343 : Int) < r := by omega
    have h3 : (r : Int) ≤ 1114111 := by omega
    have h2' : 57343 < r := by omega
    have h3' : r ≤ 1114111 := by omega
    simp [evOp_call, sets, T.get_set, h1, h1', h2, h3, h2', h3']
def sep : List Nat := [47, 0]
theorem sep_lt : ∀ b ∈ sep, b < 256 := by decide
theorem idxI_nil (b : Nat) : idxI b [] = -1 := rfl
def runeAt (r : Nat) : Int := if r = 47 then 0 else if r = 0 then 1 else -1
theorem runeAt_pos (r : Nat) : 0 ≤ runeAt r ↔ r = 47 ∨ r = 0 := by
  unfold runeAt
  by_cases h1 : r = 47
  · simp [h1]
  · by_cases h0 : r = 0
    · simp [h0]
    · simp [h1, h0]
theorem idxI_sep {b : Nat} : idxI b sep = runeAt b := by
  unfold idxI fidx sep runeAt
  simp only [List.length_cons, List.length_nil]
  show (match (List.range 2).find? fun i => ([47, 0] : List Nat)[i]?.getD 0 == b with | some i => (i : Int) | none => -1) = _
  rw [show List.range 2 = [0, 1] from rfl]
  by_cases h1 : b = 47
  · subst h1; rfl
  · by_cases h0 : b = 0
    · subst h0; rfl
    · have e1 : (47 == b) = false := by simpa using fun e => h1 e.symm
      have e2 : (0 == b) = false := by simpa using fun e => h0 e.symm
      simp [List.find?, h1, h0, e1, e2]
def irI (p : Nat) (b : Nat) (st : St) (e : Env) (s : St) : Prop := ∃ k : Nat, k ≤ 2 ∧ e.get 175 = some (.p p 0) ∧ s.h.get p = some (.it sep k) ∧ Ext b st s ∧ p < s.nx
noncomputable def itAt (p : Nat) (_ : Env) (s : St) : Nat := match s.h.get p with
  | some (.it l k) => l.length - k
  | _ => 0
set_option maxRecDepth 20000 in
set_option maxHeartbeats 8000000 in
theorem rune_any (st : St) (r : Nat) (h : validN r = true) (nt : Nat) : Gd (callL Try.prog ⟨false, [], 0, nt⟩ 215 [.s sep, .int .i32 (r : Int)] st) fun x => x.1 = .int .i64 (runeAt r) ∧ Ext st.nx st x.2 := by
  rw [Gd_callL Try.func215 rfl]
  by_cases h1 : r < 128
  · have h1' : (r : Int) < 128 := by omega
    have hw : IntKind.u8.wrap (r : Int) = (r : Int) := by simp [IntKind.wrap, IntKind.signed, IntKind.bits]; omega
    simp [evOp_call, sets, T.get_set, h1, h1', conv_int (P := Try.prog) (by rw [un21]; rfl) un5, hw]
    refine Gd.mono (sidx_any _ st sep sep_lt r (by omega)) ?_
    rintro _ rfl
    simp [T.get_set, idxI_sep]
    exact Ext.refl _ _
  have h1' : ¬ (r : Int) < 128 := by omega
  have hr : runeAt r = -1 := by unfold runeAt; rw [if_neg (by omega), if_neg (by omega)]
  rw [hr]
  by_cases h2 : r = 65533
  · subst h2
    simp [evOp_call, sets, T.get_set, rangeK_str un9]
    refine Gd_loop (irI st.nx st.nx st) (itAt st.nx) ?_ ?_
    · exact ⟨0, by omega, by simp [T.get_set], T.get_set_same _ _ _, (Ext.refl _ _).new (Nat.le_refl _) _, Nat.lt_succ_self _⟩
    · rintro e s ⟨k, hk, g175, hit, hx, hp⟩
      have hok : (⟨false, [], 0, 187⟩ : Cx).ok st.nx = true := rfl
      by_cases hk2 : k < 2
      · obtain ⟨b, hb, hb1, hb2⟩ : ∃ b, sep[k]? = some b ∧ b < 128 ∧ ¬ (b : Int) = 65533 := by
          rcases (by omega : k = 0 ∨ k = 1) with rfl | rfl
          · exact ⟨47, rfl, by decide, by decide⟩
          · exact ⟨0, rfl, by decide, by decide⟩
        have hb3 : ¬ b = 65533 := by omega
        simp [evOp_call, T.get_set, g175, nextK_lo hok (Nat.zero_le _) hit hb hb1, hb2, hb3]
        refine ⟨⟨k + 1, by omega, by simp [T.get_set, g175], T.get_set_same _ _ _, hx.set (Nat.le_refl _) hp _, hp⟩, ?_⟩
        unfold itAt
        rw [hit, T.get_set_same]
        show 2 - (k + 1) < 2 - k
        omega
      · simp [evOp_call, T.get_set, g175, nextK_end hok hit (show sep.length ≤ k by show 2 ≤ k; omega)]
        exact hx
  have h2' : ¬ (r : Int) = 65533 := by omega
  simp [evOp_call, sets, T.get_set, h1, h1', h2, h2']
  refine Gd.mono (valid_any _ st r h) ?_
  rintro _ rfl
  obtain ⟨rs, hrs, hn, hby⟩ : ∃ rs, encL (r : Int) = rs ∧ 2 ≤ rs.length ∧ (∀ b ∈ rs, 128 ≤ b ∧ b < 256) := by
    refine ⟨_, rfl, ?_⟩
    show 2 ≤ (match validN r with | true => encN r | false => encN 65533).length ∧ ∀ b ∈ (match validN r with | true => encN r | false => encN 65533), 128 ≤ b ∧ b < 256
    rw [h]
    show 2 ≤ (encN r).length ∧ ∀ b ∈ encN r, 128 ≤ b ∧ b < 256
    rw [validN_iff] at h
    have b0 : Nat.blt r 128 = false := by
      cases hh : Nat.blt r 128 with
      | false => rfl
      | true => rw [Nat.blt_eq] at hh; exact absurd hh h1
    unfold encN
    rw [b0]
    simp only
    cases b1 : Nat.blt r 2048 with
    | true =>
      rw [Nat.blt_eq] at b1
      exact ⟨Nat.le_refl _, fun b hb => by simp at hb; omega⟩
    | false =>
      simp only
      cases b2 : Nat.blt r 65536 with
      | true =>
        rw [Nat.blt_eq] at b2
        exact ⟨by simp, fun b hb => by simp at hb; omega⟩
      | false =>
        have b3 : ¬ r < 65536 := fun hh => by rw [← Nat.blt_eq, b2] at hh; cases hh
        exact ⟨by simp, fun b hb => by simp at hb; omega⟩
  have w1 : IntKind.i64.wrap ((rs.length : Int) - 1) = (rs.length : Int) - 1 := by
    have : rs.length ≤ 4 := by
      rw [← hrs]
      show (match validN r with | true => encN r | false => encN 65533).length ≤ 4
      rw [h]
      show (encN r).length ≤ 4
      unfold encN
      split
      · simp
      · split
        · simp
        · split <;> simp
    exact wrap_in (by omega) (by omega)
  simp [evOp_call, sets, T.get_set, conv_rune, hrs, len_str un9, w1]
  refine Gd_loop (fun e s => e.get 0 = some (.s sep) ∧ e.get 7 = some (.s rs) ∧ e.get 8 = some (.int .i64 ((rs.length : Int) - 1)) ∧ e.get 9 = some (.int .i64 ((rs.length : Int) - 1)) ∧ s = st) (fun _ _ => 0) ?_ ?_
  · exact ⟨by simp [T.get_set], by simp [T.get_set], by simp [T.get_set], by simp [T.get_set], rfl⟩
  · rintro e s ⟨g0, g7, g8, g9, rfl⟩
    by_cases hl2 : rs.length = 2
    · obtain ⟨x, y, rfl⟩ : ∃ x y, rs = [x, y] := by
        match rs, hl2 with
        | [x, y], _ => exact ⟨x, y, rfl⟩
      have hy := hby y (by simp)
      have hy0 : ¬ (0 : Int) = (y : Int) := by omega
      have hy0' : ¬ 0 = y := by omega
      have hsl : (sep.length : Int) = 2 := rfl
      simp at g8 g9
      have hi0 : indexK Try.prog s 9 (.s sep) 1 = some (.int .u8 ((0 : Nat) : Int), s) := indexK_str un9 sep 1 0 rfl
      have hi1 : indexK Try.prog s 9 (.s [x, y]) 1 = some (.int .u8 (y : Int), s) := indexK_str un9 [x, y] 1 y rfl
      simp [evOp_call, T.get_set, g0, g7, g8, g9, len_str un9, hsl]
      refine ⟨by kernel_rfl, ?_⟩
      rw [hi0]
      simp [evOp_call, T.get_set, g0, g7, g8, g9]
      rw [hi1]
      simp [evOp_call, T.get_set, g0, g7, g8, g9, hy0, hy0']
      refine ⟨by kernel_rfl, ?_⟩
      refine Gd_strLo (k := 2) (i := .i64) un9 (by simp [T.get_set]; rfl) (Nat.le_refl _) ?_
      simp [evOp_call, T.get_set, g0, g7, g8, g9]
      rw [hi1]
      simp [evOp_call, T.get_set, g0, g7, g8, g9]
      refine Gd.mono (sidx_any _ s [] (fun b hb => by cases hb) y (by omega)) ?_
      rintro _ rfl
      simp [evOp_call, T.get_set, idxI_nil]
      exact Ext.refl _ _
    · have hlt : ¬ (rs.length : Int) - 1 < 2 := by omega
      have hsl : (sep.length : Int) = 2 := rfl
      simp [evOp_call, T.get_set, g0, g7, g8, g9, len_str un9, hsl, hlt]
      exact Ext.refl _ _
/-! ### a set of low bytes -/
def isSepB (i : Nat) : Bool := decide (i = 47 ∨ i = 0)
def ascV (p : Nat → Bool) : List V := (List.range 256).map fun i => .bool (p i)
theorem ascV_len (p : Nat → Bool) : (ascV p).length = 256 := by simp [ascV]
theorem ascV_get {p : Nat → Bool} {i : Nat} (h : i < 256) : (ascV p)[i]? = some (.bool (p i)) := by
  unfold ascV
  rw [List.getElem?_map, List.getElem?_range h]; rfl
theorem ascV_of {p : Nat → Bool} {i : Nat} {v : V} (h : (ascV p)[i]? = some v) : i < 256 ∧ v = .bool (p i) := by
  have hl := (List.getElem?_eq_some_iff.1 h).1
  rw [ascV_len] at hl
  rw [ascV_get hl] at h
  injection h with h
  exact ⟨hl, h.symm⟩
theorem zeAsc {β : Type} (k : List V → Option β) : zero Try.prog 279 k = k (ascV fun _ => false) := by kernel_rfl
def ascT (t : T V) (p : Nat → Bool) : Prop := ∀ i, i < 256 → t.get i = some (.bool (p i))
theorem ascT_sets (p : Nat → Bool) (t : T V) : ascT (sets (ascV p) 0 t) p := fun i hi => by
  rw [get_sets, if_pos ⟨Nat.zero_le _, by rw [ascV_len]; omega⟩]
  exact ascV_get hi
theorem ascT_load {c : Cx} {st : St} {n sz : Nat} {ty : TypeId} {t : T V} {p : Nat → Bool} (hok : c.ok n = true) (hg : st.h.get n = some (.cs ty sz t)) (h : ascT t p) {β : Type} (k : V → Option β) : loadE Try.prog c st 279 n 0 k = k (.g (ascV p)) := by
  rw [loadE_eq, getC_eq]
  simp only [hok, hg, cond_true, Option.bind_some, csK_cs, ag279, sz279]
  have e := getsB_list (t := t) (l := ascV p) (i := 0) (fun j v hj => by
    obtain ⟨h1, rfl⟩ := ascV_of hj
    rw [Nat.zero_add]; exact h j h1) (fun l => k (.g l))
  rw [ascV_len] at e
  exact e
theorem ascT_set {t : T V} {p : Nat → Bool} (h : ascT t p) (b : Nat) : ascT (t.set b (.bool true)) (fun i => p i || decide (i = b)) := fun i hi => by
  rw [T.get_set]
  by_cases e : b = i
  · subst e; rw [if_pos rfl]; simp
  · rw [if_neg e, h i hi]
    have : decide (i = b) = false := decide_eq_false fun h => e h.symm
    simp only [this, Bool.or_false]
def ascP (k : Nat) (i : Nat) : Bool := decide (i ∈ sep.take k)
def ascI (q b : Nat) (st : St) (e : Env) (s : St) : Prop := ∃ k : Nat, k ≤ 2 ∧ e.get 0 = some (.s sep) ∧ e.get 2 = some (.p q 0) ∧ e.get 4 = some (.int .i64 (k : Int)) ∧ (∃ t, s.h.get q = some (.cs 279 256 t) ∧ ascT t (ascP k)) ∧ Ext b st s ∧ q < s.nx
set_option maxRecDepth 20000 in
theorem asc_any (st : St) (nt : Nat) : Gd (callL Try.prog ⟨false, [], 0, nt⟩ 217 [.s sep] st) fun x => x.1 = .t [.g (ascV isSepB), .bool true] ∧ Ext st.nx st x.2 := by
  rw [Gd_callL Try.func217 rfl]
  simp [evOp_call, sets, T.get_set, zeAsc, newC_is, ascV_len]
  refine Gd_loop (ascI st.nx st.nx st) (fun e _ => muAt 4 2 e) ?_ ?_
  · refine ⟨0, by omega, by simp [T.get_set], by simp [T.get_set], by simp [T.get_set], ⟨_, T.get_set_same _ _ _, fun i hi => ?_⟩, (Ext.refl _ _).new (Nat.le_refl _) _, Nat.lt_succ_self _⟩
    rw [ascT_sets _ _ i hi]; rfl
  · rintro e s ⟨k, hk, g0, g2, g4, ⟨t, hg, ht⟩, hx, hq⟩
    have hsl : (sep.length : Int) = 2 := rfl
    by_cases hk2 : k < 2
    · have hk2' : (k : Int) < 2 := by omega
      have hwk := wrap_nat (n := k) (by omega)
      obtain ⟨b, hb, hb1, hb2⟩ : ∃ b, sep[k]? = some b ∧ b < 128 ∧ (∀ i, (ascP k i || decide (i = b)) = ascP (k + 1) i) := by
        rcases (by omega : k = 0 ∨ k = 1) with rfl | rfl
        · exact ⟨47, rfl, by decide, fun i => by simp [ascP, sep]⟩
        · refine ⟨0, rfl, by decide, fun i => ?_⟩
          unfold ascP sep
          by_cases h1 : i = 47 <;> by_cases h2 : i = 0 <;> simp [h1, h2]
      have hb3 : ¬ (128 : Int) ≤ (b : Int) := by omega
      have hb3' : ¬ 128 ≤ b := by omega
      have hb4 : b < 256 := by omega
      have hb5 : b + 1 ≤ 256 := by omega
      simp [evOp_call, T.get_set, g0, g2, g4, len_str un9, hsl, hk2', hk2]
      rw [indexK_str un9 sep k b hb]
      simp [evOp_call, T.get_set, g0, g2, g4, hb3, hb3', hb4, hb5, putB_eq, hg, roT, sets, hwk]
      refine ⟨⟨k + 1, by omega, by simp [T.get_set, g0], by simp [T.get_set, g2], by simp [T.get_set], ⟨_, T.get_set_same _ _ _, fun i hi => ?_⟩, hx.set (Nat.le_refl _) hq _, hq⟩, muAt_lt g4 (by simp [T.get_set]) hk2⟩
      rw [← hb2]; exact ascT_set ht b i hi
    · obtain rfl : k = 2 := by omega
      have hok : (⟨false, [], 0, 21⟩ : Cx).ok st.nx = true := rfl
      simp [evOp_call, T.get_set, g0, g2, g4, len_str un9, hsl]
      rw [ascT_load hok hg ht]
      simp [evOp_call, T.get_set, g2, storeK_g, ascV_len, putB_eq, hg, roT]
      rw [ascT_load (by rfl) (T.get_set_same _ _ _) (ascT_sets _ _)]
      simp
      refine ⟨?_, hx.set (Nat.le_refl _) hq _⟩
      unfold ascV
      apply List.map_congr_left
      intro i _
      simp [ascP, sep, isSepB]
theorem has_asc (c : Cx) (st : St) (q b : Nat) (hb : b < 256) (hok : c.ok q = true) {t : T V} {p : Nat → Bool} (hg : st.h.get q = some (.cs 279 256 t)) (ht : ascT t p) : Gd (callL Try.prog c 218 [.p q 0, .int .u8 (b : Int)] st) fun r => r = (.bool (p b), st) := by
  rw [Gd_callL Try.func218 rfl]
  have h1 := ht b hb
  have hok' : (⟨c.all, c.l, c.wb, 10⟩ : Cx).ok q = true := hok
  simp [evOp_call, sets, T.get_set, hb, loadE_eq, getC_eq, hok', hg, h1]
theorem should_any (c : Cx) (st : St) (n : Nat) (hn : n ≤ 1073741824) : Gd (callL Try.prog c 216 [.int .i64 (n : Int)] st) fun r => r = (.bool (decide (8 < n)), st) := by
  rw [Gd_callL Try.func216 rfl]
  by_cases h : 8 < n
  · have h' : (8 : Int) < n := by omega
    simp [evOp_call, sets, T.get_set, h, h']
  · have h' : ¬ (8 : Int) < n := by omega
    simp [evOp_call, sets, T.get_set, h, h']
def isSep (b : Nat) : Prop := b = 47 ∨ b = 0
instance (b : Nat) : Decidable (isSep b) := by unfold isSep; infer_instance
def hasSep (l : List Nat) : Prop := ∃ b ∈ l, isSep b
def noSep (l : List Nat) (k : Nat) : Prop := ∀ b ∈ l.take k, ¬ isSep b
theorem noSep_succ {l : List Nat} {k b : Nat} (h : noSep l k) (hb : l[k]? = some b) (hn : ¬ isSep b) : noSep l (k + 1) := fun x hx => by
  rw [List.take_add_one, hb] at hx
  rcases List.mem_append.1 hx with h2 | h2
  · exact h x h2
  · simp at h2; subst h2; exact hn
def ixA (l : List Nat) (q b : Nat) (st : St) (e : Env) (s : St) : Prop := ∃ k : Nat, k ≤ l.length ∧ e.get 0 = some (.s l) ∧ e.get 6 = some (.p q 0) ∧ e.get 8 = some (.int .i64 (k : Int)) ∧ (∃ t, s.h.get q = some (.cs 279 256 t) ∧ ascT t isSepB) ∧ Ext b st s ∧ noSep l k
def ixB (l : List Nat) (q b : Nat) (st : St) (e : Env) (s : St) : Prop := ∃ k : Nat, e.get 1 = some (.s sep) ∧ e.get 45 = some (.p q 0) ∧ s.h.get q = some (.it l k) ∧ Ext b st s ∧ q < s.nx ∧ noSep l k
set_option maxRecDepth 20000 in
set_option maxHeartbeats 8000000 in
theorem ixany_any (st : St) (l : List Nat) (hl : ∀ b ∈ l, b < 256) (hn : l.length ≤ 1073741824) (nt : Nat) : Gd (callL Try.prog ⟨false, [], 0, nt⟩ 184 [.s l, .s sep] st) fun x => (∃ z : Int, x.1 = .int .i64 z ∧ (0 ≤ z ↔ hasSep l)) ∧ Ext st.nx st x.2 := by
  rw [Gd_callL Try.func184 rfl]
  have hsl : (sep.length : Int) = 2 := rfl
  have hse : ¬ sep = [] := by decide
  have hno : noSep l l.length → ¬ hasSep l := fun h => by
    rintro ⟨b, hb, h2⟩
    exact h b (by rw [List.take_length]; exact hb) h2
  simp [evOp_call, sets, T.get_set, len_str un9, hsl, hse]
  refine Gd.mono (should_any _ st l.length hn) ?_
  rintro _ rfl
  by_cases h8 : 8 < l.length
  · simp [evOp_call, T.get_set, h8]
    refine Gd.mono (asc_any st _) ?_
    rintro ⟨r, s1⟩ ⟨hr, x1⟩
    simp only at hr x1
    subst hr
    simp [evOp_call, T.get_set, zeAsc, newC_is, ascV_len, storeK_g, putB_eq, roT]
    refine Gd_loop (ixA l s1.nx st.nx st) (fun e _ => muAt 8 l.length e) ?_ ?_
    · exact ⟨0, Nat.zero_le _, by simp [T.get_set], by simp [T.get_set], by simp [T.get_set], ⟨_, T.get_set_same _ _ _, ascT_sets _ _⟩, x1.trans ((Ext.refl s1.nx s1).new (Nat.le_refl _) _ |>.mono x1.le), fun b hb => by simp at hb⟩
    · rintro e s ⟨k, hk, g0, g6, g8, ⟨t, hg, ht⟩, hx, hno2⟩
      by_cases hlt : k < l.length
      · have hlt' : (k : Int) < l.length := by omega
        have hwk := wrap_nat (n := k) (by omega)
        obtain ⟨b, hb⟩ : ∃ b, l[k]? = some b := ⟨_, List.getElem?_eq_getElem hlt⟩
        have hb2 := hl b (List.mem_of_getElem? hb)
        simp [evOp_call, T.get_set, g0, g6, g8, len_str un9, hlt']
        rw [indexK_str un9 l k b hb]
        simp [evOp_call, T.get_set, g0, g6, g8]
        refine Gd.mono (has_asc _ s s1.nx b hb2 rfl hg ht) ?_
        rintro _ rfl
        by_cases hs : b = 47 ∨ b = 0
        · have hd : isSepB b = true := decide_eq_true hs
          simp only [hd]
          simp [evOp_call, T.get_set, g8]
          exact ⟨⟨b, List.mem_of_getElem? hb, hs⟩, hx⟩
        · have hd : isSepB b = false := decide_eq_false hs
          simp only [hd]
          simp [evOp_call, T.get_set, g8, hwk]
          exact ⟨⟨k + 1, hlt, by simp [T.get_set, g0], by simp [T.get_set, g6], by simp [T.get_set], ⟨t, hg, ht⟩, hx, noSep_succ hno2 hb hs⟩, muAt_lt g8 (by simp [T.get_set]) hlt⟩
      · obtain rfl : k = l.length := by omega
        have := hno hno2
        simp [evOp_call, T.get_set, g0, g8, len_str un9, this]
        exact hx
  · simp [evOp_call, T.get_set, h8, rangeK_str un9]
    refine Gd_loop (ixB l st.nx st.nx st) (itAt st.nx) ?_ ?_
    · exact ⟨0, by simp [T.get_set], by simp [T.get_set], T.get_set_same _ _ _, (Ext.refl _ _).new (Nat.le_refl _) _, Nat.lt_succ_self _, fun b hb => by simp at hb⟩
    · rintro e s ⟨k, g1, g45, hit, hx, hq, hno2⟩
      have hok : (⟨false, [], 0, 55⟩ : Cx).ok st.nx = true := rfl
      cases hb : l[k]? with
      | none =>
        have hle : l.length ≤ k := List.getElem?_eq_none_iff.1 hb
        have := hno fun b hb => hno2 b (by rw [List.take_of_length_le hle]; rw [List.take_length] at hb; exact hb)
        simp [evOp_call, T.get_set, g1, g45, nextK_end hok hit hle, this]
        exact hx
      | some b =>
        have hlt := (List.getElem?_eq_some_iff.1 hb).1
        by_cases hb2 : b < 128
        · have hv : validN b = true := by rw [validN_iff]; left; omega
          have hx2 : ∀ v, Ext st.nx st ⟨s.nx, s.h.set st.nx v⟩ := fun v => hx.set (Nat.le_refl _) hq v
          simp [evOp_call, T.get_set, g1, g45, nextK_lo hok (Nat.zero_le _) hit hb hb2]
          refine Gd.mono (rune_any _ b hv _) ?_
          rintro ⟨r, s2⟩ ⟨hr, x2⟩
          simp only at hr x2
          subst hr
          have hx3 := (hx2 _).trans (x2.mono hx.le)
          have hit2 := (x2.keep st.nx hq).trans (T.get_set_same _ _ _)
          by_cases hs : isSep b
          · have hp : 0 ≤ runeAt b := (runeAt_pos b).2 hs
            simp [evOp_call, T.get_set, hp]
            exact ⟨⟨b, List.mem_of_getElem? hb, hs⟩, hx3⟩
          · have hp : ¬ 0 ≤ runeAt b := fun h => hs ((runeAt_pos b).1 h)
            simp [evOp_call, T.get_set, hp]
            refine ⟨⟨k + 1, by simp [T.get_set, g1], by simp [T.get_set, g45], hit2, hx3, Nat.lt_of_lt_of_le hq x2.le, noSep_succ hno2 hb hs⟩, ?_⟩
            unfold itAt
            rw [hit, hit2]
            show l.length - (k + 1) < l.length - k
            omega
        · obtain ⟨d1, d2, d3, d4⟩ := decL_hi hb hb2
          have hx2 : ∀ v, Ext st.nx st ⟨s.nx, s.h.set st.nx v⟩ := fun v => hx.set (Nat.le_refl _) hq v
          simp [evOp_call, T.get_set, g1, g45, nextK_hi hok (Nat.zero_le _) hit hb hb2]
          refine Gd.mono (rune_any _ _ d2 _) ?_
          rintro ⟨r, s2⟩ ⟨hr, x2⟩
          simp only at hr x2
          subst hr
          have hx3 := (hx2 _).trans (x2.mono hx.le)
          have hit2 := (x2.keep st.nx hq).trans (T.get_set_same _ _ _)
          have hp : ¬ 0 ≤ runeAt (decL l k).1 := fun h => by have := (runeAt_pos _).1 h; omega
          simp [evOp_call, T.get_set, hp]
          refine ⟨⟨k + (decL l k).2, by simp [T.get_set, g1], by simp [T.get_set, g45], hit2, hx3, Nat.lt_of_lt_of_le hq x2.le, fun x hx => ?_⟩, ?_⟩
          · obtain ⟨j, hj, e⟩ := List.getElem_of_mem hx
            rw [List.getElem_take] at e
            rw [List.length_take] at hj
            by_cases hjk : j < k
            · exact hno2 x (by rw [← e]; exact List.mem_take_iff_getElem.2 ⟨j, by omega, rfl⟩)
            · obtain ⟨y, hy, hy2⟩ := d4 j (by omega) (by omega)
              rw [List.getElem?_eq_getElem (by omega)] at hy
              injection hy with hy
              rw [← e, hy]
              unfold isSep
              omega
          · unfold itAt
            rw [hit, hit2]
            show l.length - (k + (decL l k).2) < l.length - k
            omega
theorem hasSep_iff (l : List Nat) : hasSep l ↔ (47 ∈ l ∨ 0 ∈ l) := by
  unfold hasSep isSep
  constructor
  · rintro ⟨b, hb, rfl | rfl⟩
    · exact .inl hb
    · exact .inr hb
  · rintro (h | h)
    · exact ⟨47, h, .inl rfl⟩
    · exact ⟨0, h, .inr rfl⟩
theorem contains_any (st : St) (l : List Nat) (hl : ∀ b ∈ l, b < 256) (hn : l.length ≤ 1073741824) (nt : Nat) : Gd (callL Try.prog ⟨false, [], 0, nt⟩ 135 [.s l, .s sep] st) fun x => x.1 = .bool (decide (47 ∈ l ∨ 0 ∈ l)) ∧ Ext st.nx st x.2 := by
  rw [Gd_callL Try.func135 rfl]
  simp [evOp_call, sets, T.get_set]
  refine Gd.mono (ixany_any st l hl hn _) ?_
  rintro ⟨r, s1⟩ ⟨⟨z, hr, hz⟩, x1⟩
  simp only at hr x1
  subst hr
  rw [hasSep_iff] at hz
  by_cases h : 0 ≤ z
  · have h2 := hz.1 h
    simp [T.get_set, h]
    exact ⟨by simpa using h2, x1⟩
  · have h2 : ¬ (47 ∈ l ∨ 0 ∈ l) := fun h3 => h (hz.2 h3)
    simp [T.get_set, h]
    exact ⟨by simpa using h2, x1⟩
end Go.Proofs.Ytdoennkmcloalaa

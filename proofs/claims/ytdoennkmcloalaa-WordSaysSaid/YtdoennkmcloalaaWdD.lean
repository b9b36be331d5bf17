/-
  Contracts of package word and of the document's own answer: bytes of words.
-/
import Derived.Test.YtdoennkmcloalaaWdC
set_option linter.unusedSimpArgs false
namespace Go.Proofs.Ytdoennkmcloalaa
open Go.RowKit Ev
def byteN (w : BitVec 64) (i : Nat) : Int := IntKind.u8.wrap ((w >>> (8 * i)).toNat : Int)
def bytesN (w : BitVec 64) (k : Nat) : List Int := (List.range k).map (byteN w)
def bytesL (L : List (BitVec 64)) : List Int := L.flatMap fun w => bytesN w 8
theorem bytesN_len (w : BitVec 64) (k : Nat) : (bytesN w k).length = k := by simp [bytesN]
theorem bytesN_succ (w : BitVec 64) (k : Nat) : bytesN w (k + 1) = bytesN w k ++ [byteN w k] := by simp [bytesN, List.range_succ]
theorem bytesL_len (L : List (BitVec 64)) : (bytesL L).length = 8 * L.length := by
  induction L with
  | nil => rfl
  | cons w L ih => show (bytesN w 8 ++ bytesL L).length = _; rw [List.length_append, bytesN_len, ih]; simp; omega
theorem bytesL_take {L : List (BitVec 64)} {i : Nat} {w : BitVec 64} (h : L[i]? = some w) : bytesL (L.take (i + 1)) = bytesL (L.take i) ++ bytesN w 8 := by
  rw [List.take_add_one, h]; simp [bytesL]
theorem bv_app (A B : List Int) : bv (A ++ B) = bv A ++ bv B := by simp [bv]
theorem bv_of {B : List Int} {j : Nat} {v : V} (h : (bv B)[j]? = some v) : ∃ b, B[j]? = some b ∧ v = .int .u8 b := by
  unfold bv at h
  rw [List.getElem?_map] at h
  cases hb : B[j]? with
  | none => rw [hb] at h; cases h
  | some b => rw [hb] at h; injection h with h; exact ⟨b, rfl, h.symm⟩
/-- a row with room for all that comes -/
def CapRow (b : Nat) (st : St) (x : V) (q : Nat) (B : List Int) : Prop := ∃ m ty t, x = .sl m 0 B.length q ∧ B.length ≤ q ∧ b ≤ m ∧ m < st.nx ∧ st.h.get m = some (.cs ty q t) ∧ ty ≠ roT ∧ ∀ j v, (bv B)[j]? = some v → t.get j = some v
theorem CapRow.ext {b : Nat} {st st' : St} {x : V} {q : Nat} {B : List Int} (h : CapRow b st x q B) (k : Ext st.nx st st') : CapRow b st' x q B := by
  obtain ⟨m, ty, t, e, h1, h2, h3, h4, h5⟩ := h
  exact ⟨m, ty, t, e, h1, h2, Nat.lt_of_lt_of_le h3 k.le, (k.keep m h3).trans h4, h5⟩
theorem CapRow.rd {b : Nat} {st : St} {x : V} {q : Nat} {B : List Int} (h : CapRow b st x q B) : RdRow st x 1 B.length (bv B) := by
  obtain ⟨m, ty, t, rfl, h1, h2, h3, h4, h5, h6⟩ := h
  exact ⟨by simp, .inr (.inl ⟨m, 0, q, ty, q, t, rfl, h3, h4, by omega, fun j v hj => by rw [Nat.zero_add]; exact h6 j v hj⟩)⟩
theorem Gd_capush {P : Program} {st : St} {t t' el el' b q z nt : Nat} {x : V} {B : List Int} {w : Int} {Q : V × St → Prop} (hu : P.underlying t = some (.slice el)) (hk : P.underlying t' = some (.slice el')) (hi : infoOk P el 1 = true)
    (h : CapRow b st x q B) (hroom : B.length + 1 ≤ q) (hq : q ≤ 1073741824) (hf : ∀ k : List V → Res, firsts ⟨false, [], 0, nt⟩ st 1 1 (.sl z 0 1 1) k = k [.int .u8 w])
    (hQ : ∀ x' st', CapRow b st' x' q (B ++ [w]) → Ext b st st' → Q (x', st')) : Gd (builtinE P ⟨false, [], 0, nt⟩ .append [t, t'] [x, .sl z 0 1 1] st) Q := by
  obtain ⟨m, ty, tr, rfl, h1, h2, h3, h4, h5, h6⟩ := h
  have e1 : builtinE P ⟨false, [], 0, nt⟩ .append [t, t'] [.sl m 0 B.length q, .sl z 0 1 1] st = appE ⟨false, [], 0, nt⟩ st el 1 B.length 1 (.sl m 0 B.length q) [.int .u8 w] := by
    have hsm : small P el (B.length + 1) = true := infoOk_small hi (by omega)
    unfold builtinE
    simp only [elemOf_ok hu hi, hk, lenA_sl, hf, hsm]
  rw [e1]
  unfold appE
  rw [fn_eq]
  have hble : Nat.ble (B.length + 1) q = true := by rw [Nat.ble_eq]; exact hroom
  simp only [hble, fn_eq]
  rw [putB_eq, h4]
  have hc : 0 + B.length * 1 + ([V.int .u8 w] : List V).length ≤ q ∧ ty ≠ roT ∧ 0 ≤ m := ⟨by simp; omega, h5, Nat.zero_le _⟩
  simp only [ok_top, inF_nil, Bool.not_false, cond_true, Option.bind_some, csK_cs, if_pos hc]
  refine ⟨_, rfl, hQ _ _ ⟨m, ty, sets [.int .u8 w] (0 + B.length * 1) tr, by simp, by simp; omega, h2, h3, T.get_set_same _ _ _, h5, fun j v hj => ?_⟩ ((Ext.refl b st).set h2 h3 _)⟩
  obtain ⟨b', hb', rfl⟩ := bv_of hj
  rw [get_sets]
  rcases Nat.lt_or_ge j B.length with h1 | h1
  · rw [if_neg (by omega)]
    rw [List.getElem?_append_left h1] at hb'
    exact h6 j _ (bv_get hb')
  · have hl := lt_of_get hb'
    simp at hl
    obtain rfl : j = B.length := by omega
    rw [if_pos (by simp)]
    simp at hb'
    subst hb'
    simp
theorem conv_byte (c : Cx) (st : St) (w : BitVec 64) (k : Nat) : convE Try.prog c st 24 5 (wd (w >>> (8 * k))) = some (.int .u8 (byteN w k), st) := conv_int (by rw [un24]; rfl) un5 _
def byI (st : St) (y : V) (L : List (BitVec 64)) (e : Env) (s : St) : Prop := ∃ (i : Nat) (x : V), i ≤ L.length ∧ e.get 11 = some y ∧ e.get 12 = some (.int .i64 (L.length : Int)) ∧ e.get 13 = some (.int .i64 (i : Int)) ∧ e.get 3 = some x ∧ CapRow st.nx s x (8 * L.length) (bytesL (L.take i)) ∧ Ext st.nx st s
def byJ (st : St) (y : V) (L : List (BitVec 64)) (i : Nat) (w : BitVec 64) (e : Env) (s : St) : Prop := ∃ (k : Nat) (x : V), k ≤ 8 ∧ e.get 11 = some y ∧ e.get 12 = some (.int .i64 (L.length : Int)) ∧ e.get 13 = some (.int .i64 (i : Int)) ∧ e.get 5 = some (wd w) ∧ e.get 17 = some (.int .i64 (k : Int)) ∧ e.get 3 = some x ∧ CapRow st.nx s x (8 * L.length) (bytesL (L.take i) ++ bytesN w k) ∧ Ext st.nx st s
set_option maxRecDepth 20000 in
set_option maxHeartbeats 4000000 in
theorem bytes_any (st : St) (y : V) (L : List (BitVec 64)) (hy : RdRow st y 1 L.length (wv L)) (hL : L.length ≤ 100000) (nt : Nat) :
    Gd (callL Try.prog ⟨false, [], 0, nt⟩ 24 [y] st) fun r => RdRow r.2 r.1 1 (8 * L.length) (bv (bytesL L)) ∧ CapOk r.1 ∧ RowFrom st.nx r.1 ∧ Ext st.nx st r.2 := by
  rw [Gd_callL Try.func24 rfl]
  have w0 : IntKind.i64.wrap (8 * (L.length : Int)) = 8 * (L.length : Int) := wrap_in (by omega) (by omega)
  simp [evOp_call, sets, T.get_set, hy.lenS, w0]
  refine Gd_make (n := 0) (q := 8 * L.length) (i := .i64) (i' := .i64) (zs := [.int .u8 0]) (fun k => el22 k) io5 (fun k => ze5 k) (by simp [T.get_set]) (by simp [T.get_set, w0]) (Nat.zero_le _) (by omega) ?_
  have hrl : (rep [V.int .u8 0] (8 * L.length)).length = 8 * L.length := by
    have : ∀ n, (rep [V.int .u8 0] n).length = n := fun n => by
      induction n with
      | zero => rfl
      | succ n ih => show ([V.int .u8 0] ++ rep [V.int .u8 0] n).length = _; simp [ih]
    exact this _
  rw [hrl]
  generalize hS : (⟨st.nx + 1, _⟩ : St) = s1
  have x1 : Ext st.nx st s1 := by rw [← hS]; exact (Ext.refl _ _).new (Nat.le_refl _) _
  have c1 : CapRow st.nx s1 (.sl st.nx 0 0 (8 * L.length)) (8 * L.length) [] := by
    rw [← hS]
    exact ⟨st.nx, _, _, rfl, Nat.zero_le _, Nat.le_refl _, Nat.lt_succ_self _, T.get_set_same _ _ _, by decide, fun j v hj => by simp [bv] at hj⟩
  have hy1 := hy.ext x1
  simp [evOp_call, sets, T.get_set, hy1.lenS]
  refine Gd_loop (byI st y L) (fun en _ => muAt 13 L.length en) ?_ ?_
  · exact ⟨0, _, Nat.zero_le _, by simp [T.get_set], by simp [T.get_set], by simp [T.get_set], by simp [T.get_set], c1, x1⟩
  · rintro en sx ⟨i, x, hi, g11, g12, g13, g3, hrow, hx⟩
    by_cases hlt : i < L.length
    · have hlt' : (i : Int) < (L.length : Int) := by omega
      have w1 : IntKind.i64.wrap ((i : Int) + 1) = ((i + 1 : Nat) : Int) := by rw [show ((i : Int) + 1) = ((i + 1 : Nat) : Int) by omega]; exact wrap_in (by omega) (by omega)
      obtain ⟨w, hw⟩ : ∃ w, L[i]? = some w := ⟨_, List.getElem?_eq_getElem hlt⟩
      obtain ⟨m, o, ty, sz, tr, hid, hm, hg, ho, hc⟩ := (hy.ext hx).idx (st := sx) un23 io24 hlt
      have t0 : tr.get o = some (wd w) := hc 0 _ (by omega) (by simpa using wv_get hw)
      simp [evOp_call, T.get_set, g11, g12, g13, g3, hlt', hid, loadE_eq, getC_eq, hg, t0]
      refine Gd_loop (byJ st y L i w) (fun en _ => muAt 17 8 en) ?_ ?_
      · exact ⟨0, x, by omega, by simp [T.get_set, g11], by simp [T.get_set, g12], by simp [T.get_set, g13], by simp [T.get_set], by simp [T.get_set], by simp [T.get_set, g3], by simpa [bytesN] using hrow, hx⟩
      · clear g11 g12 g3 hrow hx hg t0
        rintro e2 s2 ⟨k, x, hk, g11, g12, g13', g5, g17, g3, hrow, hx⟩
        by_cases hk8 : k < 8
        · have hk8' : (k : Int) < 8 := by omega
          have w2 : IntKind.i64.wrap ((k : Int) + 1) = ((k + 1 : Nat) : Int) := by rw [show ((k : Int) + 1) = ((k + 1 : Nat) : Int) by omega]; exact wrap_in (by omega) (by omega)
          have w3 : IntKind.i64.wrap (8 * (k : Int)) = 8 * (k : Int) := wrap_in (by omega) (by omega)
          have h8 : (0 : Int) ≤ 8 * (k : Int) := by omega
          have h9 : (8 * (k : Int)).toNat = 8 * k := by omega
          simp [evOp_call, T.get_set, g11, g12, g13', g5, g17, g3, hk8', w3, h8, h9, conv_byte]
          refine evOp_build1 (v := .int .u8 (byteN w k)) (cs := [.int .u8 (byteN w k)]) (fun k => el22 k) (fun k => ze5 k) rfl (by omega) (by simp [T.get_set]) (fun k => rfl) rfl ?_
          simp [evOp_call, T.get_set, g11, g12, g13', g5, g17, g3]
          have hlB : (bytesL (L.take i) ++ bytesN w k).length = 8 * i + k := by rw [List.length_append, bytesL_len, bytesN_len, List.length_take]; omega
          have hbx := hx.le
          refine Gd_capush (w := byteN w k) un22 un22 io5 (hrow.ext ((Ext.refl _ _).new (Nat.le_refl _) _)) (by rw [hlB]; omega) (by omega) (fun k => by simp [getC_eq, getsB_1, T.get_set, sets]) ?_
          intro z s3 hz hx3
          simp [evOp_call, T.get_set, g17, w2]
          refine ⟨⟨k + 1, z, by omega, by simp [T.get_set, g11], by simp [T.get_set, g12], by simp [T.get_set, g13'], by simp [T.get_set, g5], by simp [T.get_set], by simp [T.get_set], ?_, (hx.new hbx _).trans hx3⟩, muAt_lt g17 (by simp [T.get_set]) hk8⟩
          rw [bytesN_succ, ← List.append_assoc]
          exact hz
        · obtain rfl : k = 8 := by omega
          simp [evOp_call, T.get_set, g11, g12, g13', g5, g17, g3, w1]
          refine ⟨⟨i + 1, x, hlt, by simp [T.get_set, g11], by simp [T.get_set, g12], by simp [T.get_set], by simp [T.get_set, g3], by rw [bytesL_take hw]; exact hrow, hx⟩, muAt_lt g13 (by simp [T.get_set]) hlt⟩
    · obtain rfl : i = L.length := by omega
      rw [List.take_length] at hrow
      simp [evOp_call, T.get_set, g11, g12, g13, g3]
      have hb := bytesL_len L
      refine ⟨by have := hrow.rd; rw [hb] at this; exact this, ?_, ?_, hx⟩
      · obtain ⟨m, ty, t, rfl, h1, _⟩ := hrow
        exact fun _ _ _ _ e => by injection e with _ _ e3 e4; omega
      · obtain ⟨m, ty, t, rfl, h1, h2, _⟩ := hrow
        exact ⟨fun _ _ _ _ e => (by cases e), fun _ _ _ _ e => (by injection e with e; omega)⟩
end Go.Proofs.Ytdoennkmcloalaa

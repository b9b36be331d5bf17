/-
  The document's own words of bytes and bytes of words (texts WdC to WdE, in a namespace of their own).
-/
import Derived.Test.YtdoennkmcloalaaTyWd
import Derived.Test.YtdoennkmcloalaaSc
import Derived.Test.YtdoennkmcloalaaMid
set_option linter.unusedSimpArgs false
set_option linter.unusedVariables false
namespace Go.Proofs.Ytdoennkmcloalaa.W
open Go.RowKit Ev
def bv (B : List Int) : List V := B.map fun b => .int .u8 b
@[simp] theorem bv_length (B : List Int) : (bv B).length = B.length := by simp [bv]
theorem bv_get {B : List Int} {i : Nat} {b : Int} (h : B[i]? = some b) : (bv B)[i]? = some (.int .u8 b) := by unfold bv; rw [List.getElem?_map, h]; rfl
/-- a part of a row -/
theorem row_mid {P : Program} {st : St} {t el n : Nat} {x : V} {l : List V} (a b : Nat) (hu : P.underlying t = some (.slice el)) (hi : infoOk P el 1 = true) (h : RdRow st x 1 n l) (hc : CapOk x) (hab : a < b) (hb : b ≤ n) :
    ∃ x', (∀ (e : Env) (o o2 : Operand) (i i2 : IntKind), opv e o = some (.int i (a : Int)) → opv e o2 = some (.int i2 (b : Int)) → ∀ kk : V → Res, sliceE P e t x (some o) (some o2) kk = kk x') ∧ RdRow st x' 1 (b - a) ((l.take b).drop a) := by
  obtain ⟨h1, h2⟩ := h
  have hl : ((l.take b).drop a).length = (b - a) * 1 := by rw [List.length_drop, List.length_take]; omega
  have hg : ∀ j v, ((l.take b).drop a)[j]? = some v → l[a + j]? = some v := fun j v hj => by
    rw [List.getElem?_drop, List.getElem?_take] at hj
    split at hj
    · exact hj
    · cases hj
  rcases h2 with ⟨_, h2⟩ | ⟨m, o', q, ty, sz, tr, rfl, h3, h4, h5, h6⟩ | ⟨m, o', ty, sz, tr, rfl, h3, h4, h5, h6⟩
  · omega
  · refine ⟨.sl m (o' + a * 1) (b - a) (q - a), fun e o o2 i i2 hv hv2 kk => sliceE_midS hu hi hv hv2 m o' n q hab (by have := hc m o' n q rfl; omega) kk, hl, .inr (.inl ⟨m, o' + a * 1, q - a, ty, sz, tr, rfl, h3, h4, by omega, fun j v hj => ?_⟩)⟩
    have := h6 _ v (hg j v hj)
    rw [show o' + a * 1 + j = o' + (a + j) by omega]; exact this
  · refine ⟨.sg m (o' + a * 1) (b - a) 1, fun e o o2 i i2 hv hv2 kk => sliceE_midG hu hi hv hv2 m o' n hab hb kk, hl, .inr (.inr ⟨m, o' + a * 1, ty, sz, tr, rfl, h3, h4, by omega, fun j v hj => ?_⟩)⟩
    have := h6 _ v (hg j v hj)
    rw [show o' + a * 1 + j = o' + (a + j) by omega]; exact this
def byteW (B : List Int) (i : Nat) : BitVec 64 := BitVec.ofInt 64 (B[i]?.getD 0)
/-- the word that bytes make -/
def accW (B : List Int) (o : Nat) : Nat → BitVec 64
  | 0 => 0#64
  | i + 1 => accW B o i ||| byteW B (o + i) <<< (8 * i)
def raccW (B : List Int) (o : Nat) : Nat → BitVec 64
  | 0 => 0#64
  | i + 1 => raccW B o i <<< 8 ||| byteW B (o + (7 - i))
def hiW (B : List Int) (o : Nat) : Nat → BitVec 64
  | 0 => 0#64
  | i + 1 => hiW B o i ||| byteW B (o + (7 - i)) <<< (8 * (7 - i))
theorem racc_hi (B : List Int) (o : Nat) : ∀ i, i ≤ 8 → raccW B o i <<< (8 * (8 - i)) = hiW B o i
  | 0, _ => by show 0#64 <<< _ = 0#64; exact BitVec.zero_shiftLeft ..
  | i + 1, h => by
    have ih := racc_hi B o i (by omega)
    show (raccW B o i <<< 8 ||| byteW B (o + (7 - i))) <<< (8 * (8 - (i + 1))) = hiW B o i ||| _
    rw [BitVec.shiftLeft_or_distrib, ← BitVec.shiftLeft_add, show 8 + 8 * (8 - (i + 1)) = 8 * (8 - i) by omega, ih, show 8 - (i + 1) = 7 - i by omega]
theorem or8 (t0 t1 t2 t3 t4 t5 t6 t7 z : BitVec 64) : z ||| t7 ||| t6 ||| t5 ||| t4 ||| t3 ||| t2 ||| t1 ||| t0 = z ||| t0 ||| t1 ||| t2 ||| t3 ||| t4 ||| t5 ||| t6 ||| t7 := by ac_rfl
theorem acc_racc (B : List Int) (o : Nat) : raccW B o 8 = accW B o 8 := by
  have h := racc_hi B o 8 (Nat.le_refl _)
  have e : raccW B o 8 <<< (8 * (8 - 8)) = raccW B o 8 := BitVec.shiftLeft_zero ..
  rw [e] at h
  rw [h]
  exact or8 (byteW B (o + 0) <<< (8 * 0)) (byteW B (o + 1) <<< (8 * 1)) (byteW B (o + 2) <<< (8 * 2)) (byteW B (o + 3) <<< (8 * 3)) (byteW B (o + 4) <<< (8 * 4)) (byteW B (o + 5) <<< (8 * 5)) (byteW B (o + 6) <<< (8 * 6)) (byteW B (o + 7) <<< (8 * 7)) 0#64
def inB (B : List Int) (k : Int) : Prop := 0 ≤ k ∧ k < (B.length : Int) / 8
instance (B : List Int) (k : Int) : Decidable (inB B k) := by unfold inB; infer_instance
def getF (B : List Int) (k : Int) : BitVec 64 := if inB B k then accW B (8 * k.toNat) 8 else 0#64
theorem len8 (B : List Int) (hB : B.length ≤ 1000000) : ((B.length : Int)).tdiv 8 = (B.length : Int) / 8 := Int.tdiv_eq_ediv_of_nonneg (by omega)
theorem has_any (c : Cx) (st : St) (x : V) (B : List Int) (hx : RdRow st x 1 B.length (bv B)) (hB : B.length ≤ 1000000) (k : Int) : Gd (callL Try.prog c 116 [x, .int .i64 k] st) fun r => r = (.bool (decide (inB B k)), st) := by
  rw [Gd_callL Try.func116 rfl]
  unfold inB
  have h0 : ¬ (8 : Int) = 0 := by decide
  have w1 : IntKind.i64.wrap ((B.length : Int) / 8) = (B.length : Int) / 8 := wrap_in (by omega) (by omega)
  by_cases h1 : 0 ≤ k
  · simp [evOp_call, sets, T.get_set, h1, hx.lenS, len8 B hB, w1, h0]
  · simp [evOp_call, sets, T.get_set, h1]
def wgI (st : St) (y : V) (B : List Int) (o : Nat) (e : Env) (s : St) : Prop := ∃ i : Nat, i ≤ 8 ∧ e.get 18 = some y ∧ e.get 19 = some (.int .i64 8) ∧ e.get 20 = some (.int .i64 (i : Int)) ∧ e.get 5 = some (wd (accW B o i)) ∧ s = st
set_option maxRecDepth 20000 in
set_option maxHeartbeats 4000000 in
theorem get_any (st : St) (x : V) (B : List Int) (hx : RdRow st x 1 B.length (bv B)) (hcap : CapOk x) (hB : B.length ≤ 1000000) (k : Int) (nt : Nat) :
    Gd (callL Try.prog ⟨false, [], 0, nt⟩ 22 [x, .int .i64 k] st) fun r => r = (wd (getF B k), st) := by
  rw [Gd_callL Try.func22 rfl]
  simp [evOp_call, sets, T.get_set]
  refine Gd.mono (has_any _ st x B hx hB k) ?_
  rintro _ rfl
  unfold getF
  by_cases h : inB B k
  case neg => simp [evOp_call, sets, T.get_set, h]
  obtain ⟨h1, h2⟩ := h
  have h : inB B k := ⟨h1, h2⟩
  obtain ⟨n, rfl⟩ : ∃ n : Nat, k = (n : Int) := ⟨k.toNat, by omega⟩
  have hn : 8 * n + 8 ≤ B.length := by omega
  have w1 : IntKind.i64.wrap (8 * (n : Int)) = ((8 * n : Nat) : Int) := by rw [show 8 * (n : Int) = ((8 * n : Nat) : Int) by omega]; exact wrap_in (by omega) (by omega)
  have w1' : IntKind.i64.wrap (8 * (n : Int)) = 8 * (n : Int) := wrap_in (by omega) (by omega)
  have w2' : IntKind.i64.wrap (8 * (n : Int) + 8) = 8 * (n : Int) + 8 := wrap_in (by omega) (by omega)
  have w2 : IntKind.i64.wrap (((8 * n : Nat) : Int) + 8) = ((8 * n + 8 : Nat) : Int) := by rw [show ((8 * n : Nat) : Int) + 8 = ((8 * n + 8 : Nat) : Int) by omega]; exact wrap_in (by omega) (by omega)
  obtain ⟨y, e1, e2⟩ := row_mid (8 * n) (8 * n + 8) un22 io5 hx hcap (by omega) hn
  rw [show 8 * n + 8 - 8 * n = 8 by omega] at e2
  simp [evOp_call, sets, T.get_set, h, w1]
  unfold sliceK
  rw [e1 _ _ _ .i64 .i64 (by simp [T.get_set, w1']) (by simp [T.get_set, w1', w2'])]
  simp [evOp_call, sets, T.get_set, e2.lenS]
  refine Gd_loop (wgI st y B (8 * n)) (fun en _ => muAt 20 8 en) ?_ ?_
  · exact ⟨0, by omega, by simp [T.get_set], by simp [T.get_set], by simp [T.get_set], by simp [T.get_set, accW], rfl⟩
  · rintro en s ⟨i, hi, g18, g19, g20, g5, rfl⟩
    by_cases hlt : i < 8
    · have hlt' : (i : Int) < 8 := by omega
      have w3 : IntKind.i64.wrap ((i : Int) + 1) = ((i + 1 : Nat) : Int) := by rw [show ((i : Int) + 1) = ((i + 1 : Nat) : Int) by omega]; exact wrap_in (by omega) (by omega)
      have w4 : IntKind.i64.wrap (8 * (i : Int)) = 8 * (i : Int) := wrap_in (by omega) (by omega)
      have h8 : (0 : Int) ≤ 8 * (i : Int) := by omega
      have h9 : (8 * (i : Int)).toNat = 8 * i := by omega
      obtain ⟨b, hb⟩ : ∃ b, B[8 * n + i]? = some b := ⟨_, List.getElem?_eq_getElem (by omega)⟩
      obtain ⟨m, o, ty, sz, tr, hid, hm, hg, ho, hc⟩ := e2.idx (st := s) un22 io5 hlt
      have t0 : tr.get o = some (.int .u8 b) := hc 0 _ (by omega) (by
        rw [List.getElem?_drop, List.getElem?_take, if_pos (by omega), show 8 * n + (i * 1 + 0) = 8 * n + i by omega]
        exact bv_get hb)
      have hby : byteW B (8 * n + i) = BitVec.ofInt 64 b := by unfold byteW; rw [hb]; rfl
      simp [evOp_call, T.get_set, g18, g19, g20, g5, hlt', hid, loadE_eq, getC_eq, hg, t0, un24, w3, w4, h8, h9]
      exact ⟨⟨i + 1, hlt, by simp [T.get_set, g18], by simp [T.get_set, g19], by simp [T.get_set], by simp [T.get_set, accW, hby], rfl⟩, muAt_lt g20 (by simp [T.get_set]) hlt⟩
    · obtain rfl : i = 8 := by omega
      simp [evOp_call, T.get_set, g18, g19, g20, g5, h]
def rgI (st : St) (x : V) (k : Nat) (B : List Int) (e : Env) (s : St) : Prop := ∃ i : Nat, i ≤ 8 ∧ e.get 0 = some x ∧ e.get 1 = some (.int .i64 (k : Int)) ∧ e.get 6 = some (.int .i64 (7 - (i : Int))) ∧ e.get 5 = some (wd (raccW B (8 * k) i)) ∧ s = st
noncomputable def left8 (e : Env) : Nat := match e.get 6 with
  | some (.c (.int _ n)) => (n + 1).toNat
  | _ => 0
set_option maxRecDepth 20000 in
set_option maxHeartbeats 4000000 in
theorem rget_any (st : St) (x : V) (B : List Int) (hx : RdRow st x 1 B.length (bv B)) (hB : B.length ≤ 1000000) (k : Int) (nt : Nat) :
    Gd (callL Try.prog ⟨false, [], 0, nt⟩ 23 [x, .int .i64 k] st) fun r => r = (wd (getF B k), st) := by
  rw [Gd_callL Try.func23 rfl]
  have h0 : ¬ (8 : Int) = 0 := by decide
  have w0 : IntKind.i64.wrap ((B.length : Int) / 8) = (B.length : Int) / 8 := wrap_in (by omega) (by omega)
  unfold getF inB
  by_cases c1 : k < 0
  · have c1' : ¬ 0 ≤ k := by omega
    simp [evOp_call, sets, T.get_set, c1, c1']
  have c1' : 0 ≤ k := by omega
  by_cases c2 : (B.length : Int) / 8 ≤ k
  · have c2' : ¬ k < (B.length : Int) / 8 := by omega
    simp [evOp_call, sets, T.get_set, c1, c2, c2', hx.lenS, len8 B hB, w0, h0]
  have c2' : k < (B.length : Int) / 8 := by omega
  obtain ⟨n, rfl⟩ : ∃ n : Nat, k = (n : Int) := ⟨k.toNat, by omega⟩
  have hn : 8 * n + 8 ≤ B.length := by omega
  simp [evOp_call, sets, T.get_set, c1, c2, c2', hx.lenS, len8 B hB, w0, h0]
  refine Gd_loop (rgI st x n B) (fun en _ => left8 en) ?_ ?_
  · exact ⟨0, by omega, by simp [T.get_set], by simp [T.get_set], by simp [T.get_set], by simp [T.get_set, raccW], rfl⟩
  · rintro en s ⟨i, hi, g0, g1, g6, g5, rfl⟩
    by_cases hlt : i < 8
    · have c3 : (0 : Int) ≤ 7 - (i : Int) := by omega
      have w1 : IntKind.i64.wrap (8 * (n : Int)) = 8 * (n : Int) := wrap_in (by omega) (by omega)
      have w2 : IntKind.i64.wrap (8 * (n : Int) + (7 - (i : Int))) = ((8 * n + (7 - i) : Nat) : Int) := by rw [show 8 * (n : Int) + (7 - (i : Int)) = ((8 * n + (7 - i) : Nat) : Int) by omega]; exact wrap_in (by omega) (by omega)
      have w3 : IntKind.i64.wrap (7 - (i : Int) - 1) = 7 - ((i + 1 : Nat) : Int) := by rw [show 7 - (i : Int) - 1 = 7 - ((i + 1 : Nat) : Int) by omega]; exact wrap_in (by omega) (by omega)
      obtain ⟨b, hb⟩ : ∃ b, B[8 * n + (7 - i)]? = some b := ⟨_, List.getElem?_eq_getElem (by omega)⟩
      obtain ⟨m, o, ty, sz, tr, hid, hm, hg, ho, hc⟩ := hx.idx (st := s) un22 io5 (i := 8 * n + (7 - i)) (by omega)
      have t0 : tr.get o = some (.int .u8 b) := hc 0 _ (by omega) (by simpa using bv_get hb)
      have hby : byteW B (8 * n + (7 - i)) = BitVec.ofInt 64 b := by unfold byteW; rw [hb]; rfl
      have c3' : (i : Int) ≤ 7 := by omega
      have has8 : ∀ f : Nat → Res, asNat (.int .i64 (8 * (n : Int) + ((7 - i : Nat) : Int))) f = f (8 * n + (7 - i)) := fun f => by
        rw [show 8 * (n : Int) + ((7 - i : Nat) : Int) = ((8 * n + (7 - i) : Nat) : Int) by omega]
        exact asNat_cast ..
      simp [evOp_call, T.get_set, g0, g1, g6, g5, c3, c3', w1, w2, hid, loadE_eq, getC_eq, hg, t0, un24, w3, has8]
      refine ⟨⟨i + 1, hlt, by simp [T.get_set, g0], by simp [T.get_set, g1], by simp [T.get_set], ?_, rfl⟩, ?_⟩
      · simp [T.get_set, raccW, hby]
      · unfold left8
        simp [T.get_set, g6]
        omega
    · obtain rfl : i = 8 := by omega
      have hr := acc_racc B (8 * n)
      rw [hr] at g5
      simp [evOp_call, T.get_set, g0, g1, g6, g5]
def byteN (w : BitVec 64) (i : Nat) : Int := IntKind.u8.wrap ((w >>> (8 * i)).toNat : Int)
def bytesN (w : BitVec 64) (k : Nat) : List Int := (List.range k).map (byteN w)
def bytesL (L : List (BitVec 64)) : List Int := L.flatMap fun w => bytesN w 8
theorem bytesN_len (w : BitVec 64) (k : Nat) : (bytesN w k).length = k := by simp [bytesN]
theorem bytesN_succ (w : BitVec 64) (k : Nat) : bytesN w (k + 1) = bytesN w k ++ [byteN w k] := by simp [bytesN, List.range_succ]
theorem bytesL_len (L : List (BitVec 64)) : (bytesL L).length = 8 * L.length := by
  induction L with
  | nil => rfl
  | cons w L ih => show (bytesN w 8 ++ bytesL L).length = _; rw [List.length_append, bytesN_len, ih]; simp; omega
theorem bytesL_take {L : List (BitVec 64)} {i : Nat} {w : BitVec 64} (h : L[i]? = some w) : bytesL (L.take (i + 1)) = bytesL (L.take i) ++ bytesN w 8 := by
  rw [List.take_add_one, h]; simp [bytesL]
theorem bv_app (A B : List Int) : bv (A ++ B) = bv A ++ bv B := by simp [bv]
theorem bv_of {B : List Int} {j : Nat} {v : V} (h : (bv B)[j]? = some v) : ∃ b, B[j]? = some b ∧ v = .int .u8 b := by
  unfold bv at h
  rw [List.getElem?_map] at h
  cases hb : B[j]? with
  | none => rw [hb] at h; cases h
  | some b => rw [hb] at h; injection h with h; exact ⟨b, rfl, h.symm⟩
/-- a row with room for all that comes -/
def CapRow (b : Nat) (st : St) (x : V) (q : Nat) (B : List Int) : Prop := ∃ m ty t, x = .sl m 0 B.length q ∧ B.length ≤ q ∧ b ≤ m ∧ m < st.nx ∧ st.h.get m = some (.cs ty q t) ∧ ty ≠ roT ∧ ∀ j v, (bv B)[j]? = some v → t.get j = some v
theorem CapRow.ext {b : Nat} {st st' : St} {x : V} {q : Nat} {B : List Int} (h : CapRow b st x q B) (k : Ext st.nx st st') : CapRow b st' x q B := by
  obtain ⟨m, ty, t, e, h1, h2, h3, h4, h5⟩ := h
  exact ⟨m, ty, t, e, h1, h2, Nat.lt_of_lt_of_le h3 k.le, (k.keep m h3).trans h4, h5⟩
theorem CapRow.rd {b : Nat} {st : St} {x : V} {q : Nat} {B : List Int} (h : CapRow b st x q B) : RdRow st x 1 B.length (bv B) := by
  obtain ⟨m, ty, t, rfl, h1, h2, h3, h4, h5, h6⟩ := h
  exact ⟨by simp, .inr (.inl ⟨m, 0, q, ty, q, t, rfl, h3, h4, by omega, fun j v hj => by rw [Nat.zero_add]; exact h6 j v hj⟩)⟩
theorem Gd_capush {P : Program} {st : St} {t t' el el' b q z nt : Nat} {x : V} {B : List Int} {w : Int} {Q : V × St → Prop} (hu : P.underlying t = some (.slice el)) (hk : P.underlying t' = some (.slice el')) (hi : infoOk P el 1 = true)
    (h : CapRow b st x q B) (hroom : B.length + 1 ≤ q) (hq : q ≤ 1073741824) (hf : ∀ k : List V → Res, firsts ⟨false, [], 0, nt⟩ st 1 1 (.sl z 0 1 1) k = k [.int .u8 w])
    (hQ : ∀ x' st', CapRow b st' x' q (B ++ [w]) → Ext b st st' → Q (x', st')) : Gd (builtinE P ⟨false, [], 0, nt⟩ .append [t, t'] [x, .sl z 0 1 1] st) Q := by
  obtain ⟨m, ty, tr, rfl, h1, h2, h3, h4, h5, h6⟩ := h
  have e1 : builtinE P ⟨false, [], 0, nt⟩ .append [t, t'] [.sl m 0 B.length q, .sl z 0 1 1] st = appE ⟨false, [], 0, nt⟩ st el 1 B.length 1 (.sl m 0 B.length q) [.int .u8 w] := by
    have hsm : small P el (B.length + 1) = true := infoOk_small hi (by omega)
    unfold builtinE
    simp only [elemOf_ok hu hi, hk, lenA_sl, hf, hsm]
  rw [e1]
  unfold appE
  rw [fn_eq]
  have hble : Nat.ble (B.length + 1) q = true := by rw [Nat.ble_eq]; exact hroom
  simp only [hble, fn_eq]
  rw [putB_eq, h4]
  have hc : 0 + B.length * 1 + ([V.int .u8 w] : List V).length ≤ q ∧ ty ≠ roT ∧ 0 ≤ m := ⟨by simp; omega, h5, Nat.zero_le _⟩
  simp only [ok_top, inF_nil, Bool.not_false, cond_true, Option.bind_some, csK_cs, if_pos hc]
  refine ⟨_, rfl, hQ _ _ ⟨m, ty, sets [.int .u8 w] (0 + B.length * 1) tr, by simp, by simp; omega, h2, h3, T.get_set_same _ _ _, h5, fun j v hj => ?_⟩ ((Ext.refl b st).set h2 h3 _)⟩
  obtain ⟨b', hb', rfl⟩ := bv_of hj
  rw [get_sets]
  rcases Nat.lt_or_ge j B.length with h1 | h1
  · rw [if_neg (by omega)]
    rw [List.getElem?_append_left h1] at hb'
    exact h6 j _ (bv_get hb')
  · have hl := lt_of_get hb'
    simp at hl
    obtain rfl : j = B.length := by omega
    rw [if_pos (by simp)]
    simp at hb'
    subst hb'
    simp
theorem conv_byte (c : Cx) (st : St) (w : BitVec 64) (k : Nat) : convE Try.prog c st 24 5 (wd (w >>> (8 * k))) = some (.int .u8 (byteN w k), st) := conv_int (by rw [un24]; rfl) un5 _
def byI (st : St) (y : V) (L : List (BitVec 64)) (e : Env) (s : St) : Prop := ∃ (i : Nat) (x : V), i ≤ L.length ∧ e.get 11 = some y ∧ e.get 12 = some (.int .i64 (L.length : Int)) ∧ e.get 13 = some (.int .i64 (i : Int)) ∧ e.get 3 = some x ∧ CapRow st.nx s x (8 * L.length) (bytesL (L.take i)) ∧ Ext st.nx st s
def byJ (st : St) (y : V) (L : List (BitVec 64)) (i : Nat) (w : BitVec 64) (e : Env) (s : St) : Prop := ∃ (k : Nat) (x : V), k ≤ 8 ∧ e.get 11 = some y ∧ e.get 12 = some (.int .i64 (L.length : Int)) ∧ e.get 13 = some (.int .i64 (i : Int)) ∧ e.get 5 = some (wd w) ∧ e.get 17 = some (.int .i64 (k : Int)) ∧ e.get 3 = some x ∧ CapRow st.nx s x (8 * L.length) (bytesL (L.take i) ++ bytesN w k) ∧ Ext st.nx st s
set_option maxRecDepth 20000 in
set_option maxHeartbeats 4000000 in
theorem bytes_any (st : St) (y : V) (L : List (BitVec 64)) (hy : RdRow st y 1 L.length (wv L)) (hL : L.length ≤ 100000) (nt : Nat) :
    Gd (callL Try.prog ⟨false, [], 0, nt⟩ 24 [y] st) fun r => RdRow r.2 r.1 1 (8 * L.length) (bv (bytesL L)) ∧ CapOk r.1 ∧ RowFrom st.nx r.1 ∧ Ext st.nx st r.2 := by
  rw [Gd_callL Try.func24 rfl]
  have w0 : IntKind.i64.wrap (8 * (L.length : Int)) = 8 * (L.length : Int) := wrap_in (by omega) (by omega)
  simp [evOp_call, sets, T.get_set, hy.lenS, w0]
  refine Gd_make (n := 0) (q := 8 * L.length) (i := .i64) (i' := .i64) (zs := [.int .u8 0]) (fun k => el22 k) io5 (fun k => ze5 k) (by simp [T.get_set]) (by simp [T.get_set, w0]) (Nat.zero_le _) (by omega) ?_
  have hrl : (rep [V.int .u8 0] (8 * L.length)).length = 8 * L.length := by
    have : ∀ n, (rep [V.int .u8 0] n).length = n := fun n => by
      induction n with
      | zero => rfl
      | succ n ih => show ([V.int .u8 0] ++ rep [V.int .u8 0] n).length = _; simp [ih]
    exact this _
  rw [hrl]
  generalize hS : (⟨st.nx + 1, _⟩ : St) = s1
  have x1 : Ext st.nx st s1 := by rw [← hS]; exact (Ext.refl _ _).new (Nat.le_refl _) _
  have c1 : CapRow st.nx s1 (.sl st.nx 0 0 (8 * L.length)) (8 * L.length) [] := by
    rw [← hS]
    exact ⟨st.nx, _, _, rfl, Nat.zero_le _, Nat.le_refl _, Nat.lt_succ_self _, T.get_set_same _ _ _, by decide, fun j v hj => by simp [bv] at hj⟩
  have hy1 := hy.ext x1
  simp [evOp_call, sets, T.get_set, hy1.lenS]
  refine Gd_loop (byI st y L) (fun en _ => muAt 13 L.length en) ?_ ?_
  · exact ⟨0, _, Nat.zero_le _, by simp [T.get_set], by simp [T.get_set], by simp [T.get_set], by simp [T.get_set], c1, x1⟩
  · rintro en sx ⟨i, x, hi, g11, g12, g13, g3, hrow, hx⟩
    by_cases hlt : i < L.length
    · have hlt' : (i : Int) < (L.length : Int) := by omega
      have w1 : IntKind.i64.wrap ((i : Int) + 1) = ((i + 1 : Nat) : Int) := by rw [show ((i : Int) + 1) = ((i + 1 : Nat) : Int) by omega]; exact wrap_in (by omega) (by omega)
      obtain ⟨w, hw⟩ : ∃ w, L[i]? = some w := ⟨_, List.getElem?_eq_getElem hlt⟩
      obtain ⟨m, o, ty, sz, tr, hid, hm, hg, ho, hc⟩ := (hy.ext hx).idx (st := sx) un23 io24 hlt
      have t0 : tr.get o = some (wd w) := hc 0 _ (by omega) (by simpa using wv_get hw)
      simp [evOp_call, T.get_set, g11, g12, g13, g3, hlt', hid, loadE_eq, getC_eq, hg, t0]
      refine Gd_loop (byJ st y L i w) (fun en _ => muAt 17 8 en) ?_ ?_
      · exact ⟨0, x, by omega, by simp [T.get_set, g11], by simp [T.get_set, g12], by simp [T.get_set, g13], by simp [T.get_set], by simp [T.get_set], by simp [T.get_set, g3], by simpa [bytesN] using hrow, hx⟩
      · clear g11 g12 g3 hrow hx hg t0
        rintro e2 s2 ⟨k, x, hk, g11, g12, g13', g5, g17, g3, hrow, hx⟩
        by_cases hk8 : k < 8
        · have hk8' : (k : Int) < 8 := by omega
          have w2 : IntKind.i64.wrap ((k : Int) + 1) = ((k + 1 : Nat) : Int) := by rw [show ((k : Int) + 1) = ((k + 1 : Nat) : Int) by omega]; exact wrap_in (by omega) (by omega)
          have w3 : IntKind.i64.wrap (8 * (k : Int)) = 8 * (k : Int) := wrap_in (by omega) (by omega)
          have h8 : (0 : Int) ≤ 8 * (k : Int) := by omega
          have h9 : (8 * (k : Int)).toNat = 8 * k := by omega
          simp [evOp_call, T.get_set, g11, g12, g13', g5, g17, g3, hk8', w3, h8, h9, conv_byte]
          refine evOp_build1 (v := .int .u8 (byteN w k)) (cs := [.int .u8 (byteN w k)]) (fun k => el22 k) (fun k => ze5 k) rfl (by omega) (by simp [T.get_set]) (fun k => rfl) rfl ?_
          simp [evOp_call, T.get_set, g11, g12, g13', g5, g17, g3]
          have hlB : (bytesL (L.take i) ++ bytesN w k).length = 8 * i + k := by rw [List.length_append, bytesL_len, bytesN_len, List.length_take]; omega
          have hbx := hx.le
          refine Gd_capush (w := byteN w k) un22 un22 io5 (hrow.ext ((Ext.refl _ _).new (Nat.le_refl _) _)) (by rw [hlB]; omega) (by omega) (fun k => by simp [getC_eq, getsB_1, T.get_set, sets]) ?_
          intro z s3 hz hx3
          simp [evOp_call, T.get_set, g17, w2]
          refine ⟨⟨k + 1, z, by omega, by simp [T.get_set, g11], by simp [T.get_set, g12], by simp [T.get_set, g13'], by simp [T.get_set, g5], by simp [T.get_set], by simp [T.get_set], ?_, (hx.new hbx _).trans hx3⟩, muAt_lt g17 (by simp [T.get_set]) hk8⟩
          rw [bytesN_succ, ← List.append_assoc]
          exact hz
        · obtain rfl : k = 8 := by omega
          simp [evOp_call, T.get_set, g11, g12, g13', g5, g17, g3, w1]
          refine ⟨⟨i + 1, x, hlt, by simp [T.get_set, g11], by simp [T.get_set, g12], by simp [T.get_set], by simp [T.get_set, g3], by rw [bytesL_take hw]; exact hrow, hx⟩, muAt_lt g13 (by simp [T.get_set]) hlt⟩
    · obtain rfl : i = L.length := by omega
      rw [List.take_length] at hrow
      simp [evOp_call, T.get_set, g11, g12, g13, g3]
      have hb := bytesL_len L
      refine ⟨by have := hrow.rd; rw [hb] at this; exact this, ?_, ?_, hx⟩
      · obtain ⟨m, ty, t, rfl, h1, _⟩ := hrow
        exact fun _ _ _ _ e => by injection e with _ _ e3 e4; omega
      · obtain ⟨m, ty, t, rfl, h1, h2, _⟩ := hrow
        exact ⟨fun _ _ _ _ e => (by cases e), fun _ _ _ _ e => (by injection e with e; omega)⟩
def rbI (st : St) (y : V) (L : List (BitVec 64)) (e : Env) (s : St) : Prop := ∃ (i : Nat) (x : V), i ≤ L.length ∧ e.get 0 = some y ∧ e.get 4 = some (.int .i64 (i : Int)) ∧ e.get 3 = some x ∧ OwnRow st.nx s x 1 (bytesL (L.take i)).length (bv (bytesL (L.take i))) ∧ Ext st.nx st s
def rbJ (st : St) (y : V) (L : List (BitVec 64)) (i : Nat) (w : BitVec 64) (e : Env) (s : St) : Prop := ∃ (k : Nat) (x : V), k ≤ 8 ∧ e.get 0 = some y ∧ e.get 4 = some (.int .i64 (i : Int)) ∧ e.get 5 = some (.int .i64 (k : Int)) ∧ e.get 3 = some x ∧ OwnRow st.nx s x 1 (bytesL (L.take i) ++ bytesN w k).length (bv (bytesL (L.take i) ++ bytesN w k)) ∧ Ext st.nx st s
set_option maxRecDepth 20000 in
set_option maxHeartbeats 4000000 in
theorem rbytes_any (st : St) (y : V) (L : List (BitVec 64)) (hy : RdRow st y 1 L.length (wv L)) (hL : L.length ≤ 100000) (nt : Nat) :
    Gd (callL Try.prog ⟨false, [], 0, nt⟩ 25 [y] st) fun r => OwnRow st.nx r.2 r.1 1 (bytesL L).length (bv (bytesL L)) ∧ Ext st.nx st r.2 := by
  rw [Gd_callL Try.func25 rfl]
  simp [evOp_call, sets, T.get_set]
  refine Gd_loop (rbI st y L) (fun en _ => muAt 4 L.length en) ?_ ?_
  · exact ⟨0, _, Nat.zero_le _, by simp [T.get_set], by simp [T.get_set], by simp [T.get_set], ⟨rfl, .inl ⟨rfl, rfl⟩⟩, Ext.refl _ _⟩
  · rintro en sx ⟨i, x, hi, g0, g4, g3, hrow, hx⟩
    have hyl := (hy.ext hx).lenS
    by_cases hlt : i < L.length
    · have hlt' : (i : Int) < (L.length : Int) := by omega
      have w1 : IntKind.i64.wrap ((i : Int) + 1) = ((i + 1 : Nat) : Int) := by rw [show ((i : Int) + 1) = ((i + 1 : Nat) : Int) by omega]; exact wrap_in (by omega) (by omega)
      obtain ⟨w, hw⟩ : ∃ w, L[i]? = some w := ⟨_, List.getElem?_eq_getElem hlt⟩
      simp [evOp_call, T.get_set, g0, g4, g3, hyl, hlt']
      refine Gd_loop (rbJ st y L i w) (fun en _ => muAt 5 8 en) ?_ ?_
      · exact ⟨0, x, by omega, by simp [T.get_set, g0], by simp [T.get_set, g4], by simp [T.get_set], by simp [T.get_set, g3], by simpa [bytesN] using hrow, hx⟩
      · clear g0 g3 hrow hx
        rintro e2 s2 ⟨k, x, hk, g0, g4', g5, g3, hrow, hx⟩
        by_cases hk8 : k < 8
        · have hk8' : (k : Int) < 8 := by omega
          have w2 : IntKind.i64.wrap ((k : Int) + 1) = ((k + 1 : Nat) : Int) := by rw [show ((k : Int) + 1) = ((k + 1 : Nat) : Int) by omega]; exact wrap_in (by omega) (by omega)
          have w3 : IntKind.i64.wrap (8 * (k : Int)) = 8 * (k : Int) := wrap_in (by omega) (by omega)
          have h9 : (BitVec.ofInt 64 (8 * (k : Int))).toNat = 8 * k := by rw [BitVec.toNat_ofInt]; omega
          have h10 : (8 * (k : Int) % 18446744073709551616).toNat = 8 * k := by omega
          obtain ⟨m, o, ty, sz, tr, hid, hm, hg, ho, hc⟩ := (hy.ext hx).idx (st := s2) un23 io24 hlt
          have t0 : tr.get o = some (wd w) := hc 0 _ (by omega) (by simpa using wv_get hw)
          simp [evOp_call, T.get_set, g0, g4', g5, g3, hk8', w3, h9, h10, hid, loadE_eq, getC_eq, hg, t0, un179, conv_byte]
          refine evOp_build1 (v := .int .u8 (byteN w k)) (cs := [.int .u8 (byteN w k)]) (fun k => el22 k) (fun k => ze5 k) rfl (by omega) (by simp [T.get_set]) (fun k => rfl) rfl ?_
          simp [evOp_call, T.get_set, g0, g4', g5, g3]
          have hlB : (bytesL (L.take i) ++ bytesN w k).length = 8 * i + k := by rw [List.length_append, bytesL_len, bytesN_len, List.length_take]; omega
          have hbx := hx.le
          refine Gd_append un22 un22 io5 (lx := 1) (new := [.int .u8 (byteN w k)]) (hrow.ext ((Ext.refl _ _).new (Nat.le_refl _) _)) (by show st.nx ≤ s2.nx + 1; omega) (by decide) (fun s' h => by cases h) (fun k => rfl) (fun k => by simp [getC_eq, getsB_1, T.get_set, sets]) rfl (by rw [hlB]; omega) ?_
          intro z s3 hz hx3 _ _
          simp [evOp_call, T.get_set, g5, w2]
          refine ⟨⟨k + 1, z, by omega, by simp [T.get_set, g0], by simp [T.get_set, g4'], by simp [T.get_set], by simp [T.get_set], ?_, (hx.new hbx _).trans hx3⟩, muAt_lt g5 (by simp [T.get_set]) hk8⟩
          rw [bytesN_succ, ← List.append_assoc, bv_app, List.length_append]
          exact hz
        · obtain rfl : k = 8 := by omega
          simp [evOp_call, T.get_set, g0, g4', g5, g3, w1]
          refine ⟨⟨i + 1, x, hlt, by simp [T.get_set, g0], by simp [T.get_set], by simp [T.get_set, g3], by rw [bytesL_take hw]; exact hrow, hx⟩, muAt_lt g4 (by simp [T.get_set]) hlt⟩
    · obtain rfl : i = L.length := by omega
      rw [List.take_length] at hrow
      simp [evOp_call, T.get_set, g0, g4, g3, hyl]
      exact ⟨hrow, hx⟩
/-- the words that bytes make -/
def wordsF (B : List Int) (n : Nat) : List (BitVec 64) := (List.range n).map fun (i : Nat) => getF B (i : Int)
theorem wordsF_succ (B : List Int) (n : Nat) : wordsF B (n + 1) = wordsF B n ++ [getF B (n : Int)] := by simp [wordsF, List.range_succ]
theorem wordsF_len (B : List Int) (n : Nat) : (wordsF B n).length = n := by simp [wordsF]
def rwI (st : St) (y : V) (B : List Int) (e : Env) (s : St) : Prop := ∃ (i : Nat) (x : V), i ≤ B.length / 8 ∧ e.get 0 = some y ∧ e.get 4 = some (.int .i64 (i : Int)) ∧ e.get 3 = some x ∧ OwnRow st.nx s x 1 (wordsF B i).length (wv (wordsF B i)) ∧ Ext st.nx st s
set_option maxRecDepth 20000 in
set_option maxHeartbeats 4000000 in
theorem rwords_any (st : St) (y : V) (B : List Int) (hy : RdRow st y 1 B.length (bv B)) (hB : B.length ≤ 1000000) (nt : Nat) :
    Gd (callL Try.prog ⟨false, [], 0, nt⟩ 28 [y] st) fun r => OwnRow st.nx r.2 r.1 1 (wordsF B (B.length / 8)).length (wv (wordsF B (B.length / 8))) ∧ Ext st.nx st r.2 := by
  rw [Gd_callL Try.func28 rfl]
  have h0 : ¬ (8 : Int) = 0 := by decide
  have w0 : IntKind.i64.wrap ((B.length : Int) / 8) = (B.length : Int) / 8 := wrap_in (by omega) (by omega)
  simp [evOp_call, sets, T.get_set]
  refine Gd_loop (rwI st y B) (fun en _ => muAt 4 (B.length / 8) en) ?_ ?_
  · exact ⟨0, _, Nat.zero_le _, by simp [T.get_set], by simp [T.get_set], by simp [T.get_set], ⟨rfl, .inl ⟨rfl, rfl⟩⟩, Ext.refl _ _⟩
  · rintro en sx ⟨i, x, hi, g0, g4, g3, hrow, hx⟩
    have hyx := hy.ext hx
    have hyl := hyx.lenS
    by_cases hlt : i < B.length / 8
    · have hlt' : (i : Int) < (B.length : Int) / 8 := by omega
      have w1 : IntKind.i64.wrap ((i : Int) + 1) = ((i + 1 : Nat) : Int) := by rw [show ((i : Int) + 1) = ((i + 1 : Nat) : Int) by omega]; exact wrap_in (by omega) (by omega)
      simp [evOp_call, T.get_set, g0, g4, g3, hyl, len8 B hB, w0, h0, hlt']
      refine Gd.mono (rget_any sx y B hyx hB (i : Int) _) ?_
      rintro _ rfl
      simp [evOp_call, T.get_set, g0, g4, g3]
      refine evOp_build1 (v := wd (getF B (i : Int))) (cs := [wd (getF B (i : Int))]) (fun k => el23 k) (fun k => ze24 k) rfl (by omega) (by simp [T.get_set]) (fun k => rfl) rfl ?_
      simp [evOp_call, T.get_set, g0, g4, g3]
      have hbx := hx.le
      refine Gd_append un23 un23 io24 (lx := 1) (new := [wd (getF B (i : Int))]) (hrow.ext ((Ext.refl _ _).new (Nat.le_refl _) _)) (by show st.nx ≤ sx.nx + 1; omega) (by decide) (fun s' h => by cases h) (fun k => rfl) (fun k => by simp [getC_eq, getsB_1, T.get_set, sets]) rfl (by rw [wordsF_len]; omega) ?_
      intro z s3 hz hx3 _ _
      simp [evOp_call, T.get_set, g4, w1]
      refine ⟨⟨i + 1, z, by omega, by simp [T.get_set, g0], by simp [T.get_set], by simp [T.get_set], ?_, (hx.new hbx _).trans hx3⟩, muAt_lt g4 (by simp [T.get_set]) hlt⟩
      rw [wordsF_succ, List.length_append]
      have : wv (wordsF B i ++ [getF B (i : Int)]) = wv (wordsF B i) ++ [wd (getF B (i : Int))] := by simp [wv]
      rw [this]
      exact hz
    · obtain rfl : i = B.length / 8 := by omega
      have hlt' : ¬ ((B.length / 8 : Nat) : Int) < (B.length : Int) / 8 := by omega
      simp [evOp_call, T.get_set, g0, g4, g3, hyl, len8 B hB, w0, h0, hlt']
      exact ⟨hrow, hx⟩
theorem rep_zeroW (n : Nat) : rep [V.int .u64 0] n = wv (List.replicate n 0#64) := by
  induction n with
  | zero => rfl
  | succ n ih => show [V.int .u64 0] ++ rep [V.int .u64 0] n = _; rw [ih]; rfl
/-- the first i words stand, the rest are noughts -/
def halfW (B : List Int) (n i : Nat) : List (BitVec 64) := wordsF B i ++ List.replicate (n - i) 0#64
theorem halfW_set {B : List Int} {n i : Nat} (h : i < n) : (halfW B n i).set i (getF B (i : Int)) = halfW B n (i + 1) := by
  unfold halfW
  obtain ⟨k, hk⟩ : ∃ k, n - i = k + 1 := ⟨n - i - 1, by omega⟩
  rw [hk, List.replicate_succ, List.set_append_right _ _ (by rw [wordsF_len]; exact Nat.le_refl _), wordsF_len, Nat.sub_self, List.set_cons_zero, wordsF_succ, show n - (i + 1) = k by omega]
  simp
def wwI (st : St) (y x : V) (B : List Int) (n : Nat) (e : Env) (s : St) : Prop := ∃ i : Nat, i ≤ n ∧ e.get 0 = some y ∧ e.get 3 = some x ∧ e.get 10 = some (.int .i64 (n : Int)) ∧ e.get 11 = some (.int .i64 (i : Int)) ∧ SlRow st.nx s x n (halfW B n i) ∧ Ext st.nx st s
set_option maxRecDepth 20000 in
set_option maxHeartbeats 4000000 in
theorem words_any (st : St) (y : V) (B : List Int) (hy : RdRow st y 1 B.length (bv B)) (hcap : CapOk y) (hB : B.length ≤ 1000000) (nt : Nat) :
    Gd (callL Try.prog ⟨false, [], 0, nt⟩ 27 [y] st) fun r => RdRow r.2 r.1 1 (B.length / 8) (wv (wordsF B (B.length / 8))) ∧ Ext st.nx st r.2 := by
  rw [Gd_callL Try.func27 rfl]
  have h0 : ¬ (8 : Int) = 0 := by decide
  have w0 : IntKind.i64.wrap ((B.length : Int) / 8) = (B.length : Int) / 8 := wrap_in (by omega) (by omega)
  simp [evOp_call, sets, T.get_set, hy.lenS, len8 B hB, w0, h0]
  obtain ⟨n, hn⟩ : ∃ n, n = B.length / 8 := ⟨_, rfl⟩
  have hn' : (B.length : Int) / 8 = (n : Int) := by omega
  rw [← hn]
  refine Gd_make (n := n) (q := n) (i := .i64) (i' := .i64) (zs := [.int .u64 0]) (fun k => el23 k) io24 (fun k => ze24 k) (by simp [T.get_set, w0, hn']) (by simp [T.get_set, w0, hn']) (Nat.le_refl _) (by omega) ?_
  rw [rep_zeroW]
  generalize hS : (⟨st.nx + 1, _⟩ : St) = s1
  have x1 : Ext st.nx st s1 := by rw [← hS]; exact (Ext.refl _ _).new (Nat.le_refl _) _
  have c1 : SlRow st.nx s1 (.sl st.nx 0 n n) n (halfW B n 0) := by
    rw [← hS]
    refine ⟨by simp [halfW, wordsF], st.nx, 24, sets (wv (List.replicate n 0#64)) 0 .lf, rfl, Nat.le_refl _, Nat.lt_succ_self _, ?_, by decide, fun j v hj => ?_⟩
    · have e : (wv (List.replicate n 0#64)).length = n := by simp [wv]
      show (st.h.set st.nx (.cs _ (wv (List.replicate n 0#64)).length _)).get st.nx = _
      rw [e]
      exact T.get_set_same _ _ _
    · have hj2 : (List.replicate n 0#64)[j]? = some v := by simpa [halfW, wordsF] using hj
      have hl := lt_of_get (wv_get hj2)
      rw [get_sets, if_pos ⟨Nat.zero_le _, by omega⟩]
      simpa using wv_get hj2
  have hlS : lenS s1 (.sl st.nx 0 n n) = some (.int .i64 (n : Int), s1) := rfl
  simp [evOp_call, sets, T.get_set, hlS]
  refine Gd_loop (wwI st y (.sl st.nx 0 n n) B n) (fun en _ => muAt 11 n en) ?_ ?_
  · exact ⟨0, Nat.zero_le _, by simp [T.get_set], by simp [T.get_set], by simp [T.get_set], by simp [T.get_set], c1, x1⟩
  · rintro en sx ⟨i, hi, g0, g3, g10, g11, hrow, hx⟩
    by_cases hlt : i < n
    · have hlt' : (i : Int) < (n : Int) := by omega
      have w1 : IntKind.i64.wrap ((i : Int) + 1) = ((i + 1 : Nat) : Int) := by rw [show ((i : Int) + 1) = ((i + 1 : Nat) : Int) by omega]; exact wrap_in (by omega) (by omega)
      simp [evOp_call, T.get_set, g0, g3, g10, g11, hlt']
      refine Gd.mono (get_any sx y B (hy.ext hx) hcap hB (i : Int) _) ?_
      rintro _ rfl
      obtain ⟨m, ty, t, e, hb, hm, hg, hro, hc, hput⟩ := hrow.put hlt
      injection e with e
      subst e
      have hid : ∀ k : V → Res, idxE Try.prog 23 (.sl st.nx 0 n n) i k = k (.p st.nx i) := fun k => by
        rw [idxE_sl un23 (fun k => infoOk_sz io24 k), if_pos hlt]; simp
      simp [evOp_call, T.get_set, g0, g3, g10, g11, hid, putB_eq, hg, hro, sets, w1, hlt]
      rw [if_pos (show i + 1 ≤ n by omega)]
      simp [evOp_call, T.get_set, g0, g3, g10, g11, w1]
      refine ⟨⟨i + 1, hlt, by simp [T.get_set, g0], by simp [T.get_set, g3], by simp [T.get_set, g10], by simp [T.get_set], ?_, hx.set hb hm _⟩, muAt_lt g11 (by simp [T.get_set]) hlt⟩
      rw [← halfW_set hlt]
      exact hput _
    · obtain rfl : i = n := by omega
      have hh : halfW B i i = wordsF B i := by simp [halfW]
      rw [hh] at hrow
      simp [evOp_call, T.get_set, g0, g3, g10, g11]
      exact ⟨hrow.rd, hx⟩
end Go.Proofs.Ytdoennkmcloalaa.W

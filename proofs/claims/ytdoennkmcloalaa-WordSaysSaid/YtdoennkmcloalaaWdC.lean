/-
  Contracts of package word and of the document's own answer: a word of bytes.
-/
import Derived.Test.YtdoennkmcloalaaWdB
import Derived.Test.YtdoennkmcloalaaMid
set_option linter.unusedSimpArgs false
namespace Go.Proofs.Ytdoennkmcloalaa
open Go.RowKit Ev
def bv (B : List Int) : List V := B.map fun b => .int .u8 b
@[simp] theorem bv_length (B : List Int) : (bv B).length = B.length := by simp [bv]
theorem bv_get {B : List Int} {i : Nat} {b : Int} (h : B[i]? = some b) : (bv B)[i]? = some (.int .u8 b) := by unfold bv; rw [List.getElem?_map, h]; rfl
/-- a part of a row -/
theorem row_mid {P : Program} {st : St} {t el n : Nat} {x : V} {l : List V} (a b : Nat) (hu : P.underlying t = some (.slice el)) (hi : infoOk P el 1 = true) (h : RdRow st x 1 n l) (hc : CapOk x) (hab : a < b) (hb : b ≤ n) :
    ∃ x', (∀ (e : Env) (o o2 : Operand) (i i2 : IntKind), opv e o = some (.int i (a : Int)) → opv e o2 = some (.int i2 (b : Int)) → ∀ kk : V → Res, sliceE P e t x (some o) (some o2) kk = kk x') ∧ RdRow st x' 1 (b - a) ((l.take b).drop a) := by
  obtain ⟨h1, h2⟩ := h
  have hl : ((l.take b).drop a).length = (b - a) * 1 := by rw [List.length_drop, List.length_take]; omega
  have hg : ∀ j v, ((l.take b).drop a)[j]? = some v → l[a + j]? = some v := fun j v hj => by
    rw [List.getElem?_drop, List.getElem?_take] at hj
    split at hj
    · exact hj
    · cases hj
  rcases h2 with ⟨_, h2⟩ | ⟨m, o', q, ty, sz, tr, rfl, h3, h4, h5, h6⟩ | ⟨m, o', ty, sz, tr, rfl, h3, h4, h5, h6⟩
  · omega
  · refine ⟨.sl m (o' + a * 1) (b - a) (q - a), fun e o o2 i i2 hv hv2 kk => sliceE_midS hu hi hv hv2 m o' n q hab (by have := hc m o' n q rfl; omega) kk, hl, .inr (.inl ⟨m, o' + a * 1, q - a, ty, sz, tr, rfl, h3, h4, by omega, fun j v hj => ?_⟩)⟩
    have := h6 _ v (hg j v hj)
    rw [show o' + a * 1 + j = o' + (a + j) by omega]; exact this
  · refine ⟨.sg m (o' + a * 1) (b - a) 1, fun e o o2 i i2 hv hv2 kk => sliceE_midG hu hi hv hv2 m o' n hab hb kk, hl, .inr (.inr ⟨m, o' + a * 1, ty, sz, tr, rfl, h3, h4, by omega, fun j v hj => ?_⟩)⟩
    have := h6 _ v (hg j v hj)
    rw [show o' + a * 1 + j = o' + (a + j) by omega]; exact this
def byteW (B : List Int) (i : Nat) : BitVec 64 := BitVec.ofInt 64 (B[i]?.getD 0)
/-- the word that bytes make -/
def accW (B : List Int) (o : Nat) : Nat → BitVec 64
  | 0 => 0#64
  | i + 1 => accW B o i ||| byteW B (o + i) <<< (8 * i)
def raccW (B : List Int) (o : Nat) : Nat → BitVec 64
  | 0 => 0#64
  | i + 1 => raccW B o i <<< 8 ||| byteW B (o + (7 - i))
def hiW (B : List Int) (o : Nat) : Nat → BitVec 64
  | 0 => 0#64
  | i + 1 => hiW B o i ||| byteW B (o + (7 - i)) <<< (8 * (7 - i))
theorem racc_hi (B : List Int) (o : Nat) : ∀ i, i ≤ 8 → raccW B o i <<< (8 * (8 - i)) = hiW B o i
  | 0, _ => by show 0#64 <<< _ = 0#64; exact BitVec.zero_shiftLeft ..
  | i + 1, h => by
    have ih := racc_hi B o i (by omega)
    show (raccW B o i <<< 8 ||| byteW B (o + (7 - i))) <<< (8 * (8 - (i + 1))) = hiW B o i ||| _
    rw [BitVec.shiftLeft_or_distrib, ← BitVec.shiftLeft_add, show 8 + 8 * (8 - (i + 1)) = 8 * (8 - i) by omega, ih, show 8 - (i + 1) = 7 - i by omega]
theorem or8 (t0 t1 t2 t3 t4 t5 t6 t7 z : BitVec 64) : z ||| t7 ||| t6 ||| t5 ||| t4 ||| t3 ||| t2 ||| t1 ||| t0 = z ||| t0 ||| t1 ||| t2 ||| t3 ||| t4 ||| t5 ||| t6 ||| t7 := by ac_rfl
theorem acc_racc (B : List Int) (o : Nat) : raccW B o 8 = accW B o 8 := by
  have h := racc_hi B o 8 (Nat.le_refl _)
  have e : raccW B o 8 <<< (8 * (8 - 8)) = raccW B o 8 := BitVec.shiftLeft_zero ..
  rw [e] at h
  rw [h]
  exact or8 (byteW B (o + 0) <<< (8 * 0)) (byteW B (o + 1) <<< (8 * 1)) (byteW B (o + 2) <<< (8 * 2)) (byteW B (o + 3) <<< (8 * 3)) (byteW B (o + 4) <<< (8 * 4)) (byteW B (o + 5) <<< (8 * 5)) (byteW B (o + 6) <<< (8 * 6)) (byteW B (o + 7) <<< (8 * 7)) 0#64
def inB (B : List Int) (k : Int) : Prop := 0 ≤ k ∧ k < (B.length : Int) / 8
instance (B : List Int) (k : Int) : Decidable (inB B k) := by unfold inB; infer_instance
def getF (B : List Int) (k : Int) : BitVec 64 := if inB B k then accW B (8 * k.toNat) 8 else 0#64
theorem len8 (B : List Int) (hB : B.length ≤ 1000000) : ((B.length : Int)).tdiv 8 = (B.length : Int) / 8 := Int.tdiv_eq_ediv_of_nonneg (by omega)
theorem has_any (c : Cx) (st : St) (x : V) (B : List Int) (hx : RdRow st x 1 B.length (bv B)) (hB : B.length ≤ 1000000) (k : Int) : Gd (callL Try.prog c 116 [x, .int .i64 k] st) fun r => r = (.bool (decide (inB B k)), st) := by
  rw [Gd_callL Try.func116 rfl]
  unfold inB
  have h0 : ¬ (8 : Int) = 0 := by decide
  have w1 : IntKind.i64.wrap ((B.length : Int) / 8) = (B.length : Int) / 8 := wrap_in (by omega) (by omega)
  by_cases h1 : 0 ≤ k
  · simp [evOp_call, sets, T.get_set, h1, hx.lenS, len8 B hB, w1, h0]
  · simp [evOp_call, sets, T.get_set, h1]
def wgI (st : St) (y : V) (B : List Int) (o : Nat) (e : Env) (s : St) : Prop := ∃ i : Nat, i ≤ 8 ∧ e.get 18 = some y ∧ e.get 19 = some (.int .i64 8) ∧ e.get 20 = some (.int .i64 (i : Int)) ∧ e.get 5 = some (wd (accW B o i)) ∧ s = st
set_option maxRecDepth 20000 in
set_option maxHeartbeats 4000000 in
theorem get_any (st : St) (x : V) (B : List Int) (hx : RdRow st x 1 B.length (bv B)) (hcap : CapOk x) (hB : B.length ≤ 1000000) (k : Int) (nt : Nat) :
    Gd (callL Try.prog ⟨false, [], 0, nt⟩ 22 [x, .int .i64 k] st) fun r => r = (wd (getF B k), st) := by
  rw [Gd_callL Try.func22 rfl]
  simp [evOp_call, sets, T.get_set]
  refine Gd.mono (has_any _ st x B hx hB k) ?_
  rintro _ rfl
  unfold getF
  by_cases h : inB B k
  case neg => simp [evOp_call, sets, T.get_set, h]
  obtain ⟨h1, h2⟩ := h
  have h : inB B k := ⟨h1, h2⟩
  obtain ⟨n, rfl⟩ : ∃ n : Nat, k = (n : Int) := ⟨k.toNat, by omega⟩
  have hn : 8 * n + 8 ≤ B.length := by omega
  have w1 : IntKind.i64.wrap (8 * (n : Int)) = ((8 * n : Nat) : Int) := by rw [show 8 * (n : Int) = ((8 * n : Nat) : Int) by omega]; exact wrap_in (by omega) (by omega)
  have w1' : IntKind.i64.wrap (8 * (n : Int)) = 8 * (n : Int) := wrap_in (by omega) (by omega)
  have w2' : IntKind.i64.wrap (8 * (n : Int) + 8) = 8 * (n : Int) + 8 := wrap_in (by omega) (by omega)
  have w2 : IntKind.i64.wrap (((8 * n : Nat) : Int) + 8) = ((8 * n + 8 : Nat) : Int) := by rw [show ((8 * n : Nat) : Int) + 8 = ((8 * n + 8 : Nat) : Int) by omega]; exact wrap_in (by omega) (by omega)
  obtain ⟨y, e1, e2⟩ := row_mid (8 * n) (8 * n + 8) un22 io5 hx hcap (by omega) hn
  rw [show 8 * n + 8 - 8 * n = 8 by omega] at e2
  simp [evOp_call, sets, T.get_set, h, w1]
  unfold sliceK
  rw [e1 _ _ _ .i64 .i64 (by simp [T.get_set, w1']) (by simp [T.get_set, w1', w2'])]
  simp [evOp_call, sets, T.get_set, e2.lenS]
  refine Gd_loop (wgI st y B (8 * n)) (fun en _ => muAt 20 8 en) ?_ ?_
  · exact ⟨0, by omega, by simp [T.get_set], by simp [T.get_set], by simp [T.get_set], by simp [T.get_set, accW], rfl⟩
  · rintro en s ⟨i, hi, g18, g19, g20, g5, rfl⟩
    by_cases hlt : i < 8
    · have hlt' : (i : Int) < 8 := by omega
      have w3 : IntKind.i64.wrap ((i : Int) + 1) = ((i + 1 : Nat) : Int) := by rw [show ((i : Int) + 1) = ((i + 1 : Nat) : Int) by omega]; exact wrap_in (by omega) (by omega)
      have w4 : IntKind.i64.wrap (8 * (i : Int)) = 8 * (i : Int) := wrap_in (by omega) (by omega)
      have h8 : (0 : Int) ≤ 8 * (i : Int) := by omega
      have h9 : (8 * (i : Int)).toNat = 8 * i := by omega
      obtain ⟨b, hb⟩ : ∃ b, B[8 * n + i]? = some b := ⟨_, List.getElem?_eq_getElem (by omega)⟩
      obtain ⟨m, o, ty, sz, tr, hid, hm, hg, ho, hc⟩ := e2.idx (st := s) un22 io5 hlt
      have t0 : tr.get o = some (.int .u8 b) := hc 0 _ (by omega) (by
        rw [List.getElem?_drop, List.getElem?_take, if_pos (by omega), show 8 * n + (i * 1 + 0) = 8 * n + i by omega]
        exact bv_get hb)
      have hby : byteW B (8 * n + i) = BitVec.ofInt 64 b := by unfold byteW; rw [hb]; rfl
      simp [evOp_call, T.get_set, g18, g19, g20, g5, hlt', hid, loadE_eq, getC_eq, hg, t0, un24, w3, w4, h8, h9]
      exact ⟨⟨i + 1, hlt, by simp [T.get_set, g18], by simp [T.get_set, g19], by simp [T.get_set], by simp [T.get_set, accW, hby], rfl⟩, muAt_lt g20 (by simp [T.get_set]) hlt⟩
    · obtain rfl : i = 8 := by omega
      simp [evOp_call, T.get_set, g18, g19, g20, g5, h]
def rgI (st : St) (x : V) (k : Nat) (B : List Int) (e : Env) (s : St) : Prop := ∃ i : Nat, i ≤ 8 ∧ e.get 0 = some x ∧ e.get 1 = some (.int .i64 (k : Int)) ∧ e.get 6 = some (.int .i64 (7 - (i : Int))) ∧ e.get 5 = some (wd (raccW B (8 * k) i)) ∧ s = st
noncomputable def left8 (e : Env) : Nat := match e.get 6 with
  | some (.c (.int _ n)) => (n + 1).toNat
  | _ => 0
set_option maxRecDepth 20000 in
set_option maxHeartbeats 4000000 in
theorem rget_any (st : St) (x : V) (B : List Int) (hx : RdRow st x 1 B.length (bv B)) (hB : B.length ≤ 1000000) (k : Int) (nt : Nat) :
    Gd (callL Try.prog ⟨false, [], 0, nt⟩ 23 [x, .int .i64 k] st) fun r => r = (wd (getF B k), st) := by
  rw [Gd_callL Try.func23 rfl]
  have h0 : ¬ (8 : Int) = 0 := by decide
  have w0 : IntKind.i64.wrap ((B.length : Int) / 8) = (B.length : Int) / 8 := wrap_in (by omega) (by omega)
  unfold getF inB
  by_cases c1 : k < 0
  · have c1' : ¬ 0 ≤ k := by omega
    simp [evOp_call, sets, T.get_set, c1, c1']
  have c1' : 0 ≤ k := by omega
  by_cases c2 : (B.length : Int) / 8 ≤ k
  · have c2' : ¬ k < (B.length : Int) / 8 := by omega
    simp [evOp_call, sets, T.get_set, c1, c2, c2', hx.lenS, len8 B hB, w0, h0]
  have c2' : k < (B.length : Int) / 8 := by omega
  obtain ⟨n, rfl⟩ : ∃ n : Nat, k = (n : Int) := ⟨k.toNat, by omega⟩
  have hn : 8 * n + 8 ≤ B.length := by omega
  simp [evOp_call, sets, T.get_set, c1, c2, c2', hx.lenS, len8 B hB, w0, h0]
  refine Gd_loop (rgI st x n B) (fun en _ => left8 en) ?_ ?_
  · exact ⟨0, by omega, by simp [T.get_set], by simp [T.get_set], by simp [T.get_set], by simp [T.get_set, raccW], rfl⟩
  · rintro en s ⟨i, hi, g0, g1, g6, g5, rfl⟩
    by_cases hlt : i < 8
    · have c3 : (0 : Int) ≤ 7 - (i : Int) := by omega
      have w1 : IntKind.i64.wrap (8 * (n : Int)) = 8 * (n : Int) := wrap_in (by omega) (by omega)
      have w2 : IntKind.i64.wrap (8 * (n : Int) + (7 - (i : Int))) = ((8 * n + (7 - i) : Nat) : Int) := by rw [show 8 * (n : Int) + (7 - (i : Int)) = ((8 * n + (7 - i) : Nat) : Int) by omega]; exact wrap_in (by omega) (by omega)
      have w3 : IntKind.i64.wrap (7 - (i : Int) - 1) = 7 - ((i + 1 : Nat) : Int) := by rw [show 7 - (i : Int) - 1 = 7 - ((i + 1 : Nat) : Int) by omega]; exact wrap_in (by omega) (by omega)
      obtain ⟨b, hb⟩ : ∃ b, B[8 * n + (7 - i)]? = some b := ⟨_, List.getElem?_eq_getElem (by omega)⟩
      obtain ⟨m, o, ty, sz, tr, hid, hm, hg, ho, hc⟩ := hx.idx (st := s) un22 io5 (i := 8 * n + (7 - i)) (by omega)
      have t0 : tr.get o = some (.int .u8 b) := hc 0 _ (by omega) (by simpa using bv_get hb)
      have hby : byteW B (8 * n + (7 - i)) = BitVec.ofInt 64 b := by unfold byteW; rw [hb]; rfl
      have c3' : (i : Int) ≤ 7 := by omega
      have has8 : ∀ f : Nat → Res, asNat (.int .i64 (8 * (n : Int) + ((7 - i : Nat) : Int))) f = f (8 * n + (7 - i)) := fun f => by
        rw [show 8 * (n : Int) + ((7 - i : Nat) : Int) = ((8 * n + (7 - i) : Nat) : Int) by omega]
        exact asNat_cast ..
      simp [evOp_call, T.get_set, g0, g1, g6, g5, c3, c3', w1, w2, hid, loadE_eq, getC_eq, hg, t0, un24, w3, has8]
      refine ⟨⟨i + 1, hlt, by simp [T.get_set, g0], by simp [T.get_set, g1], by simp [T.get_set], ?_, rfl⟩, ?_⟩
      · simp [T.get_set, raccW, hby]
      · unfold left8
        simp [T.get_set, g6]
        omega
    · obtain rfl : i = 8 := by omega
      have hr := acc_racc B (8 * n)
      rw [hr] at g5
      simp [evOp_call, T.get_set, g0, g1, g6, g5]
end Go.Proofs.Ytdoennkmcloalaa

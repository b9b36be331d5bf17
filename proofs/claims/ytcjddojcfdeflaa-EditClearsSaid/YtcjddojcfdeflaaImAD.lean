/-
  PLAIN: ImA, ImB, ImC, ImD, in one text.
-/
import Derived.Test.YtcjddojcfdeflaaHdWF
import Derived.Test.YtcjddojcfdeflaaGm2
import Derived.Test.YtcjddojcfdeflaaPlTA
import Derived.Test.YtcjddojcfdeflaaNdPA
import Derived.Test.YtcjddojcfdeflaaInsK
import Derived.Test.YtcjddojcfdeflaaMid
set_option linter.unusedSimpArgs false
set_option linter.unusedVariables false
namespace Go.Proofs.Ytcjddojcfdeflaa
open Go.RowKit Ev
theorem Gd_append0F {P : Program} {st : St} {fl : List (Nat × Nat)} {t t' el el' z m lx nt : Nat} {x : V} {new : List V} {Q : V × St → Prop} (hu : P.underlying t = some (.slice el)) (hk : P.underlying t' = some (.slice el')) (hi : infoOk P el z = true) (hel : el ≠ roT)
    (hfm : inF fl m = false) (hm : st.h.get m = some (.cs el 0 .lf)) (hx : ∀ s', x ≠ .s s') (hl : ∀ k : Nat → Res, lenA x k = k lx) (hf : ∀ k : List V → Res, firsts ⟨false, fl, 0, nt⟩ st z lx x k = k new) (hn : new.length = lx * z) (hmax : lx ≤ 1073741824)
    (h0 : lx = 0 → Q (.sl m 0 0 0, ⟨st.nx, st.h.set m (.cs el 0 .lf)⟩)) (h1 : 0 < lx → Q (.sg st.nx 0 lx z, ⟨st.nx + 1, st.h.set st.nx (.cs el new.length (sets new 0 .lf))⟩)) : Gd (builtinE P ⟨false, fl, 0, nt⟩ .append [t, t'] [.sl m 0 0 0, x] st) Q := by
  have e1 : builtinE P ⟨false, fl, 0, nt⟩ .append [t, t'] [.sl m 0 0 0, x] st = appE ⟨false, fl, 0, nt⟩ st el z 0 lx (.sl m 0 0 0) new := by
    have hsm : small P el (0 + lx) = true := infoOk_small hi (by omega)
    unfold builtinE
    simp only [elemOf_ok hu hi, hk, lenA_sl]
    cases x with
    | s s' => exact absurd rfl (hx s')
    | _ => simp only [hl, hf, hsm]
  rw [e1]
  unfold appE
  simp only [fn_eq, Nat.zero_add]
  by_cases hz : lx = 0
  · subst hz
    have hnew : new = [] := List.length_eq_zero_iff.1 (by omega)
    subst hnew
    simp [putB_eq, hm, hel, sets, hfm]
    exact h0 rfl
  · have hb : Nat.ble lx 0 = false := by
      cases h : Nat.ble lx 0 with
      | false => rfl
      | true => rw [Nat.ble_eq] at h; omega
    simp only [hb]
    unfold growE
    simp [getC_eq, hm, getsB_zero, newC_is, hfm]
    exact h1 (by omega)
theorem firsts_fl {β : Type} {st : St} {fl : List (Nat × Nat)} {wb nt z n : Nat} {x : V} {l : List V} (h : RdRow st x z n l) (hfx : ∀ m, rowIn x m → inF fl m = false) (k : List V → Option β) : firsts ⟨false, fl, wb, nt⟩ st z n x k = k l := by
  obtain ⟨h1, h2⟩ := h
  rcases h2 with ⟨hx, rfl⟩ | ⟨m, o, q, ty, sz, t, rfl, _, h4, _, h6⟩ | ⟨m, o, ty, sz, t, rfl, _, h4, _, h6⟩
  · have hl : l = [] := List.eq_nil_of_length_eq_zero (by rw [h1]; simp)
    subst hl
    rcases hx with rfl | rfl <;> rfl
  · rw [firsts_sl, if_pos (Nat.le_refl _), getC_eq, h4]
    simp only [ok_top, hfx m (.inl ⟨_, _, _, rfl⟩), Bool.not_false, cond_true, Option.bind_some, csK_cs]
    rw [← h1]
    exact getsB_list h6 k
  · have e1 : Ev.firsts ⟨false, fl, wb, nt⟩ st z n (.sg m o n z) k = (match Nat.ble n n with | true => getC ⟨false, fl, wb, nt⟩ st m fun t => getsB t (n * z) o k | false => none) := rfl
    have e2 : Nat.ble n n = true := by rw [Nat.ble_eq]; exact Nat.le_refl _
    rw [e1, e2]
    simp only
    rw [getC_eq, h4]
    simp only [ok_top, hfx m (.inr ⟨_, _, _, rfl⟩), Bool.not_false, cond_true, Option.bind_some, csK_cs]
    rw [← h1]
    exact getsB_list h6 k
theorem clone_fl (st : St) (fl : List (Nat × Nat)) (hfn : ∀ k, st.nx ≤ k → inF fl k = false) (x : V) (n : Nat) (l : List V) (hx : RdRow st x 1 n l) (hn : n ≤ 1000000) (hfx : ∀ m, rowIn x m → inF fl m = false) (nt : Nat) :
    Gd (callL Try.prog ⟨false, fl, 0, nt⟩ 13 [x] st) fun r => RdRow r.2 r.1 1 n l ∧ (0 < n → OwnRow st.nx r.2 r.1 1 n l) ∧ RowFrom st.nx r.1 ∧ Ext st.nx st r.2 := by
  rw [Gd_callL Try.func13 rfl]
  by_cases hnil : isNil x = true
  · obtain ⟨rfl, rfl⟩ := isNil_len hx hnil
    simp [sets, T.get_set, eql_nil un28 hx, hnil]
    exact ⟨hx, ⟨fun _ _ _ _ e => (by cases e), fun _ _ _ _ e => by cases e⟩, Ext.refl _ _⟩
  · simp [sets, T.get_set, eql_nil un28 hx, hnil]
    rw [evOp_build0 (fun k => el28 k) (fun k => ze39 k) rfl]
    simp [T.get_set]
    have he : Ext st.nx st ⟨st.nx + 1, st.h.set st.nx (.cs 39 0 .lf)⟩ := (Ext.refl _ _).new (Nat.le_refl _) _
    have hx' := hx.ext he
    refine Gd_append0F un28 un28 io39 (by decide) (hfn _ (Nat.le_refl _)) (T.get_set_same _ _ _) hx.notS (fun k => hx.len k) (fun k => firsts_fl hx' hfx k) hx.1 (by omega) (fun h0 => ?_) fun h1 => ?_
    · subst h0
      simp [T.get_set]
      have hl : l = [] := List.length_eq_zero_iff.1 (by have := hx.1; omega)
      subst hl
      exact ⟨⟨rfl, .inr (.inl ⟨st.nx, 0, 0, 39, 0, .lf, rfl, Nat.lt_succ_self _, T.get_set_same _ _ _, Nat.le_refl _, fun j v h => by simp at h⟩)⟩, ⟨fun _ _ _ _ e => (by cases e), fun _ _ _ _ e => (by cases e; exact Nat.le_refl _)⟩, he⟩
    · simp [T.get_set]
      have h2 := he.new (Nat.le_succ _) (.cs 39 l.length (sets l 0 .lf))
      have ho : OwnRow st.nx ⟨st.nx + 1 + 1, (st.h.set st.nx (.cs 39 0 .lf)).set (st.nx + 1) (.cs 39 l.length (sets l 0 .lf))⟩ (.sg (st.nx + 1) 0 n 1) 1 n l := by
        refine ⟨hx.1, .inr ⟨st.nx + 1, 39, sets l 0 .lf, rfl, Nat.le_succ _, Nat.lt_succ_self _, ?_, by decide, fun j v hj => ?_⟩⟩
        · rw [← hx.1]; exact T.get_set_same _ _ _
        · have hjl : j < l.length := lt_of_get hj
          rw [get_sets, if_pos ⟨Nat.zero_le _, by omega⟩]
          simpa using hj
      exact ⟨ho.rd, fun _ => ho, ⟨fun _ _ _ _ e => (by cases e; omega), fun _ _ _ _ e => by cases e⟩, h2⟩
/-- the first k of a row -/
theorem Gd_headQ {P : Program} {c : Cx} {e : Env} {st : St} {t el n k : Nat} {i : IntKind} {y : V} {L : List (BitVec 64)} {x : Operand} {Q : V × St → Prop} (hu : P.underlying t = some (.slice el)) (hi : infoOk P el 1 = true) (h : RdRow st y 1 n (wv L)) (hcap : CapOk y) (hv : opv e x = some (.int i (k : Int))) (hk : k ≤ n) (hpos : 0 < k)
    (hQ : ∀ v, RdRow st v 1 k (wv (L.take k)) → Q (v, st)) : Gd (sliceK P c e st t y none (some x)) Q := by
  have hwt : wv (L.take k) = (wv L).take k := by unfold wv; rw [List.map_take]
  obtain ⟨h1, h2⟩ := h
  have hL : L.length = n := by simpa using h1
  have get : ∀ j v, (wv (L.take k))[j]? = some v → (wv L)[j]? = some v ∧ j < k := fun j v hj => by
    have hjk : j < k := by have := lt_of_get hj; simp at this; omega
    rw [hwt, List.getElem?_take, if_pos hjk] at hj
    exact ⟨hj, hjk⟩
  unfold sliceK
  rcases h2 with ⟨_, rfl⟩ | ⟨m, o, q, ty, sz, tr, rfl, h3, h4, h5, h6⟩ | ⟨m, o, ty, sz, tr, rfl, h3, h4, h5, h6⟩
  · omega
  · have hq := hcap m o n q rfl
    rw [sliceE_hiS hu hi hv m o n q (by omega) (fun a => some (a, st))]
    refine ⟨_, rfl, hQ _ ⟨by simp [hL]; omega, .inr (.inl ⟨m, o, q, ty, sz, tr, rfl, h3, h4, by omega, fun j v hj => h6 j v (get j v hj).1⟩)⟩⟩
  · rw [sliceE_hi hu hi hv m o n (by omega) (fun a => some (a, st))]
    refine ⟨_, rfl, hQ _ ⟨by simp [hL]; omega, .inr (.inr ⟨m, o, ty, sz, tr, rfl, h3, h4, by omega, fun j v hj => h6 j v (get j v hj).1⟩)⟩⟩
/-- a row from k on -/
theorem Gd_tailR {P : Program} {c : Cx} {e : Env} {st : St} {t el n k : Nat} {i : IntKind} {y : V} {L : List (BitVec 64)} {x : Operand} {Q : V × St → Prop} (hu : P.underlying t = some (.slice el)) (hi : infoOk P el 1 = true) (h : RdRow st y 1 n (wv L)) (hcap : CapOk y) (hv : opv e x = some (.int i (k : Int))) (hk : k < n)
    (hQ : ∀ v, RdRow st v 1 (n - k) (wv (L.drop k)) → Q (v, st)) : Gd (sliceK P c e st t y (some x) none) Q := by
  have hwt : wv (L.drop k) = (wv L).drop k := by unfold wv; rw [List.map_drop]
  obtain ⟨h1, h2⟩ := h
  have hL : L.length = n := by simpa using h1
  have get : ∀ j v, (wv (L.drop k))[j]? = some v → (wv L)[k + j]? = some v := fun j v hj => by
    rw [hwt, List.getElem?_drop] at hj; exact hj
  have hlen : (wv (L.drop k)).length = (n - k) * 1 := by simp [hL]
  unfold sliceK
  rcases h2 with ⟨_, rfl⟩ | ⟨m, o, q, ty, sz, tr, rfl, h3, h4, h5, h6⟩ | ⟨m, o, ty, sz, tr, rfl, h3, h4, h5, h6⟩
  · omega
  · have hq := hcap m o n q rfl
    rw [sliceE_loS hu hi hv m o n q (by omega) (by omega) (by omega) (fun a => some (a, st))]
    refine ⟨_, rfl, hQ _ ⟨hlen, .inr (.inl ⟨m, o + k * 1, q - k, ty, sz, tr, rfl, h3, h4, by omega, fun j v hj => ?_⟩)⟩⟩
    have := h6 _ v (get j v hj)
    rw [show o + k * 1 + j = o + (k + j) by omega]; exact this
  · rw [sliceE_lo hu hi hv m o n (by omega) (fun a => some (a, st)), if_neg (by omega)]
    refine ⟨_, rfl, hQ _ ⟨hlen, .inr (.inr ⟨m, o + k * 1, ty, sz, tr, rfl, h3, h4, by omega, fun j v hj => ?_⟩)⟩⟩
    have := h6 _ v (get j v hj)
    rw [show o + k * 1 + j = o + (k + j) by omega]; exact this
set_option maxRecDepth 20000 in
set_option maxHeartbeats 8000000 in
theorem hfindR_any (st : St) (y : V) (bl : Nat) (hb : 64 ≤ bl ∧ bl ≤ 1024) (L : List (BitVec 64)) (hy : RdRow st y 1 (8 * bl) (wv L)) (hcap : CapOk y) (nt : Nat) :
    Gd (callL Try.prog ⟨false, [], 0, nt⟩ 33 [y] st) fun r => r.1 = findHV (ofH bl (L.take 8)) (ofH bl (L.drop (8 * bl - 8))) ∧ Ext st.nx st r.2 := by
  rw [Gd_callL Try.func33 rfl]
  have hL : L.length = 8 * bl := by simpa using hy.1
  have hrd := hy
  obtain ⟨n, hn⟩ : ∃ n, n = 8 * bl := ⟨_, rfl⟩
  rw [← hn] at hrd hL hy ⊢
  obtain ⟨m0, hm0⟩ : ∃ m0, m0 = n - 8 := ⟨_, rfl⟩
  rw [← hm0]
  have w0 : (n : Int).tdiv 8 = (bl : Int) := by rw [Int.tdiv_eq_ediv_of_nonneg (by omega)]; omega
  have w1 : IntKind.i64.wrap (bl : Int) = (bl : Int) := wrap_in (by omega) (by omega)
  have w2 : IntKind.i64.wrap ((bl : Int) * 8) = (n : Int) := by rw [show (bl : Int) * 8 = (n : Int) by omega]; exact wrap_in (by omega) (by omega)
  have w3 : IntKind.i64.wrap ((n : Int) - 8) = (m0 : Int) := by rw [show (n : Int) - 8 = (m0 : Int) by omega]; exact wrap_in (by omega) (by omega)
  have c1 : ¬ bl < 64 := by omega
  have c2 : ¬ 1024 < bl := by omega
  have c1' : ¬ (bl : Int) < 64 := by omega
  have c2' : ¬ (1024 : Int) < bl := by omega
  simp [evOp_call, sets, T.get_set, newC_is, hrd.lenS, w0, w1, w2, c1, c2, c1', c2']
  refine Gd_headQ (i := .i64) (k := 8) un28 io39 (hy.ext (hbox_ext st _)) hcap (by simp) (by omega) (by omega) fun v hv => ?_
  simp [evOp_call, T.get_set]
  refine Gd.mono (hof_any _ bl v (L.take 8) (by rw [List.length_take, hL, show min 8 n = 8 by omega]; exact hv) _) ?_
  rintro ⟨r, s1⟩ ⟨hr, x1⟩
  simp only at hr x1
  obtain ⟨ga, pa, ha, hga⟩ := getHV_eq (ofH bl (L.take 8))
  rw [ha] at hr
  subst hr
  have l1 : st.nx < s1.nx := x1.le
  have k0 : s1.h.get st.nx = _ := (x1.keep _ (Nat.lt_succ_self _)).trans (T.get_set_same _ _ _)
  have hs1 : Ext st.nx st s1 := (hbox_ext st _).trans (x1.mono (Nat.le_succ _))
  simp [hdV, evOp_call, sets, T.get_set, newC_is, storeK_g, putB_eq, roT, k0, hrd.lenS, w3]
  have e2 : ∀ v, Ext st.nx st ⟨s1.nx, s1.h.set st.nx v⟩ := fun v => hs1.set (m := st.nx) (Nat.le_refl _) l1 v
  refine Gd_tailR (i := .i64) (k := m0) un28 io39 (hy.ext (e2 _)) hcap (by simp [T.get_set]) (by omega) fun v hv => ?_
  simp [evOp_call, T.get_set]
  refine Gd.mono (hof_any _ bl v (L.drop m0) (by rw [List.length_drop, hL]; exact hv) _) ?_
  rintro ⟨r, s2⟩ ⟨hr, x2⟩
  simp only at hr x2
  obtain ⟨gb, pb, hb', hgb⟩ := getHV_eq (ofH bl (L.drop m0))
  rw [hb'] at hr
  subst hr
  have l2 : s1.nx ≤ s2.nx := x2.le
  have k1 : s2.h.get st.nx = _ := (x2.keep _ l1).trans (T.get_set_same _ _ _)
  have hs2 : Ext st.nx st s2 := (e2 _).trans (x2.mono (by show st.nx ≤ s1.nx; omega))
  have n2 : ¬ s2.nx = st.nx := by omega
  have hfin : ∀ v w, Ext st.nx st ⟨s2.nx + 1, (s2.h.set s2.nx v).set st.nx w⟩ := fun v w => (hs2.new (by omega) v).set (m := st.nx) (Nat.le_refl _) (by show st.nx < s2.nx + 1; omega) w
  cases hs : (ofH bl (L.take 8)).isSome with
  | true =>
    have ho := hdO_t (ofH bl (L.drop m0)) hs
    simp [hdV, evOp_call, sets, T.get_set, newC_is, storeK_g, putB_eq, roT, loadE_eq, getC_eq, getsB_succ, getsB_zero, k1, n2]
    unfold findHV
    rw [ho, hga, hs]
    exact ⟨rfl, hfin _ _⟩
  | false =>
    have ho := hdO_f (ofH bl (L.drop m0)) hs
    simp [hdV, evOp_call, sets, T.get_set, newC_is, storeK_g, putB_eq, roT, loadE_eq, getC_eq, getsB_succ, getsB_zero, k1, n2]
    unfold findHV
    rw [ho, hgb, hs]
    exact ⟨rfl, hfin _ _⟩
end Go.Proofs.Ytcjddojcfdeflaa
set_option linter.unusedSimpArgs false
set_option linter.unusedVariables false
namespace Go.Proofs.Ytcjddojcfdeflaa
open Go.RowKit Ev
noncomputable def funV (P : Program) (F : CallF) (c : Cx) (v : V) (args : List V) (st : St) : Res := match v with
  | .f (.func f) first caps => (match ext? P f with
    | some g => (match extE P g (first ++ args ++ caps) st with | some r => some r | none => extS P c f (first ++ args ++ caps) st)
    | none => F c f (first ++ args ++ caps) st)
  | _ => none
theorem funV_c {P : Program} {F : CallF} {c : Cx} {f : Nat} (h : ext? P f = none) (first caps args : List V) (st : St) : funV P F c (.f (.func f) first caps) args st = F c f (first ++ args ++ caps) st := by
  unfold funV
  simp [h]
theorem evOp_callW {P : Program} {F : CallF} {c : Cx} {e : Env} {st : St} {d : Option Nat} {ty : TypeId} {p : String} {af : Array Edge} {g : Option (Nat × Bool)} (q : Nat) (args : Array Operand) (ats : Array TypeId) : evOp P F c e st ⟨d, .call ⟨.value (.tmp q), args, ats⟩, ty, p, af, g⟩ = opds e args.toList fun args => opd e (.tmp q) fun f => funV P F c f args st := rfl
theorem evOp_mkF {P : Program} {F : CallF} {c : Cx} {e : Env} {st : St} {d : Option Nat} {ty : TypeId} {p : String} {af : Array Edge} {g : Option (Nat × Bool)} (f : Fn) (first caps : Array Operand) : evOp P F c e st ⟨d, .makeFunc f first caps, ty, p, af, g⟩ = opds e first.toList fun a => opds e caps.toList fun b => some (.f f a b, st) := rfl
/-- some words put over others -/
def putL (L : List (BitVec 64)) (i : Nat) (W : List (BitVec 64)) : List (BitVec 64) := L.take i ++ W ++ L.drop (i + W.length)
theorem putL_length {L : List (BitVec 64)} {i : Nat} {W : List (BitVec 64)} (h : i + W.length ≤ L.length) : (putL L i W).length = L.length := by
  unfold putL
  simp only [List.length_append, List.length_take, List.length_drop]
  omega
theorem putL_get {L : List (BitVec 64)} {i : Nat} {W : List (BitVec 64)} (h : i + W.length ≤ L.length) (j : Nat) : (putL L i W)[j]? = if i ≤ j ∧ j < i + W.length then W[j - i]? else L[j]? := by
  unfold putL
  by_cases h1 : j < i
  · rw [if_neg (by omega), List.append_assoc, List.getElem?_append_left (by simp; omega), List.getElem?_take, if_pos h1]
  · by_cases h2 : j < i + W.length
    · rw [if_pos ⟨by omega, h2⟩, List.getElem?_append_left (by simp; omega), List.getElem?_append_right (by simp; omega)]
      simp only [List.length_take]
      rw [show min i L.length = i by omega]
    · rw [if_neg (by omega), List.getElem?_append_right (by simp; omega), List.getElem?_drop]
      simp only [List.length_append, List.length_take]
      congr 1
      omega
theorem putL_take {L : List (BitVec 64)} {i k : Nat} {W : List (BitVec 64)} (h : i + W.length ≤ L.length) (hk : k ≤ i) : (putL L i W).take k = L.take k := by
  apply List.ext_getElem?
  intro j
  rw [List.getElem?_take, List.getElem?_take]
  by_cases hj : j < k
  · rw [if_pos hj, if_pos hj, putL_get h, if_neg (by omega)]
  · rw [if_neg hj, if_neg hj]
theorem putL_here {L : List (BitVec 64)} {i : Nat} {W : List (BitVec 64)} (h : i + W.length ≤ L.length) : ((putL L i W).drop i).take W.length = W := by
  apply List.ext_getElem?
  intro j
  rw [List.getElem?_take]
  by_cases hj : j < W.length
  · rw [if_pos hj, List.getElem?_drop, putL_get h, if_pos (by omega)]; congr 1; omega
  · rw [if_neg hj, List.getElem?_eq_none (by omega)]
set_option maxRecDepth 20000 in
set_option maxHeartbeats 2000000 in
/-- the function that puts a block -/
theorem mput_any (st : St) (q m n a : Nat) (w : V) (L W : List (BitVec 64)) (tq t : T V) (ty : TypeId) (hq : st.h.get q = some (.cs 28 1 tq)) (hx : tq.get 0 = some (.sl m 0 n n)) (hm : st.h.get m = some (.cs ty n t)) (hro : ty ≠ roT) (hw : RdRow st w 1 W.length (wv W)) (ha : a * 8 + W.length ≤ n) (hlt : a * 8 < n) (hn : n ≤ 100000) (nt : Nat) :
    Gd (callL Try.prog ⟨false, [], 0, nt⟩ 35 [.int .i64 (a : Int), w, .p q 0] st) fun r => r.2 = ⟨st.nx, st.h.set m (.cs ty n (sets (wv W) (a * 8) t))⟩ := by
  rw [Gd_callL Try.func35 rfl]
  have w1 : IntKind.i64.wrap ((a : Int) * 8) = ((a * 8 : Nat) : Int) := by rw [show (a : Int) * 8 = ((a * 8 : Nat) : Int) by omega]; exact wrap_in (by omega) (by omega)
  simp [evOp_call, sets, T.get_set, loadE_eq, getC_eq, hq, hx, w1]
  have hsl : ∀ (e : Env) (c : Cx), e.get 7 = some (.int .i64 ((a : Int) * 8)) → sliceK Try.prog c e st 28 (.sl m 0 n n) (some (.tmp 7)) none = some (.sl m (0 + a * 8 * 1) (n - a * 8) (n - a * 8), st) := fun e c he => by
    unfold sliceK
    rw [sliceE_loS (k := a * 8) (i := .i64) un28 io39 (by simp [he]) m 0 n n (by omega) (Nat.le_refl _) hlt (fun a => some (a, st))]
  rw [hsl _ _ (by simp [T.get_set])]
  simp [evOp_call, T.get_set]
  rw [copy_d (lx := W.length) (n := W.length) (L := wv W) un28 io39 (fun k => hw.len k) (by show min _ _ = _; omega) (fun k => hw.firsts k) rfl (Nat.zero_le _) hm hro (by simp; omega)]
  simp [evOp_call, sets, T.get_set]
theorem Ev.OwnRow.setO {b b' k : Nat} {st : St} {x : V} {z n : Nat} {l : List V} (h : OwnRow b st x z n l) (hb : b' ≤ b) (hk : k < b) (w : B) : OwnRow b' ⟨st.nx, st.h.set k w⟩ x z n l := by
  obtain ⟨h1, h2⟩ := h
  refine ⟨h1, ?_⟩
  rcases h2 with h2 | ⟨m, ty, t, e, h3, h4, h5, h6⟩
  · exact .inl h2
  · exact .inr ⟨m, ty, t, e, by omega, h4, (T.get_set_ne _ _ (by omega)).trans h5, h6⟩
theorem bldImg (x y : Operand) (a b c d : Int) (m n : Nat) (st : St) : bldK Try.prog 47 [(0, x), (1, y)] [.g [.int .i64 a, .int .i64 b, .int .i64 c, .int .i64 d], .sg m 0 n 1] [.int .i64 0, .int .i64 0, .int .i64 0, .int .i64 0, .c (.slice none 0 0)] st = some (.g [.int .i64 a, .int .i64 b, .int .i64 c, .int .i64 d, .sg m 0 n 1], st) := by kernel_rfl
def opened (st : St) (n : Nat) (L : List (BitVec 64)) (g : Gm) (r : V × St) : Prop := ∃ z, r.1 = .t [.g [.int .i64 g.b, .int .i64 g.n, .int .i64 g.c, .int .i64 g.k, z], .int .i64 0] ∧ OwnRow st.nx r.2 z 1 n (wv L) ∧ Ext st.nx st r.2
set_option maxRecDepth 20000 in
set_option maxHeartbeats 4000000 in
theorem iopen_any (st : St) (y : V) (bl : Nat) (hb : 64 ≤ bl ∧ bl ≤ 1024) (L : List (BitVec 64)) (hy : RdRow st y 1 (8 * bl) (wv L)) (hcap : CapOk y) (g : Gm) (p : BitVec 64) (hg : ofH bl (L.take 8) = some (g, p)) (nt : Nat) :
    Gd (callL Try.prog ⟨false, [], 0, nt⟩ 12 [y] st) (opened st (8 * bl) L g) := by
  rw [Gd_callL Try.func12 rfl]
  simp [evOp_call, sets, T.get_set, newC_is]
  have x0 := fun b => (Ext.refl st.nx st).new (Nat.le_refl _) b
  refine Gd.mono (hfindR_any _ y bl hb L (hy.ext (x0 _)) hcap _) ?_
  rintro ⟨r, s1⟩ ⟨hr, x1⟩
  simp only at hr x1
  rw [hg] at hr
  subst hr
  have l1 : st.nx < s1.nx := x1.le
  have k0 : s1.h.get st.nx = _ := (x1.keep _ (Nat.lt_succ_self _)).trans (T.get_set_same _ _ _)
  have hne : ¬ s1.nx = st.nx := by omega
  have hs1 : Ext st.nx st s1 := (x0 _).trans (x1.mono (Nat.le_succ _))
  simp [findHV, hdO, hdV, evOp_call, sets, T.get_set, newC_is, storeK_g, putB_eq, roT]
  refine ⟨by kernel_rfl, ?_⟩
  simp [evOp_call, T.get_set, loadE_eq, getC_eq, getsB_succ, getsB_zero]
  have hylt : ∀ m, rowIn y m → m < st.nx := fun m h => by
    rcases h with ⟨_, _, _, h⟩ | ⟨_, _, _, h⟩
    · exact hy.lt_of.2 _ _ _ _ h
    · exact hy.lt_of.1 _ _ _ _ h
  have hbx : ∀ m, rowIn y m → inF [(s1.nx, s1.nx + 1)] m = false := fun m h => by
    rw [inF_cons, if_neg (by have := hylt m h; omega)]; rfl
  have hbk : ((some y).bind blkOf).elim false (inF [(s1.nx, s1.nx + 1)]) = false := by
    rcases hy.2 with ⟨e | e, _⟩ | ⟨m, o, r, ty, sz, t, e, _⟩ | ⟨m, o, ty, sz, t, e, _⟩
    · rw [e]; rfl
    · rw [e]; rfl
    · have := hbx m (.inl ⟨_, _, _, e⟩)
      rw [e]; exact this
    · have := hbx m (.inr ⟨_, _, _, e⟩)
      rw [e]; exact this
  rw [cxOf_callL [(s1.nx, s1.nx + 1)] (by kernel_rfl) (by kernel_rfl) (looseW_at 20 (.p s1.nx 0) (by simp [T.get_set]) (by kernel_rfl)) (fun x hx => by simp at hx; subst hx; rw [clashes_tmp]; simp only [T.get_set]; exact hbk) (fun p hp => by simp at hp; subst hp; rw [isRo_cs (T.get_set_same _ _ _)]; decide), forb_nil]
  have x2 := fun b => hs1.new (by omega) b
  refine Gd.mono (clone_fl _ [(s1.nx, s1.nx + 1)] (fun k hk => by have hk' : s1.nx + 1 ≤ k := hk; rw [inF_cons, if_neg (by omega)]; rfl) y _ _ (hy.ext (x2 _)) (by omega) hbx _) ?_
  rintro ⟨z, s2⟩ ⟨_, h2, _, x3⟩
  simp only at h2 x3
  have l2 : s1.nx + 1 ≤ s2.nx := x3.le
  have hne2 : ¬ s2.nx = st.nx := by omega
  have hz := h2 (by omega)
  have hone := hz.rd.one
  have k2 : s2.h.get st.nx = _ := (x3.keep st.nx (by show st.nx < s1.nx + 1; omega)).trans ((T.get_set_ne _ _ hne).trans k0)
  have hs2 : Ext st.nx st s2 := (x2 _).trans (x3.mono (by show st.nx ≤ s1.nx + 1; omega))
  simp [evOp_call, sets, T.get_set, newC_is, storeK_g, putB_eq, roT, loadE_eq, getC_eq, getsB_succ, getsB_zero, k2, hone, cellsOf]
  obtain ⟨mz, rfl, hmz⟩ : ∃ m, z = .sg m 0 (8 * bl) 1 ∧ st.nx < m := by
    rcases hz.2 with ⟨_, e⟩ | ⟨m, ty, t, e, e2, _⟩
    · omega
    · exact ⟨m, e, by have : s1.nx + 1 ≤ m := e2; omega⟩
  rw [bldImg]
  have hfin : ∀ w, Ext st.nx st ⟨s2.nx, s2.h.set st.nx w⟩ := fun w => hs2.set (m := st.nx) (Nat.le_refl _) (by omega) w
  simp [evOp_call, T.get_set]
  rw [cxOf_store]
  rotate_left
  · kernel_rfl
  rw [forb_rsOf (by kernel_rfl)]
  simp [evOp_call, sets, T.get_set, newC_is, storeK_g, putB_eq, roT, loadE_eq, getC_eq, getsB_succ, getsB_zero, k2, cellsOf]
  exact ⟨_, rfl, hz.setO (by omega) (by omega) _, hfin _⟩
end Go.Proofs.Ytcjddojcfdeflaa
set_option linter.unusedSimpArgs false
set_option linter.unusedVariables false
namespace Go.Proofs.Ytcjddojcfdeflaa
open Go.RowKit Ev
def isOut (g : Gm) (i : Nat) : Bool := decide ((i : Int) < dF g ∨ dF g + dN g ≤ (i : Int))
def outs (g : Gm) (k : Nat) : List Int := ((List.range k).filter (isOut g)).map fun i : Nat => (i : Int)
theorem outs_succ (g : Gm) (k : Nat) : outs g (k + 1) = outs g k ++ if isOut g k then [(k : Int)] else [] := by
  unfold outs
  rw [List.range_succ, List.filter_append, List.map_append]
  congr 1
  by_cases h : isOut g k = true
  · rw [if_pos h]; simp [h]
  · rw [if_neg h]; simp [h]
theorem outs_len (g : Gm) (k : Nat) : (outs g k).length ≤ k := by
  unfold outs
  rw [List.length_map]
  exact Nat.le_trans (List.length_filter_le _ _) (by rw [List.length_range]; exact Nat.le_refl _)
theorem outs_bd (g : Gm) (k : Nat) : ∀ i ∈ outs g k, 0 ≤ i ∧ i < k := fun i h => by
  unfold outs at h
  obtain ⟨j, hj, rfl⟩ := List.mem_map.1 h
  have := List.mem_range.1 (List.mem_filter.1 hj).1
  omega
def takW (g : Gm) : List (BitVec 64) := setB (List.replicate ((g.b.toNat + 63) / 64) 0#64) true (outs g g.b.toNat)
theorem takW_length (g : Gm) : (takW g).length = (g.b.toNat + 63) / 64 := by unfold takW; rw [setB_length, List.length_replicate]
noncomputable def tkB (st : St) (g : Gm) (s : St) : Prop := s.h.get st.nx = some (gB g) ∧ s.h.get (st.nx + 1) = some (.cs 49 1 (sets [V.c (.slice none 0 0)] 0 .lf)) ∧ Ext st.nx st s ∧ st.nx + 1 < s.nx
def tkI (st : St) (g : Gm) (e : Env) (s : St) : Prop := ∃ (k : Nat) (y : V), k ≤ g.b.toNat ∧ e.get 1 = some (.p st.nx 0) ∧ e.get 2 = some (.p (st.nx + 1) 0) ∧ e.get 3 = some (.int .i64 (dF g)) ∧ e.get 4 = some (.int .i64 (dN g)) ∧ e.get 5 = some y ∧ e.get 13 = some (.int .i64 g.b) ∧ e.get 14 = some (.int .i64 (k : Int)) ∧ tkB st g s ∧ OwnRow (st.nx + 2) s y 1 (outs g k).length (iv (outs g k))
theorem dF_bd {g : Gm} (h : isGood g) : 0 ≤ dF g ∧ 1 ≤ dN g ∧ dF g + dN g = g.b - 1 := ⟨by
  have hck := ck_le h.1
  obtain ⟨⟨h1, h2, h3, h4, h5, h6, h7, h8⟩, _⟩ := h
  have hbn : 1 ≤ bN g ∧ bN g ≤ 2 := by unfold bN; omega
  have hnF : nF g = 1 + g.c * g.k + bN g := rfl
  unfold dF
  omega, h.2, by unfold dN; omega⟩
theorem tkB.ext {st s s' : St} {g : Gm} (h : tkB st g s) (k : Ext s.nx s s') : tkB st g s' := by
  obtain ⟨h1, h2, h3, h4⟩ := h
  have := k.le
  exact ⟨(k.keep _ (by omega)).trans h1, (k.keep _ h4).trans h2, h3.trans (k.mono h3.le), by omega⟩
theorem tkB.grow {st s s' s'' : St} {g : Gm} (h : tkB st g s) (k : Ext (st.nx + 2) s s') (k' : Ext (st.nx + 2) s' s'') : tkB st g s'' := by
  obtain ⟨h1, h2, h3, h4⟩ := h
  have x := k.trans k'
  have := x.le
  exact ⟨(x.keep _ (by omega)).trans h1, (x.keep _ (by omega)).trans h2, h3.trans ⟨x.le, x.wf, fun n hn => x.keep n (by omega)⟩, by omega⟩
set_option maxRecDepth 20000 in
set_option maxHeartbeats 4000000 in
theorem taken_any (st : St) (g : Gm) (hg : isGood g) (nt : Nat) :
    Gd (callL Try.prog ⟨false, [], 0, nt⟩ 39 [gV g] st) fun r => ∃ y, r.1 = .g [y] ∧ RdRow r.2 y 1 (takW g).length (wv (takW g)) ∧ RowFrom st.nx y ∧ Ext st.nx st r.2 := by
  rw [Gd_callL Try.func39 rfl]
  have hsm := hg.1
  obtain ⟨hb1, hb2, hsm'⟩ := hg.1
  obtain ⟨d1, d2, d3⟩ := dF_bd hg
  have gVg : V.g [V.int .i64 g.b, V.int .i64 g.n, V.int .i64 g.c, V.int .i64 g.k] = gV g := rfl
  simp [gV, evOp_call, sets, T.get_set, cellsOf, newC_is, loadE_eq, getC_eq, getsB_succ, getsB_zero]
  rw [gVg]
  have x0 : Ext st.nx st ⟨st.nx + 1 + 1, (st.h.set st.nx (gB g)).set (st.nx + 1) (.cs 49 1 (sets [V.c (.slice none 0 0)] 0 .lf))⟩ := ((Ext.refl st.nx st).new (Nat.le_refl _) _).new (Nat.le_succ _) _
  refine Gd.mono (gdata_any _ [] (fun _ _ => rfl) 0 (Nat.zero_le _) g _) ?_
  rintro ⟨r, s1⟩ ⟨hr, x1⟩
  simp only at hr x1
  have hr2 : r = .t [.int .i64 (dF g), .int .i64 (dN g)] := by rw [hr]; unfold at2; rw [if_pos hg]
  clear hr
  subst hr2
  have l1 : st.nx + 1 + 1 ≤ s1.nx := x1.le
  have hB : tkB st g s1 := ⟨(x1.keep st.nx (by show st.nx < st.nx + 1 + 1; omega)).trans ((T.get_set_ne _ _ (show st.nx + 1 ≠ st.nx by omega)).trans (T.get_set_same _ _ _)), (x1.keep (st.nx + 1) (Nat.lt_succ_self _)).trans (T.get_set_same _ _ _), x0.trans (x1.mono (by show st.nx ≤ st.nx + 1 + 1; omega)), by omega⟩
  have k0 : s1.h.get st.nx = some (.cs 45 4 ((((T.lf.set 0 (.int .i64 g.b)).set 1 (.int .i64 g.n)).set 2 (.int .i64 g.c)).set 3 (.int .i64 g.k))) := hB.1
  simp [evOp_call, T.get_set, loadE_eq, getC_eq, k0]
  refine Gd_loop (tkI st g) (fun e _ => muAt 14 g.b.toNat e) ?_ ?_
  · exact ⟨0, .c (.slice none 0 0), Nat.zero_le _, by simp [T.get_set], by simp [T.get_set], by simp [T.get_set], by simp [T.get_set], by simp [T.get_set], by simp [T.get_set], by simp [T.get_set], hB, OwnRow.nil _ _ _⟩
  clear k0 hB x1 l1
  rintro e s ⟨k, y, hk, g1, g2, g3, g4, g5, g13, g14, hB, hrow⟩
  have k0 : s.h.get st.nx = some (.cs 45 4 ((((T.lf.set 0 (.int .i64 g.b)).set 1 (.int .i64 g.n)).set 2 (.int .i64 g.c)).set 3 (.int .i64 g.k))) := hB.1
  have hol := outs_len g k
  by_cases hlt : (k : Int) < g.b
  case neg =>
    obtain rfl : k = g.b.toNat := by omega
    have hgb : ((g.b.toNat : Nat) : Int) = g.b := by omega
    have hlt2 : ¬ g.b < g.b := by omega
    simp [evOp_call, T.get_set, g1, g2, g5, g13, g14, hgb, hlt2, loadE_eq, getC_eq, k0]
    rw [show V.int .i64 g.b = V.int .i64 ((g.b.toNat : Nat) : Int) by rw [hgb]]
    refine Gd.mono (bnew_any s g.b.toNat (by omega) _) ?_
    rintro ⟨r, s1⟩ ⟨y0, hr, h0, f0, x1⟩
    simp only at hr h0 f0 x1
    subst hr
    simp [evOp_call, T.get_set, g5]
    refine Gd.mono (set_any s1 y0 y (List.replicate ((g.b.toNat + 63) / 64) 0#64) (by rw [List.length_replicate]; exact h0) (by rw [List.length_replicate]; omega) true (outs g g.b.toNat) (hrow.ext x1).rd (by omega) (fun i hi => by have := outs_bd g _ i hi; omega) _) ?_
    rintro ⟨r, s2⟩ ⟨y1, hr, h1, f1, x2⟩
    simp only at hr h1 f1 x2
    subst hr
    have hone := h1.one
    obtain ⟨q1, q2, q3, q4⟩ := (hB.ext x1).ext x2
    have ln1 := x1.le
    have hy1 : ∀ m, (∀ o l q, y1 ≠ .sl m o l q) ∧ (∀ o l z, y1 ≠ .sg m o l z) ∨ s1.nx ≤ m := fun m => by
      by_cases h : s1.nx ≤ m
      · exact .inr h
      · exact .inl ⟨fun o l q e => h (f1.2 m o l q e), fun o l z e => h (f1.1 m o l z e)⟩
    have hne : (∀ o l q, y1 ≠ .sl (st.nx + 1) o l q) ∧ (∀ o l z, y1 ≠ .sg (st.nx + 1) o l z) := (hy1 (st.nx + 1)).resolve_right (by have := hB.2.2.2; omega)
    simp [evOp_call, sets, T.get_set, g2, storeK_g, putB_eq, roT, q2, hone, cellsOf, loadE_eq, getC_eq, getsB_succ, getsB_zero]
    refine ⟨?_, ⟨fun m o l z e => ?_, fun m o l q e => ?_⟩, q3.set (m := st.nx + 1) (Nat.le_succ _) (by omega) _⟩
    · have h2 := h1.setOther (k := st.nx + 1) (fun o l z e => hne.2 o l z e) (fun o l q e => hne.1 o l q e) (.cs 49 1 (T.lf.set 0 y1))
      rw [List.length_replicate] at h2
      rw [takW_length]
      exact h2
    · have := f1.1 m o l z e; have := hB.2.2.2; omega
    · have := f1.2 m o l q e; have := hB.2.2.2; omega
  have hwk := wrap_nat (n := k) (by omega)
  have wd1 : IntKind.i64.wrap (dF g + dN g) = dF g + dN g := wrap_in (by omega) (by omega)
  by_cases ho : isOut g k = true
  · have hcase : (k : Int) < dF g ∨ (¬ (k : Int) < dF g ∧ dF g + dN g ≤ (k : Int)) := by
      have : (k : Int) < dF g ∨ dF g + dN g ≤ (k : Int) := by unfold isOut at ho; exact of_decide_eq_true ho
      by_cases h : (k : Int) < dF g
      · exact .inl h
      · exact .inr ⟨h, this.resolve_left h⟩
    rcases hcase with c1 | ⟨c1, c2⟩
    · simp [evOp_call, T.get_set, g1, g2, g3, g4, g5, g13, g14, hlt, c1]
      refine evOp_build1 (v := .int .i64 (k : Int)) (cs := [.int .i64 (k : Int)]) (fun k => el63 k) (fun k => ze3 k) rfl (by decide) (by simp [T.get_set]) (fun k => rfl) rfl ?_
      simp [T.get_set]
      have x8 := (Ext.refl s.nx s).new (Nat.le_refl _) (.cs 3 1 (sets [V.int .i64 (k : Int)] 0 .lf))
      have hln := hB.2.2.2
      refine Gd_append un63 un63 io3 (lx := 1) (new := [.int .i64 (k : Int)]) (hrow.ext x8) (by show st.nx + 2 ≤ s.nx + 1; omega) (by decide) (fun s' h => by cases h) (fun k => rfl) (fun k => by simp [getC_eq, getsB_1, T.get_set, sets]) rfl (by omega) ?_
      intro w' s8 hro x9 _ _
      simp [evOp_call, T.get_set, g14, hwk]
      refine ⟨⟨k + 1, w', by omega, by simp [T.get_set, g1], by simp [T.get_set, g2], by simp [T.get_set, g3], by simp [T.get_set, g4], by simp [T.get_set], by simp [T.get_set, g13], by simp [T.get_set], hB.grow (x8.mono (by omega)) x9, ?_⟩, muAt_lt g14 (by simp [T.get_set]) (by omega)⟩
      rw [outs_succ, if_pos ho]
      have e3 : iv (outs g k ++ [(k : Int)]) = iv (outs g k) ++ [V.int .i64 (k : Int)] := by simp [iv]
      rw [e3, List.length_append]
      exact hro
    · simp [evOp_call, T.get_set, g1, g2, g3, g4, g5, g13, g14, hlt, c1, c2, wd1]
      refine evOp_build1 (v := .int .i64 (k : Int)) (cs := [.int .i64 (k : Int)]) (fun k => el63 k) (fun k => ze3 k) rfl (by decide) (by simp [T.get_set]) (fun k => rfl) rfl ?_
      simp [T.get_set]
      have x8 := (Ext.refl s.nx s).new (Nat.le_refl _) (.cs 3 1 (sets [V.int .i64 (k : Int)] 0 .lf))
      have hln := hB.2.2.2
      refine Gd_append un63 un63 io3 (lx := 1) (new := [.int .i64 (k : Int)]) (hrow.ext x8) (by show st.nx + 2 ≤ s.nx + 1; omega) (by decide) (fun s' h => by cases h) (fun k => rfl) (fun k => by simp [getC_eq, getsB_1, T.get_set, sets]) rfl (by omega) ?_
      intro w' s8 hro x9 _ _
      simp [evOp_call, T.get_set, g14, hwk]
      refine ⟨⟨k + 1, w', by omega, by simp [T.get_set, g1], by simp [T.get_set, g2], by simp [T.get_set, g3], by simp [T.get_set, g4], by simp [T.get_set], by simp [T.get_set, g13], by simp [T.get_set], hB.grow (x8.mono (by omega)) x9, ?_⟩, muAt_lt g14 (by simp [T.get_set]) (by omega)⟩
      rw [outs_succ, if_pos ho]
      have e3 : iv (outs g k ++ [(k : Int)]) = iv (outs g k) ++ [V.int .i64 (k : Int)] := by simp [iv]
      rw [e3, List.length_append]
      exact hro
  · have ho' : ¬ ((k : Int) < dF g ∨ dF g + dN g ≤ (k : Int)) := fun h => ho (by unfold isOut; exact decide_eq_true h)
    have c1 : ¬ (k : Int) < dF g := fun h => ho' (.inl h)
    have c2 : ¬ dF g + dN g ≤ (k : Int) := fun h => ho' (.inr h)
    simp [evOp_call, T.get_set, g1, g2, g3, g4, g5, g13, g14, hlt, c1, c2, wd1, hwk]
    exact ⟨⟨k + 1, y, by omega, by simp [T.get_set, g1], by simp [T.get_set, g2], by simp [T.get_set, g3], by simp [T.get_set, g4], by simp [T.get_set, g5], by simp [T.get_set, g13], by simp [T.get_set], hB, by rw [outs_succ, if_neg ho, List.append_nil]; exact hrow⟩, muAt_lt g14 (by simp [T.get_set]) (by omega)⟩
end Go.Proofs.Ytcjddojcfdeflaa
set_option linter.unusedSimpArgs false
set_option linter.unusedVariables false
namespace Go.Proofs.Ytcjddojcfdeflaa
open Go.RowKit Ev
def rootN : Nd := ⟨2, 1, 0, []⟩
def lostN (g : Gm) : Nd := ⟨2, 1, g.n, [(nF g + g.n, g.n)]⟩
def zeroW (g : Gm) : List (BitVec 64) := List.replicate (8 * g.b.toNat) 0#64
def img1 (g : Gm) : List (BitVec 64) := putL (zeroW g) 0 (putH g 0#64)
def img2 (g : Gm) : List (BitVec 64) := putL (img1 g) ((g.b - 1).toNat * 8) (putH g 0#64)
def img3 (g : Gm) : List (BitVec 64) := putL (img2 g) ((nF g).toNat * 8) (putN rootN)
def img4 (g : Gm) : List (BitVec 64) := putL (img3 g) ((nF g + 1).toNat * 8) (putN (lostN g))
def imgW (g : Gm) : List (BitVec 64) := putL (img4 g) ((1 + g.c * g.k).toNat * 8) (takW g)
structure MkS (st s : St) (g : Gm) (m q : Nat) (L : List (BitVec 64)) : Prop where
  box : s.h.get st.nx = some (gB g)
  cell : ∃ tq, s.h.get q = some (.cs 28 1 tq) ∧ tq.get 0 = some (.sl m 0 (8 * g.b.toNat) (8 * g.b.toNat))
  row : ∃ t, s.h.get m = some (.cs 39 (8 * g.b.toNat) t) ∧ ∀ j v, L[j]? = some v → t.get j = some (wd v)
  len : L.length = 8 * g.b.toNat
  lt : st.nx < m ∧ m < q ∧ q < s.nx
  ex : Ext st.nx st s
theorem MkS.ext {st s s' : St} {g : Gm} {m q : Nat} {L : List (BitVec 64)} (h : MkS st s g m q L) (k : Ext s.nx s s') : MkS st s' g m q L := by
  obtain ⟨h1, ⟨tq, h2, h3⟩, ⟨t, h4, h5⟩, h6, ⟨l1, l2, l3⟩, h7⟩ := h
  have := k.le
  exact ⟨(k.keep _ (by omega)).trans h1, ⟨tq, (k.keep _ l3).trans h2, h3⟩, ⟨t, (k.keep _ (by omega)).trans h4, h5⟩, h6, ⟨l1, l2, by omega⟩, h7.trans (k.mono h7.le)⟩
theorem MkS.k0 {st s : St} {g : Gm} {m q : Nat} {L : List (BitVec 64)} (h : MkS st s g m q L) : s.h.get st.nx = some (.cs 45 4 ((((T.lf.set 0 (.int .i64 g.b)).set 1 (.int .i64 g.n)).set 2 (.int .i64 g.c)).set 3 (.int .i64 g.k))) := h.box
theorem MkS.put {st s : St} {g : Gm} {m q : Nat} {L : List (BitVec 64)} (h : MkS st s g m q L) (a : Nat) (w : V) (W : List (BitVec 64)) (hw : RdRow s w 1 W.length (wv W)) (ha : a * 8 + W.length ≤ 8 * g.b.toNat) (hlt : a * 8 < 8 * g.b.toNat) (hn : g.b.toNat ≤ 1024) (nt : Nat) :
    Gd (callL Try.prog ⟨false, [], 0, nt⟩ 35 [.int .i64 (a : Int), w, .p q 0] s) fun r => MkS st r.2 g m q (putL L (a * 8) W) := by
  obtain ⟨h1, ⟨tq, h2, h3⟩, ⟨t, h4, h5⟩, h6, ⟨l1, l2, l3⟩, h7⟩ := h
  refine Gd.mono (mput_any s q m (8 * g.b.toNat) a w L W tq t _ h2 h3 h4 (by decide) hw ha hlt (by omega) nt) ?_
  rintro ⟨r, s'⟩ hr
  simp only at hr
  subst hr
  refine ⟨(T.get_set_ne _ _ (by omega)).trans h1, ⟨tq, (T.get_set_ne _ _ (by omega)).trans h2, h3⟩, ⟨_, T.get_set_same _ _ _, fun j v hj => ?_⟩, by rw [putL_length (by omega)]; exact h6, ⟨l1, l2, l3⟩, h7.set (m := m) (by omega) (by omega) _⟩
  rw [putL_get (by omega)] at hj
  rw [get_sets]
  simp only [wv_length]
  by_cases hc : a * 8 ≤ j ∧ j < a * 8 + W.length
  · rw [if_pos hc] at hj
    rw [if_pos hc]
    unfold wv
    rw [List.getElem?_map, hj]; rfl
  · rw [if_neg hc] at hj
    rw [if_neg hc]
    exact h5 j v hj
theorem bldHd (x : Operand) (g : Gm) (st : St) : bldK Try.prog 80 [(0, x)] [.g [.int .i64 g.b, .int .i64 g.n, .int .i64 g.c, .int .i64 g.k]] [.int .i64 0, .int .i64 0, .int .i64 0, .int .i64 0, .int .u64 0] st = some (hdV g 0#64, st) := by kernel_rfl
theorem MkS.putI {st s : St} {g : Gm} {m q : Nat} {L : List (BitVec 64)} (h : MkS st s g m q L) (a : Int) (h0 : 0 ≤ a) (w : V) (W : List (BitVec 64)) (hw : RdRow s w 1 W.length (wv W)) (ha : a.toNat * 8 + W.length ≤ 8 * g.b.toNat) (hlt : a.toNat * 8 < 8 * g.b.toNat) (hn : g.b.toNat ≤ 1024) (nt : Nat) :
    Gd (callL Try.prog ⟨false, [], 0, nt⟩ 35 [.int .i64 a, w, .p q 0] s) fun r => MkS st r.2 g m q (putL L (a.toNat * 8) W) := by
  have := h.put a.toNat w W hw ha hlt hn nt
  rw [Int.toNat_of_nonneg h0] at this
  exact this
theorem putN_le (N : Nd) : (putN N).length ≤ 8 := by
  unfold putN
  split
  · split
    · simp
    · rw [List.length_set, bodyN, runsN_length]; exact Nat.le_refl _
  · exact Nat.zero_le _
theorem bldNd2 (x y : Operand) (a b : Int) (st : St) : bldK Try.prog 33 [(0, x), (1, y)] [.int .i64 a, .int .i64 b] [.int .i64 0, .int .i64 0, .int .i64 0, .c (.slice none 0 0)] st = some (.g [.int .i64 a, .int .i64 b, .int .i64 0, .c (.slice none 0 0)], st) := by kernel_rfl
@[simp] theorem fdBitsI (y : V) (k : V → Res) : fldK Try.prog 49 0 (.g [y]) k = k y := by kernel_rfl
def madeR (st : St) (g : Gm) (r : V × St) : Prop := (isGood g ∧ ∃ z, r.1 = .t [z, .int .i64 0] ∧ SlRow st.nx r.2 z (8 * g.b.toNat) (imgW g) ∧ Ext st.nx st r.2) ∨ (¬ isGood g ∧ r.1 = .t [.c (.slice none 0 0), .int .i64 1] ∧ Ext st.nx st r.2)
set_option maxRecDepth 20000 in
set_option maxHeartbeats 8000000 in
theorem make_any (st : St) (g : Gm) (nt : Nat) :
    Gd (callL Try.prog ⟨false, [], 0, nt⟩ 15 [gV g] st) (madeR st g) := by
  rw [Gd_callL Try.func15 rfl]
  have gVg : V.g [V.int .i64 g.b, V.int .i64 g.n, V.int .i64 g.c, V.int .i64 g.k] = gV g := rfl
  simp [gV, evOp_call, sets, T.get_set, cellsOf, newC_is, loadE_eq, getC_eq, getsB_succ, getsB_zero]
  rw [gVg]
  have x0 : Ext st.nx st ⟨st.nx + 1, st.h.set st.nx (gB g)⟩ := (Ext.refl st.nx st).new (Nat.le_refl _) _
  refine Gd.mono (good_any _ [] (fun _ _ => rfl) 0 (Nat.zero_le _) g _) ?_
  rintro ⟨r, s1⟩ ⟨hr, x1⟩
  simp only at hr x1
  subst hr
  have l1 : st.nx + 1 ≤ s1.nx := x1.le
  have hs1 : Ext st.nx st s1 := x0.trans (x1.mono (Nat.le_succ _))
  have k0 : s1.h.get st.nx = some (.cs 45 4 ((((T.lf.set 0 (.int .i64 g.b)).set 1 (.int .i64 g.n)).set 2 (.int .i64 g.c)).set 3 (.int .i64 g.k))) := (x1.keep st.nx (Nat.lt_succ_self _)).trans (T.get_set_same _ _ _)
  by_cases hg : isGood g
  rotate_left
  · have hd : decide (isGood g) = false := by simpa using hg
    simp [evOp_call, T.get_set, hd]
    exact .inr ⟨hg, rfl, hs1⟩
  have hd : decide (isGood g) = true := by simpa using hg
  obtain ⟨hb1, hb2, hsm⟩ := hg.1
  obtain ⟨n, hn⟩ : ∃ n : Nat, n = 8 * g.b.toNat := ⟨_, rfl⟩
  have w1 : IntKind.i64.wrap (g.b * 8) = (n : Int) := by rw [show g.b * 8 = (n : Int) by omega]; exact wrap_in (by omega) (by omega)
  simp [evOp_call, T.get_set, hd, loadE_eq, getC_eq, k0, w1]
  refine Gd_make (i := .i64) (i' := .i64) (n := n) (q := n) (zs := [V.int .u64 0]) (fun k => el28 k) io39 (fun k => ze39 k) (by simp [T.get_set]) (by simp [T.get_set]) (Nat.le_refl _) (by omega) ?_
  have hsl := SlRow.made (b := st.nx) (n := n) (st := s1) (el := 39) (by omega) (by decide)
  have hrl : (rep [V.int .u64 0] n).length = n := by rw [rep_one]; simp
  have hn1 : ¬ s1.nx + 1 = s1.nx := by omega
  simp [evOp_call, T.get_set, newC_is, storeK_1, putB_eq, roT, sets, evOp_mkF]
  have hM : MkS st ⟨s1.nx + 1 + 1, (s1.h.set s1.nx (.cs 39 (rep [V.int .u64 0] n).length (sets (rep [V.int .u64 0] n) 0 .lf))).set (s1.nx + 1) (.cs 28 1 (T.lf.set 0 (.sl s1.nx 0 n n)))⟩ g s1.nx (s1.nx + 1) (zeroW g) := by
    refine ⟨(T.get_set_ne _ _ (show s1.nx + 1 ≠ st.nx by omega)).trans ((T.get_set_ne _ _ (show s1.nx ≠ st.nx by omega)).trans k0), ⟨_, T.get_set_same _ _ _, by rw [← hn]; exact T.get_set_same _ _ _⟩, ⟨sets (rep [V.int .u64 0] n) 0 .lf, ?_, fun j v hj => ?_⟩, by unfold zeroW; rw [List.length_replicate], ⟨by omega, by omega, Nat.lt_succ_self _⟩, (hs1.new (by omega) _).new (by show st.nx ≤ s1.nx + 1; omega) _⟩
    · rw [T.get_set_ne _ _ (show s1.nx + 1 ≠ s1.nx by omega), T.get_set_same, hrl, hn]
    · obtain ⟨_, m, ty, t, e1, _, _, e4, _, e6⟩ := hsl
      injection e1 with e1
      subst e1
      rw [hrl] at e4
      have := e4.symm.trans (T.get_set_same _ _ _)
      injection this with this
      injection this with _ _ this
      subst this
      unfold zeroW at hj
      rw [← hn] at hj
      exact e6 j v hj
  generalize (⟨s1.nx + 1 + 1, (s1.h.set s1.nx (.cs 39 (rep [V.int .u64 0] n).length (sets (rep [V.int .u64 0] n) 0 .lf))).set (s1.nx + 1) (.cs 28 1 (T.lf.set 0 (.sl s1.nx 0 n n)))⟩ : St) = s5 at hM ⊢
  generalize s1.nx = m at hM ⊢
  generalize m + 1 = q at hM ⊢
  have k5 := hM.k0
  simp [evOp_call, T.get_set, loadE_eq, getC_eq, getsB_succ, getsB_zero, k5]
  have hH : (putH g 0#64).length = 8 := putH_length _ hg
  rw [bldHd]
  simp [evOp_call, T.get_set]
  refine Gd.mono (hput_any s5 g 0#64 _) ?_
  rintro ⟨w1, s6⟩ ⟨hr1, _, _, x6⟩
  simp only at hr1 x6
  have hM6 := hM.ext x6
  simp [evOp_call, evOp_callW, T.get_set, funV_c xt35]
  refine Gd.mono (show Gd (callL Try.prog ⟨false, [], 0, _⟩ 35 [.int .i64 0, w1, .p q 0] s6) _ from hM6.put 0 w1 (putH g 0#64) hr1 (by omega) (by omega) (by omega) _) ?_
  rintro ⟨_, s7⟩ hM7
  simp only at hM7
  have k7 := hM7.k0
  simp [evOp_call, T.get_set]
  refine ⟨by kernel_rfl, ?_⟩
  simp [evOp_call, T.get_set, loadE_eq, getC_eq, getsB_succ, getsB_zero, k7]
  have l7 : st.nx < s7.nx := by have := hM7.lt; omega
  have hfl : ∀ k, s7.nx ≤ k → inF [(st.nx, st.nx + 1)] k = false := fun k hk => by rw [inF_cons, if_neg (by omega)]; rfl
  rw [gVg, cxOf_callL [(st.nx, st.nx + 1)] (by kernel_rfl) (by kernel_rfl) (looseW_at 1 (.p st.nx 0) (by simp [T.get_set]) (by kernel_rfl)) (fun x hx => by simp at hx; subst hx; simp [clashes_tmp, T.get_set, gV]) (fun p hp => by simp at hp; subst hp; rw [isRo_cs k7]; decide)]
  refine Gd.mono (gback_any s7 [(st.nx, st.nx + 1)] hfl 0 (Nat.zero_le _) g _) ?_
  rintro ⟨r, s8⟩ ⟨hr, x8⟩
  simp only at hr x8
  rw [if_pos hg] at hr
  subst hr
  have hM8 := hM7.ext x8
  have k8 := hM8.k0
  have hld : ∀ (b i nx' : Nat), inF ((0, st.nx) :: (st.nx + 1, nx') :: forb b (rsOf [] i s7.nx s8.nx) []) st.nx = false := fun b i nx' => inF_ld l7
  simp [evOp_call, T.get_set, loadE_eq, getC_eq, getsB_succ, getsB_zero, k8, hld]
  rw [bldHd]
  simp [evOp_call, T.get_set]
  rw [cxOf_call (by kernel_rfl) (by kernel_rfl), forb_rsOf (by kernel_rfl)]
  refine Gd.mono (hput_any s8 g 0#64 _) ?_
  rintro ⟨w2, s9⟩ ⟨hr2, _, _, x9⟩
  simp only at hr2 x9
  have hM9 := hM8.ext x9
  simp [evOp_call, evOp_callW, T.get_set, funV_c xt35]
  rw [cxOf_call (by kernel_rfl) (by kernel_rfl), forb_rsOf2 (by kernel_rfl) (by kernel_rfl)]
  refine Gd.mono (hM9.putI (g.b - 1) (by omega) w2 (putH g 0#64) hr2 (by omega) (by omega) (by omega) _) ?_
  rintro ⟨_, s10⟩ hM10
  simp only at hM10
  have k10 := hM10.k0
  simp [evOp_call, T.get_set, loadE_eq, getC_eq, getsB_succ, getsB_zero, k10]
  have hck := ck_le hg.1
  obtain ⟨hn1', hn2', hc1, hc2, hk1, hk2⟩ := hsm
  have hbn : 1 ≤ bN g ∧ bN g ≤ 2 := by unfold bN; omega
  have hbn2 : g.b ≤ 512 * bN g := by unfold bN; omega
  have hnF : nF g = 1 + g.c * g.k + bN g := rfl
  have hdF : dF g = nF g + g.n + g.n := rfl
  have hdN : dN g = g.b - 1 - dF g := rfl
  have hdN1 := hg.2
  have hrl2 := putN_le rootN
  have hll2 := putN_le (lostN g)
  have htl := takW_length g
  rw [gVg]
  refine Gd.mono (gnode_any s10 [] (fun _ _ => rfl) 0 (Nat.zero_le _) g 1 _) ?_
  rintro ⟨r, s11⟩ ⟨hr, x11⟩
  simp only at hr x11
  rw [if_pos ⟨hg, by omega, by omega⟩, show nF g + 1 - 1 = nF g by omega] at hr
  subst hr
  have hM11 := hM10.ext x11
  simp [evOp_call, T.get_set]
  rw [bldNd2]
  simp [evOp_call, T.get_set]
  refine Gd.mono (nput_any s11 rootN (.c (.slice none 0 0)) (OwnRow.nil 0 s11 2).rd _) ?_
  rintro ⟨w3, s12⟩ ⟨hr3, _, x12⟩
  simp only at hr3 x12
  have hM12 := hM11.ext x12
  simp [evOp_call, evOp_callW, T.get_set, funV_c xt35]
  refine Gd.mono (hM12.putI (nF g) (by omega) w3 (putN rootN) hr3 (by omega) (by omega) (by omega) _) ?_
  rintro ⟨_, s13⟩ hM13
  simp only at hM13
  have k13 := hM13.k0
  simp [evOp_call, T.get_set, loadE_eq, getC_eq, getsB_succ, getsB_zero, k13]
  rw [gVg]
  refine Gd.mono (glost_any s13 [] (fun _ _ => rfl) 0 (Nat.zero_le _) g _) ?_
  rintro ⟨r, s14⟩ ⟨hr, x14⟩
  simp only at hr x14
  unfold at2 at hr
  rw [if_pos hg] at hr
  subst hr
  have hM14 := hM13.ext x14
  have k14 := hM14.k0
  simp [evOp_call, T.get_set, loadE_eq, getC_eq, getsB_succ, getsB_zero, k14]
  rw [gVg]
  refine Gd.mono (gnode_any s14 [] (fun _ _ => rfl) 0 (Nat.zero_le _) g 2 _) ?_
  rintro ⟨r, s15⟩ ⟨hr, x15⟩
  simp only at hr x15
  rw [if_pos ⟨hg, by omega, by omega⟩, show nF g + 2 - 1 = nF g + 1 by omega] at hr
  subst hr
  have hM15 := hM14.ext x15
  simp [evOp_call, T.get_set]
  refine evOp_build1 (v := .g [.int .i64 (nF g + g.n), .int .i64 g.n]) (cs := [.int .i64 (nF g + g.n), .int .i64 g.n]) (fun k => el31 k) (fun k => ze87 k) rfl (by decide) (by simp [T.get_set]) (fun k => rfl) rfl ?_
  have x16 := (Ext.refl s15.nx s15).new (Nat.le_refl _) (.cs 87 2 (sets [V.int .i64 (nF g + g.n), V.int .i64 g.n] 0 .lf))
  have hM16 := hM15.ext x16
  simp [evOp_call, T.get_set]
  have hrun : RdRow (⟨s15.nx + 1, s15.h.set s15.nx (.cs 87 2 (sets [V.int .i64 (nF g + g.n), V.int .i64 g.n] 0 .lf))⟩ : St) (.sl s15.nx 0 1 1) 2 (lostN g).R.length (pairs (lostN g).R) := by
    refine ⟨rfl, .inr (.inl ⟨s15.nx, 0, 1, 87, 2, _, rfl, Nat.lt_succ_self _, T.get_set_same _ _ _, Nat.le_refl _, fun j v hj => ?_⟩)⟩
    rw [Nat.zero_add, get_sets]
    have hj2 : j < 2 := lt_of_get hj
    rw [if_pos ⟨Nat.zero_le _, by simpa using hj2⟩]
    exact hj
  refine Gd.mono (nput_any _ (lostN g) (.sl s15.nx 0 1 1) hrun _) ?_
  rintro ⟨w4, s17⟩ ⟨hr4, _, x17⟩
  simp only at hr4 x17
  have hM17 := hM16.ext x17
  simp [evOp_call, evOp_callW, T.get_set, funV_c xt35]
  refine Gd.mono (hM17.putI (nF g + 1) (by omega) w4 (putN (lostN g)) hr4 (by omega) (by omega) (by omega) _) ?_
  rintro ⟨_, s18⟩ hM18
  simp only at hM18
  have k18 := hM18.k0
  simp [evOp_call, T.get_set, loadE_eq, getC_eq, getsB_succ, getsB_zero, k18]
  rw [gVg]
  refine Gd.mono (gbits_any s18 [] (fun _ _ => rfl) 0 (Nat.zero_le _) g _) ?_
  rintro ⟨r, s19⟩ ⟨hr, x19⟩
  simp only at hr x19
  unfold at2 at hr
  rw [if_pos hg] at hr
  subst hr
  have hM19 := hM18.ext x19
  have k19 := hM19.k0
  simp [evOp_call, T.get_set, loadE_eq, getC_eq, getsB_succ, getsB_zero, k19]
  rw [gVg]
  refine Gd.mono (taken_any s19 g hg _) ?_
  rintro ⟨r, s20⟩ ⟨w5, hr, hr5, _, x20⟩
  simp only at hr hr5 x20
  subst hr
  have hM20 := hM19.ext x20
  simp [evOp_call, evOp_callW, T.get_set, funV_c xt35]
  refine Gd.mono (hM20.putI (1 + g.c * g.k) (by omega) w5 (takW g) hr5 (by omega) (by omega) (by omega) _) ?_
  rintro ⟨_, s21⟩ hM21
  simp only at hM21
  obtain ⟨tq, h2, h3⟩ := hM21.cell
  simp [evOp_call, T.get_set, loadE_eq, getC_eq, getsB_succ, getsB_zero, h2, h3]
  obtain ⟨t, h4, h5⟩ := hM21.row
  obtain ⟨q1, q2, q3⟩ := hM21.lt
  exact .inl ⟨hg, _, rfl, ⟨hM21.len, m, _, t, rfl, Nat.le_of_lt q1, Nat.lt_trans q2 q3, h4, by decide, h5⟩, hM21.ex⟩
end Go.Proofs.Ytcjddojcfdeflaa

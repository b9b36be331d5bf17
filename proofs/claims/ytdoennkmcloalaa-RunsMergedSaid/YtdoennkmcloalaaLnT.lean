/-
  Contracts of package line.
-/
import Derived.Test.YtdoennkmcloalaaTyPm
import Derived.Test.YtdoennkmcloalaaLnN
set_option linter.unusedSimpArgs false
namespace Go.Proofs.Ytdoennkmcloalaa
open Go.RowKit Ev
structure LM where
  S : List (BitVec 64)
  N : List (BitVec 64)
  O : List (Int × BitVec 64)
  F : Int
def ocells (O : List (Int × BitVec 64)) : List V := O.flatMap fun r => [.int .i64 r.1, wd r.2]
theorem ocells_app (O K : List (Int × BitVec 64)) : ocells (O ++ K) = ocells O ++ ocells K := by simp [ocells]
theorem ocells_length (O : List (Int × BitVec 64)) : (ocells O).length = O.length * 2 := by
  induction O with
  | nil => rfl
  | cons r L ih =>
    have : (ocells (r :: L)).length = (ocells L).length + 2 := by simp [ocells]
    rw [this, ih, List.length_cons]; omega
theorem ocells_get : ∀ (L : List (Int × BitVec 64)) (i : Nat) (r : Int × BitVec 64), L[i]? = some r → (ocells L)[i * 2 + 0]? = some (.int .i64 r.1) ∧ (ocells L)[i * 2 + 1]? = some (wd r.2)
  | [], i, r, h => by simp at h
  | q :: L, 0, r, h => by simp at h; subst h; exact ⟨rfl, rfl⟩
  | q :: L, i + 1, r, h => by
    have := ocells_get L i r (by simpa using h)
    rw [show ocells (q :: L) = .int .i64 q.1 :: wd q.2 :: ocells L from rfl, show (i + 1) * 2 + 0 = i * 2 + 0 + 1 + 1 by omega, show (i + 1) * 2 + 1 = i * 2 + 1 + 1 + 1 by omega]
    exact this
/-- the names that a line has -/
def Ow (n : Nat) (y : V) (k : Nat) : Prop := k = n ∨ ∃ o l z, y = .sg k o l z
structure LineAt (st : St) (n : Nat) (y : V) (m : LM) : Prop where
  ls : m.S.length = 8
  ln : m.N.length = 8
  lt : n < st.nx
  apart : ∀ o l z, y ≠ .sg n o l z
  small : m.O.length ≤ 1000
  oks : ∀ r ∈ m.O, 0 ≤ r.1 ∧ r.1 < 8
  blk : ∃ t, st.h.get n = some (.cs 269 18 t) ∧ (∀ i v, m.S[i]? = some v → t.get i = some (wd v)) ∧ (∀ i v, m.N[i]? = some v → t.get (8 + i) = some (wd v)) ∧ t.get 16 = some y ∧ t.get 17 = some (.int .i64 m.F)
  row : OwnRow 0 st y 2 m.O.length (ocells m.O)
/-- what a call on a line leaves as it was -/
structure Kept (n : Nat) (y : V) (st st' : St) : Prop where
  le : st.nx ≤ st'.nx
  wf : Wf st → Wf st'
  keep : ∀ k, k < st.nx → ¬ Ow n y k → st'.h.get k = st.h.get k
theorem Kept.refl (n : Nat) (y : V) (st : St) : Kept n y st st := ⟨Nat.le_refl _, fun h => h, fun _ _ _ => rfl⟩
theorem Kept.trans {n : Nat} {y : V} {s1 s2 s3 : St} (h : Kept n y s1 s2) (k : Kept n y s2 s3) : Kept n y s1 s3 := ⟨Nat.le_trans h.le k.le, fun w => k.wf (h.wf w), fun q hq hn => (k.keep q (Nat.lt_of_lt_of_le hq h.le) hn).trans (h.keep q hq hn)⟩
theorem Kept.ofExt {n : Nat} {y : V} {s1 s2 : St} (h : Ext s1.nx s1 s2) : Kept n y s1 s2 := ⟨h.le, h.wf, fun q hq _ => h.keep q hq⟩
theorem LineAt.own_lt {st : St} {n : Nat} {y : V} {m : LM} (h : LineAt st n y m) {k : Nat} (hk : Ow n y k) : k < st.nx := by
  rcases hk with rfl | ⟨o, l, z, rfl⟩
  · exact h.lt
  · obtain ⟨_, h2⟩ := h.row
    rcases h2 with ⟨h3, _⟩ | ⟨q, ty, t, h3, _, h4, _⟩
    · cases h3
    · injection h3 with e1; subst e1; exact h4
theorem LineAt.other {st st' : St} {n : Nat} {y : V} {m : LM} (h : LineAt st n y m) (hle : st.nx ≤ st'.nx) (k : ∀ q, Ow n y q → st'.h.get q = st.h.get q) : LineAt st' n y m := by
  obtain ⟨t, h1, h2⟩ := h.blk
  refine ⟨h.ls, h.ln, Nat.lt_of_lt_of_le h.lt hle, h.apart, h.small, h.oks, ⟨t, by rw [k n (.inl rfl)]; exact h1, h2⟩, ?_⟩
  obtain ⟨g1, g2⟩ := h.row
  refine ⟨g1, ?_⟩
  rcases g2 with g2 | ⟨q, ty, tr, rfl, g3, g4, g5, g6⟩
  · exact .inl g2
  · exact .inr ⟨q, ty, tr, rfl, g3, by omega, by rw [k q (.inr ⟨0, _, _, rfl⟩)]; exact g5, g6⟩
theorem LineAt.upd {st : St} {n : Nat} {y : V} {m : LM} (h : LineAt st n y m) {S' N' : List (BitVec 64)} {F' : Int} {t' : T V} (hs : S'.length = 8) (hn : N'.length = 8) (k1 : ∀ i v, S'[i]? = some v → t'.get i = some (wd v)) (k2 : ∀ i v, N'[i]? = some v → t'.get (8 + i) = some (wd v)) (k3 : t'.get 16 = some y) (k4 : t'.get 17 = some (.int .i64 F')) :
    LineAt ⟨st.nx, st.h.set n (.cs 269 18 t')⟩ n y ⟨S', N', m.O, F'⟩ ∧ Kept n y st ⟨st.nx, st.h.set n (.cs 269 18 t')⟩ := by
  refine ⟨⟨hs, hn, h.lt, h.apart, h.small, h.oks, ⟨t', T.get_set_same _ _ _, k1, k2, k3, k4⟩, ?_⟩, ⟨Nat.le_refl _, (((Ext.refl 0 st).set (Nat.zero_le _) h.lt _).wf), fun k _ hk => T.get_set_ne _ _ (fun e => hk (.inl e.symm))⟩⟩
  obtain ⟨g1, g2⟩ := h.row
  refine ⟨g1, ?_⟩
  rcases g2 with g2 | ⟨q, ty, tr, rfl, g3, g4, g5, g6⟩
  · exact .inl g2
  · exact .inr ⟨q, ty, tr, rfl, g3, g4, by rw [show (⟨st.nx, st.h.set n (.cs 269 18 t')⟩ : St).h.get q = (st.h.set n (.cs 269 18 t')).get q from rfl, T.get_set_ne _ _ (fun e => h.apart _ _ _ (by rw [e]))]; exact g5, g6⟩
theorem there_any (st : St) (a : Int) (nt : Nat) : Gd (callL Try.prog ⟨false, [], 0, nt⟩ 253 [.int .i64 a] st) fun r => r = (.bool (decide (0 ≤ a ∧ a < 8)), st) := by
  rw [Gd_callL Try.func253 rfl]
  by_cases h1 : 0 ≤ a
  · by_cases h2 : a < 8
    · simp [sets, T.get_set, h1, h2]
    · simp [sets, T.get_set, h1, h2]
  · simp [sets, T.get_set, h1]
theorem open_any (st : St) (n : Nat) (y : V) (m : LM) (h : LineAt st n y m) (nt : Nat) :
    Gd (callL Try.prog ⟨false, [], 0, nt⟩ 164 [.p n 0] st) fun r => r = (.int .i64 (m.O.length : Int), st) := by
  obtain ⟨t, h1, _, _, h4, _⟩ := h.blk
  rw [Gd_callL Try.func164 rfl]
  simp [sets, T.get_set, loadE_eq, getC_eq, h1, h4, h.row.rd.lenS]
theorem flush_any (st : St) (n : Nat) (y : V) (m : LM) (h : LineAt st n y m) (nt : Nat) :
    Gd (callL Try.prog ⟨false, [], 0, nt⟩ 237 [.p n 0] st) fun r => r.1 = .t [] ∧ LineAt r.2 n y { m with F := m.O.length } ∧ Kept n y st r.2 := by
  obtain ⟨t, h1, h2, h3, h4, h5⟩ := h.blk
  rw [Gd_callL Try.func237 rfl]
  simp [sets, T.get_set, loadE_eq, getC_eq, h1, h4, h.row.rd.lenS, putB_eq, roT]
  exact h.upd h.ls h.ln (fun i v hv => by rw [T.get_set_ne _ _ (by have := lt_of_get hv; have := h.ls; omega)]; exact h2 i v hv) (fun i v hv => by rw [T.get_set_ne _ _ (by have := lt_of_get hv; have := h.ln; omega)]; exact h3 i v hv) (by rw [T.get_set_ne _ _ (by omega)]; exact h4) (T.get_set_same _ _ _)
def LM.store (m : LM) (a : Int) (v : BitVec 64) : LM := if 0 ≤ a ∧ a < 8 then { m with N := m.N.set a.toNat v, O := m.O ++ [(a, v)] } else m
set_option maxHeartbeats 1000000 in
theorem store_any (st : St) (n : Nat) (y : V) (m : LM) (h : LineAt st n y m) (a : Int) (v : BitVec 64) (nt : Nat) (hO : m.O.length < 1000) :
    Gd (callL Try.prog ⟨false, [], 0, nt⟩ 254 [.p n 0, .int .i64 a, wd v] st) fun r => r.1 = .bool (decide (0 ≤ a ∧ a < 8)) ∧ ∃ y', LineAt r.2 n y' (m.store a v) ∧ Kept n y st r.2 ∧ ∀ k, Ow n y' k → Ow n y k ∨ st.nx ≤ k := by
  obtain ⟨t, h1, h2, h3, h4, h5⟩ := h.blk
  rw [Gd_callL Try.func254 rfl]
  simp [evOp_call, sets, T.get_set]
  refine Gd.mono (there_any st a _) ?_
  rintro _ rfl
  by_cases hin : 0 ≤ a ∧ a < 8
  · obtain ⟨b, rfl⟩ := Int.eq_ofNat_of_zero_le hin.1
    have hb : b < 8 := by omega
    have e16 : ¬ 8 + b = 16 := by omega
    have e17 : ¬ 8 + b = 17 := by omega
    have e18 : 8 + b ≤ 17 := by omega
    simp [T.get_set, hin, hb, loadE_eq, getC_eq, h1, putB_eq, roT, sets, h4, e16, e17, e18]
    have hv8 : ∀ i w, (m.N.set b v)[i]? = some w → (t.set (8 + b) (wd v)).get (8 + i) = some (wd w) := fun i w hw => by
      rw [T.get_set]
      by_cases hi : b = i
      · subst hi
        rw [List.getElem?_set_self (by have := h.ln; omega)] at hw
        injection hw with hw; subst hw
        rw [if_pos rfl]
      · rw [List.getElem?_set_ne hi] at hw
        rw [if_neg (by omega)]
        exact h3 i w hw
    have hs8 : ∀ i w, m.S[i]? = some w → (t.set (8 + b) (wd v)).get i = some (wd w) := fun i w hw => by
      rw [T.get_set_ne _ _ (by have := lt_of_get hw; have := h.ls; omega)]
      exact h2 i w hw
    have hN8 : (m.N.set b v).length = 8 := by rw [List.length_set]; exact h.ln
    have hu := h.upd (S' := m.S) (N' := m.N.set b v) (F' := m.F) (t' := t.set (8 + b) (wd v)) h.ls hN8 hs8 hv8 (by rw [T.get_set_ne _ _ e16]; exact h4) (by rw [T.get_set_ne _ _ e17]; exact h5)
    refine evOp_build1 (v := .g [.int .i64 b, wd v]) (cs := [.int .i64 b, wd v]) (fun k => el267 k) (fun k => ze298 k) rfl (by omega) (by simp [T.get_set]) (fun k => rfl) rfl ?_
    simp [T.get_set]
    refine Gd_append un267 un267 io298 (n := m.O.length) (lx := 1) (new := [.int .i64 b, wd v]) (hu.1.row.ext ((Ext.refl _ _).new (Nat.le_refl _) _)) (Nat.zero_le _) (by decide) (fun s' h => by cases h) (fun k => rfl) (fun k => by simp [getC_eq, getsB_2, T.get_set, sets]) rfl (by omega) ?_
    intro s' st' ho he hk hs'
    have hone : s'.one = true := ho.rd.one
    have hnn : n < st.nx := h.lt
    have hne : ¬ st.nx = n := by omega
    have hap : ∀ o l z, s' ≠ .sg n o l z := fun o l z e => by
      rcases hs' with e1 | ⟨ln, e1⟩
      · rw [e1] at e; exact h.apart o l z e
      · rw [e1] at e; injection e with e; simp only at e; omega
    have hle : st.nx + 1 ≤ st'.nx := he.le
    have hg : st'.h.get n = some (.cs 269 18 (t.set (8 + b) (wd v))) := by
      rw [hk n (by show n < st.nx + 1; omega) (fun o ln => h.apart o ln 2)]
      show ((st.h.set n _).set st.nx _).get n = _
      rw [T.get_set_ne _ _ hne, T.get_set_same]
    simp [T.get_set, storeK_1 hone, putB_eq, hg, roT, sets]
    have hst : m.store (b : Int) v = { m with N := m.N.set b v, O := m.O ++ [((b : Int), v)] } := by unfold LM.store; rw [if_pos hin]; rfl
    rw [hst]
    have hwf0 : Wf st → Wf st' := fun w => he.wf (((Ext.refl 0 _).new (Nat.zero_le _) _).wf (hu.2.wf w))
    refine ⟨s', ⟨h.ls, hN8, by show n < st'.nx; omega, hap, by simp; omega, fun r hr => ?_, ⟨_, T.get_set_same _ _ _, fun i w hw => ?_, fun i w hw => ?_, T.get_set_same _ _ _, ?_⟩, ?_⟩, ⟨by show st.nx ≤ st'.nx; omega, fun w => ?_, fun k hk1 hk2 => ?_⟩, fun k hk1 => ?_⟩
    · have hr' : r ∈ m.O ++ [((b : Int), v)] := hr
      rcases List.mem_append.1 hr' with hr | hr
      · exact h.oks r hr
      · simp at hr; subst hr; exact ⟨by simp, by simp; omega⟩
    · have hw' : m.S[i]? = some w := hw
      rw [T.get_set_ne _ _ (by have := lt_of_get hw'; have := h.ls; omega)]
      exact hs8 i w hw
    · have hw' : (m.N.set b v)[i]? = some w := hw
      rw [T.get_set_ne _ _ (by have := lt_of_get hw'; omega)]
      exact hv8 i w hw
    · rw [T.get_set_ne _ _ (by omega), T.get_set_ne _ _ e17]; exact h5
    · show OwnRow 0 _ s' 2 (m.O ++ [((b : Int), v)]).length (ocells (m.O ++ [((b : Int), v)]))
      rw [ocells_app, List.length_append]
      exact OwnRow.setOther ho hap _
    · exact ((Ext.refl 0 st').set (Nat.zero_le _) (by omega) _).wf (hwf0 w)
    · show (st'.h.set n _).get k = _
      rw [T.get_set_ne _ _ (fun e => hk2 (.inl e.symm)), hk k (by show k < st.nx + 1; omega) (fun o ln e => hk2 (.inr ⟨o, ln, 2, e⟩))]
      show ((st.h.set n _).set st.nx _).get k = _
      rw [T.get_set_ne _ _ (by omega), T.get_set_ne _ _ (fun e => hk2 (.inl e.symm))]
    · rcases hk1 with e | ⟨o, l, z, e⟩
      · exact .inl (.inl e)
      · rcases hs' with e1 | ⟨ln, e1⟩
        · rw [e1] at e; exact .inl (.inr ⟨o, l, z, e⟩)
        · rw [e1] at e; injection e with e; simp only at e; exact .inr (by omega)
  · have hd : decide (0 ≤ a ∧ a < 8) = false := by simpa using hin
    have hst : m.store a v = m := by unfold LM.store; rw [if_neg hin]
    simp only [hd, hst]
    simp [T.get_set]
    exact ⟨fun _ => by omega, y, h, Kept.refl _ _ _, fun k hk => .inl hk⟩
def setAll (S : List (BitVec 64)) (O : List (Int × BitVec 64)) : List (BitVec 64) := O.foldl (fun S r => S.set r.1.toNat r.2) S
theorem setAll_len : ∀ (O : List (Int × BitVec 64)) (S : List (BitVec 64)), (setAll S O).length = S.length
  | [], _ => rfl
  | r :: O, S => by
    show (setAll (S.set r.1.toNat r.2) O).length = _
    rw [setAll_len O, List.length_set]
def LM.settle (m : LM) (k : Nat) : LM := { m with S := setAll m.S (m.O.take k) }
def settleI (st : St) (n : Nat) (y : V) (m : LM) (k : Nat) (e : Env) (s : St) : Prop := ∃ j, j ≤ k ∧ e.get 0 = some (.p n 0) ∧ e.get 11 = some (cutV y k) ∧ e.get 12 = some (.int .i64 (k : Int)) ∧ e.get 13 = some (.int .i64 (j : Int)) ∧ LineAt s n y (m.settle j) ∧ Kept n y st s
theorem ocells_take : ∀ (O : List (Int × BitVec 64)) (k : Nat), (ocells O).take (k * 2) = ocells (O.take k)
  | [], k => by simp [ocells]
  | r :: O, 0 => by simp [ocells]
  | r :: O, k + 1 => by
    rw [show ocells (r :: O) = .int .i64 r.1 :: wd r.2 :: ocells O from rfl, show (k + 1) * 2 = k * 2 + 1 + 1 by omega, List.take_succ_cons, List.take_succ_cons, ocells_take O k]
    rfl
set_option maxHeartbeats 1000000 in
theorem settle_any (st : St) (n : Nat) (y : V) (m : LM) (h : LineAt st n y m) (k : Nat) (hk : k ≤ m.O.length) (nt : Nat) :
    Gd (callL Try.prog ⟨false, [], 0, nt⟩ 205 [.p n 0, .int .i64 (k : Int)] st) fun r => r.1 = .t [] ∧ LineAt r.2 n y (m.settle k) ∧ Kept n y st r.2 := by
  obtain ⟨t, h1, h2, h3, h4, h5⟩ := h.blk
  rw [Gd_callL Try.func205 rfl]
  simp [evOp_call, sets, T.get_set, loadE_eq, getC_eq, h1, h4]
  refine Gd_cut (i := .i64) un267 io298 h.row (k := k) (by simp [T.get_set]) hk ?_
  have hc0 := h.row.cut hk
  simp [T.get_set, hc0.lenS]
  refine Gd_loop (settleI st n y m k) (fun e _ => muAt 13 k e) ?_ ?_
  · exact ⟨0, Nat.zero_le _, by simp [T.get_set], by simp [T.get_set], by simp [T.get_set], by simp [T.get_set], by simpa [LM.settle, setAll] using h, Kept.refl _ _ _⟩
  · rintro e s ⟨j, hj, g0, g11, g12, g13, hl, hs⟩
    by_cases hlt : j < k
    · have hlt' : (j : Int) < k := by omega
      have hsm := h.small
      have hw := wrap_nat (n := j) (by omega)
      obtain ⟨t, h1, h2, h3, h4, h5⟩ := hl.blk
      have hcut := hl.row.cut (k := k) hk
      rw [show (m.settle j).O = m.O from rfl, ocells_take] at hcut
      obtain ⟨q, o, ty, sz, tr, hi, hm, hg, ho, hc⟩ := hcut.idx (st := s) un267 io298 hlt
      obtain ⟨⟨A, W⟩, hr⟩ : ∃ r, m.O[j]? = some r := ⟨_, List.getElem?_eq_getElem (by omega)⟩
      have hr' : (m.O.take k)[j]? = some (A, W) := by rw [List.getElem?_take, if_pos hlt]; exact hr
      have hcl := ocells_get _ j _ hr'
      have t0 : tr.get o = some (.int .i64 A) := hc 0 _ (by omega) hcl.1
      have t1 : tr.get (o + 1) = some (wd W) := hc 1 _ (by omega) hcl.2
      have hok := h.oks _ (List.mem_of_getElem? hr)
      simp only at hok
      obtain ⟨b, rfl⟩ := Int.eq_ofNat_of_zero_le hok.1
      have hb : b < 8 := by omega
      have e18 : b ≤ 17 := by omega
      have hnn : n < s.nx := hl.lt
      have hne1 : ¬ s.nx = q := by omega
      have hne2 : ¬ s.nx = n := by omega
      simp [T.get_set, g0, g11, g12, g13, hlt', hi, loadE_eq, getC_eq, hg, getsB_2, t0, t1, newC_is, putB_eq, storeK_g, roT, sets, hne1, hne2, hb]
      refine ⟨by kernel_rfl, ?_⟩
      rw [cxOf_store]
      rotate_left
      · kernel_rfl
      simp [T.get_set, h1, g13, g0, g11, g12, hw, e18, roT, sets, hne2]
      have hA := hl.other (st' := ⟨s.nx + 1, s.h.set s.nx (.cs 298 2 ((((T.lf.set 0 (V.int .i64 0)).set 1 (wd 0#64)).set 0 (V.int .i64 (b : Int))).set 1 (wd W)))⟩) (Nat.le_succ _) (fun q hq => T.get_set_ne _ _ (fun e => by have := hl.own_lt hq; omega))
      have hB := hA.upd (S' := (m.settle j).S.set b W) (N' := (m.settle j).N) (F' := (m.settle j).F) (t' := t.set b (wd W)) (by rw [List.length_set]; exact hl.ls) hl.ln (fun i w hw => by
          rw [T.get_set]
          by_cases hi' : b = i
          · subst hi'
            rw [List.getElem?_set_self (by have := hl.ls; omega)] at hw
            injection hw with hw; subst hw
            rw [if_pos rfl]
          · rw [List.getElem?_set_ne hi'] at hw
            rw [if_neg hi']
            exact h2 i w hw) (fun i w hw => by rw [T.get_set_ne _ _ (by omega)]; exact h3 i w hw) (by rw [T.get_set_ne _ _ (by omega)]; exact h4) (by rw [T.get_set_ne _ _ (by omega)]; exact h5)
      have hS : m.settle (j + 1) = ⟨(m.settle j).S.set b W, (m.settle j).N, m.O, (m.settle j).F⟩ := by
        have : setAll m.S (m.O.take (j + 1)) = (setAll m.S (m.O.take j)).set b W := by
          rw [List.take_add_one, hr]
          simp [setAll]
        unfold LM.settle
        rw [this]
      refine ⟨⟨j + 1, by omega, by simp [T.get_set, g0], by simp [T.get_set, g11], by simp [T.get_set, g12], by simp [T.get_set], ?_, ?_⟩, muAt_lt g13 (by simp [T.get_set]) hlt⟩
      · rw [hS]; exact hB.1
      · exact (hs.trans (Kept.ofExt ((Ext.refl s.nx s).new (Nat.le_refl _) _))).trans hB.2
    · obtain rfl : j = k := by omega
      simp [T.get_set, g12, g13]
      exact ⟨hl, hs⟩
def LM.fall (m : LM) (keep : Int) : LM := ⟨setAll m.S (m.O.take (max 0 (min keep m.O.length)).toNat), setAll m.S (m.O.take (max 0 (min keep m.O.length)).toNat), [], 0⟩
theorem LineAt.fresh {st : St} {n : Nat} {y : V} {m : LM} (h : LineAt st n y m) : ∃ t, st.h.get n = some (.cs 269 18 t) ∧ (∀ k : List V → Res, getsB t 8 0 k = k (m.S.map wd)) := by
  obtain ⟨t, h1, h2, _⟩ := h.blk
  refine ⟨t, h1, fun k => ?_⟩
  have := getsB_list (t := t) (l := m.S.map wd) (i := 0) (fun j x hj => by
    rw [List.getElem?_map] at hj
    cases hs : m.S[j]? with
    | none => rw [hs] at hj; cases hj
    | some v => rw [hs] at hj; injection hj with hj; subst hj; rw [Nat.zero_add]; exact h2 j v hs) k
  rw [List.length_map, h.ls] at this
  exact this
set_option maxHeartbeats 1000000 in
theorem fall_any (st : St) (n : Nat) (y : V) (m : LM) (h : LineAt st n y m) (keep : Int) (nt : Nat) :
    Gd (callL Try.prog ⟨false, [], 0, nt⟩ 165 [.p n 0, .int .i64 keep] st) fun r => r.1 = .t [] ∧ LineAt r.2 n (.c (.slice none 0 0)) (m.fall keep) ∧ Kept n y st r.2 := by
  obtain ⟨t, h1, h2, h3, h4, h5⟩ := h.blk
  obtain ⟨k, hk, hkk⟩ : ∃ k : Nat, (if 0 < (if (m.O.length : Int) < keep then (m.O.length : Int) else keep) then (if (m.O.length : Int) < keep then (m.O.length : Int) else keep) else 0) = (k : Int) ∧ (max 0 (min keep m.O.length)).toNat = k :=
    ⟨(max 0 (min keep m.O.length)).toNat, by (repeat' split) <;> omega, rfl⟩
  have hkl : k ≤ m.O.length := by omega
  rw [Gd_callL Try.func165 rfl]
  simp [evOp_call, evOp_min, evOp_max, min_i64, max_i64, sets, T.get_set, loadE_eq, getC_eq, h1, h4, h.row.rd.lenS]
  rw [hk]
  refine Gd.mono (settle_any st n y m h k hkl _) ?_
  rintro ⟨r, s⟩ ⟨hr, hl, hs⟩
  simp only at hr hl hs
  subst hr
  obtain ⟨t, h1, h2, h3, h4, h5⟩ := hl.blk
  obtain ⟨t', h1', hS⟩ := hl.fresh
  rw [h1] at h1'
  injection h1' with h1'; injection h1' with _ _ h1'; subst h1'
  have hSl : (m.settle k).S.length = 8 := hl.ls
  have hlen : ((m.settle k).S.map wd).length = 8 := by rw [List.length_map]; exact hSl
  simp [T.get_set, loadE_eq, getC_eq, h1, hS, storeK_g, putB_eq, roT, hSl, sets]
  have hf : m.fall keep = ⟨(m.settle k).S, (m.settle k).S, [], 0⟩ := by unfold LM.fall; rw [hkk]; rfl
  rw [hf]
  have hnn : n < s.nx := hl.lt
  refine ⟨⟨hSl, hSl, hnn, (fun o l z e => by cases e), by simp, by simp, ⟨_, T.get_set_same _ _ _, fun i w hw => ?_, fun i w hw => ?_, ?_, T.get_set_same _ _ _⟩, OwnRow.nilRow⟩, hs.trans ⟨Nat.le_refl _, ((Ext.refl 0 s).set (Nat.zero_le _) hnn _).wf, fun q _ hq => T.get_set_ne _ _ (fun e => hq (.inl e.symm))⟩⟩
  · have hi : i < (m.settle k).S.length := lt_of_get hw
    have hi8 : i < 8 := by omega
    rw [T.get_set_ne _ _ (by omega), T.get_set_ne _ _ (by omega), get_sets, if_neg (by omega)]
    exact h2 i w hw
  · have hi : i < (m.settle k).S.length := lt_of_get hw
    have hi8 : i < 8 := by omega
    rw [T.get_set_ne _ _ (by omega), T.get_set_ne _ _ (by omega), get_sets, if_pos (by omega), show 8 + i - 8 = i by omega, List.getElem?_map]
    have hw' : (m.settle k).S[i]? = some w := hw
    rw [hw']
    rfl
  · rw [T.get_set_ne _ _ (by omega), T.get_set_same]
theorem ocells_drop : ∀ (O : List (Int × BitVec 64)) (k : Nat), (ocells O).drop (k * 2) = ocells (O.drop k)
  | [], k => by simp [ocells]
  | r :: O, 0 => by simp [ocells]
  | r :: O, k + 1 => by
    rw [show ocells (r :: O) = .int .i64 r.1 :: wd r.2 :: ocells O from rfl, show (k + 1) * 2 = k * 2 + 1 + 1 by omega, List.drop_succ_cons, List.drop_succ_cons, ocells_drop O k]
    rfl
set_option maxHeartbeats 1000000 in
theorem fence_any (st : St) (n : Nat) (y : V) (m : LM) (h : LineAt st n y m) (f : Nat) (hf : m.F = f) (hfl : f ≤ m.O.length) (nt : Nat) :
    Gd (callL Try.prog ⟨false, [], 0, nt⟩ 238 [.p n 0] st) fun r => r.1 = .t [] ∧ ∃ y', LineAt r.2 n y' ⟨setAll m.S (m.O.take f), m.N, m.O.drop f, 0⟩ ∧ Kept n y st r.2 ∧ ∀ k, Ow n y' k → Ow n y k ∨ st.nx ≤ k := by
  obtain ⟨t, h1, h2, h3, h4, h5⟩ := h.blk
  rw [hf] at h5
  rw [Gd_callL Try.func238 rfl]
  by_cases h0 : f = 0
  · subst h0
    simp [evOp_call, sets, T.get_set, loadE_eq, getC_eq, h1, h5]
    refine ⟨y, ?_, Kept.refl _ _ _, fun k hk => .inl hk⟩
    have : (⟨setAll m.S [], m.N, m.O, 0⟩ : LM) = m := by
      cases m; simp [setAll] at hf ⊢; exact hf.symm
    rw [this]
    exact h
  · have h0' : ¬ (f : Int) = 0 := by omega
    simp [evOp_call, sets, T.get_set, loadE_eq, getC_eq, h1, h5, h0', h0]
    refine Gd.mono (settle_any st n y m h f hfl _) ?_
    rintro ⟨r, s⟩ ⟨hr, hl, hs⟩
    simp only at hr hl hs
    subst hr
    obtain ⟨t, h1, h2, h3, h4, h5⟩ := hl.blk
    have h5' : t.get 17 = some (.int .i64 (f : Int)) := by rw [h5]; show some (V.int .i64 m.F) = _; rw [hf]
    simp [T.get_set, loadE_eq, getC_eq, h1, h4, h5']
    refine ⟨by kernel_rfl, ?_⟩
    refine Gd_slice_lo (i := .i64) un267 io298 hl.row (k := f) (by simp [T.get_set]) hfl ?_
    intro y1 hy1 _
    rw [show (m.settle f).O = m.O from rfl] at hy1
    simp [T.get_set]
    refine Gd_cxB (c' := ⟨false, [], 0, 29⟩) (by kernel_rfl) ?_
    refine Gd_append un267 un267 io298 (OwnRow.nilRow (b := 0)) (Nat.zero_le _) (by decide) hy1.notS hy1.len (fun k => hy1.firsts k) hy1.1 (by have := h.small; omega) ?_
    intro s' st' ho he hk hs'
    have hone : s'.one = true := ho.rd.one
    have hnn : n < s.nx := hl.lt
    have hap : ∀ o l z, s' ≠ .sg n o l z := fun o l z e => by
      rcases hs' with e1 | ⟨ln, e1⟩
      · rw [e1] at e; cases e
      · rw [e1] at e; injection e with e; omega
    have hle : s.nx ≤ st'.nx := he.le
    have hg : st'.h.get n = some (.cs 269 18 t) := by rw [hk n hnn (fun o ln e => by cases e)]; exact h1
    simp [T.get_set, sets]
    rw [cxOf_store]
    rotate_left
    · kernel_rfl
    rw [forb_rsOf (by kernel_rfl)]
    have ho' : OwnRow 0 st' s' 2 (m.O.drop f).length (ocells (m.O.drop f)) := by
      rw [List.nil_append, ocells_drop, Nat.zero_add] at ho
      rw [List.length_drop]; exact ho
    simp [T.get_set, storeK_1 hone, putB_eq, hg, roT, sets, evOp_call, loadE_eq, getC_eq]
    refine ⟨s', ⟨hl.ls, hl.ln, by show n < st'.nx; omega, hap, by rw [List.length_drop]; have := h.small; omega, fun r hr => h.oks r (List.mem_of_mem_drop hr), ⟨_, T.get_set_same _ _ _, fun i w hw => ?_, fun i w hw => ?_, ?_, T.get_set_same _ _ _⟩, OwnRow.setOther ho' hap _⟩, ⟨by show st.nx ≤ st'.nx; have := hs.le; omega, fun w => ?_, fun k hk1 hk2 => ?_⟩, fun k hk1 => ?_⟩
    · have hw' : (m.settle f).S[i]? = some w := hw
      have hi := lt_of_get hw'
      have := hl.ls
      rw [T.get_set_ne _ _ (by omega), T.get_set_ne _ _ (by omega)]
      exact h2 i w hw'
    · have hw' : (m.settle f).N[i]? = some w := hw
      have hi := lt_of_get hw'
      have := hl.ln
      rw [T.get_set_ne _ _ (by omega), T.get_set_ne _ _ (by omega)]
      exact h3 i w hw'
    · rw [T.get_set_ne _ _ (by omega), T.get_set_same]
    · exact ((Ext.refl 0 st').set (Nat.zero_le _) (by omega) _).wf (he.wf (hs.wf w))
    · show (st'.h.set n _).get k = _
      have := hs.le
      rw [T.get_set_ne _ _ (fun e => hk2 (.inl e.symm)), hk k (by omega) (fun o ln e => by cases e)]
      exact hs.keep k hk1 hk2
    · rcases hk1 with e | ⟨o, l, z, e⟩
      · exact .inl (.inl e)
      · have := hs.le
        rcases hs' with e1 | ⟨ln, e1⟩
        · rw [e1] at e; cases e
        · rw [e1] at e; injection e with e; exact .inr (by omega)
theorem load_any (st : St) (n : Nat) (y : V) (m : LM) (h : LineAt st n y m) (a : Int) (nt : Nat) :
    Gd (callL Try.prog ⟨false, [], 0, nt⟩ 234 [.p n 0, .int .i64 a] st) fun r => r = (wd (if 0 ≤ a ∧ a < 8 then m.N[a.toNat]?.getD 0#64 else 0#64), st) := by
  obtain ⟨t, h1, h2, h3, h4, h5⟩ := h.blk
  rw [Gd_callL Try.func234 rfl]
  simp [evOp_call, sets, T.get_set]
  refine Gd.mono (there_any st a _) ?_
  rintro _ rfl
  by_cases hin : 0 ≤ a ∧ a < 8
  · obtain ⟨b, rfl⟩ := Int.eq_ofNat_of_zero_le hin.1
    have hb : b < 8 := by omega
    obtain ⟨w, hw⟩ : ∃ w, m.N[b]? = some w := ⟨_, List.getElem?_eq_getElem (by have := h.ln; omega)⟩
    have h3' := h3 b w hw
    simp [T.get_set, hin, hb, loadE_eq, getC_eq, h1, sets, h3', hw]
  · have hd : decide (0 ≤ a ∧ a < 8) = false := by simpa using hin
    simp only [hd, if_neg hin]
    simp [T.get_set]
@[simp] theorem cellsOf_g {β : Type} (l : List V) (k : List V → Option β) : cellsOf (.g l) k = k l := rfl
theorem Kept.ext {n b : Nat} {y : V} {s s' : St} (h : Kept n y s s') (hb : b ≤ s.nx) (ho : ∀ k, Ow n y k → b ≤ k) : Ext b s s' := ⟨h.le, h.wf, fun q hq => h.keep q (by omega) (fun e => by have := ho q e; omega)⟩
theorem ow_nil {n k : Nat} (h : Ow n (.c (.slice none 0 0)) k) : k = n := by
  rcases h with h | ⟨o, l, z, e⟩
  · exact h
  · cases e
@[simp] theorem line_not_nil (st : St) (x y : Operand) (n : Nat) : binE Try.prog st .eql 225 x y (.p n 0) (.c (.pointer none)) = some (.bool false, st) := by kernel_rfl
theorem Ev.RdRow.firstsN {st : St} {fl : List (Nat × Nat)} {wb nt z n k : Nat} {x : V} {l : List V} {β : Type} (h : RdRow st x z n l) (hf : ∀ q, Nm x q → inF fl q = false) (hk : k ≤ n) (K : List V → Option β) : Ev.firsts ⟨false, fl, wb, nt⟩ st z k x K = K (l.take (k * z)) := by
  obtain ⟨h1, h2⟩ := h
  have hkz : k * z ≤ n * z := Nat.mul_le_mul_right z hk
  have hlen : (l.take (k * z)).length = k * z := by rw [List.length_take, h1]; omega
  have hget : ∀ {t : T V} {o : Nat}, (∀ j v, l[j]? = some v → t.get (o + j) = some v) → getsB t (k * z) o K = K (l.take (k * z)) := fun hh => by
    have := getsB_list (l := l.take (k * z)) (fun j v hj => hh j v (by
      rw [List.getElem?_take] at hj
      split at hj
      · exact hj
      · cases hj)) K
    rwa [hlen] at this
  rcases h2 with ⟨hx, rfl⟩ | ⟨m, o, q, ty, sz, t, rfl, _, h4, _, h6⟩ | ⟨m, o, ty, sz, t, rfl, _, h4, _, h6⟩
  · obtain rfl : k = 0 := by omega
    have hl : l = [] := List.eq_nil_of_length_eq_zero (by rw [h1]; simp)
    subst hl
    rw [List.take_nil]
    rcases hx with rfl | rfl <;> rfl
  · have hm := hf m (.inr ⟨_, _, _, rfl⟩)
    rw [firsts_sl, if_pos hk, getC_eq, h4]
    simp only [ok_top, hm, Bool.not_false, cond_true, Option.bind_some, csK_cs]
    exact hget h6
  · have hm := hf m (.inl ⟨_, _, _, rfl⟩)
    have e1 : Ev.firsts ⟨false, fl, wb, nt⟩ st z k (.sg m o n z) K = (match Nat.ble k n with | true => getC ⟨false, fl, wb, nt⟩ st m fun t => getsB t (k * z) o K | false => none) := rfl
    have e2 : Nat.ble k n = true := by rw [Nat.ble_eq]; exact hk
    rw [e1, e2]
    simp only
    rw [getC_eq, h4]
    simp only [ok_top, hm, Bool.not_false, cond_true, Option.bind_some, csK_cs]
    exact hget h6
theorem copy_row {P : Program} {st : St} {fl : List (Nat × Nat)} {t t' el z n m o ld q wb nt : Nat} {x : V} {l : List V} (hu : P.underlying t = some (.slice el)) (hi : infoOk P el z = true) (h : RdRow st x z n l) (hf : ∀ q, Nm x q → inF fl q = false) :
    builtinE P ⟨false, fl, wb, nt⟩ .copy [t, t'] [.sl m o ld q, x] st = putB ⟨false, fl, wb, nt⟩ st m o (l.take (min n ld * z)) fun st => some (.int .i64 ((min n ld : Nat) : Int), st) := by
  unfold builtinE
  simp only [elemOf_ok hu hi, lenA_sl, h.len, fn_eq]
  rw [show Nat.min n ld = min n ld from rfl, h.firstsN hf (Nat.min_le_left _ _)]
  rfl
def initS (L : List (BitVec 64)) : List (BitVec 64) := (List.range 8).map fun i => L[i]?.getD 0#64
theorem initS_len (L : List (BitVec 64)) : (initS L).length = 8 := by simp [initS]
theorem initS_get {L : List (BitVec 64)} {i : Nat} {v : BitVec 64} (h : (initS L)[i]? = some v) : i < 8 ∧ v = L[i]?.getD 0#64 := by
  have hi : i < 8 := by have := lt_of_get h; rwa [initS_len] at this
  unfold initS at h
  rw [List.getElem?_map, List.getElem?_range hi] at h
  injection h with h
  exact ⟨hi, h.symm⟩
set_option maxHeartbeats 1000000 in
theorem new_fl (st : St) (fl : List (Nat × Nat)) (hfn : ∀ k, st.nx ≤ k → inF fl k = false) (x : V) (L : List (BitVec 64)) (hx : RdRow st x 1 L.length (wv L)) (hfx : ∀ k, Nm x k → inF fl k = false) (nt : Nat) :
    Gd (callL Try.prog ⟨false, fl, 0, nt⟩ 232 [x] st) fun r => ∃ n, r.1 = .p n 0 ∧ LineAt r.2 n (.c (.slice none 0 0)) ⟨initS L, initS L, [], 0⟩ ∧ Ext st.nx st r.2 ∧ st.nx ≤ n := by
  rw [Gd_callL Try.func232 rfl]
  obtain ⟨Z, hZ⟩ : ∃ Z : List V, Z = [V.int .u64 0, .int .u64 0, .int .u64 0, .int .u64 0, .int .u64 0, .int .u64 0, .int .u64 0, .int .u64 0, .int .u64 0, .int .u64 0, .int .u64 0, .int .u64 0, .int .u64 0, .int .u64 0, .int .u64 0, .int .u64 0, .c (.slice none 0 0), .int .i64 0] := ⟨_, rfl⟩
  have hZl : Z.length = 18 := by rw [hZ]; rfl
  have hbz : ∀ s : St, bldK Try.prog 269 [] [] [V.int .u64 0, .int .u64 0, .int .u64 0, .int .u64 0, .int .u64 0, .int .u64 0, .int .u64 0, .int .u64 0, .int .u64 0, .int .u64 0, .int .u64 0, .int .u64 0, .int .u64 0, .int .u64 0, .int .u64 0, .int .u64 0, .c (.slice none 0 0), .int .i64 0] s = some (.g Z, s) := fun s => by rw [hZ]; simp
  have he : Ext st.nx st ⟨st.nx + 1, st.h.set st.nx (.cs 269 18 (sets Z 0 .lf))⟩ := (Ext.refl _ _).new (Nat.le_refl _) _
  have hx1 := hx.ext he
  have fn0 := hfn st.nx (Nat.le_refl _)
  rw [show sets [x] 0 T.lf = T.set .lf 0 x from rfl]
  simp [evOp_call, T.get_set, loadE_eq, getC_eq, newC_is, cellsOf, hbz, hZl]
  refine Gd_slice_arr un266 (fun k => sz24 k) _ _ ?_
  simp [T.get_set]
  rw [copy_row un23 io24 hx1 hfx]
  obtain ⟨C, hC⟩ : ∃ C : List V, C = (wv L).take (min L.length 8 * 1) := ⟨_, rfl⟩
  have hCl : C.length = min L.length 8 := by rw [hC, List.length_take, wv_length]; omega
  have hC8 : C.length ≤ 18 := by omega
  rw [← hC]
  obtain ⟨t1, ht1⟩ : ∃ t1, sets C 0 (sets Z 0 .lf) = t1 := ⟨_, rfl⟩
  have g1 : ∀ i, i < 8 → t1.get i = some (wd (L[i]?.getD 0#64)) := fun i hi => by
    rw [← ht1, get_sets]
    by_cases hc : i < L.length
    · rw [if_pos ⟨Nat.zero_le _, by omega⟩, hC]
      have : L[i]? = some (L[i]) := List.getElem?_eq_getElem hc
      rw [List.getElem?_take, if_pos (by omega), Nat.sub_zero, wv_get this, this]; rfl
    · rw [if_neg (by omega), List.getElem?_eq_none (by omega), get_sets, if_pos ⟨Nat.zero_le _, by omega⟩, hZ]
      rcases (by omega : i = 0 ∨ i = 1 ∨ i = 2 ∨ i = 3 ∨ i = 4 ∨ i = 5 ∨ i = 6 ∨ i = 7) with rfl | rfl | rfl | rfl | rfl | rfl | rfl | rfl <;> rfl
  have g2 : t1.get 16 = some (.c (.slice none 0 0)) := by
    rw [← ht1, get_sets, if_neg (by omega), get_sets, hZ]; rfl
  have g3 : t1.get 17 = some (.int .i64 0) := by
    rw [← ht1, get_sets, if_neg (by omega), get_sets, hZ]; rfl
  have hgets : ∀ k : List V → Res, getsB t1 8 0 k = k (wv (initS L)) := fun k => by
    have := getsB_list (t := t1) (l := wv (initS L)) (i := 0) (fun j v hj => by
      have hj8 : j < 8 := by have := lt_of_get hj; rwa [wv_length, initS_len] at this
      obtain ⟨w, hw⟩ : ∃ w, (initS L)[j]? = some w := ⟨_, List.getElem?_eq_getElem (by rw [initS_len]; exact hj8)⟩
      rw [wv_get hw] at hj
      injection hj with hj
      rw [← hj, (initS_get hw).2, Nat.zero_add]
      exact g1 j hj8) k
    rwa [wv_length, initS_len] at this
  simp [T.get_set, fn0, putB_eq, hC8, roT, ht1, loadE_eq, getC_eq, hgets, storeK_g, initS_len]
  refine ⟨⟨initS_len _, initS_len _, Nat.lt_succ_self _, (fun o l z e => by cases e), by simp, by simp, ⟨_, T.get_set_same _ _ _, fun i v hv => ?_, fun i v hv => ?_, ?_, ?_⟩, OwnRow.nilRow⟩, (Ext.refl _ _).new (Nat.le_refl _) _⟩
  · obtain ⟨h1, h2⟩ := initS_get hv
    rw [get_sets, if_neg (by omega), h2]; exact g1 i h1
  · obtain ⟨h1, _⟩ := initS_get hv
    rw [get_sets, if_pos ⟨by omega, by rw [wv_length, initS_len]; omega⟩, Nat.add_sub_cancel_left]
    exact wv_get hv
  · rw [get_sets, if_neg (by rw [wv_length, initS_len]; omega)]; exact g2
  · rw [get_sets, if_neg (by rw [wv_length, initS_len]; omega)]; exact g3
end Go.Proofs.Ytdoennkmcloalaa

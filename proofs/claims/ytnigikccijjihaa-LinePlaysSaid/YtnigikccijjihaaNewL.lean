/-
  New lines, of words.
-/
import Derived.Test.YtnigikccijjihaaRline2
set_option linter.unusedSimpArgs false
namespace Go.Proofs.Ytnigikccijjihaa
open Go.RowKit Ev
theorem Ev.RdRow.firstsN {st : St} {wb nt z n k : Nat} {x : V} {l : List V} {β : Type} (h : RdRow st x z n l) (hk : k ≤ n) (K : List V → Option β) : Ev.firsts ⟨false, [], wb, nt⟩ st z k x K = K (l.take (k * z)) := by
  obtain ⟨h1, h2⟩ := h
  have hkz : k * z ≤ n * z := Nat.mul_le_mul_right z hk
  have hlen : (l.take (k * z)).length = k * z := by rw [List.length_take, h1]; omega
  have hget : ∀ {t : T V} {o : Nat}, (∀ j v, l[j]? = some v → t.get (o + j) = some v) → getsB t (k * z) o K = K (l.take (k * z)) := fun hh => by
    have := getsB_list (l := l.take (k * z)) (fun j v hj => hh j v (by
      rw [List.getElem?_take] at hj
      split at hj
      · exact hj
      · cases hj)) K
    rwa [hlen] at this
  rcases h2 with ⟨hx, rfl⟩ | ⟨m, o, q, ty, sz, t, rfl, _, h4, _, h6⟩ | ⟨m, o, ty, sz, t, rfl, _, h4, _, h6⟩
  · obtain rfl : k = 0 := by omega
    have hl : l = [] := List.eq_nil_of_length_eq_zero (by rw [h1]; simp)
    subst hl
    rw [List.take_nil]
    rcases hx with rfl | rfl <;> rfl
  · rw [firsts_sl, if_pos hk, getC_eq, h4]
    simp only [ok_top, inF_nil, Bool.not_false, cond_true, Option.bind_some, csK_cs]
    exact hget h6
  · have e1 : Ev.firsts ⟨false, [], wb, nt⟩ st z k (.sg m o n z) K = (match Nat.ble k n with | true => getC ⟨false, [], wb, nt⟩ st m fun t => getsB t (k * z) o K | false => none) := rfl
    have e2 : Nat.ble k n = true := by rw [Nat.ble_eq]; exact hk
    rw [e1, e2]
    simp only
    rw [getC_eq, h4]
    simp only [ok_top, inF_nil, Bool.not_false, cond_true, Option.bind_some, csK_cs]
    exact hget h6
theorem copy_row {P : Program} {st : St} {t t' el z n m o ld q wb nt : Nat} {x : V} {l : List V} (hu : P.underlying t = some (.slice el)) (hi : infoOk P el z = true) (h : RdRow st x z n l) :
    builtinE P ⟨false, [], wb, nt⟩ .copy [t, t'] [.sl m o ld q, x] st = putB ⟨false, [], wb, nt⟩ st m o (l.take (min n ld * z)) fun st => some (.int .i64 ((min n ld : Nat) : Int), st) := by
  unfold builtinE
  simp only [elemOf_ok hu hi, lenA_sl, h.len, fn_eq]
  rw [show Nat.min n ld = min n ld from rfl, h.firstsN (Nat.min_le_left _ _)]
  rfl
theorem Gd_make {P : Program} {c : Cx} {e : Env} {st : St} {F : CallF} {d : Option Nat} {t ty el z n q : Nat} {p : String} {af : Array Edge} {g : Option (Nat × Bool)} {l cp : Operand} {i i' : IntKind} {zs : List V} {Q : V × St → Prop}
    (hu : ∀ k : TypeId → Nat → Res, Ev.elemOf P t k = k el z) (hi : infoOk P el z = true) (hz : ∀ k : List V → Res, zero P el k = k zs) (hl : opv e l = some (.int i (n : Int))) (hc : opv e cp = some (.int i' (q : Int))) (h1 : n ≤ q) (h2 : q ≤ 1073741824)
    (hQ : Q (.sl st.nx 0 n q, ⟨st.nx + 1, st.h.set st.nx (.cs el (rep zs q).length (sets (rep zs q) 0 .lf))⟩)) : Gd (evOp P F c e st ⟨d, .makeSlice t l cp, ty, p, af, g⟩) Q := by
  have e1 : evOp P F c e st ⟨d, .makeSlice t l cp, ty, p, af, g⟩ = opd e l fun l => opd e cp fun cp => asNat l fun l => asNat cp fun cp => Ev.elemOf P t fun el _ => (match Nat.ble l cp, small P el cp with
    | true, true => zero P el fun z => newC st el (rep z cp) fun n st => some (.sl n 0 l cp, st)
    | _, _ => none) := rfl
  have b1 : Nat.ble n q = true := by rw [Nat.ble_eq]; exact h1
  have b2 : small P el q = true := infoOk_small hi h2
  rw [e1, opd_bind, show opd e l some = opv e l from rfl, hl]
  simp only [Option.bind_some]
  rw [opd_bind, show opd e cp some = opv e cp from rfl, hc]
  simp only [Option.bind_some, asNat_cast, hu, b1, b2, hz, newC_is]
  exact ⟨_, rfl, hQ⟩
def initS (L : List (BitVec 64)) : List (BitVec 64) := (List.range 8).map fun i => L[i]?.getD 0#64
theorem initS_len (L : List (BitVec 64)) : (initS L).length = 8 := by simp [initS]
theorem initS_get {L : List (BitVec 64)} {i : Nat} {v : BitVec 64} (h : (initS L)[i]? = some v) : i < 8 ∧ v = L[i]?.getD 0#64 := by
  have hi : i < 8 := by have := lt_of_get h; rwa [initS_len] at this
  unfold initS at h
  rw [List.getElem?_map, List.getElem?_range hi] at h
  injection h with h
  exact ⟨hi, h.symm⟩
set_option maxHeartbeats 1000000 in
theorem new_any (st : St) (x : V) (L : List (BitVec 64)) (hx : RdRow st x 1 L.length (wv L)) (nt : Nat) :
    Gd (callL Try.prog ⟨false, [], 0, nt⟩ 40 [x] st) fun r => ∃ n, r.1 = .p n 0 ∧ LineAt r.2 n (.c (.slice none 0 0)) ⟨initS L, initS L, [], 0⟩ ∧ Ext st.nx st r.2 ∧ st.nx ≤ n := by
  rw [Gd_callL Try.func40 rfl]
  obtain ⟨Z, hZ⟩ : ∃ Z : List V, Z = [V.int .u64 0, .int .u64 0, .int .u64 0, .int .u64 0, .int .u64 0, .int .u64 0, .int .u64 0, .int .u64 0, .int .u64 0, .int .u64 0, .int .u64 0, .int .u64 0, .int .u64 0, .int .u64 0, .int .u64 0, .int .u64 0, .c (.slice none 0 0), .int .i64 0] := ⟨_, rfl⟩
  have hZl : Z.length = 18 := by rw [hZ]; rfl
  have hbz : ∀ s : St, bldK Try.prog 157 [] [] [V.int .u64 0, .int .u64 0, .int .u64 0, .int .u64 0, .int .u64 0, .int .u64 0, .int .u64 0, .int .u64 0, .int .u64 0, .int .u64 0, .int .u64 0, .int .u64 0, .int .u64 0, .int .u64 0, .int .u64 0, .int .u64 0, .c (.slice none 0 0), .int .i64 0] s = some (.g Z, s) := fun s => by rw [hZ]; simp
  have he : Ext st.nx st ⟨st.nx + 1, st.h.set st.nx (.cs 157 18 (sets Z 0 .lf))⟩ := (Ext.refl _ _).new (Nat.le_refl _) _
  have hx1 := hx.ext he
  rw [show sets [x] 0 T.lf = T.set .lf 0 x from rfl]
  simp [evOp_call, T.get_set, loadE_eq, getC_eq, newC_is, cellsOf, hbz, hZl]
  refine Gd_slice_arr un154 (fun k => sz24 k) _ _ ?_
  simp [T.get_set]
  rw [copy_row un23 io24 hx1]
  obtain ⟨C, hC⟩ : ∃ C : List V, C = (wv L).take (min L.length 8 * 1) := ⟨_, rfl⟩
  have hCl : C.length = min L.length 8 := by rw [hC, List.length_take, wv_length]; omega
  have hC8 : C.length ≤ 18 := by omega
  rw [← hC]
  obtain ⟨t1, ht1⟩ : ∃ t1, sets C 0 (sets Z 0 .lf) = t1 := ⟨_, rfl⟩
  have g1 : ∀ i, i < 8 → t1.get i = some (wd (L[i]?.getD 0#64)) := fun i hi => by
    rw [← ht1, get_sets]
    by_cases hc : i < L.length
    · rw [if_pos ⟨Nat.zero_le _, by omega⟩, hC]
      have : L[i]? = some (L[i]) := List.getElem?_eq_getElem hc
      rw [List.getElem?_take, if_pos (by omega), Nat.sub_zero, wv_get this, this]; rfl
    · rw [if_neg (by omega), List.getElem?_eq_none (by omega), get_sets, if_pos ⟨Nat.zero_le _, by omega⟩, hZ]
      rcases (by omega : i = 0 ∨ i = 1 ∨ i = 2 ∨ i = 3 ∨ i = 4 ∨ i = 5 ∨ i = 6 ∨ i = 7) with rfl | rfl | rfl | rfl | rfl | rfl | rfl | rfl <;> rfl
  have g2 : t1.get 16 = some (.c (.slice none 0 0)) := by
    rw [← ht1, get_sets, if_neg (by omega), get_sets, hZ]; rfl
  have g3 : t1.get 17 = some (.int .i64 0) := by
    rw [← ht1, get_sets, if_neg (by omega), get_sets, hZ]; rfl
  have hgets : ∀ k : List V → Res, getsB t1 8 0 k = k (wv (initS L)) := fun k => by
    have := getsB_list (t := t1) (l := wv (initS L)) (i := 0) (fun j v hj => by
      have hj8 : j < 8 := by have := lt_of_get hj; rwa [wv_length, initS_len] at this
      obtain ⟨w, hw⟩ : ∃ w, (initS L)[j]? = some w := ⟨_, List.getElem?_eq_getElem (by rw [initS_len]; exact hj8)⟩
      rw [wv_get hw] at hj
      injection hj with hj
      rw [← hj, (initS_get hw).2, Nat.zero_add]
      exact g1 j hj8) k
    rwa [wv_length, initS_len] at this
  simp [T.get_set, putB_eq, hC8, roT, ht1, loadE_eq, getC_eq, hgets, storeK_g, initS_len]
  refine ⟨⟨initS_len _, initS_len _, Nat.lt_succ_self _, (fun o l z e => by cases e), by simp, by simp, ⟨_, T.get_set_same _ _ _, fun i v hv => ?_, fun i v hv => ?_, ?_, ?_⟩, OwnRow.nilRow⟩, (Ext.refl _ _).new (Nat.le_refl _) _⟩
  · obtain ⟨h1, h2⟩ := initS_get hv
    rw [get_sets, if_neg (by omega), h2]; exact g1 i h1
  · obtain ⟨h1, _⟩ := initS_get hv
    rw [get_sets, if_pos ⟨by omega, by rw [wv_length, initS_len]; omega⟩, Nat.add_sub_cancel_left]
    exact wv_get hv
  · rw [get_sets, if_neg (by rw [wv_length, initS_len]; omega)]; exact g2
  · rw [get_sets, if_neg (by rw [wv_length, initS_len]; omega)]; exact g3
def rnewI (st : St) (x : V) (L : List (BitVec 64)) (en : Env) (s : St) : Prop := ∃ (i : Nat) (S : List (BitVec 64)), i ≤ 8 ∧ i ≤ L.length ∧ en.get 0 = some x ∧ en.get 3 = some (.p (st.nx + 1) 0) ∧ en.get 4 = some (.int .i64 (i : Int)) ∧ S.length = 8 ∧ (∀ j, j < 8 → S[j]? = some (if j < i then L[j]?.getD 0#64 else 0#64)) ∧
  (∃ t, s.h.get st.nx = some (.cs 24 8 t) ∧ ∀ j v, (wv S)[j]? = some v → t.get j = some v) ∧ RefAt s (st.nx + 1) (.sl st.nx 0 8 8) (.c (.slice none 0 0)) ⟨S, S, [], 0⟩ 0 ∧ Ext st.nx st s ∧ s.nx = st.nx + 2
set_option maxHeartbeats 1000000 in
theorem rnew_any (st : St) (x : V) (L : List (BitVec 64)) (hx : RdRow st x 1 L.length (wv L)) (nt : Nat) :
    Gd (callL Try.prog ⟨false, [], 0, nt⟩ 41 [x] st) fun r => ∃ n ys, r.1 = .p n 0 ∧ RefAt r.2 n ys (.c (.slice none 0 0)) ⟨initS L, initS L, [], 0⟩ 0 ∧ Ext st.nx st r.2 ∧ st.nx ≤ n ∧ ∀ q, Nm ys q → st.nx ≤ q := by
  rw [Gd_callL Try.func41 rfl]
  simp [evOp_call, sets, T.get_set]
  refine Gd_make (zs := [.int .u64 0]) (n := 8) (q := 8) (fun k => el23 k) io24 (fun k => ze24 k) (i := .i64) (i' := .i64) (by simp) (by simp) (by omega) (by omega) ?_
  rw [show rep [V.int .u64 0] 8 = wv (List.replicate 8 0#64) from rfl]
  have he : Ext st.nx st ⟨st.nx + 1, st.h.set st.nx (.cs 24 8 (sets (wv (List.replicate 8 0#64)) 0 .lf))⟩ := (Ext.refl _ _).new (Nat.le_refl _) _
  have he2 := he.new (Nat.le_succ _) (.cs 50 2 (sets [.sl st.nx 0 8 8, .c (.slice none 0 0)] 0 .lf))
  have hbl : ∀ (y : Operand) (s : St), bldK Try.prog 50 [(0, y)] [V.sl st.nx 0 8 8] [.c (.slice none 0 0), .c (.slice none 0 0)] s = some (.g [V.sl st.nx 0 8 8, .c (.slice none 0 0)], s) := fun y s => by
    rw [bldK_ok so50, partsK_one rfl (by simp) (by simp)]; rfl
  simp [T.get_set, hbl, cellsOf, newC_is]
  have hwv8 : (wv (List.replicate 8 0#64)).length = 8 := rfl
  have hne : ¬ st.nx + 1 = st.nx := by omega
  have hrow : ∀ (s : St) (t : T V) (S : List (BitVec 64)), S.length = 8 → st.nx < s.nx → s.h.get st.nx = some (.cs 24 8 t) → (∀ j v, (wv S)[j]? = some v → t.get j = some v) → RdRow s (.sl st.nx 0 8 8) 1 8 (wv S) := fun s t S h1 h2 h3 h4 =>
    ⟨by rw [wv_length, h1], .inr (.inl ⟨st.nx, 0, 8, _, _, t, rfl, h2, h3, Nat.le_refl _, fun j v hj => by rw [Nat.zero_add]; exact h4 j v hj⟩)⟩
  have h0g : ∀ j v, (wv (List.replicate 8 0#64))[j]? = some v → (sets (wv (List.replicate 8 0#64)) 0 T.lf).get j = some v := fun j v hj => by
    have hjl : j < 8 := lt_of_get hj
    rw [get_sets, if_pos ⟨Nat.zero_le _, by rw [hwv8]; omega⟩]
    simpa using hj
  have hnm1 : ¬ Nm (.sl st.nx 0 8 8) (st.nx + 1) := fun e => by
    rcases e with ⟨_, _, _, e⟩ | ⟨_, _, _, e⟩
    · cases e
    · injection e with e; omega
  refine Gd_loop (rnewI st x L) (fun en _ => muAt 4 8 en) ?_ ?_
  · refine ⟨0, List.replicate 8 0#64, Nat.zero_le _, Nat.zero_le _, by simp [T.get_set], by simp [T.get_set], by simp [T.get_set], rfl, fun j hj => ?_, ⟨_, (T.get_set_ne _ _ hne).trans (T.get_set_same _ _ _), h0g⟩, ⟨rfl, Nat.lt_succ_self _, hnm1, fun e => nm_nil e, (fun _ _ _ _ e => by cases e), Nat.zero_le _, (fun r hr => by cases hr), ⟨sets [.sl st.nx 0 8 8, .c (.slice none 0 0)] 0 .lf, T.get_set_same _ _ _, rfl, rfl⟩, ?_, ⟨rfl, .inl ⟨.inl rfl, rfl⟩⟩⟩, he2, rfl⟩
    · rw [if_neg (by omega), List.getElem?_replicate, if_pos hj]
    · exact hrow _ _ _ rfl (by show st.nx < st.nx + 1 + 1; omega) ((T.get_set_ne _ _ hne).trans (T.get_set_same _ _ _)) h0g
  · clear he he2 h0g
    rintro en s ⟨i, S, hi8, hiL, g0, g3, g4, hS, hSg, ⟨t, ht, htg⟩, hr, hs, hnx⟩
    have hxs := hx.ext hs
    obtain ⟨t2, k1, k2, k3⟩ := hr.blk
    have hne2 : ¬ st.nx = st.nx + 1 := by omega
    by_cases hgo : i < 8 ∧ i < L.length
    · obtain ⟨h8, hl⟩ := hgo
      have h8' : (i : Int) < 8 := by omega
      have hl' : (i : Int) < L.length := by omega
      have hwi := wrap_nat (n := i) (by omega)
      have h81 : i + 1 ≤ 8 := h8
      obtain ⟨q, o, ty, sz, tr, hid, hm, hg, ho, hc⟩ := hxs.idx (st := s) un23 io24 hl
      obtain ⟨w, hwl⟩ : ∃ w, L[i]? = some w := ⟨_, List.getElem?_eq_getElem hl⟩
      have t0 : tr.get o = some (wd w) := hc 0 _ (by omega) (by simpa using wv_get hwl)
      simp [evOp_call, T.get_set, g0, g3, g4, h8', hxs.lenS, hl', loadE_eq, getC_eq, k1, k2, hid, hg, t0, h8]
      refine ⟨by kernel_rfl, ?_⟩
      rw [cxOf_store]
      rotate_left
      · kernel_rfl
      simp [T.get_set, g0, g3, g4, putB_eq, ht, h81, roT, sets, hwi]
      have hw2 : (wv S).set i (wd w) = wv (S.set i w) := by unfold wv; rw [List.map_set]
      have hg2 : ∀ j v, (wv (S.set i w))[j]? = some v → (t.set i (wd w)).get j = some v := fun j v hj => by
        rw [← hw2] at hj
        rw [T.get_set]
        by_cases hij : i = j
        · subst hij
          rw [List.getElem?_set_self (by rw [wv_length, hS]; exact h8)] at hj
          injection hj with hj; subst hj
          rw [if_pos rfl]
        · rw [List.getElem?_set_ne hij] at hj
          rw [if_neg hij]; exact htg j v hj
      refine ⟨⟨i + 1, S.set i w, by omega, by omega, by simp [T.get_set, g0], by simp [T.get_set, g3], by simp [T.get_set], by simp [hS], fun j hj => ?_, ⟨_, T.get_set_same _ _ _, hg2⟩, ⟨by simp [hS], by show st.nx + 1 < s.nx; omega, hr.a1, hr.a2, hr.a3, by simp, by simp, ⟨t2, (T.get_set_ne _ _ hne2).trans k1, k2, k3⟩, ?_, ⟨rfl, .inl ⟨.inl rfl, rfl⟩⟩⟩, hs.set (Nat.le_refl _) (by omega) _, hnx⟩, muAt_lt g4 (by simp [T.get_set]) h8⟩
      · by_cases hij : i = j
        · subst hij
          rw [List.getElem?_set_self (by omega), if_pos (by omega), hwl]; rfl
        · rw [List.getElem?_set_ne hij, hSg j hj]
          by_cases h1 : j < i
          · rw [if_pos h1, if_pos (by omega)]
          · rw [if_neg h1, if_neg (by omega)]
      · exact hrow _ _ _ (by simp [hS]) (by show st.nx < s.nx; omega) (T.get_set_same _ _ _) hg2
    · have hSi : S = initS L := by
        apply List.ext_getElem?
        intro j
        by_cases hj : j < 8
        · obtain ⟨v, hv⟩ : ∃ v, (initS L)[j]? = some v := ⟨_, List.getElem?_eq_getElem (by rw [initS_len]; exact hj)⟩
          rw [hSg j hj, hv, (initS_get hv).2]
          by_cases h1 : j < i
          · rw [if_pos h1]
          · rw [if_neg h1, List.getElem?_eq_none (by omega)]; rfl
        · rw [List.getElem?_eq_none (by omega), List.getElem?_eq_none (by rw [initS_len]; omega)]
      subst hSi
      have hnmq : ∀ q, Nm (.sl st.nx 0 8 8) q → st.nx ≤ q := fun q hq => by rcases hq with ⟨_, _, _, e⟩ | ⟨_, _, _, e⟩ <;> cases e; omega
      by_cases h8 : (i : Int) < 8
      · have hl : ¬ (i : Int) < L.length := by omega
        simp [evOp_call, T.get_set, g0, g3, g4, h8, hxs.lenS, hl]
        exact ⟨_, hr, hs, hnmq⟩
      · simp [evOp_call, T.get_set, g0, g3, g4, h8]
        exact ⟨_, hr, hs, hnmq⟩
end Go.Proofs.Ytnigikccijjihaa

/-
  Contracts of the document's own memory: new lines.
-/
import Derived.Test.YtenncnbaoejekaaRmF
set_option linter.unusedSimpArgs false
namespace Go.Proofs.Ytenncnbaoejekaa
open Go.RowKit Ev
def rnewI (st : St) (x : V) (L : List (BitVec 64)) (en : Env) (s : St) : Prop := ∃ (i : Nat) (S : List (BitVec 64)), i ≤ 8 ∧ i ≤ L.length ∧ en.get 0 = some x ∧ en.get 3 = some (.p (st.nx + 1) 0) ∧ en.get 4 = some (.int .i64 (i : Int)) ∧ S.length = 8 ∧ (∀ j, j < 8 → S[j]? = some (if j < i then L[j]?.getD 0#64 else 0#64)) ∧
  (∃ t, s.h.get st.nx = some (.cs 31 8 t) ∧ ∀ j v, (wv S)[j]? = some v → t.get j = some v) ∧ RefAt s (st.nx + 1) (.sl st.nx 0 8 8) (.c (.slice none 0 0)) ⟨S, S, [], 0⟩ 0 ∧ Ext st.nx st s ∧ s.nx = st.nx + 2
set_option maxHeartbeats 1000000 in
theorem rnew_any (st : St) (x : V) (L : List (BitVec 64)) (fl : List (Nat × Nat)) (hfn : ∀ k, st.nx ≤ k → inF fl k = false) (hfx : (blkOf x).elim false (inF fl) = false) (hx : RdRow st x 1 L.length (wv L)) (nt : Nat) :
    Gd (callL Try.prog ⟨false, fl, 0, nt⟩ 105 [x] st) fun r => ∃ n ys, r.1 = .p n 0 ∧ RefAt r.2 n ys (.c (.slice none 0 0)) ⟨initS L, initS L, [], 0⟩ 0 ∧ Ext st.nx st r.2 ∧ st.nx ≤ n ∧ ∀ q, Nm ys q → st.nx ≤ q := by
  rw [Gd_callL Try.func105 rfl]
  simp [evOp_call, sets, T.get_set]
  refine Gd_make (zs := [.int .u64 0]) (n := 8) (q := 8) (fun k => el30 k) io31 (fun k => ze31 k) (i := .i64) (i' := .i64) (by simp) (by simp) (by omega) (by omega) ?_
  have fn0 := hfn st.nx (Nat.le_refl _)
  have fn1 := hfn (st.nx + 1) (Nat.le_succ _)
  rw [show rep [V.int .u64 0] 8 = wv (List.replicate 8 0#64) from rfl]
  have he : Ext st.nx st ⟨st.nx + 1, st.h.set st.nx (.cs 31 8 (sets (wv (List.replicate 8 0#64)) 0 .lf))⟩ := (Ext.refl _ _).new (Nat.le_refl _) _
  have he2 := he.new (Nat.le_succ _) (.cs 211 2 (sets [.sl st.nx 0 8 8, .c (.slice none 0 0)] 0 .lf))
  have hbl : ∀ (y : Operand) (s : St), bldK Try.prog 211 [(0, y)] [V.sl st.nx 0 8 8] [.c (.slice none 0 0), .c (.slice none 0 0)] s = some (.g [V.sl st.nx 0 8 8, .c (.slice none 0 0)], s) := fun y s => by
    rw [bldK_ok so211, partsK_one rfl (by simp) (by simp)]; rfl
  simp [T.get_set, hbl, cellsOf, newC_is]
  have hwv8 : (wv (List.replicate 8 0#64)).length = 8 := rfl
  have hne : ¬ st.nx + 1 = st.nx := by omega
  have hrow : ∀ (s : St) (t : T V) (S : List (BitVec 64)), S.length = 8 → st.nx < s.nx → s.h.get st.nx = some (.cs 31 8 t) → (∀ j v, (wv S)[j]? = some v → t.get j = some v) → RdRow s (.sl st.nx 0 8 8) 1 8 (wv S) := fun s t S h1 h2 h3 h4 =>
    ⟨by rw [wv_length, h1], .inr (.inl ⟨st.nx, 0, 8, _, _, t, rfl, h2, h3, Nat.le_refl _, fun j v hj => by rw [Nat.zero_add]; exact h4 j v hj⟩)⟩
  have h0g : ∀ j v, (wv (List.replicate 8 0#64))[j]? = some v → (sets (wv (List.replicate 8 0#64)) 0 T.lf).get j = some v := fun j v hj => by
    have hjl : j < 8 := lt_of_get hj
    rw [get_sets, if_pos ⟨Nat.zero_le _, by rw [hwv8]; omega⟩]
    simpa using hj
  have hnm1 : ¬ Nm (.sl st.nx 0 8 8) (st.nx + 1) := fun e => by
    rcases e with ⟨_, _, _, e⟩ | ⟨_, _, _, e⟩
    · cases e
    · injection e with e; omega
  refine Gd_loop (rnewI st x L) (fun en _ => muAt 4 8 en) ?_ ?_
  · refine ⟨0, List.replicate 8 0#64, Nat.zero_le _, Nat.zero_le _, by simp [T.get_set], by simp [T.get_set], by simp [T.get_set], rfl, fun j hj => ?_, ⟨_, (T.get_set_ne _ _ hne).trans (T.get_set_same _ _ _), h0g⟩, ⟨rfl, Nat.lt_succ_self _, hnm1, fun e => nm_nil e, (fun _ _ _ _ e => by cases e), Nat.zero_le _, (fun r hr => by cases hr), ⟨sets [.sl st.nx 0 8 8, .c (.slice none 0 0)] 0 .lf, T.get_set_same _ _ _, rfl, rfl⟩, ?_, ⟨rfl, .inl ⟨.inl rfl, rfl⟩⟩⟩, he2, rfl⟩
    · rw [if_neg (by omega), List.getElem?_replicate, if_pos hj]
    · exact hrow _ _ _ rfl (by show st.nx < st.nx + 1 + 1; omega) ((T.get_set_ne _ _ hne).trans (T.get_set_same _ _ _)) h0g
  · clear he he2 h0g
    rintro en s ⟨i, S, hi8, hiL, g0, g3, g4, hS, hSg, ⟨t, ht, htg⟩, hr, hs, hnx⟩
    have hxs := hx.ext hs
    obtain ⟨t2, k1, k2, k3⟩ := hr.blk
    have hne2 : ¬ st.nx = st.nx + 1 := by omega
    by_cases hgo : i < 8 ∧ i < L.length
    · obtain ⟨h8, hl⟩ := hgo
      have h8' : (i : Int) < 8 := by omega
      have hl' : (i : Int) < L.length := by omega
      have hwi := wrap_nat (n := i) (by omega)
      have h81 : i + 1 ≤ 8 := h8
      obtain ⟨q, o, ty, sz, tr, hid, hm, hg, ho, hc, hbq⟩ := hxs.idxB (st := s) un30 io31 hl
      obtain ⟨w, hwl⟩ : ∃ w, L[i]? = some w := ⟨_, List.getElem?_eq_getElem hl⟩
      have t0 : tr.get o = some (wd w) := hc 0 _ (by omega) (by simpa using wv_get hwl)
      have fnq : inF fl q = false := by
        rcases hbq with ⟨_, _, _, e⟩ | ⟨_, _, _, e⟩ <;> (rw [e] at hfx; exact hfx)
      simp [evOp_call, T.get_set, g0, g3, g4, h8', hxs.lenS, hl', loadE_eq, getC_eq, k1, k2, hid, hg, t0, h8, fn0, fn1, fnq]
      refine ⟨by kernel_rfl, ?_⟩
      rw [cxOf_store]
      rotate_left
      · kernel_rfl
      simp [T.get_set, g0, g3, g4, putB_eq, ht, h81, roT, sets, hwi, fn0, fn1, fnq]
      have hw2 : (wv S).set i (wd w) = wv (S.set i w) := by unfold wv; rw [List.map_set]
      have hg2 : ∀ j v, (wv (S.set i w))[j]? = some v → (t.set i (wd w)).get j = some v := fun j v hj => by
        rw [← hw2] at hj
        rw [T.get_set]
        by_cases hij : i = j
        · subst hij
          rw [List.getElem?_set_self (by rw [wv_length, hS]; exact h8)] at hj
          injection hj with hj; subst hj
          rw [if_pos rfl]
        · rw [List.getElem?_set_ne hij] at hj
          rw [if_neg hij]; exact htg j v hj
      have z1 : inF ((0, st.nx + 1) :: (st.nx + 1 + 1, s.nx) :: fl) (st.nx + 1) = false := by rw [inF_cons, if_neg (by omega), inF_cons, if_neg (by omega)]; exact fn1
      have z2 : inF ((0, q) :: (q + 1, s.nx) :: fl) q = false := by rw [inF_cons, if_neg (by omega), inF_cons, if_neg (by omega)]; exact fnq
      refine ⟨z1, fun _ => ⟨z2, fun _ => ?_⟩⟩
      refine ⟨⟨i + 1, S.set i w, by omega, by omega, by simp [T.get_set, g0], by simp [T.get_set, g3], by simp [T.get_set], by simp [hS], fun j hj => ?_, ⟨_, T.get_set_same _ _ _, hg2⟩, ⟨by simp [hS], by show st.nx + 1 < s.nx; omega, hr.a1, hr.a2, hr.a3, by simp, by simp, ⟨t2, (T.get_set_ne _ _ hne2).trans k1, k2, k3⟩, ?_, ⟨rfl, .inl ⟨.inl rfl, rfl⟩⟩⟩, hs.set (Nat.le_refl _) (by omega) _, hnx⟩, muAt_lt g4 (by simp [T.get_set]) h8⟩
      · by_cases hij : i = j
        · subst hij
          rw [List.getElem?_set_self (by omega), if_pos (by omega), hwl]; rfl
        · rw [List.getElem?_set_ne hij, hSg j hj]
          by_cases h1 : j < i
          · rw [if_pos h1, if_pos (by omega)]
          · rw [if_neg h1, if_neg (by omega)]
      · exact hrow _ _ _ (by simp [hS]) (by show st.nx < s.nx; omega) (T.get_set_same _ _ _) hg2
    · have hSi : S = initS L := by
        apply List.ext_getElem?
        intro j
        by_cases hj : j < 8
        · obtain ⟨v, hv⟩ : ∃ v, (initS L)[j]? = some v := ⟨_, List.getElem?_eq_getElem (by rw [initS_len]; exact hj)⟩
          rw [hSg j hj, hv, (initS_get hv).2]
          by_cases h1 : j < i
          · rw [if_pos h1]
          · rw [if_neg h1, List.getElem?_eq_none (by omega)]; rfl
        · rw [List.getElem?_eq_none (by omega), List.getElem?_eq_none (by rw [initS_len]; omega)]
      subst hSi
      have hnmq : ∀ q, Nm (.sl st.nx 0 8 8) q → st.nx ≤ q := fun q hq => by rcases hq with ⟨_, _, _, e⟩ | ⟨_, _, _, e⟩ <;> cases e; omega
      by_cases h8 : (i : Int) < 8
      · have hl : ¬ (i : Int) < L.length := by omega
        simp [evOp_call, T.get_set, g0, g3, g4, h8, hxs.lenS, hl]
        exact ⟨_, hr, hs, hnmq⟩
      · simp [evOp_call, T.get_set, g0, g3, g4, h8]
        exact ⟨_, hr, hs, hnmq⟩
end Go.Proofs.Ytenncnbaoejekaa

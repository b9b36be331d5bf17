/-
  The walk of HeadTwo.
-/
import Derived.Test.YtenncnbaoejekaaHdF
set_option linter.unusedSimpArgs false
namespace Go.Proofs.Ytenncnbaoejekaa
open Go.RowKit Ev
def rowB (b : Bool) (z : V) : V := if b then z else .c (.slice none 0 0)
def wdsB (b : Bool) (P : List (BitVec 64)) : List (BitVec 64) := if b then P else []
theorem rowB_rd {b : Bool} {st : St} {z : V} {P : List (BitVec 64)} (h : RdRow st z 1 P.length (wv P)) : RdRow st (rowB b z) 1 (wdsB b P).length (wv (wdsB b P)) := by
  cases b with
  | true => exact h
  | false => exact (OwnRow.nil 0 st 1).rd
theorem ofH_wds {g : Gm} {p : BitVec 64} {bl : Nat} (h : isGood g) (hb : g.b = bl) (b : Bool) : ofH bl (orNo (wdsB b (putH g p))) = if b then some (g, p) else none := by
  cases b with
  | true =>
    unfold ofH orNo wdsB
    rw [if_pos rfl, if_pos (putH_length p h), getH_put p h]
    exact if_pos hb
  | false =>
    have h0 : orNo (wdsB false (putH g p)) = List.replicate 8 0#64 := rfl
    rw [h0]
    unfold ofH
    rw [getH_zero]
    rfl
def htA (st s : St) (f k : Bool) (p : BitVec 64) (z : V) (r : X × Env × St) : Prop := ∃ en : Env, r = (.n, en, s) ∧ en.get 1 = some (.bool f) ∧ en.get 2 = some (.bool k) ∧ en.get 3 = some (wd p) ∧ en.get 4 = some (.p st.nx 0) ∧ en.get 9 = some z ∧ en.get 10 = some (rowB f z) ∧ en.get 11 = some (.c (.slice none 0 0))
def htB (st s : St) (f k : Bool) (p : BitVec 64) (z : V) (r : X × Env × St) : Prop := ∃ en : Env, r = (.n, en, s) ∧ en.get 1 = some (.bool f) ∧ en.get 2 = some (.bool k) ∧ en.get 3 = some (wd p) ∧ en.get 4 = some (.p st.nx 0) ∧ en.get 10 = some (rowB f z) ∧ en.get 11 = some (rowB k z)
set_option maxRecDepth 20000 in
set_option maxHeartbeats 8000000 in
theorem g_HeadTwo (st : St) (g : Gm) (f k : Bool) (p : BitVec 64) :
    Gd (lawC Try.prog 55 ⟨false, [], 0, 0⟩ 12 [gV g, .bool f, .bool k, wd p] st) fun r => r.1 = .bool true := by
  rw [Gd_lawC Try.func12 rfl]
  have hVg : ∀ g : Gm, V.g [V.int .i64 g.b, V.int .i64 g.n, V.int .i64 g.c, V.int .i64 g.k, wd p] = hdV g p := fun _ => rfl
  have gVg : ∀ g : Gm, V.g [V.int .i64 g.b, V.int .i64 g.n, V.int .i64 g.c, V.int .i64 g.k] = gV g := fun _ => rfl
  simp [gV, evOp_call, sets, T.get_set, cellsOf, newC_is, loadE_eq, getC_eq, getsB_succ, getsB_zero, oracF_cons]
  rw [gVg]
  refine Gd.mono (good_any _ [] (fun _ _ => rfl) 0 (Nat.zero_le _) g _) ?_
  rintro ⟨r, s1⟩ ⟨hr, x1⟩
  simp only at hr x1
  subst hr
  have l1 : st.nx < s1.nx := x1.le
  have k0 : s1.h.get st.nx = _ := (x1.keep _ (Nat.lt_succ_self _)).trans (T.get_set_same _ _ _)
  by_cases hg : isGood g
  · have hd : decide (isGood g) = true := by simpa using hg
    by_cases h2 : 200 < g.b
    · simp [evOp_call, T.get_set, hd, loadE_eq, getC_eq, k0, h2]
    · obtain ⟨h1, h3⟩ := hg.1
      obtain ⟨bl, hbl⟩ := Int.eq_ofNat_of_zero_le (show 0 ≤ g.b by omega)
      simp [evOp_call, T.get_set, hd, loadE_eq, getC_eq, getsB_succ, getsB_zero, k0, h2, oracF_cons]
      rw [hVg]
      refine Gd.mono (hput_any _ g p _) ?_
      rintro ⟨z, s2⟩ ⟨hz, _, _, x2⟩
      simp only at hz x2
      have l2 : s1.nx ≤ s2.nx := x2.le
      have k1 : s2.h.get st.nx = _ := (x2.keep _ l1).trans k0
      simp [evOp_call, T.get_set]
      refine condK_join (htA st s2 f k p z) ?_ ?_
      · cases f with
        | true =>
          simp [evOp_call, T.get_set]
          exact ⟨_, rfl, by simp [T.get_set], by simp [T.get_set], by simp [T.get_set], by simp [T.get_set], by simp [T.get_set], by simp [T.get_set, rowB], by simp [T.get_set]⟩
        | false =>
          simp [evOp_call, T.get_set]
          exact ⟨_, rfl, by simp [T.get_set], by simp [T.get_set], by simp [T.get_set], by simp [T.get_set], by simp [T.get_set], by simp [T.get_set, rowB], by simp [T.get_set]⟩
      · rintro _ ⟨en, rfl, g1, g2, g3, g4, g9, g10, g11⟩
        simp [evOp_call, T.get_set, g2]
        refine condK_join (htB st s2 f k p z) ?_ ?_
        · cases k with
          | true =>
            simp [evOp_call, T.get_set, g9]
            exact ⟨_, rfl, by simp [T.get_set, g1], by simp [T.get_set, g2], by simp [T.get_set, g3], by simp [T.get_set, g4], by simp [T.get_set, g10], by simp [T.get_set, rowB]⟩
          | false =>
            simp [evOp_call, T.get_set]
            exact ⟨_, rfl, by simp [T.get_set, g1], by simp [T.get_set, g2], by simp [T.get_set, g3], by simp [T.get_set, g4], by simp [T.get_set, g10], by simp [T.get_set, rowB, g11]⟩
        · clear g1 g2 g3 g4 g9 g10 g11
          rintro _ ⟨en, rfl, g1, g2, g3, g4, g10, g11⟩
          have hrow : ∀ b, RdRow s2 (rowB b z) 1 (wdsB b (putH g p)).length (wv (wdsB b (putH g p))) := fun b => rowB_rd hz
          simp [evOp_call, T.get_set, g1, g2, g3, g4, g10, g11, loadE_eq, getC_eq, k1, hbl, oracF_cons]
          refine Gd.mono (image_any s2 bl (by omega) (rowB f z) (rowB k z) (wdsB f (putH g p)) (wdsB k (putH g p)) (hrow f) (hrow k) _) ?_
          rintro ⟨y, s3⟩ ⟨hy, x3⟩
          simp only at hy x3
          have l3 : s2.nx ≤ s3.nx := x3.le
          have k2 : s3.h.get st.nx = _ := (x3.keep _ (by omega)).trans k1
          simp [evOp_call, T.get_set, oracF_cons]
          refine Gd.mono (hfind_any s3 _ y bl (by omega) _ hy _) ?_
          rintro ⟨r, s4⟩ ⟨hr, x4⟩
          simp only at hr x4
          rw [img_head _ _ (by omega), img_tail _ _ (by omega), ofH_wds hg hbl, ofH_wds hg hbl] at hr
          subst hr
          have l4 : s3.nx ≤ s4.nx := x4.le
          have k3 : s4.h.get st.nx = _ := (x4.keep _ (by omega)).trans k2
          have n4 : ¬ s4.nx = st.nx := by omega
          have hne : ¬ (⟨0, 0, 0, 0⟩ : Gm) = g := fun e => by rw [← e] at h1; exact absurd h1 (by decide)
          cases f <;> cases k
          · simp [findHV, hdO, hdV, evOp_call, sets, T.get_set, newC_is, storeK_g, putB_eq, roT, loadE_eq, getC_eq, getsB_succ, getsB_zero, k3, n4, g1, g2, g3, g4]
            rw [gVg, show V.g [V.int .i64 0, V.int .i64 0, V.int .i64 0, V.int .i64 0] = gV ⟨0, 0, 0, 0⟩ from rfl, eqlGm]
            simp [evOp_call, T.get_set, hne, g1, g2, g3]
          · simp [findHV, hdO, hdV, evOp_call, sets, T.get_set, newC_is, storeK_g, putB_eq, roT, loadE_eq, getC_eq, getsB_succ, getsB_zero, k3, n4, g1, g2, g3, g4]
            rw [gVg, eqlGm]
            simp [evOp_call, T.get_set, g1, g2, g3, loadE_eq, getC_eq]
          · simp [findHV, hdO, hdV, evOp_call, sets, T.get_set, newC_is, storeK_g, putB_eq, roT, loadE_eq, getC_eq, getsB_succ, getsB_zero, k3, n4, g1, g2, g3, g4]
            rw [gVg, eqlGm]
            simp [evOp_call, T.get_set, g1, g2, g3, loadE_eq, getC_eq]
          · simp [findHV, hdO, hdV, evOp_call, sets, T.get_set, newC_is, storeK_g, putB_eq, roT, loadE_eq, getC_eq, getsB_succ, getsB_zero, k3, n4, g1, g2, g3, g4]
            rw [gVg, eqlGm]
            simp [evOp_call, T.get_set, g1, g2, g3, loadE_eq, getC_eq]
  · have hd : decide (isGood g) = false := by simpa using hg
    simp [evOp_call, T.get_set, hd]
theorem rel_gVh (ρ : Rho) (g : Gm) : Rel ρ (gV g) (.agg #[.int .i64 g.b, .int .i64 g.n, .int .i64 g.c, .int .i64 g.k]) := by
  unfold gV
  simp only [Rel]
  exact ⟨_, rfl, .cons (rel_int _ _) (.cons (rel_int _ _) (.cons (rel_int _ _) (.cons (rel_int _ _) .nil))), by simp⟩
theorem w_HeadTwo (b n c k : Int) (f q : Bool) (p : Int) (W : World) (_ : -9223372036854775808 ≤ b ∧ b ≤ 9223372036854775807) (_ : -9223372036854775808 ≤ n ∧ n ≤ 9223372036854775807) (_ : -9223372036854775808 ≤ c ∧ c ≤ 9223372036854775807) (_ : -9223372036854775808 ≤ k ∧ k ≤ 9223372036854775807) (hp : (Lit.int .u64 p).wf = true) :
    Calls Try.prog 12 #[.agg #[.int .i64 b, .int .i64 n, .int .i64 c, .int .i64 k], .bool f, .bool q, .int .u64 p] W fun e W' => e = .returned (.bool true) ∧ Below W.heap.size W W' := by
  obtain ⟨r, rfl, hr⟩ := u64_nat hp
  exact law_calls (lawC_sound namesOkH mixesH Try.func55 rfl headAwake) (Begin.zero W) (.cons (rel_gVh _ ⟨b, n, c, k⟩) (.cons (rel_bool _) (.cons (rel_bool _) (.cons (by rw [← wd_lit (n := (r : Int)) (by omega) (by omega)]; exact rel_int _ _) .nil)))) (g_HeadTwo ⟨0, .lf⟩ ⟨b, n, c, k⟩ f q (BitVec.ofInt 64 r))
end Go.Proofs.Ytenncnbaoejekaa

/-
  Contracts of the document's own memory: its fuse.
-/
import Derived.Test.YtenncnbaoejekaaRmAD
set_option linter.unusedSimpArgs false
namespace Go.Proofs.Ytenncnbaoejekaa
open Go.RowKit Ev
set_option maxRecDepth 20000 in
theorem rmfuse_any (st : St) (q : Nat) (v : RV) (h : RMemAt st q v) (n : Int) (x : V) (K : List Int) (hx : RdRow st x 1 K.length (ivs K)) (hK : K.length ≤ 1000000) (nt : Nat) :
    Gd (callL Try.prog ⟨false, [], 0, nt⟩ 37 [.p q 0, .int .i64 n, x] st) fun r => r.1 = .t [] ∧ ∃ v', RMStep q v v' st r.2 ∧ absR v' = (absR v).fused n K := by
  obtain ⟨t, h1, h2, h3, h4, h5, h6, h7, h8⟩ := h.blk
  rw [Gd_callL Try.func37 rfl]
  unfold AS.fused
  have hoff : (absR v).off = v.off := rfl
  rw [hoff]
  by_cases ho : v.off = true
  · rw [if_pos ho]
    simp [evOp_call, sets, T.get_set, loadE_eq, getC_eq, h1, h3, ho]
    exact ⟨v, RMStep.refl h, rfl⟩
  · have ho' : v.off = false := by simpa using ho
    rw [if_neg ho]
    simp [evOp_call, sets, T.get_set, loadE_eq, getC_eq, h1, h3, ho']
    rw [evOp_build0 (fun k => el32 k) (fun k => ze3 k) rfl]
    have hne : st.nx ≠ q := by have := h.lt; omega
    have fin : ∀ (s : St) (y : V), Ext st.nx st s → RdRow s y 1 K.length (ivs K) → (∀ k, Nm y k → st.nx ≤ k) → ∃ v', RMStep q v v' st ⟨s.nx, s.h.set q (.cs 49 7 ((t.set 2 (.int .i64 n)).set 3 y))⟩ ∧ absR v' = ⟨(absR v).L, false, n, K, (absR v).a, (absR v).b, (absR v).c⟩ := fun s y he hy hge => by
      have hm := RMStep.ofExt h he
      obtain ⟨a1, a2⟩ := hm.at'.setB (v' := { v with fuse := n, K := K, kz := y }) ((t.set 2 (.int .i64 n)).set 3 y) (by simp [rmemIs, T.get_set, h2, h3, h6, h7, h8]) rfl rfl hy (fun k hk => by
        have := hge k hk
        exact ⟨fun e => by have := h.lt; omega, .inr fun m hm2 e => by have := h.own_lt hm2; omega⟩)
      refine ⟨_, ⟨a1, ⟨Nat.le_trans hm.kept.le a2.le, fun w => a2.wf (hm.kept.wf w), fun k hk hnk => ?_⟩, fun k hk => ?_⟩, by show (⟨_, v.off, n, K, v.a, v.b, v.c⟩ : AS) = ⟨_, false, n, K, v.a, v.b, v.c⟩; rw [ho']; rfl⟩
      · rw [a2.keep k (Nat.lt_of_lt_of_le hk hm.kept.le) hnk]
        exact hm.kept.keep k hk hnk
      · rcases hk with rfl | hk | hk | hk
        · exact .inl (.inl rfl)
        · exact .inl (.inr (.inl hk))
        · exact .inr (hge k hk)
        · exact .inl (.inr (.inr (.inr hk)))
    have he : Ext st.nx st ⟨st.nx + 1, st.h.set st.nx (.cs 3 0 .lf)⟩ := (Ext.refl _ _).new (Nat.le_refl _) _
    have hx0 := hx.ext he
    simp [T.get_set]
    refine Gd_append0 un32 un32 io3 (by decide) (T.get_set_same _ _ _) hx0.notS (fun k => hx0.len k) (fun k => hx0.firsts k) hx0.1 (by omega) (fun hz => ?_) fun hp => ?_
    · have hK0 : K = [] := List.length_eq_zero_iff.1 hz
      simp [evOp_call, sets, T.get_set, loadE_eq, getC_eq, putB_eq, roT, hne, h1]
      refine fin ⟨st.nx + 1, st.h.set st.nx (.cs 3 0 .lf)⟩ (.sl st.nx 0 0 0) he ?_ fun k hk => ?_
      · rw [hK0]; exact ⟨rfl, .inr (.inl ⟨st.nx, 0, 0, _, 0, .lf, rfl, Nat.lt_succ_self _, T.get_set_same _ _ _, Nat.le_refl _, fun j v hj => by cases hj⟩)⟩
      · rcases hk with ⟨o, l, z, e⟩ | ⟨o, l, z, e⟩ <;> cases e
        exact Nat.le_refl _
    · have hne2 : ¬ st.nx + 1 = q := by have := h.lt; omega
      have he2 := he.new (Nat.le_succ _) (.cs 3 (ivs K).length (sets (ivs K) 0 .lf))
      have hKl : (ivs K).length = K.length := by unfold ivs; simp
      simp [evOp_call, sets, T.get_set, loadE_eq, getC_eq, putB_eq, roT, hne, hne2, h1]
      refine fin ⟨st.nx + 1 + 1, (st.h.set st.nx (.cs 3 0 .lf)).set (st.nx + 1) (.cs 3 (ivs K).length (sets (ivs K) 0 .lf))⟩ (.sg (st.nx + 1) 0 K.length 1) he2 ?_ fun k hk => ?_
      · refine ⟨by rw [hKl, Nat.mul_one], .inr (.inr ⟨st.nx + 1, 0, _, _, _, rfl, Nat.lt_succ_self _, T.get_set_same _ _ _, by omega, fun j u hj => ?_⟩)⟩
        rw [get_sets, if_pos ⟨Nat.zero_le _, by have := lt_of_get hj; omega⟩, Nat.sub_zero, Nat.zero_add]; exact hj
      · rcases hk with ⟨o, l, z, e⟩ | ⟨o, l, z, e⟩ <;> cases e
        exact Nat.le_succ _
end Go.Proofs.Ytenncnbaoejekaa

/-
  Contracts of the document's own memory: one made of words.
-/
import Derived.Test.YtenncnbaoejekaaRmH
set_option linter.unusedSimpArgs false
namespace Go.Proofs.Ytenncnbaoejekaa
open Go.RowKit Ev
def rfrI (st : St) (n q : Nat) (W : List (BitVec 64)) (x : V) (e : Env) (s : St) : Prop := ∃ (j : Nat) (v : RV), j ≤ n ∧ e.get 0 = some x ∧ e.get 3 = some (.p q 0) ∧ e.get 4 = some (.int .i64 ((j * 8 : Nat) : Int)) ∧
  RMLive st s q v ∧ OwnRow st.nx s v.z 1 j (rptrs v.R) ∧ v.R.length = j ∧ v.kz = nilW ∧ absR v = fromA W j
set_option maxRecDepth 20000 in
set_option maxHeartbeats 4000000 in
theorem rmfrom_any (st : St) (x : V) (W : List (BitVec 64)) (n : Nat) (hn : 1 ≤ n ∧ n ≤ 1024) (hW : W.length = n * 8) (hx : RdRow st x 1 W.length (wv W)) (hcap : CapOk x) (nt : Nat) :
    Gd (callL Try.prog ⟨false, [], 0, nt⟩ 25 [x] st) fun r => ∃ q v, r.1 = .p q 0 ∧ RMLive st r.2 q v ∧ absR v = fromA W n := by
  rw [Gd_callL Try.func25 rfl]
  simp [evOp_call, sets, T.get_set, newC_is, cellsOf]
  refine Gd_loop (rfrI st n st.nx W x) (fun e _ => gapAt 4 (W.length : Int) e) ?_ ?_
  · refine ⟨0, ⟨nilW, nilW, [], false, 0, [], 0, 0, 0⟩, Nat.zero_le _, by simp [T.get_set], by simp [T.get_set], by simp [T.get_set], ⟨⟨Nat.lt_succ_self _, ⟨_, T.get_set_same _ _ _, by simp [rmemIs, sets, T.get_set, nilW]⟩, ⟨rfl, .inl ⟨.inl rfl, rfl⟩⟩, ⟨rfl, .inl ⟨.inl rfl, rfl⟩⟩, fun i r hi => by simp at hi, fun e => nm_nil e, fun e => nm_nil e, fun i r hi => by simp at hi, fun i j r s _ hi => by simp at hi⟩, fun k hk => ?_, (Ext.refl _ _).new (Nat.le_refl _) _⟩, OwnRow.nil _ _ _, rfl, rfl, rfl⟩
    rcases hk with rfl | hk | hk | ⟨r, hr, _⟩
    · exact Nat.le_refl _
    · exact absurd hk nm_nil
    · exact absurd hk nm_nil
    · simp at hr
  · rintro e s ⟨j, v, hj, g0, g3, g4, hm, hz, hR, hkz, ha⟩
    obtain ⟨t, h1, h2, h3, h4, h5, h6, h7, h8⟩ := hm.at'.blk
    have hxs := hx.ext hm.ext
    obtain ⟨i, hi⟩ : ∃ i, i = j * 8 := ⟨_, rfl⟩
    rw [← hi] at g4
    have wi8 : IntKind.i64.wrap ((i : Int) + 8) = (i : Int) + 8 := wrap_in (by omega) (by omega)
    by_cases hlt : j < n
    · have hlt' : (i : Int) + 8 ≤ W.length := by omega
      simp [evOp_call, T.get_set, g0, g3, g4, hlt', hxs.lenS, wi8]
      refine ⟨by kernel_rfl, ?_⟩
      simp [evOp_call, T.get_set, g0, g3, g4, hlt', loadE_eq, getC_eq, h1, h2, wi8]
      refine Gd_midR (i := .i64) (i2 := .i64) (k := i) (k2 := i + 8) un30 io31 hxs hcap (by simp [T.get_set, g4]) (by simp [T.get_set]) (by omega) (by omega) ?_
      intro y hy
      have hys := hy s hxs
      have hyst := hy st hx
      have hle := hm.ext.le
      rw [show i + 8 - i = 8 by omega] at hys hyst
      have hq0 := hm.at'.lt
      have hblk := blk_lt (fl := [(st.nx, st.nx + 1)]) hyst (fun k hk => by rw [inF_cons, if_neg (by omega)]; rfl)
      have hlen : ((W.drop i).take 8).length = 8 := by simp; omega
      simp [evOp_call, T.get_set]
      rw [cxOf_callL [(st.nx, st.nx + 1)] (by kernel_rfl) (by kernel_rfl) (looseW_at 17 (.p st.nx 0) (by simp [T.get_set]) (by kernel_rfl)) (fun x hx => by simp at hx; subst hx; simp only [clashes_tmp, T.get_set]; simpa using hblk) (fun p hp => by simp at hp; subst hp; simp [isRo_cs h1, roT])]
      simp only [forb_nil, List.append_nil]
      refine Gd.mono (rnew_any s y ((W.drop i).take 8) [(st.nx, st.nx + 1)] (fun k hk => by rw [inF_cons, if_neg (by omega)]; rfl) hblk (by rw [hlen]; exact hys) _) ?_
      rintro ⟨r, s1⟩ ⟨n', ys, hr, hl, x1, hn', hys'⟩
      simp only at hr hl x1
      subst hr
      have hx1 := x1.le
      have hzl : v.R.length = j := hR
      simp [evOp_call, T.get_set]
      refine Gd_buildW (vs := [.p n' 0]) (fun k => el47 k) (fun k => ze158 k) rfl (by simp [T.get_set]) (by simp) rfl rfl (by omega) ?_
      simp [evOp_call, T.get_set]
      rw [cxOf_call (by kernel_rfl) (by kernel_rfl), forb_cons (by kernel_rfl) (forb_step (by kernel_rfl) rfl)]
      have hext := fun v => (Ext.refl s1.nx s1).new (Nat.le_refl _) v
      refine Gd_append un47 un47 io158 (lx := 1) (new := [.p n' 0]) ((hz.ext x1).ext (hext _)) (by show st.nx ≤ s1.nx + 1; omega) (by decide) (fun s' h => by cases h) (fun k => rfl) (fun k => by simp [getC_eq, getsB_1, T.get_set, sets]) rfl (by omega) ?_
      intro z' s3 hz3 he3 hk3 hz'
      have hone := hz3.rd.one
      have hqn : ¬ Nm v.z st.nx := hm.at'.q1
      have hkq : s3.h.get st.nx = some (.cs 49 7 t) := by
        rw [hk3 st.nx (by show st.nx < s1.nx + 1; omega) (fun o l e => hqn (.inl ⟨o, l, _, e⟩))]
        show (T.set s1.h s1.nx _).get st.nx = _
        rw [T.get_set_ne _ _ (by omega), x1.keep st.nx hq0]; exact h1
      simp [evOp_call, T.get_set]
      rw [cxOf_store]
      rotate_left
      · kernel_rfl
      rw [forb_step (by kernel_rfl) (forb_cons (by kernel_rfl) (forb_step (by kernel_rfl) rfl))]
      simp [storeK_1 hone, putB_eq, hkq, roT]
      have hWi : lineM W j = ⟨initS ((W.drop i).take 8), initS ((W.drop i).take 8), [], 0⟩ := by rw [hi]; rfl
      have hpt : rptrs (v.R ++ [(⟨n', ys, nilW, lineM W j⟩ : RR)]) = rptrs v.R ++ [V.p n' 0] := by unfold rptrs; rw [List.map_append]; rfl
      have hstep := RMemAt.push (t' := sets [z'] 0 t) hm.at' (fun k hk => by rw [hkz] at hk; exact nm_nil hk) x1 (m := lineM W j) (ys := ys) ⟨0, by rw [hWi]; exact hl, rfl, Nat.zero_le _⟩ hn' hys' (s3 := s3) (z' := z') (Nat.le_trans (Nat.le_succ _) he3.le) (fun w => he3.wf ((hext _).wf w)) (fun k hk hno => by
        rw [hk3 k (by show k < s1.nx + 1; omega) (fun o l e => hno (.inl ⟨o, l, _, e⟩))]
        exact T.get_set_ne _ _ (by omega)) (by rw [hpt, hR]; exact hz3.rd) (fun k hk => by
        rcases hz' with rfl | ⟨ln, rfl⟩
        · exact .inl hk
        · rcases hk with ⟨o, l, z, e⟩ | ⟨o, l, q, e⟩
          · injection e with e
            exact .inr (by rw [← e]; exact Nat.le_succ _)
          · cases e) (by simp [rmemIs, sets, T.get_set, h3, h4, h5, h6, h7, h8])
      have hlast := hm.step hstep
      obtain ⟨i2, hi2⟩ : ∃ i2, i2 = (j + 1) * 8 := ⟨_, rfl⟩
      have wi9 : (i : Int) + 8 = (i2 : Int) := by omega
      have wi10 : IntKind.i64.wrap (i2 : Int) = (i2 : Int) := wrap_in (by omega) (by omega)
      simp [evOp_call, T.get_set, g0, g3, g4, wi9, wi10]
      refine ⟨⟨j + 1, _, hlt, by simp [T.get_set, g0], by simp [T.get_set, g3], by rw [← hi2]; simp [T.get_set], hlast, ?_, by simp [hR], hkz, ?_⟩, gapAt_lt g4 (k' := (i2 : Int)) (i := .i64) (by simp [T.get_set]) (by omega) (by omega)⟩
      · show OwnRow st.nx _ z' 1 (j + 1) (rptrs (v.R ++ [(⟨n', ys, nilW, lineM W j⟩ : RR)]))
        rw [hpt]
        refine hz3.setOther (fun o l z e => ?_) _
        rcases hz' with rfl | ⟨ln, rfl⟩
        · exact hqn (.inl ⟨o, l, z, e⟩)
        · injection e with e
          have : s1.nx + 1 = st.nx := e
          omega
      · rw [fromA_succ, ← ha]
        unfold absR
        simp
    · obtain rfl : j = n := by omega
      have hlt' : ¬ (i : Int) + 8 ≤ W.length := by omega
      simp [evOp_call, T.get_set, g0, g3, g4, hlt', hxs.lenS, wi8]
      exact ⟨v, hm, ha⟩
end Go.Proofs.Ytenncnbaoejekaa

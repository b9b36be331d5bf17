/-
  The document's own records: written and read.
-/
import Derived.Test.YtenncnbaoejekaaRdR
set_option linter.unusedSimpArgs false
namespace Go.Proofs.Ytenncnbaoejekaa
open Go.RowKit Ev
def rpI (st : St) (n : BitVec 64) (y : V) (K : List (Int × BitVec 64)) (e : Env) (s : St) : Prop := ∃ (j : Nat) (z : V), j ≤ K.length ∧ e.get 1 = some (.p st.nx 0) ∧ e.get 3 = some z ∧ e.get 4 = some (.int .i64 (j : Int)) ∧ s.h.get st.nx = some (.cs 137 2 ((T.lf.set 0 (wd n)).set 1 y)) ∧
  AppRow (st.nx + 1) s z 1 (2 + 2 * j) (wv (headR n K j)) ∧ (∀ r ∈ K.take j, okAt r) ∧ Ext st.nx st s ∧ st.nx + 1 ≤ s.nx
set_option maxRecDepth 20000 in
set_option maxHeartbeats 4000000 in
theorem rputR_any (st : St) (n : BitVec 64) (y : V) (K : List (Int × BitVec 64)) (hy : RdRow st y 2 K.length (iw K)) (hK : K.length ≤ 1000000) (nt : Nat) :
    Gd (callL Try.prog ⟨false, [], 0, nt⟩ 100 [.g [wd n, y]] st) fun r => RdRow r.2 r.1 1 (putR n K).length (wv (putR n K)) ∧ Ext st.nx st r.2 := by
  have hone := hy.one
  rw [Gd_callL Try.func100 rfl]
  have he : ∀ v, Ext st.nx st ⟨st.nx + 1, st.h.set st.nx v⟩ := fun v => (Ext.refl _ _).new (Nat.le_refl _) _
  have bad : ∀ s, ¬ fitsR n K → RdRow s (.c (.slice none 0 0)) 1 (putR n K).length (wv (putR n K)) := fun s hf => by
    unfold putR; rw [if_neg hf]; exact (OwnRow.nil 0 s 1).rd
  by_cases hn : n = 0#64
  · have hf : ¬ fitsR n K := fun h => h.1 hn
    simp [evOp_call, sets, T.get_set, cellsOf, newC_is, loadE_eq, getC_eq, hn]
    exact ⟨by rw [← hn]; exact bad _ hf, he _⟩
  · by_cases hl : (400 : Int) < K.length
    · have hf : ¬ fitsR n K := fun h => by have := h.2.1; omega
      simp [evOp_call, sets, T.get_set, cellsOf, newC_is, loadE_eq, getC_eq, hn, hy.lenS, hl]
      exact ⟨bad _ hf, he _⟩
    · simp [evOp_call, sets, T.get_set, cellsOf, newC_is, loadE_eq, getC_eq, hn, hy.lenS, hl]
      refine Gd_buildW (vs := [wd n, wd (BitVec.ofInt 64 (K.length : Int))]) (fun k => el30 k) (fun k => ze31 k) rfl (by simp [T.get_set]) (by simp) rfl rfl (by omega) ?_
      have q1 : ¬ st.nx + 1 = st.nx := by omega
      simp [evOp_call, T.get_set]
      refine Gd_loop (rpI st n y K) (fun en _ => muAt 4 K.length en) ?_ ?_
      · exact ⟨0, _, Nat.zero_le _, by simp [T.get_set], by simp [T.get_set], by simp [T.get_set], (T.get_set_ne _ _ q1).trans (T.get_set_same _ _ _), AppRow.built (n := 2) (st := ⟨st.nx + 1, _⟩) (Nat.le_refl _) (by decide) rfl, fun r h => by simp at h, (he _).new (Nat.le_succ _) _, Nat.le_succ _⟩
      · rintro en s ⟨j, z, hj, g1, g3, g4, kq, hz, hok, hs, hbn⟩
        have hys := hy.ext hs
        by_cases hlt : j < K.length
        · have hlt' : (j : Int) < K.length := by omega
          have hw := wrap_nat (n := j) (by omega)
          obtain ⟨m, o, ty, sz, tr, hid, hm, hg, ho, hc⟩ := hys.idx (st := s) un134 io206 hlt
          obtain ⟨⟨F, N⟩, hr⟩ : ∃ r, K[j]? = some r := ⟨_, List.getElem?_eq_getElem hlt⟩
          have hcl := iw_at K j _ hr
          have t0 : tr.get o = some (.int .i64 F) := hc 0 _ (by omega) hcl.1
          have t1 : tr.get (o + 1) = some (wd N) := hc 1 _ (by omega) hcl.2
          by_cases c1 : F < 0
          · have hf : ¬ fitsR n K := fun h => by have := (h.2.2 _ (List.mem_of_getElem? hr)).1; dsimp only at this; omega
            simp [evOp_call, T.get_set, g1, g3, g4, loadE_eq, getC_eq, kq, hys.lenS, hlt', hid, hg, t0, c1]
            exact ⟨bad _ hf, hs⟩
          · by_cases c2 : 1048576 < F
            · have hf : ¬ fitsR n K := fun h => by have := (h.2.2 _ (List.mem_of_getElem? hr)).2; dsimp only at this; omega
              simp [evOp_call, T.get_set, g1, g3, g4, loadE_eq, getC_eq, kq, hys.lenS, hlt', hid, hg, t0, c1, c2]
              exact ⟨bad _ hf, hs⟩
            · simp [evOp_call, T.get_set, g1, g3, g4, loadE_eq, getC_eq, kq, hys.lenS, hlt', hid, hg, t0, c1, c2]
              refine ⟨by kernel_rfl, ?_⟩
              try simp [evOp_call, T.get_set, g1, g3, g4, loadE_eq, getC_eq, kq, hid, hg, t0, t1]
              refine Gd_buildW (vs := [wd (BitVec.ofInt 64 F), wd N]) (fun k => el30 k) (fun k => ze31 k) rfl (by simp [T.get_set]) (by simp) rfl rfl (by omega) ?_
              simp [evOp_call, T.get_set]
              rw [cxOf_call (by kernel_rfl) (by kernel_rfl), forb_oneR (by kernel_rfl)]
              have hext := fun v => (Ext.refl s.nx s).new (Nat.le_refl _) v
              refine Gd_appendA un30 un30 io31 (lx := 2) (new := [wd (BitVec.ofInt 64 F), wd N]) (hz.ext (hext _)) (by show st.nx + 1 ≤ s.nx + 1; omega) (by decide) (fun s' h => by cases h) (fun k => rfl) (fun k => by simp [getC_eq, getsB_2, T.get_set, sets]) rfl (by omega) (by omega) ?_
              intro s' st' ho' he'
              have hle' : s.nx + 1 ≤ st'.nx := he'.le
              have qs : ¬ s.nx = st.nx := by omega
              simp [evOp_call, T.get_set, g1, g4, hw]
              refine ⟨⟨j + 1, s', hlt, by simp [T.get_set, g1], by simp [T.get_set], by simp [T.get_set], (he'.keep _ (Nat.lt_succ_self _)).trans ((T.get_set_ne _ _ qs).trans kq), .inl ?_, fun r h => ?_, (hs.trans ((hext _).mono (by omega))).trans (he'.mono (Nat.le_succ _)), by omega⟩, muAt_lt g4 (by simp [T.get_set]) hlt⟩
              · rw [headR_take n hr, wv_app, show 2 + 2 * (j + 1) = 2 + 2 * j + 2 by omega]
                exact ho'
              · rw [List.take_add_one, hr] at h
                simp at h
                rcases h with h | rfl
                · exact hok r h
                · exact ⟨by omega, by omega⟩
        · obtain rfl : j = K.length := by omega
          rw [List.take_length] at hok
          rw [headR_all] at hz
          have hf : fitsR n K := ⟨hn, by omega, hok⟩
          have hpl := preR_length n K
          have hzr := hz.rd
          simp [evOp_call, T.get_set, g1, g3, g4, loadE_eq, getC_eq, kq, hys.lenS]
          refine Gd.mono (rslOf_any s 0 z (preR n K) (by rw [hpl, show 2 * K.length + 2 = 2 + 2 * K.length by omega]; exact hzr) (by omega) _) ?_
          rintro _ rfl
          simp [evOp_call, T.get_set]
          refine Gd_buildW (vs := [wd (slOf (preR n K))]) (fun k => el30 k) (fun k => ze31 k) rfl (by simp [T.get_set]) (by simp) rfl rfl (by omega) ?_
          simp [T.get_set]
          have hext := fun v => (Ext.refl s.nx s).new (Nat.le_refl _) v
          refine Gd_appendA un30 un30 io31 (lx := 1) (new := [wd (slOf (preR n K))]) (hz.ext (hext _)) (by show st.nx + 1 ≤ s.nx + 1; omega) (by decide) (fun s' h => by cases h) (fun k => rfl) (fun k => by simp [getC_eq, getsB_1, T.get_set, sets]) rfl (by omega) (by omega) ?_
          intro s' st' ho' he'
          have hpr : putR n K = preR n K ++ [slOf (preR n K)] := by unfold putR; rw [if_pos hf]
          have hpl2 : (putR n K).length = 2 + 2 * K.length + 1 := by rw [hpr]; simp [hpl]; omega
          simp [evOp_call, T.get_set]
          have ho2 : OwnRow (st.nx + 1) st' s' 1 (putR n K).length (wv (putR n K)) := by
            rw [hpl2, hpr, wv_app]
            exact ho'
          exact ⟨ho2.rd, (hs.trans ((hext _).mono (by omega))).trans (he'.mono (Nat.le_succ _))⟩
end Go.Proofs.Ytenncnbaoejekaa

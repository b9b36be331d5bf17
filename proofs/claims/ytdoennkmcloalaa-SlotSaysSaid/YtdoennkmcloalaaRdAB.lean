/-
  PLAIN: RdA, RdB, in one text.
-/
import Derived.Test.YtdoennkmcloalaaTyRedo
import Derived.Test.YtdoennkmcloalaaRb
import Derived.Test.YtdoennkmcloalaaSb
import Derived.Test.YtdoennkmcloalaaEc
set_option linter.unusedSimpArgs false
namespace Go.Proofs.Ytdoennkmcloalaa
open Go.RowKit Ev
def doI (st : St) (y : V) (L : List (BitVec 64)) (K : List (Int × BitVec 64)) (e : Env) (s : St) : Prop := ∃ (k : Nat) (z : V), k ≤ K.length ∧ e.get 5 = some z ∧ e.get 10 = some y ∧ e.get 11 = some (.int .i64 (K.length : Int)) ∧ e.get 12 = some (.int .i64 (k : Int)) ∧
  RdRow s z 1 L.length (wv (doW L (K.take k))) ∧ (0 < L.length → OwnRow st.nx s z 1 L.length (wv (doW L (K.take k)))) ∧ RowFrom st.nx z ∧ Ext st.nx st s
def fitI (st : St) (y : V) (K : List (Int × BitVec 64)) (e : Env) (s : St) : Prop := ∃ k : Nat, k ≤ K.length ∧ e.get 15 = some y ∧ e.get 16 = some (.int .i64 (K.length : Int)) ∧ e.get 17 = some (.int .i64 (k : Int)) ∧ (∀ r ∈ K.take k, okAt r) ∧ Ext st.nx st s
set_option maxRecDepth 20000 in
set_option maxHeartbeats 1000000 in
theorem fits_any (st : St) (n : BitVec 64) (y : V) (K : List (Int × BitVec 64)) (hy : RdRow st y 2 K.length (iw K)) (hK : K.length ≤ 1000000) (nt : Nat) :
    Gd (callL Try.prog ⟨false, [], 0, nt⟩ 198 [.g [wd n, y]] st) fun r => r.1 = .bool (decide (fitsR n K)) ∧ Ext st.nx st r.2 := by
  have hone := hy.one
  rw [Gd_callL Try.func198 rfl]
  have he : ∀ v, Ext st.nx st ⟨st.nx + 1, st.h.set st.nx v⟩ := fun v => (Ext.refl _ _).new (Nat.le_refl _) _
  by_cases hn : n = 0#64
  · have hd : decide (fitsR n K) = false := decide_eq_false fun h => h.1 hn
    simp [evOp_call, sets, T.get_set, cellsOf, newC_is, loadE_eq, getC_eq, hn]
    exact ⟨fun h => absurd rfl h.1, he _⟩
  · by_cases hl : (400 : Int) < K.length
    · have hd : decide (fitsR n K) = false := decide_eq_false fun h => by have := h.2.1; omega
      simp [evOp_call, sets, T.get_set, cellsOf, newC_is, loadE_eq, getC_eq, hn, hy.lenS, hl]
      exact ⟨fun h => by have := h.2.1; omega, he _⟩
    · simp [evOp_call, sets, T.get_set, cellsOf, newC_is, loadE_eq, getC_eq, hn, hy.lenS, hl]
      refine Gd_loop (fitI st y K) (fun en _ => muAt 17 K.length en) ?_ ?_
      · exact ⟨0, Nat.zero_le _, by simp [T.get_set], by simp [T.get_set], by simp [T.get_set], fun r h => by simp at h, he _⟩
      · rintro en s ⟨k, hk, g15, g16, g17, hok, hs⟩
        have hsn := hs.le
        by_cases hlt : k < K.length
        · have hlt' : (k : Int) < K.length := by omega
          have hwk := wrap_nat (n := k) (by omega)
          have hys := hy.ext hs
          obtain ⟨m, o, ty, sz, tr, hid, hm, hg, ho, hc⟩ := hys.idx (st := s) un115 io117 hlt
          obtain ⟨⟨F, N⟩, hr⟩ : ∃ r, K[k]? = some r := ⟨_, List.getElem?_eq_getElem hlt⟩
          have hcl := iw_at K k _ hr
          have t0 : tr.get o = some (.int .i64 F) := hc 0 _ (by omega) hcl.1
          have t1 : tr.get (o + 1) = some (wd N) := hc 1 _ (by omega) hcl.2
          have hne : ¬ s.nx = m := by omega
          have hext := fun v => (Ext.refl s.nx s).new (Nat.le_refl _) v
          by_cases c1 : F < 0
          · have hd : ¬ fitsR n K := fun h => by have := (h.2.2 _ (List.mem_of_getElem? hr)).1; dsimp only at this; omega
            simp [evOp_call, T.get_set, g15, g16, g17, hlt', hid, loadE_eq, getC_eq, hg, getsB_2, t0, t1, newC_is, cellsOf, putB_eq, storeK_g, roT, sets, hne, c1, hd]
            exact hs.trans ((hext _).mono hsn)
          · by_cases c2 : 1048576 < F
            · have hd : ¬ fitsR n K := fun h => by have := (h.2.2 _ (List.mem_of_getElem? hr)).2; dsimp only at this; omega
              simp [evOp_call, T.get_set, g15, g16, g17, hlt', hid, loadE_eq, getC_eq, hg, getsB_2, t0, t1, newC_is, cellsOf, putB_eq, storeK_g, roT, sets, hne, c1, c2, hd]
              exact hs.trans ((hext _).mono hsn)
            · simp [evOp_call, T.get_set, g15, g16, g17, hlt', hid, loadE_eq, getC_eq, hg, getsB_2, t0, t1, newC_is, cellsOf, putB_eq, storeK_g, roT, sets, hne, c1, c2, hwk]
              refine ⟨⟨k + 1, hlt, by simp [T.get_set, g15], by simp [T.get_set, g16], by simp [T.get_set], fun r h => ?_, hs.trans ((hext _).mono hsn)⟩, muAt_lt g17 (by simp [T.get_set]) hlt⟩
              rw [List.take_add_one, hr] at h
              simp at h
              rcases h with h | rfl
              · exact hok r h
              · exact ⟨by omega, by omega⟩
        · obtain rfl : k = K.length := by omega
          rw [List.take_length] at hok
          have hd : fitsR n K := ⟨hn, by omega, hok⟩
          simp [evOp_call, T.get_set, g15, g16, g17, hd]
          exact hs
end Go.Proofs.Ytdoennkmcloalaa
set_option linter.unusedSimpArgs false
namespace Go.Proofs.Ytdoennkmcloalaa
open Go.RowKit Ev
theorem wv_cons (a : BitVec 64) (l : List (BitVec 64)) : wv (a :: l) = wd a :: wv l := rfl
def headR (n : BitVec 64) (K : List (Int × BitVec 64)) (k : Nat) : List (BitVec 64) := n :: BitVec.ofInt 64 K.length :: bodyR (K.take k)
theorem headR_length (n : BitVec 64) {K : List (Int × BitVec 64)} {k : Nat} (h : k ≤ K.length) : (headR n K k).length = 2 + 2 * k := by
  unfold headR; simp [bodyR_length]; omega
theorem headR_take (n : BitVec 64) {K : List (Int × BitVec 64)} {k : Nat} {r : Int × BitVec 64} (h : K[k]? = some r) : headR n K (k + 1) = headR n K k ++ [BitVec.ofInt 64 r.1, r.2] := by
  unfold headR; rw [bodyR_take h]; rfl
theorem headR_all (n : BitVec 64) (K : List (Int × BitVec 64)) : headR n K K.length = preR n K := by unfold headR preR; rw [List.take_length]
def putI (st : St) (n : BitVec 64) (y : V) (K : List (Int × BitVec 64)) (e : Env) (s : St) : Prop := ∃ (k : Nat) (z : V), k ≤ K.length ∧ e.get 3 = some z ∧ e.get 17 = some y ∧ e.get 18 = some (.int .i64 (K.length : Int)) ∧ e.get 19 = some (.int .i64 (k : Int)) ∧
  AppRow st.nx s z 1 (2 + 2 * k) (wv (headR n K k)) ∧ Ext st.nx st s
set_option maxRecDepth 20000 in
set_option maxHeartbeats 2000000 in
theorem put_any (st : St) (n : BitVec 64) (y : V) (K : List (Int × BitVec 64)) (hy : RdRow st y 2 K.length (iw K)) (hK : K.length ≤ 1000000) (nt : Nat) :
    Gd (callL Try.prog ⟨false, [], 0, nt⟩ 160 [.g [wd n, y]] st) fun r => RdRow r.2 r.1 1 (putR n K).length (wv (putR n K)) ∧ RowFrom st.nx r.1 ∧ Ext st.nx st r.2 := by
  have hone := hy.one
  rw [Gd_callL Try.func160 rfl]
  have he : ∀ v, Ext st.nx st ⟨st.nx + 1, st.h.set st.nx v⟩ := fun v => (Ext.refl _ _).new (Nat.le_refl _) _
  simp [evOp_call, sets, T.get_set, cellsOf, newC_is, loadE_eq, getC_eq, getsB_2]
  refine Gd.mono (fits_any _ n y K (hy.ext (he _)) hK _) ?_
  rintro ⟨r, s1⟩ ⟨hr, x1⟩
  simp only at hr x1
  subst hr
  have l1 : st.nx < s1.nx := x1.le
  have hs1 : Ext st.nx st s1 := (he _).trans (x1.mono (Nat.le_succ _))
  have k0 : s1.h.get st.nx = _ := (x1.keep _ (Nat.lt_succ_self _)).trans (T.get_set_same _ _ _)
  by_cases hf : fitsR n K
  · have hd : decide (fitsR n K) = true := by simpa using hf
    have h400 := hf.2.1
    have hy1 := hy.ext hs1
    simp [evOp_call, T.get_set, hd, loadE_eq, getC_eq, k0, hy.lenS]
    refine Gd_buildW (vs := [wd n, wd (BitVec.ofInt 64 (K.length : Int))]) (fun k => el23 k) (fun k => ze24 k) rfl (by simp [T.get_set]) (by simp) rfl rfl (by omega) ?_
    have q0 : ¬ s1.nx = st.nx := by omega
    have hs2 : ∀ v, Ext st.nx st ⟨s1.nx + 1, s1.h.set s1.nx v⟩ := fun v => hs1.new (by omega) v
    simp [evOp_call, T.get_set, loadE_eq, getC_eq, k0, q0, hy.lenS]
    refine Gd_loop (putI st n y K) (fun en _ => muAt 19 K.length en) ?_ ?_
    · exact ⟨0, _, Nat.zero_le _, by simp [T.get_set], by simp [T.get_set], by simp [T.get_set], by simp [T.get_set], AppRow.built (n := 2) (by omega) (by decide) rfl, hs2 _⟩
    · rintro en s ⟨k, z, hk, g3, g17, g18, g19, hz, hs⟩
      have hsn := hs.le
      by_cases hlt : k < K.length
      · have hlt' : (k : Int) < K.length := by omega
        have hwk := wrap_nat (n := k) (by omega)
        have hys := hy.ext hs
        obtain ⟨m, o, ty, sz, tr, hid, hm, hg, ho, hc⟩ := hys.idx (st := s) un115 io117 hlt
        obtain ⟨⟨F, N⟩, hr⟩ : ∃ r, K[k]? = some r := ⟨_, List.getElem?_eq_getElem hlt⟩
        have hcl := iw_at K k _ hr
        have t0 : tr.get o = some (.int .i64 F) := hc 0 _ (by omega) hcl.1
        have t1 : tr.get (o + 1) = some (wd N) := hc 1 _ (by omega) hcl.2
        have hne : ¬ s.nx = m := by omega
        have hext := fun v => (Ext.refl s.nx s).new (Nat.le_refl _) v
        have hext2 := fun v w => (hext v).new (Nat.le_succ _) w
        simp [evOp_call, T.get_set, g3, g17, g18, g19, hlt', hid, loadE_eq, getC_eq, hg, getsB_2, t0, t1, newC_is, cellsOf, putB_eq, storeK_g, roT, sets, hne]
        refine Gd_buildW (vs := [wd (BitVec.ofInt 64 F), wd N]) (fun k => el23 k) (fun k => ze24 k) rfl (by simp [T.get_set]) (by simp) rfl rfl (by omega) ?_
        simp [T.get_set, g3]
        refine Gd_appendA un23 un23 io24 (lx := 2) (new := [wd (BitVec.ofInt 64 F), wd N]) (hz.ext (hext2 _ _)) (by show st.nx ≤ s.nx + 1 + 1; omega) (by decide) (fun s' h => by cases h) (fun k => rfl) (fun k => by simp [getC_eq, getsB_2, T.get_set, sets]) rfl (by omega) (by omega) ?_
        intro s' st' ho' he'
        simp [evOp_call, T.get_set, g17, g18, g19, hwk]
        refine ⟨⟨k + 1, s', hlt, by simp [T.get_set], by simp [T.get_set, g17], by simp [T.get_set, g18], by simp [T.get_set], .inl ?_, (hs.trans ((hext2 _ _).mono hsn)).trans he'⟩, muAt_lt g19 (by simp [T.get_set]) hlt⟩
        rw [headR_take n hr, wv_app, show 2 + 2 * (k + 1) = 2 + 2 * k + 2 by omega]
        exact ho'
      · obtain rfl : k = K.length := by omega
        rw [headR_all] at hz
        have hpl := preR_length n K
        have hzr := hz.rd
        simp [evOp_call, T.get_set, g3, g17, g18, g19]
        refine Gd.mono (slOf_any s 0 z (preR n K) (by rw [hpl, show 2 * K.length + 2 = 2 + 2 * K.length by omega]; exact hzr) (by omega) _) ?_
        rintro _ rfl
        simp [evOp_call, T.get_set]
        refine Gd_buildW (vs := [wd (slOf (preR n K))]) (fun k => el23 k) (fun k => ze24 k) rfl (by simp [T.get_set]) (by simp) rfl rfl (by omega) ?_
        simp [T.get_set]
        have hext := fun v => (Ext.refl s.nx s).new (Nat.le_refl _) v
        refine Gd_appendA un23 un23 io24 (lx := 1) (new := [wd (slOf (preR n K))]) (hz.ext (hext _)) (by show st.nx ≤ s.nx + 1; omega) (by decide) (fun s' h => by cases h) (fun k => rfl) (fun k => by simp [getC_eq, getsB_1, T.get_set, sets]) rfl (by omega) (by omega) ?_
        intro s' st' ho' he'
        have hpr : putR n K = preR n K ++ [slOf (preR n K)] := by unfold putR; rw [if_pos hf]
        have hpl2 : (putR n K).length = 2 + 2 * K.length + 1 := by rw [hpr]; simp [hpl]; omega
        simp [evOp_call, T.get_set]
        have ho2 : OwnRow st.nx st' s' 1 (putR n K).length (wv (putR n K)) := by
          rw [hpl2, hpr, wv_app]
          exact ho'
        exact ⟨ho2.rd, (AppRow.from (.inl ho2)), (hs.trans ((hext _).mono hsn)).trans he'⟩
  · have hd : decide (fitsR n K) = false := by simpa using hf
    have hpr : putR n K = [] := by unfold putR; rw [if_neg hf]
    simp [evOp_call, T.get_set, hd]
    rw [hpr]
    exact ⟨(OwnRow.nil 0 s1 1).rd, ⟨fun _ _ _ _ e => (by cases e), fun _ _ _ _ e => by cases e⟩, hs1⟩
theorem size_any (st : St) (n : BitVec 64) (y : V) (K : List (Int × BitVec 64)) (hy : RdRow st y 2 K.length (iw K)) (hK : K.length ≤ 1000000) (nt : Nat) :
    Gd (callL Try.prog ⟨false, [], 0, nt⟩ 95 [.g [wd n, y]] st) fun r => r.1 = .int .i64 ((putR n K).length : Int) ∧ Ext st.nx st r.2 := by
  have hone := hy.one
  rw [Gd_callL Try.func95 rfl]
  have he : ∀ v, Ext st.nx st ⟨st.nx + 1, st.h.set st.nx v⟩ := fun v => (Ext.refl _ _).new (Nat.le_refl _) _
  simp [evOp_call, sets, T.get_set, cellsOf, newC_is, loadE_eq, getC_eq, getsB_2]
  refine Gd.mono (put_any _ n y K (hy.ext (he _)) hK _) ?_
  rintro ⟨r, s1⟩ ⟨hr, _, x1⟩
  simp only at hr x1
  simp [evOp_call, T.get_set, hr.lenS]
  exact (he _).trans (x1.mono (Nat.le_succ _))
end Go.Proofs.Ytdoennkmcloalaa

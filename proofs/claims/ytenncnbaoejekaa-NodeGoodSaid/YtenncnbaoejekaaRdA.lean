/-
  Contracts of package redo.
-/
import Derived.Test.YtenncnbaoejekaaTyRedo
import Derived.Test.YtenncnbaoejekaaRb
set_option linter.unusedSimpArgs false
namespace Go.Proofs.Ytenncnbaoejekaa
open Go.RowKit Ev
def doI (st : St) (y : V) (L : List (BitVec 64)) (K : List (Int × BitVec 64)) (e : Env) (s : St) : Prop := ∃ (k : Nat) (z : V), k ≤ K.length ∧ e.get 5 = some z ∧ e.get 10 = some y ∧ e.get 11 = some (.int .i64 (K.length : Int)) ∧ e.get 12 = some (.int .i64 (k : Int)) ∧
  RdRow s z 1 L.length (wv (doW L (K.take k))) ∧ (0 < L.length → OwnRow st.nx s z 1 L.length (wv (doW L (K.take k)))) ∧ RowFrom st.nx z ∧ Ext st.nx st s
set_option maxRecDepth 20000 in
set_option maxHeartbeats 1000000 in
theorem do_any (st : St) (x y : V) (L : List (BitVec 64)) (K : List (Int × BitVec 64)) (hx : RdRow st x 1 L.length (wv L)) (hL : L.length ≤ 1000000) (hy : RdRow st y 2 K.length (iw K)) (hK : K.length ≤ 1000000) (nt : Nat) :
    Gd (callL Try.prog ⟨false, [], 0, nt⟩ 103 [x, y] st) fun r => RdRow r.2 r.1 1 L.length (wv (doW L K)) ∧ RowFrom st.nx r.1 ∧ Ext st.nx st r.2 := by
  rw [Gd_callL Try.func103 rfl]
  simp [evOp_call, sets, T.get_set]
  refine Gd.mono (clone_any st x _ _ hx (by omega) _) ?_
  rintro ⟨z, s1⟩ ⟨h1, h2, h3, e1⟩
  simp only at h1 h2 h3 e1
  have b1 : st.nx ≤ s1.nx := e1.le
  simp [evOp_call, T.get_set, hy.lenS]
  refine Gd_loop (doI st y L K) (fun en _ => muAt 12 K.length en) ?_ ?_
  · exact ⟨0, z, Nat.zero_le _, by simp [T.get_set], by simp [T.get_set], by simp [T.get_set], by simp [T.get_set], h1, h2, h3, e1⟩
  · clear h1 h2 h3
    rintro en s ⟨k, z, hk, g5, g10, g11, g12, hz, hoz, hzf, hs⟩
    have hsn := hs.le
    have hlen := doW_length (K.take k) L
    by_cases hlt : k < K.length
    · have hlt' : (k : Int) < K.length := by omega
      have hwk := wrap_nat (n := k) (by omega)
      have hys := hy.ext hs
      obtain ⟨m, o, ty, sz, tr, hid, hm, hg, ho, hc⟩ := hys.idx (st := s) un131 io155 hlt
      obtain ⟨⟨F, N⟩, hr⟩ : ∃ r, K[k]? = some r := ⟨_, List.getElem?_eq_getElem hlt⟩
      have hcl := iw_at K k _ hr
      have t0 : tr.get o = some (.int .i64 F) := hc 0 _ (by omega) hcl.1
      have t1 : tr.get (o + 1) = some (wd N) := hc 1 _ (by omega) hcl.2
      have hne : ¬ s.nx = m := by omega
      have hst := doW_take (L := L) hr
      have hext := fun v => (Ext.refl s.nx s).new (Nat.le_refl _) v
      by_cases c1 : 0 ≤ F
      · by_cases c2 : F < L.length
        · obtain ⟨f, rfl⟩ := Int.eq_ofNat_of_zero_le c1
          have hfl : f < L.length := by omega
          have hset : doW L (K.take (k + 1)) = (doW L (K.take k)).set f N := by
            rw [hst]; unfold wr1; rw [hlen, if_pos ⟨by omega, by omega⟩]; rfl
          have hwv : wv ((doW L (K.take k)).set f N) = (wv (doW L (K.take k))).set f (wd N) := by unfold wv; rw [List.map_set]
          obtain ⟨m2, ty2, tr2, rfl, hb2, hm2, hg2, hro2, hc2, hput⟩ := OwnRow.put2 (hoz (by omega)) (i := f) hfl
          have hne2 : ¬ s.nx = m2 := by omega
          have hfl1 : f + 1 ≤ L.length := hfl
          simp [evOp_call, T.get_set, g5, g10, g11, g12, hlt', hid, loadE_eq, getC_eq, hg, getsB_2, t0, t1, newC_is, cellsOf, putB_eq, storeK_g, roT, sets, hne, hne2, hz.lenS, c1, c2, hfl, hfl1, hg2, hro2, hwk]
          have hp := fun B => hput ⟨s.nx + 1, s.h.set s.nx B⟩ (Nat.lt_succ_of_lt hm2) (wd N)
          refine ⟨⟨k + 1, _, hlt, by simp [T.get_set, g5], by simp [T.get_set, g10], by simp [T.get_set, g11], by simp [T.get_set], ?_, ?_, hzf, ?_⟩, muAt_lt g12 (by simp [T.get_set]) hlt⟩
          · rw [hset, hwv]; exact (hp _).rd
          · rw [hset, hwv]; exact fun _ => hp _
          · exact (hs.trans ((hext _).mono hsn)).set (m := m2) hb2 (Nat.lt_succ_of_lt hm2) _
        · have hno : doW L (K.take (k + 1)) = doW L (K.take k) := by rw [hst]; unfold wr1; rw [hlen, if_neg (fun h => c2 h.2)]
          simp [evOp_call, T.get_set, g5, g10, g11, g12, hlt', hid, loadE_eq, getC_eq, hg, getsB_2, t0, t1, newC_is, cellsOf, putB_eq, storeK_g, roT, sets, hne, hz.lenS, c1, c2, hwk]
          refine ⟨⟨k + 1, z, hlt, by simp [T.get_set, g5], by simp [T.get_set, g10], by simp [T.get_set, g11], by simp [T.get_set], ?_, ?_, hzf, hs.trans ((hext _).mono hsn)⟩, muAt_lt g12 (by simp [T.get_set]) hlt⟩
          · rw [hno]; exact hz.ext (hext _)
          · rw [hno]; exact fun h => (hoz h).ext (hext _)
      · have hno : doW L (K.take (k + 1)) = doW L (K.take k) := by rw [hst]; unfold wr1; rw [if_neg (fun h => c1 h.1)]
        simp [evOp_call, T.get_set, g5, g10, g11, g12, hlt', hid, loadE_eq, getC_eq, hg, getsB_2, t0, t1, newC_is, cellsOf, putB_eq, storeK_g, roT, sets, hne, hz.lenS, c1, hwk]
        refine ⟨⟨k + 1, z, hlt, by simp [T.get_set, g5], by simp [T.get_set, g10], by simp [T.get_set, g11], by simp [T.get_set], ?_, ?_, hzf, hs.trans ((hext _).mono hsn)⟩, muAt_lt g12 (by simp [T.get_set]) hlt⟩
        · rw [hno]; exact hz.ext (hext _)
        · rw [hno]; exact fun h => (hoz h).ext (hext _)
    · obtain rfl : k = K.length := by omega
      rw [List.take_length] at hz hoz
      simp [evOp_call, T.get_set, g5, g11, g12]
      exact ⟨hz, hzf, hs⟩
def fitI (st : St) (y : V) (K : List (Int × BitVec 64)) (e : Env) (s : St) : Prop := ∃ k : Nat, k ≤ K.length ∧ e.get 15 = some y ∧ e.get 16 = some (.int .i64 (K.length : Int)) ∧ e.get 17 = some (.int .i64 (k : Int)) ∧ (∀ r ∈ K.take k, okAt r) ∧ Ext st.nx st s
set_option maxRecDepth 20000 in
set_option maxHeartbeats 1000000 in
theorem fits_any (st : St) (n : BitVec 64) (y : V) (K : List (Int × BitVec 64)) (hy : RdRow st y 2 K.length (iw K)) (hK : K.length ≤ 1000000) (nt : Nat) :
    Gd (callL Try.prog ⟨false, [], 0, nt⟩ 157 [.g [wd n, y]] st) fun r => r.1 = .bool (decide (fitsR n K)) ∧ Ext st.nx st r.2 := by
  have hone := hy.one
  rw [Gd_callL Try.func157 rfl]
  have he : ∀ v, Ext st.nx st ⟨st.nx + 1, st.h.set st.nx v⟩ := fun v => (Ext.refl _ _).new (Nat.le_refl _) _
  by_cases hn : n = 0#64
  · have hd : decide (fitsR n K) = false := decide_eq_false fun h => h.1 hn
    simp [evOp_call, sets, T.get_set, cellsOf, newC_is, loadE_eq, getC_eq, hn]
    exact ⟨fun h => absurd rfl h.1, he _⟩
  · by_cases hl : (400 : Int) < K.length
    · have hd : decide (fitsR n K) = false := decide_eq_false fun h => by have := h.2.1; omega
      simp [evOp_call, sets, T.get_set, cellsOf, newC_is, loadE_eq, getC_eq, hn, hy.lenS, hl]
      exact ⟨fun h => by have := h.2.1; omega, he _⟩
    · simp [evOp_call, sets, T.get_set, cellsOf, newC_is, loadE_eq, getC_eq, hn, hy.lenS, hl]
      refine Gd_loop (fitI st y K) (fun en _ => muAt 17 K.length en) ?_ ?_
      · exact ⟨0, Nat.zero_le _, by simp [T.get_set], by simp [T.get_set], by simp [T.get_set], fun r h => by simp at h, he _⟩
      · rintro en s ⟨k, hk, g15, g16, g17, hok, hs⟩
        have hsn := hs.le
        by_cases hlt : k < K.length
        · have hlt' : (k : Int) < K.length := by omega
          have hwk := wrap_nat (n := k) (by omega)
          have hys := hy.ext hs
          obtain ⟨m, o, ty, sz, tr, hid, hm, hg, ho, hc⟩ := hys.idx (st := s) un131 io155 hlt
          obtain ⟨⟨F, N⟩, hr⟩ : ∃ r, K[k]? = some r := ⟨_, List.getElem?_eq_getElem hlt⟩
          have hcl := iw_at K k _ hr
          have t0 : tr.get o = some (.int .i64 F) := hc 0 _ (by omega) hcl.1
          have t1 : tr.get (o + 1) = some (wd N) := hc 1 _ (by omega) hcl.2
          have hne : ¬ s.nx = m := by omega
          have hext := fun v => (Ext.refl s.nx s).new (Nat.le_refl _) v
          by_cases c1 : F < 0
          · have hd : ¬ fitsR n K := fun h => by have := (h.2.2 _ (List.mem_of_getElem? hr)).1; dsimp only at this; omega
            simp [evOp_call, T.get_set, g15, g16, g17, hlt', hid, loadE_eq, getC_eq, hg, getsB_2, t0, t1, newC_is, cellsOf, putB_eq, storeK_g, roT, sets, hne, c1, hd]
            exact hs.trans ((hext _).mono hsn)
          · by_cases c2 : 1048576 < F
            · have hd : ¬ fitsR n K := fun h => by have := (h.2.2 _ (List.mem_of_getElem? hr)).2; dsimp only at this; omega
              simp [evOp_call, T.get_set, g15, g16, g17, hlt', hid, loadE_eq, getC_eq, hg, getsB_2, t0, t1, newC_is, cellsOf, putB_eq, storeK_g, roT, sets, hne, c1, c2, hd]
              exact hs.trans ((hext _).mono hsn)
            · simp [evOp_call, T.get_set, g15, g16, g17, hlt', hid, loadE_eq, getC_eq, hg, getsB_2, t0, t1, newC_is, cellsOf, putB_eq, storeK_g, roT, sets, hne, c1, c2, hwk]
              refine ⟨⟨k + 1, hlt, by simp [T.get_set, g15], by simp [T.get_set, g16], by simp [T.get_set], fun r h => ?_, hs.trans ((hext _).mono hsn)⟩, muAt_lt g17 (by simp [T.get_set]) hlt⟩
              rw [List.take_add_one, hr] at h
              simp at h
              rcases h with h | rfl
              · exact hok r h
              · exact ⟨by omega, by omega⟩
        · obtain rfl : k = K.length := by omega
          rw [List.take_length] at hok
          have hd : fitsR n K := ⟨hn, by omega, hok⟩
          simp [evOp_call, T.get_set, g15, g16, g17, hd]
          exact hs
end Go.Proofs.Ytenncnbaoejekaa

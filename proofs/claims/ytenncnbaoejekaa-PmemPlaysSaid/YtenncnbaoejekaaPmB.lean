/-
  The walk of PmemAtom.
-/
import Derived.Test.YtenncnbaoejekaaPmA
set_option linter.unusedSimpArgs false
namespace Go.Proofs.Ytenncnbaoejekaa
open Go.RowKit Ev
abbrev ActD := Int × Int × BitVec 64 × List Int
def PA (L : List ActD) (n : Nat) (i : Nat) (v : BitVec 64) : Prop := v = 0#64 ∨ ∃ (k : Nat) (a : ActD), k < n ∧ L[k]? = some a ∧ a.2.1 % 16 = (i : Int) ∧ a.2.2.1 = v
theorem PA.mono {L : List ActD} {n m i : Nat} {v : BitVec 64} (h : PA L n i v) (k : n ≤ m) : PA L m i v := h.imp id fun ⟨q, a, h1, h2⟩ => ⟨q, a, by omega, h2⟩
theorem zero_S {n l p : Nat} {v : BitVec 64} (h : (lineM (List.replicate n 0#64) l).S[p]? = some v) : v = 0#64 := by
  obtain ⟨h1, h2⟩ := initS_get h
  rw [h2, List.getElem?_take, if_pos h1, List.getElem?_drop, List.getElem?_replicate]
  split <;> rfl
theorem atom_zero (n : Nat) (P : Nat → BitVec 64 → Prop) (h : ∀ i, P i 0#64) : atomB n P (zeroA n) 0 := by
  refine ⟨fromA_ok _ _, by show (0 : Int) < 1; omega, fun l m hm => ?_⟩
  have hm' : ((List.range n).map (lineM (List.replicate (n * 8) 0#64)))[l]? = some m := hm
  rw [List.getElem?_map] at hm'
  cases hr : (List.range n)[l]? with
  | none => rw [hr] at hm'; cases hm'
  | some k =>
    rw [hr] at hm'
    injection hm' with hm'
    subst hm'
    exact ⟨fun p v _ hv => by rw [zero_S hv]; exact h _, fun r hr => by cases hr⟩
def paI (st : St) (x k : V) (q n : Nat) (L : List ActD) (e : Env) (s : St) : Prop := ∃ (i : Nat) (v : MV), i ≤ n ∧ e.get 0 = some x ∧ e.get 1 = some k ∧ e.get 5 = some (.p q 0) ∧ e.get 7 = some (.int .i64 (i : Int)) ∧ MLive st s q v ∧ atomB 2 (PA L i) (absV v) i
def paO (sf : St) (x wx : V) (e : Env) (s : St) : Prop := ∃ i : Nat, i ≤ 16 ∧ e.get 0 = some x ∧ e.get 8 = some wx ∧ e.get 9 = some (.int .i64 (i : Int)) ∧ s = sf
def paK (sf : St) (x wx : V) (i : Nat) (L : List ActD) (w : BitVec 64) (e : Env) (s : St) : Prop := ∃ (k : Nat) (b : Bool), k ≤ L.length ∧ e.get 0 = some x ∧ e.get 8 = some wx ∧ e.get 9 = some (.int .i64 (i : Int)) ∧ e.get 10 = some (.bool b) ∧ e.get 11 = some (.int .i64 (k : Int)) ∧ (PA L k i w → b = true) ∧ s = sf
theorem PA.succ {L : List ActD} {n i : Nat} {v : BitVec 64} {a : ActD} (ha : L[n]? = some a) (h : PA L (n + 1) i v) : PA L n i v ∨ (a.2.1 % 16 = (i : Int) ∧ a.2.2.1 = v) := by
  rcases h with h | ⟨k, b, h1, h2, h3⟩
  · exact .inl (.inl h)
  · by_cases e : k = n
    · subst e
      rw [ha] at h2
      injection h2 with h2
      subst h2
      exact .inr h3
    · exact .inl (.inr ⟨k, b, by omega, h2, h3⟩)
set_option maxRecDepth 20000 in
set_option maxHeartbeats 8000000 in
theorem g_PmemAtom (st : St) (x k : Nat → V) (L : List ActD) (K : List Int) (hx : (rowC actC).at' st x L) (hk : (rowC iC).at' st k K) :
    Gd (lawC Try.prog 23 ⟨false, [], 0, 0⟩ 6 [x 0, k 0] st) fun r => r.1 = .bool true := by
  rw [Gd_lawC Try.func6 rfl]
  by_cases c1 : (40 : Int) < L.length
  · simp [evOp_call, sets, T.get_set, rowC_len hx, rowC_len hk, c1]
  by_cases c3 : (10 : Int) < K.length
  · simp [evOp_call, sets, T.get_set, rowC_len hx, rowC_len hk, c1, c3]
  simp [evOp_call, sets, T.get_set, rowC_len hx, rowC_len hk, c1, c3, oracF_cons]
  refine Gd.mono (mnew_any st 2 (by omega) _) ?_
  rintro ⟨r, s0⟩ ⟨q, v0, hr, hv0, ha0⟩
  simp only at hr hv0
  subst hr
  simp [evOp_call, sets, T.get_set]
  refine Gd_loop (paI st (x 0) (k 0) q L.length L) (fun e _ => muAt 7 L.length e) ?_ ?_
  · exact ⟨0, v0, Nat.zero_le _, by simp [T.get_set], by simp [T.get_set], by simp [T.get_set], by simp [T.get_set], hv0, by rw [ha0]; exact atom_zero _ _ fun _ => .inl rfl⟩
  · rintro e s ⟨i, v, hi, g0, g1, g5, g7, hm, hat⟩
    obtain ⟨hok, hf, _⟩ := id hat
    obtain ⟨hR, hO⟩ := hok.R
    have hf' : v.fuse < 1 := hf
    by_cases hlt : i < L.length
    · have hlt' : (i : Int) < L.length := by omega
      have hwi := wrap_nat (n := i) (by omega)
      obtain ⟨a, ha⟩ : ∃ a, L[i]? = some a := ⟨_, List.getElem?_eq_getElem hlt⟩
      obtain ⟨m1, o1, ty1, sz1, t1, z1, i1, b1, hk1, d1, ha1⟩ := rowC_old (c := actC) un22 io34 hx ha
      obtain ⟨p0, p1, p2, p3, p4, p5⟩ := actC_at ha1
      have e0 : t1.get o1 = some (.int .i64 a.1) := (d1 0 (by decide)).trans (by rw [p0])
      have e1 : t1.get (o1 + 1) = some (.int .i64 a.2.1) := (d1 1 (by decide)).trans (by rw [p1])
      have e2 : t1.get (o1 + 2) = some (wd a.2.2.1) := (d1 2 (by decide)).trans (by rw [p2])
      have k1 := hk1 s hm.ext
      obtain ⟨n, hn⟩ : ∃ n : Nat, a.2.1 % 16 = (n : Int) := ⟨(a.2.1 % 16).toNat, by omega⟩
      simp [evOp_call, T.get_set, g0, g1, g5, g7, rowC_len hx, hlt', i1, loadE_eq, getC_eq, k1, e1, e2]
      refine ⟨by kernel_rfl, ?_⟩
      simp [evOp_call, T.get_set, g0, g1, g5, g7, rowC_len hx, hlt', i1, loadE_eq, getC_eq, k1, e1, e2, oracF_cons]
      refine Gd_cxC (c' := ⟨false, [], 0, 112⟩) (by kernel_rfl) ?_
      rw [hn]
      refine Gd.mono (mstore_any s q v hm.at' (n : Int) a.2.2.1 (by omega) (by omega) (by omega) (fun r hr => by have := hO r hr; omega) _) ?_
      rintro ⟨r, s2⟩ ⟨hr, v2, hs2, ha2⟩
      simp only at hr hs2
      subst hr
      have hm2 := hm.step hs2
      have k2 := hk1 s2 hm2.ext
      have hat2 : atomB 2 (PA L (i + 1)) (absV v2) (i + 1) := by
        rw [ha2]; exact atomB_store (atomB_mono hat fun _ _ h => h.mono (Nat.le_succ _)) (by omega) (.inr ⟨i, a, Nat.lt_succ_self _, ha, hn, rfl⟩)
      obtain ⟨hok2, hf2, _⟩ := id hat2
      have hf2' : v2.fuse < 1 := hf2
      obtain ⟨hR2, hO2⟩ := hok2.R
      have fin : ∀ (en : Env) (s3 : St) (v3 : MV), en.get 0 = some (x 0) → en.get 1 = some (k 0) → en.get 5 = some (.p q 0) → en.get 7 = some (.int .i64 ((i + 1 : Nat) : Int)) → MLive st s3 q v3 → atomB 2 (PA L (i + 1)) (absV v3) (i + 1) →
          paI st (x 0) (k 0) q L.length L en s3 ∧ muAt 7 L.length en < muAt 7 L.length e := fun en s3 v3 h0 h1 h5 h7 hm3 ha3 => ⟨⟨i + 1, v3, hlt, h0, h1, h5, h7, hm3, ha3⟩, muAt_lt g7 h7 hlt⟩
      by_cases o1' : a.1 = 1
      · rw [o1'] at e0
        have hmay : (absV v2).may [0] := fun j hj => by
          rw [hok2.len]; simp at hj; omega
        simp [evOp_call, T.get_set, g0, g1, g5, g7, i1, loadE_eq, getC_eq, k2, e0, hwi]
        refine Gd_buildW (vs := ivs [0]) (fun k => el32 k) (fun k => ze3 k) rfl (by simp [T.get_set, ivs]) (by simp [ivs]) rfl rfl (by omega) ?_
        have hb := built_row (st := s2) (el := 3) (vs := ivs [0]) (n := 1) (by decide) rfl
        have hmb := hm2.more ((Ext.refl s2.nx s2).new (Nat.le_refl _) (.cs 3 1 (sets (ivs [0]) 0 .lf)))
        simp [evOp_call, T.get_set, g0, g1, g5, g7, oracF_cons]
        refine Gd.mono (mflush_any _ q v2 hmb.at' _ [0] hb (fun k hk e => by have := nm_sl hk; have := hm2.at'.own_lt e; omega) (by simp) (by omega) (by omega) _) ?_
        rintro ⟨r, s3⟩ ⟨hr, v3, hs3, ha3⟩
        simp only at hr hs3
        subst hr
        have hm3 := hmb.step hs3
        have k3 := hk1 s3 hm3.ext
        simp [evOp_call, T.get_set, g0, g1, g5, g7, i1, loadE_eq, getC_eq, k3, e0, hwi]
        exact fin _ s3 v3 (by simp [T.get_set, g0]) (by simp [T.get_set, g1]) (by simp [T.get_set, g5]) (by simp [T.get_set]) hm3 (by rw [ha3]; exact atomB_flush hat2 hmay)
      · by_cases o2' : a.1 = 2
        · rw [o2'] at e0
          simp [evOp_call, T.get_set, g0, g1, g5, g7, i1, loadE_eq, getC_eq, k2, e0, hwi, oracF_cons]
          refine Gd.mono (mfence_any s2 q v2 hm2.at' (by omega) (by omega) _) ?_
          rintro ⟨r, s3⟩ ⟨hr, v3, hs3, ha3⟩
          simp only at hr hs3
          subst hr
          have hm3 := hm2.step hs3
          simp [evOp_call, T.get_set, g0, g1, g5, g7, hwi]
          exact fin _ s3 v3 (by simp [T.get_set, g0]) (by simp [T.get_set, g1]) (by simp [T.get_set, g5]) (by simp [T.get_set]) hm3 (by rw [ha3]; exact atomB_fence hat2)
        · simp [evOp_call, T.get_set, g0, g1, g5, g7, i1, loadE_eq, getC_eq, k2, e0, hwi, o1', o2']
          exact fin _ s2 v2 (by simp [T.get_set, g0]) (by simp [T.get_set, g1]) (by simp [T.get_set, g5]) (by simp [T.get_set]) hm2 hat2
    · obtain rfl : i = L.length := by omega
      have hkr := hm.row (rowC_ints hk).1
      simp [evOp_call, T.get_set, g0, g1, g5, g7, rowC_len hx, oracF_cons]
      refine Gd.mono (mcrash_on s q v hm.at' hok.off (k 0) K (fun st' v' hs _ _ => (hkr.step hs).1) (by omega) _) ?_
      rintro ⟨r, s5⟩ ⟨hr, hs5⟩
      simp only at hr hs5
      subst hr
      have hm5 := hm.step hs5
      have hR5 : (v.fell K).R.length = 2 := by
        have : (v.fell K).R.length = v.R.length := fallN_length K v.R _
        rw [this, hR]
      have hL5 : (absV (v.fell K)).L = fallM K (absV v).L := fallN_m K v.R
      simp [evOp_call, T.get_set, g0, g1, g5, g7, oracF_cons]
      refine Gd.mono (mwords_any s5 q _ hm5.at' (Nat.le_trans (Nat.le_of_eq hR5) (by omega)) _) ?_
      rintro ⟨wx, s6⟩ ⟨hw6, e6⟩
      simp only at hw6 e6
      have hna := hw6.rd
      rw [hL5, hR5] at hna
      have hm6 := hm5.more e6
      obtain ⟨now, hnow⟩ : ∃ now, now = allN (fallM K (absV v).L) := ⟨_, rfl⟩
      obtain ⟨hnl, hend⟩ := atomB_fall hat K
      rw [← hnow] at hna hnl hend
      simp [evOp_call, T.get_set, g0, hna.lenS]
      refine Gd_loop (paO s6 (x 0) wx) (fun e _ => muAt 9 16 e) ?_ ?_
      · exact ⟨0, Nat.zero_le _, by simp [T.get_set, g0], by simp [T.get_set], by simp [T.get_set], rfl⟩
      · rintro e s ⟨i, hi, f0, f8, f9, rfl⟩
        by_cases hlt : i < 16
        · have hlt' : (i : Int) < 16 := by omega
          have hwi := wrap_nat (n := i) (by omega)
          obtain ⟨m1, o1, ty1, sz1, t1, i1, b1, k1, l1, d1⟩ := hna.idx (st := s) un30 io31 hlt
          obtain ⟨w, hw⟩ : ∃ w, now[i]? = some w := ⟨_, List.getElem?_eq_getElem (by omega)⟩
          have q1 : t1.get o1 = some (wd w) := d1 0 _ (by omega) (by simpa using wv_get hw)
          have hP := hend i w hw
          have hd : wd w = wd w := rfl
          simp [evOp_call, T.get_set, f0, f8, f9, hlt', i1, loadE_eq, getC_eq, k1, q1]
          refine Gd_loop (paK s (x 0) wx i L w) (fun e _ => muAt 11 L.length e) ?_ ?_
          · refine ⟨0, _, Nat.zero_le _, by simp [T.get_set, f0], by simp [T.get_set, f8], by simp [T.get_set, f9], by simp [T.get_set]; rfl, by simp [T.get_set], fun h => ?_, rfl⟩
            rcases h with h | ⟨k, a, h, _⟩
            · simpa using h
            · omega
          · rintro en s' ⟨j, b, hj, h0, h8, h9, h10, h11, hb, rfl⟩
            by_cases hjl : j < L.length
            · have hjl' : (j : Int) < L.length := by omega
              have hwj := wrap_nat (n := j) (by omega)
              obtain ⟨a, ha⟩ : ∃ a, L[j]? = some a := ⟨_, List.getElem?_eq_getElem hjl⟩
              obtain ⟨m2, o2, ty2, sz2, t2, z2, i2, b2, hk2, d2, ha2⟩ := rowC_old (c := actC) un22 io34 hx ha
              obtain ⟨p0, p1, p2, p3, p4, p5⟩ := actC_at ha2
              have e1 : t2.get (o2 + 1) = some (.int .i64 a.2.1) := (d2 1 (by decide)).trans (by rw [p1])
              have e2 : t2.get (o2 + 2) = some (wd a.2.2.1) := (d2 2 (by decide)).trans (by rw [p2])
              have k2 := hk2 s' hm6.ext
              have fin : ∀ (en2 : Env) (b' : Bool), en2.get 0 = some (x 0) → en2.get 8 = some wx → en2.get 9 = some (.int .i64 (i : Int)) → en2.get 10 = some (.bool b') → en2.get 11 = some (.int .i64 ((j + 1 : Nat) : Int)) → (PA L (j + 1) i w → b' = true) →
                  paK s' (x 0) wx i L w en2 s' ∧ muAt 11 L.length en2 < muAt 11 L.length en := fun en2 b' q0 q8 q9 q10 q11 hq => ⟨⟨j + 1, b', hjl, q0, q8, q9, q10, q11, hq, rfl⟩, muAt_lt h11 q11 hjl⟩
              simp [evOp_call, T.get_set, h0, h8, h9, h10, h11, rowC_len hx, hjl']
              refine ⟨by kernel_rfl, ?_⟩
              cases hbb : b with
              | true =>
                rw [hbb] at h10
                simp [evOp_call, T.get_set, h0, h8, h9, h10, h11, hwj]
                exact fin _ true (by simp [T.get_set, h0]) (by simp [T.get_set, h8]) (by simp [T.get_set, h9]) (by simp [T.get_set]) (by simp [T.get_set]) fun _ => rfl
              | false =>
                rw [hbb] at h10 hb
                by_cases hai : a.2.1 % 16 = (i : Int)
                · by_cases hvw : a.2.2.1 = w
                  · simp [evOp_call, T.get_set, h0, h8, h9, h10, h11, hwj, i1, i2, loadE_eq, getC_eq, k1, k2, q1, e1, e2, hai, hvw]
                    exact fin _ true (by simp [T.get_set, h0]) (by simp [T.get_set, h8]) (by simp [T.get_set, h9]) (by simp [T.get_set]) (by simp [T.get_set]) fun _ => rfl
                  · simp [evOp_call, T.get_set, h0, h8, h9, h10, h11, hwj, i1, i2, loadE_eq, getC_eq, k1, k2, q1, e1, e2, hai, hvw]
                    exact fin _ false (by simp [T.get_set, h0]) (by simp [T.get_set, h8]) (by simp [T.get_set, h9]) (by simp [T.get_set]) (by simp [T.get_set]) fun h => by
                      rcases PA.succ ha h with h | h
                      · exact hb h
                      · exact absurd h.2 hvw
                · simp [evOp_call, T.get_set, h0, h8, h9, h10, h11, hwj, i1, i2, loadE_eq, getC_eq, k1, k2, q1, e1, e2, hai]
                  exact fin _ false (by simp [T.get_set, h0]) (by simp [T.get_set, h8]) (by simp [T.get_set, h9]) (by simp [T.get_set]) (by simp [T.get_set]) fun h => by
                    rcases PA.succ ha h with h | h
                    · exact hb h
                    · exact absurd h.1 hai
            · obtain rfl : j = L.length := by omega
              have hbt := hb hP
              rw [hbt] at h10
              simp [evOp_call, T.get_set, h0, h8, h9, h10, h11, rowC_len hx, hwi]
              exact ⟨⟨i + 1, hlt, by simp [T.get_set, h0], by simp [T.get_set, h8], by simp [T.get_set], rfl⟩, muAt_lt f9 (by simp [T.get_set]) hlt⟩
        · obtain rfl : i = 16 := by omega
          simp [evOp_call, T.get_set, f0, f8, f9]
theorem w_PmemAtom (l : List ActD) (k : List Int) (W : World) (x : Value) (hx : (rowC actC).rel W (fun j => [x][j]?.getD default) l) (z : Value) (hz : (rowC iC).rel W (fun j => [z][j]?.getD default) k) :
    Calls Try.prog 6 #[x, z] W fun e W' => e = .returned (.bool true) ∧ Below W.heap.size W W' := by
  obtain ⟨s1, r1, v1, b1, l1, q1, e1, a1⟩ := (rowC actC).enter (Begin.zero W) hx
  obtain ⟨s3, r3, v3, b3, l3, q3, e3, a3⟩ := (rowC iC).enter b1 hz
  exact law_calls (lawC_sound namesOkP mixesP Try.func23 rfl pmAwake) b3 (.cons (Rel.mono l3 _ _ (q1 0 (by decide)).2) (.cons (q3 0 (by decide)).2 .nil))
    (g_PmemAtom s3 v1 v3 l k ((rowC actC).ext a1 e3) a3)
end Go.Proofs.Ytenncnbaoejekaa

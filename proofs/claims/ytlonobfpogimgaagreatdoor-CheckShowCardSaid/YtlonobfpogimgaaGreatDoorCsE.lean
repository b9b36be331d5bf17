/-
  Contracts of a number's text: formatBase10, walked.
-/
import Derived.Test.YtlonobfpogimgaaGreatDoorCsD
set_option linter.unusedSimpArgs false
set_option linter.unusedVariables false
namespace Go.Proofs.YtlonobfpogimgaaGreatDoor
open Go.RowKit Ev
set_option maxRecDepth 20000 in
set_option maxHeartbeats 8000000 in
theorem fmt10_any (st : St) (m o nd q : Nat) (u : BitVec 64) (ty : TypeId) (sz : Nat) (t0 : T V) (hm : m < st.nx) (hg : st.h.get m = some (.cs ty sz t0)) (hro : Nat.beq ty roT = false) (ho : o + nd ≤ sz) (hnd : nd ≤ 20) (hu : Lt10 u.toNat nd) (nt : Nat) :
    Gd (callL Tryz.prog ⟨false, [], 0, nt⟩ 98 [.sl m o nd q, wd u] st) fun r => fmtQ st m o nd u.toNat ty sz t0 r.2 := by
  rw [Gd_callL Tryz.func98 rfl]
  have hro' : ¬ ty = roT := fun h => by rw [h] at hro; cases hro
  simp [evOp_call, sets, T.get_set, lenS, lenA]
  refine Gd_loop (fbI st m o nd q u.toNat ty sz t0) (fun e _ => dnAt 4 e) ?_ ?_
  · exact ⟨nd, 0, u, t0, by omega, by simp [upw], by simp [T.get_set], by simp [T.get_set], by simp [T.get_set], hg, Ext.refl _ _, rfl, fun i h1 h2 => by omega, fun k _ => rfl⟩
  rintro e s ⟨n, j, w, t, hn, hw, g0, g1, g4, hgm, hx, hnx, hfil, hrest⟩
  by_cases h8 : 8 ≤ n
  · have h8' : (8 : Int) ≤ (n : Int) := by omega
    obtain ⟨x, hxd⟩ : ∃ x, x = w.toNat % 100000000 := ⟨_, rfl⟩
    have hcv : ∀ c : Cx, convE Tryz.prog c s 47 147 (wd (w % 100000000#64)) = some (.int .u32 (x : Int), s) := fun c => conv_u32 _ _ (by rw [BitVec.toNat_umod, hxd]; rfl) (by omega)
    have nz1 : ¬ 100000000#64 = 0#64 := by decide
    obtain ⟨a, b, h_a, h_b, q1, q2⟩ := eight_is x (by omega)
    obtain ⟨v1, v0, h_v1, h_v0, hv1, hv0, qqv1, qrv0⟩ := four_is b (by omega)
    obtain ⟨v3, v2, h_v3, h_v2, hv3, hv2, qqv3, qrv2⟩ := four_is a (by omega)
    obtain ⟨y0, z0, dh0, dl0, h_dh0, h_dl0, mu0, wy0, ia0, ib0⟩ := pair_is v0 hv0
    obtain ⟨y1, z1, dh1, dl1, h_dh1, h_dl1, mu1, wy1, ia1, ib1⟩ := pair_is v1 hv1
    obtain ⟨y2, z2, dh2, dl2, h_dh2, h_dl2, mu2, wy2, ia2, ib2⟩ := pair_is v2 hv2
    obtain ⟨y3, z3, dh3, dl3, h_dh3, h_dl3, mu3, wy3, ia3, ib3⟩ := pair_is v3 hv3
    have D0 : dl0 = dgt w.toNat 0 := by rw [h_dl0, h_v0, h_b, hxd]; exact dig_l0 _
    have D1 : dh0 = dgt w.toNat 1 := by rw [h_dh0, h_v0, h_b, hxd]; exact dig_h0 _
    have D2 : dl1 = dgt w.toNat 2 := by rw [h_dl1, h_v1, h_b, hxd]; exact dig_l1 _
    have D3 : dh1 = dgt w.toNat 3 := by rw [h_dh1, h_v1, h_b, hxd]; exact dig_h1 _
    have D4 : dl2 = dgt w.toNat 4 := by rw [h_dl2, h_v2, h_a, hxd]; exact dig_l2 _
    have D5 : dh2 = dgt w.toNat 5 := by rw [h_dh2, h_v2, h_a, hxd]; exact dig_h2 _
    have D6 : dl3 = dgt w.toNat 6 := by rw [h_dl3, h_v3, h_a, hxd]; exact dig_l3 _
    have D7 : dh3 = dgt w.toNat 7 := by rw [h_dh3, h_v3, h_a, hxd]; exact dig_h3 _
    clear h_dh0 h_dl0 h_dh1 h_dl1 h_dh2 h_dl2 h_dh3 h_dl3 h_v0 h_v1 h_v2 h_v3 h_a h_b hxd hv0 hv1 hv2 hv3
    have hle : n ≤ nd := by omega
    obtain ⟨e1, he1, we1, le1, pe1⟩ := sub_is n 1 nd o sz 1 rfl (by omega) (by omega) hle hnd ho
    obtain ⟨e2, he2, we2, le2, pe2⟩ := sub_is n 2 nd o sz 2 rfl (by omega) (by omega) hle hnd ho
    obtain ⟨e3, he3, we3, le3, pe3⟩ := sub_is n 3 nd o sz 3 rfl (by omega) (by omega) hle hnd ho
    obtain ⟨e4, he4, we4, le4, pe4⟩ := sub_is n 4 nd o sz 4 rfl (by omega) (by omega) hle hnd ho
    obtain ⟨e5, he5, we5, le5, pe5⟩ := sub_is n 5 nd o sz 5 rfl (by omega) (by omega) hle hnd ho
    obtain ⟨e6, he6, we6, le6, pe6⟩ := sub_is n 6 nd o sz 6 rfl (by omega) (by omega) hle hnd ho
    obtain ⟨e7, he7, we7, le7, pe7⟩ := sub_is n 7 nd o sz 7 rfl (by omega) (by omega) hle hnd ho
    obtain ⟨e8, he8, we8, le8, pe8⟩ := sub_is n 8 nd o sz 8 rfl (by omega) (by omega) hle hnd ho
    simp [evOp_call, T.get_set, g0, g1, g4, h8', wd_rem, wd_quo, nz1, hcv, q1, q2, qqv1, qrv0, qqv3, qrv2, mu0, mu1, mu2, mu3, -bin_quo, -bin_rem, -bin_mul]
    refine ⟨by kernel_rfl, ?_⟩
    simp [evOp_call, T.get_set, g0, g1, g4, h8', wd_rem, wd_quo, nz1, hcv, q1, q2, qqv1, qrv0, qqv3, qrv2, mu0, mu1, mu2, mu3, wy0, ia0, ib0, we1, we2, le1, le2, pe1, pe2, hro', putB_eq, hgm, sets, -bin_quo, -bin_rem, -bin_mul]
    rw [cxOf_store]
    rotate_left
    · kernel_rfl
    simp [evOp_call, T.get_set, g0, g1, g4, h8', wd_rem, wd_quo, nz1, hcv, q1, q2, qqv1, qrv0, qqv3, qrv2, mu0, mu1, mu2, mu3, wy0, ia0, ib0, we1, we2, le1, le2, pe1, pe2, hro', putB_eq, hgm, sets, -bin_quo, -bin_rem, -bin_mul]
    rw [cxOf_store]
    rotate_left
    · kernel_rfl
    simp [evOp_call, T.get_set, g0, g1, g4, h8', wd_rem, wd_quo, nz1, hcv, q1, q2, qqv1, qrv0, qqv3, qrv2, mu0, mu1, mu2, mu3, wy0, ia0, ib0, we1, we2, le1, le2, pe1, pe2, hro', putB_eq, hgm, sets, -bin_quo, -bin_rem, -bin_mul]
    refine ⟨by kernel_rfl, ?_⟩
    simp [evOp_call, T.get_set, g0, g1, g4, h8', wd_rem, wd_quo, nz1, hcv, q1, q2, qqv1, qrv0, qqv3, qrv2, mu0, mu1, mu2, mu3, wy1, ia1, ib1, we3, we4, le3, le4, pe3, pe4, hro', putB_eq, hgm, sets, -bin_quo, -bin_rem, -bin_mul]
    rw [cxOf_store]
    rotate_left
    · kernel_rfl
    simp [evOp_call, T.get_set, g0, g1, g4, h8', wd_rem, wd_quo, nz1, hcv, q1, q2, qqv1, qrv0, qqv3, qrv2, mu0, mu1, mu2, mu3, wy1, ia1, ib1, we3, we4, le3, le4, pe3, pe4, hro', putB_eq, hgm, sets, -bin_quo, -bin_rem, -bin_mul]
    rw [cxOf_store]
    rotate_left
    · kernel_rfl
    simp [evOp_call, T.get_set, g0, g1, g4, h8', wd_rem, wd_quo, nz1, hcv, q1, q2, qqv1, qrv0, qqv3, qrv2, mu0, mu1, mu2, mu3, wy1, ia1, ib1, we3, we4, le3, le4, pe3, pe4, hro', putB_eq, hgm, sets, -bin_quo, -bin_rem, -bin_mul]
    refine ⟨by kernel_rfl, ?_⟩
    simp [evOp_call, T.get_set, g0, g1, g4, h8', wd_rem, wd_quo, nz1, hcv, q1, q2, qqv1, qrv0, qqv3, qrv2, mu0, mu1, mu2, mu3, wy2, ia2, ib2, we5, we6, le5, le6, pe5, pe6, hro', putB_eq, hgm, sets, -bin_quo, -bin_rem, -bin_mul]
    rw [cxOf_store]
    rotate_left
    · kernel_rfl
    simp [evOp_call, T.get_set, g0, g1, g4, h8', wd_rem, wd_quo, nz1, hcv, q1, q2, qqv1, qrv0, qqv3, qrv2, mu0, mu1, mu2, mu3, wy2, ia2, ib2, we5, we6, le5, le6, pe5, pe6, hro', putB_eq, hgm, sets, -bin_quo, -bin_rem, -bin_mul]
    rw [cxOf_store]
    rotate_left
    · kernel_rfl
    simp [evOp_call, T.get_set, g0, g1, g4, h8', wd_rem, wd_quo, nz1, hcv, q1, q2, qqv1, qrv0, qqv3, qrv2, mu0, mu1, mu2, mu3, wy2, ia2, ib2, we5, we6, le5, le6, pe5, pe6, hro', putB_eq, hgm, sets, -bin_quo, -bin_rem, -bin_mul]
    refine ⟨by kernel_rfl, ?_⟩
    simp [evOp_call, T.get_set, g0, g1, g4, h8', wd_rem, wd_quo, nz1, hcv, q1, q2, qqv1, qrv0, qqv3, qrv2, mu0, mu1, mu2, mu3, wy3, ia3, ib3, we7, we8, le7, le8, pe7, pe8, hro', putB_eq, hgm, sets, -bin_quo, -bin_rem, -bin_mul]
    rw [cxOf_store]
    rotate_left
    · kernel_rfl
    simp [evOp_call, T.get_set, g0, g1, g4, h8', wd_rem, wd_quo, nz1, hcv, q1, q2, qqv1, qrv0, qqv3, qrv2, mu0, mu1, mu2, mu3, wy3, ia3, ib3, we7, we8, le7, le8, pe7, pe8, hro', putB_eq, hgm, sets, -bin_quo, -bin_rem, -bin_mul]
    rw [cxOf_store]
    rotate_left
    · kernel_rfl
    simp [evOp_call, T.get_set, g0, g1, g4, h8', wd_rem, wd_quo, nz1, hcv, q1, q2, qqv1, qrv0, qqv3, qrv2, mu0, mu1, mu2, mu3, wy3, ia3, ib3, we7, we8, le7, le8, pe7, pe8, hro', putB_eq, hgm, sets, -bin_quo, -bin_rem, -bin_mul, we8]
    refine ⟨fb_round st m o nd q u.toNat ty sz t0 hm hro ho hnd n j w t s hn hw hgm hx hnx hfil hrest h8 e1 e2 e3 e4 e5 e6 e7 e8 dl0 dh0 dl1 dh1 dl2 dh2 dl3 dh3 he1 he2 he3 he4 he5 he6 he7 he8 D0 D1 D2 D3 D4 D5 D6 D7 _ (by simp [T.get_set, g0]) (by simp [T.get_set]) (by simp [T.get_set]), ?_⟩
    rw [dnAt_eq g4, dnAt_eq (k := (e8 : Int)) (i := .i64) (by simp [T.get_set])]
    omega
  · have h8' : ¬ (8 : Int) ≤ (n : Int) := by omega
    have hW := tail_lt hu hn hw
    clear hu
    have hlt8 : 10 ^ n ≤ 10 ^ 7 := Nat.pow_le_pow_right (by omega) (by omega)
    have hcv : ∀ c : Cx, convE Tryz.prog c s 47 147 (wd w) = some (.int .u32 (w.toNat : Int), s) := fun c => conv_u32 _ _ rfl (Nat.lt_of_lt_of_le hW (Nat.le_trans hlt8 (by decide)))
    clear hlt8
    have fin : ∀ (i d r : Nat), nd - 1 - i = 8 * j + r → d = dgt w.toNat r → some (V.c (.int .u8 (d : Int))) = some (V.int .u8 (dgt u.toNat (nd - 1 - i) : Int)) := fun i d r e1 e3 => by
      unfold upw at hw
      rw [e1, dgt_at, ← hw, e3]
    clear hw
    obtain ⟨x, hxd⟩ : ∃ x, x = w.toNat := ⟨_, rfl⟩
    simp only [← hxd] at hW hcv fin
    rcases (show n = 0 ∨ n = 1 ∨ n = 2 ∨ n = 3 ∨ n = 4 ∨ n = 5 ∨ n = 6 ∨ n = 7 by omega) with rfl | rfl | rfl | rfl | rfl | rfl | rfl | rfl
    · have hx1 : x < 1 := by simpa using hW
      clear hW hxd hx1
      simp [evOp_call, T.get_set, an2, an3, an4, an5, an6, an7, g0, g1, g4, hcv, wi0, wi1, wi2, wi3, wi4, wi5, wi6, hro', putB_eq, hgm, sets, -bin_quo, -bin_rem, -bin_mul]
      exact ⟨t, hgm, hx, hnx, fun i hi => hfil i (by omega) hi, hrest⟩
    · have hx1 : x < 10 := by simpa using hW
      obtain ⟨dz, h_dz, qz, cz⟩ := last_is x (by omega)
      have D6 : dz = dgt x 0 := by rw [h_dz]; exact dt_1 _ hx1
      clear h_dz
      clear hW hx1
      have lp0 : 0 < nd := by omega
      have pp0 : o + 0 + 1 ≤ sz := by omega
      simp [evOp_call, T.get_set, an2, an3, an4, an5, an6, an7, g0, g1, g4, hcv, wi0, wi1, wi2, wi3, wi4, wi5, wi6, qz, cz, lp0, pp0, hro', putB_eq, hgm, sets, -bin_quo, -bin_rem, -bin_mul]
      refine ⟨_, T.get_set_same _ _ _, hx.set (Nat.le_refl _) (by omega) _, hnx, fun i hi => ?_, fun k hk => ?_⟩
      · simp only [T.get_set]
        by_cases k0 : o = o + i
        · rw [if_pos k0]; exact fin i dz 0 (by omega) D6
        rw [if_neg k0]
        exact hfil i (by omega) hi
      · have k0 := hrest k hk
        simp only [T.get_set]
        rw [if_neg (by omega)]
        exact k0
    · have hx1 : x < 100 := by simpa using hW
      obtain ⟨c1, c0, h_c1, h_c0, hc1, hc0, qqc1, qrc0⟩ := four_is x (by omega)
      obtain ⟨y2, z2, dh2, dl2, h_dh2, h_dl2, mu2, wy2, ia2, ib2⟩ := pair_is c0 hc0
      have D4 : dl2 = dgt x 0 := by rw [h_dl2, h_c0]; exact dt_0l _
      have D5 : dh2 = dgt x 1 := by rw [h_dh2, h_c0]; exact dt_0h _
      clear h_dh2 h_dl2 h_c0 hc0 h_c1 hc1
      clear hW hx1
      have lp0 : 0 < nd := by omega
      have pp0 : o + 0 + 1 ≤ sz := by omega
      have lp1 : 1 < nd := by omega
      have pp1 : o + 1 + 1 ≤ sz := by omega
      simp [evOp_call, T.get_set, an2, an3, an4, an5, an6, an7, g0, g1, g4, hcv, wi0, wi1, wi2, wi3, wi4, wi5, wi6, qqc1, qrc0, mu2, lp0, pp0, lp1, pp1, hro', putB_eq, hgm, sets, -bin_quo, -bin_rem, -bin_mul]
      refine ⟨by kernel_rfl, ?_⟩
      simp [evOp_call, T.get_set, an2, an3, an4, an5, an6, an7, g0, g1, g4, hcv, wi0, wi1, wi2, wi3, wi4, wi5, wi6, qqc1, qrc0, mu2, lp0, pp0, lp1, pp1, wy2, ia2, ib2, hro', putB_eq, hgm, sets, -bin_quo, -bin_rem, -bin_mul]
      rw [cxOf_store]
      rotate_left
      · kernel_rfl
      simp [evOp_call, T.get_set, an2, an3, an4, an5, an6, an7, g0, g1, g4, hcv, wi0, wi1, wi2, wi3, wi4, wi5, wi6, qqc1, qrc0, mu2, lp0, pp0, lp1, pp1, wy2, ia2, ib2, hro', putB_eq, hgm, sets, -bin_quo, -bin_rem, -bin_mul]
      rw [cxOf_store]
      rotate_left
      · kernel_rfl
      simp [evOp_call, T.get_set, an2, an3, an4, an5, an6, an7, g0, g1, g4, hcv, wi0, wi1, wi2, wi3, wi4, wi5, wi6, qqc1, qrc0, mu2, lp0, pp0, lp1, pp1, wy2, ia2, ib2, hro', putB_eq, hgm, sets, -bin_quo, -bin_rem, -bin_mul]
      refine ⟨_, T.get_set_same _ _ _, hx.set (Nat.le_refl _) (by omega) _, hnx, fun i hi => ?_, fun k hk => ?_⟩
      · simp only [T.get_set]
        by_cases k0 : o = o + i
        · rw [if_pos k0]; exact fin i dh2 1 (by omega) D5
        rw [if_neg k0]
        by_cases k1 : o + 1 = o + i
        · rw [if_pos k1]; exact fin i dl2 0 (by omega) D4
        rw [if_neg k1]
        exact hfil i (by omega) hi
      · have k0 := hrest k hk
        simp only [T.get_set]
        rw [if_neg (by omega), if_neg (by omega)]
        exact k0
    · have hx1 : x < 1000 := by simpa using hW
      obtain ⟨c1, c0, h_c1, h_c0, hc1, hc0, qqc1, qrc0⟩ := four_is x (by omega)
      obtain ⟨y2, z2, dh2, dl2, h_dh2, h_dl2, mu2, wy2, ia2, ib2⟩ := pair_is c0 hc0
      have D4 : dl2 = dgt x 0 := by rw [h_dl2, h_c0]; exact dt_0l _
      have D5 : dh2 = dgt x 1 := by rw [h_dh2, h_c0]; exact dt_0h _
      obtain ⟨dz, h_dz, qz, cz⟩ := last_is c1 (by omega)
      have D6 : dz = dgt x 2 := by rw [h_dz, h_c1]; exact dt_3 _ hx1
      clear h_dh2 h_dl2 h_c0 hc0 h_dz h_c1 hc1
      clear hW hx1
      have lp0 : 0 < nd := by omega
      have pp0 : o + 0 + 1 ≤ sz := by omega
      have lp1 : 1 < nd := by omega
      have pp1 : o + 1 + 1 ≤ sz := by omega
      have lp2 : 2 < nd := by omega
      have pp2 : o + 2 + 1 ≤ sz := by omega
      simp [evOp_call, T.get_set, an2, an3, an4, an5, an6, an7, g0, g1, g4, hcv, wi0, wi1, wi2, wi3, wi4, wi5, wi6, qqc1, qrc0, mu2, qz, cz, lp0, pp0, lp1, pp1, lp2, pp2, hro', putB_eq, hgm, sets, -bin_quo, -bin_rem, -bin_mul]
      refine ⟨by kernel_rfl, ?_⟩
      simp [evOp_call, T.get_set, an2, an3, an4, an5, an6, an7, g0, g1, g4, hcv, wi0, wi1, wi2, wi3, wi4, wi5, wi6, qqc1, qrc0, mu2, qz, cz, lp0, pp0, lp1, pp1, lp2, pp2, wy2, ia2, ib2, hro', putB_eq, hgm, sets, -bin_quo, -bin_rem, -bin_mul]
      rw [cxOf_store]
      rotate_left
      · kernel_rfl
      simp [evOp_call, T.get_set, an2, an3, an4, an5, an6, an7, g0, g1, g4, hcv, wi0, wi1, wi2, wi3, wi4, wi5, wi6, qqc1, qrc0, mu2, qz, cz, lp0, pp0, lp1, pp1, lp2, pp2, wy2, ia2, ib2, hro', putB_eq, hgm, sets, -bin_quo, -bin_rem, -bin_mul]
      rw [cxOf_store]
      rotate_left
      · kernel_rfl
      simp [evOp_call, T.get_set, an2, an3, an4, an5, an6, an7, g0, g1, g4, hcv, wi0, wi1, wi2, wi3, wi4, wi5, wi6, qqc1, qrc0, mu2, qz, cz, lp0, pp0, lp1, pp1, lp2, pp2, wy2, ia2, ib2, hro', putB_eq, hgm, sets, -bin_quo, -bin_rem, -bin_mul]
      refine ⟨_, T.get_set_same _ _ _, hx.set (Nat.le_refl _) (by omega) _, hnx, fun i hi => ?_, fun k hk => ?_⟩
      · simp only [T.get_set]
        by_cases k0 : o = o + i
        · rw [if_pos k0]; exact fin i dz 2 (by omega) D6
        rw [if_neg k0]
        by_cases k1 : o + 1 = o + i
        · rw [if_pos k1]; exact fin i dh2 1 (by omega) D5
        rw [if_neg k1]
        by_cases k2 : o + 2 = o + i
        · rw [if_pos k2]; exact fin i dl2 0 (by omega) D4
        rw [if_neg k2]
        exact hfil i (by omega) hi
      · have k0 := hrest k hk
        simp only [T.get_set]
        rw [if_neg (by omega), if_neg (by omega), if_neg (by omega)]
        exact k0
    · have hx1 : x < 10000 := by simpa using hW
      obtain ⟨a, b, h_a, h_b, q1, q2⟩ := eight_is x (by omega)
      obtain ⟨v1, v0, h_v1, h_v0, hv1, hv0, qqv1, qrv0⟩ := four_is b (by omega)
      obtain ⟨y0, z0, dh0, dl0, h_dh0, h_dl0, mu0, wy0, ia0, ib0⟩ := pair_is v0 hv0
      obtain ⟨y1, z1, dh1, dl1, h_dh1, h_dl1, mu1, wy1, ia1, ib1⟩ := pair_is v1 hv1
      have D0 : dl0 = dgt x 0 := by rw [h_dl0, h_v0, h_b]; exact dt_4l0 _
      have D1 : dh0 = dgt x 1 := by rw [h_dh0, h_v0, h_b]; exact dt_4h0 _
      have D2 : dl1 = dgt x 2 := by rw [h_dl1, h_v1, h_b]; exact dt_4l1 _
      have D3 : dh1 = dgt x 3 := by rw [h_dh1, h_v1, h_b]; exact dt_4h1 _
      clear h_dh0 h_dl0 h_dh1 h_dl1 h_v0 h_v1 hv0 hv1 h_a h_b
      clear hW hx1
      have lp0 : 0 < nd := by omega
      have pp0 : o + 0 + 1 ≤ sz := by omega
      have lp1 : 1 < nd := by omega
      have pp1 : o + 1 + 1 ≤ sz := by omega
      have lp2 : 2 < nd := by omega
      have pp2 : o + 2 + 1 ≤ sz := by omega
      have lp3 : 3 < nd := by omega
      have pp3 : o + 3 + 1 ≤ sz := by omega
      simp [evOp_call, T.get_set, an2, an3, an4, an5, an6, an7, g0, g1, g4, hcv, wi0, wi1, wi2, wi3, wi4, wi5, wi6, q1, q2, qqv1, qrv0, mu0, mu1, lp0, pp0, lp1, pp1, lp2, pp2, lp3, pp3, hro', putB_eq, hgm, sets, -bin_quo, -bin_rem, -bin_mul]
      refine ⟨by kernel_rfl, ?_⟩
      simp [evOp_call, T.get_set, an2, an3, an4, an5, an6, an7, g0, g1, g4, hcv, wi0, wi1, wi2, wi3, wi4, wi5, wi6, q1, q2, qqv1, qrv0, mu0, mu1, lp0, pp0, lp1, pp1, lp2, pp2, lp3, pp3, wy0, ia0, ib0, hro', putB_eq, hgm, sets, -bin_quo, -bin_rem, -bin_mul]
      rw [cxOf_store]
      rotate_left
      · kernel_rfl
      simp [evOp_call, T.get_set, an2, an3, an4, an5, an6, an7, g0, g1, g4, hcv, wi0, wi1, wi2, wi3, wi4, wi5, wi6, q1, q2, qqv1, qrv0, mu0, mu1, lp0, pp0, lp1, pp1, lp2, pp2, lp3, pp3, wy0, ia0, ib0, hro', putB_eq, hgm, sets, -bin_quo, -bin_rem, -bin_mul]
      rw [cxOf_store]
      rotate_left
      · kernel_rfl
      simp [evOp_call, T.get_set, an2, an3, an4, an5, an6, an7, g0, g1, g4, hcv, wi0, wi1, wi2, wi3, wi4, wi5, wi6, q1, q2, qqv1, qrv0, mu0, mu1, lp0, pp0, lp1, pp1, lp2, pp2, lp3, pp3, wy0, ia0, ib0, hro', putB_eq, hgm, sets, -bin_quo, -bin_rem, -bin_mul]
      refine ⟨by kernel_rfl, ?_⟩
      simp [evOp_call, T.get_set, an2, an3, an4, an5, an6, an7, g0, g1, g4, hcv, wi0, wi1, wi2, wi3, wi4, wi5, wi6, q1, q2, qqv1, qrv0, mu0, mu1, lp0, pp0, lp1, pp1, lp2, pp2, lp3, pp3, wy1, ia1, ib1, hro', putB_eq, hgm, sets, -bin_quo, -bin_rem, -bin_mul]
      rw [cxOf_store]
      rotate_left
      · kernel_rfl
      simp [evOp_call, T.get_set, an2, an3, an4, an5, an6, an7, g0, g1, g4, hcv, wi0, wi1, wi2, wi3, wi4, wi5, wi6, q1, q2, qqv1, qrv0, mu0, mu1, lp0, pp0, lp1, pp1, lp2, pp2, lp3, pp3, wy1, ia1, ib1, hro', putB_eq, hgm, sets, -bin_quo, -bin_rem, -bin_mul]
      rw [cxOf_store]
      rotate_left
      · kernel_rfl
      simp [evOp_call, T.get_set, an2, an3, an4, an5, an6, an7, g0, g1, g4, hcv, wi0, wi1, wi2, wi3, wi4, wi5, wi6, q1, q2, qqv1, qrv0, mu0, mu1, lp0, pp0, lp1, pp1, lp2, pp2, lp3, pp3, wy1, ia1, ib1, hro', putB_eq, hgm, sets, -bin_quo, -bin_rem, -bin_mul]
      refine ⟨_, T.get_set_same _ _ _, hx.set (Nat.le_refl _) (by omega) _, hnx, fun i hi => ?_, fun k hk => ?_⟩
      · simp only [T.get_set]
        by_cases k0 : o = o + i
        · rw [if_pos k0]; exact fin i dh1 3 (by omega) D3
        rw [if_neg k0]
        by_cases k1 : o + 1 = o + i
        · rw [if_pos k1]; exact fin i dl1 2 (by omega) D2
        rw [if_neg k1]
        by_cases k2 : o + 2 = o + i
        · rw [if_pos k2]; exact fin i dh0 1 (by omega) D1
        rw [if_neg k2]
        by_cases k3 : o + 3 = o + i
        · rw [if_pos k3]; exact fin i dl0 0 (by omega) D0
        rw [if_neg k3]
        exact hfil i (by omega) hi
      · have k0 := hrest k hk
        simp only [T.get_set]
        rw [if_neg (by omega), if_neg (by omega), if_neg (by omega), if_neg (by omega)]
        exact k0
    · have hx1 : x < 100000 := by simpa using hW
      obtain ⟨a, b, h_a, h_b, q1, q2⟩ := eight_is x (by omega)
      obtain ⟨v1, v0, h_v1, h_v0, hv1, hv0, qqv1, qrv0⟩ := four_is b (by omega)
      obtain ⟨y0, z0, dh0, dl0, h_dh0, h_dl0, mu0, wy0, ia0, ib0⟩ := pair_is v0 hv0
      obtain ⟨y1, z1, dh1, dl1, h_dh1, h_dl1, mu1, wy1, ia1, ib1⟩ := pair_is v1 hv1
      have D0 : dl0 = dgt x 0 := by rw [h_dl0, h_v0, h_b]; exact dt_4l0 _
      have D1 : dh0 = dgt x 1 := by rw [h_dh0, h_v0, h_b]; exact dt_4h0 _
      have D2 : dl1 = dgt x 2 := by rw [h_dl1, h_v1, h_b]; exact dt_4l1 _
      have D3 : dh1 = dgt x 3 := by rw [h_dh1, h_v1, h_b]; exact dt_4h1 _
      obtain ⟨dz, h_dz, qz, cz⟩ := last_is a (by omega)
      have D6 : dz = dgt x 4 := by rw [h_dz, h_a]; exact dt_5 _ hx1
      clear h_dh0 h_dl0 h_dh1 h_dl1 h_v0 h_v1 hv0 hv1 h_dz h_a h_b
      clear hW hx1
      have lp0 : 0 < nd := by omega
      have pp0 : o + 0 + 1 ≤ sz := by omega
      have lp1 : 1 < nd := by omega
      have pp1 : o + 1 + 1 ≤ sz := by omega
      have lp2 : 2 < nd := by omega
      have pp2 : o + 2 + 1 ≤ sz := by omega
      have lp3 : 3 < nd := by omega
      have pp3 : o + 3 + 1 ≤ sz := by omega
      have lp4 : 4 < nd := by omega
      have pp4 : o + 4 + 1 ≤ sz := by omega
      simp [evOp_call, T.get_set, an2, an3, an4, an5, an6, an7, g0, g1, g4, hcv, wi0, wi1, wi2, wi3, wi4, wi5, wi6, q1, q2, qqv1, qrv0, mu0, mu1, qz, cz, lp0, pp0, lp1, pp1, lp2, pp2, lp3, pp3, lp4, pp4, hro', putB_eq, hgm, sets, -bin_quo, -bin_rem, -bin_mul]
      refine ⟨by kernel_rfl, ?_⟩
      simp [evOp_call, T.get_set, an2, an3, an4, an5, an6, an7, g0, g1, g4, hcv, wi0, wi1, wi2, wi3, wi4, wi5, wi6, q1, q2, qqv1, qrv0, mu0, mu1, qz, cz, lp0, pp0, lp1, pp1, lp2, pp2, lp3, pp3, lp4, pp4, wy0, ia0, ib0, hro', putB_eq, hgm, sets, -bin_quo, -bin_rem, -bin_mul]
      rw [cxOf_store]
      rotate_left
      · kernel_rfl
      simp [evOp_call, T.get_set, an2, an3, an4, an5, an6, an7, g0, g1, g4, hcv, wi0, wi1, wi2, wi3, wi4, wi5, wi6, q1, q2, qqv1, qrv0, mu0, mu1, qz, cz, lp0, pp0, lp1, pp1, lp2, pp2, lp3, pp3, lp4, pp4, wy0, ia0, ib0, hro', putB_eq, hgm, sets, -bin_quo, -bin_rem, -bin_mul]
      rw [cxOf_store]
      rotate_left
      · kernel_rfl
      simp [evOp_call, T.get_set, an2, an3, an4, an5, an6, an7, g0, g1, g4, hcv, wi0, wi1, wi2, wi3, wi4, wi5, wi6, q1, q2, qqv1, qrv0, mu0, mu1, qz, cz, lp0, pp0, lp1, pp1, lp2, pp2, lp3, pp3, lp4, pp4, wy0, ia0, ib0, hro', putB_eq, hgm, sets, -bin_quo, -bin_rem, -bin_mul]
      refine ⟨by kernel_rfl, ?_⟩
      simp [evOp_call, T.get_set, an2, an3, an4, an5, an6, an7, g0, g1, g4, hcv, wi0, wi1, wi2, wi3, wi4, wi5, wi6, q1, q2, qqv1, qrv0, mu0, mu1, qz, cz, lp0, pp0, lp1, pp1, lp2, pp2, lp3, pp3, lp4, pp4, wy1, ia1, ib1, hro', putB_eq, hgm, sets, -bin_quo, -bin_rem, -bin_mul]
      rw [cxOf_store]
      rotate_left
      · kernel_rfl
      simp [evOp_call, T.get_set, an2, an3, an4, an5, an6, an7, g0, g1, g4, hcv, wi0, wi1, wi2, wi3, wi4, wi5, wi6, q1, q2, qqv1, qrv0, mu0, mu1, qz, cz, lp0, pp0, lp1, pp1, lp2, pp2, lp3, pp3, lp4, pp4, wy1, ia1, ib1, hro', putB_eq, hgm, sets, -bin_quo, -bin_rem, -bin_mul]
      rw [cxOf_store]
      rotate_left
      · kernel_rfl
      simp [evOp_call, T.get_set, an2, an3, an4, an5, an6, an7, g0, g1, g4, hcv, wi0, wi1, wi2, wi3, wi4, wi5, wi6, q1, q2, qqv1, qrv0, mu0, mu1, qz, cz, lp0, pp0, lp1, pp1, lp2, pp2, lp3, pp3, lp4, pp4, wy1, ia1, ib1, hro', putB_eq, hgm, sets, -bin_quo, -bin_rem, -bin_mul]
      refine ⟨_, T.get_set_same _ _ _, hx.set (Nat.le_refl _) (by omega) _, hnx, fun i hi => ?_, fun k hk => ?_⟩
      · simp only [T.get_set]
        by_cases k0 : o = o + i
        · rw [if_pos k0]; exact fin i dz 4 (by omega) D6
        rw [if_neg k0]
        by_cases k1 : o + 1 = o + i
        · rw [if_pos k1]; exact fin i dh1 3 (by omega) D3
        rw [if_neg k1]
        by_cases k2 : o + 2 = o + i
        · rw [if_pos k2]; exact fin i dl1 2 (by omega) D2
        rw [if_neg k2]
        by_cases k3 : o + 3 = o + i
        · rw [if_pos k3]; exact fin i dh0 1 (by omega) D1
        rw [if_neg k3]
        by_cases k4 : o + 4 = o + i
        · rw [if_pos k4]; exact fin i dl0 0 (by omega) D0
        rw [if_neg k4]
        exact hfil i (by omega) hi
      · have k0 := hrest k hk
        simp only [T.get_set]
        rw [if_neg (by omega), if_neg (by omega), if_neg (by omega), if_neg (by omega), if_neg (by omega)]
        exact k0
    · have hx1 : x < 1000000 := by simpa using hW
      obtain ⟨a, b, h_a, h_b, q1, q2⟩ := eight_is x (by omega)
      obtain ⟨v1, v0, h_v1, h_v0, hv1, hv0, qqv1, qrv0⟩ := four_is b (by omega)
      obtain ⟨y0, z0, dh0, dl0, h_dh0, h_dl0, mu0, wy0, ia0, ib0⟩ := pair_is v0 hv0
      obtain ⟨y1, z1, dh1, dl1, h_dh1, h_dl1, mu1, wy1, ia1, ib1⟩ := pair_is v1 hv1
      have D0 : dl0 = dgt x 0 := by rw [h_dl0, h_v0, h_b]; exact dt_4l0 _
      have D1 : dh0 = dgt x 1 := by rw [h_dh0, h_v0, h_b]; exact dt_4h0 _
      have D2 : dl1 = dgt x 2 := by rw [h_dl1, h_v1, h_b]; exact dt_4l1 _
      have D3 : dh1 = dgt x 3 := by rw [h_dh1, h_v1, h_b]; exact dt_4h1 _
      obtain ⟨c1, c0, h_c1, h_c0, hc1, hc0, qqc1, qrc0⟩ := four_is a (by omega)
      obtain ⟨y2, z2, dh2, dl2, h_dh2, h_dl2, mu2, wy2, ia2, ib2⟩ := pair_is c0 hc0
      have D4 : dl2 = dgt x 4 := by rw [h_dl2, h_c0, h_a]; exact dt_4l _
      have D5 : dh2 = dgt x 5 := by rw [h_dh2, h_c0, h_a]; exact dt_4h _
      clear h_dh0 h_dl0 h_dh1 h_dl1 h_v0 h_v1 hv0 hv1 h_dh2 h_dl2 h_c0 hc0 h_a h_b h_c1 hc1
      clear hW hx1
      have lp0 : 0 < nd := by omega
      have pp0 : o + 0 + 1 ≤ sz := by omega
      have lp1 : 1 < nd := by omega
      have pp1 : o + 1 + 1 ≤ sz := by omega
      have lp2 : 2 < nd := by omega
      have pp2 : o + 2 + 1 ≤ sz := by omega
      have lp3 : 3 < nd := by omega
      have pp3 : o + 3 + 1 ≤ sz := by omega
      have lp4 : 4 < nd := by omega
      have pp4 : o + 4 + 1 ≤ sz := by omega
      have lp5 : 5 < nd := by omega
      have pp5 : o + 5 + 1 ≤ sz := by omega
      simp [evOp_call, T.get_set, an2, an3, an4, an5, an6, an7, g0, g1, g4, hcv, wi0, wi1, wi2, wi3, wi4, wi5, wi6, q1, q2, qqv1, qrv0, mu0, mu1, qqc1, qrc0, mu2, lp0, pp0, lp1, pp1, lp2, pp2, lp3, pp3, lp4, pp4, lp5, pp5, hro', putB_eq, hgm, sets, -bin_quo, -bin_rem, -bin_mul]
      refine ⟨by kernel_rfl, ?_⟩
      simp [evOp_call, T.get_set, an2, an3, an4, an5, an6, an7, g0, g1, g4, hcv, wi0, wi1, wi2, wi3, wi4, wi5, wi6, q1, q2, qqv1, qrv0, mu0, mu1, qqc1, qrc0, mu2, lp0, pp0, lp1, pp1, lp2, pp2, lp3, pp3, lp4, pp4, lp5, pp5, wy0, ia0, ib0, hro', putB_eq, hgm, sets, -bin_quo, -bin_rem, -bin_mul]
      rw [cxOf_store]
      rotate_left
      · kernel_rfl
      simp [evOp_call, T.get_set, an2, an3, an4, an5, an6, an7, g0, g1, g4, hcv, wi0, wi1, wi2, wi3, wi4, wi5, wi6, q1, q2, qqv1, qrv0, mu0, mu1, qqc1, qrc0, mu2, lp0, pp0, lp1, pp1, lp2, pp2, lp3, pp3, lp4, pp4, lp5, pp5, wy0, ia0, ib0, hro', putB_eq, hgm, sets, -bin_quo, -bin_rem, -bin_mul]
      rw [cxOf_store]
      rotate_left
      · kernel_rfl
      simp [evOp_call, T.get_set, an2, an3, an4, an5, an6, an7, g0, g1, g4, hcv, wi0, wi1, wi2, wi3, wi4, wi5, wi6, q1, q2, qqv1, qrv0, mu0, mu1, qqc1, qrc0, mu2, lp0, pp0, lp1, pp1, lp2, pp2, lp3, pp3, lp4, pp4, lp5, pp5, wy0, ia0, ib0, hro', putB_eq, hgm, sets, -bin_quo, -bin_rem, -bin_mul]
      refine ⟨by kernel_rfl, ?_⟩
      simp [evOp_call, T.get_set, an2, an3, an4, an5, an6, an7, g0, g1, g4, hcv, wi0, wi1, wi2, wi3, wi4, wi5, wi6, q1, q2, qqv1, qrv0, mu0, mu1, qqc1, qrc0, mu2, lp0, pp0, lp1, pp1, lp2, pp2, lp3, pp3, lp4, pp4, lp5, pp5, wy1, ia1, ib1, hro', putB_eq, hgm, sets, -bin_quo, -bin_rem, -bin_mul]
      rw [cxOf_store]
      rotate_left
      · kernel_rfl
      simp [evOp_call, T.get_set, an2, an3, an4, an5, an6, an7, g0, g1, g4, hcv, wi0, wi1, wi2, wi3, wi4, wi5, wi6, q1, q2, qqv1, qrv0, mu0, mu1, qqc1, qrc0, mu2, lp0, pp0, lp1, pp1, lp2, pp2, lp3, pp3, lp4, pp4, lp5, pp5, wy1, ia1, ib1, hro', putB_eq, hgm, sets, -bin_quo, -bin_rem, -bin_mul]
      rw [cxOf_store]
      rotate_left
      · kernel_rfl
      simp [evOp_call, T.get_set, an2, an3, an4, an5, an6, an7, g0, g1, g4, hcv, wi0, wi1, wi2, wi3, wi4, wi5, wi6, q1, q2, qqv1, qrv0, mu0, mu1, qqc1, qrc0, mu2, lp0, pp0, lp1, pp1, lp2, pp2, lp3, pp3, lp4, pp4, lp5, pp5, wy1, ia1, ib1, hro', putB_eq, hgm, sets, -bin_quo, -bin_rem, -bin_mul]
      refine ⟨by kernel_rfl, ?_⟩
      simp [evOp_call, T.get_set, an2, an3, an4, an5, an6, an7, g0, g1, g4, hcv, wi0, wi1, wi2, wi3, wi4, wi5, wi6, q1, q2, qqv1, qrv0, mu0, mu1, qqc1, qrc0, mu2, lp0, pp0, lp1, pp1, lp2, pp2, lp3, pp3, lp4, pp4, lp5, pp5, wy2, ia2, ib2, hro', putB_eq, hgm, sets, -bin_quo, -bin_rem, -bin_mul]
      rw [cxOf_store]
      rotate_left
      · kernel_rfl
      simp [evOp_call, T.get_set, an2, an3, an4, an5, an6, an7, g0, g1, g4, hcv, wi0, wi1, wi2, wi3, wi4, wi5, wi6, q1, q2, qqv1, qrv0, mu0, mu1, qqc1, qrc0, mu2, lp0, pp0, lp1, pp1, lp2, pp2, lp3, pp3, lp4, pp4, lp5, pp5, wy2, ia2, ib2, hro', putB_eq, hgm, sets, -bin_quo, -bin_rem, -bin_mul]
      rw [cxOf_store]
      rotate_left
      · kernel_rfl
      simp [evOp_call, T.get_set, an2, an3, an4, an5, an6, an7, g0, g1, g4, hcv, wi0, wi1, wi2, wi3, wi4, wi5, wi6, q1, q2, qqv1, qrv0, mu0, mu1, qqc1, qrc0, mu2, lp0, pp0, lp1, pp1, lp2, pp2, lp3, pp3, lp4, pp4, lp5, pp5, wy2, ia2, ib2, hro', putB_eq, hgm, sets, -bin_quo, -bin_rem, -bin_mul]
      refine ⟨_, T.get_set_same _ _ _, hx.set (Nat.le_refl _) (by omega) _, hnx, fun i hi => ?_, fun k hk => ?_⟩
      · simp only [T.get_set]
        by_cases k0 : o = o + i
        · rw [if_pos k0]; exact fin i dh2 5 (by omega) D5
        rw [if_neg k0]
        by_cases k1 : o + 1 = o + i
        · rw [if_pos k1]; exact fin i dl2 4 (by omega) D4
        rw [if_neg k1]
        by_cases k2 : o + 2 = o + i
        · rw [if_pos k2]; exact fin i dh1 3 (by omega) D3
        rw [if_neg k2]
        by_cases k3 : o + 3 = o + i
        · rw [if_pos k3]; exact fin i dl1 2 (by omega) D2
        rw [if_neg k3]
        by_cases k4 : o + 4 = o + i
        · rw [if_pos k4]; exact fin i dh0 1 (by omega) D1
        rw [if_neg k4]
        by_cases k5 : o + 5 = o + i
        · rw [if_pos k5]; exact fin i dl0 0 (by omega) D0
        rw [if_neg k5]
        exact hfil i (by omega) hi
      · have k0 := hrest k hk
        simp only [T.get_set]
        rw [if_neg (by omega), if_neg (by omega), if_neg (by omega), if_neg (by omega), if_neg (by omega), if_neg (by omega)]
        exact k0
    · have hx1 : x < 10000000 := by simpa using hW
      obtain ⟨a, b, h_a, h_b, q1, q2⟩ := eight_is x (by omega)
      obtain ⟨v1, v0, h_v1, h_v0, hv1, hv0, qqv1, qrv0⟩ := four_is b (by omega)
      obtain ⟨y0, z0, dh0, dl0, h_dh0, h_dl0, mu0, wy0, ia0, ib0⟩ := pair_is v0 hv0
      obtain ⟨y1, z1, dh1, dl1, h_dh1, h_dl1, mu1, wy1, ia1, ib1⟩ := pair_is v1 hv1
      have D0 : dl0 = dgt x 0 := by rw [h_dl0, h_v0, h_b]; exact dt_4l0 _
      have D1 : dh0 = dgt x 1 := by rw [h_dh0, h_v0, h_b]; exact dt_4h0 _
      have D2 : dl1 = dgt x 2 := by rw [h_dl1, h_v1, h_b]; exact dt_4l1 _
      have D3 : dh1 = dgt x 3 := by rw [h_dh1, h_v1, h_b]; exact dt_4h1 _
      obtain ⟨c1, c0, h_c1, h_c0, hc1, hc0, qqc1, qrc0⟩ := four_is a (by omega)
      obtain ⟨y2, z2, dh2, dl2, h_dh2, h_dl2, mu2, wy2, ia2, ib2⟩ := pair_is c0 hc0
      have D4 : dl2 = dgt x 4 := by rw [h_dl2, h_c0, h_a]; exact dt_4l _
      have D5 : dh2 = dgt x 5 := by rw [h_dh2, h_c0, h_a]; exact dt_4h _
      obtain ⟨dz, h_dz, qz, cz⟩ := last_is c1 (by omega)
      have D6 : dz = dgt x 6 := by rw [h_dz, h_c1, h_a]; exact dt_7 _ hx1
      clear h_dh0 h_dl0 h_dh1 h_dl1 h_v0 h_v1 hv0 hv1 h_dh2 h_dl2 h_c0 hc0 h_dz h_a h_b h_c1 hc1
      clear hW hx1
      have lp0 : 0 < nd := by omega
      have pp0 : o + 0 + 1 ≤ sz := by omega
      have lp1 : 1 < nd := by omega
      have pp1 : o + 1 + 1 ≤ sz := by omega
      have lp2 : 2 < nd := by omega
      have pp2 : o + 2 + 1 ≤ sz := by omega
      have lp3 : 3 < nd := by omega
      have pp3 : o + 3 + 1 ≤ sz := by omega
      have lp4 : 4 < nd := by omega
      have pp4 : o + 4 + 1 ≤ sz := by omega
      have lp5 : 5 < nd := by omega
      have pp5 : o + 5 + 1 ≤ sz := by omega
      have lp6 : 6 < nd := by omega
      have pp6 : o + 6 + 1 ≤ sz := by omega
      simp [evOp_call, T.get_set, an2, an3, an4, an5, an6, an7, g0, g1, g4, hcv, wi0, wi1, wi2, wi3, wi4, wi5, wi6, q1, q2, qqv1, qrv0, mu0, mu1, qqc1, qrc0, mu2, qz, cz, lp0, pp0, lp1, pp1, lp2, pp2, lp3, pp3, lp4, pp4, lp5, pp5, lp6, pp6, hro', putB_eq, hgm, sets, -bin_quo, -bin_rem, -bin_mul]
      refine ⟨by kernel_rfl, ?_⟩
      simp [evOp_call, T.get_set, an2, an3, an4, an5, an6, an7, g0, g1, g4, hcv, wi0, wi1, wi2, wi3, wi4, wi5, wi6, q1, q2, qqv1, qrv0, mu0, mu1, qqc1, qrc0, mu2, qz, cz, lp0, pp0, lp1, pp1, lp2, pp2, lp3, pp3, lp4, pp4, lp5, pp5, lp6, pp6, wy0, ia0, ib0, hro', putB_eq, hgm, sets, -bin_quo, -bin_rem, -bin_mul]
      rw [cxOf_store]
      rotate_left
      · kernel_rfl
      simp [evOp_call, T.get_set, an2, an3, an4, an5, an6, an7, g0, g1, g4, hcv, wi0, wi1, wi2, wi3, wi4, wi5, wi6, q1, q2, qqv1, qrv0, mu0, mu1, qqc1, qrc0, mu2, qz, cz, lp0, pp0, lp1, pp1, lp2, pp2, lp3, pp3, lp4, pp4, lp5, pp5, lp6, pp6, wy0, ia0, ib0, hro', putB_eq, hgm, sets, -bin_quo, -bin_rem, -bin_mul]
      rw [cxOf_store]
      rotate_left
      · kernel_rfl
      simp [evOp_call, T.get_set, an2, an3, an4, an5, an6, an7, g0, g1, g4, hcv, wi0, wi1, wi2, wi3, wi4, wi5, wi6, q1, q2, qqv1, qrv0, mu0, mu1, qqc1, qrc0, mu2, qz, cz, lp0, pp0, lp1, pp1, lp2, pp2, lp3, pp3, lp4, pp4, lp5, pp5, lp6, pp6, wy0, ia0, ib0, hro', putB_eq, hgm, sets, -bin_quo, -bin_rem, -bin_mul]
      refine ⟨by kernel_rfl, ?_⟩
      simp [evOp_call, T.get_set, an2, an3, an4, an5, an6, an7, g0, g1, g4, hcv, wi0, wi1, wi2, wi3, wi4, wi5, wi6, q1, q2, qqv1, qrv0, mu0, mu1, qqc1, qrc0, mu2, qz, cz, lp0, pp0, lp1, pp1, lp2, pp2, lp3, pp3, lp4, pp4, lp5, pp5, lp6, pp6, wy1, ia1, ib1, hro', putB_eq, hgm, sets, -bin_quo, -bin_rem, -bin_mul]
      rw [cxOf_store]
      rotate_left
      · kernel_rfl
      simp [evOp_call, T.get_set, an2, an3, an4, an5, an6, an7, g0, g1, g4, hcv, wi0, wi1, wi2, wi3, wi4, wi5, wi6, q1, q2, qqv1, qrv0, mu0, mu1, qqc1, qrc0, mu2, qz, cz, lp0, pp0, lp1, pp1, lp2, pp2, lp3, pp3, lp4, pp4, lp5, pp5, lp6, pp6, wy1, ia1, ib1, hro', putB_eq, hgm, sets, -bin_quo, -bin_rem, -bin_mul]
      rw [cxOf_store]
      rotate_left
      · kernel_rfl
      simp [evOp_call, T.get_set, an2, an3, an4, an5, an6, an7, g0, g1, g4, hcv, wi0, wi1, wi2, wi3, wi4, wi5, wi6, q1, q2, qqv1, qrv0, mu0, mu1, qqc1, qrc0, mu2, qz, cz, lp0, pp0, lp1, pp1, lp2, pp2, lp3, pp3, lp4, pp4, lp5, pp5, lp6, pp6, wy1, ia1, ib1, hro', putB_eq, hgm, sets, -bin_quo, -bin_rem, -bin_mul]
      refine ⟨by kernel_rfl, ?_⟩
      simp [evOp_call, T.get_set, an2, an3, an4, an5, an6, an7, g0, g1, g4, hcv, wi0, wi1, wi2, wi3, wi4, wi5, wi6, q1, q2, qqv1, qrv0, mu0, mu1, qqc1, qrc0, mu2, qz, cz, lp0, pp0, lp1, pp1, lp2, pp2, lp3, pp3, lp4, pp4, lp5, pp5, lp6, pp6, wy2, ia2, ib2, hro', putB_eq, hgm, sets, -bin_quo, -bin_rem, -bin_mul]
      rw [cxOf_store]
      rotate_left
      · kernel_rfl
      simp [evOp_call, T.get_set, an2, an3, an4, an5, an6, an7, g0, g1, g4, hcv, wi0, wi1, wi2, wi3, wi4, wi5, wi6, q1, q2, qqv1, qrv0, mu0, mu1, qqc1, qrc0, mu2, qz, cz, lp0, pp0, lp1, pp1, lp2, pp2, lp3, pp3, lp4, pp4, lp5, pp5, lp6, pp6, wy2, ia2, ib2, hro', putB_eq, hgm, sets, -bin_quo, -bin_rem, -bin_mul]
      rw [cxOf_store]
      rotate_left
      · kernel_rfl
      simp [evOp_call, T.get_set, an2, an3, an4, an5, an6, an7, g0, g1, g4, hcv, wi0, wi1, wi2, wi3, wi4, wi5, wi6, q1, q2, qqv1, qrv0, mu0, mu1, qqc1, qrc0, mu2, qz, cz, lp0, pp0, lp1, pp1, lp2, pp2, lp3, pp3, lp4, pp4, lp5, pp5, lp6, pp6, wy2, ia2, ib2, hro', putB_eq, hgm, sets, -bin_quo, -bin_rem, -bin_mul]
      refine ⟨_, T.get_set_same _ _ _, hx.set (Nat.le_refl _) (by omega) _, hnx, fun i hi => ?_, fun k hk => ?_⟩
      · simp only [T.get_set]
        by_cases k0 : o = o + i
        · rw [if_pos k0]; exact fin i dz 6 (by omega) D6
        rw [if_neg k0]
        by_cases k1 : o + 1 = o + i
        · rw [if_pos k1]; exact fin i dh2 5 (by omega) D5
        rw [if_neg k1]
        by_cases k2 : o + 2 = o + i
        · rw [if_pos k2]; exact fin i dl2 4 (by omega) D4
        rw [if_neg k2]
        by_cases k3 : o + 3 = o + i
        · rw [if_pos k3]; exact fin i dh1 3 (by omega) D3
        rw [if_neg k3]
        by_cases k4 : o + 4 = o + i
        · rw [if_pos k4]; exact fin i dl1 2 (by omega) D2
        rw [if_neg k4]
        by_cases k5 : o + 5 = o + i
        · rw [if_pos k5]; exact fin i dh0 1 (by omega) D1
        rw [if_neg k5]
        by_cases k6 : o + 6 = o + i
        · rw [if_pos k6]; exact fin i dl0 0 (by omega) D0
        rw [if_neg k6]
        exact hfil i (by omega) hi
      · have k0 := hrest k hk
        simp only [T.get_set]
        rw [if_neg (by omega), if_neg (by omega), if_neg (by omega), if_neg (by omega), if_neg (by omega), if_neg (by omega), if_neg (by omega)]
        exact k0
end Go.Proofs.YtlonobfpogimgaaGreatDoor

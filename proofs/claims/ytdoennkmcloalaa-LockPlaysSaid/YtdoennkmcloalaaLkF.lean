/-
  Contracts of package lock: Give by the only one.
-/
import Derived.Test.YtdoennkmcloalaaLkE
set_option linter.unusedSimpArgs false
set_option linter.unusedVariables false
namespace Go.Proofs.Ytdoennkmcloalaa
open Go.RowKit Ev
theorem rd_keepS {s s' : St} {x : V} {n : Nat} {l : List V} (h : RdRow s x 2 n l) (h1 : 1 ≤ n) (hn : s.nx ≤ s'.nx) (k : ∀ m ty sz t, m < s.nx → 2 ≤ sz → s.h.get m = some (.cs ty sz t) → s'.h.get m = some (.cs ty sz t)) : RdRow s' x 2 n l := by
  obtain ⟨g1, h2⟩ := h
  refine ⟨g1, ?_⟩
  rcases h2 with h2 | ⟨m, o, q, ty, sz, t, rfl, h3, h4, h5, h6⟩ | ⟨m, o, ty, sz, t, rfl, h3, h4, h5, h6⟩
  · exact .inl h2
  · exact .inr (.inl ⟨m, o, q, ty, sz, t, rfl, by omega, k _ _ _ _ h3 (by omega) h4, h5, h6⟩)
  · exact .inr (.inr ⟨m, o, ty, sz, t, rfl, by omega, k _ _ _ _ h3 (by omega) h4, h5, h6⟩)
def gvkI (st : St) (lo q a b : Nat) (who : Int) (L : List (Wn × Nat)) (R : V) (ca ca' cb cb' : Nat) (e : Env) (s : St) : Prop := ∃ j : Nat, j ≤ L.length ∧ e.get 0 = some (.p q 0) ∧ e.get 1 = some (.int .i64 who) ∧ e.get 14 = some R ∧ e.get 15 = some (.int .i64 (L.length : Int)) ∧ e.get 16 = some (.int .i64 (j : Int)) ∧ st.nx ≤ s.nx ∧ Ext lo st s ∧ TabAt s q a b [(who, R, ca)] (ents (L.drop j) (cb + j)) ca' cb' ∧ HeldOk lo s who (L.drop j) ∧ RdRow s R 2 L.length (cellsK (L.map Prod.fst))
def gvkR (st : St) (lo q a b ca' cb' : Nat) (r : V × St) : Prop := st.nx ≤ r.2.nx ∧ Ext lo st r.2 ∧ TabAt r.2 q a b [] [] ca' cb'
set_option maxRecDepth 20000 in
set_option maxHeartbeats 8000000 in
theorem lgive_any (st : St) (lo q a b : Nat) (ca ca' cb cb' : Nat) (who : Int) (L : List (Wn × Nat)) (R : V) (T : TabAt st q a b [(who, R, ca)] (ents L cb) ca' cb') (hlo : lo ≤ q ∧ lo ≤ a ∧ lo ≤ b) (hH : HeldOk lo st who L) (hR : RdRow st R 2 L.length (cellsK (L.map Prod.fst))) (hL : L.length ≤ 1000) (nt : Nat) :
    Gd (callL Try.prog ⟨false, [], 0, nt⟩ 110 [.p q 0, .int .i64 who] st) (gvkR st lo q a b ca' cb') := by
  rw [Gd_callL Try.func110 rfl]
  have T0 := T
  obtain ⟨hq, ha, hb, hab, haq, hbq, ⟨t, ht, t0, t1⟩, gA, gB⟩ := T
  have hlk : ∀ nt ok, lookE Try.prog ⟨false, [], 0, nt⟩ st 237 (.m a) (.int .i64 who) ok = lookV ok st R true := fun nt ok => look_yes (j := 0) map_w rfl gA rfl (fun e h => by cases h)
  simp [evOp_call, sets, T.get_set, loadE_eq, getC_eq, ht, t0, hlk, hR.lenS]
  refine Gd_loop (gvkI st lo q a b who L R ca ca' cb cb') (fun en _ => muAt 16 L.length en) ?_ ?_
  · exact ⟨0, Nat.zero_le _, by simp [T.get_set], by simp [T.get_set], by simp [T.get_set], by simp [T.get_set], by simp [T.get_set], Nat.le_refl _, Ext.refl _ _, T0, hH, hR⟩
  rintro en s ⟨j, hj, g0, g1, g14, g15, g16, hsn, hlos, TL, hHs, hRs⟩
  have TL0 := TL
  obtain ⟨hqs, has, hbs, _, _, _, ⟨t3, ht3, t03, t13⟩, gA3, gB3⟩ := TL
  by_cases hlt : j < L.length
  · have hlt' : (j : Int) < L.length := by omega
    have hwi := wrap_nat (n := j) (by omega)
    obtain ⟨⟨y, m⟩, hy⟩ : ∃ y, L[j]? = some y := ⟨_, List.getElem?_eq_getElem hlt⟩
    have hyK : (L.map Prod.fst)[j]? = some y := by rw [List.getElem?_map, hy]; rfl
    have hdr : L.drop j = (y, m) :: L.drop (j + 1) := by
      rw [List.drop_eq_getElem_cons hlt]
      have := List.getElem?_eq_getElem hlt
      rw [hy] at this
      injection this with this
      rw [← this]
    rw [hdr] at gB3 hHs
    obtain ⟨hm1, hm2, tyM, tM, gM, hroM, tM0⟩ := hHs.1 (y, m) (List.mem_cons_self ..)
    simp only at hm1 hm2 gM
    obtain ⟨m1, o1, ty1, sz1, tr1, i1, b1, k1, l1, c1⟩ := hRs.idx (st := s) un164 io170 hlt
    have d1 : tr1.get o1 = some (.int .i64 y.1) := by simpa using c1 0 _ (by omega) (cellsK_get _ j _ hyK).1
    have d2 : tr1.get (o1 + 1) = some (.bool y.2) := by simpa using c1 1 _ (by omega) (cellsK_get _ j _ hyK).2
    have nq : ¬ s.nx = q := by omega
    have nb : ¬ s.nx = b := by omega
    have nq1 : ¬ s.nx + 1 = q := by omega
    simp [evOp_call, T.get_set, g0, g1, g14, g15, g16, hlt', i1, loadE_eq, getC_eq, getsB_succ, getsB_zero, k1, d1, d2, newC_is, storeK_g, putB_eq, roT, sets]
    refine ⟨by kernel_rfl, ?_⟩
    simp [evOp_call, T.get_set, g0, g1, g14, g15, g16, loadE_eq, getC_eq, getsB_succ, getsB_zero, ht3, t13, nq]
    rw [cxOf_may rfl rfl (by kernel_rfl), forb_nil, look_yes (j := 0) (v := .g [.sg m 0 1 1, .bool y.2]) (b := cb + j) map_h rfl ((T.get_set_ne _ _ nb).trans gB3) rfl (fun e h => by cases h)]
    simp [evOp_call, T.get_set, g0, g1, g14, g15, g16, tupK, newC_is]
    rw [cxOf_store]
    rotate_left
    · kernel_rfl
    rw [forb_cons (by kernel_rfl) rfl]
    simp [evOp_call, T.get_set, g0, g1, g14, g15, g16, storeK_g, putB_eq, roT, sets, loadE_eq, getC_eq, getsB_succ, getsB_zero]
    obtain ⟨s4, hS4⟩ : ∃ s4 : St, s4 = ⟨s.nx + 1 + 1, (s.h.set s.nx (.cs 170 2 ((((T.lf.set 0 (V.int IntKind.i64 0)).set 1 (V.bool false)).set 0 (V.int IntKind.i64 y.1)).set 1 (V.bool y.2)))).set (s.nx + 1) (.cs 242 2 ((((T.lf.set 0 (V.c (.slice none 0 0))).set 1 (V.bool false)).set 0 (V.sg m 0 1 1)).set 1 (V.bool y.2)))⟩ := ⟨_, rfl⟩
    have n4 : s4.nx = s.nx + 2 := by rw [hS4]
    have x4 : Ext s.nx s s4 := by rw [hS4]; exact ((Ext.refl _ _).new (Nat.le_refl _) _).new (Nat.le_succ _) _
    have q01 : ¬ s.nx + 1 = s.nx := by omega
    obtain ⟨tw, kw, tw0, tw1⟩ : ∃ tw, s4.h.get s.nx = some (.cs 170 2 tw) ∧ tw.get 0 = some (.int .i64 y.1) ∧ tw.get 1 = some (.bool y.2) := ⟨_, by rw [hS4]; exact (T.get_set_ne _ _ q01).trans (T.get_set_same _ _ _), by simp [T.get_set], by simp [T.get_set]⟩
    obtain ⟨th, kh, th0⟩ : ∃ th, s4.h.get (s.nx + 1) = some (.cs 242 2 th) ∧ th.get 0 = some (.sg m 0 1 1) := ⟨_, by rw [hS4]; exact T.get_set_same _ _ _, by simp [T.get_set]⟩
    rw [← hS4]
    have gM4 := (x4.keep m hm2).trans gM
    have hrow4 : RdRow s4 (.sg m 0 1 1) 1 1 [.int .i64 who] := ⟨rfl, .inr (.inr ⟨m, 0, tyM, 1, tM, rfl, by omega, gM4, by omega, fun i v hi => by
      cases i with
      | zero => simp at hi; subst hi; exact tM0
      | succ i => simp at hi⟩)⟩
    refine Gd.mono (bs_one s4 (.sg m 0 1 1) who hrow4 _) ?_
    rintro _ rfl
    have w1 : IntKind.i64.wrap 1 = 1 := by decide
    simp [evOp_call, T.get_set, g0, g1, g14, g15, g16, tupK, loadE_eq, getC_eq, kh, th0, w1]
    refine Gd.mono (del_one s4 m tyM tM who (by omega) gM4 hroM _) ?_
    rintro ⟨r, s5⟩ ⟨hr, hS5⟩
    simp only at hr hS5
    subst hr
    have hqm : q ≠ m := fun e => by rw [← e, ht3] at gM; injection gM with gM; injection gM with _ e2 _; cases e2
    have hbm : b ≠ m := fun e => by rw [← e, gB3] at gM; cases gM
    have ham : a ≠ m := fun e => by rw [← e, gA3] at gM; cases gM
    have up5 : ∀ k, k ≠ m → s5.h.get k = s4.h.get k := fun k hk => by rw [hS5]; exact T.get_set_ne _ _ (Ne.symm hk)
    have n5 : s5.nx = s4.nx := by rw [hS5]
    have kh5 := (up5 (s.nx + 1) (by omega)).trans kh
    have kw5 := (up5 s.nx (by omega)).trans kw
    have ht5 := (up5 q hqm).trans ((x4.keep q hqs).trans ht3)
    have gA5 := (up5 a ham).trans ((x4.keep a has).trans gA3)
    have gB5 := (up5 b hbm).trans ((x4.keep b hbs).trans gB3)
    have hst : ∀ (c : Cx) (st : St) (t n i : Nat), storeK Try.prog c st t n i (.sg m 0 0 1) = szOf Try.prog t fun z => if 1 = z then putB c st n i [.sg m 0 0 1] fun st => some (.u, st) else none := fun c st t n i => storeK_1 rfl t n i
    have l0 : ∀ s : St, lenS s (V.sg m 0 0 1) = some (.int .i64 0, s) := fun s => rfl
    have nw : ¬ s.nx + 1 = q := by omega
    have nv : ¬ s.nx + 1 = b := by omega
    simp [evOp_call, T.get_set, g0, g1, g14, g15, g16, tupK, loadE_eq, getC_eq, kh5, hst, putB_eq, roT, sets, l0]
    refine ⟨by kernel_rfl, ?_⟩
    simp [evOp_call, T.get_set, g0, g1, g14, g15, g16, tupK, loadE_eq, getC_eq, ht5, t13, nw, kw5, tw0, q01]
    rw [cxOf_may rfl rfl (by kernel_rfl), forb_nil, mdel_yes (j := 0) (v := .g [.sg m 0 1 1, .bool y.2]) (b := cb + j) map_h rfl (Nat.zero_le _) ((T.get_set_ne _ _ nv).trans gB5) rfl (fun e h => by cases h)]
    simp [evOp_call, T.get_set, g0, g1, g14, g15, g16, hwi]
    have htl : (ents ((y, m) :: List.drop (j + 1) L) (cb + j)).tail = ents (L.drop (j + 1)) (cb + (j + 1)) := rfl
    rw [htl]
    have k7 : ∀ k ty sz t, k < s.nx → k ≠ m → s.h.get k = some (.cs ty sz t) → ((s5.h.set (s.nx + 1) (.cs 242 2 (th.set 0 (.sg m 0 0 1)))).set b (.mp (mk (ents (L.drop (j + 1)) (cb + (j + 1)))) cb')).get k = some (.cs ty sz t) := fun k ty sz t hk hkm h => by
      have e1 : ¬ b = k := fun e => by subst e; rw [gB3] at h; cases h
      have e2 : ¬ s.nx + 1 = k := by omega
      exact (T.get_set_ne _ _ e1).trans ((T.get_set_ne _ _ e2).trans ((up5 k hkm).trans ((x4.keep k hk).trans h)))
    have hpw := List.pairwise_cons.1 hHs.2
    have hx7 : Ext lo st ⟨s5.nx, (s5.h.set (s.nx + 1) (.cs 242 2 (th.set 0 (.sg m 0 0 1)))).set b (.mp (mk (ents (L.drop (j + 1)) (cb + (j + 1)))) cb')⟩ := by
      have e1 : Ext lo st s4 := hlos.trans (x4.mono (by omega))
      have e2 : Ext lo st s5 := by rw [hS5]; exact e1.set (m := m) hm1 (by omega) _
      exact (e2.set (m := s.nx + 1) (by omega) (by omega) _).set (m := b) hlo.2.2 (by show b < s5.nx; omega) _
    have eab : ¬ b = a := Ne.symm hab
    have ea1 : ¬ s.nx + 1 = a := by omega
    refine ⟨⟨j + 1, hlt, by simp [T.get_set, g0], by simp [T.get_set, g1], by simp [T.get_set, g14], by simp [T.get_set, g15], by simp [T.get_set], by show st.nx ≤ s5.nx; omega, hx7, ⟨by show q < s5.nx; omega, by show a < s5.nx; omega, by show b < s5.nx; omega, hab, haq, hbq, ⟨t3, k7 _ _ _ _ hqs hqm ht3, t03, t13⟩, (T.get_set_ne _ _ eab).trans ((T.get_set_ne _ _ ea1).trans gA5), T.get_set_same _ _ _⟩, ⟨fun p hp => ?_, hpw.2⟩, ?_⟩, muAt_lt g16 (by simp [T.get_set]) hlt⟩
    · obtain ⟨u1, u2, ty', t', u3, u4, u5⟩ := hHs.1 p (List.mem_cons_of_mem _ hp)
      have := hpw.1 p hp
      simp only at this
      exact ⟨u1, by show p.2 < s5.nx; omega, ty', t', k7 _ _ _ _ u2 (by omega) u3, u4, u5⟩
    · refine rd_keepS hRs (by omega) (by show s.nx ≤ s5.nx; omega) fun k ty sz t hk hsz hh => k7 _ _ _ _ hk (fun e => ?_) hh
      subst e
      rw [gM] at hh
      injection hh with hh
      injection hh with _ e2 _
      omega
  · obtain rfl : j = L.length := by omega
    rw [List.drop_length] at gB3
    simp [evOp_call, T.get_set, g0, g1, g14, g15, g16, loadE_eq, getC_eq, ht3, t03]
    rw [mdel_yes (j := 0) map_w rfl (Nat.zero_le _) gA3 rfl (fun e h => by cases h)]
    have kp := keep_mp (M' := mk []) (c' := ca') gA3
    simp [evOp_call, T.get_set, sets]
    refine ⟨hsn, hlos.set (m := a) hlo.2.1 has _, ⟨hqs, has, hbs, hab, haq, hbq, ⟨t3, kp _ _ _ _ hqs ht3, t03, t13⟩, T.get_set_same _ _ _, (T.get_set_ne _ _ hab).trans gB3⟩⟩
end Go.Proofs.Ytdoennkmcloalaa

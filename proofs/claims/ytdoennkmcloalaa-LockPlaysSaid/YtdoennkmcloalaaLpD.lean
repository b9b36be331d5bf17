/-
  Package lock: Give, Holds, Who, May.
-/
import Derived.Test.YtdoennkmcloalaaLpC
set_option linter.unusedSimpArgs false
set_option linter.unusedVariables false
namespace Go.Proofs.Ytdoennkmcloalaa
open Go.RowKit Ev
theorem iv1_del {i : Nat} {L : List Int} (h : i < L.length) : iv1 (L.eraseIdx i) = delL (i * 1) 1 (iv1 L) := by
  rw [List.eraseIdx_eq_take_drop_succ]
  simp [iv1, delL, List.map_take, List.map_drop]
theorem RisI.del {L : List Int} (h : RisI L) (i : Nat) : RisI (L.eraseIdx i) := List.Pairwise.sublist (List.eraseIdx_sublist L i) h
/-- it is where it is looked for -/
theorem cntL_mem {w : Int} {L : List Int} (h : RisI L) (hw : w ∈ L) : cntL w L < L.length ∧ L[cntL w L]? = some w := by
  obtain ⟨i, hi, rfl⟩ := List.getElem_of_mem hw
  have : cntL L[i] L = i := cntL_eq h (by omega) (fun j hj hji => h.lt hji hi) (fun j hj hij => by
    rcases Nat.lt_or_ge i j with h1 | h1
    · exact Int.le_of_lt (h.lt h1 hj)
    · obtain rfl : i = j := by omega
      exact Int.le_refl _)
  rw [this]
  exact ⟨hi, List.getElem?_eq_getElem hi⟩
noncomputable def gk1 (who : Int) (ky : Int → List Int × Bool) (w : Wn) : Int → List Int × Bool := updI ky w.1 ((ky w.1).1.eraseIdx (cntL who (ky w.1).1), (ky w.1).2)
noncomputable def giveK (ky : Int → List Int × Bool) (who : Int) (K : List Wn) : Int → List Int × Bool := K.foldl (gk1 who) ky
theorem giveK_snoc (ky : Int → List Int × Bool) (who : Int) (K : List Wn) (w : Wn) : giveK ky who (K ++ [w]) = gk1 who (giveK ky who K) w := by simp [giveK]
theorem giveK_other (who : Int) {k : Int} : ∀ (K : List Wn) (ky : Int → List Int × Bool), (∀ w ∈ K, w.1 ≠ k) → giveK ky who K k = ky k
  | [], _, _ => rfl
  | w :: K, ky, h => by
    show giveK (gk1 who ky w) who K k = _
    rw [giveK_other who K _ fun x hx => h x (List.mem_cons_of_mem _ hx)]
    exact updI_ne _ _ (fun e => h w (List.mem_cons_self ..) e.symm)
def ggI (st : St) (q a b pb : Nat) (KB : Nat → Prop) (hv : Int → List Wn) (ky : Int → List Int × Bool) (who : Int) (x : V) (K : List Wn) (e : Env) (s : St) : Prop := ∃ (i : Nat) (KB' : Nat → Prop), i ≤ K.length ∧ e.get 0 = some (.p q 0) ∧ e.get 1 = some (.int .i64 who) ∧ e.get 14 = some x ∧ e.get 15 = some (.int .i64 (K.length : Int)) ∧ e.get 16 = some (.int .i64 (i : Int)) ∧ FrK st s a b KB KB' ∧ LkAt s q a b pb KB' hv (giveK ky who (K.take i)) ∧ RdRow s x 2 K.length (cellsK K) ∧ (∀ m, (∃ o k r, x = .sl m o k r) ∨ (∃ o k r, x = .sg m o k r) → m ≠ q ∧ ¬ KB' m)
def ggR (st : St) (q a b pb : Nat) (KB : Nat → Prop) (hv : Int → List Wn) (ky : Int → List Int × Bool) (who : Int) (r : V × St) : Prop := ∃ KB', FrK st r.2 a b KB KB' ∧ LkAt r.2 q a b pb KB' (updI hv who []) (giveK ky who (hv who))
def gJ (st : St) (q a b pb : Nat) (KB : Nat → Prop) (hv : Int → List Wn) (ky : Int → List Int × Bool) (who : Int) (K : List Wn) (r : X × Env × St) : Prop := ∃ (e : Env) (s : St), r = (.ex 0, e, s) ∧ e.get 0 = some (.p q 0) ∧ e.get 1 = some (.int .i64 who) ∧ ∃ KB', FrK st s a b KB KB' ∧ LkAt s q a b pb KB' hv (giveK ky who K)
set_option maxRecDepth 20000 in
set_option maxHeartbeats 8000000 in
theorem give_G (st : St) (q a b pb : Nat) (KB : Nat → Prop) (hv : Int → List Wn) (ky : Int → List Int × Bool) (TL : LkAt st q a b pb KB hv ky) (who : Int) (hgi : ∀ w ∈ hv who, who ∈ (ky w.1).1) (hup : UpK (hv who)) (nt : Nat) :
    Gd (callL Try.prog ⟨false, [], 0, nt⟩ 110 [.p q 0, .int .i64 who] st) (ggR st q a b pb KB hv ky who) := by
  rw [Gd_callL Try.func110 rfl]
  obtain ⟨A, B, ca, cb, TT0, TM0⟩ := TL
  have TT := TT0
  obtain ⟨hq, ha, hb, hab, haq, hbq, ⟨t, ht, t0, t1⟩, gA, gB⟩ := TT0
  obtain ⟨K, hKd⟩ : ∃ K, K = hv who := ⟨_, rfl⟩
  -- the row of wants
  obtain ⟨x, hlook, hx, hxb⟩ : ∃ x, (∀ nt, lookE Try.prog ⟨false, [], 0, nt⟩ st 237 (.m a) (.int .i64 who) false = some (x, st)) ∧ RdRow st x 2 K.length (cellsK K) ∧ (∀ m, (∃ o k r, x = .sl m o k r) ∨ (∃ o k r, x = .sg m o k r) → m ≠ q ∧ ¬ KB m) := by
    by_cases hw : hv who = []
    · have hA : ∀ e ∈ A, e.1 ≠ who := fun e he h => (TM0.aOk e he).1 (h ▸ hw)
      refine ⟨.c (.slice none 0 0), fun nt => by rw [look_no map_w rfl gA hA zv_w]; rfl, by rw [hKd, hw]; exact ⟨rfl, .inl ⟨.inl rfl, rfl⟩⟩, fun m h => ?_⟩
      rcases h with ⟨_, _, _, h⟩ | ⟨_, _, _, h⟩ <;> cases h
    · obtain ⟨j, v, cj, hj, hjn⟩ := mfirst (TM0.aAll who hw)
      obtain ⟨_, hr⟩ := TM0.aOk _ (List.mem_of_getElem? hj)
      simp only at hr
      refine ⟨v, fun nt => by rw [look_yes map_w rfl gA hj hjn]; rfl, by rw [hKd]; exact hr.rd, fun m h => ?_⟩
      obtain ⟨m', ty, sz, t', rfl, e1, e2, e3, _⟩ := hr
      rcases h with ⟨_, _, _, h⟩ | ⟨_, _, _, h⟩
      · cases h
      · injection h with h; subst h; exact ⟨e3.1, e2⟩
  have hKl : K.length ≤ 1000 := by rw [hKd]; exact TM0.big.1 who
  rw [← hKd] at hup hgi
  simp [evOp_call, sets, T.get_set, loadE_eq, getC_eq, ht, t0, hlook, hx.lenS]
  refine Gd.mono (Q := gJ st q a b pb KB hv ky who K) ?_ ?_
  · refine Gd_loop (ggI st q a b pb KB hv ky who x K) (fun en _ => muAt 16 K.length en) ?_ ?_
    · exact ⟨0, KB, Nat.zero_le _, by simp [T.get_set], by simp [T.get_set], by simp [T.get_set], by simp [T.get_set], by simp [T.get_set], FrK.refl _ _ _ _, ⟨A, B, ca, cb, TT, TM0⟩, hx, hxb⟩
    rintro en s ⟨i, KB1, hi, g0, g1, g14, g15, g16, hfr, hLks, hxs, hxbs⟩
    by_cases hlt2 : i < K.length
    · have hlt' : (i : Int) < K.length := by omega
      have hwi := wrap_nat (n := i) (by omega)
      obtain ⟨y, hy⟩ : ∃ y, K[i]? = some y := ⟨_, List.getElem?_eq_getElem hlt2⟩
      have hym : y ∈ K := List.mem_of_getElem? hy
      have hkyi : giveK ky who (K.take i) y.1 = ky y.1 := giveK_other who _ _ (up_take hup hy)
      obtain ⟨kyi, hkd⟩ : ∃ f, f = giveK ky who (K.take i) := ⟨_, rfl⟩
      rw [← hkd] at hkyi hLks
      obtain ⟨L, hLd⟩ : ∃ L, L = (ky y.1).1 := ⟨_, rfl⟩
      obtain ⟨A1, B1, ca1, cb1, TTs, TMs⟩ := hLks
      have TT0 := TTs
      obtain ⟨hqs, has, hbs, _, _, _, ⟨t3, ht3, t03, t13⟩, gA3, gB3⟩ := TTs
      obtain ⟨m1, o1, ty1, sz1, tr1, i1, b1, k1, l1, c1⟩ := hxs.idx (st := s) un164 io170 hlt2
      have d1 : tr1.get o1 = some (.int .i64 y.1) := by simpa using c1 0 _ (by omega) (cellsK_get K i _ hy).1
      have d2 : tr1.get (o1 + 1) = some (.bool y.2) := by simpa using c1 1 _ (by omega) (cellsK_get K i _ hy).2
      have nq : ¬ s.nx = q := by omega
      have nb : ¬ s.nx = b := by omega
      have hris : RisI L := by rw [hLd, ← hkyi]; exact TMs.ris y.1
      have hLl : L.length ≤ 1000 := by rw [hLd, ← hkyi]; exact TMs.big.2 y.1
      have hwL : who ∈ L := by rw [hLd]; exact hgi y hym
      obtain ⟨hc1, hc2⟩ := cntL_mem hris hwL
      have hLn : L ≠ [] := List.ne_nil_of_mem hwL
      obtain ⟨j, v, cj, hj, hjn⟩ := mfirst (TMs.bAll y.1 (by rw [hkyi, ← hLd]; exact hLn))
      obtain ⟨_, m, hkr⟩ := TMs.bOk _ (List.mem_of_getElem? hj)
      simp only at hkr
      have hkr0 := hkr
      obtain ⟨ty, sz, tm, hv1, hm1, hm2, hm3, hm4, hm5, hm6⟩ := hkr
      rw [hkyi, ← hLd] at hv1 hm5 hm6
      subst hv1
      obtain ⟨al, hal⟩ : ∃ al, al = (ky y.1).2 := ⟨_, rfl⟩
      rw [← hal] at hj hkr0
      simp [evOp_call, T.get_set, g0, g1, g14, g15, g16, hlt', i1, loadE_eq, getC_eq, getsB_succ, getsB_zero, k1, d1, d2, newC_is, storeK_g, putB_eq, roT, sets]
      refine ⟨by kernel_rfl, ?_⟩
      simp [evOp_call, T.get_set, g0, g1, g14, g15, g16, loadE_eq, getC_eq, getsB_succ, getsB_zero, ht3, t13, nq]
      rw [cxOf_may rfl rfl (by kernel_rfl), forb_nil, look_yes map_h rfl ((T.get_set_ne _ _ nb).trans gB3) hj hjn]
      simp [evOp_call, T.get_set, g0, g1, g14, g15, g16, tupK, newC_is]
      rw [cxOf_store]
      rotate_left
      · kernel_rfl
      rw [forb_cons (by kernel_rfl) rfl]
      simp [evOp_call, T.get_set, g0, g1, g14, g15, g16, storeK_g, putB_eq, roT, sets, loadE_eq, getC_eq, getsB_succ, getsB_zero]
      obtain ⟨s4, hS4⟩ : ∃ s4 : St, s4 = ⟨s.nx + 1 + 1, (s.h.set s.nx (.cs 170 2 ((((T.lf.set 0 (V.int IntKind.i64 0)).set 1 (V.bool false)).set 0 (V.int IntKind.i64 y.1)).set 1 (V.bool y.2)))).set (s.nx + 1) (.cs 242 2 ((((T.lf.set 0 (V.c (.slice none 0 0))).set 1 (V.bool false)).set 0 (V.sg m 0 L.length 1)).set 1 (V.bool al)))⟩ := ⟨_, rfl⟩
      have n4 : s4.nx = s.nx + 2 := by rw [hS4]
      have x4 : Ext s.nx s s4 := by rw [hS4]; exact ((Ext.refl _ _).new (Nat.le_refl _) _).new (Nat.le_succ _) _
      have q01 : ¬ s.nx + 1 = s.nx := by omega
      obtain ⟨tw, kw, tw0, tw1⟩ : ∃ tw, s4.h.get s.nx = some (.cs 170 2 tw) ∧ tw.get 0 = some (.int .i64 y.1) ∧ tw.get 1 = some (.bool y.2) := ⟨_, by rw [hS4]; exact (T.get_set_ne _ _ q01).trans (T.get_set_same _ _ _), by simp [T.get_set], by simp [T.get_set]⟩
      obtain ⟨th, kh, th0, th1⟩ : ∃ th, s4.h.get (s.nx + 1) = some (.cs 242 2 th) ∧ th.get 0 = some (.sg m 0 L.length 1) ∧ th.get 1 = some (.bool al) := ⟨_, by rw [hS4]; exact T.get_set_same _ _ _, by simp [T.get_set], by simp [T.get_set]⟩
      rw [← hS4]
      have gm4 : s4.h.get m = some (.cs ty sz tm) := (x4.keep m hm1).trans hm3
      have hrd4 : RdRow s4 (.sg m 0 L.length 1) 1 L.length (L.map fun v => .int .i64 v) := ⟨by simp, .inr (.inr ⟨m, 0, ty, sz, tm, rfl, by omega, gm4, by omega, fun j v hj => by rw [Nat.zero_add]; exact hm6 j v hj⟩)⟩
      refine Gd.mono (bs_any s4 (.sg m 0 L.length 1) L who hris (by omega) hrd4 _) ?_
      rintro _ rfl
      have hw1 : IntKind.i64.wrap ((cntL who L : Int) + 1) = (cntL who L : Int) + 1 := wrap_in (by omega) (by omega)
      simp [evOp_call, T.get_set, g0, g1, g14, g15, g16, tupK, loadE_eq, getC_eq, kh, th0, hw1]
      refine Gd.mono (delC_I 0 _ s4 m L.length (cntL who L) ty sz tm (iv1 L) (Nat.zero_le _) hc1 (by omega) hm5 gm4 hm4 (by simp [iv1]) hm6) ?_
      rintro ⟨vd, s5⟩ ⟨rd1, tr', rd2, rd3⟩
      simp only at rd1 rd2
      subst rd1 rd2
      have nm1 : ¬ m = s.nx + 1 := by omega
      have nm0 : ¬ m = s.nx := by omega
      have nmq : ¬ m = q := fun e => TMs.qNo (e ▸ hm2)
      have kh5 : (s4.h.set m (.cs ty sz tr')).get (s.nx + 1) = some (.cs 242 2 th) := (T.get_set_ne _ _ nm1).trans kh
      simp [evOp_call, T.get_set, g0, g1, g14, g15, g16, loadE_eq, getC_eq, nm1, kh, storeK_1, putB_eq, roT, sets]
      have hln6 : ∀ s' : St, lenS s' (.sg m 0 (L.length - 1) 1) = some (.int .i64 ((L.length - 1 : Nat) : Int), s') := fun _ => rfl
      obtain ⟨s6, hS6⟩ : ∃ s6 : St, s6 = ⟨s4.nx, (s4.h.set m (.cs ty sz tr')).set (s.nx + 1) (.cs 242 2 (th.set 0 (V.sg m 0 (L.length - 1) 1)))⟩ := ⟨_, rfl⟩
      rw [← hS6, hln6]
      have n6 : s6.nx = s.nx + 2 := by rw [hS6]; exact n4
      have g6 : ∀ n, n ≠ m → n ≠ s.nx + 1 → s6.h.get n = s4.h.get n := fun n h1 h2 => by rw [hS6]; exact (T.get_set_ne _ _ (fun e => h2 e.symm)).trans (T.get_set_ne _ _ (fun e => h1 e.symm))
      have gm6 : s6.h.get m = some (.cs ty sz tr') := by rw [hS6]; exact (T.get_set_ne _ _ (fun e => nm1 e.symm)).trans (T.get_set_same _ _ _)
      obtain ⟨th6, kh6, th60, th61⟩ : ∃ th6, s6.h.get (s.nx + 1) = some (.cs 242 2 th6) ∧ th6.get 0 = some (.sg m 0 (L.length - 1) 1) ∧ th6.get 1 = some (.bool al) := ⟨_, by rw [hS6]; exact T.get_set_same _ _ _, by simp [T.get_set], by simp [T.get_set, th1]⟩
      have kw6 : s6.h.get s.nx = some (.cs 170 2 tw) := (g6 _ (fun e => nm0 e.symm) (by omega)).trans kw
      have ks6 : ∀ n, n < s.nx → n ≠ m → s6.h.get n = s.h.get n := fun n h1 h2 => (g6 n h2 (by omega)).trans (x4.keep n h1)
      have nma : a ≠ m := fun e => by rw [← e, gA3] at hm3; cases hm3
      have nmb : b ≠ m := fun e => by rw [← e, gB3] at hm3; cases hm3
      have ht6 := (ks6 q hqs (fun e => nmq e.symm)).trans ht3
      have gA6 := (ks6 a has nma).trans gA3
      have gB6 := (ks6 b hbs nmb).trans gB3
      have w6 : Wf s → Wf s6 := fun w n hn => by
        rw [n6] at hn
        rw [g6 n (by omega) (by omega)]
        exact x4.wf w n (by rw [n4]; exact hn)
      have hdl : iv1 (L.eraseIdx (cntL who L)) = delL (cntL who L * 1) 1 (iv1 L) := iv1_del hc1
      have hel : (L.eraseIdx (cntL who L)).length = L.length - 1 := List.length_eraseIdx_of_lt hc1
      -- the rest, whichever way the entry is changed
      have fin : ∀ (en2 : Env) B2 cb2 KB2, (∀ n, KB2 n → KB1 n ∨ n = m) → en2.get 0 = some (.p q 0) → en2.get 1 = some (.int .i64 who) → en2.get 14 = some x → en2.get 15 = some (.int .i64 (K.length : Int)) → en2.get 16 = some (.int .i64 ((i + 1 : Nat) : Int)) → LkMaps ⟨s6.nx, s6.h.set b (.mp (mk B2) cb2)⟩ q pb KB2 hv (updI kyi y.1 (L.eraseIdx (cntL who L), al)) A1 B2 → ggI st q a b pb KB hv ky who x K en2 ⟨s6.nx, s6.h.set b (.mp (mk B2) cb2)⟩ := fun en2 B2 cb2 KB2 hKB2 f0 f1 f14 f15 f16 hM => by
        have kp6 := keep_mp (M' := mk B2) (c' := cb2) gB6
        have hK2 : ∀ n, KB2 n → KB1 n := fun n hn => by
          rcases hKB2 n hn with h | h
          · exact h
          · exact h ▸ hm2
        refine ⟨i + 1, KB2, hlt2, f0, f1, f14, f15, f16, hfr.trans ⟨by show s.nx ≤ s6.nx; omega, fun n hn _ hnb' hk => (T.get_set_ne _ _ (fun e => hnb' e.symm)).trans (ks6 n hn (fun e => hk (e ▸ hm2))), fun n hn => .inl (hK2 n hn), fun w n hn => ?_⟩, ?_, ?_, fun m' h => ⟨(hxbs m' h).1, fun hk => (hxbs m' h).2 (hK2 m' hk)⟩⟩
        · have hn' : s6.nx ≤ n := hn
          exact (T.get_set_ne _ _ (by omega)).trans (w6 w n hn')
        · refine ⟨A1, B2, ca1, cb2, ⟨by show q < s6.nx; omega, by show a < s6.nx; omega, by show b < s6.nx; omega, hab, haq, hbq, ⟨t3, kp6 _ _ _ _ (by omega) ht6, t03, t13⟩, (T.get_set_ne _ _ (Ne.symm hab)).trans gA6, T.get_set_same _ _ _⟩, ?_⟩
          rw [List.take_add_one, hy]
          show LkMaps _ q pb _ _ (giveK ky who (K.take i ++ [y])) A1 B2
          rw [giveK_snoc, ← hkd]
          show LkMaps _ q pb _ _ (updI kyi y.1 ((kyi y.1).1.eraseIdx (cntL who (kyi y.1).1), (kyi y.1).2)) A1 B2
          rw [hkyi, ← hLd, ← hal]
          exact hM
        · obtain ⟨z1, z2⟩ := hxs
          refine ⟨z1, ?_⟩
          have keep1 : ∀ m' ty sz t, m' < s.nx → ¬ KB1 m' → s.h.get m' = some (.cs ty sz t) → (s6.h.set b (.mp (mk B2) cb2)).get m' = some (.cs ty sz t) := fun m' ty sz t hm' hk hg => kp6 _ _ _ _ (by omega) ((ks6 m' hm' (fun e => hk (e ▸ hm2))).trans hg)
          rcases z2 with z2 | ⟨m', o, r, ty, sz, t, rfl, z3, z4, z5, z6⟩ | ⟨m', o, ty, sz, t, rfl, z3, z4, z5, z6⟩
          · exact .inl z2
          · exact .inr (.inl ⟨m', o, r, ty, sz, t, rfl, by show m' < s6.nx; omega, keep1 m' ty sz t z3 (hxbs m' (.inl ⟨_, _, _, rfl⟩)).2 z4, z5, z6⟩)
          · exact .inr (.inr ⟨m', o, ty, sz, t, rfl, by show m' < s6.nx; omega, keep1 m' ty sz t z3 (hxbs m' (.inr ⟨_, _, _, rfl⟩)).2 z4, z5, z6⟩)
      have kall : ∀ B2 cb2 n ty sz t, n < s.nx → n ≠ m → s.h.get n = some (.cs ty sz t) → (s6.h.set b (.mp (mk B2) cb2)).get n = some (.cs ty sz t) := fun B2 cb2 n ty sz t hn hne hg => keep_mp (M' := mk B2) (c' := cb2) gB6 _ _ _ _ (by omega) ((ks6 n hn hne).trans hg)
      by_cases h1 : L.length = 1
      · have h0 : ((L.length - 1 : Nat) : Int) = 0 := by omega
        have he : L.eraseIdx (cntL who L) = [] := List.eq_nil_of_length_eq_zero (by omega)
        rw [h0]
        simp [evOp_call, T.get_set, g0, g1, g14, g15, g16]
        refine ⟨by kernel_rfl, ?_⟩
        simp [evOp_call, T.get_set, g0, g1, g14, g15, g16, loadE_eq, getC_eq, ht6, t13, kw6, tw0]
        rw [cxOf_may rfl rfl (by kernel_rfl), forb_nil, mdel_yes map_h rfl (Nat.zero_le _) gB6 hj hjn]
        simp [evOp_call, T.get_set, g0, g1, g14, g15, g16, hwi]
        refine ⟨fin _ _ _ KB1 (fun n h => .inl h) (by simp [T.get_set, g0]) (by simp [T.get_set, g1]) (by simp [T.get_set, g14]) (by simp [T.get_set, g15]) (by simp [T.get_set]) (by rw [he]; exact TMs.keyDel hj hkr0 (by show s.nx ≤ s6.nx; omega) (kall _ _) hqs), muAt_lt g16 (by simp [T.get_set]) hlt2⟩
      · have h0 : ¬ ((L.length - 1 : Nat) : Int) = 0 := by omega
        have h0' : ¬ (L.length - 1 = 0) := by omega
        simp [evOp_call, T.get_set, g0, g1, g14, g15, g16, h0, h0']
        refine ⟨by kernel_rfl, ?_⟩
        simp [evOp_call, T.get_set, g0, g1, g14, g15, g16, loadE_eq, getC_eq, getsB_succ, getsB_zero, ht6, t13, kw6, tw0, kh6, th60, th61]
        rw [cxOf_may rfl rfl (by kernel_rfl), forb_nil, mput_old map_h rfl (Nat.zero_le _) gB6 hj hjn]
        simp [evOp_call, T.get_set, g0, g1, g14, g15, g16, hwi]
        refine ⟨fin _ _ _ (fun n => KB1 n ∨ n = m) (fun n h => h) (by simp [T.get_set, g0]) (by simp [T.get_set, g1]) (by simp [T.get_set, g14]) (by simp [T.get_set, g15]) (by simp [T.get_set]) (TMs.keyOld hj hkr0 (by show s.nx ≤ s6.nx; omega) (.inr rfl) (kall _ _) ⟨ty, sz, tr', by show V.g [V.sg m 0 (L.length - 1) 1, .bool al] = .g [.sg m 0 (L.eraseIdx (cntL who L)).length 1, .bool al]; rw [hel], by show m < s6.nx; omega, .inl hm2, keep_mp (M' := mk _) (c' := _) gB6 _ _ _ _ (by omega) gm6, hm4, by show (L.eraseIdx (cntL who L)).length * 1 ≤ sz; rw [hel]; omega, fun j v hj => rd3 j v (by rw [← hdl]; exact hj)⟩ (fun h => by show False; have := congrArg List.length h; simp only [List.length_nil] at this; omega) (hris.del _) (by show (L.eraseIdx (cntL who L)).length ≤ 1000; omega) hqs), muAt_lt g16 (by simp [T.get_set]) hlt2⟩
    · obtain rfl : i = K.length := by omega
      simp [evOp_call, T.get_set, g0, g1, g14, g15, g16]
      rw [List.take_length] at hLks
      exact ⟨_, _, rfl, by simp [T.get_set, g0], by simp [T.get_set, g1], KB1, hfr, hLks⟩
  · rintro _ ⟨e, s, rfl, g0, g1, KB1, hfr, A1, B1, ca1, cb1, TTs, TMs⟩
    have TT0 := TTs
    obtain ⟨hqs, has, hbs, _, _, _, ⟨t3, ht3, t03, t13⟩, gA3, gB3⟩ := TTs
    simp [evOp_call, T.get_set, g0, g1, loadE_eq, getC_eq, ht3, t03]
    by_cases hw : hv who = []
    · have hA : ∀ e ∈ A1, e.1 ≠ who := fun e he h => (TMs.aOk e he).1 (h ▸ hw)
      rw [mdel_no map_w rfl gA3 hA]
      simp [evOp_call, T.get_set, sets]
      refine ⟨KB1, hfr, A1, B1, ca1, cb1, TT0, ?_⟩
      have e : updI hv who [] = hv := funext fun i => by
        by_cases h : i = who
        · subst h; rw [updI_same, hw]
        · rw [updI_ne _ _ h]
      rw [e, ← hKd]; exact TMs
    · obtain ⟨j, v, cj, hj, hjn⟩ := mfirst (TMs.aAll who hw)
      rw [mdel_yes map_w rfl (Nat.zero_le _) gA3 hj hjn]
      have kp := keep_mp (M' := mk (A1.eraseIdx j)) (c' := ca1) gA3
      simp [evOp_call, T.get_set, sets]
      refine ⟨KB1, hfr.trans ⟨Nat.le_refl _, fun n hn hna _ _ => T.get_set_ne _ _ (fun e => hna e.symm), fun n h => .inl h, fun w n hn => ?_⟩, A1.eraseIdx j, B1, ca1, cb1, ⟨hqs, has, hbs, hab, haq, hbq, ⟨t3, kp _ _ _ _ hqs ht3, t03, t13⟩, T.get_set_same _ _ _, (T.get_set_ne _ _ hab).trans gB3⟩, ?_⟩
      · have hn' : s.nx ≤ n := hn
        exact (T.get_set_ne _ _ (by omega)).trans (w n hn)
      · rw [← hKd]
        exact (TMs.wantDel hj).keep (Nat.le_refl _) (fun m ty sz t hm _ hg => kp _ _ _ _ hm hg)
end Go.Proofs.Ytdoennkmcloalaa

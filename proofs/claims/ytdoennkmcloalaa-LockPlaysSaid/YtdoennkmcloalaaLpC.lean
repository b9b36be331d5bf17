/-
  Package lock: Take, of a table of which anybody may hold anything.
-/
import Derived.Test.YtdoennkmcloalaaLpB
import Derived.Test.YtdoennkmcloalaaInl
set_option linter.unusedSimpArgs false
set_option linter.unusedVariables false
namespace Go.Proofs.Ytdoennkmcloalaa
open Go.RowKit Ev
def insI (i : Nat) (w : Int) (L : List Int) : List Int := L.take i ++ w :: L.drop i
theorem insI_length {i : Nat} {w : Int} {L : List Int} (h : i ≤ L.length) : (insI i w L).length = L.length + 1 := by simp [insI]; omega
theorem insI_ne {i : Nat} {w : Int} {L : List Int} : insI i w L ≠ [] := by simp [insI]
theorem mem_insI {i : Nat} {w x : Int} {L : List Int} : x ∈ insI i w L ↔ x = w ∨ x ∈ L := by
  unfold insI
  rw [List.mem_append, List.mem_cons]
  constructor
  · rintro (h | h | h)
    · exact .inr (List.mem_of_mem_take h)
    · exact .inl h
    · exact .inr (List.mem_of_mem_drop h)
  · rintro (h | h)
    · exact .inr (.inl h)
    · rw [← List.take_append_drop i L, List.mem_append] at h
      rcases h with h | h
      · exact .inl h
      · exact .inr (.inr h)
theorem iv1_ins (i : Nat) (w : Int) (L : List Int) : iv1 (insI i w L) = insL (i * 1) (iv1 L) [.int .i64 w] := by
  simp [insI, iv1, insL, List.map_take, List.map_drop]
theorem RisI.ins {w : Int} {L : List Int} (h : RisI L) (hn : w ∉ L) : RisI (insI (cntL w L) w L) := by
  have hc := cntL_le w L
  unfold RisI insI at *
  rw [List.pairwise_append]
  have lo : ∀ x ∈ L.take (cntL w L), x < w := fun x hx => by
    obtain ⟨i, hi, rfl⟩ := List.getElem_of_mem hx
    rw [List.length_take] at hi
    rw [List.getElem_take]
    exact (cntL_lt h (by omega)).1 (by omega)
  have hi : ∀ x ∈ L.drop (cntL w L), w < x := fun x hx => by
    obtain ⟨i, hi, rfl⟩ := List.getElem_of_mem hx
    rw [List.length_drop] at hi
    rw [List.getElem_drop]
    have h1 : ¬ L[cntL w L + i]'(by omega) < w := fun hh => by have := (cntL_lt h (by omega)).2 hh; omega
    have h2 : L[cntL w L + i]'(by omega) ≠ w := fun hh => hn (hh ▸ List.getElem_mem _)
    omega
  refine ⟨List.Pairwise.sublist (List.take_sublist _ _) h, List.pairwise_cons.2 ⟨hi, List.Pairwise.sublist (List.drop_sublist _ _) h⟩, fun a ha b hb => ?_⟩
  rcases List.mem_cons.1 hb with rfl | hb
  · exact lo a ha
  · have := lo a ha; have := hi b hb; omega
noncomputable def tk1 (who : Int) (ky : Int → List Int × Bool) (w : Wn) : Int → List Int × Bool := updI ky w.1 (insI (cntL who (ky w.1).1) who (ky w.1).1, w.2)
noncomputable def takeK (ky : Int → List Int × Bool) (who : Int) (K : List Wn) : Int → List Int × Bool := K.foldl (tk1 who) ky
theorem takeK_snoc (ky : Int → List Int × Bool) (who : Int) (K : List Wn) (w : Wn) : takeK ky who (K ++ [w]) = tk1 who (takeK ky who K) w := by simp [takeK]
theorem takeK_other (who : Int) {k : Int} : ∀ (K : List Wn) (ky : Int → List Int × Bool), (∀ w ∈ K, w.1 ≠ k) → takeK ky who K k = ky k
  | [], _, _ => rfl
  | w :: K, ky, h => by
    show takeK (tk1 who ky w) who K k = _
    rw [takeK_other who K _ fun x hx => h x (List.mem_cons_of_mem _ hx)]
    exact updI_ne _ _ (fun e => h w (List.mem_cons_self ..) e.symm)
theorem up_take {K : List Wn} (h : UpK K) {i : Nat} {y : Wn} (hy : K[i]? = some y) : ∀ w ∈ K.take i, w.1 ≠ y.1 := fun w hw => by
  obtain ⟨j, hj, rfl⟩ := List.getElem_of_mem hw
  rw [List.length_take] at hj
  rw [List.getElem_take]
  have h1 := up_far h (i - j - 1) j _ y (List.getElem?_eq_getElem (by omega)) (by rw [show j + (i - j - 1) + 1 = i by omega]; exact hy)
  omega
noncomputable def lkG : CallF := addF Try.prog (insF (callL Try.prog) 177 1) 112
theorem lkG_ne {g : Nat} (h : Nat.beq g 112 = false) (h' : Nat.beq g 177 = false) (c : Cx) (args : List V) (st : St) : lkG c g args st = callL Try.prog c g args st := by
  unfold lkG; rw [addF_ne _ _ h, insF_ne _ h']
theorem liG_ne {g : Nat} (h' : Nat.beq g 177 = false) (c : Cx) (args : List V) (st : St) : insF (callL Try.prog) 177 1 c g args st = callL Try.prog c g args st := insF_ne _ h' _ _ _
theorem insF_nil (c : Cx) (i : V) (x : V) (st : St) : insF (callL Try.prog) 177 1 c 177 [.c (.slice none 0 0), i, x] st = callL Try.prog c 177 [.c (.slice none 0 0), i, x] st := by
  show (match Nat.beq 177 177 with
    | true => callL Try.prog c 177 [.c (.slice none 0 0), i, x] st
    | false => callL Try.prog c 177 [.c (.slice none 0 0), i, x] st) = _
  rw [Nat.beq_refl]
/-- Insert beside loads: what comes of it -/
theorem ins_both {x0 : Nat × Nat} {l : List (Nat × Nat)} {nt b at_ : Nat} {s5 : St} {xw : V} {L : List Int} {who : Int} {Q : V × St → Prop} (hat : at_ ≤ L.length) (hL : L.length ≤ 1000) (hb : b < s5.nx) (hbf : inF (x0 :: l) b = false) (gb : ∃ tb, s5.h.get b = some (.cs 3 1 tb) ∧ tb.get 0 = some (.int .i64 who))
    (hx : (xw = .c (.slice none 0 0) ∧ L = []) ∨ ∃ m ty sz t, xw = .sg m 0 L.length 1 ∧ m < s5.nx ∧ m ≠ b ∧ inF (x0 :: l) m = false ∧ s5.h.get m = some (.cs ty sz t) ∧ ty ≠ roT ∧ L.length * 1 ≤ sz ∧ ∀ j v, (iv1 L)[j]? = some v → t.get j = some v)
    (k : ∀ mY s6, s5.nx ≤ mY → mY < s6.nx → (∃ ty sz t, s6.h.get mY = some (.cs ty sz t) ∧ ty ≠ roT ∧ (L.length + 1) * 1 ≤ sz ∧ ∀ j v, (iv1 (insI at_ who L))[j]? = some v → t.get j = some v) → s5.nx ≤ s6.nx → (∀ n, n < s5.nx → (∀ ln, xw ≠ .sg n 0 ln 1) → s6.h.get n = s5.h.get n) → (Wf s5 → Wf s6) → Q (.sg mY 0 (L.length + 1) 1, s6)) :
    Gd (liftF (insF (callL Try.prog) 177 1) ⟨false, x0 :: l, 0, nt⟩ 177 [xw, .int .i64 (at_ : Int), .sl b 0 1 1] s5) Q := by
  obtain ⟨tb, gb1, gb2⟩ := gb
  have ger : ∀ n, n < s5.nx → inF (x0 :: l) n = false → (er (x0 :: l) s5).h.get n = s5.h.get n := fun n h1 h2 => by rw [er_get, if_pos ⟨h1, h2⟩]
  rcases hx with ⟨rfl, rfl⟩ | ⟨m, ty, sz, t, rfl, hm, hmb, hmf, gm, hro, hsz, ht⟩
  · obtain rfl : at_ = 0 := by simpa using hat
    have hr : RdRow (er (x0 :: l) s5) (.sl b 0 1 1) 1 1 [.int .i64 who] := ⟨rfl, .inr (.inl ⟨b, 0, 1, _, _, tb, rfl, hb, (ger b hb hbf).trans gb1, Nat.le_refl _, fun j v hj => by
      cases j with
      | zero => simp at hj; subst hj; exact gb2
      | succ j => simp at hj⟩)⟩
    refine Gd_lift (R := fun v s' => OwnRow s5.nx s' v 1 1 [.int .i64 who]) (by
      rw [insF_nil]
      exact ins_nil _ (.sl b 0 1 1) who hr _) ?_
    rintro Y _ s6 hY k6 x6
    have hY6 := OwnRow.sub k6 hY
    obtain ⟨_, ⟨_, hz⟩ | ⟨mY, tyY, trY, rfl, hY1, hY2, hY3, hY4, hY5⟩⟩ := hY6
    · omega
    exact k mY s6 hY1 hY2 ⟨tyY, 1, trY, hY3, hY4, Nat.le_refl _, fun j v hj => hY5 j v hj⟩ x6.le (fun n hn _ => x6.keep n hn) x6.wf
  · refine Gd_lift2 (R := fun v s' => v = .sg s5.nx 0 (L.length + 1) 1 ∧ s' = ⟨s5.nx + 2, ((er (x0 :: l) s5).h.set m .gone).set s5.nx (.cs unT (insL (at_ * 1) (iv1 L) [.int .i64 who]).length (sets (insL (at_ * 1) (iv1 L) [.int .i64 who]) 0 .lf))⟩) (Gd_insF (old := iv1 L) (new := [.int .i64 who]) (by omega) rfl rfl (Nat.zero_le _) hat hmb (by omega) (by omega) hsz ((ger m hm hmf).trans gm) hro ((ger b hb hbf).trans gb1) (by decide) (by decide) (by omega) (by simp [iv1]) ht rfl (fun j v hj => by
      cases j with
      | zero => simp at hj; subst hj; exact gb2
      | succ j => simp at hj) ?_) ?_
    · refine ⟨⟨rfl, rfl⟩, by show s5.nx < s5.nx + 2; omega, fun n hn hf => ?_⟩
      show (((er (x0 :: l) s5).h.set m .gone).set s5.nx _).get n = none
      rw [T.get_set_ne _ _ (by omega), T.get_set_ne _ _ (fun e => by subst e; rw [hmf] at hf; cases hf), er_get, if_neg (fun h => by rw [hf] at h; cases h.2)]
    · rintro v st1 s6 ⟨rfl, rfl⟩ hnx hget
      have g6 : ∀ n, s6.h.get n = if n = s5.nx then some (.cs unT (insL (at_ * 1) (iv1 L) [.int .i64 who]).length (sets (insL (at_ * 1) (iv1 L) [.int .i64 who]) 0 .lf)) else if n = m then some .gone else if n < s5.nx then s5.h.get n else none := fun n => by
        rw [hget n, T.get_set, T.get_set]
        by_cases e1 : n = s5.nx
        · subst e1
          rw [if_neg (fun h => by omega), if_pos rfl, if_pos rfl]
        · rw [if_neg e1]
          by_cases e2 : n = m
          · subst e2
            rw [if_neg (fun h => by rw [hmf] at h; cases h.2), if_neg (fun e => e1 e.symm), if_pos rfl, if_pos rfl]
          · rw [if_neg e2]
            by_cases e3 : n < s5.nx
            · rw [if_pos e3]
              by_cases e4 : inF (x0 :: l) n = true
              · rw [if_pos ⟨e3, e4⟩]
              · rw [if_neg (fun h => e4 h.2), if_neg (fun e => e1 e.symm), if_neg (fun e => e2 e.symm), ger n e3 (by simpa using e4)]
            · rw [if_neg e3, if_neg (fun h => e3 h.1), if_neg (fun e => e1 e.symm), if_neg (fun e => e2 e.symm), er_get, if_neg (fun h => e3 h.1)]
      have hlen : (insL (at_ * 1) (iv1 L) [.int .i64 who]).length = (L.length + 1) * 1 := by rw [insL_length (by simp [iv1]; omega)]; simp [iv1]
      refine k s5.nx s6 (Nat.le_refl _) (by rw [hnx]; show s5.nx < s5.nx + 2; omega) ⟨unT, _, _, by rw [g6, if_pos rfl], by decide, by rw [hlen]; exact Nat.le_refl _, fun j v hj => ?_⟩ (by rw [hnx]; show s5.nx ≤ s5.nx + 2; omega) (fun n hn hne => ?_) (fun hw n hn => ?_)
      · rw [iv1_ins] at hj
        rw [get_sets, if_pos ⟨Nat.zero_le _, by have := (List.getElem?_eq_some_iff.1 hj).1; omega⟩, Nat.sub_zero]
        exact hj
      · rw [g6, if_neg (by omega), if_neg (fun e => hne _ (by rw [e])), if_pos hn]
      · rw [hnx] at hn
        have hn' : s5.nx + 2 ≤ n := hn
        rw [g6, if_neg (by omega), if_neg (by omega), if_neg (by omega)]
def tgI (st : St) (q a b pb : Nat) (KB : Nat → Prop) (hv : Int → List Wn) (ky : Int → List Int × Bool) (who : Int) (x : V) (K : List Wn) (e : Env) (s : St) : Prop := ∃ (i : Nat) (KB' : Nat → Prop), i ≤ K.length ∧ e.get 0 = some (.p q 0) ∧ e.get 1 = some (.int .i64 who) ∧ e.get 27 = some x ∧ e.get 28 = some (.int .i64 (K.length : Int)) ∧ e.get 29 = some (.int .i64 (i : Int)) ∧ FrK st s a b KB KB' ∧ LkAt s q a b pb KB' (updI hv who K) (takeK ky who (K.take i)) ∧ RdRow s x 2 K.length (cellsK K) ∧ (∀ m, (∃ o k r, x = .sl m o k r) ∨ (∃ o k r, x = .sg m o k r) → m ≠ q ∧ ¬ KB' m)
def tgR (st : St) (q a b pb : Nat) (KB : Nat → Prop) (hv : Int → List Wn) (ky : Int → List Int × Bool) (who : Int) (K : List Wn) (r : V × St) : Prop := ∃ c : Int, r.1 = .int .i64 c ∧ RefC hv ky who K c ∧ (c ≠ 0 → Ext st.nx st r.2) ∧ (c = 0 → ∃ KB', FrK st r.2 a b KB KB' ∧ LkAt r.2 q a b pb KB' (updI hv who K) (takeK ky who K))
set_option maxRecDepth 20000 in
set_option maxHeartbeats 8000000 in
theorem take_G (st : St) (q a b pb : Nat) (KB : Nat → Prop) (hv : Int → List Wn) (ky : Int → List Int × Bool) (TL : LkAt st q a b pb KB hv ky) (who : Int) (x : V) (K : List Wn) (hx : RdRow st x 2 K.length (cellsK K)) (h2 : K.length ≤ 1000) (hxb : ∀ m, (∃ o k r, x = .sl m o k r) ∨ (∃ o k r, x = .sg m o k r) → m ≠ q ∧ ¬ KB m)
    (hno : hv who = [] → ∀ k, who ∉ (ky k).1) (hlt : ∀ k, (ky k).1.length < 1000) (hpb : pb < st.nx) (nt : Nat) :
    Gd (lkG ⟨false, [], 0, nt⟩ 112 [.p q 0, .int .i64 who, x] st) (tgR st q a b pb KB hv ky who K) := by
  rw [lkG, Gd_addF Try.func112 rfl]
  simp [evOp_call, sets, T.get_set]
  rw [liG_ne rfl]
  refine Gd.mono (ref_G st q a b pb KB hv ky TL who x K hx h2 _) ?_
  rintro ⟨r, s1⟩ ⟨c, hr, hc, x1⟩
  simp only at hr x1
  subst hr
  by_cases hc0 : c = 0
  rotate_left
  · simp [evOp_call, sets, T.get_set, hc0]
    exact ⟨c, rfl, hc, fun _ => x1, fun h => absurd h hc0⟩
  subst hc0
  obtain ⟨hK, hw, hUp, hnb⟩ : K ≠ [] ∧ hv who = [] ∧ UpK K ∧ ∀ w ∈ K, ¬ Busy ky w := by
    rcases hc with ⟨h, _⟩ | ⟨h, _⟩ | ⟨_, h⟩
    · cases h
    · cases h
    · exact h
  have h1 : 1 ≤ K.length := List.length_pos_iff.2 hK
  have hno := hno hw
  have T1 := TL.ext x1
  obtain ⟨A, B, ca, cb, TT1, TM1⟩ := T1
  have hx1 := hx.ext x1
  have TT := TT1
  obtain ⟨hq1, ha1, hb1, hab, haq, hbq, ⟨t', ht1, t01, t11⟩, gA1, gB1⟩ := TT1
  simp [evOp_call, sets, T.get_set, loadE_eq, getC_eq, ht1, t01]
  refine ⟨by kernel_rfl, ?_⟩
  have hqf : ∀ m, ((∃ o k q', x = .sl m o k q') ∨ (∃ o k q', x = .sg m o k q')) → inF [(q, q + 1)] m = false := fun m h => by have := (hxb m h).1; rw [inF_cons, if_neg (by omega)]; rfl
  rw [cxOf_callL [(q, q + 1)] (by kernel_rfl) (by kernel_rfl) (looseW_at 22 (.p q 0) (by simp [T.get_set]) (by kernel_rfl)) (fun y hy => by simp at hy; subst hy; rw [clashes_tmp']; simp [T.get_set]; exact hx.blkF hqf) (fun p hp => by simp at hp; subst hp; rw [isRo_cs ht1]; decide), forb_nil]
  simp only [List.append_nil]
  refine Gd_lift (R := fun v s' => OwnRow s1.nx s' v 2 K.length (cellsK K)) (by rw [liG_ne rfl]; exact Gd.mono (cloneW_any _ x K.length (cellsK K) (hx1.er hqf) (by omega) _) fun r h => ⟨h.2.1 (by omega), h.2.2.2⟩) ?_
  rintro R _ s2 hR k2 x2
  have hR2 := OwnRow.sub k2 hR
  clear hR k2
  have T2 := TT.ext x2
  have hx2 := hx1.ext x2
  have n2 : s1.nx ≤ s2.nx := x2.le
  have n1 : st.nx ≤ s1.nx := x1.le
  have hA : ∀ e ∈ A, e.1 ≠ who := fun e he h => (TM1.aOk e he).1 (h ▸ hw)
  obtain ⟨hq2, ha2, hb2, _, _, _, ⟨t2, ht2, t02, t12⟩, gA2, gB2⟩ := T2
  simp [evOp_call, sets, T.get_set, loadE_eq, getC_eq]
  rw [cxOf_may rfl rfl (by kernel_rfl), forb_step (by kernel_rfl) rfl, mput_new map_w rfl (Nat.zero_le _) gA2 hA]
  simp [evOp_call, sets, T.get_set, hx2.lenS]
  have kp := keep_mp (M' := mk (A ++ [(who, R, ca)])) (c' := ca + 1) gA2
  have x02 : Ext st.nx st s2 := x1.trans (x2.mono n1)
  have fr2 : FrK st ⟨s2.nx, s2.h.set a (.mp (mk (A ++ [(who, R, ca)])) (ca + 1))⟩ a b KB KB := ⟨by show st.nx ≤ s2.nx; omega, fun n hn hna _ _ => (T.get_set_ne _ _ (fun e => hna e.symm)).trans (x02.keep n hn), fun n h => .inl h, fun w n hn => by
    have hn' : s2.nx ≤ n := hn
    exact (T.get_set_ne _ _ (by omega)).trans (x02.wf w n hn')⟩
  have kps : ∀ n ty sz t, n < s1.nx → s1.h.get n = some (.cs ty sz t) → (s2.h.set a (.mp (mk (A ++ [(who, R, ca)])) (ca + 1))).get n = some (.cs ty sz t) := fun n ty sz t hn hg => kp _ _ _ _ (Nat.lt_of_lt_of_le hn n2) ((x2.keep n hn).trans hg)
  obtain ⟨_, ⟨_, hz⟩ | ⟨mR, tyR, trR, rfl, r1, r2, r3, r4, r5⟩⟩ := hR2
  · omega
  have hLk3 : LkAt ⟨s2.nx, s2.h.set a (.mp (mk (A ++ [(who, .sg mR 0 K.length 2, ca)])) (ca + 1))⟩ q a b pb KB (updI hv who K) ky :=
    ⟨_, B, ca + 1, cb, ⟨hq2, ha2, hb2, hab, haq, hbq, ⟨t2, kp _ _ _ _ hq2 ht2, t02, t12⟩, T.get_set_same _ _ _, (T.get_set_ne _ _ hab).trans gB2⟩, TM1.wantNew hw n2 kps ⟨mR, tyR, _, trR, rfl, r2, fun h => by have := TM1.kbLt _ h; omega, ⟨by omega, by omega⟩, kp _ _ _ _ r2 r3, Nat.le_refl _, r5⟩ hK h2⟩
  refine Gd_loop (tgI st q a b pb KB hv ky who x K) (fun en _ => muAt 29 K.length en) ?_ ?_
  · exact ⟨0, KB, Nat.zero_le _, by simp [T.get_set], by simp [T.get_set], by simp [T.get_set], by simp [T.get_set], by simp [T.get_set], fr2, hLk3, rd_keep hx2 (Nat.le_refl _) kp, hxb⟩
  rintro en s ⟨i, KB1, hi, g0, g1, g27, g28, g29, hfr, hLks, hxs, hxbs⟩
  by_cases hlt2 : i < K.length
  · have hlt' : (i : Int) < K.length := by omega
    have hwi := wrap_nat (n := i) (by omega)
    obtain ⟨y, hy⟩ : ∃ y, K[i]? = some y := ⟨_, List.getElem?_eq_getElem hlt2⟩
    have hym : y ∈ K := List.mem_of_getElem? hy
    have hkyi : takeK ky who (K.take i) y.1 = ky y.1 := takeK_other who _ _ (up_take hUp hy)
    obtain ⟨kyi, hkd⟩ : ∃ f, f = takeK ky who (K.take i) := ⟨_, rfl⟩
    rw [← hkd] at hkyi hLks
    obtain ⟨L, hLd⟩ : ∃ L, L = (ky y.1).1 := ⟨_, rfl⟩
    obtain ⟨A1, B1, ca1, cb1, TTs, TMs⟩ := hLks
    have TT0 := TTs
    obtain ⟨hqs, has, hbs, _, _, _, ⟨t3, ht3, t03, t13⟩, gA3, gB3⟩ := TTs
    obtain ⟨m1, o1, ty1, sz1, tr1, i1, b1, k1, l1, c1⟩ := hxs.idx (st := s) un164 io170 hlt2
    have d1 : tr1.get o1 = some (.int .i64 y.1) := by simpa using c1 0 _ (by omega) (cellsK_get K i _ hy).1
    have d2 : tr1.get (o1 + 1) = some (.bool y.2) := by simpa using c1 1 _ (by omega) (cellsK_get K i _ hy).2
    have nq : ¬ s.nx = q := by omega
    have nb : ¬ s.nx = b := by omega
    have nq1 : ¬ s.nx + 1 = q := by omega
    have hris : RisI L := by rw [hLd, ← hkyi]; exact TMs.ris y.1
    have hLl : L.length < 1000 := by rw [hLd]; exact hlt y.1
    have hwL : who ∉ L := by rw [hLd]; exact hno y.1
    -- the key's entry, or none
    obtain ⟨xw, al, hone, hlook, hcase⟩ : ∃ xw al, xw.one = true ∧ (∀ (c : Cx) (s' : St), c.ok b = true → s'.h.get b = some (.mp (mk B1) cb1) → lookE Try.prog c s' 238 (.m b) (.int .i64 y.1) false = some (.g [xw, .bool al], s')) ∧
        ((xw = .c (.slice none 0 0) ∧ L = [] ∧ ∀ e ∈ B1, e.1 ≠ y.1) ∨ ∃ j c0 m, B1[j]? = some (y.1, .g [xw, .bool al], c0) ∧ (∀ e ∈ B1.take j, e.1 ≠ y.1) ∧ KRow s KB1 (.g [xw, .bool al]) m (kyi y.1) ∧ xw = .sg m 0 L.length 1) := by
      by_cases hky : (kyi y.1).1 = []
      · have hB : ∀ e ∈ B1, e.1 ≠ y.1 := fun e he h => (TMs.bOk e he).1 (h ▸ hky)
        exact ⟨.c (.slice none 0 0), false, rfl, fun c s' h1 h2 => by rw [look_no map_h h1 h2 hB zv_h]; rfl, .inl ⟨rfl, by rw [hLd, ← hkyi, hky], hB⟩⟩
      · obtain ⟨j, v, cj, hj, hjn⟩ := mfirst (TMs.bAll _ hky)
        obtain ⟨_, m, hkr⟩ := TMs.bOk _ (List.mem_of_getElem? hj)
        have hkr0 := hkr
        obtain ⟨ty, sz, tm, hv1, _⟩ := hkr
        simp only at hv1
        subst hv1
        rw [hkyi, ← hLd] at hj hkr0
        refine ⟨.sg m 0 L.length 1, (ky y.1).2, rfl, fun c s' h1 h2 => by rw [look_yes map_h h1 h2 hj hjn]; rfl, .inr ⟨j, cj, m, hj, hjn, by rw [hkyi]; exact hkr0, rfl⟩⟩
    simp [evOp_call, T.get_set, g0, g1, g27, g28, g29, hlt', i1, loadE_eq, getC_eq, getsB_succ, getsB_zero, k1, d1, d2, newC_is, storeK_g, putB_eq, roT, sets]
    refine ⟨by kernel_rfl, ?_⟩
    simp [evOp_call, T.get_set, g0, g1, g27, g28, g29, loadE_eq, getC_eq, getsB_succ, getsB_zero, ht3, t13, nq]
    rw [cxOf_may rfl rfl (by kernel_rfl), forb_nil, hlook _ _ rfl ((T.get_set_ne _ _ nb).trans gB3)]
    simp [evOp_call, T.get_set, g0, g1, g27, g28, g29, tupK, newC_is]
    rw [cxOf_store]
    rotate_left
    · kernel_rfl
    rw [forb_cons (by kernel_rfl) rfl]
    simp [evOp_call, T.get_set, g0, g1, g27, g28, g29, storeK_g, putB_eq, roT, sets, loadE_eq, getC_eq, getsB_succ, getsB_zero]
    obtain ⟨s4, hS4⟩ : ∃ s4 : St, s4 = ⟨s.nx + 1 + 1, (s.h.set s.nx (.cs 170 2 ((((T.lf.set 0 (V.int IntKind.i64 0)).set 1 (V.bool false)).set 0 (V.int IntKind.i64 y.1)).set 1 (V.bool y.2)))).set (s.nx + 1) (.cs 242 2 ((((T.lf.set 0 (V.c (.slice none 0 0))).set 1 (V.bool false)).set 0 xw).set 1 (V.bool al)))⟩ := ⟨_, rfl⟩
    have n4 : s4.nx = s.nx + 2 := by rw [hS4]
    have x4 : Ext s.nx s s4 := by rw [hS4]; exact ((Ext.refl _ _).new (Nat.le_refl _) _).new (Nat.le_succ _) _
    have q01 : ¬ s.nx + 1 = s.nx := by omega
    obtain ⟨tw, kw, tw0, tw1⟩ : ∃ tw, s4.h.get s.nx = some (.cs 170 2 tw) ∧ tw.get 0 = some (.int .i64 y.1) ∧ tw.get 1 = some (.bool y.2) := ⟨_, by rw [hS4]; exact (T.get_set_ne _ _ q01).trans (T.get_set_same _ _ _), by simp [T.get_set], by simp [T.get_set]⟩
    obtain ⟨th, kh, th0⟩ : ∃ th, s4.h.get (s.nx + 1) = some (.cs 242 2 th) ∧ th.get 0 = some xw := ⟨_, by rw [hS4]; exact T.get_set_same _ _ _, by simp [T.get_set]⟩
    rw [← hS4]
    have T4 := TT0.ext x4
    obtain ⟨hq4, ha4, hb4, _, _, _, ⟨t4, ht4, t04, t14⟩, gA4, gB4⟩ := T4
    -- the row that is searched
    have hrow : xw = .c (.slice none 0 0) ∧ L = [] ∨ ∃ m ty sz t, xw = .sg m 0 L.length 1 ∧ m < s.nx ∧ KB1 m ∧ s.h.get m = some (.cs ty sz t) ∧ ty ≠ roT ∧ L.length * 1 ≤ sz ∧ ∀ j v, (iv1 L)[j]? = some v → t.get j = some v := by
      rcases hcase with ⟨e1, e2, _⟩ | ⟨j, c0, m, _, _, hkr, e1⟩
      · exact .inl ⟨e1, e2⟩
      · obtain ⟨ty, sz, t, e2, e3, e4, e5, e6, e7, e8⟩ := hkr
        rw [hkyi, ← hLd] at e7 e8
        exact .inr ⟨m, ty, sz, t, e1, e3, e4, e5, e6, e7, e8⟩
    have hrd4 : RdRow s4 xw 1 L.length (L.map fun v => .int .i64 v) := by
      rcases hrow with ⟨rfl, rfl⟩ | ⟨m, ty, sz, t, rfl, e3, e4, e5, e6, e7, e8⟩
      · exact ⟨rfl, .inl ⟨.inl rfl, rfl⟩⟩
      · exact ⟨by simp, .inr (.inr ⟨m, 0, ty, sz, t, rfl, by omega, (x4.keep m e3).trans e5, by omega, fun j v hj => by rw [Nat.zero_add]; exact e8 j v hj⟩)⟩
    rw [liG_ne rfl]
    refine Gd.mono (bs_any s4 xw L who hris (by omega) hrd4 _) ?_
    rintro _ rfl
    simp [evOp_call, T.get_set, g0, g1, g27, g28, g29, tupK, loadE_eq, getC_eq, ht4, t14]
    refine ⟨by kernel_rfl, ?_⟩
    simp [evOp_call, T.get_set, g0, g1, g27, g28, g29, tupK, loadE_eq, getC_eq, ht4, t14, kw, tw0, kh, th0]
    refine evOp_build1 (v := .int .i64 who) (cs := [.int .i64 who]) (fun k => el76 k) (fun k => ze3 k) rfl (by omega) (by simp [T.get_set]) (fun k => rfl) rfl ?_
    have x5 : Ext s4.nx s4 ⟨s4.nx + 1, s4.h.set s4.nx (.cs 3 1 (sets [.int .i64 who] 0 .lf))⟩ := (Ext.refl _ _).new (Nat.le_refl _) _
    have gb5 : ∃ tb, (s4.h.set s4.nx (.cs 3 1 (sets [.int .i64 who] 0 .lf))).get s4.nx = some (.cs 3 1 tb) ∧ tb.get 0 = some (.int .i64 who) := ⟨_, T.get_set_same _ _ _, by simp [sets, T.get_set]⟩
    simp [evOp_call, T.get_set, g0, g1, g27, g28, g29]
    generalize hS5 : (⟨s4.nx + 1, s4.h.set s4.nx (.cs 3 1 (sets [.int .i64 who] 0 .lf))⟩ : St) = s5 at x5 ⊢
    have gb5' : ∃ tb, s5.h.get s4.nx = some (.cs 3 1 tb) ∧ tb.get 0 = some (.int .i64 who) := by rw [← hS5]; exact gb5
    have n5 : s5.nx = s4.nx + 1 := by rw [← hS5]
    have ht5 := (x5.keep q hq4).trans ht4
    have kw5 := (x5.keep s.nx (by omega)).trans kw
    have hff : ∀ m, m ≠ q → m ≠ s.nx → inF [(q, q + 1), (s.nx, s.nx + 1), (s.nx, s.nx + 1)] m = false := fun m h h' => by rw [inF_cons, if_neg (by omega), inF_cons, if_neg (by omega), inF_cons, if_neg (by omega)]; rfl
    have xs5 : Ext s.nx s s5 := x4.trans (x5.mono (by omega))
    have hxwf : ∀ m, ((∃ o k q', xw = .sl m o k q') ∨ (∃ o k q', xw = .sg m o k q')) → inF [(q, q + 1), (s.nx, s.nx + 1), (s.nx, s.nx + 1)] m = false := fun m h => by
      rcases hrow with ⟨rfl, rfl⟩ | ⟨m', ty, sz, t, rfl, e3, e4, e5, e6, e7, e8⟩
      · rcases h with ⟨_, _, _, h⟩ | ⟨_, _, _, h⟩ <;> cases h
      · rcases h with ⟨_, _, _, h⟩ | ⟨_, _, _, h⟩
        · cases h
        · injection h with h
          subst h
          exact hff _ (fun e => TMs.qNo (e ▸ e4)) (by omega)
    simp only [← n5]
    rw [cxOf_callL [(q, q + 1), (s.nx, s.nx + 1), (s.nx, s.nx + 1)] (by kernel_rfl) (by kernel_rfl) (looseW_at3 49 51 9 (.p q 1) (.p s.nx 0) (.p s.nx 0) (by simp [T.get_set]) (by simp [T.get_set]) (by simp [T.get_set]) (by kernel_rfl)) (fun y hy => by
      simp at hy
      rcases hy with rfl | rfl | rfl <;> (rw [clashes_tmp']; simp [T.get_set, blkOf])
      · exact hrd4.blkF hxwf
      · exact hff _ (by omega) (by omega)) (fun p hp => by simp at hp; rcases hp with rfl | rfl <;> first | (rw [isRo_cs ht5]; decide) | (rw [isRo_cs kw5]; decide)), forb_cons (by kernel_rfl) rfl]
    simp only [List.append_nil]
    have hKn : ∀ n, ¬ KB1 n → ∀ ln, xw ≠ .sg n 0 ln 1 := fun n hn ln e => by
      rcases hrow with ⟨rfl, rfl⟩ | ⟨m', ty, sz, t, rfl, e3, e4, _⟩
      · cases e
      · injection e with e
        exact hn (e ▸ e4)
    refine ins_both (cntL_le _ _) (by omega) (by omega) (hff _ (by omega) (by omega)) gb5' (by
      rcases hrow with ⟨e1, e2⟩ | ⟨m', ty, sz, t, e1, e3, e4, e5, e6, e7, e8⟩
      · exact .inl ⟨e1, e2⟩
      · exact .inr ⟨m', ty, sz, t, e1, by omega, by omega, hff _ (fun e => TMs.qNo (e ▸ e4)) (by omega), (xs5.keep m' e3).trans e5, e6, e7, e8⟩) ?_
    rintro mY s6 y1 y2 ⟨tyY, szY, tY, y3, y4, y5, y6⟩ n6 k6 w6
    have kn6 : ∀ n, n < s5.nx → ¬ KB1 n → s6.h.get n = s5.h.get n := fun n hn hk => k6 n hn (hKn n hk)
    have kbl : ∀ n, KB1 n → n < s.nx := TMs.kbLt
    have kw6 := (kn6 s.nx (by omega) (fun h => by have := kbl _ h; omega)).trans kw5
    have hlm : ∀ (b' nx : Nat), inF ((0, s.nx) :: (s.nx + 1, nx) :: forb b' (rsOf [(10, s4.nx, s5.nx)] 11 s5.nx s6.nx) []) s.nx = false := fun b' nx => inF_lds (rsOf_lt (fun e h => by simp at h; subst h; show s.nx < s4.nx; omega) (by omega))
    have ks6 : ∀ n, n < s.nx → ¬ KB1 n → s6.h.get n = s.h.get n := fun n hn hk => (kn6 n (by omega) hk).trans (xs5.keep n hn)
    have notK : ∀ n B0 c0, s.h.get n = some (.mp B0 c0) → n < s.nx → ∀ ln, xw ≠ .sg n 0 ln 1 := fun n B0 c0 hg _ ln e => by
      rcases hrow with ⟨rfl, rfl⟩ | ⟨m', ty, sz, t, rfl, e3, e4, e5, _⟩
      · cases e
      · injection e with e
        rw [← e, e5] at hg; cases hg
    have ht6 := (ks6 q hqs TMs.qNo).trans ht3
    have gA6 := ((k6 a (by omega) (notK a _ _ gA3 has)).trans (xs5.keep a has)).trans gA3
    have gB6 := ((k6 b (by omega) (notK b _ _ gB3 hbs)).trans (xs5.keep b hbs)).trans gB3
    simp [evOp_call, T.get_set, g0, g1, g27, g28, g29, loadE_eq, getC_eq, kw6, tw1, hlm]
    rw [cxOf_may rfl rfl (by kernel_rfl), forb_step (by kernel_rfl) (forb_cons (by kernel_rfl) rfl)]
    -- the rest, whichever way the entry is put
    have fin : ∀ (en2 : Env) B2 cb2, en2.get 0 = some (.p q 0) → en2.get 1 = some (.int .i64 who) → en2.get 27 = some x → en2.get 28 = some (.int .i64 (K.length : Int)) → en2.get 29 = some (.int .i64 ((i + 1 : Nat) : Int)) → LkMaps ⟨s6.nx, s6.h.set b (.mp (mk B2) cb2)⟩ q pb (fun n => KB1 n ∨ n = mY) (updI hv who K) (updI kyi y.1 (insI (cntL who L) who L, y.2)) A1 B2 → tgI st q a b pb KB hv ky who x K en2 ⟨s6.nx, s6.h.set b (.mp (mk B2) cb2)⟩ := fun en2 B2 cb2 f0 f1 f27 f28 f29 hM => by
      have kp6 := keep_mp (M' := mk B2) (c' := cb2) gB6
      have hxk : ∀ m, (∃ o k r, x = .sl m o k r) ∨ (∃ o k r, x = .sg m o k r) → m < s.nx := fun m h => by
        rcases h with ⟨o, k, r, h⟩ | ⟨o, k, r, h⟩
        · exact hxs.lt_of.2 _ _ _ _ h
        · exact hxs.lt_of.1 _ _ _ _ h
      refine ⟨i + 1, fun n => KB1 n ∨ n = mY, hlt2, f0, f1, f27, f28, f29, hfr.trans ⟨by show s.nx ≤ s6.nx; omega, fun n hn _ hnb' hk => (T.get_set_ne _ _ (fun e => hnb' e.symm)).trans (ks6 n hn hk), fun n hn => ?_, fun w n hn => ?_⟩, ?_, ?_, fun m h => ⟨(hxbs m h).1, fun hk => ?_⟩⟩
      · rcases hn with h | h
        · exact .inl h
        · exact .inr (by omega)
      · have hn' : s6.nx ≤ n := hn
        exact (T.get_set_ne _ _ (by omega)).trans (w6 (xs5.wf w) n hn')
      · refine ⟨A1, B2, ca1, cb2, ⟨by show q < s6.nx; omega, by show a < s6.nx; omega, by show b < s6.nx; omega, hab, haq, hbq, ⟨t3, kp6 _ _ _ _ (by omega) ht6, t03, t13⟩, (T.get_set_ne _ _ (Ne.symm hab)).trans gA6, T.get_set_same _ _ _⟩, ?_⟩
        rw [List.take_add_one, hy]
        show LkMaps _ q pb _ _ (takeK ky who (K.take i ++ [y])) A1 B2
        rw [takeK_snoc, ← hkd]
        show LkMaps _ q pb _ _ (updI kyi y.1 (insI (cntL who (kyi y.1).1) who (kyi y.1).1, y.2)) A1 B2
        rw [hkyi, ← hLd]
        exact hM
      · obtain ⟨z1, z2⟩ := hxs
        refine ⟨z1, ?_⟩
        have keep1 : ∀ m ty sz t, m < s.nx → ¬ KB1 m → s.h.get m = some (.cs ty sz t) → (s6.h.set b (.mp (mk B2) cb2)).get m = some (.cs ty sz t) := fun m ty sz t hm hk hg => kp6 _ _ _ _ (by omega) ((ks6 m hm hk).trans hg)
        rcases z2 with z2 | ⟨m, o, r, ty, sz, t, rfl, z3, z4, z5, z6⟩ | ⟨m, o, ty, sz, t, rfl, z3, z4, z5, z6⟩
        · exact .inl z2
        · exact .inr (.inl ⟨m, o, r, ty, sz, t, rfl, by show m < s6.nx; omega, keep1 m ty sz t z3 (hxbs m (.inl ⟨_, _, _, rfl⟩)).2 z4, z5, z6⟩)
        · exact .inr (.inr ⟨m, o, ty, sz, t, rfl, by show m < s6.nx; omega, keep1 m ty sz t z3 (hxbs m (.inr ⟨_, _, _, rfl⟩)).2 z4, z5, z6⟩)
      · rcases hk with h1 | h1
        · exact (hxbs m h).2 h1
        · have := hxk m h; omega
    have hKR : ∀ B2 cb2, KRow ⟨s6.nx, s6.h.set b (.mp (mk B2) cb2)⟩ (fun n => KB1 n ∨ n = mY) (.g [.sg mY 0 (L.length + 1) 1, .bool y.2]) mY (insI (cntL who L) who L, y.2) := fun B2 cb2 =>
      ⟨tyY, szY, tY, by show V.g [V.sg mY 0 (L.length + 1) 1, .bool y.2] = .g [.sg mY 0 (insI (cntL who L) who L).length 1, .bool y.2]; rw [insI_length (cntL_le _ _)], y2, .inr rfl, keep_mp (M' := mk B2) (c' := cb2) gB6 _ _ _ _ y2 y3, y4, by show (insI (cntL who L) who L).length * 1 ≤ szY; rw [insI_length (cntL_le _ _)]; exact y5, y6⟩
    rcases hcase with ⟨e1, e2, hB⟩ | ⟨j, c0, m, hj, hjn, hkr, e1⟩
    · rw [mput_new map_h rfl (Nat.zero_le _) gB6 hB]
      simp [evOp_call, T.get_set, g0, g1, g27, g28, g29, hwi]
      refine ⟨fin _ _ _ (by simp [T.get_set, g0]) (by simp [T.get_set, g1]) (by simp [T.get_set, g27]) (by simp [T.get_set, g28]) (by simp [T.get_set]) (TMs.keyNew hB (by show s.nx ≤ s6.nx; omega) (by omega) (fun n ty sz t hn hg => keep_mp (M' := mk (B1 ++ [(y.1, .g [.sg mY 0 (L.length + 1) 1, .bool y.2], cb1)])) (c' := cb1 + 1) gB6 _ _ _ _ (by omega) (((k6 n (by omega) (fun ln e => by rw [e1] at e; cases e)).trans (xs5.keep n hn)).trans hg)) (hKR _ _) insI_ne (hris.ins hwL) (by show (insI (cntL who L) who L).length ≤ 1000; rw [insI_length (cntL_le _ _)]; omega) hqs), muAt_lt g29 (by simp [T.get_set]) hlt2⟩
    · rw [mput_old map_h rfl (Nat.zero_le _) gB6 hj hjn]
      simp [evOp_call, T.get_set, g0, g1, g27, g28, g29, hwi]
      refine ⟨fin _ _ _ (by simp [T.get_set, g0]) (by simp [T.get_set, g1]) (by simp [T.get_set, g27]) (by simp [T.get_set, g28]) (by simp [T.get_set]) (TMs.keyOld hj hkr (by show s.nx ≤ s6.nx; omega) (.inl (by omega)) (fun n ty sz t hn hne hg => keep_mp (M' := mk (B1.set j (y.1, .g [.sg mY 0 (L.length + 1) 1, .bool y.2], c0))) (c' := cb1) gB6 _ _ _ _ (by omega) (((k6 n (by omega) (fun ln e => by rw [e1] at e; injection e with e; exact hne e.symm)).trans (xs5.keep n hn)).trans hg)) (hKR _ _) insI_ne (hris.ins hwL) (by show (insI (cntL who L) who L).length ≤ 1000; rw [insI_length (cntL_le _ _)]; omega) hqs), muAt_lt g29 (by simp [T.get_set]) hlt2⟩
  · obtain rfl : i = K.length := by omega
    have hnl : ¬ (K.length : Int) < K.length := by omega
    simp [evOp_call, T.get_set, g0, g1, g27, g28, g29, hnl, sets]
    rw [List.take_length] at hLks
    exact ⟨0, rfl, .inr (.inr ⟨rfl, hK, hw, hUp, hnb⟩), fun h => absurd rfl h, fun _ => ⟨KB1, hfr, hLks⟩⟩
end Go.Proofs.Ytdoennkmcloalaa

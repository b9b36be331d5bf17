/-
  Contracts of package lock: Take of a table that nobody holds anything of.
-/
import Derived.Test.YtdoennkmcloalaaLkD
set_option linter.unusedSimpArgs false
set_option linter.unusedVariables false
namespace Go.Proofs.Ytdoennkmcloalaa
open Go.RowKit Ev
set_option maxHeartbeats 4000000 in
theorem cloneW_any (st : St) (x : V) (n : Nat) (l : List V) (hx : RdRow st x 2 n l) (hn : n ≤ 1000000) (nt : Nat) :
    Gd (callL Try.prog ⟨false, [], 0, nt⟩ 176 [x] st) fun r => RdRow r.2 r.1 2 n l ∧ (0 < n → OwnRow st.nx r.2 r.1 2 n l) ∧ RowFrom st.nx r.1 ∧ Ext st.nx st r.2 := by
  rw [Gd_callL Try.func176 rfl]
  by_cases hnil : isNil x = true
  · obtain ⟨rfl, rfl⟩ := isNil_len hx hnil
    simp [sets, T.get_set, eql_nil un164 hx, hnil]
    exact ⟨hx, ⟨fun _ _ _ _ e => (by cases e), fun _ _ _ _ e => by cases e⟩, Ext.refl _ _⟩
  · simp [sets, T.get_set, eql_nil un164 hx, hnil]
    rw [evOp_build0 (fun k => el164 k) (fun k => ze170 k) rfl]
    simp [T.get_set]
    have he : Ext st.nx st ⟨st.nx + 1, st.h.set st.nx (.cs 170 0 .lf)⟩ := (Ext.refl _ _).new (Nat.le_refl _) _
    have hx' := hx.ext he
    refine Gd_append0 un164 un164 io170 (by decide) (T.get_set_same _ _ _) hx.notS (fun k => hx.len k) (fun k => hx'.firsts k) hx.1 (by omega) (fun h0 => ?_) fun h1 => ?_
    · subst h0
      simp [T.get_set]
      have hl : l = [] := List.length_eq_zero_iff.1 (by have := hx.1; omega)
      subst hl
      exact ⟨⟨rfl, .inr (.inl ⟨st.nx, 0, 0, 170, 0, .lf, rfl, Nat.lt_succ_self _, T.get_set_same _ _ _, Nat.le_refl _, fun j v h => by simp at h⟩)⟩, ⟨fun _ _ _ _ e => (by cases e), fun _ _ _ _ e => (by cases e; exact Nat.le_refl _)⟩, he⟩
    · simp [T.get_set]
      have h2 := he.new (Nat.le_succ _) (.cs 170 l.length (sets l 0 .lf))
      have ho : OwnRow st.nx ⟨st.nx + 1 + 1, (st.h.set st.nx (.cs 170 0 .lf)).set (st.nx + 1) (.cs 170 l.length (sets l 0 .lf))⟩ (.sg (st.nx + 1) 0 n 2) 2 n l := by
        refine ⟨hx.1, .inr ⟨st.nx + 1, 170, sets l 0 .lf, rfl, Nat.le_succ _, Nat.lt_succ_self _, ?_, by decide, fun j v hj => ?_⟩⟩
        · rw [← hx.1]; exact T.get_set_same _ _ _
        · have hjl : j < l.length := lt_of_get hj
          rw [get_sets, if_pos ⟨Nat.zero_le _, by omega⟩]
          simpa using hj
      exact ⟨ho.rd, fun _ => ho, ⟨fun _ _ _ _ e => (by cases e; omega), fun _ _ _ _ e => by cases e⟩, h2⟩

/-- entries: what is wanted, the block of the row of who holds it, from a birth on -/
def ents : List (Wn × Nat) → Nat → List (Int × V × Nat)
  | [], _ => []
  | x :: L, c => (x.1.1, .g [.sg x.2 0 1 1, .bool x.1.2], c) :: ents L (c + 1)
theorem ents_snoc : ∀ (L : List (Wn × Nat)) (x : Wn × Nat) (c : Nat), ents (L ++ [x]) c = ents L c ++ [(x.1.1, .g [.sg x.2 0 1 1, .bool x.1.2], c + L.length)]
  | [], x, c => rfl
  | y :: L, x, c => by
    show _ :: ents (L ++ [x]) (c + 1) = _ :: (ents L (c + 1) ++ _)
    rw [ents_snoc L x (c + 1), List.length_cons, show c + 1 + L.length = c + (L.length + 1) by omega]
theorem ents_key : ∀ (L : List (Wn × Nat)) (c : Nat) (e : Int × V × Nat), e ∈ ents L c → ∃ x ∈ L, x.1.1 = e.1
  | [], c, e, h => by cases h
  | y :: L, c, e, h => by
    rcases List.mem_cons.1 h with rfl | h
    · exact ⟨y, List.mem_cons_self .., rfl⟩
    · obtain ⟨x, h1, h2⟩ := ents_key L (c + 1) e h
      exact ⟨x, List.mem_cons_of_mem _ h1, h2⟩
def HeldOk (lo : Nat) (s : St) (who : Int) (L : List (Wn × Nat)) : Prop := (∀ p ∈ L, lo ≤ p.2 ∧ p.2 < s.nx ∧ ∃ ty t, s.h.get p.2 = some (.cs ty 1 t) ∧ ty ≠ roT ∧ t.get 0 = some (.int .i64 who)) ∧ L.Pairwise fun x y => x.2 < y.2
theorem HeldOk.keep {lo : Nat} {s s' : St} {who : Int} {L : List (Wn × Nat)} (h : HeldOk lo s who L) (hn : s.nx ≤ s'.nx) (k : ∀ m ty sz t, m < s.nx → s.h.get m = some (.cs ty sz t) → s'.h.get m = some (.cs ty sz t)) : HeldOk lo s' who L :=
  ⟨fun p hp => by
    obtain ⟨h1, h2, ty, t, h3, h4, h5⟩ := h.1 p hp
    exact ⟨h1, by omega, ty, t, k _ _ _ _ h2 h3, h4, h5⟩, h.2⟩
theorem rd_keep {s s' : St} {x : V} {z n : Nat} {l : List V} (h : RdRow s x z n l) (hn : s.nx ≤ s'.nx) (k : ∀ m ty sz t, m < s.nx → s.h.get m = some (.cs ty sz t) → s'.h.get m = some (.cs ty sz t)) : RdRow s' x z n l := by
  obtain ⟨h1, h2⟩ := h
  refine ⟨h1, ?_⟩
  rcases h2 with h2 | ⟨m, o, q, ty, sz, t, rfl, h3, h4, h5, h6⟩ | ⟨m, o, ty, sz, t, rfl, h3, h4, h5, h6⟩
  · exact .inl h2
  · exact .inr (.inl ⟨m, o, q, ty, sz, t, rfl, by omega, k _ _ _ _ h3 h4, h5, h6⟩)
  · exact .inr (.inr ⟨m, o, ty, sz, t, rfl, by omega, k _ _ _ _ h3 h4, h5, h6⟩)
theorem Ev.RdRow.blkF {s : St} {x : V} {z n : Nat} {l : List V} (h : RdRow s x z n l) {f : List (Nat × Nat)} (hf : ∀ m, ((∃ o k q', x = .sl m o k q') ∨ (∃ o k q', x = .sg m o k q')) → inF f m = false) : (blkOf x).elim false (inF f) = false := by
  obtain ⟨h1, h2⟩ := h
  rcases h2 with ⟨rfl | rfl, _⟩ | ⟨m, o, q, ty, sz, t, rfl, _⟩ | ⟨m, o, ty, sz, t, rfl, _⟩
  · rfl
  · rfl
  · exact hf m (.inl ⟨_, _, _, rfl⟩)
  · exact hf m (.inr ⟨_, _, _, rfl⟩)
theorem keep_mp {s : St} {n : Nat} {M M' : List MEnt} {c c' : Nat} (hg : s.h.get n = some (.mp M c)) : ∀ m ty sz t, m < s.nx → s.h.get m = some (.cs ty sz t) → (s.h.set n (.mp M' c')).get m = some (.cs ty sz t) := fun m ty sz t _ h => by
  have : ¬ n = m := fun e => by subst e; rw [hg] at h; cases h
  exact (T.get_set_ne _ _ this).trans h
theorem up_far {K : List Wn} (h : UpK K) : ∀ (d i : Nat) (x y : Wn), K[i]? = some x → K[i + d + 1]? = some y → x.1 < y.1
  | 0, i, x, y, hx, hy => h i x y hx hy
  | d + 1, i, x, y, hx, hy => by
    obtain ⟨z, hz⟩ : ∃ z, K[i + d + 1]? = some z := by
      have : i + d + 1 + 1 < K.length := by
        have := (List.getElem?_eq_some_iff.1 hy).1
        omega
      exact ⟨_, List.getElem?_eq_getElem (by omega)⟩
    have h1 := up_far h d i x z hx hz
    have h2 := h (i + d + 1) z y hz (by rw [show i + d + 1 + 1 = i + (d + 1) + 1 by omega]; exact hy)
    omega
theorem up_lt {K : List Wn} (h : UpK K) {L : List (Wn × Nat)} (hL : L.map Prod.fst = K.take L.length) {z : Wn × Nat} (hz : z ∈ L) {y : Wn} (hy : K[L.length]? = some y) : z.1.1 < y.1 := by
  obtain ⟨i, hi, rfl⟩ := List.getElem_of_mem hz
  have h1 : (L.map Prod.fst)[i]? = some L[i].1 := by rw [List.getElem?_map, List.getElem?_eq_getElem hi]; rfl
  rw [hL, List.getElem?_take, if_pos hi] at h1
  exact up_far h (L.length - i - 1) i _ _ h1 (by rw [show i + (L.length - i - 1) + 1 = L.length by omega]; exact hy)
noncomputable def lkF : CallF := addF Try.prog (callL Try.prog) 112
theorem lkF_ne {g : Nat} (h : Nat.beq g 112 = false) (c : Cx) (args : List V) (st : St) : lkF c g args st = callL Try.prog c g args st := addF_ne _ _ h _ _ _
def tkI (st : St) (lo q a b : Nat) (who : Int) (x : V) (K : List Wn) (R : V) (ca cb : Nat) (e : Env) (s : St) : Prop := ∃ (L : List (Wn × Nat)), L.length ≤ K.length ∧ L.map Prod.fst = K.take L.length ∧ e.get 0 = some (.p q 0) ∧ e.get 1 = some (.int .i64 who) ∧ e.get 27 = some x ∧ e.get 28 = some (.int .i64 (K.length : Int)) ∧ e.get 29 = some (.int .i64 (L.length : Int)) ∧ st.nx ≤ s.nx ∧ Ext lo st s ∧ TabAt s q a b [(who, R, ca)] (ents L cb) (ca + 1) (cb + L.length) ∧ HeldOk lo s who L ∧ RdRow s R 2 K.length (cellsK K) ∧ RdRow s x 2 K.length (cellsK K)
def tkR (st : St) (lo q a b : Nat) (who : Int) (K : List Wn) (ca cb : Nat) (r : V × St) : Prop := r.1 = .int .i64 0 ∧ ∃ (L : List (Wn × Nat)) (R : V), L.map Prod.fst = K ∧ st.nx ≤ r.2.nx ∧ Ext lo st r.2 ∧ TabAt r.2 q a b [(who, R, ca)] (ents L cb) (ca + 1) (cb + K.length) ∧ HeldOk lo r.2 who L ∧ RdRow r.2 R 2 K.length (cellsK K)
set_option maxRecDepth 20000 in
set_option maxHeartbeats 8000000 in
theorem take_any (st : St) (lo q a b : Nat) (ca cb : Nat) (T : TabAt st q a b [] [] ca cb) (hlo : lo ≤ q ∧ lo ≤ a ∧ lo ≤ b) (who : Int) (x : V) (K : List Wn) (hx : RdRow st x 2 K.length (cellsK K)) (h1 : 1 ≤ K.length) (h2 : K.length ≤ 1000) (hup : UpK K) (hxb : ∀ m, (∃ o k q, x = .sl m o k q) ∨ (∃ o k q, x = .sg m o k q) → m ≠ q) (nt : Nat) :
    Gd (lkF ⟨false, [], 0, nt⟩ 112 [.p q 0, .int .i64 who, x] st) (tkR st lo q a b who K ca cb) := by
  rw [lkF, Gd_addF Try.func112 rfl]
  have T0 := T
  obtain ⟨hq, ha, hb, hab, haq, hbq, ⟨t, ht, t0, t1⟩, gA, gB⟩ := T
  simp [evOp_call, sets, T.get_set]
  refine Gd.mono (ref_any st q a b [] [] ca cb T0 who (fun e h => by cases h) x K hx h1 h2 hup (fun r _ e h => by cases h) _) ?_
  rintro ⟨r, s1⟩ ⟨hr, x1⟩
  simp only at hr x1
  subst hr
  have T1 := T0.ext x1
  have hx1 := hx.ext x1
  obtain ⟨hq1, ha1, hb1, _, _, _, ⟨t', ht1, t01, t11⟩, gA1, gB1⟩ := T1
  simp [evOp_call, sets, T.get_set, loadE_eq, getC_eq, ht1, t01]
  refine ⟨by kernel_rfl, ?_⟩
  have hqf : ∀ m, ((∃ o k q', x = .sl m o k q') ∨ (∃ o k q', x = .sg m o k q')) → inF [(q, q + 1)] m = false := fun m h => by have := hxb m h; rw [inF_cons, if_neg (by omega)]; rfl
  rw [cxOf_callL [(q, q + 1)] (by kernel_rfl) (by kernel_rfl) (looseW_at 22 (.p q 0) (by simp [T.get_set]) (by kernel_rfl)) (fun y hy => by simp at hy; subst hy; rw [clashes_tmp']; simp [T.get_set]; exact hx.blkF hqf) (fun p hp => by simp at hp; subst hp; rw [isRo_cs ht1]; decide), forb_nil]
  simp only [List.append_nil]
  refine Gd_lift (R := fun v s' => OwnRow s1.nx s' v 2 K.length (cellsK K)) (Gd.mono (cloneW_any _ x K.length (cellsK K) (hx1.er hqf) (by omega) _) fun r h => ⟨h.2.1 (by omega), h.2.2.2⟩) ?_
  rintro R _ s2 hR k2 x2
  have hR2 := OwnRow.sub k2 hR
  clear hR k2
  have T2 := (T0.ext x1).ext x2
  have hx2 := hx1.ext x2
  have n2 : s1.nx ≤ s2.nx := x2.le
  have n1 : st.nx ≤ s1.nx := x1.le
  obtain ⟨hq2, ha2, hb2, _, _, _, ⟨t2, ht2, t02, t12⟩, gA2, gB2⟩ := T2
  simp [evOp_call, sets, T.get_set, loadE_eq, getC_eq]
  rw [cxOf_may rfl rfl (by kernel_rfl), forb_step (by kernel_rfl) rfl, mput_new map_w rfl (Nat.zero_le _) gA2 (fun e h => by cases h)]
  simp [evOp_call, sets, T.get_set, hx2.lenS]
  have kp := keep_mp (M' := mk ([] ++ [(who, R, ca)])) (c' := ca + 1) gA2
  have x02 : Ext st.nx st s2 := x1.trans (x2.mono n1)
  have xlo : Ext lo st ⟨s2.nx, s2.h.set a (.mp (mk [(who, R, ca)]) (ca + 1))⟩ := (x02.mono (by omega)).set (m := a) hlo.2.1 ha2 _
  refine Gd_loop (tkI st lo q a b who x K R ca cb) (fun en _ => muAt 29 K.length en) ?_ ?_
  · refine ⟨[], Nat.zero_le _, by simp, by simp [T.get_set], by simp [T.get_set], by simp [T.get_set], by simp [T.get_set], by simp [T.get_set], by show st.nx ≤ s2.nx; omega, xlo, ⟨hq2, ha2, hb2, hab, haq, hbq, ⟨t2, kp _ _ _ _ hq2 ht2, t02, t12⟩, T.get_set_same _ _ _, (T.get_set_ne _ _ hab).trans gB2⟩, ⟨fun p hp => (by cases hp), List.Pairwise.nil⟩, rd_keep hR2.rd (Nat.le_refl _) kp, rd_keep hx2 (Nat.le_refl _) kp⟩
  rintro en s ⟨L, hL, hLK, g0, g1, g27, g28, g29, hsn, hlos, TL, hH, hRs, hxs⟩
  by_cases hlt : L.length < K.length
  · have hlt' : (L.length : Int) < K.length := by omega
    have hwi := wrap_nat (n := L.length) (by omega)
    have TL0 := TL
    obtain ⟨hqs, has, hbs, _, _, _, ⟨t3, ht3, t03, t13⟩, gA3, gB3⟩ := TL
    obtain ⟨y, hy⟩ : ∃ y, K[L.length]? = some y := ⟨_, List.getElem?_eq_getElem hlt⟩
    obtain ⟨m1, o1, ty1, sz1, tr1, i1, b1, k1, l1, c1⟩ := hxs.idx (st := s) un164 io170 hlt
    have d1 : tr1.get o1 = some (.int .i64 y.1) := by simpa using c1 0 _ (by omega) (cellsK_get K L.length _ hy).1
    have d2 : tr1.get (o1 + 1) = some (.bool y.2) := by simpa using c1 1 _ (by omega) (cellsK_get K L.length _ hy).2
    have nq : ¬ s.nx = q := by omega
    have nb : ¬ s.nx = b := by omega
    have nq1 : ¬ s.nx + 1 = q := by omega
    have hno : ∀ e ∈ ents L cb, e.1 ≠ y.1 := fun e he => by
      obtain ⟨z, hz, hze⟩ := ents_key L cb e he
      exact hze ▸ Int.ne_of_lt (up_lt hup hLK hz hy)
    simp [evOp_call, T.get_set, g0, g1, g27, g28, g29, hlt', i1, loadE_eq, getC_eq, getsB_succ, getsB_zero, k1, d1, d2, newC_is, storeK_g, putB_eq, roT, sets]
    refine ⟨by kernel_rfl, ?_⟩
    simp [evOp_call, T.get_set, g0, g1, g27, g28, g29, loadE_eq, getC_eq, getsB_succ, getsB_zero, ht3, t13, nq]
    rw [cxOf_may rfl rfl (by kernel_rfl), forb_nil, look_no map_h rfl ((T.get_set_ne _ _ nb).trans gB3) hno zv_h]
    simp [evOp_call, T.get_set, g0, g1, g27, g28, g29, tupK, newC_is]
    rw [cxOf_store]
    rotate_left
    · kernel_rfl
    rw [forb_cons (by kernel_rfl) rfl]
    simp [evOp_call, T.get_set, g0, g1, g27, g28, g29, storeK_g, putB_eq, roT, sets, loadE_eq, getC_eq, getsB_succ, getsB_zero]
    obtain ⟨s4, hS4⟩ : ∃ s4 : St, s4 = ⟨s.nx + 1 + 1, (s.h.set s.nx (.cs 170 2 ((((T.lf.set 0 (V.int IntKind.i64 0)).set 1 (V.bool false)).set 0 (V.int IntKind.i64 y.1)).set 1 (V.bool y.2)))).set (s.nx + 1) (.cs 242 2 ((((T.lf.set 0 (V.c (.slice none 0 0))).set 1 (V.bool false)).set 0 (V.c (.slice none 0 0))).set 1 (V.bool false)))⟩ := ⟨_, rfl⟩
    have n4 : s4.nx = s.nx + 2 := by rw [hS4]
    have x4 : Ext s.nx s s4 := by rw [hS4]; exact ((Ext.refl _ _).new (Nat.le_refl _) _).new (Nat.le_succ _) _
    have q01 : ¬ s.nx + 1 = s.nx := by omega
    obtain ⟨tw, kw, tw0, tw1⟩ : ∃ tw, s4.h.get s.nx = some (.cs 170 2 tw) ∧ tw.get 0 = some (.int .i64 y.1) ∧ tw.get 1 = some (.bool y.2) := ⟨_, by rw [hS4]; exact (T.get_set_ne _ _ q01).trans (T.get_set_same _ _ _), by simp [T.get_set], by simp [T.get_set]⟩
    obtain ⟨th, kh, th0⟩ : ∃ th, s4.h.get (s.nx + 1) = some (.cs 242 2 th) ∧ th.get 0 = some (.c (.slice none 0 0)) := ⟨_, by rw [hS4]; exact T.get_set_same _ _ _, by simp [T.get_set]⟩
    rw [← hS4]
    have T4 := TL0.ext x4
    obtain ⟨hq4, ha4, hb4, _, _, _, ⟨t4, ht4, t04, t14⟩, gA4, gB4⟩ := T4
    refine Gd.mono (bs_nil s4 who _) ?_
    rintro _ rfl
    simp [evOp_call, T.get_set, g0, g1, g27, g28, g29, tupK, loadE_eq, getC_eq, ht4, t14]
    refine ⟨by kernel_rfl, ?_⟩
    simp [evOp_call, T.get_set, g0, g1, g27, g28, g29, tupK, loadE_eq, getC_eq, ht4, t14, kw, tw0, kh, th0]
    refine evOp_build1 (v := .int .i64 who) (cs := [.int .i64 who]) (fun k => el76 k) (fun k => ze3 k) rfl (by omega) (by simp [T.get_set]) (fun k => rfl) rfl ?_
    have ha5 := AppRow.built (b := s4.nx) (n := 1) (st := s4) (el := 3) (vs := [.int .i64 who]) (Nat.le_refl _) (by decide) rfl
    have x5 : Ext s4.nx s4 ⟨s4.nx + 1, s4.h.set s4.nx (.cs 3 1 (sets [.int .i64 who] 0 .lf))⟩ := (Ext.refl _ _).new (Nat.le_refl _) _
    simp [evOp_call, T.get_set, g0, g1, g27, g28, g29]
    generalize hS5 : (⟨s4.nx + 1, s4.h.set s4.nx (.cs 3 1 (sets [.int .i64 who] 0 .lf))⟩ : St) = s5 at ha5 x5 ⊢
    have n5 : s5.nx = s4.nx + 1 := by rw [← hS5]
    have ht5 := (x5.keep q hq4).trans ht4
    have kw5 := (x5.keep s.nx (by omega)).trans kw
    have hff : ∀ m, m ≠ q → m ≠ s.nx → inF [(q, q + 1), (s.nx, s.nx + 1), (s.nx, s.nx + 1)] m = false := fun m h h' => by rw [inF_cons, if_neg (by omega), inF_cons, if_neg (by omega), inF_cons, if_neg (by omega)]; rfl
    simp only [← n5]
    rw [cxOf_callL [(q, q + 1), (s.nx, s.nx + 1), (s.nx, s.nx + 1)] (by kernel_rfl) (by kernel_rfl) (looseW_at3 49 51 9 (.p q 1) (.p s.nx 0) (.p s.nx 0) (by simp [T.get_set]) (by simp [T.get_set]) (by simp [T.get_set]) (by kernel_rfl)) (fun y hy => by simp at hy; rcases hy with rfl | rfl | rfl <;> (rw [clashes_tmp']; simp [T.get_set, blkOf]); exact hff _ (by omega) (by omega)) (fun p hp => by simp at hp; rcases hp with rfl | rfl <;> first | (rw [isRo_cs ht5]; decide) | (rw [isRo_cs kw5]; decide)), forb_cons (by kernel_rfl) rfl]
    simp only [List.append_nil]
    refine Gd_lift (R := fun v s' => OwnRow s5.nx s' v 1 1 [.int .i64 who]) (Gd.mono (ins_nil _ (.sl s4.nx 0 1 1) who (ha5.rd.er fun m hm => by
      rcases hm with ⟨_, _, _, e⟩ | ⟨_, _, _, e⟩
      · injection e with e; subst e; exact hff _ (by omega) (by omega)
      · cases e) _) fun r h => h) ?_
    rintro Y _ s6 hY k6 x6
    have hY6 := OwnRow.sub k6 hY
    clear hY k6
    have n6 : s5.nx ≤ s6.nx := x6.le
    have xs6 : Ext s.nx s s6 := (x4.trans (x5.mono (by omega))).trans (x6.mono (by omega))
    have kw6 := (x6.keep s.nx (by omega)).trans kw5
    have hlm : ∀ (b' nx : Nat), inF ((0, s.nx) :: (s.nx + 1, nx) :: forb b' (rsOf [(10, s4.nx, s5.nx)] 11 s5.nx s6.nx) []) s.nx = false := fun b' nx => inF_lds (rsOf_lt (fun e h => by simp at h; subst h; show s.nx < s4.nx; omega) (by omega))
    have T6 := TL0.ext xs6
    have T60 := T6
    obtain ⟨hq6, ha6, hb6, _, _, _, ⟨t6, ht6, t06, t16⟩, gA6, gB6⟩ := T6
    obtain ⟨_, ⟨_, hz⟩ | ⟨mY, tyY, trY, rfl, hY1, hY2, hY3, hY4, hY5⟩⟩ := hY6
    · omega
    simp [evOp_call, T.get_set, g0, g1, g27, g28, g29, loadE_eq, getC_eq, kw6, tw1, hlm]
    rw [cxOf_may rfl rfl (by kernel_rfl), forb_step (by kernel_rfl) (forb_cons (by kernel_rfl) rfl), mput_new map_h rfl (Nat.zero_le _) gB6 hno]
    simp [evOp_call, T.get_set, g0, g1, g27, g28, g29, hwi]
    have kp6 := keep_mp (M' := mk (ents L cb ++ [(y.1, .g [.sg mY 0 1 1, .bool y.2], cb + L.length)])) (c' := cb + L.length + 1) gB6
    have hle : (L ++ [(y, mY)]).length = L.length + 1 := by simp
    have hmp : (L ++ [(y, mY)]).map Prod.fst = K.take (L ++ [(y, mY)]).length := by rw [hle, List.take_add_one, hy, List.map_append, hLK]; rfl
    have hHn : HeldOk lo ⟨s6.nx, s6.h.set b (.mp (mk (ents L cb ++ [(y.1, .g [.sg mY 0 1 1, .bool y.2], cb + L.length)])) (cb + L.length + 1))⟩ who (L ++ [(y, mY)]) := by
      have h0 := (hH.keep xs6.le fun m ty sz t h hh => (xs6.keep m h).trans hh).keep (s' := ⟨s6.nx, s6.h.set b (.mp (mk (ents L cb ++ [(y.1, .g [.sg mY 0 1 1, .bool y.2], cb + L.length)])) (cb + L.length + 1))⟩) (Nat.le_refl _) kp6
      refine ⟨fun p hp => ?_, ?_⟩
      · rcases List.mem_append.1 hp with hp | hp
        · exact h0.1 p hp
        · simp at hp
          subst hp
          exact ⟨by show lo ≤ mY; omega, hY2, tyY, trY, kp6 _ _ _ _ hY2 hY3, hY4, hY5 0 _ rfl⟩
      · rw [List.pairwise_append]
        refine ⟨hH.2, List.pairwise_singleton _ _, fun p hp r hr => ?_⟩
        simp at hr
        subst hr
        have := (hH.1 p hp).2.1
        show p.2 < mY
        omega
    refine ⟨⟨L ++ [(y, mY)], by rw [hle]; exact hlt, hmp, by simp [T.get_set, g0], by simp [T.get_set, g1], by simp [T.get_set, g27], by simp [T.get_set, g28], by simp [T.get_set], by show st.nx ≤ s6.nx; omega, (hlos.trans (xs6.mono (by omega))).set (m := b) hlo.2.2 hb6 _, ⟨hq6, ha6, hb6, hab, haq, hbq, ⟨t6, kp6 _ _ _ _ hq6 ht6, t06, t16⟩, (T.get_set_ne _ _ (Ne.symm hab)).trans gA6, by rw [ents_snoc, hle]; exact T.get_set_same _ _ _⟩, hHn, rd_keep (hRs.ext xs6) (Nat.le_refl _) kp6, rd_keep (hxs.ext xs6) (Nat.le_refl _) kp6⟩, muAt_lt g29 (by simp [T.get_set]) hlt⟩
  · have hLe : L.length = K.length := by omega
    have hnl : ¬ (L.length : Int) < K.length := by omega
    simp [evOp_call, T.get_set, g0, g1, g27, g28, g29, hnl, sets]
    refine ⟨rfl, L, R, by rw [hLK, hLe, List.take_length], hsn, hlos, by rw [← hLe]; exact TL, hH, hRs⟩
end Go.Proofs.Ytdoennkmcloalaa

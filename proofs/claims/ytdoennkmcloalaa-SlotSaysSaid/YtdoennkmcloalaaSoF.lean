/-
  The walk of SlotNames.
-/
import Derived.Test.YtdoennkmcloalaaSoE
set_option linter.unusedSimpArgs false
set_option linter.unusedVariables false
namespace Go.Proofs.Ytdoennkmcloalaa
open Go.RowKit Ev
def sameSoI (st : St) (x y : V) (n : Nat) (a b : List (BitVec 64)) (e : Env) (s : St) : Prop := ∃ j, j ≤ n ∧ e.get 0 = some x ∧ e.get 1 = some y ∧ e.get 5 = some (.int .i64 (j : Int)) ∧ a.take j = b.take j ∧ s = st
theorem sameSo_take {a b : List (BitVec 64)} {j : Nat} {p q : BitVec 64} (h : a.take j = b.take j) (ha : a[j]? = some p) (hb : b[j]? = some q) : a.take (j + 1) = b.take (j + 1) ↔ p = q := by
  rw [List.take_add_one, List.take_add_one, ha, hb, h]
  simp
theorem sameSo (st : St) (x y : V) (a b : List (BitVec 64)) (hx : RdRow st x 1 a.length (wv a)) (hy : RdRow st y 1 b.length (wv b)) (hn : a.length ≤ 100000) (nt : Nat) :
    Gd (callL Try.prog ⟨false, [], 0, nt⟩ 55 [x, y] st) fun r => r = (.bool (decide (a = b)), st) := by
  rw [Gd_callL Try.func55 rfl]
  by_cases hk : a.length = b.length
  · have hk' : (a.length : Int) = b.length := by omega
    simp [evOp_call, sets, T.get_set, hx.lenS, hy.lenS, hk']
    refine Gd_loop (sameSoI st x y a.length a b) (fun e _ => muAt 5 a.length e) ?_ ?_
    · exact ⟨0, Nat.zero_le _, by simp [T.get_set], by simp [T.get_set], by simp [T.get_set], by simp, rfl⟩
    · rintro e s ⟨j, hj, g0, g1, g5, hab, rfl⟩
      by_cases hlt : j < a.length
      · have hlt' : (j : Int) < a.length := by omega
        have hw := wrap_nat (n := j) (by omega)
        obtain ⟨p, hp⟩ : ∃ p, a[j]? = some p := ⟨_, List.getElem?_eq_getElem (by omega)⟩
        obtain ⟨q, hq⟩ : ∃ q, b[j]? = some q := ⟨_, List.getElem?_eq_getElem (by omega)⟩
        obtain ⟨m1, o1, ty1, sz1, t1, i1, b1, k1, l1, c1⟩ := hx.idx (st := s) un23 io24 hlt
        obtain ⟨m2, o2, ty2, sz2, t2, i2, b2, k2, l2, c2⟩ := hy.idx (st := s) un23 io24 (show j < b.length by omega)
        have d1 : t1.get o1 = some (wd p) := c1 0 _ (by omega) (by simpa using wv_get hp)
        have d2 : t2.get o2 = some (wd q) := c2 0 _ (by omega) (by simpa using wv_get hq)
        simp [T.get_set, g0, g1, g5, hx.lenS, hlt', i1, i2, loadE_eq, getC_eq, k1, k2, d1, d2]
        refine ⟨by kernel_rfl, ?_⟩
        by_cases hpq : p = q
        · subst hpq
          simp [T.get_set, g0, g1, g5, hw]
          exact ⟨⟨j + 1, by omega, by simp [T.get_set, g0], by simp [T.get_set, g1], by simp [T.get_set], (sameSo_take hab hp hq).2 rfl, rfl⟩, muAt_lt g5 (by simp [T.get_set]) hlt⟩
        · have hne : ¬ a = b := fun e => by subst e; rw [hp] at hq; injection hq with hq; exact hpq hq
          simp [T.get_set, hpq, hne]
      · obtain rfl : j = a.length := by omega
        have : a = b := by rw [← List.take_length (l := a), ← List.take_length (l := b), ← hk]; exact hab
        simp [T.get_set, g0, g1, g5, hx.lenS, this]
  · have : ¬ a = b := fun e => by subst e; omega
    have hk' : ¬ (a.length : Int) = b.length := by omega
    simp [evOp_call, sets, T.get_set, hx.lenS, hy.lenS, hk, hk', this]

theorem bin_beqS (st : St) (x y : Operand) (a b : Bool) : binE Try.prog st .eql 4 x y (.bool a) (.bool b) = some (.bool (decide (a = b)), st) := by
  cases a <;> cases b <;> kernel_rfl
def ltS (q : Nat) (rs : List (Nat × Nat × Nat)) : Prop := ∀ e ∈ rs, q < e.2.1
theorem ltS_nil (q : Nat) : ltS q [] := fun e he => by cases he
theorem ltS_rs {q j u v : Nat} {rs : List (Nat × Nat × Nat)} (h : ltS q rs) (h2 : q < u) : ltS q (rsOf rs j u v) := rsOf_lt h h2
theorem ltS_inF {q b m nx : Nat} {rs : List (Nat × Nat × Nat)} (h : ltS q rs) (hm : m ≤ q) : inF ((0, m) :: (m + 1, nx) :: forb b rs []) m = false := inF_lds fun e he => Nat.lt_of_le_of_lt hm (h e he)
theorem soPut_inj {a b : So} (ha : soGood a) (hb : soGood b) (h1 : ∀ x ∈ a.l, x < 256) (h2 : ∀ x ∈ b.l, x < 256) : soPut a = soPut b ↔ (a.n = b.n ∧ a.l = b.l) := by
  constructor
  · intro h
    have e1 := soGet_put ha h1
    rw [h, soGet_put hb h2] at e1
    injection e1 with e1
    rw [e1]; exact ⟨rfl, rfl⟩
  · rintro ⟨e1, e2⟩
    have : a = b := by cases a; cases b; simp only at e1 e2; rw [e1, e2]
    rw [this]
theorem SlRow.erR {b n : Nat} {st : St} {x : V} {L : List (BitVec 64)} (h : SlRow b st x n L) {l : List (Nat × Nat)} (hm : ∀ m, b ≤ m → inF l m = false) : RdRow (er l st) x 1 n (wv L) := by
  obtain ⟨h1, m, ty, t, rfl, h2, h3, h4, h5, h6⟩ := h
  refine RdRow.er (SlRow.rd ⟨h1, m, ty, t, rfl, h2, h3, h4, h5, h6⟩) ?_
  rintro m' (⟨o, k, q, e⟩ | ⟨o, k, q, e⟩)
  · injection e with e; subst e; exact hm _ h2
  · cases e
theorem SlRow.clash {b n : Nat} {st : St} {x : V} {L : List (BitVec 64)} (h : SlRow b st x n L) {l : List (Nat × Nat)} (hm : ∀ m, b ≤ m → inF l m = false) : (blkOf x).elim false (inF l) = false := by
  obtain ⟨h1, m, ty, t, rfl, h2, h3, h4, h5, h6⟩ := h
  exact hm m h2
set_option maxRecDepth 20000 in
set_option maxHeartbeats 8000000 in
theorem g_SlotNames (st : St) (a b : So) (ha : ∀ x ∈ a.l, x < 256) (hb : ∀ x ∈ b.l, x < 256) :
    Gd (lawX Try.prog (callL Try.prog) 50 ⟨false, [], 0, 0⟩ 7 [soV a, soV b] st) fun r => r.1 = .bool true := by
  rw [Gd_lawX Try.func7 rfl]
  have acell : ∀ (s : So) (k : List V → Res), cellsOf (soV s) k = k [.int .i64 s.n, .s s.l] := fun _ k => rfl
  have hsv : ∀ s : So, V.g [.int .i64 s.n, .s s.l] = soV s := fun _ => rfl
  have q1 : ¬ st.nx + 1 = st.nx := by omega
  have e2 : ∀ v w, Ext st.nx st ⟨st.nx + 1 + 1, (st.h.set st.nx v).set (st.nx + 1) w⟩ := fun v w => (bx_ext st v).new (Nat.le_succ _) w
  refine Gd_seqJ (JE fun e s => e.get 2 = some (.p st.nx 0) ∧ e.get 3 = some (.p (st.nx + 1) 0) ∧ s.h.get st.nx = some (.cs 63 2 ((T.lf.set 0 (.int .i64 a.n)).set 1 (.s a.l))) ∧ s.h.get (st.nx + 1) = some (.cs 63 2 ((T.lf.set 0 (.int .i64 b.n)).set 1 (.s b.l))) ∧ st.nx + 2 ≤ s.nx) ?_ ?_
  · simp [acell, evOp_call, sets, T.get_set, newC_is]
    exact ⟨_, _, rfl, by simp [T.get_set], by simp [T.get_set], by simp [T.get_set], by simp [T.get_set], Nat.le_refl _⟩
  rintro _ ⟨e, s, rfl, g2, g3, kA, kB, hn⟩
  rw [seqC_n]
  have hwu : wantK true (some V.u) = false := rfl
  by_cases c1 : 60 < a.l.length
  · have c1' : (60 : Int) < a.l.length := by omega
    simp [evOp_call, T.get_set, g2, g3, loadE_eq, getC_eq, getsB_succ, getsB_zero, kA, kB, len_str un9, c1, c1', oracF_cons]
  have c1' : ¬ (60 : Int) < a.l.length := by omega
  by_cases c2 : 60 < b.l.length
  · have c2' : (60 : Int) < b.l.length := by omega
    simp [evOp_call, T.get_set, g2, g3, loadE_eq, getC_eq, getsB_succ, getsB_zero, kA, kB, len_str un9, c1, c1', c2, c2', oracF_cons]
  have c2' : ¬ (60 : Int) < b.l.length := by omega
  simp [evOp_call, T.get_set, g2, g3, loadE_eq, getC_eq, getsB_succ, getsB_zero, kA, kB, len_str un9, c1, c1', c2, c2', oracF_cons]
  rw [hsv]
  refine Gd.mono (sgood_any s a ha _) ?_
  rintro ⟨r, s1⟩ ⟨hr, x1⟩
  simp only at hr x1
  subst hr
  have n1 : st.nx + 1 < s1.nx := Nat.lt_of_lt_of_le hn x1.le
  have kA1 := (x1.keep _ (by omega)).trans kA
  have kB1 := (x1.keep _ (by omega)).trans kB
  by_cases hga : soGood a
  case neg => simp [evOp_call, T.get_set, g2, g3, hga]
  simp [evOp_call, T.get_set, g2, g3, loadE_eq, getC_eq, getsB_succ, getsB_zero, kA1, kB1, hga, oracF_cons]
  rw [hsv]
  refine Gd.mono (sgood_any s1 b hb _) ?_
  rintro ⟨r, s2⟩ ⟨hr, x2⟩
  simp only at hr x2
  subst hr
  have n2 : st.nx + 1 < s2.nx := Nat.lt_of_lt_of_le n1 x2.le
  have kA2 := (x2.keep _ (by omega)).trans kA1
  have kB2 := (x2.keep _ (by omega)).trans kB1
  by_cases hgb : soGood b
  case neg => simp [evOp_call, T.get_set, g2, g3, hgb]
  simp [evOp_call, T.get_set, g2, g3, loadE_eq, getC_eq, getsB_succ, getsB_zero, kA2, kB2, hgb, oracF_cons]
  refine ⟨by kernel_rfl, ?_⟩
  have hl : ∀ (m b nx : Nat) (rs : List (Nat × Nat × Nat)), m ≤ st.nx + 1 → ltS (st.nx + 1) rs → inF ((0, m) :: (m + 1, nx) :: forb b rs []) m = false := fun m b nx rs hm hr => ltS_inF hr hm
  have hl0 : ∀ m nx : Nat, inF [(0, m), (m + 1, nx)] m = false := fun m nx => by rw [inF_cons, if_neg (by omega), inF_cons, if_neg (by omega)]; rfl
  have h0 : st.nx ≤ st.nx + 1 := by omega
  rw [hsv, cxOf_callL [(st.nx + 1, st.nx + 1 + 1), (st.nx, st.nx + 1), (st.nx + 1, st.nx + 1 + 1)] (by kernel_rfl) (by kernel_rfl) (looseW_at2 2 3 (.p st.nx 0) (.p (st.nx + 1) 0) (by simp [T.get_set, g2]) (by simp [T.get_set, g3]) (by kernel_rfl)) (fun x hx => by simp at hx; subst hx; simp [clashes_tmp, T.get_set, soV, blkOf]) (fun p hp => by simp at hp; rcases hp with rfl | rfl | rfl <;> first | (rw [isRo_cs kA2]; decide) | (rw [isRo_cs kB2]; decide)), forb_nil]
  simp only [List.append_nil]
  refine Gd_lift (R := fun v s => SlRow s2.nx s v 8 (soPut a)) (Gd.mono (sput_any _ a ha _) fun r h => ⟨h.2.1 hga, h.2.2⟩) ?_
  rintro z _ s3 hz k3 x3
  have hz3 := SlRow.sub k3 hz
  clear hz k3
  have n3 : st.nx + 1 < s3.nx := Nat.lt_of_lt_of_le n2 x3.le
  have kA3 := (x3.keep _ (by omega)).trans kA2
  have kB3 := (x3.keep _ (by omega)).trans kB2
  simp (maxDischargeDepth := 12) [evOp_call, T.get_set, g2, g3, loadE_eq, getC_eq, getsB_succ, getsB_zero, kA3, kB3, oracF_cons, hl, hl0, h0, ltS_nil, ltS_rs, n1, n2, n3]
  rw [hsv, cxOf_callL [(st.nx, st.nx + 1), (st.nx + 1, st.nx + 1 + 1)] (by kernel_rfl) (by kernel_rfl) (looseW_at2 2 3 (.p st.nx 0) (.p (st.nx + 1) 0) (by simp [T.get_set, g2]) (by simp [T.get_set, g3]) (by kernel_rfl)) (fun x hx => by simp at hx; subst hx; simp [clashes_tmp, T.get_set, soV, blkOf]) (fun p hp => by simp at hp; rcases hp with rfl | rfl <;> first | (rw [isRo_cs kA3]; decide) | (rw [isRo_cs kB3]; decide)), forb_step (by kernel_rfl) rfl]
  simp only [List.append_nil]
  refine Gd_lift (R := fun v s => SlRow s3.nx s v 8 (soPut b)) (Gd.mono (sput_any _ b hb _) fun r h => ⟨h.2.1 hgb, h.2.2⟩) ?_
  rintro z2 _ s4 hz k4 x4
  have hz4 := SlRow.sub k4 hz
  clear hz k4
  have n4 : st.nx + 1 < s4.nx := Nat.lt_of_lt_of_le n3 x4.le
  have kA4 := (x4.keep _ (by omega)).trans kA3
  have kB4 := (x4.keep _ (by omega)).trans kB3
  have hz34 := hz3.ext x4
  simp (maxDischargeDepth := 12) [evOp_call, T.get_set, g2, g3, loadE_eq, getC_eq, getsB_succ, getsB_zero, kA4, kB4, oracF_cons, hl, hl0, h0, ltS_nil, ltS_rs, n1, n2, n3, n4]
  have hff : ∀ m, s2.nx ≤ m → inF [(st.nx, st.nx + 1), (st.nx + 1, st.nx + 1 + 1)] m = false := fun m h => by rw [inF_cons, if_neg (by omega), inF_cons, if_neg (by omega)]; rfl
  rw [cxOf_callL [(st.nx, st.nx + 1), (st.nx + 1, st.nx + 1 + 1)] (by kernel_rfl) (by kernel_rfl) (looseW_at2 2 3 (.p st.nx 0) (.p (st.nx + 1) 0) (by simp [T.get_set, g2]) (by simp [T.get_set, g3]) (by kernel_rfl)) (fun x hx => by simp at hx; rcases hx with rfl | rfl <;> (rw [clashes_tmp']; simp [T.get_set]; first | exact SlRow.clash hz34 hff | exact SlRow.clash hz4 fun m h => hff m (Nat.le_trans x3.le h))) (fun p hp => by simp at hp; rcases hp with rfl | rfl <;> first | (rw [isRo_cs kA4]; decide) | (rw [isRo_cs kB4]; decide)), forb_step (by kernel_rfl) (forb_step (by kernel_rfl) rfl)]
  simp only [List.append_nil]
  refine Gd_lift0 (sameSo _ z z2 (soPut a) (soPut b) (hz34.1.symm ▸ hz34.erR hff) (hz4.1.symm ▸ hz4.erR fun m h => hff m (Nat.le_trans x3.le h)) (by rw [hz34.1]; omega) _) ?_
  simp (maxDischargeDepth := 12) [evOp_call, T.get_set, g2, g3, loadE_eq, getC_eq, getsB_succ, getsB_zero, kA4, kB4, oracF_cons, hl, hl0, h0, ltS_nil, ltS_rs, n1, n2, n3, n4]
  rw [eqlSlot _ _ _ _ _ ha hb]
  simp [T.get_set, oracF_cons]
  rw [bin_beqS]
  have hsp := soPut_inj hga hgb ha hb
  by_cases h : soPut a = soPut b
  · have h2 := hsp.1 h
    simp [T.get_set, h, h2]
  · have h2 : ¬ (a.n = b.n ∧ a.l = b.l) := fun x => h (hsp.2 x)
    have h3 := Decidable.not_and_iff_not_or_not.1 h2
    simp [T.get_set, h, h2]
    exact h3
theorem soV_two {st : St} {x : Nat → V} {s : Int × List Nat} (h : slC.at' st x s) : V.g [x 0, x 1] = soV ⟨s.1, s.2⟩ := by
  obtain ⟨h0, h1⟩ := h
  have e0 : x 0 = .int .i64 s.1 := h0.1
  have e1 : x 1 = .s s.2 := h1.1
  rw [e0, e1]; rfl
theorem w_SlotNames (a b : Int × List Nat) (W : World) (cs : Array Value) (hlen : cs.toList.length = 2) (hs : slC.rel W (fun j => cs.toList[j]?.getD default) a) (ds : Array Value) (hlend : ds.toList.length = 2) (ht : slC.rel W (fun j => ds.toList[j]?.getD default) b) :
    Calls Try.prog 7 #[.agg cs, .agg ds] W fun e W' => e = .returned (.bool true) ∧ Below W.heap.size W W' := by
  obtain ⟨s1, r1, x, b1, l1, q1, e1, a1⟩ := slC.enter (Begin.zero W) hs
  obtain ⟨s2, r2, y, b2, l2, q2, e2, a2⟩ := slC.enter b1 ht
  have h1 : Rel r2 (soV ⟨a.1, a.2⟩) (.agg cs) := by rw [← soV_two a1]; exact Rel.mono l2 _ _ (rel_agg hlen q1)
  have h2 : Rel r2 (soV ⟨b.1, b.2⟩) (.agg ds) := by rw [← soV_two a2]; exact rel_agg hlend q2
  exact law_calls (lawX_sound namesOkO mixesO (callL_both namesOkO mixesO) Try.func50 rfl slotAwake) b2 (.cons h1 (.cons h2 .nil)) (g_SlotNames s2 ⟨a.1, a.2⟩ ⟨b.1, b.2⟩ a1.2.2.1 a2.2.2.1)
end Go.Proofs.Ytdoennkmcloalaa

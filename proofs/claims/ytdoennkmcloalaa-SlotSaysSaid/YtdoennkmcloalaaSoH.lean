/-
  The document's contracts: a slot's words.
-/
import Derived.Test.YtdoennkmcloalaaSoG
import Derived.Test.YtdoennkmcloalaaEx
set_option linter.unusedSimpArgs false
set_option linter.unusedVariables false
namespace Go.Proofs.Ytdoennkmcloalaa
open Go.RowKit Ev
theorem sconvB {c : Cx} {st : St} {l : List Nat} (hl : l.length ≤ 1000000) : convE Try.prog c st 9 22 (.s l) = some (.sg st.nx 0 l.length 1, ⟨st.nx + 1, st.h.set st.nx (.cs unT l.length (sets (W.bv (bI l)) 0 .lf))⟩) := by
  have hs : small Try.prog 5 l.length = true := infoOk_small io5 (by omega)
  have e : convE Try.prog c st 9 22 (.s l) = newC st unT (l.map fun x => .c (.int .u8 (.ofNat x))) fun n st => fn l.length fun len => some (.sg n 0 len 1, st) := by
    unfold convE
    rw [un22, un9]
    simp only [un5, hs]
  have hm : (l.map fun x => V.c (.int .u8 (.ofNat x))) = W.bv (bI l) := by simp [W.bv, bI]
  rw [e, hm, newC_is]
  have : (W.bv (bI l)).length = l.length := by simp [bI]
  rw [this, fn_eq]
theorem own_bytes (st : St) (l : List Nat) : OwnRow st.nx ⟨st.nx + 1, st.h.set st.nx (.cs unT l.length (sets (W.bv (bI l)) 0 .lf))⟩ (.sg st.nx 0 l.length 1) 1 l.length (W.bv (bI l)) := by
  have hl : (W.bv (bI l)).length = l.length := by simp [bI]
  refine ⟨by rw [hl, Nat.mul_one], .inr ⟨st.nx, unT, _, rfl, Nat.le_refl _, Nat.lt_succ_self _, by rw [Nat.mul_one]; exact T.get_set_same _ _ _, by decide, fun j v hj => ?_⟩⟩
  have hlt : j < (W.bv (bI l)).length := by
    obtain ⟨h, _⟩ := List.getElem?_eq_some_iff.1 hj
    exact h
  rw [get_sets, if_pos ⟨Nat.zero_le _, by omega⟩]
  exact hj
theorem rowFrom_own {b n z : Nat} {st : St} {x : V} {l : List V} (h : OwnRow b st x z n l) : RowFrom b x := by
  obtain ⟨_, ⟨rfl, _⟩ | ⟨m, ty, t, rfl, h2, _⟩⟩ := h
  · exact ⟨fun _ _ _ _ e => (by cases e), fun _ _ _ _ e => (by cases e)⟩
  · exact ⟨fun _ _ _ _ e => (by injection e with e; subst e; exact h2), fun _ _ _ _ e => (by cases e)⟩
theorem rowFrom_sl {b n : Nat} {st : St} {x : V} {L : List (BitVec 64)} (h : SlRow b st x n L) : RowFrom b x := by
  obtain ⟨_, m, ty, t, rfl, h2, _⟩ := h
  exact ⟨fun _ _ _ _ e => (by cases e), fun _ _ _ _ e => (by injection e with e; subst e; exact h2)⟩
theorem rowFrom_nil (b : Nat) : RowFrom b (.c (.slice none 0 0)) := ⟨fun _ _ _ _ e => (by cases e), fun _ _ _ _ e => (by cases e)⟩
theorem rep_zeroB (n : Nat) : rep [V.int .u8 0] n = W.bv (List.replicate n 0) := by
  induction n with
  | zero => rfl
  | succ n ih => show [V.int .u8 0] ++ rep [V.int .u8 0] n = _; rw [ih]; rfl
theorem padB_bv (l : List Nat) : W.bv (bI l) ++ rep [V.int .u8 0] (40 - l.length) = W.bv (padB l) := by rw [rep_zeroB]; simp [W.bv, padB]
theorem forb_no {b i x y : Nat} {l : List (Nat × Nat)} (h : Nat.testBit b i = false) : forb b [(i, x, y)] l = (x, y) :: l := by
  show (match Nat.testBit b i with | true => l | false => (x, y) :: l) = (x, y) :: l
  rw [h]
theorem OwnRow.inL {b n z : Nat} {st : St} {x : V} {l : List V} (h : OwnRow b st x z n l) : ∀ m, rowIn x m → b ≤ m ∧ m < st.nx := by
  obtain ⟨_, ⟨rfl, _⟩ | ⟨m, ty, t, rfl, h2, h3, _⟩⟩ := h
  · rintro m (⟨_, _, _, e⟩ | ⟨_, _, _, e⟩) <;> cases e
  · rintro m' (⟨_, _, _, e⟩ | ⟨_, _, _, e⟩)
    · cases e
    · injection e with e; subst e; exact ⟨h2, h3⟩
theorem OwnRow.clash {b n z : Nat} {st : St} {x : V} {L : List V} (h : OwnRow b st x z n L) {l : List (Nat × Nat)} (hf : ∀ m, b ≤ m → m < st.nx → inF l m = false) : (blkOf x).elim false (inF l) = false := by
  obtain ⟨_, ⟨rfl, _⟩ | ⟨m, ty, t, rfl, h2, h3, _⟩⟩ := h
  · rfl
  · exact hf m h2 h3
/-- calls: PutSlot's own are run with what stands beside them taken away -/
noncomputable def soF1 : CallF := addF Try.prog (callL Try.prog) 57
theorem soF1_ne {g : Nat} (h : Nat.beq g 57 = false) (c : Cx) (args : List V) (st : St) : soF1 c g args st = callL Try.prog c g args st := addF_ne _ _ h _ _ _
set_option maxRecDepth 20000 in
set_option maxHeartbeats 8000000 in
theorem rputS_any (st : St) (s : So) (hb : ∀ b ∈ s.l, b < 256) (hn : s.l.length ≤ 1000000) (nt : Nat) : Gd (soF1 ⟨false, [], 0, nt⟩ 57 [soV s] st) fun r => RdRow r.2 r.1 1 (soPut s).length (wv (soPut s)) ∧ RowFrom st.nx r.1 ∧ Ext st.nx st r.2 := by
  rw [soF1, Gd_addF Try.func57 rfl]
  have hcell : ∀ k : List V → Res, cellsOf (soV s) k = k [.int .i64 s.n, .s s.l] := fun k => rfl
  have hsv : V.g [.int .i64 s.n, .s s.l] = soV s := rfl
  have hbx := fun v => bx_ext st v
  simp [hcell, evOp_call, sets, T.get_set, newC_is, loadE_eq, getC_eq, getsB_succ, getsB_zero]
  rw [hsv]
  refine Gd.mono (rgoodS_any _ s hn _) ?_
  rintro ⟨r, s1⟩ ⟨hr, x1⟩
  simp only at hr x1
  subst hr
  have l1 : st.nx < s1.nx := x1.le
  have hs1 : Ext st.nx st s1 := (bx_ext st _).trans (x1.mono (Nat.le_succ _))
  have k0 : s1.h.get st.nx = _ := (x1.keep _ (Nat.lt_succ_self _)).trans (T.get_set_same _ _ _)
  by_cases hg : soGood s
  case neg =>
    simp [evOp_call, T.get_set, hg, soPut_bad hg]
    exact ⟨(OwnRow.nil 0 s1 1).rd, rowFrom_nil _, hs1⟩
  by_cases h0 : s.n = 0
  · obtain ⟨_, hp⟩ := soPut_none hg h0
    simp [evOp_call, T.get_set, hg, loadE_eq, getC_eq, k0, h0]
    refine Gd_make (i := .i64) (i' := .i64) (n := 8) (q := 8) (fun k => el23 k) io24 (fun k => ze24 k) rfl rfl (Nat.le_refl _) (by omega) ?_
    have hm := SlRow.made (b := st.nx) (n := 8) (st := s1) (el := 24) (by omega) (by decide)
    simp [evOp_call, T.get_set]
    rw [hp]
    exact ⟨hm.rd, rowFrom_sl hm, hs1.new (by omega) _⟩
  obtain ⟨hf, hp⟩ := soPut_full hg h0
  have hn40 : s.l.length ≤ 40 := hf.2.1.2
  have hn1 : 1 ≤ s.l.length := hf.2.1.1
  have q0 : ¬ s1.nx = st.nx := by omega
  have hw : IntKind.i64.wrap (40 - (s.l.length : Int)) = ((40 - s.l.length : Nat) : Int) := by rw [show (40 - (s.l.length : Int)) = ((40 - s.l.length : Nat) : Int) by omega]; exact wrap_in (by omega) (by omega)
  simp [evOp_call, T.get_set, hg, loadE_eq, getC_eq, k0, q0, h0, sconvB hn, len_str un9, hw]
  have hob := own_bytes s1 s.l
  have hs2 : ∀ v, Ext st.nx st ⟨s1.nx + 1, s1.h.set s1.nx v⟩ := fun v => hs1.new (by omega) v
  refine Gd_appendMk un22 un3 io5 (zs := [.int .u8 0]) (fun k => ze5 k) rfl hob (by omega) (Nat.le_succ _) (by decide) (by omega) ?_
  intro z s2 hz x2 _ _
  rw [padB_bv, show s.l.length + (40 - s.l.length) = 40 by omega] at hz
  have k2 := (x2.keep st.nx (by omega)).trans ((T.get_set_ne _ _ (by omega)).trans k0)
  have n2 : st.nx < s2.nx := by have := x2.le; simp only at this; omega
  simp [evOp_call, T.get_set, loadE_eq, getC_eq, k2, len_str un9]
  refine ⟨by kernel_rfl, ?_⟩
  refine Gd_buildW (vs := [wd (BitVec.ofInt 64 s.n), wd (BitVec.ofNat 64 s.l.length)]) (fun k => el23 k) (fun k => ze24 k) rfl (by simp [T.get_set]) (by simp) rfl rfl (by omega) ?_
  have ha := AppRow.built (b := s1.nx) (n := 2) (st := s2) (el := 24) (vs := [wd (BitVec.ofInt 64 s.n), wd (BitVec.ofNat 64 s.l.length)]) (by have := x2.le; simp only at this; omega) (by decide) rfl
  have hx3 : Ext s2.nx s2 ⟨s2.nx + 1, s2.h.set s2.nx (.cs 24 2 (sets [wd (BitVec.ofInt 64 s.n), wd (BitVec.ofNat 64 s.l.length)] 0 .lf))⟩ := (Ext.refl _ _).new (Nat.le_refl _) _
  simp [evOp_call, T.get_set]
  generalize hS : (⟨s2.nx + 1, s2.h.set s2.nx (.cs 24 2 (sets [wd (BitVec.ofInt 64 s.n), wd (BitVec.ofNat 64 s.l.length)] 0 .lf))⟩ : St) = s3 at ha hx3 ⊢
  have n3 : s3.nx = s2.nx + 1 := by rw [← hS]
  have k3 : s3.h.get st.nx = _ := (hx3.keep st.nx n2).trans k2
  have hl1 : s1.nx < s2.nx := x2.le
  have hpl : (padB s.l).length = 40 := by simp [padB, bI]; omega
  have hzr : RdRow s3 z 1 (padB s.l).length (W.bv (padB s.l)) := by rw [hpl]; exact hz.rd.ext hx3
  have hzl := OwnRow.inL hz
  have hff : ∀ m, s1.nx ≤ m → m < s2.nx → inF [(st.nx, st.nx + 1), (st.nx, st.nx + 1), (s2.nx, s2.nx + 1)] m = false := fun m h h' => by rw [inF_cons, if_neg (by omega), inF_cons, if_neg (by omega), inF_cons, if_neg (by omega)]; rfl
  have hfg : ∀ m, s1.nx ≤ m → m < s2.nx → inF [(st.nx, st.nx + 1), (st.nx, st.nx + 1)] m = false := fun m h h' => by rw [inF_cons, if_neg (by omega), inF_cons, if_neg (by omega)]; rfl
  rw [cxOf_callL [(st.nx, st.nx + 1), (st.nx, st.nx + 1)] (by kernel_rfl) (by kernel_rfl) (looseW_at2 20 23 (.p st.nx 0) (.p st.nx 1) (by simp [T.get_set]) (by simp [T.get_set]) (by kernel_rfl)) (fun x hx => by simp at hx; subst hx; rw [clashes_tmp']; simp [T.get_set]; exact OwnRow.clash hz hfg) (fun p hp => by simp at hp; subst hp; rw [isRo_cs k3]; decide), forb_no (by kernel_rfl)]
  simp only [List.cons_append, List.nil_append]
  refine Gd_lift (R := fun v s' => OwnRow s3.nx s' v 1 5 (wv [nameW s.l 0, nameW s.l 1, nameW s.l 2, nameW s.l 3, nameW s.l 4])) (Gd.mono (W.rwords_any _ z (padB s.l) (hzr.er fun m hm => hff m (hzl m hm).1 (hzl m hm).2) (by omega) _) fun r h => ?_) ?_
  · rw [hpl, show 40 / 8 = 5 from rfl, words_pad hn40] at h
    exact h
  rintro w _ s4 hw k4 x4
  have hw4 := OwnRow.sub k4 hw
  clear hw k4
  simp [evOp_call, T.get_set]
  have n4 : s3.nx ≤ s4.nx := x4.le
  rw [cxOf_call (by kernel_rfl) (by kernel_rfl), forb_step (by kernel_rfl) (forb_cons (by kernel_rfl) rfl)]
  refine Gd_appendA un23 un23 io24 (ha.ext x4) (by omega) (by decide) hw4.rd.notS hw4.rd.len (fun k => hw4.rd.firsts k) hw4.rd.1 (by omega) (by omega) ?_
  intro v s5 hv x5
  have hx5 : Ext s1.nx s2 s5 := ((hx3.mono (by omega)).trans (x4.mono (by omega))).trans x5
  have hbody : [wd (BitVec.ofInt 64 s.n), wd (BitVec.ofNat 64 s.l.length)] ++ wv [nameW s.l 0, nameW s.l 1, nameW s.l 2, nameW s.l 3, nameW s.l 4] = wv (soBody s) := rfl
  rw [hbody] at hv
  simp [evOp_call, T.get_set]
  refine Gd.mono (rslOf_any s5 0 v (soBody s) hv.rd (by show 7 ≤ 1000000; omega) _) ?_
  rintro _ rfl
  simp [evOp_call, T.get_set]
  refine Gd_buildW (vs := [wd (slOf (soBody s))]) (fun k => el23 k) (fun k => ze24 k) rfl (by simp [T.get_set]) (by simp) rfl rfl (by omega) ?_
  simp [evOp_call, T.get_set]
  have hx6 := fun v => (Ext.refl s5.nx s5).new (Nat.le_refl _) v
  have n5 : s1.nx ≤ s5.nx := by have := hx5.le; omega
  refine Gd_append un23 un23 io24 (lx := 1) (new := [wd (slOf (soBody s))]) (hv.ext (hx6 _)) (by show s1.nx ≤ s5.nx + 1; omega) (by decide) (fun s' h => by cases h) (fun k => rfl) (fun k => by simp [getC_eq, getsB_1, T.get_set, sets]) rfl (by omega) ?_
  intro v' s7 hv7 x7 _ _
  have h8 : wv (soBody s) ++ [wd (slOf (soBody s))] = wv (soPut s) := by rw [hp, wv_app]; rfl
  rw [h8] at hv7
  have hl8 : (soPut s).length = 8 := by rw [soPut_len, if_pos hg]
  simp [evOp_call, T.get_set]
  refine ⟨by rw [hl8]; exact hv7.rd, (rowFrom_own hv7).mono (by omega), ?_⟩
  have y2 : Ext st.nx st s2 := (hs2 _).trans (x2.mono (by omega))
  have y5 : Ext st.nx st s5 := y2.trans (hx5.mono (by omega))
  exact (y5.trans ((hx6 _).mono (by omega))).trans (x7.mono (by omega))
end Go.Proofs.Ytdoennkmcloalaa

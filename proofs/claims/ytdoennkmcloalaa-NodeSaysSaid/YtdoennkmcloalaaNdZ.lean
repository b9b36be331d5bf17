/-
  The walk of NodeSays.
-/
import Derived.Test.YtdoennkmcloalaaNdY
import Derived.Test.YtdoennkmcloalaaEx
import Derived.Test.YtdoennkmcloalaaNdI
set_option linter.unusedSimpArgs false
set_option linter.unusedVariables false
namespace Go.Proofs.Ytdoennkmcloalaa
open Go.RowKit Ev
@[simp] theorem blGm (x0 x1 x2 x3 : Operand) (a b c d : Int) (st : St) : bldK Try.prog 54 [(0, x0), (1, x1), (2, x2), (3, x3)] [.int .i64 a, .int .i64 b, .int .i64 c, .int .i64 d] [.int .i64 0, .int .i64 0, .int .i64 0, .int .i64 0] st = some (.g [.int .i64 a, .int .i64 b, .int .i64 c, .int .i64 d], st) := by
  rw [bldK_ok so54, partsK_one rfl (by rfl) (by simp), partsK_one rfl (by rfl) (by simp), partsK_one rfl (by rfl) (by simp), partsK_one rfl (by rfl) (by simp)]; rfl
theorem own8_any (st : St) (g : Gm) (nt : Nat) :
    Gd (callL Try.prog ⟨false, [], 0, nt⟩ 41 [gV g] st) fun r => r.1 = gV g ∧ Ext st.nx st r.2 := by
  rw [Gd_callL Try.func41 rfl]
  have gcell : ∀ k : List V → Res, cellsOf (gV g) k = k [.int .i64 g.b, .int .i64 g.n, .int .i64 g.c, .int .i64 g.k] := fun k => rfl
  have e2 : ∀ v w, Ext st.nx st ⟨st.nx + 1 + 1, (st.h.set st.nx v).set (st.nx + 1) w⟩ := fun v w => (bx_ext st v).new (Nat.le_succ _) w
  have q1 : ¬ st.nx + 1 = st.nx := by omega
  simp [gcell, evOp_call, sets, T.get_set, newC_is, loadE_eq, getC_eq, getsB_succ, getsB_zero, q1, storeK_g, putB_eq, roT]
  exact ⟨rfl, e2 _ _⟩
def nsE (st : St) (g : Gm) (N : Nd) (y x : V) (e : Env) (s : St) : Prop := e.get 2 = some x ∧ e.get 3 = some (.p st.nx 0) ∧ e.get 4 = some (.p (st.nx + 1) 0) ∧ s.h.get st.nx = some (gB g) ∧ s.h.get (st.nx + 1) = some (.cs 41 4 ((((T.lf.set 0 (.int .i64 N.t)).set 1 (.int .i64 N.l)).set 2 (.int .i64 N.s)).set 3 y)) ∧ Ext st.nx st s ∧ st.nx + 2 ≤ s.nx
theorem nsE.more {st : St} {g : Gm} {N : Nd} {y x : V} {e e' : Env} {s s' : St} (h : nsE st g N y x e s) (k : Ext s.nx s s') (h2 : e'.get 2 = e.get 2) (h3 : e'.get 3 = e.get 3) (h4 : e'.get 4 = e.get 4) : nsE st g N y x e' s' := by
  obtain ⟨g2, g3, g4, kG, kN, hx, hn⟩ := h
  exact ⟨h2.trans g2, h3.trans g3, h4.trans g4, (k.keep _ (by omega)).trans kG, (k.keep _ (by omega)).trans kN, hx.trans (k.mono (by omega)), Nat.le_trans hn k.le⟩
/-- a box of the document's own node -/
def ibx (q : Nat) (N : Nd) (s : St) : Prop := ∃ u t, s.h.get q = some (.cs 44 4 t) ∧ t.get 0 = some (.int .i64 N.t) ∧ t.get 1 = some (.int .i64 N.l) ∧ t.get 2 = some (.int .i64 N.s) ∧ t.get 3 = some u ∧ RdRow s u 2 N.R.length (pairs N.R) ∧ q < s.nx ∧ ∀ m, rowIn u m → m < q
def nbx (q : Nat) (N : Nd) (s : St) : Prop := ∃ u t, s.h.get q = some (.cs 41 4 t) ∧ t.get 0 = some (.int .i64 N.t) ∧ t.get 1 = some (.int .i64 N.l) ∧ t.get 2 = some (.int .i64 N.s) ∧ t.get 3 = some u ∧ RdRow s u 2 N.R.length (pairs N.R) ∧ q < s.nx ∧ ∀ m, rowIn u m → m < q
theorem ibx.more {q : Nat} {N : Nd} {s s' : St} (h : ibx q N s) (k : Ext s.nx s s') : ibx q N s' := by
  obtain ⟨u, t, h1, h2, h3, h4, h5, h6, h7, h8⟩ := h
  exact ⟨u, t, (k.keep _ h7).trans h1, h2, h3, h4, h5, h6.ext k, Nat.lt_of_lt_of_le h7 k.le, h8⟩
theorem nbx.more {q : Nat} {N : Nd} {s s' : St} (h : nbx q N s) (k : Ext s.nx s s') : nbx q N s' := by
  obtain ⟨u, t, h1, h2, h3, h4, h5, h6, h7, h8⟩ := h
  exact ⟨u, t, (k.keep _ h7).trans h1, h2, h3, h4, h5, h6.ext k, Nat.lt_of_lt_of_le h7 k.le, h8⟩
def ltR (q : Nat) (rs : List (Nat × Nat × Nat)) : Prop := ∀ e ∈ rs, q < e.2.1
theorem ltR_nil (q : Nat) : ltR q [] := fun e he => by cases he
theorem ltR_rs {q j u v : Nat} {rs : List (Nat × Nat × Nat)} (h : ltR q rs) (h2 : q < u) : ltR q (rsOf rs j u v) := rsOf_lt h h2
theorem ltR_inF {q b m nx : Nat} {rs : List (Nat × Nat × Nat)} (h : ltR q rs) (hm : m ≤ q) : inF ((0, m) :: (m + 1, nx) :: forb b rs []) m = false := inF_lds fun e he => Nat.lt_of_le_of_lt hm (h e he)
theorem bin_beq (st : St) (x y : Operand) (a b : Bool) : binE Try.prog st .eql 4 x y (.bool a) (.bool b) = some (.bool (decide (a = b)), st) := by
  cases a <;> cases b <;> kernel_rfl
def isB (v : Option V) : Prop := ∃ b, v = some (.bool b)
def nsL (st : St) (g : Gm) (N : Nd) (y x : V) (w : Nat) (s : St) (e : Env) (s' : St) : Prop := ∃ i : Nat, i ≤ N.R.length ∧ nsE st g N y x e s ∧ e.get 7 = some (.p w 0) ∧ isB (e.get 8) ∧ e.get 9 = some (.int .i64 (i : Int)) ∧ s' = s
noncomputable abbrev nsF : CallF := callL Try.prog
set_option maxRecDepth 20000 in
set_option maxHeartbeats 16000000 in
theorem g_NodeSays (st : St) (g : Gm) (N : Nd) (y x : V) (L : List (BitVec 64)) (hy : RdRow st y 2 N.R.length (pairs N.R)) (hcap : CapOk y) (hs : N.s ≤ 9223372036854775807) (hx : RdRow st x 1 L.length (wv L)) (hcx : CapOk x) :
    Gd (lawX Try.prog nsF 35 ⟨false, [], 0, 0⟩ 4 [gV g, ndV N y, x] st) fun r => r.1 = .bool true := by
  rw [Gd_lawX Try.func4 rfl]
  have hcell : ∀ k : List V → Res, cellsOf (ndV N y) k = k [.int .i64 N.t, .int .i64 N.l, .int .i64 N.s, y] := fun k => rfl
  have gcell : ∀ k : List V → Res, cellsOf (gV g) k = k [.int .i64 g.b, .int .i64 g.n, .int .i64 g.c, .int .i64 g.k] := fun k => rfl
  have gVg : V.g [V.int .i64 g.b, V.int .i64 g.n, V.int .i64 g.c, V.int .i64 g.k] = gV g := rfl
  have hnd : ∀ (M : Nd) (u : V), V.g [.int .i64 M.t, .int .i64 M.l, .int .i64 M.s, u] = ndV M u := fun _ _ => rfl
  have e2 : ∀ v w, Ext st.nx st ⟨st.nx + 1 + 1, (st.h.set st.nx v).set (st.nx + 1) w⟩ := fun v w => (bx_ext st v).new (Nat.le_succ _) w
  have q1 : ¬ st.nx + 1 = st.nx := by omega
  refine Gd_seqJ (JE (nsE st g N y x)) ?_ ?_
  · simp [hcell, gcell, evOp_call, sets, T.get_set, newC_is]
    exact ⟨_, _, rfl, by simp [T.get_set], by simp [T.get_set], by simp [T.get_set], (T.get_set_ne _ _ q1).trans (T.get_set_same _ _ _), T.get_set_same _ _ _, e2 _ _, Nat.le_refl _⟩
  rintro _ ⟨e, s, rfl, hE⟩
  rw [seqC_n]
  refine Gd_seqJ (JE (nsE st g N y x)) ?_ ?_
  · simp [evOp_call, T.get_set]
    exact ⟨_, _, rfl, hE.more (Ext.refl _ _) (by simp [T.get_set]) (by simp [T.get_set]) (by simp [T.get_set])⟩
  clear hE
  rintro _ ⟨e, s, rfl, hE⟩
  rw [seqC_n]
  have hwu : wantK true (some V.u) = false := rfl
  by_cases c1 : (10 : Int) < (N.R.length : Int)
  · have ⟨g2, g3, g4, kG, kN, hxx, hn⟩ := hE
    simp [evOp_call, T.get_set, g2, g4, loadE_eq, getC_eq, kN, hy.lenS, c1]
  by_cases c2 : (12 : Int) < (L.length : Int)
  · have ⟨g2, g3, g4, kG, kN, hxx, hn⟩ := hE
    simp [evOp_call, T.get_set, g2, g4, loadE_eq, getC_eq, kN, hy.lenS, hx.lenS, c1, c2]
  refine Gd_seqJ (JE (nsE st g N y x)) ?_ ?_
  · have ⟨g2, g3, g4, kG, kN, hxx, hn⟩ := hE
    simp [evOp_call, T.get_set, g2, g4, loadE_eq, getC_eq, kN, hy.lenS, hx.lenS, c1, c2]
    exact ⟨_, _, rfl, hE.more (Ext.refl _ _) (by simp [T.get_set]) (by simp [T.get_set]) (by simp [T.get_set])⟩
  clear hE
  rintro _ ⟨e, s, rfl, hE⟩
  rw [seqC_n]
  refine Gd_seqJ (JE fun e s => nsE st g N y x e s ∧ ∃ w, e.get 7 = some (.p w 0) ∧ ibx w N s ∧ st.nx + 2 ≤ w) ?_ ?_
  · have ⟨g2, g3, g4, kG, kN, hxx, hn⟩ := hE
    simp [evOp_call, T.get_set, g2, g4, loadE_eq, getC_eq, getsB_succ, getsB_zero, kN, oracF_cons]
    rw [hnd]
    refine Gd.mono (inode_fl s [] (fun _ _ => rfl) N y (hy.ext hxx) (by omega) (fun _ _ => rfl) _) ?_
    rintro ⟨r, s1⟩ ⟨⟨u, hr, hu, _⟩, x1⟩
    simp only at hr hu x1
    subst hr
    have ho := hu.one
    simp [ndV, evOp_call, T.get_set, sets, newC_is, storeK_g, putB_eq, roT]
    exact ⟨_, _, rfl, hE.more (x1.trans ((bx_ext s1 _).mono x1.le)) (by simp [T.get_set]) (by simp [T.get_set]) (by simp [T.get_set]), _, by simp [T.get_set], ⟨u, _, T.get_set_same _ _ _, by simp [T.get_set], by simp [T.get_set], by simp [T.get_set], by simp [T.get_set], hu.ext (bx_ext s1 _), Nat.lt_succ_self _, fun m hm => row_below hu hm⟩, Nat.le_trans hn x1.le⟩
  clear hE
  rintro _ ⟨e, s, rfl, hE, w, g7, hW, hw0⟩
  rw [seqC_n]
  refine Gd_seqJ (JE fun e s' => nsE st g N y x e s ∧ e.get 7 = some (.p w 0) ∧ e.get 8 = some (.bool false) ∧ s = s') ?_ ?_
  · simp [evOp_call, T.get_set]
    exact ⟨_, _, rfl, hE.more (Ext.refl _ _) (by simp [T.get_set]) (by simp [T.get_set]) (by simp [T.get_set]), by simp [T.get_set, g7], by simp [T.get_set], rfl⟩
  clear hE g7
  rintro _ ⟨e, _, rfl, hE, g7, g8, rfl⟩
  rw [seqC_n]
  refine Gd_seqJ (JE fun e s' => nsE st g N y x e s ∧ e.get 7 = some (.p w 0) ∧ isB (e.get 8) ∧ s = s') ?_ ?_
  · simp [evOp_call, T.get_set]
    refine Gd_loop (nsL st g N y x w s) (fun en _ => muAt 9 N.R.length en) ?_ ?_
    · exact ⟨0, Nat.zero_le _, hE.more (Ext.refl _ _) (by simp [T.get_set]) (by simp [T.get_set]) (by simp [T.get_set]), by simp [T.get_set, g7], (by unfold isB; simp [T.get_set, g8]), by simp [T.get_set], rfl⟩
    clear hE g7 g8
    rintro e s' ⟨i, hi, hE, g7, ⟨b, g8⟩, g9, rfl⟩
    have ⟨g2, g3, g4, kG, kN, hxx, hn⟩ := hE
    have hys := hy.ext hxx
    by_cases hlt : i < N.R.length
    case neg =>
      obtain rfl : i = N.R.length := by omega
      simp [evOp_call, T.get_set, g2, g4, g8, g9, loadE_eq, getC_eq, kN, hys.lenS]
      exact ⟨_, _, rfl, hE.more (Ext.refl _ _) (by simp [T.get_set]) (by simp [T.get_set]) (by simp [T.get_set]), by simp [T.get_set, g7], (by unfold isB; simp [T.get_set, g8]), rfl⟩
    have hlt' : (i : Int) < N.R.length := by omega
    have hwi := wrap_nat (n := i) (by omega)
    obtain ⟨m, o, ty, sz, tr, hid, hm, hgt, ho, hc⟩ := hys.idx (st := s') un39 io47 hlt
    obtain ⟨⟨F, M⟩, hr⟩ : ∃ r, N.R[i]? = some r := ⟨_, List.getElem?_eq_getElem hlt⟩
    have hcl := pairs_at N.R i _ hr
    have u1 : tr.get (o + 1) = some (.int .i64 M) := hc 1 _ (by omega) hcl.2
    cases b with
    | true =>
      simp [evOp_call, T.get_set, g2, g4, g8, g9, loadE_eq, getC_eq, kN, hys.lenS, hlt', hwu, hwi]
      exact ⟨⟨i + 1, hlt, hE.more (Ext.refl _ _) (by simp [T.get_set]) (by simp [T.get_set]) (by simp [T.get_set]), by simp [T.get_set, g7], (by unfold isB; simp [T.get_set]), by simp [T.get_set], rfl⟩, muAt_lt g9 (by simp [T.get_set]) hlt⟩
    | false =>
      by_cases d1 : 1099511627776 < M
      · simp [evOp_call, T.get_set, g2, g4, g8, g9, loadE_eq, getC_eq, kN, hys.lenS, hlt', hwu, hwi, hid, hgt, u1, d1]
        exact ⟨⟨i + 1, hlt, hE.more (Ext.refl _ _) (by simp [T.get_set]) (by simp [T.get_set]) (by simp [T.get_set]), by simp [T.get_set, g7], (by unfold isB; simp [T.get_set]), by simp [T.get_set], rfl⟩, muAt_lt g9 (by simp [T.get_set]) hlt⟩
      · simp [evOp_call, T.get_set, g2, g4, g8, g9, loadE_eq, getC_eq, kN, hys.lenS, hlt', hwu, hwi, hid, hgt, u1, d1]
        exact ⟨⟨i + 1, hlt, hE.more (Ext.refl _ _) (by simp [T.get_set]) (by simp [T.get_set]) (by simp [T.get_set]), by simp [T.get_set, g7], (by unfold isB; simp [T.get_set]), by simp [T.get_set], rfl⟩, muAt_lt g9 (by simp [T.get_set]) hlt⟩
  clear hE g7 g8
  rintro _ ⟨e, _, rfl, hE, g7, ⟨big, g8⟩, rfl⟩
  rw [seqC_n]
  refine Gd_seqJ (JE fun e s => nsE st g N y x e s ∧ e.get 7 = some (.p w 0) ∧ ibx w N s ∧ e.get 8 = some (.bool big) ∧ ∃ p, e.get 10 = some (.p p 0) ∧ nbx p (ndOf L) s ∧ e.get 11 = some (.bool (getNd L).isSome) ∧ st.nx + 2 ≤ p ∧ w < p) ?_ ?_
  · have ⟨g2, g3, g4, kG, kN, hxx, hn⟩ := hE
    simp [evOp_call, T.get_set, g2, g4, oracF_cons]
    refine Gd.mono (nget_any s x L (hx.ext hxx) hcx _) ?_
    rintro ⟨r, s1⟩ ⟨⟨u, hr, hu, _, _⟩, x1⟩
    simp only at hr hu x1
    subst hr
    have ho := hu.one
    have hwl : w < s.nx := by obtain ⟨_, _, _, _, _, _, _, _, h, _⟩ := hW; exact h
    have hle := x1.le
    simp [ndV, evOp_call, T.get_set, sets, newC_is, storeK_g, putB_eq, roT]
    exact ⟨_, _, rfl, hE.more (x1.trans ((bx_ext s1 _).mono x1.le)) (by simp [T.get_set]) (by simp [T.get_set]) (by simp [T.get_set]), by simp [T.get_set, g7], hW.more (x1.trans ((bx_ext s1 _).mono x1.le)), by simp [T.get_set, g8], _, by simp [T.get_set], ⟨u, _, T.get_set_same _ _ _, by simp [T.get_set], by simp [T.get_set], by simp [T.get_set], by simp [T.get_set], hu.ext (bx_ext s1 _), Nat.lt_succ_self _, fun m hm => row_below hu hm⟩, by simp [T.get_set], Nat.le_trans hn x1.le, by omega⟩
  clear hE g7 g8 hW
  rintro _ ⟨e, s, rfl, hE, g7, hW, g8, p, g10, hP, g11, hp0, hwp⟩
  rw [seqC_n]
  refine Gd_seqJ (JE fun e s => nsE st g N y x e s ∧ e.get 7 = some (.p w 0) ∧ ibx w N s ∧ e.get 8 = some (.bool big) ∧ e.get 10 = some (.p p 0) ∧ nbx p (ndOf L) s ∧ e.get 11 = some (.bool (getNd L).isSome) ∧ ∃ q, e.get 12 = some (.p q 0) ∧ ibx q (ndOf L) s ∧ e.get 13 = some (.bool (getNd L).isSome) ∧ p < q) ?_ ?_
  · have ⟨g2, g3, g4, kG, kN, hxx, hn⟩ := hE
    simp [evOp_call, T.get_set, g2, g4, oracF_cons]
    refine Gd.mono (rnget_any s x L (hx.ext hxx) _) ?_
    rintro ⟨r, s1⟩ ⟨⟨u, hr, hu, _, _⟩, x1⟩
    simp only at hr hu x1
    subst hr
    have ho := hu.one
    have hpl : p < s.nx := by obtain ⟨_, _, _, _, _, _, _, _, h, _⟩ := hP; exact h
    have hle := x1.le
    simp [ndV, evOp_call, T.get_set, sets, newC_is, storeK_g, putB_eq, roT]
    exact ⟨_, _, rfl, hE.more (x1.trans ((bx_ext s1 _).mono x1.le)) (by simp [T.get_set]) (by simp [T.get_set]) (by simp [T.get_set]), by simp [T.get_set, g7], hW.more (x1.trans ((bx_ext s1 _).mono x1.le)), by simp [T.get_set, g8], by simp [T.get_set, g10], hP.more (x1.trans ((bx_ext s1 _).mono x1.le)), by simp [T.get_set, g11], _, by simp [T.get_set], ⟨u, _, T.get_set_same _ _ _, by simp [T.get_set], by simp [T.get_set], by simp [T.get_set], by simp [T.get_set], hu.ext (bx_ext s1 _), Nat.lt_succ_self _, fun m hm => row_below hu hm⟩, by simp [T.get_set], by omega⟩
  clear hE g7 g8 hW g10 hP g11
  rintro _ ⟨e, s, rfl, hE, g7, hW, g8, g10, hP, g11, q, g12, hQ, g13, hpq⟩
  rw [seqC_n]
  have ⟨g2, g3, g4, kG, kN, hxx, hn⟩ := hE
  obtain ⟨uw, tw, kW, tw0, tw1, tw2, tw3, huw, hwl, huwm⟩ := hW
  obtain ⟨up, tp, kP, tp0, tp1, tp2, tp3, hup, hpl, hupm⟩ := hP
  obtain ⟨uq, tq, kQ, tq0, tq1, tq2, tq3, huq, hql, huqm⟩ := hQ
  have hys := hy.ext hxx
  unfold gB at kG
  simp [evOp_call, T.get_set, g3, g4, g7, loadE_eq, getC_eq, getsB_succ, getsB_zero, kG, kN, kW, oracF_cons]
  refine ⟨by kernel_rfl, ?_⟩
  have nf1 : ∀ k, k ≠ st.nx → k ≠ w → inF [(st.nx, st.nx + 1), (w, w + 1)] k = false := fun k h1 h2 => by rw [inF_cons, if_neg (by omega), inF_cons, if_neg (by omega)]; rfl
  have nfw : ∀ k, k ≠ w → inF [(w, w + 1)] k = false := fun k h2 => by rw [inF_cons, if_neg (by omega)]; rfl
  have nfq : ∀ k, k ≠ q → inF [(q, q + 1)] k = false := fun k h2 => by rw [inF_cons, if_neg (by omega)]; rfl
  -- node.Good
  rw [gVg, hnd, cxOf_callL [(st.nx, st.nx + 1), (w, w + 1)] (by kernel_rfl) (by kernel_rfl) (looseW_at2 3 7 (.p st.nx 0) (.p w 0) (by simp [T.get_set, g3]) (by simp [T.get_set, g7]) (by kernel_rfl)) (fun x hx => by simp at hx; rcases hx with rfl | rfl <;> simp [clashes_tmp, T.get_set, ndV, gV, blkOf]) (fun p hp => by simp at hp; rcases hp with rfl | rfl <;> first | (rw [isRo_cs kG]; decide) | (rw [isRo_cs kW]; decide)), forb_nil]
  simp only [List.append_nil]
  refine Gd_lift (R := fun v _ => v = .bool (decide (goodN g N))) (ngood_any _ g N y (hys.er fun m hm => by have := row_below hy hm; exact nf1 m (by omega) (by omega)) hcap hs _) ?_
  rintro r _ s1 rfl - x1
  have h1 : st.nx ≤ q := by omega
  have h2 : st.nx + 1 ≤ q := by omega
  have h3 : w ≤ q := by omega
  have h4 : p ≤ q := by omega
  have hl : ∀ (m b nx : Nat) (rs : List (Nat × Nat × Nat)), m ≤ q → ltR q rs → inF ((0, m) :: (m + 1, nx) :: forb b rs []) m = false := fun m b nx rs hm hr => ltR_inF hr hm
  have hl0 : ∀ m nx : Nat, inF [(0, m), (m + 1, nx)] m = false := fun m nx => by rw [inF_cons, if_neg (by omega), inF_cons, if_neg (by omega)]; rfl
  have n1 : q < s1.nx := Nat.lt_of_lt_of_le hql x1.le
  have kG1 := (x1.keep _ (by omega)).trans kG
  have kN1 := (x1.keep _ (by omega)).trans kN
  have kW1 := (x1.keep _ (by omega)).trans kW
  simp (maxDischargeDepth := 12) [evOp_call, T.get_set, g3, g4, g7, loadE_eq, getC_eq, getsB_succ, getsB_zero, kG1, kN1, kW1, oracF_cons, hl0, hl, ltR_nil, ltR_rs, hql, h1, h2, h3, h4, n1]
  rw [gVg, cxOf_callL [(w, w + 1)] (by kernel_rfl) (by kernel_rfl) (looseW_at 7 (.p w 0) (by simp [T.get_set, g7]) (by kernel_rfl)) (fun x hx => by simp at hx; subst hx; simp [clashes_tmp, T.get_set, gV, blkOf]) (fun p hp => by simp at hp; subst hp; rw [isRo_cs kW1]; decide), forb_step (by kernel_rfl) rfl]
  simp only [List.append_nil]
  refine Gd_lift (R := fun v _ => v = gV g) (own8_any _ g _) ?_
  rintro r _ s2 rfl - x2
  have n2 : q < s2.nx := Nat.lt_of_lt_of_le n1 x2.le
  have kN2 := (x2.keep _ (by omega)).trans kN1
  have kW2 := (x2.keep _ (by omega)).trans kW1
  simp (maxDischargeDepth := 12) [evOp_call, T.get_set, g3, g4, g7, loadE_eq, getC_eq, getsB_succ, getsB_zero, kN2, kW2, tw0, tw1, tw2, tw3, oracF_cons, hl0, hl, ltR_nil, ltR_rs, hql, h1, h2, h3, h4, n1, n2]
  have y2 : Ext s.nx s s2 := x1.trans (x2.mono x1.le)
  rw [hnd, cxOf_call (by kernel_rfl) (by kernel_rfl), forb_step (by kernel_rfl) (forb_step (by kernel_rfl) rfl)]
  refine Gd.mono (rngood_any s2 g N uw (huw.ext y2) hs _) ?_
  rintro ⟨r, s3⟩ ⟨hr, x3⟩
  simp only at hr x3
  subst hr
  have n3 : q < s3.nx := Nat.lt_of_lt_of_le n2 x3.le
  have y3 := y2.trans (x3.mono y2.le)
  have kN3 := (x3.keep _ (by omega)).trans kN2
  have kW3 := (x3.keep _ (by omega)).trans kW2
  simp (maxDischargeDepth := 12) [evOp_call, T.get_set, g3, g4, g7, loadE_eq, getC_eq, getsB_succ, getsB_zero, kN3, kW3, tw0, tw1, tw2, tw3, bin_beq, oracF_cons, hl0, hl, ltR_nil, ltR_rs, hql, h1, h2, h3, h4, n1, n2, n3]
  -- node.Put
  rw [hnd, cxOf_callL [(w, w + 1)] (by kernel_rfl) (by kernel_rfl) (looseW_at 7 (.p w 0) (by simp [T.get_set, g7]) (by kernel_rfl)) (fun x hx => by simp at hx; subst hx; simp [clashes_tmp, T.get_set, ndV, blkOf]) (fun p hp => by simp at hp; subst hp; rw [isRo_cs kW3]; decide), forb_step (by kernel_rfl) (forb_step (by kernel_rfl) (forb_step (by kernel_rfl) rfl))]
  simp only [List.append_nil]
  refine Gd_lift (R := fun v s => RdRow s v 1 (putN N).length (wv (putN N))) (Gd.mono (nput_any _ N y ((hys.ext y3).er fun m hm => by have := row_below hy hm; exact nfw m (by omega)) _) fun r h => ⟨h.1, h.2.2⟩) ?_
  rintro z _ s4 hz k4 x4
  have hz4 := RdRow.sub k4 hz
  clear hz k4
  have n4 : q < s4.nx := Nat.lt_of_lt_of_le n3 x4.le
  have y4 := y3.trans (x4.mono y3.le)
  have kN4 := (x4.keep _ (by omega)).trans kN3
  have kW4 := (x4.keep _ (by omega)).trans kW3
  simp (maxDischargeDepth := 12) [evOp_call, T.get_set, g3, g4, g7, loadE_eq, getC_eq, getsB_succ, getsB_zero, kN4, kW4, tw0, tw1, tw2, tw3, bin_beq, oracF_cons, hl0, hl, ltR_nil, ltR_rs, hql, h1, h2, h3, h4, n1, n2, n3, n4]
  rw [hnd, cxOf_call (by kernel_rfl) (by kernel_rfl), forb_step (by kernel_rfl) (forb_step (by kernel_rfl) (forb_step (by kernel_rfl) (forb_step (by kernel_rfl) rfl)))]
  refine Gd.mono (rnput_any s4 N uw (huw.ext y4) _) ?_
  rintro ⟨z2, s5⟩ ⟨hz2, x5⟩
  simp only at hz2 x5
  have n5 : q < s5.nx := Nat.lt_of_lt_of_le n4 x5.le
  have y5 := y4.trans (x5.mono y4.le)
  simp [evOp_call, T.get_set, oracF_cons]
  rw [cxOf_call (by kernel_rfl) (by kernel_rfl), forb_step (by kernel_rfl) (forb_step (by kernel_rfl) (forb_step (by kernel_rfl) (forb_step (by kernel_rfl) (forb_step (by kernel_rfl) rfl))))]
  refine Gd.mono (sameNd s5 z z2 (putN N) (putN N) (hz4.ext x5) hz2 (by rw [putN_len]; split <;> omega) _) ?_
  rintro _ rfl
  have kN5 := (x5.keep _ (by omega)).trans kN4
  have kW5 := (x5.keep _ (by omega)).trans kW4
  have kP5 := (y5.keep _ (by omega)).trans kP
  have kQ5 := (y5.keep _ (by omega)).trans kQ
  simp (maxDischargeDepth := 12) [evOp_call, T.get_set, g3, g4, g7, g8, g10, g11, g12, g13, loadE_eq, getC_eq, getsB_succ, getsB_zero, kN5, kW5, kP5, kQ5, tp0, tp1, tp2, tp3, tw0, tw1, tw2, tw3, bin_beq, oracF_cons, hl0, hl, ltR_nil, ltR_rs, hql, h1, h2, h3, h4, n1, n2, n3, n4, n5]
  -- inode
  have hMR : (ndOf L).R.length ≤ 1000000 := by
    unfold ndOf
    cases hg : getNd L with
    | none => simp [noN]
    | some K =>
      unfold getNd at hg
      split at hg
      · injection hg with hg
        have := readR_le L 4
        rw [← hg]
        show (readR L 4).length ≤ 1000000
        omega
      · cases hg
  rw [hnd, cxOf_callL [(q, q + 1)] (by kernel_rfl) (by kernel_rfl) (looseW_at 12 (.p q 0) (by simp [T.get_set, g12]) (by kernel_rfl)) (fun x hx => by simp at hx; subst hx; simp [clashes_tmp, T.get_set, ndV, blkOf]) (fun p hp => by simp at hp; subst hp; rw [isRo_cs kQ5]; decide), forb_step (by kernel_rfl) (forb_step (by kernel_rfl) (forb_step (by kernel_rfl) (forb_step (by kernel_rfl) (forb_step (by kernel_rfl) rfl))))]
  simp only [List.append_nil]
  refine Gd_lift (R := fun v s => ∃ z, v = ndV (ndOf L) z ∧ RdRow s z 2 (ndOf L).R.length (pairs (ndOf L).R)) (Gd.mono (inode_fl _ [] (fun _ _ => rfl) (ndOf L) up ((hup.ext y5).er fun m hm => by have := hupm m hm; exact nfq m (by omega)) hMR (fun _ _ => rfl) _) fun r h => ⟨by obtain ⟨⟨z, h1, h2, _⟩, _⟩ := h; exact ⟨z, h1, h2⟩, h.2⟩) ?_
  rintro r _ s6 ⟨z3, rfl, hz3⟩ k6 x6
  have hz6 := RdRow.sub k6 hz3
  clear hz3 k6
  have n6 : q < s6.nx := Nat.lt_of_lt_of_le n5 x6.le
  have y6 := y5.trans (x6.mono y5.le)
  have kN6 := (x6.keep _ (by omega)).trans kN5
  have kW6 := (x6.keep _ (by omega)).trans kW5
  have kQ6 := (x6.keep _ (by omega)).trans kQ5
  simp (maxDischargeDepth := 12) [evOp_call, T.get_set, g3, g4, g7, g8, g12, loadE_eq, getC_eq, getsB_succ, getsB_zero, kN6, kW6, kQ6, tq0, tq1, tq2, tq3, oracF_cons, hl0, hl, ltR_nil, ltR_rs, hql, h1, h2, h3, h4, n1, n2, n3, n4, n5, n6]
  rw [hnd, cxOf_call (by kernel_rfl) (by kernel_rfl), forb_step (by kernel_rfl) (forb_step (by kernel_rfl) (forb_step (by kernel_rfl) (forb_step (by kernel_rfl) (forb_step (by kernel_rfl) (forb_step (by kernel_rfl) rfl)))))]
  refine Gd.mono (nodes_any s6 (ndOf L) (ndOf L) z3 uq hz6 (huq.ext y6) hMR _) ?_
  rintro ⟨r, s7⟩ ⟨hr, x7⟩
  simp only at hr x7
  subst hr
  have n7 : q < s7.nx := Nat.lt_of_lt_of_le n6 x7.le
  have y7 := y6.trans (x7.mono y6.le)
  have kN7 := (x7.keep _ (by omega)).trans kN6
  have kW7 := (x7.keep _ (by omega)).trans kW6
  have fin : ∀ (en : Env) (i j k m o r' : Nat), True := fun _ _ _ _ _ _ _ => trivial
  cases big with
  | true =>
    simp (maxDischargeDepth := 12) [evOp_call, T.get_set, g3, g4, g7, g8, g12, loadE_eq, getC_eq, getsB_succ, getsB_zero, hwu, kN7, kW7, tw0, tw1, tw2, tw3, oracF_cons, hl0, hl, ltR_nil, ltR_rs, hql, h1, h2, h3, h4, n1, n2, n3, n4, n5, n6, n7]
    rw [hnd, cxOf_callL [(w, w + 1)] (by kernel_rfl) (by kernel_rfl) (looseW_at 7 (.p w 0) (by simp [T.get_set, g7]) (by kernel_rfl)) (fun x hx => by simp at hx; subst hx; simp [clashes_tmp, T.get_set, ndV, blkOf]) (fun p hp => by simp at hp; subst hp; rw [isRo_cs kW7]; decide), forb_step (by kernel_rfl) (forb_step (by kernel_rfl) (forb_step (by kernel_rfl) (forb_step (by kernel_rfl) (forb_step (by kernel_rfl) (forb_step (by kernel_rfl) (forb_step (by kernel_rfl) rfl))))))]
    simp only [List.append_nil]
    refine Gd_lift (R := fun v _ => v = .int .i64 (needN N)) (needs_any _ N y hs _) ?_
    rintro r _ s8 rfl - x8
    have n8 : q < s8.nx := Nat.lt_of_lt_of_le n7 x8.le
    have y8 := y7.trans (x8.mono y7.le)
    have kN8 := (x8.keep _ (by omega)).trans kN7
    have kW8 := (x8.keep _ (by omega)).trans kW7
    simp (maxDischargeDepth := 14) [evOp_call, T.get_set, g3, g4, g7, g8, g12, loadE_eq, getC_eq, getsB_succ, getsB_zero, hwu, kN8, kW8, tw0, tw1, tw2, tw3, oracF_cons, hl0, hl, ltR_nil, ltR_rs, hql, h1, h2, h3, h4, n1, n2, n3, n4, n5, n6, n7, n8]
    rw [hnd, cxOf_call (by kernel_rfl) (by kernel_rfl), forb_step (by kernel_rfl) (forb_step (by kernel_rfl) (forb_step (by kernel_rfl) (forb_step (by kernel_rfl) (forb_step (by kernel_rfl) (forb_step (by kernel_rfl) (forb_step (by kernel_rfl) (forb_step (by kernel_rfl) rfl)))))))]
    refine Gd.mono (rneeds_any s8 N uw hs _) ?_
    rintro ⟨r, s9⟩ ⟨hr, x9⟩
    simp only at hr x9
    subst hr
    simp [evOp_call, T.get_set]
  | false =>
    simp (maxDischargeDepth := 12) [evOp_call, T.get_set, g3, g4, g7, g8, g12, loadE_eq, getC_eq, getsB_succ, getsB_zero, hwu, kN7, kW7, tw0, tw1, tw2, tw3, oracF_cons, hl0, hl, ltR_nil, ltR_rs, hql, h1, h2, h3, h4, n1, n2, n3, n4, n5, n6, n7]
    rw [hnd, cxOf_callL [(w, w + 1)] (by kernel_rfl) (by kernel_rfl) (looseW_at 7 (.p w 0) (by simp [T.get_set, g7]) (by kernel_rfl)) (fun x hx => by simp at hx; subst hx; simp [clashes_tmp, T.get_set, ndV, blkOf]) (fun p hp => by simp at hp; subst hp; rw [isRo_cs kW7]; decide), forb_step (by kernel_rfl) (forb_step (by kernel_rfl) (forb_step (by kernel_rfl) (forb_step (by kernel_rfl) (forb_step (by kernel_rfl) (forb_step (by kernel_rfl) (forb_step (by kernel_rfl) rfl))))))]
    simp only [List.append_nil]
    refine Gd_lift (R := fun v _ => v = .int .i64 (sumN N.R)) (blocks_any _ [] (fun _ _ => rfl) N y ((hys.ext y7).er fun m hm => by have := row_below hy hm; exact nfw m (by omega)) (by omega) (fun _ _ => rfl) _) ?_
    rintro r _ s8 rfl - x8
    have n8 : q < s8.nx := Nat.lt_of_lt_of_le n7 x8.le
    have y8 := y7.trans (x8.mono y7.le)
    have kN8 := (x8.keep _ (by omega)).trans kN7
    have kW8 := (x8.keep _ (by omega)).trans kW7
    simp (maxDischargeDepth := 14) [evOp_call, T.get_set, g3, g4, g7, g8, g12, loadE_eq, getC_eq, getsB_succ, getsB_zero, hwu, kN8, kW8, tw0, tw1, tw2, tw3, oracF_cons, hl0, hl, ltR_nil, ltR_rs, hql, h1, h2, h3, h4, n1, n2, n3, n4, n5, n6, n7, n8]
    rw [hnd, cxOf_call (by kernel_rfl) (by kernel_rfl), forb_step (by kernel_rfl) (forb_step (by kernel_rfl) (forb_step (by kernel_rfl) (forb_step (by kernel_rfl) (forb_step (by kernel_rfl) (forb_step (by kernel_rfl) (forb_step (by kernel_rfl) (forb_step (by kernel_rfl) rfl)))))))]
    refine Gd.mono (rblocks_any s8 N uw (huw.ext y8) (by omega) _) ?_
    rintro ⟨r, s9⟩ ⟨hr, x9⟩
    simp only at hr x9
    subst hr
    have n9 : q < s9.nx := Nat.lt_of_lt_of_le n8 x9.le
    have y9 := y8.trans (x9.mono y8.le)
    have kN9 := (x9.keep _ (by omega)).trans kN8
    have kW9 := (x9.keep _ (by omega)).trans kW8
    simp (maxDischargeDepth := 14) [evOp_call, T.get_set, g3, g4, g7, g8, g12, loadE_eq, getC_eq, getsB_succ, getsB_zero, hwu, kN9, kW9, tw0, tw1, tw2, tw3, oracF_cons, hl0, hl, ltR_nil, ltR_rs, hql, h1, h2, h3, h4, n1, n2, n3, n4, n5, n6, n7, n8, n9]
    rw [hnd, cxOf_callL [(w, w + 1)] (by kernel_rfl) (by kernel_rfl) (looseW_at 7 (.p w 0) (by simp [T.get_set, g7]) (by kernel_rfl)) (fun x hx => by simp at hx; subst hx; simp [clashes_tmp, T.get_set, ndV, blkOf]) (fun p hp => by simp at hp; subst hp; rw [isRo_cs kW9]; decide), forb_step (by kernel_rfl) (forb_step (by kernel_rfl) (forb_step (by kernel_rfl) (forb_step (by kernel_rfl) (forb_step (by kernel_rfl) (forb_step (by kernel_rfl) (forb_step (by kernel_rfl) (forb_step (by kernel_rfl) (forb_step (by kernel_rfl) rfl))))))))]
    simp only [List.append_nil]
    refine Gd_lift (R := fun v _ => v = .int .i64 (needN N)) (needs_any _ N y hs _) ?_
    rintro r _ s10 rfl - x10
    have n10 : q < s10.nx := Nat.lt_of_lt_of_le n9 x10.le
    have y10 := y9.trans (x10.mono y9.le)
    have kN10 := (x10.keep _ (by omega)).trans kN9
    have kW10 := (x10.keep _ (by omega)).trans kW9
    simp (maxDischargeDepth := 14) [evOp_call, T.get_set, g3, g4, g7, g8, g12, loadE_eq, getC_eq, getsB_succ, getsB_zero, hwu, kN10, kW10, tw0, tw1, tw2, tw3, oracF_cons, hl0, hl, ltR_nil, ltR_rs, hql, h1, h2, h3, h4, n1, n2, n3, n4, n5, n6, n7, n8, n9, n10]
    rw [hnd, cxOf_call (by kernel_rfl) (by kernel_rfl), forb_step (by kernel_rfl) (forb_step (by kernel_rfl) (forb_step (by kernel_rfl) (forb_step (by kernel_rfl) (forb_step (by kernel_rfl) (forb_step (by kernel_rfl) (forb_step (by kernel_rfl) (forb_step (by kernel_rfl) (forb_step (by kernel_rfl) (forb_step (by kernel_rfl) rfl)))))))))]
    refine Gd.mono (rneeds_any s10 N uw hs _) ?_
    rintro ⟨r, s11⟩ ⟨hr, x11⟩
    simp only at hr x11
    subst hr
    simp [evOp_call, T.get_set]
theorem w_NodeSays (b n c k : Int) (p q r : Int) (R : List (Int × Int)) (L0 : List Int) (W : World) (_ : -9223372036854775808 ≤ b ∧ b ≤ 9223372036854775807) (_ : -9223372036854775808 ≤ n ∧ n ≤ 9223372036854775807) (_ : -9223372036854775808 ≤ c ∧ c ≤ 9223372036854775807) (_ : -9223372036854775808 ≤ k ∧ k ≤ 9223372036854775807)
    (_ : (Lit.int .i64 p).wf = true) (_ : (Lit.int .i64 q).wf = true) (hr : (Lit.int .i64 r).wf = true) (x : Value) (hx0 : InRow W x 2 R.length (pairs R) ∧ InCap x) (_ : ∀ r ∈ R, (Lit.int .i64 r.1).wf = true ∧ (Lit.int .i64 r.2).wf = true)
    (z : Value) (hz0 : InRow W z 1 L0.length (L0.map fun v => V.int .u64 v) ∧ InCap z) (hw : ∀ r ∈ L0, (Lit.int .u64 r).wf = true) :
    Calls Try.prog 4 #[.agg #[.int .i64 b, .int .i64 n, .int .i64 c, .int .i64 k], .agg #[.int .i64 p, .int .i64 q, .int .i64 r, x], z] W fun e W' => e = .returned (.bool true) ∧ Below W.heap.size W W' := by
  obtain ⟨hx, hc⟩ := hx0
  obtain ⟨hz, hcz⟩ := hz0
  obtain ⟨L, hK, hm⟩ := wv_of hw
  rw [hm, ← hK] at hz
  obtain ⟨st, ρ, w, hb, _, hw', _, hk⟩ := (Begin.zero W).row hx
  obtain ⟨st2, ρ2, w2, hb2, hρ, hw2', x2, hk2⟩ := hb.row hz
  exact law_calls (lawX_sound namesOkN mixesN (callL_both namesOkN mixesN) Try.func35 rfl nodeAwake) hb2 (.cons (rel_gVN _ ⟨b, n, c, k⟩) (.cons (rel_ndV _ p q r _ _ _ (hw'.mono hρ) hk.one) (.cons hw2' .nil))) (g_NodeSays st2 ⟨b, n, c, k⟩ ⟨p, q, r, R⟩ w w2 L (hk.ext x2) (rel_cap hw' hc) (i64_bd hr).2 hk2 (rel_cap hw2' hcz))
end Go.Proofs.Ytdoennkmcloalaa

/-
  The law TreeBytes.
-/
import Derived.Test.YtgcpgidofikcdaaDoorTmLs
set_option linter.unusedSimpArgs false
set_option linter.unusedVariables false
namespace Go.Proofs.YtgcpgidofikcdaaDoor
open Go.RowKit Ev
theorem wrT_nil (w : Tx) : wrT [] 0 w = w := by
  unfold wrT
  split
  · rename_i h; exact h.symm
  · unfold putT padT
    simp
theorem wrT_length (d : Tx) (a : Nat) (w : Tx) : (wrT d a w).length = if w = [] then d.length else max d.length (a + w.length) := by
  unfold wrT
  split
  · rfl
  · unfold putT
    simp [padT_length]
    omega
theorem wrT_get (d : Tx) (a : Nat) (w : Tx) (j : Nat) (hj : j < (wrT d a w).length) : (wrT d a w)[j]? = some (if a ≤ j ∧ j < a + w.length then w.getD (j - a) 0 else if j < d.length then d.getD j 0 else 0) := by
  have hl := hj
  rw [wrT_length] at hl
  unfold wrT
  by_cases hw : w = []
  · subst hw
    rw [if_pos rfl] at hl ⊢
    rw [if_neg (by simp), if_pos hl, List.getElem?_eq_getElem hl]
    simp [List.getD, List.getElem?_eq_getElem hl]
  · rw [if_neg hw] at hl ⊢
    have hp : ∀ k, k < max d.length (a + w.length) → (padT d (max d.length (a + w.length)))[k]? = some (if k < d.length then d.getD k 0 else 0) := fun k hk => by
      unfold padT
      rw [List.take_of_length_le (by omega)]
      by_cases h : k < d.length
      · rw [List.getElem?_append_left h, if_pos h, List.getElem?_eq_getElem h]
        simp [List.getD, List.getElem?_eq_getElem h]
      · rw [List.getElem?_append_right (by omega), if_neg h, List.getElem?_replicate, if_pos (by omega)]
    have hpl := padT_length d (max d.length (a + w.length))
    unfold putT
    rw [List.append_assoc]
    by_cases h1 : j < a
    · rw [List.getElem?_append_left (by rw [List.length_take]; omega), List.getElem?_take, if_pos h1, hp j hl, if_neg (show ¬ (a ≤ j ∧ j < a + w.length) by omega)]
    · rw [List.getElem?_append_right (by rw [List.length_take]; omega), List.length_take, hpl, show min a (max d.length (a + w.length)) = a by omega]
      by_cases h2 : j < a + w.length
      · have h3 : j - a < w.length := by omega
        rw [List.getElem?_append_left h3, if_pos ⟨by omega, h2⟩, List.getElem?_eq_getElem h3]
        simp [List.getD, List.getElem?_eq_getElem h3]
      · rw [List.getElem?_append_right (by omega), List.getElem?_drop, show a + w.length + (j - a - w.length) = j by omega, hp j hl, if_neg (show ¬ (a ≤ j ∧ j < a + w.length) by omega)]
/-- bytes in a block of one's own -/
def WAt (s : St) (wb sz : Nat) (W : Nat → Nat) : Prop := wb < s.nx ∧ ∃ t, s.h.get wb = some (.cs 5 sz t) ∧ ∀ j, j < sz → t.get j = some (.int .u8 (W j : Int))
theorem WAt.put {s : St} {wb sz : Nat} {W W' : Nat → Nat} {t : T V} (hl : wb < s.nx) (ht : ∀ j, j < sz → t.get j = some (.int .u8 (W j : Int))) (i v : Nat) (h : ∀ j, j < sz → W' j = if j = i then v else W j) : WAt ⟨s.nx, s.h.set wb (.cs 5 sz (t.set i (.int .u8 (v : Int))))⟩ wb sz W' := by
  refine ⟨hl, _, T.get_set_same _ _ _, fun j hj => ?_⟩
  rw [h j hj]
  by_cases e : j = i
  · subst e; rw [if_pos rfl, T.get_set_same]
  · rw [if_neg e, T.get_set_ne _ _ (Ne.symm e)]; exact ht j hj
structure lbE (y0 y2 : V) (pa fr n : Nat) (q b12 sz : Nat) (e : Env) : Prop where
  g0 : e.get 0 = some y0
  g1 : e.get 1 = some (.int .i64 (pa : Int))
  g2 : e.get 2 = some y2
  g3 : e.get 3 = some (.int .i64 (fr : Int))
  g4 : e.get 4 = some (.int .i64 (n : Int))
  g11 : e.get 11 = some (.p q 0)
  g12 : e.get 12 = some (.p b12 0)
  g13 : e.get 13 = some (.int .i64 (sz : Int))
theorem nodeR_err (i : Nat) : (nodeR i).err = 0 := rfl
structure lbF (fr n : Nat) (q b12 wb sz : Nat) (e : Env) : Prop where
  g3 : e.get 3 = some (.int .i64 (fr : Int))
  g4 : e.get 4 = some (.int .i64 (n : Int))
  g11 : e.get 11 = some (.p q 0)
  g12 : e.get 12 = some (.p b12 0)
  g13 : e.get 13 = some (.int .i64 (sz : Int))
  g14 : e.get 14 = some (.sl wb 0 sz sz)
def lbW1 (F : Tx) (i : Nat) : Nat → Nat := fun j => if j < i then F.getD j 0 else 0
def lbW2 (F D : Tx) (pa i : Nat) : Nat → Nat := fun j => if pa ≤ j ∧ j < pa + i then D.getD (j - pa) 0 else lbW1 F F.length j
def lbI1 (y0 y2 : V) (F : Tx) (pa fr n : Nat) (q b12 sz : Nat) (s1 : St) (e : Env) (s : St) : Prop := ∃ i, i ≤ F.length ∧ lbE y0 y2 pa fr n q b12 sz e ∧ e.get 14 = some (.sl s1.nx 0 sz sz) ∧ e.get 15 = some (.int .i64 (i : Int)) ∧ WAt s s1.nx sz (lbW1 F i) ∧ Ext s1.nx s1 s
def lbI2 (y0 y2 : V) (F D : Tx) (pa fr n : Nat) (q b12 sz : Nat) (s1 : St) (e : Env) (s : St) : Prop := ∃ i, i ≤ D.length ∧ lbE y0 y2 pa fr n q b12 sz e ∧ e.get 14 = some (.sl s1.nx 0 sz sz) ∧ e.get 16 = some (.int .i64 (i : Int)) ∧ WAt s s1.nx sz (lbW2 F D pa i) ∧ Ext s1.nx s1 s
set_option maxRecDepth 20000 in
set_option maxHeartbeats 16000000 in
theorem g_TreeBytes (st : St) (y z : Nat → V) (F D : Tx) (pa0 fr0 n0 : Int) (hy : (rowC yC).at' st y F) (hz : (rowC yC).at' st z D) :
    Gd (lawX Tryd.prog tmF 9 ⟨false, [], 0, 0⟩ 7 [y 0, .int .i64 pa0, z 0, .int .i64 fr0, .int .i64 n0] st) fun r => r.1 = .bool true := by
  rw [Gd_lawX Tryd.func7 rfl]
  by_cases c1 : (1000 : Int) < (F.length : Int)
  · simp [evOp_call, sets, T.get_set, oracF_cons, rowC_len hy, rowC_len hz, c1]
  by_cases c2 : pa0 < 0
  · simp [evOp_call, sets, T.get_set, oracF_cons, rowC_len hy, rowC_len hz, c1, c2]
  by_cases c3 : 2000 < pa0
  · simp [evOp_call, sets, T.get_set, oracF_cons, rowC_len hy, rowC_len hz, c1, c2, c3]
  by_cases c4 : (1000 : Int) < (D.length : Int)
  · simp [evOp_call, sets, T.get_set, oracF_cons, rowC_len hy, rowC_len hz, c1, c2, c3, c4]
  by_cases c5 : fr0 < 0
  · simp [evOp_call, sets, T.get_set, oracF_cons, rowC_len hy, rowC_len hz, c1, c2, c3, c4, c5]
  by_cases c6 : n0 < 0
  · simp [evOp_call, sets, T.get_set, oracF_cons, rowC_len hy, rowC_len hz, c1, c2, c3, c4, c5, c6]
  by_cases c7 : 6000 < n0
  · simp [evOp_call, sets, T.get_set, oracF_cons, rowC_len hy, rowC_len hz, c1, c2, c3, c4, c5, c6, c7]
  by_cases c8 : 6000 < fr0
  · simp [evOp_call, sets, T.get_set, oracF_cons, rowC_len hy, rowC_len hz, c1, c2, c3, c4, c5, c6, c7, c8]
  obtain ⟨pa, rfl⟩ := Int.eq_ofNat_of_zero_le (show 0 ≤ pa0 by omega)
  obtain ⟨fr, rfl⟩ := Int.eq_ofNat_of_zero_le (show 0 ≤ fr0 by omega)
  obtain ⟨n, rfl⟩ := Int.eq_ofNat_of_zero_le (show 0 ≤ n0 by omega)
  simp [evOp_call, sets, T.get_set, oracF_cons, rowC_len hy, rowC_len hz, c1, c2, c3, c4, c5, c6, c7, c8]
  rw [tmF_ne rfl]
  refine Gd.mono (newT_any st 10 _) ?_
  rintro ⟨r, s0⟩ ⟨q, m, x, Y0, Z0, hr, TG, hm, hq, x0⟩
  simp only at hr TG x0
  subst hr
  rw [show nodesN 10 = 10 by decide] at TG
  have T0 : TrN st s0 q m 10 0 x Y0 Z0 newE noB noB := ⟨TG, newE_ok (by decide), x0, hq, hm, fun b h => h.elim, fun b h => h.elim⟩
  simp [evOp_call, sets, T.get_set, oracF_cons]
  refine Gd.mono (T0.doC (o := (2, [47, 102], [], 0, 0, [])) (y := .c (.slice none 0 0)) (by omega) (opIn_nil st 2 (okS_two (by decide)) okS_nil 0 0 (by decide)) (heavy_small (by simp) (by simp) (by simp)) ((do2 10 newE _ _ _ _ _).trans (make_g nm_f)) _) ?_
  rintro ⟨r, s1⟩ ⟨ry1, rz1, Y1, Z1, LB1, DB1, hr, _, _, T1, _⟩
  simp only at hr T1
  subst hr
  have hF := rowC_y hy
  have hD := rowC_y hz
  have hFl : F.length ≤ 1000 := by omega
  have hDl : D.length ≤ 1000 := by omega
  have hFo := hF.1.one
  have hDo := hD.1.one
  simp [evOp_call, sets, T.get_set, oracF_cons, hFo]
  have hent : entT [102] [([102], 3)] = some 3 := by decide
  refine Gd.mono (T1.doC (o := (10, [47, 102], [], 0, 0, F)) (y := y 0) (by omega) ⟨okS_two (by decide), okS_nil, ⟨by show (-9223372036854775808 : Int) ≤ 0; decide, by show (0 : Int) ≤ 9223372036854775807; decide⟩, hF.1, hF.2⟩ (heavy_small (by simp) (by simp) (by show F.length ≤ 5000; omega)) ((do10 10 _ _ _ _ _ _).trans (write_g nm_f hent 0 F (by omega))) _) ?_
  rintro ⟨r, s2⟩ ⟨ry2, rz2, Y2, Z2, LB2, DB2, hr, _, _, T2, _⟩
  simp only at hr T2
  subst hr
  rw [wrT_nil] at T2
  simp [evOp_call, sets, T.get_set, oracF_cons, hDo]
  refine Gd.mono (T2.doC (o := (10, [47, 102], [], (pa : Int), 0, D)) (y := z 0) (by omega) ⟨okS_two (by decide), okS_nil, ⟨by show -9223372036854775808 ≤ (pa : Int); omega, by show (pa : Int) ≤ 9223372036854775807; omega⟩, hD.1, hD.2⟩ (heavy_small (by simp) (by simp) (by show D.length ≤ 5000; omega)) ((do10 10 _ _ _ _ _ _).trans (write_g nm_f hent pa D (by omega))) _) ?_
  rintro ⟨r, s3⟩ ⟨ry3, rz3, Y3, Z3, LB3, DB3, hr, hry3, hrz3, T3, _⟩
  simp only at hr T3
  subst hr
  have ryo := hry3.one
  have rzo := hrz3.one
  have hszl := wrT_length F pa D
  obtain ⟨sz, hsz⟩ : ∃ sz, sz = (wrT F pa D).length := ⟨_, rfl⟩
  obtain ⟨tb, htb⟩ : ∃ tb : T V, tb = sets [.int .i64 0, .int .i64 3, .int .i64 0, .int .i64 0, .int .i64 (sz : Int), ry3, rz3] 0 (sets [.int .i64 0, .int .i64 0, .int .i64 0, .int .i64 0, .int .i64 0, .c (.slice none 0 0), .c (.slice none 0 0)] 0 .lf) := ⟨_, rfl⟩
  have x4 := (Ext.refl s3.nx s3).new (Nat.le_refl _) (.cs 34 7 tb)
  have T4 := T3.more x4
  simp [evOp_call, sets, T.get_set, oracF_cons, newC_is, cellsOf, storeK_g, putB_eq, roT, ryo, rzo, -seqC_n]
  have he4 : (⟨s3.nx + 1, s3.h.set s3.nx (.cs 34 7 tb)⟩ : St) = ⟨s3.nx + 1, s3.h.set s3.nx (.cs 34 7 tb)⟩ := rfl
  obtain ⟨s4, hs4⟩ : ∃ s4 : St, s4 = ⟨s3.nx + 1, s3.h.set s3.nx (.cs 34 7 tb)⟩ := ⟨_, rfl⟩
  rw [← hs4] at x4 T4
  have k4 : s4.h.get s3.nx = some (.cs 34 7 tb) := by rw [hs4]; exact T.get_set_same _ _ _
  have t4 : tb.get 0 = some (.int .i64 0) ∧ tb.get 4 = some (.int .i64 (sz : Int)) := by rw [htb]; exact ⟨by simp [sets, T.get_set], by simp [sets, T.get_set]⟩
  simp only [sets] at htb
  rw [hsz] at htb
  have n4 : s4.nx = s3.nx + 1 := by rw [hs4]
  rw [htb] at hs4
  rw [seqC_n]
  refine Gd_seqJ (JE fun e' s' => lbE (y 0) (z 0) pa fr n q s3.nx F.length e' ∧ s' = s4) ?_ ?_
  · simp [evOp_call, sets, T.get_set, rowC_len hy]
    refine ⟨_, _, rfl, by constructor <;> simp [T.get_set], ?_⟩
    rw [hs4]
    rfl
  rintro _ ⟨e, s, rfl, hE, rfl⟩
  rw [seqC_n]
  have hszl' : (sz : Int) = if D = [] then (F.length : Int) else max (F.length : Int) ((pa : Int) + (D.length : Int)) := by
    rw [hsz, hszl]
    split
    · rfl
    · omega
  have hsz3 : sz ≤ 3000 := by rw [hsz, hszl]; split <;> omega
  have hFs : F.length ≤ sz := by rw [hsz, hszl]; split <;> omega
  refine Gd_seqJ (JE fun e' s' => lbE (y 0) (z 0) pa fr n q s3.nx sz e' ∧ s' = s) ?_ ?_
  · obtain ⟨g0, g1, g2, g3, g4, g11, g12, g13⟩ := hE
    by_cases cd : D = []
    · have hv : (sz : Int) = F.length := by rw [hszl', if_pos cd]
      have hd0 : D.length = 0 := by rw [cd]; rfl
      simp [evOp_call, T.get_set, g0, g1, g2, g3, g4, g11, g12, g13, rowC_len hy, rowC_len hz, hd0]
      exact ⟨_, _, rfl, by constructor <;> simp [T.get_set, g0, g1, g2, g3, g4, g11, g12, g13, hv], rfl⟩
    · have hd0 : 0 < D.length := Nat.pos_of_ne_zero fun h => cd (List.length_eq_zero_iff.1 h)
      have hd1 : (0 : Int) < (D.length : Int) := by omega
      have hw : IntKind.i64.wrap ((pa : Int) + (D.length : Int)) = (pa : Int) + (D.length : Int) := wrap_in (by omega) (by omega)
      rw [if_neg cd] at hszl'
      by_cases cf : (F.length : Int) < (pa : Int) + (D.length : Int)
      · have hv : (sz : Int) = (pa : Int) + (D.length : Int) := by omega
        simp [evOp_call, T.get_set, g0, g1, g2, g3, g4, g11, g12, g13, rowC_len hy, rowC_len hz, hd0, hd1, hw, cf]
        exact ⟨_, _, rfl, by constructor <;> simp [T.get_set, g0, g1, g2, g3, g4, g11, g12, g13, hv], rfl⟩
      · have hv : (sz : Int) = F.length := by omega
        simp [evOp_call, T.get_set, g0, g1, g2, g3, g4, g11, g12, g13, rowC_len hy, rowC_len hz, hd0, hd1, hw, cf]
        exact ⟨_, _, rfl, by constructor <;> simp [T.get_set, g0, g1, g2, g3, g4, g11, g12, g13, hv], rfl⟩
  clear hE
  rintro _ ⟨e, s', rfl, hE, hs'⟩
  rw [seqC_n, hs']
  clear hs' s'
  obtain ⟨g0, g1, g2, g3, g4, g11, g12, g13⟩ := hE
  simp [evOp_call, T.get_set, g13]
  refine Gd_make (i := .i64) (i' := .i64) (n := sz) (q := sz) (zs := [.int .u8 0]) (fun k => el27 k) io5 (fun k => ze5 k) (by simp [T.get_set]) (by simp [T.get_set]) (Nat.le_refl _) (by omega) ?_
  simp [evOp_call, T.get_set]
  have hrl : (rep [V.int .u8 0] sz).length = sz := rep1_len _ _
  have x5 := (Ext.refl s.nx s).new (Nat.le_refl _) (.cs 5 (rep [V.int .u8 0] sz).length (sets (rep [V.int .u8 0] sz) 0 .lf))
  refine Gd_loop (lbI1 (y 0) (z 0) F pa fr n q s3.nx sz s) (fun e _ => muAt 15 F.length e) ?_ ?_
  · refine ⟨0, Nat.zero_le _, by constructor <;> simp [T.get_set, g0, g1, g2, g3, g4, g11, g12, g13], by simp [T.get_set], by simp [T.get_set], ⟨Nat.lt_succ_self _, _, by rw [T.get_set_same, hrl], fun j hj => ?_⟩, x5⟩
    rw [get_sets, if_pos ⟨Nat.zero_le _, by rw [hrl]; omega⟩, rep_one, Nat.sub_zero, List.getElem?_replicate, if_pos hj]
    rfl
  clear g0 g1 g2 g3 g4 g11 g12 g13
  rintro e1 s6 ⟨i, hi, ⟨g0, g1, g2, g3, g4, g11, g12, g13⟩, g14, g15, ⟨hwl, tw, hwg, hwt⟩, x6⟩
  have hx6 : Ext st.nx st s6 := T4.ext.trans (x6.mono T4.ext.le)
  by_cases hlt : i < F.length
  · have hlt' : (i : Int) < (F.length : Int) := by omega
    have hwi := wrap_nat (n := i) (by omega)
    obtain ⟨m1, o1, ty1, sz1, tr1, i1, b1, kk1, l1, cc1⟩ := (hF.1.ext hx6).idx (st := s6) un27 io5 hlt
    have d1 : tr1.get o1 = some (.int .u8 (F[i] : Int)) := by
      have := cc1 0 (.int .u8 (F[i] : Int)) (by omega) (by simp [yv, List.getElem?_eq_getElem hlt])
      simpa using this
    have his : i < sz := by omega
    have his2 : i + 1 ≤ sz := his
    simp [evOp_call, T.get_set, g0, g1, g2, g3, g4, g11, g12, g13, g14, g15, hlt', rowC_len hy, i1, loadE_eq, getC_eq, getsB_succ, getsB_zero, kk1, d1, his, his2, hwi, putB_eq, hwg, roT, sets]
    refine ⟨⟨i + 1, hlt, by constructor <;> simp [T.get_set, g0, g1, g2, g3, g4, g11, g12, g13], by simp [T.get_set, g14], by simp [T.get_set], WAt.put hwl hwt i F[i] fun j hj => ?_, x6.set (Nat.le_refl _) hwl _⟩, muAt_lt g15 (by simp [T.get_set]) hlt⟩
    unfold lbW1
    by_cases e : j = i
    · subst e
      rw [if_pos rfl, if_pos (by omega)]
      simp [List.getD, List.getElem?_eq_getElem hlt]
    · rw [if_neg e]
      by_cases h : j < i
      · rw [if_pos h, if_pos (by omega)]
      · rw [if_neg h, if_neg (by omega)]
  obtain rfl : i = F.length := by omega
  simp [evOp_call, T.get_set, g0, g1, g2, g3, g4, g11, g12, g13, g14, g15, rowC_len hy]
  refine Gd_loop (lbI2 (y 0) (z 0) F D pa fr n q s3.nx sz s) (fun e _ => muAt 16 D.length e) ?_ ?_
  · refine ⟨0, Nat.zero_le _, by constructor <;> simp [T.get_set, g0, g1, g2, g3, g4, g11, g12, g13], by simp [T.get_set, g14], by simp [T.get_set], ⟨hwl, tw, hwg, fun j hj => ?_⟩, x6⟩
    rw [hwt j hj]
    unfold lbW2
    rw [if_neg (by omega)]
  clear g0 g1 g2 g3 g4 g11 g12 g13 g14 g15 hwl hwg hwt x6 hx6 e tw
  rintro e2 s7 ⟨i, hi, ⟨g0, g1, g2, g3, g4, g11, g12, g13⟩, g14, g16, ⟨hwl, tw, hwg, hwt⟩, x7⟩
  have hx7 : Ext st.nx st s7 := T4.ext.trans (x7.mono T4.ext.le)
  by_cases hlt : i < D.length
  · have hlt' : (i : Int) < (D.length : Int) := by omega
    have hwi := wrap_nat (n := i) (by omega)
    have cd : ¬ D = [] := fun h => by rw [h] at hlt; cases hlt
    rw [if_neg cd] at hszl'
    obtain ⟨k, hk⟩ : ∃ k, k = pa + i := ⟨_, rfl⟩
    have hwk : IntKind.i64.wrap ((pa : Int) + (i : Int)) = (k : Int) := by rw [wrap_in (by omega) (by omega)]; omega
    obtain ⟨m1, o1, ty1, sz1, tr1, i1, b1, kk1, l1, cc1⟩ := (hD.1.ext hx7).idx (st := s7) un27 io5 hlt
    have d1 : tr1.get o1 = some (.int .u8 (D[i] : Int)) := by
      have := cc1 0 (.int .u8 (D[i] : Int)) (by omega) (by simp [yv, List.getElem?_eq_getElem hlt])
      simpa using this
    have his : k < sz := by omega
    have his2 : k + 1 ≤ sz := his
    simp [evOp_call, T.get_set, g0, g1, g2, g3, g4, g11, g12, g13, g14, g16, hlt', rowC_len hz, i1, loadE_eq, getC_eq, getsB_succ, getsB_zero, kk1, d1, his, his2, hwi, hwk, putB_eq, hwg, roT, sets]
    refine ⟨⟨i + 1, hlt, by constructor <;> simp [T.get_set, g0, g1, g2, g3, g4, g11, g12, g13], by simp [T.get_set, g14], by simp [T.get_set], WAt.put hwl hwt k D[i] fun j hj => ?_, x7.set (Nat.le_refl _) hwl _⟩, muAt_lt g16 (by simp [T.get_set]) hlt⟩
    unfold lbW2
    by_cases e : j = k
    · subst e
      rw [if_pos rfl, if_pos (by omega), hk, Nat.add_sub_cancel_left]
      simp [List.getD, List.getElem?_eq_getElem hlt]
    · rw [if_neg e]
      by_cases h : pa ≤ j ∧ j < pa + i
      · rw [if_pos h, if_pos (by omega)]
      · rw [if_neg h, if_neg (by omega)]
  obtain rfl : i = D.length := by omega
  -- the bytes are those that the file has
  have hW : RdRow s7 (.sl s.nx 0 sz sz) 1 sz (yv (wrT F pa D)) := by
    refine ⟨by rw [yv_length, Nat.mul_one]; exact hsz.symm, .inr (.inl ⟨s.nx, 0, sz, _, sz, tw, rfl, hwl, hwg, by omega, fun j v hj => ?_⟩)⟩
    obtain ⟨b, hb1, hb2⟩ := yv_of hj
    have hjs := lt_of_get hb1
    have := wrT_get F pa D j hjs
    rw [hb1] at this
    injection this with this
    rw [Nat.zero_add, hwt j (by omega), hb2, this]
    rfl
  simp [evOp_call, T.get_set, g0, g1, g2, g3, g4, g11, g12, g13, g14, g16, rowC_len hz, -seqC_n]
  rw [seqC_n]
  simp [T.get_set, -seqC_n]
  rw [seqC_n]
  have hok : okS (wrT F pa D) := (T4.ok.dat 3).1
  obtain ⟨B, hB⟩ : ∃ B, B = wrT F pa D := ⟨_, rfl⟩
  rw [← hB] at hW hok hsz
  refine Gd_seqJ (JE fun e' s' => lbF fr n q s3.nx s.nx sz e' ∧ e'.get 17 = some (.s []) ∧ s' = s7) ?_ ?_
  · simp [evOp_call, T.get_set]
    exact ⟨_, _, rfl, by constructor <;> simp [T.get_set, g3, g4, g11, g12, g13, g14], by simp [T.get_set], rfl⟩
  clear g0 g1 g2 g3 g4 g11 g12 g13 g14 g16 e2
  rintro _ ⟨e, s', rfl, ⟨g3, g4, g11, g12, g13, g14⟩, g17, hs'⟩
  rw [seqC_n, hs']
  clear hs' s'
  refine Gd_seqJ (JE fun e' s' => lbF fr n q s3.nx s.nx sz e' ∧ e'.get 17 = some (.s (B.drop fr)) ∧ s' = s7) ?_ ?_
  · by_cases cf : fr < sz
    · have cf' : (fr : Int) < (sz : Int) := by omega
      simp [evOp_call, T.get_set, g3, g4, g11, g12, g13, g14, g17, cf, cf']
      refine Gd_slcLo (k := fr) (i := .i64) un27 io5 hW (fun _ _ _ _ e => by cases e; exact Nat.le_refl _) (by simp [T.get_set]) (by omega) ?_
      intro v hv hvc hvb
      have hv2 : RdRow s7 v 1 (B.drop fr).length (yv (B.drop fr)) := by
        rw [List.length_drop, ← hsz]
        have e1 : yv (B.drop fr) = (yv B).drop fr := by unfold yv; rw [List.map_drop]
        rw [e1]
        exact hv
      simp [evOp_call, T.get_set]
      rw [conv_bytes hv2 (hok.drop fr) (fun _ _ => rfl)]
      simp [T.get_set]
      exact ⟨_, _, rfl, by constructor <;> simp [T.get_set, g3, g4, g11, g12, g13, g14], by simp [T.get_set], rfl⟩
    · have cf' : ¬ (fr : Int) < (sz : Int) := by omega
      have hd : B.drop fr = [] := List.drop_eq_nil_of_le (by omega)
      simp [evOp_call, T.get_set, g3, g4, g11, g12, g13, g14, g17, cf, cf']
      exact ⟨_, _, rfl, by constructor <;> simp [T.get_set, g3, g4, g11, g12, g13, g14], by simp [T.get_set, g17, hd], rfl⟩
  clear g3 g4 g11 g12 g13 g14 g17 e
  rintro _ ⟨e, s', rfl, ⟨g3, g4, g11, g12, g13, g14⟩, g17, hs'⟩
  rw [seqC_n, hs']
  clear hs' s'
  refine Gd_seqJ (JE fun e' s' => lbF fr n q s3.nx s.nx sz e' ∧ e'.get 17 = some (.s ((B.drop fr).take n)) ∧ s' = s7) ?_ ?_
  · obtain ⟨C, hC⟩ : ∃ C, C = B.drop fr := ⟨_, rfl⟩
    rw [← hC] at g17 ⊢
    by_cases cf : n < C.length
    · have cf' : (n : Int) < (C.length : Int) := by omega
      simp [evOp_call, T.get_set, g3, g4, g11, g12, g13, g14, g17, len_str un9, cf, cf']
      rw [sliceK_strHi (k := n) (i := .i64) un9 C (by simp [T.get_set]) (by omega)]
      simp [T.get_set]
      exact ⟨_, _, rfl, by constructor <;> simp [T.get_set, g3, g4, g11, g12, g13, g14], by simp [T.get_set], rfl⟩
    · have cf' : ¬ (n : Int) < (C.length : Int) := by omega
      simp [evOp_call, T.get_set, g3, g4, g11, g12, g13, g14, g17, len_str un9, cf, cf']
      exact ⟨_, _, rfl, by constructor <;> simp [T.get_set, g3, g4, g11, g12, g13, g14], by simp [T.get_set, g17, List.take_of_length_le (show C.length ≤ n by omega)], rfl⟩
  clear g3 g4 g11 g12 g13 g14 g17 e
  rintro _ ⟨e, s', rfl, ⟨g3, g4, g11, g12, g13, g14⟩, g17, hs'⟩
  rw [seqC_n, hs']
  clear hs' s'
  have T7 := T4.more x7
  simp [evOp_call, T.get_set, g3, g4, g11, g12, g13, g14, g17, oracF_cons]
  refine Gd.mono (T7.doC (o := (9, [47, 102], [], (fr : Int), (n : Int), [])) (y := .c (.slice none 0 0)) (by omega) (opIn_nil st 9 (okS_two (by decide)) okS_nil _ _ (by omega)) (heavy_small (by simp) (by simp) (by simp)) ((do9 10 _ _ _ _ _ _).trans (read_g nm_f hent fr n)) _) ?_
  rintro ⟨r, s8⟩ ⟨ry, rz, Y8, Z8, LB8, DB8, hr, hry, hrz, T8, F8⟩
  simp only at hr hry hrz T8 F8
  subst hr
  rw [← hB] at hry
  have hry' : RdRow s8 ry 1 ((B.drop fr).take n).length (yv ((B.drop fr).take n)) := hry
  have l3 := T3.tr.lt
  have k8 : s8.h.get s3.nx = some (.cs 34 7 tb) := (F8.keep s3.nx (by have := x7.le; omega) (by omega) (fun h => by have := (T3.tr.lb _ h).1; omega)).trans ((x7.keep s3.nx (by omega)).trans k4)
  have hle8 := F8.le
  have x9 := fun w => (Ext.refl s8.nx s8).new (Nat.le_refl _) w
  have ro := hry'.one
  have zo := hrz.one
  have hne : ¬ s8.nx = s3.nx := by have := x7.le; omega
  simp [evOp_call, T.get_set, g3, g4, g11, g12, g13, g14, g17, oracF_cons, newC_is, cellsOf, storeK_g, putB_eq, roT, ro, zo, sets, loadE_eq, getC_eq, getsB_succ, getsB_zero, k8, t4.1, t4.2, hne, nodeR_err]
  rw [conv_bytes (hry'.ext (x9 _)) ((hok.drop fr).take n) (fun _ _ => rfl)]
  simp [evOp_call, T.get_set, g17]
theorem w_TreeBytes (F : Tx) (pa : Int) (D : Tx) (fr n : Int) (W : World) (x : Value) (hx : (rowC yC).rel W (fun j => [x][j]?.getD default) F) (_ : -9223372036854775808 ≤ pa ∧ pa ≤ 9223372036854775807) (x2 : Value) (hx2 : (rowC yC).rel W (fun j => [x2][j]?.getD default) D) (_ : -9223372036854775808 ≤ fr ∧ fr ≤ 9223372036854775807) (_ : -9223372036854775808 ≤ n ∧ n ≤ 9223372036854775807) :
    Calls Tryd.prog 7 #[x, .int .i64 pa, x2, .int .i64 fr, .int .i64 n] W fun e W' => e = .returned (.bool true) ∧ Below W.heap.size W W' := by
  obtain ⟨s1, r1, v1, b1, l1, q1, e1, a1⟩ := (rowC yC).enter (Begin.zero W) hx
  obtain ⟨s2, r2, v2, b2, l2, q2, e2, a2⟩ := (rowC yC).enter b1 hx2
  exact law_calls treeLaw b2 (.cons (Rel.mono l2 _ _ (q1 0 (by decide)).2) (.cons (rel_int _ _) (.cons (q2 0 (by decide)).2 (.cons (rel_int _ _) (.cons (rel_int _ _) .nil))))) (g_TreeBytes s2 v1 v2 F D pa fr n ((rowC yC).ext a1 e2) a2)
end Go.Proofs.YtgcpgidofikcdaaDoor

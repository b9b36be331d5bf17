/-
  The law TreeLinks.
-/
import Derived.Test.YtgcpgidofikcdaaDoorTmLs
set_option linter.unusedSimpArgs false
set_option linter.unusedVariables false
namespace Go.Proofs.YtgcpgidofikcdaaDoor
open Go.RowKit Ev
def LK (j : Nat) : List (Tx × Nat) := (List.range j).map fun i => ([48 + i], 3)
theorem ent_LK : ∀ n, n < 9 → ∀ i, i < n → entT [48 + i] (LK n) = some 3 := by decide
theorem no_LK : ∀ j, j < 8 → entT [48 + j] (LK j) = none := by decide
theorem ins_LK : ∀ j, j < 8 → insT (cntT [48 + j] (LK j)) ([48 + j], 3) (LK j) = LK (j + 1) := by decide
theorem ent_LD : ∀ n, n < 9 → ∀ i, i < n → entT [48 + i] ((LK n).drop i) = some 3 := by decide
theorem era_LD : ∀ n, n < 9 → ∀ i, i < n → ((LK n).drop i).eraseIdx (cntT [48 + i] ((LK n).drop i)) = (LK n).drop (i + 1) := by decide
/-- when the first i names are gone -/
def UE (n : Nat) (d : Tx) (i : Nat) : Tr := if i = n then newE else gE ((LK n).drop i) ((n : Int) - (i : Int)) d
theorem unlink_UE {n i : Nat} {d : Tx} (hn : n < 9) (hi : i < n) : unlinkE (UE n d i) [47, 48 + i] = (nodeR 3, UE n d (i + 1)) := by
  have e : UE n d i = gE ((LK n).drop i) ((n : Int) - (i : Int)) d := if_neg (by omega)
  rw [e, unlink_g (nm_d i (by omega)) (ent_LD n hn i hi) (by omega), era_LD n hn i hi]
  congr 1
  unfold UE
  by_cases h : i + 1 = n
  · rw [if_pos (by omega), if_pos h]
    have e2 : (LK n).drop (i + 1) = [] := by
      rw [List.drop_eq_nil_iff]
      unfold LK
      simp
      omega
    rw [e2]
    exact gone_g d
  · rw [if_neg (by omega), if_neg h, show (n : Int) - ((i + 1 : Nat) : Int) = (n : Int) - (i : Int) - 1 by omega]
theorem wrap_u8 {i : Nat} (h : i < 8) : IntKind.u8.wrap (i : Int) = (i : Int) ∧ IntKind.u8.wrap (48 + (i : Int)) = ((48 + i : Nat) : Int) := by
  rcases (show i = 0 ∨ i = 1 ∨ i = 2 ∨ i = 3 ∨ i = 4 ∨ i = 5 ∨ i = 6 ∨ i = 7 by omega) with rfl | rfl | rfl | rfl | rfl | rfl | rfl | rfl <;> decide
theorem conv8 (c : Cx) (st : St) (n : Int) : convE Tryd.prog c st 3 5 (.int .i64 n) = some (.int .u8 (IntKind.u8.wrap n), st) := conv_int (by rw [un3]; rfl) un5 n
theorem one_row (s : St) (i : Nat) : RdRow ⟨s.nx + 1, s.h.set s.nx (.cs 5 1 (sets [.int .u8 (48 + (i : Int))] 0 .lf))⟩ (.sl s.nx 0 1 1) 1 [48 + i].length (yv [48 + i]) := by
  refine ⟨rfl, .inr (.inl ⟨s.nx, 0, 1, _, _, _, rfl, Nat.lt_succ_self _, T.get_set_same _ _ _, Nat.le_refl _, fun j v hj => ?_⟩)⟩
  cases j with
  | zero =>
    have e : (yv [48 + i])[0]? = some (.int .u8 ((48 + i : Nat) : Int)) := rfl
    rw [e] at hj
    injection hj with hj
    rw [← hj]
    simp [sets, T.get_set]
  | succ j => simp [yv] at hj
theorem add_one (i : Nat) (st : St) (x y : Operand) : binE Tryd.prog st .add 9 x y (.s [47]) (.s [48 + i]) = some (.s [47, 48 + i], st) := bin_sadd [47] [48 + i] (by simp)
theorem okS_one {i : Nat} (h : i < 8) : okS [48 + i] := fun x hx => by simp at hx; omega
theorem fdRes0 (a0 a1 a2 a3 a4 a5 a6 : V) (k : V → Res) : fldK Tryd.prog 34 0 (.g [a0, a1, a2, a3, a4, a5, a6]) k = k a0 := by kernel_rfl
theorem wrT_nil2 (w : Tx) : wrT [] 0 w = w := by
  unfold wrT
  split
  · rename_i h; exact h.symm
  · unfold putT padT
    simp
theorem rd_keep {s s' : St} {y : V} {z k : Nat} {l : List V} (h : RdRow s y z k l) (hn : s.nx ≤ s'.nx) (hk : ∀ b, BlkOf y b → s'.h.get b = s.h.get b) : RdRow s' y z k l := by
  obtain ⟨h1, h2⟩ := h
  refine ⟨h1, ?_⟩
  rcases h2 with h2 | ⟨m, o, q, ty, sz, t, rfl, h4, h5, h6⟩ | ⟨m, o, ty, sz, t, rfl, h4, h5, h6⟩
  · exact .inl h2
  · exact .inr (.inl ⟨m, o, q, ty, sz, t, rfl, by omega, (hk m (.inl ⟨_, _, _, rfl⟩)).trans h5, h6⟩)
  · exact .inr (.inr ⟨m, o, ty, sz, t, rfl, by omega, (hk m (.inr ⟨_, _, _, rfl⟩)).trans h5, h6⟩)
theorem TrN.doD {st s : St} {q m n B : Nat} {x : V} {Y Z : Nat → V} {E : Tr} {LB DB : Nat → Prop} (h : TrN st s q m n B x Y Z E LB DB) (hB : B ≤ 900) {o : LOp} {y : V} (hi : OpIn st o y) (hv : heavyB (toOp o) = false) {R : Rs} {E' : Tr} (e : doE n E (toOp o) = (R, E')) (nt : Nat) :
    Gd (tmF ⟨false, [], 0, nt⟩ 13 [.p q 0, opV (toOp o) y] s) fun r => ∃ ry rz Y' Z' LB' DB', r.1 = resV R.err R.node R.ty R.links R.size ry rz ∧ RdRow r.2 ry 1 R.data.length (yv R.data) ∧ RdRow r.2 rz 1 R.names.length (sv R.names) ∧ TrN st r.2 q m n (B + 1) x Y' Z' E' LB' DB' ∧ FrT s r.2 m LB DB LB' DB' ∧ ∀ b, BlkOf ry b → s.nx ≤ b ∧ b < r.2.nx ∧ ¬ LB' b := by
  refine Gd.mono (h.do hB hi hv nt) ?_
  rintro ⟨r, s3⟩ ⟨ry, rz, Y3, Z3, LB3, DB3, hr, hry, hrz, TG3, F3, hbl⟩
  simp only at hr hry hrz TG3 F3
  have T3 := h.step (o := toOp o) hi.a hi.b hi.d TG3 F3
  rw [e] at hr hry hrz T3
  exact ⟨ry, rz, Y3, Z3, LB3, DB3, hr, hry, hrz, T3, F3, fun b hb => ⟨(hbl b (.inl hb)).1, Go.Proofs.YtgcpgidofikcdaaDoor.RdRow.blkLt hry hb, (hbl b (.inl hb)).2⟩⟩
structure lnE (y : V) (n dr : Nat) (q : Nat) (e : Env) : Prop where
  g0 : e.get 0 = some (.int .i64 (n : Int))
  g1 : e.get 1 = some y
  g2 : e.get 2 = some (.int .i64 (dr : Int))
  g7 : e.get 7 = some (.p q 0)
def lnI1 (st : St) (y : V) (n dr q m : Nat) (e : Env) (s : St) : Prop := ∃ (i : Nat) (x : V) (Y Z : Nat → V) (LB DB : Nat → Prop), 1 ≤ i ∧ i ≤ n ∧ lnE y n dr q e ∧ e.get 8 = some (.int .i64 (i : Int)) ∧ TrN st s q m 10 i x Y Z (gE (LK i) (i : Int) []) LB DB
def lnI2 (st : St) (y : V) (D : Tx) (n dr q m : Nat) (e : Env) (s : St) : Prop := ∃ (i : Nat) (x : V) (Y Z : Nat → V) (LB DB : Nat → Prop), i ≤ n ∧ lnE y n dr q e ∧ e.get 9 = some (.int .i64 (i : Int)) ∧ TrN st s q m 10 (n + 1 + i + i) x Y Z (gE (LK n) (n : Int) D) LB DB
def lnI3 (st : St) (y : V) (D : Tx) (n dr q m : Nat) (e : Env) (s : St) : Prop := ∃ (i : Nat) (x : V) (Y Z : Nat → V) (LB DB : Nat → Prop), i ≤ n ∧ lnE y n dr q e ∧ e.get 12 = some (.int .i64 (i : Int)) ∧ TrN st s q m 10 (n + 1 + n + n + i) x Y Z (UE n D i) LB DB
set_option maxRecDepth 20000 in
set_option maxHeartbeats 16000000 in
theorem g_TreeLinks (st : St) (z : Nat → V) (n0 : Int) (D : Tx) (dr0 : Int) (hz : (rowC yC).at' st z D) :
    Gd (lawX Tryd.prog tmF 9 ⟨false, [], 0, 0⟩ 5 [.int .i64 n0, z 0, .int .i64 dr0] st) fun r => r.1 = .bool true := by
  rw [Gd_lawX Tryd.func5 rfl]
  by_cases c1 : n0 < 1
  · simp [evOp_call, sets, T.get_set, oracF_cons, rowC_len hz, c1]
  by_cases c2 : 8 < n0
  · simp [evOp_call, sets, T.get_set, oracF_cons, rowC_len hz, c1, c2]
  by_cases c3 : (500 : Int) < (D.length : Int)
  · simp [evOp_call, sets, T.get_set, oracF_cons, rowC_len hz, c1, c2, c3]
  by_cases c4 : dr0 < 0
  · simp [evOp_call, sets, T.get_set, oracF_cons, rowC_len hz, c1, c2, c3, c4]
  by_cases c5 : n0 ≤ dr0
  · simp [evOp_call, sets, T.get_set, oracF_cons, rowC_len hz, c1, c2, c3, c4, c5]
  simp [evOp_call, sets, T.get_set, oracF_cons, rowC_len hz, c1, c2, c3, c4, c5]
  obtain ⟨n, rfl⟩ := Int.eq_ofNat_of_zero_le (show 0 ≤ n0 by omega)
  obtain ⟨dr, rfl⟩ := Int.eq_ofNat_of_zero_le (show 0 ≤ dr0 by omega)
  rw [tmF_ne rfl]
  refine Gd.mono (newT_any st 10 _) ?_
  rintro ⟨r, s0⟩ ⟨q, m, x, Y0, Z0, hr, TG, hm, hq, x0⟩
  simp only at hr TG x0
  subst hr
  rw [show nodesN 10 = 10 by decide] at TG
  have T0 : TrN st s0 q m 10 0 x Y0 Z0 newE noB noB := ⟨TG, newE_ok (by decide), x0, hq, hm, fun b h => h.elim, fun b h => h.elim⟩
  have hn8 : n ≤ 8 ∧ 1 ≤ n ∧ dr < n := by omega
  have hD := rowC_y hz
  have hDl : D.length ≤ 500 := by omega
  have hDo := hD.1.one
  simp [evOp_call, sets, T.get_set, oracF_cons]
  refine Gd.mono (T0.doC (o := (2, [47, 48], [], 0, 0, [])) (y := .c (.slice none 0 0)) (by omega) (opIn_nil st 2 (okS_two (by decide)) okS_nil 0 0 (by decide)) (heavy_small (by simp) (by simp) (by simp)) ((do2 10 newE _ _ _ _ _).trans (make_g (nm_d 0 (by decide)))) _) ?_
  rintro ⟨r, s1⟩ ⟨ry1, rz1, Y1, Z1, LB1, DB1, hr, _, _, T1, _⟩
  simp only at hr T1
  subst hr
  simp [evOp_call, sets, T.get_set, oracF_cons]
  refine Gd_loop (lnI1 st (z 0) n dr q m) (fun e _ => muAt 8 n e) ?_ ?_
  · exact ⟨1, x, Y1, Z1, LB1, DB1, Nat.le_refl _, hn8.2.1, by constructor <;> simp [T.get_set], by simp [T.get_set], T1⟩
  clear T0 T1 TG x0
  rintro e s ⟨i, x, Y, Z, LB, DB, hi1, hi, ⟨g0, g1, g2, g7⟩, g8, T0⟩
  by_cases hlt : i < n
  · have hlt' : (i : Int) < (n : Int) := by omega
    have hwi := wrap_nat (n := i) (by omega)
    obtain ⟨u1, u2⟩ := wrap_u8 (show i < 8 by omega)
    simp [evOp_call, T.get_set, g0, g1, g2, g7, g8, hlt', hwi, u1, u2, oracF_cons, conv8]
    refine evOp_build1 (v := .int .u8 (48 + (i : Int))) (cs := [.int .u8 (48 + (i : Int))]) (fun k => el27 k) (fun k => ze5 k) rfl (by decide) (by simp [T.get_set]) (fun k => rfl) rfl ?_
    have x1 := (Ext.refl s.nx s).new (Nat.le_refl _) (.cs 5 1 (sets [.int .u8 (48 + (i : Int))] 0 .lf))
    have T1 := T0.more x1
    simp [evOp_call, T.get_set]
    rw [conv_bytes (one_row s i) (okS_one (by omega)) (fun _ _ => rfl)]
    simp [evOp_call, T.get_set, g0, g1, g2, g7, g8, oracF_cons, add_one]
    refine Gd.mono (T1.doC (o := (3, [47, 48], [47, 48 + i], 0, 0, [])) (y := .c (.slice none 0 0)) (by omega) (opIn_nil st 3 (okS_two (by decide)) (okS_two (by omega)) 0 0 (by decide)) (heavy_small (by simp) (by simp) (by simp)) ((do3 10 _ _ _ _ _ _).trans (link_g (nm_d 0 (by decide)) (nm_d i (by omega)) (ent_LK i (by omega) 0 (by omega)) (no_LK i (by omega)) (by omega))) _) ?_
    rintro ⟨r, s2⟩ ⟨ry1, rz1, Y2, Z2, LB2, DB2, hr, _, _, T2, _⟩
    simp only at hr T2
    subst hr
    rw [ins_LK i (by omega)] at T2
    simp [evOp_call, T.get_set, g0, g1, g2, g7, g8, oracF_cons, hwi, nodeR, fdRes0]
    exact ⟨⟨i + 1, x, Y2, Z2, LB2, DB2, by omega, hlt, by constructor <;> simp [T.get_set, g0, g1, g2, g7], by simp [T.get_set], by rw [show ((i + 1 : Nat) : Int) = (i : Int) + 1 by omega]; exact T2⟩, muAt_lt g8 (by simp [T.get_set]) hlt⟩
  obtain rfl : i = n := by omega
  obtain ⟨u1, u2⟩ := wrap_u8 (show dr < 8 by omega)
  simp [evOp_call, T.get_set, g0, g1, g2, g7, g8, u1, u2, oracF_cons, conv8]
  refine evOp_build1 (v := .int .u8 (48 + (dr : Int))) (cs := [.int .u8 (48 + (dr : Int))]) (fun k => el27 k) (fun k => ze5 k) rfl (by decide) (by simp [T.get_set]) (fun k => rfl) rfl ?_
  have x1 := (Ext.refl s.nx s).new (Nat.le_refl _) (.cs 5 1 (sets [.int .u8 (48 + (dr : Int))] 0 .lf))
  have T1 := T0.more x1
  simp [evOp_call, T.get_set]
  rw [conv_bytes (one_row s dr) (okS_one (by omega)) (fun _ _ => rfl)]
  have hDo' := hDo
  simp [evOp_call, T.get_set, g0, g1, g2, g7, g8, oracF_cons, add_one, hDo]
  refine Gd.mono (T1.doC (o := (10, [47, 48 + dr], [], 0, 0, D)) (y := z 0) (by omega) ⟨okS_two (by omega), okS_nil, ⟨by show (-9223372036854775808 : Int) ≤ 0; decide, by show (0 : Int) ≤ 9223372036854775807; decide⟩, hD.1, hD.2⟩ (heavy_small (by simp) (by simp) (by show D.length ≤ 5000; omega)) ((do10 10 _ _ _ _ _ _).trans (write_g (nm_d dr (by omega)) (ent_LK i (by omega) dr (by omega)) 0 D (by omega))) _) ?_
  rintro ⟨r, s2⟩ ⟨ry1, rz1, Y2, Z2, LB2, DB2, hr, _, _, T2, _⟩
  simp only at hr T2
  subst hr
  rw [wrT_nil2] at T2
  simp [evOp_call, T.get_set, g0, g1, g2, g7, g8, oracF_cons]
  refine Gd_loop (lnI2 st (z 0) D i dr q m) (fun e _ => muAt 9 i e) ?_ ?_
  · exact ⟨0, x, Y2, Z2, LB2, DB2, Nat.zero_le _, by constructor <;> simp [T.get_set, g0, g1, g2, g7], by simp [T.get_set], T2⟩
  obtain ⟨n, hn⟩ : ∃ n, n = i := ⟨_, rfl⟩
  subst hn
  clear T0 T1 T2 g0 g1 g2 g7 g8 u1 u2
  rintro e2 s3 ⟨i, x, Y, Z, LB, DB, hi, ⟨g0, g1, g2, g7⟩, g9, T0⟩
  by_cases hlt : i < n
  · have hlt' : (i : Int) < (n : Int) := by omega
    have hwi := wrap_nat (n := i) (by omega)
    obtain ⟨u1, u2⟩ := wrap_u8 (show i < 8 by omega)
    simp [evOp_call, T.get_set, g0, g1, g2, g7, g9, hlt', hwi, u1, u2, oracF_cons, conv8]
    refine evOp_build1 (v := .int .u8 (48 + (i : Int))) (cs := [.int .u8 (48 + (i : Int))]) (fun k => el27 k) (fun k => ze5 k) rfl (by decide) (by simp [T.get_set]) (fun k => rfl) rfl ?_
    have x1 := (Ext.refl s3.nx s3).new (Nat.le_refl _) (.cs 5 1 (sets [.int .u8 (48 + (i : Int))] 0 .lf))
    have T1 := T0.more x1
    simp [evOp_call, T.get_set]
    rw [conv_bytes (one_row s3 i) (okS_one (by omega)) (fun _ _ => rfl)]
    simp [evOp_call, T.get_set, g0, g1, g2, g7, g9, oracF_cons, add_one]
    refine Gd.mono (T1.doD (o := (9, [47, 48 + i], [], 0, 1000, [])) (y := .c (.slice none 0 0)) (by omega) (opIn_nil st 9 (okS_two (by omega)) okS_nil 0 1000 (by decide)) (heavy_small (by simp) (by simp) (by simp)) ((do9 10 _ _ _ _ _ _).trans (read_g (nm_d i (by omega)) (ent_LK n (by omega) i (by omega)) 0 1000)) _) ?_
    rintro ⟨r, s4⟩ ⟨ry, rz, Y4, Z4, LB4, DB4, hr, hry, hrz, T4, F4, hbl⟩
    simp only at hr hry hrz T4 F4 hbl
    subst hr
    have hry : RdRow s4 ry 1 D.length (yv D) := by
      have e : (D.drop 0).take 1000 = D := by rw [List.drop_zero, List.take_of_length_le (by omega)]
      have h : RdRow s4 ry 1 ((D.drop 0).take 1000).length (yv ((D.drop 0).take 1000)) := hry
      rw [e] at h
      exact h
    have ro := hry.one
    have zo := hrz.one
    obtain ⟨u1, u2⟩ := wrap_u8 (show i < 8 by omega)
    simp [evOp_call, T.get_set, g0, g1, g2, g7, g9, u1, u2, oracF_cons, conv8, newC_is, cellsOf, storeK_g, putB_eq, roT, ro, zo, sets]
    obtain ⟨tb, htb⟩ : ∃ tb : T V, tb = sets [.int .i64 (nodeR 3).err, .int .i64 ((nodeR 3).node : Int), .int .i64 ((nodeR 3).ty : Int), .int .i64 (nodeR 3).links, .int .i64 ((nodeR 3).size : Int), ry, rz] 0 (sets [.int .i64 0, .int .i64 0, .int .i64 0, .int .i64 0, .int .i64 0, .c (.slice none 0 0), .c (.slice none 0 0)] 0 .lf) := ⟨_, rfl⟩
    obtain ⟨s5, hs5⟩ : ∃ s5 : St, s5 = ⟨s4.nx + 1, s4.h.set s4.nx (.cs 34 7 tb)⟩ := ⟨_, rfl⟩
    have x5 : Ext s4.nx s4 s5 := by rw [hs5]; exact (Ext.refl s4.nx s4).new (Nat.le_refl _) _
    have n5 : s5.nx = s4.nx + 1 := by rw [hs5]
    have k5 : s5.h.get s4.nx = some (.cs 34 7 tb) := by rw [hs5]; exact T.get_set_same _ _ _
    have t5 : tb.get 5 = some ry := by rw [htb]; simp [sets, T.get_set]
    simp only [sets] at htb
    rw [htb] at hs5
    rw [← hs5]
    have T5 := T4.more x5
    clear x1
    refine evOp_build1 (v := .int .u8 (48 + (i : Int))) (cs := [.int .u8 (48 + (i : Int))]) (fun k => el27 k) (fun k => ze5 k) rfl (by decide) (by simp [T.get_set]) (fun k => rfl) rfl ?_
    have x6 := (Ext.refl s5.nx s5).new (Nat.le_refl _) (.cs 5 1 (sets [.int .u8 (48 + (i : Int))] 0 .lf))
    have T6 := T5.more x6
    simp [evOp_call, T.get_set]
    rw [conv_bytes (one_row s5 i) (okS_one (by omega)) (fun _ _ => rfl)]
    simp [evOp_call, T.get_set, g0, g1, g2, g7, g9, oracF_cons, add_one]
    refine Gd.mono (T6.doD (o := (12, [47, 48 + i], [], 0, 0, [])) (y := .c (.slice none 0 0)) (by omega) (opIn_nil st 12 (okS_two (by omega)) okS_nil 0 0 (by decide)) (heavy_small (by simp) (by simp) (by simp)) ((do12 10 _ _ _ _ _ _).trans (stat_g (nm_d i (by omega)) (ent_LK n (by omega) i (by omega)))) _) ?_
    rintro ⟨r, s7⟩ ⟨ry2, rz2, Y7, Z7, LB7, DB7, hr, hry2, hrz2, T7, F7, _⟩
    simp only at hr hry2 hrz2 T7 F7
    subst hr
    have l4 := T4.tr.lt
    have n6 := x6.le
    have n7 := F7.le
    have hlb4 : ∀ b, LB4 b → b < s4.nx := fun b h => (T4.tr.lb b h).1
    have k7 : s7.h.get s4.nx = some (.cs 34 7 tb) := (F7.keep s4.nx (by show s4.nx < s5.nx + 1; omega) (by omega) (fun h => by have := hlb4 _ h; omega)).trans ((x6.keep s4.nx (by omega)).trans k5)
    have hry7 : RdRow s7 ry 1 D.length (yv D) := by
      refine rd_keep ((hry.ext x5).ext x6) F7.le fun b hb => F7.keep b ?_ ?_ (hbl b hb).2.2
      · have := (hbl b hb).2.1
        show b < s5.nx + 1
        omega
      · have h : s3.nx + 1 ≤ b := (hbl b hb).1
        have := T0.tr.lt
        omega
    have ro2 := hry2.one
    have zo2 := hrz2.one
    have x8 := fun w => (Ext.refl s7.nx s7).new (Nat.le_refl _) w
    have hne : ¬ s7.nx = s4.nx := by have h : s5.nx + 1 ≤ s7.nx := n7; omega
    simp [evOp_call, T.get_set, g0, g1, g2, g7, g9, oracF_cons, newC_is, cellsOf, storeK_g, putB_eq, roT, ro2, zo2, sets, loadE_eq, getC_eq, getsB_succ, getsB_zero, k7, t5, hne]
    rw [conv_bytes (hry7.ext (x8 _)) hD.2 (fun _ _ => rfl)]
    simp [evOp_call, T.get_set, g0, g1, g2, g7, g9]
    rw [conv_bytes ((hD.1.ext T7.ext).ext (x8 _)) hD.2 (fun _ _ => rfl)]
    simp [evOp_call, T.get_set, g0, g1, g2, g7, g9, loadE_eq, getC_eq, getsB_succ, getsB_zero, hwi]
    exact ⟨⟨i + 1, x, Y7, Z7, LB7, DB7, hlt, by constructor <;> simp [T.get_set, g0, g1, g2, g7], by simp [T.get_set], by rw [show n + 1 + (i + 1) + (i + 1) = n + 1 + i + i + 1 + 1 by omega]; exact T7.more (x8 _)⟩, muAt_lt g9 (by simp [T.get_set]) hlt⟩
  obtain rfl : i = n := by omega
  simp [evOp_call, T.get_set, g0, g1, g2, g7, g9]
  refine Gd_loop (lnI3 st (z 0) D i dr q m) (fun e _ => muAt 12 i e) ?_ ?_
  · refine ⟨0, x, Y, Z, LB, DB, Nat.zero_le _, by constructor <;> simp [T.get_set, g0, g1, g2, g7], by simp [T.get_set], ?_⟩
    have e : UE i D 0 = gE (LK i) (i : Int) D := by
      unfold UE
      rw [if_neg (by omega)]
      simp
    rw [e]
    exact T0
  obtain ⟨n, hn⟩ : ∃ n, n = i := ⟨_, rfl⟩
  subst hn
  clear T0 g0 g1 g2 g7 g9
  rintro e4 s8 ⟨i, x, Y, Z, LB, DB, hi, ⟨g0, g1, g2, g7⟩, g12, T0⟩
  by_cases hlt : i < n
  · have hlt' : (i : Int) < (n : Int) := by omega
    have hwi := wrap_nat (n := i) (by omega)
    obtain ⟨u1, u2⟩ := wrap_u8 (show i < 8 by omega)
    simp [evOp_call, T.get_set, g0, g1, g2, g7, g12, hlt', hwi, u1, u2, oracF_cons, conv8]
    refine evOp_build1 (v := .int .u8 (48 + (i : Int))) (cs := [.int .u8 (48 + (i : Int))]) (fun k => el27 k) (fun k => ze5 k) rfl (by decide) (by simp [T.get_set]) (fun k => rfl) rfl ?_
    have x1 := (Ext.refl s8.nx s8).new (Nat.le_refl _) (.cs 5 1 (sets [.int .u8 (48 + (i : Int))] 0 .lf))
    have T1 := T0.more x1
    simp [evOp_call, T.get_set]
    rw [conv_bytes (one_row s8 i) (okS_one (by omega)) (fun _ _ => rfl)]
    simp [evOp_call, T.get_set, g0, g1, g2, g7, g12, oracF_cons, add_one]
    refine Gd.mono (T1.doC (o := (4, [47, 48 + i], [], 0, 0, [])) (y := .c (.slice none 0 0)) (by omega) (opIn_nil st 4 (okS_two (by omega)) okS_nil 0 0 (by decide)) (heavy_small (by simp) (by simp) (by simp)) ((do4 10 _ _ _ _ _ _).trans (unlink_UE (by omega) hlt)) _) ?_
    rintro ⟨r, s9⟩ ⟨ry, rz, Y9, Z9, LB9, DB9, hr, _, _, T9, _⟩
    simp only at hr T9
    subst hr
    simp [evOp_call, T.get_set, g0, g1, g2, g7, g12, oracF_cons, hwi, nodeR, fdRes0]
    exact ⟨⟨i + 1, x, Y9, Z9, LB9, DB9, hlt, by constructor <;> simp [T.get_set, g0, g1, g2, g7], by simp [T.get_set], T9⟩, muAt_lt g12 (by simp [T.get_set]) hlt⟩
  obtain rfl : i = n := by omega
  rw [show UE i D i = newE from if_pos rfl] at T0
  simp [evOp_call, T.get_set, g0, g1, g2, g7, g12, oracF_cons]
  rw [tmF_ne rfl]
  refine Gd.mono (newT_any s8 10 _) ?_
  rintro ⟨r, s9⟩ ⟨q2, m2, xw, Yw, Zw, hr, TG2, hm2, hq2, x9⟩
  simp only at hr TG2 x9
  subst hr
  rw [show nodesN 10 = 10 by decide] at TG2
  have T9 := T0.more x9
  simp [evOp_call, T.get_set, g0, g1, g2, g7, g12, oracF_cons]
  rw [tmF_ne rfl]
  refine Gd.mono (sameT_any T9.tr TG2 T9.ok (newE_ok (by decide)) (by omega) _) ?_
  rintro ⟨r, s10⟩ ⟨⟨b, hr, hb⟩, x10⟩
  simp only at hr x10
  subst hr
  have hbt : b = true := hb.2 ⟨rfl, fun j _ => ⟨rfl, rfl, rfl⟩⟩
  subst hbt
  have T10 := T9.more x10
  simp [evOp_call, T.get_set, g0, g1, g2, g7, g12, oracF_cons]
  refine Gd.mono (T10.doC (o := (12, [47, 48], [], 0, 0, [])) (y := .c (.slice none 0 0)) (by omega) (opIn_nil st 12 (okS_two (by decide)) okS_nil 0 0 (by decide)) (heavy_small (by simp) (by simp) (by simp)) ((do12 10 _ _ _ _ _ _).trans (stat_new (nm_d 0 (by decide)))) _) ?_
  rintro ⟨r, s11⟩ ⟨ry, rz, Y11, Z11, LB11, DB11, hr, _, _, T11, _⟩
  simp only at hr T11
  subst hr
  simp [evOp_call, T.get_set, refR, fdRes0]
theorem w_TreeLinks (n : Int) (D : Tx) (dr : Int) (W : World) (_ : -9223372036854775808 ≤ n ∧ n ≤ 9223372036854775807) (x : Value) (hx : (rowC yC).rel W (fun j => [x][j]?.getD default) D) (_ : -9223372036854775808 ≤ dr ∧ dr ≤ 9223372036854775807) :
    Calls Tryd.prog 5 #[.int .i64 n, x, .int .i64 dr] W fun e W' => e = .returned (.bool true) ∧ Below W.heap.size W W' := by
  obtain ⟨s1, r1, v1, b1, l1, q1, e1, a1⟩ := (rowC yC).enter (Begin.zero W) hx
  exact law_calls treeLaw b1 (.cons (rel_int _ _) (.cons (q1 0 (by decide)).2 (.cons (rel_int _ _) .nil))) (g_TreeLinks s1 v1 n D dr a1)
end Go.Proofs.YtgcpgidofikcdaaDoor

/-
  The law TreeMoves.
-/
import Derived.Test.YtgcpgidofikcdaaDoorTmLs
import Derived.Test.YtgcpgidofikcdaaDoorTmMv
set_option linter.unusedSimpArgs false
set_option linter.unusedVariables false
namespace Go.Proofs.YtgcpgidofikcdaaDoor
open Go.RowKit Ev
theorem do6 (n : Nat) (E : Tr) (a b d : Tx) (p k : Int) : doE n E (toOp (6, a, b, p, k, d)) = renameE E a b := by simp [doE, toOp]
theorem stat_same (E : Tr) (s : Tx) : statE E s = ((statE E s).1, E) := by
  unfold statE
  (repeat' split) <;> rfl
theorem stat_err {E : Tr} {s : Tx} (h : (statE E s).1.err = 2) : (wayE E s false).2 = 2 := by
  unfold statE at h
  split at h
  · exact h
  split at h
  · cases h
  · cases h
/-- a file system, and one that stays -/
structure Two (st s : St) (q m n B : Nat) (x : V) (Y Z : Nat → V) (E : Tr) (LB DB : Nat → Prop) (vq vm : Nat) (xv : V) (Yv Zv : Nat → V) (Ev : Tr) (LBv DBv : Nat → Prop) (a b : Nat) : Prop where
  t : TrN st s q m n B x Y Z E LB DB
  v : TrG s vq vm n xv Yv Zv Ev LBv DBv
  m : m < a
  lb : ∀ k, LB k → k < a ∨ b ≤ k
  vlt : (a ≤ vq ∧ vq < b) ∧ (a ≤ vm ∧ vm < b) ∧ (∀ k, LBv k → a ≤ k ∧ k < b) ∧ ∀ k, DBv k → a ≤ k ∧ k < b
  bn : b ≤ s.nx
section
variable {st s s' : St} {q m n B : Nat} {x : V} {Y Z : Nat → V} {E : Tr} {LB DB : Nat → Prop} {vq vm : Nat} {xv : V} {Yv Zv : Nat → V} {E0 : Tr} {LBv DBv : Nat → Prop} {a b : Nat}
theorem Two.more (h : Two st s q m n B x Y Z E LB DB vq vm xv Yv Zv E0 LBv DBv a b) (k : Ext s.nx s s') : Two st s' q m n B x Y Z E LB DB vq vm xv Yv Zv E0 LBv DBv a b :=
  ⟨h.t.more k, h.v.ext k, h.m, h.lb, h.vlt, Nat.le_trans h.bn k.le⟩
theorem Two.step (h : Two st s q m n B x Y Z E LB DB vq vm xv Yv Zv E0 LBv DBv a b) {B' : Nat} {Y' Z' : Nat → V} {E' : Tr} {LB' DB' : Nat → Prop} (t : TrN st s' q m n B' x Y' Z' E' LB' DB') (F : FrT s s' m LB DB LB' DB') : Two st s' q m n B' x Y' Z' E' LB' DB' vq vm xv Yv Zv E0 LBv DBv a b := by
  obtain ⟨h1, h2, h3, h4, ⟨h5, h6, h7, h8⟩, h9⟩ := h
  have hno : ∀ k, a ≤ k ∧ k < b → ¬ LB k := fun k hk hl => by have := h4 k hl; omega
  refine ⟨t, h2.frame F ⟨by omega, by omega, fun h => by have := h7 _ h; omega, fun h => by have := h8 _ h; omega⟩ ⟨hno _ h5, hno _ h6, fun k hk => hno k (by
    rcases hk with hk | hk
    · exact h7 k hk
    · exact h8 k hk)⟩, h3, fun k hk => ?_, ⟨h5, h6, h7, h8⟩, Nat.le_trans h9 F.le⟩
  rcases F.lb k hk with e | e
  · exact h4 k e
  · exact .inr (by omega)
end
def lmI (st : St) (y : V) (A G : Tx) (q m : Nat) (L : Nat) (e : Env) (s : St) : Prop := ∃ (i : Nat) (x : V) (Y Z : Nat → V) (E : Tr) (LB DB : Nat → Prop), i ≤ L ∧ e.get 0 = some y ∧ e.get 1 = some (.s A) ∧ e.get 2 = some (.s G) ∧ e.get 7 = some (.p q 0) ∧ e.get 8 = some (.int .i64 (i : Int)) ∧ TrN st s q m 10 i x Y Z E LB DB ∧ Ct 10 E
set_option maxRecDepth 20000 in
set_option maxHeartbeats 16000000 in
theorem g_TreeMoves (st : St) (y : Nat → V) (l : List LOp) (A G : Tx) (hy : (rowC opC).at' st y l) (hA : okS A) (hG : okS G) :
    Gd (lawX Tryd.prog tmF 9 ⟨false, [], 0, 0⟩ 6 [y 0, .s A, .s G] st) fun r => r.1 = .bool true := by
  rw [Gd_lawX Tryd.func6 rfl]
  by_cases c3 : (25 : Int) < (l.length : Int)
  · simp [evOp_call, sets, T.get_set, oracF_cons, rowC_len hy, len_str un9, c3]
  by_cases c4 : (450 : Int) < (A.length : Int)
  · simp [evOp_call, sets, T.get_set, oracF_cons, rowC_len hy, len_str un9, c3, c4]
  by_cases c5 : (450 : Int) < (G.length : Int)
  · simp [evOp_call, sets, T.get_set, oracF_cons, rowC_len hy, len_str un9, c3, c4, c5]
  simp [evOp_call, sets, T.get_set, oracF_cons, rowC_len hy, len_str un9, c3, c4, c5]
  rw [tmF_ne rfl]
  refine Gd.mono (newT_any st 10 _) ?_
  rintro ⟨r, s0⟩ ⟨q, m, x, Y, Z, hr, TG, hm, hq, x0⟩
  simp only at hr TG x0
  subst hr
  rw [show nodesN 10 = 10 by decide] at TG
  simp [evOp_call, sets, T.get_set]
  refine Gd_loop (lmI st (y 0) A G q m l.length) (fun e _ => muAt 8 l.length e) ?_ ?_
  · exact ⟨0, x, Y, Z, newE, noB, noB, Nat.zero_le _, by simp [T.get_set], by simp [T.get_set], by simp [T.get_set], by simp [T.get_set], by simp [T.get_set], ⟨TG, newE_ok (by decide), x0, hq, hm, fun b h => h.elim, fun b h => h.elim⟩, Ct.new 10⟩
  clear TG Y Z x
  rintro e s ⟨i, x, Y, Z, E, LB, DB, hi, g0, g1, g2, g7, g8, T0, C0⟩
  by_cases hlt : i < l.length
  · have hlt' : (i : Int) < l.length := by omega
    have hwi := wrap_nat (n := i) (by omega)
    obtain ⟨o, hl⟩ : ∃ r, l[i]? = some r := ⟨_, List.getElem?_eq_getElem hlt⟩
    obtain ⟨mt, of, ty, sz, tr, yy, hid, hmt, hgt, hcl, hat⟩ := rowC_old un22 io29 hy hl
    obtain ⟨o0, o1, o2, o3, o4, hin⟩ := opC_in hat
    have t0 : tr.get of = some (.int .i64 o.1) := by have := hcl 0 (by decide); rw [o0] at this; exact this
    have t1 := hcl 1 (by decide); rw [o1] at t1
    have t2 := hcl 2 (by decide); rw [o2] at t2
    have t3 := hcl 3 (by decide); rw [o3] at t3
    have t4 := hcl 4 (by decide); rw [o4] at t4
    have t5 := hcl 5 (by decide)
    simp [evOp_call, T.get_set, g0, g1, g2, g7, g8, rowC_len hy, hlt', sets, hid, loadE_eq, getC_eq, hgt s T0.ext, getsB_succ, getsB_zero, t0, t1, t2, t3, t4, t5, oracF_cons]
    rw [tmF_ne rfl]
    have hin' := hin.ext T0.ext
    refine Gd.mono (heavy_any s (toOp o) (yy 5) hin'.y _) ?_
    rintro ⟨r, s1⟩ ⟨hr, x1⟩
    simp only at hr x1
    subst hr
    cases hv : heavyB (toOp o) with
    | true => simp [evOp_call, T.get_set, sets]
    | false =>
      have T1 := T0.more x1
      simp [evOp_call, T.get_set, g0, g1, g2, g7, g8, sets, hid, loadE_eq, getC_eq, hgt s1 T1.ext, getsB_succ, getsB_zero, t0, t1, t2, t3, t4, t5, oracF_cons]
      refine Gd.mono (T1.do (by omega) hin hv _) ?_
      rintro ⟨r, s3⟩ ⟨ry, rz, Y3, Z3, LB3, DB3, hr, hry, hrz, TG3, F3, hbl⟩
      simp only at hr hry hrz TG3 F3
      subst hr
      have T3 := T1.step (o := toOp o) hin.a hin.b hin.d TG3 F3
      simp [evOp_call, T.get_set, g0, g1, g2, g7, g8, sets, hwi]
      exact ⟨⟨i + 1, x, Y3, Z3, _, LB3, DB3, hlt, by simp [T.get_set, g0], by simp [T.get_set, g1], by simp [T.get_set, g2], by simp [T.get_set, g7], by simp [T.get_set], T3, C0.doE T0.ok (by omega) hin.a hin.b⟩, muAt_lt g8 (by simp [T.get_set]) hlt⟩
  obtain rfl : i = l.length := by omega
  simp [evOp_call, T.get_set, g0, g1, g2, g7, g8, rowC_len hy, sets, oracF_cons]
  refine Gd.mono (clone_any T0.tr T0.ok (by omega) _) ?_
  rintro ⟨r, s1⟩ ⟨vq, vm, xv, Yv, Zv, LBv, DBv, hr, TV, hlo, x1⟩
  simp only at hr TV x1
  subst hr
  have lv := TV.lt
  have l0 := T0.tr.lt
  have W1 : Two st s1 q m 10 l.length x Y Z E LB DB vq vm xv Yv Zv E LBv DBv s.nx s1.nx := ⟨T0.more x1, TV, l0.2.1, fun k h => .inl (T0.tr.lb k h).1, ⟨⟨hlo.1, lv.1⟩, ⟨hlo.2.1, lv.2.1⟩, fun k h => ⟨hlo.2.2.1 k h, (TV.lb k h).1⟩, fun k h => ⟨hlo.2.2.2 k h, (TV.db k h).1⟩⟩, Nat.le_refl _⟩
  have hOE := T0.ok
  simp [evOp_call, T.get_set, g0, g1, g2, g7, g8, sets, oracF_cons]
  refine Gd.mono (W1.t.doC (o := (12, G, [], 0, 0, [])) (y := .c (.slice none 0 0)) (by omega) (opIn_nil st 12 hG okS_nil 0 0 (by decide)) (heavy_small (by show G.length ≤ 500; omega) (by simp) (by simp)) ((do12 10 E _ _ _ _ _).trans (stat_same E G)) _) ?_
  rintro ⟨r, s3⟩ ⟨ry, rz, Y3, Z3, LB3, DB3, hr, hry, hrz, T3, F3⟩
  simp only at hr hry hrz T3 F3
  subst hr
  have W3 := W1.step T3 F3
  have ro := hry.one
  have zo := hrz.one
  obtain ⟨S, hS⟩ : ∃ S, S = (statE E G).1 := ⟨_, rfl⟩
  rw [← hS]
  obtain ⟨tb, htb⟩ : ∃ tb : T V, tb = sets [.int .i64 S.err, .int .i64 (S.node : Int), .int .i64 (S.ty : Int), .int .i64 S.links, .int .i64 (S.size : Int), ry, rz] 0 (sets [.int .i64 0, .int .i64 0, .int .i64 0, .int .i64 0, .int .i64 0, .c (.slice none 0 0), .c (.slice none 0 0)] 0 .lf) := ⟨_, rfl⟩
  obtain ⟨s4, hs4⟩ : ∃ s4 : St, s4 = ⟨s3.nx + 1, s3.h.set s3.nx (.cs 34 7 tb)⟩ := ⟨_, rfl⟩
  have x4 : Ext s3.nx s3 s4 := by rw [hs4]; exact (Ext.refl s3.nx s3).new (Nat.le_refl _) _
  have n4 : s4.nx = s3.nx + 1 := by rw [hs4]
  have k4 : s4.h.get s3.nx = some (.cs 34 7 tb) := by rw [hs4]; exact T.get_set_same _ _ _
  have t4 : tb.get 0 = some (.int .i64 S.err) := by rw [htb]; simp [sets, T.get_set]
  simp only [sets] at htb
  rw [htb] at hs4
  have W4 := W3.more x4
  simp [evOp_call, T.get_set, g0, g1, g2, g7, g8, sets, oracF_cons, newC_is, cellsOf, storeK_g, putB_eq, roT, ro, zo]
  rw [← hs4]
  refine Gd.mono (W4.t.doC (o := (6, A, G, 0, 0, [])) (y := .c (.slice none 0 0)) (by omega) (opIn_nil st 6 hA hG 0 0 (by decide)) (heavy_small (by show A.length ≤ 500; omega) (by show G.length ≤ 500; omega) (by simp)) ((do6 10 E _ _ _ _ _).trans (show renameE E A G = ((renameE E A G).1, (renameE E A G).2) from rfl)) _) ?_
  rintro ⟨r, s5⟩ ⟨ry2, rz2, Y5, Z5, LB5, DB5, hr, hry2, hrz2, T5, F5⟩
  simp only at hr hry2 hrz2 T5 F5
  subst hr
  have W5 := W4.step T5 F5
  have ro2 := hry2.one
  have zo2 := hrz2.one
  have l3 := T3.tr.lt
  have k5 : s5.h.get s3.nx = some (.cs 34 7 tb) := (F5.keep s3.nx (by omega) (by omega) (fun h => by have := (T3.tr.lb _ h).1; omega)).trans k4
  have n5 := F5.le
  have hne : ¬ s5.nx = s3.nx := by omega
  have x6 := fun w => (Ext.refl s5.nx s5).new (Nat.le_refl _) w
  have hdr := do_ref (n := 10) (E := E) (o := toOp (6, A, G, 0, 0, []))
  rw [do6] at hdr
  obtain ⟨R1, hR1⟩ : ∃ R1, R1 = renameE E A G := ⟨_, rfl⟩
  rw [← hR1] at W5 T5 hdr ⊢
  by_cases c1 : R1.1.err = 0
  rotate_left
  · simp [evOp_call, T.get_set, g0, g1, g2, g7, g8, sets, oracF_cons, newC_is, cellsOf, storeK_g, putB_eq, roT, ro2, zo2, loadE_eq, getC_eq, getsB_succ, getsB_zero, k5, t4, hne, c1]
    rw [tmF_ne rfl]
    have W6 := W5.more (x6 (.cs 34 7 (sets [.int .i64 R1.1.err, .int .i64 (R1.1.node : Int), .int .i64 (R1.1.ty : Int), .int .i64 R1.1.links, .int .i64 (R1.1.size : Int), ry2, rz2] 0 (sets [.int .i64 0, .int .i64 0, .int .i64 0, .int .i64 0, .int .i64 0, .c (.slice none 0 0), .c (.slice none 0 0)] 0 .lf))))
    refine Gd.mono (sameT_any W6.v W6.t.tr hOE W6.t.ok (by omega) _) ?_
    rintro ⟨r, s7⟩ ⟨⟨b, hr, hb⟩, x7⟩
    simp only at hr x7
    subst hr
    have hbt : b = true := hb.2 ⟨rfl, fun j _ => by rw [(hdr c1).2]; exact ⟨rfl, rfl, rfl⟩⟩
    subst hbt
    simp [evOp_call, T.get_set, sets]
  by_cases c2 : S.err = 2
  rotate_left
  · simp [evOp_call, T.get_set, g0, g1, g2, g7, g8, sets, oracF_cons, newC_is, cellsOf, storeK_g, putB_eq, roT, ro2, zo2, loadE_eq, getC_eq, getsB_succ, getsB_zero, k5, t4, hne, c1, c2]
  simp [evOp_call, T.get_set, g0, g1, g2, g7, g8, sets, oracF_cons, newC_is, cellsOf, storeK_g, putB_eq, roT, ro2, zo2, loadE_eq, getC_eq, getsB_succ, getsB_zero, k5, t4, hne, c1, c2]
  have W6 := W5.more (x6 (.cs 34 7 (sets [.int .i64 0, .int .i64 (R1.1.node : Int), .int .i64 (R1.1.ty : Int), .int .i64 R1.1.links, .int .i64 (R1.1.size : Int), ry2, rz2] 0 (sets [.int .i64 0, .int .i64 0, .int .i64 0, .int .i64 0, .int .i64 0, .c (.slice none 0 0), .c (.slice none 0 0)] 0 .lf))))
  refine Gd.mono (W6.t.doC (o := (6, G, A, 0, 0, [])) (y := .c (.slice none 0 0)) (by omega) (opIn_nil st 6 hG hA 0 0 (by decide)) (heavy_small (by show G.length ≤ 500; omega) (by show A.length ≤ 500; omega) (by simp)) ((do6 10 R1.2 _ _ _ _ _).trans (show renameE R1.2 G A = ((renameE R1.2 G A).1, (renameE R1.2 G A).2) from rfl)) _) ?_
  rintro ⟨r, s7⟩ ⟨ry3, rz3, Y7, Z7, LB7, DB7, hr, hry3, hrz3, T7, F7⟩
  simp only at hr hry3 hrz3 T7 F7
  subst hr
  have W7 := W6.step T7 F7
  have ro3 := hry3.one
  have zo3 := hrz3.one
  have x8 := fun w => (Ext.refl s7.nx s7).new (Nat.le_refl _) w
  have hmv := fun h => move_back hOE C0 (by omega) hG (a := A) (b := G) (by rw [← hR1]; exact c1) (stat_err (by rw [← hS]; exact c2)) h
  rw [← hR1] at hmv
  obtain ⟨R2, hR2⟩ : ∃ R2, R2 = renameE R1.2 G A := ⟨_, rfl⟩
  rw [← hR2] at W7 T7 hmv ⊢
  by_cases c7 : R2.1.err = 0
  rotate_left
  · simp [evOp_call, T.get_set, g0, g1, g2, g7, g8, sets, oracF_cons, newC_is, cellsOf, storeK_g, putB_eq, roT, ro3, zo3, loadE_eq, getC_eq, getsB_succ, getsB_zero, c7]
  simp [evOp_call, T.get_set, g0, g1, g2, g7, g8, sets, oracF_cons, newC_is, cellsOf, storeK_g, putB_eq, roT, ro3, zo3, loadE_eq, getC_eq, getsB_succ, getsB_zero, c7]
  rw [tmF_ne rfl]
  refine Gd.mono (sameT_any (W7.more (x8 _)).v (W7.more (x8 _)).t.tr hOE (W7.more (x8 (.cs 0 0 .lf))).t.ok (by omega) _) ?_
  rintro ⟨r, s9⟩ ⟨⟨b, hr, hb⟩, x9⟩
  simp only at hr x9
  subst hr
  have hbt : b = true := hb.2 ⟨rfl, fun j _ => hmv c7 j⟩
  subst hbt
  simp [evOp_call, T.get_set, sets]
def txB (s : ByteArray) : Tx := s.data.toList.map UInt8.toNat
theorem txB_ok (s : ByteArray) : okS (txB s) := fun b hb => by
  unfold txB at hb
  obtain ⟨x, _, rfl⟩ := List.mem_map.1 hb
  exact x.toNat_lt
theorem txB_rel (ρ : Rho) (s : ByteArray) : Rel ρ (.s (txB s)) (.string s) := by
  simp only [Rel]
  refine ⟨?_, txB_ok s⟩
  have : (txB s).map UInt8.ofNat = s.data.toList := by
    unfold txB
    rw [List.map_map]
    conv => rhs; rw [← List.map_id s.data.toList]
    congr 1
    funext x
    simp
  rw [this]
theorem w_TreeMoves (l : List LOp) (a b : ByteArray) (W : World) (x : Value) (hx : (rowC opC).rel W (fun j => [x][j]?.getD default) l) (_ : a.size ≤ maxLen) (_ : b.size ≤ maxLen) :
    Calls Tryd.prog 6 #[x, .string a, .string b] W fun e W' => e = .returned (.bool true) ∧ Below W.heap.size W W' := by
  obtain ⟨s1, r1, v1, b1, l1, q1, e1, a1⟩ := (rowC opC).enter (Begin.zero W) hx
  exact law_calls treeLaw b1 (.cons (q1 0 (by decide)).2 (.cons (txB_rel _ a) (.cons (txB_rel _ b) .nil))) (g_TreeMoves s1 v1 l (txB a) (txB b) a1 (txB_ok a) (txB_ok b))
end Go.Proofs.YtgcpgidofikcdaaDoor

/-
  Contracts of package lock: Who; the walk of LockAlone.
-/
import Derived.Test.YtdoennkmcloalaaLkF
import Derived.Test.YtdoennkmcloalaaIn
import Derived.Test.YtdoennkmcloalaaEc
set_option linter.unusedSimpArgs false
set_option linter.unusedVariables false
namespace Go.Proofs.Ytdoennkmcloalaa
open Go.RowKit Ev
set_option maxHeartbeats 4000000 in
theorem cloneI_any (st : St) (x : V) (n : Nat) (l : List V) (hx : RdRow st x 1 n l) (hn : n ≤ 1000000) (nt : Nat) :
    Gd (callL Try.prog ⟨false, [], 0, nt⟩ 178 [x] st) fun r => RdRow r.2 r.1 1 n l ∧ (0 < n → OwnRow st.nx r.2 r.1 1 n l) ∧ RowFrom st.nx r.1 ∧ Ext st.nx st r.2 := by
  rw [Gd_callL Try.func178 rfl]
  by_cases hnil : isNil x = true
  · obtain ⟨rfl, rfl⟩ := isNil_len hx hnil
    simp [sets, T.get_set, eql_nil un76 hx, hnil]
    exact ⟨hx, ⟨fun _ _ _ _ e => (by cases e), fun _ _ _ _ e => by cases e⟩, Ext.refl _ _⟩
  · simp [sets, T.get_set, eql_nil un76 hx, hnil]
    rw [evOp_build0 (fun k => el76 k) (fun k => ze3 k) rfl]
    simp [T.get_set]
    have he : Ext st.nx st ⟨st.nx + 1, st.h.set st.nx (.cs 3 0 .lf)⟩ := (Ext.refl _ _).new (Nat.le_refl _) _
    have hx' := hx.ext he
    refine Gd_append0 un76 un76 io3 (by decide) (T.get_set_same _ _ _) hx.notS (fun k => hx.len k) (fun k => hx'.firsts k) hx.1 (by omega) (fun h0 => ?_) fun h1 => ?_
    · subst h0
      simp [T.get_set]
      have hl : l = [] := List.length_eq_zero_iff.1 (by have := hx.1; omega)
      subst hl
      exact ⟨⟨rfl, .inr (.inl ⟨st.nx, 0, 0, 3, 0, .lf, rfl, Nat.lt_succ_self _, T.get_set_same _ _ _, Nat.le_refl _, fun j v h => by simp at h⟩)⟩, ⟨fun _ _ _ _ e => (by cases e), fun _ _ _ _ e => (by cases e; exact Nat.le_refl _)⟩, he⟩
    · simp [T.get_set]
      have h2 := he.new (Nat.le_succ _) (.cs 3 l.length (sets l 0 .lf))
      have ho : OwnRow st.nx ⟨st.nx + 1 + 1, (st.h.set st.nx (.cs 3 0 .lf)).set (st.nx + 1) (.cs 3 l.length (sets l 0 .lf))⟩ (.sg (st.nx + 1) 0 n 1) 1 n l := by
        refine ⟨hx.1, .inr ⟨st.nx + 1, 3, sets l 0 .lf, rfl, Nat.le_succ _, Nat.lt_succ_self _, ?_, by decide, fun j v hj => ?_⟩⟩
        · rw [← hx.1]; exact T.get_set_same _ _ _
        · have hjl : j < l.length := lt_of_get hj
          rw [get_sets, if_pos ⟨Nat.zero_le _, by omega⟩]
          simpa using hj
      exact ⟨ho.rd, fun _ => ho, ⟨fun _ _ _ _ e => (by cases e; omega), fun _ _ _ _ e => by cases e⟩, h2⟩

theorem fdHeld (y w : V) (k : V → Res) : fldK Try.prog 242 0 (.g [y, w]) k = k y := by kernel_rfl
set_option maxRecDepth 20000 in
set_option maxHeartbeats 4000000 in
theorem who_any (st : St) (q a b : Nat) (A B : List (Int × V × Nat)) (ca cb : Nat) (T : TabAt st q a b A B ca cb) (k : Int) (y : V) (al : Bool) (c : Nat) (w : Int) (hB : B[0]? = some (k, .g [y, .bool al], c)) (hy : RdRow st y 1 1 [.int .i64 w]) (nt : Nat) :
    Gd (callL Try.prog ⟨false, [], 0, nt⟩ 114 [.p q 0, .int .i64 k] st) fun r => RdRow r.2 r.1 1 1 [.int .i64 w] ∧ Ext st.nx st r.2 := by
  rw [Gd_callL Try.func114 rfl]
  obtain ⟨hq, ha, hb, hab, haq, hbq, ⟨t, ht, t0, t1⟩, gA, gB⟩ := T
  have hlk : ∀ nt ok, lookE Try.prog ⟨false, [], 0, nt⟩ st 238 (.m b) (.int .i64 k) ok = lookV ok st (.g [y, .bool al]) true := fun nt ok => look_yes (j := 0) map_h rfl gB hB (fun e h => by cases h)
  simp [evOp_call, sets, T.get_set, loadE_eq, getC_eq, ht, t1, hlk, fdHeld]
  refine Gd.mono (cloneI_any st y 1 _ hy (by omega) _) ?_
  rintro ⟨r, s1⟩ ⟨h1, _, _, x1⟩
  simp only at h1 x1
  simp [evOp_call, sets, T.get_set]
  exact ⟨h1, x1⟩
theorem namesOkK : Ev.namesOk Try.prog = true := by kernel_rfl
theorem mixesK : Try.prog.follows .mixedOrders = true := by kernel_rfl
theorem ranLock : Ev.yesQ Try.prog 100000 108 = true := by kernel_rfl
theorem lockAwake (W : World) : Calls Try.prog 108 #[] W fun e W' => e = .returned (.bool true) ∧ Below W.heap.size W W' := Ev.yesQ_ok namesOkK mixesK ranLock W
theorem bldWant1 (x : Operand) (k : Int) (st : St) : bldK Try.prog 170 [(0, x)] [.int .i64 k] [.int .i64 0, .bool false] st = some (.g [.int .i64 k, .bool false], st) := by
  rw [bldK_ok so170, partsK_one rfl rfl (by simp)]; rfl
theorem ents_get : ∀ (L : List (Wn × Nat)) (c j : Nat) (x : Wn × Nat), L[j]? = some x → (ents L c)[j]? = some (x.1.1, .g [.sg x.2 0 1 1, .bool x.1.2], c + j)
  | [], c, j, x, h => by simp at h
  | y :: L, c, 0, x, h => by simp at h; subst h; rfl
  | y :: L, c, j + 1, x, h => by
    show (ents L (c + 1))[j]? = _
    rw [ents_get L (c + 1) j x (by simpa using h), show c + 1 + j = c + (j + 1) by omega]
theorem ents_take : ∀ (L : List (Wn × Nat)) (c j : Nat), (ents L c).take j = ents (L.take j) c
  | [], c, j => by simp [ents]
  | y :: L, c, 0 => rfl
  | y :: L, c, j + 1 => by
    show _ :: (ents L (c + 1)).take j = _ :: ents (L.take j) (c + 1)
    rw [ents_take L (c + 1) j]
theorem ents_low {K : List Wn} (h : UpK K) {L : List (Wn × Nat)} (hL : L.map Prod.fst = K) {j : Nat} {x : Wn × Nat} (hx : L[j]? = some x) (c : Nat) : ∀ e ∈ (ents L c).take j, e.1 ≠ x.1.1 := fun e he => by
  rw [ents_take] at he
  obtain ⟨z, hz, hze⟩ := ents_key _ c e he
  have hjl : j < L.length := (List.getElem?_eq_some_iff.1 hx).1
  have hlen : (L.take j).length = j := by rw [List.length_take]; omega
  have hm : (L.take j).map Prod.fst = K.take (L.take j).length := by rw [hlen, ← hL, List.map_take]
  have := up_lt h hm hz (y := x.1) (by rw [hlen, ← hL, List.getElem?_map, hx]; rfl)
  rw [← hze]
  exact Int.ne_of_lt this
def wn (l : List Int) : List Wn := l.map fun k => (k, true)
theorem wn_len (l : List Int) : (wn l).length = l.length := by simp [wn]
theorem wn_get {l : List Int} {i : Nat} {k : Int} (h : l[i]? = some k) : (wn l)[i]? = some (k, true) := by unfold wn; rw [List.getElem?_map, h]; rfl
theorem wn_take (l : List Int) (i : Nat) : wn (l.take i) = (wn l).take i := by unfold wn; rw [List.map_take]
def laI (st : St) (who other : Int) (x : V) (l : List Int) (e : Env) (s : St) : Prop := ∃ (i : Nat) (y : V), i ≤ l.length ∧ e.get 0 = some (.int .i64 who) ∧ e.get 1 = some (.int .i64 other) ∧ e.get 2 = some x ∧ e.get 7 = some y ∧ e.get 8 = some (.int .i64 (i : Int)) ∧ Ext st.nx st s ∧ OwnRow st.nx s y 2 i (cellsK (wn (l.take i))) ∧ UpK (wn (l.take i))
set_option maxRecDepth 20000 in
set_option maxHeartbeats 8000000 in
theorem g_LockAlone (st : St) (who other : Int) (x : V) (l : List Int) (hx : RdRow st x 1 l.length (l.map fun v => .int .i64 v)) (hl : ∀ i ∈ l, -9223372036854775808 ≤ i ∧ i ≤ 9223372036854775807) :
    Gd (lawX Try.prog lkF 108 ⟨false, [], 0, 0⟩ 18 [.int .i64 who, .int .i64 other, x] st) fun r => r.1 = .bool true := by
  rw [Gd_lawX Try.func18 rfl]
  have w1 : IntKind.i64.wrap 1 = 1 := by decide
  have hwf : wantK false (some V.u) = false := rfl
  have hwu : wantK true (some V.u) = false := rfl
  simp [evOp_call, sets, T.get_set, oracF_cons, hx.lenS]
  by_cases a0 : l.length < 1
  · have a0' : (l.length : Int) < 1 := by omega
    have a0'' : l = [] := List.eq_nil_of_length_eq_zero (by omega)
    simp [evOp_call, T.get_set, oracF_cons, a0, a0', a0'', hwf]
  have a0' : ¬ (l.length : Int) < 1 := by omega
  have a0'' : ¬ l = [] := fun h => a0 (by rw [h]; decide)
  by_cases a1 : 10 < l.length
  · have a1' : (10 : Int) < l.length := by omega
    simp [evOp_call, T.get_set, oracF_cons, a0, a0', a0'', a1, a1', hx.lenS, hwf]
  have a1' : ¬ (10 : Int) < l.length := by omega
  by_cases a2 : who = other
  · simp [evOp_call, T.get_set, oracF_cons, a0, a0', a0'', a1, a1', a2, hx.lenS, hwf]
  simp [evOp_call, T.get_set, oracF_cons, a0, a0', a0'', a1, a1', a2, hx.lenS, hwf]
  refine Gd_loop (laI st who other x l) (fun en _ => muAt 8 l.length en) ?_ ?_
  · exact ⟨0, _, Nat.zero_le _, by simp [T.get_set], by simp [T.get_set], by simp [T.get_set], by simp [T.get_set], by simp [T.get_set], Ext.refl _ _, OwnRow.nil _ _ _, fun i a b h => by simp [wn] at h⟩
  rintro en s ⟨i, y, hi, g0, g1, g2, g7, g8, hs, hy, hup⟩
  have hxs := hx.ext hs
  have hle := hs.le
  by_cases hlt : i < l.length
  · have hlt' : (i : Int) < l.length := by omega
    have hwi := wrap_nat (n := i) (by omega)
    obtain ⟨k, hk⟩ : ∃ k, l[i]? = some k := ⟨_, List.getElem?_eq_getElem hlt⟩
    obtain ⟨m1, o1, ty1, sz1, tr1, i1, b1, k1, l1, c1⟩ := hxs.idx (st := s) un76 io3 hlt
    have d1 : tr1.get o1 = some (.int .i64 k) := by simpa using c1 0 _ (by omega) (by simp [hk])
    have fin : ∀ (en' : Env) (s' : St) (y' : V), en'.get 0 = some (.int .i64 who) → en'.get 1 = some (.int .i64 other) → en'.get 2 = some x → en'.get 7 = some y' → en'.get 8 = some (.int .i64 ((i + 1 : Nat) : Int)) → Ext st.nx st s' → OwnRow st.nx s' y' 2 (i + 1) (cellsK (wn (l.take i)) ++ [.int .i64 k, .bool true]) → (0 < i → ∀ z, l[i - 1]? = some z → z < k) → laI st who other x l en' s' ∧ muAt 8 l.length en' < muAt 8 l.length en := fun en' s' y' h0 h1 h2 h7 h8 hx' hy' hz => by
      have e1 : wn (l.take (i + 1)) = wn (l.take i) ++ [(k, true)] := by rw [List.take_add_one, hk]; simp [wn]
      have e2 : cellsK (wn (l.take (i + 1))) = cellsK (wn (l.take i)) ++ [.int .i64 k, .bool true] := by rw [e1]; simp [cellsK]
      refine ⟨⟨i + 1, y', hlt, h0, h1, h2, h7, h8, hx', by rw [e2]; exact hy', ?_⟩, muAt_lt g8 h8 hlt⟩
      intro j u v hu hv
      rw [e1] at hu hv
      have hwl : (wn (l.take i)).length = i := by rw [wn_len, List.length_take]; omega
      rcases Nat.lt_trichotomy (j + 1) i with h | h | h
      · rw [List.getElem?_append_left (by omega)] at hu hv
        exact hup j u v hu hv
      · rw [List.getElem?_append_left (by omega)] at hu
        rw [List.getElem?_append_right (by omega), hwl, h, Nat.sub_self] at hv
        simp at hv
        subst hv
        unfold wn at hu
        rw [List.getElem?_map, List.getElem?_take, if_pos (by omega)] at hu
        cases hq : l[j]? with
        | none => rw [hq] at hu; cases hu
        | some z =>
          rw [hq] at hu
          simp at hu
          subst hu
          exact hz (by omega) z (by rw [show i - 1 = j by omega]; exact hq)
      · rw [List.getElem?_append_right (by omega), hwl] at hv
        have : ([(k, true)] : List Wn)[j + 1 - i]? = none := List.getElem?_eq_none (by simp; omega)
        rw [this] at hv
        cases hv
    simp [evOp_call, T.get_set, oracF_cons, g0, g1, g2, g7, g8, hxs.lenS, hlt']
    refine ⟨by kernel_rfl, ?_⟩
    rcases Nat.eq_zero_or_pos i with h0 | h0
    · subst h0
      simp [evOp_call, T.get_set, oracF_cons, g0, g1, g2, g7, g8, hwu, hwf]
      simp [evOp_call, T.get_set, oracF_cons, g0, g1, g2, g7, g8, i1, loadE_eq, getC_eq, k1, d1]
      refine evOp_build1 (v := .g [.int .i64 k, .bool true]) (cs := [.int .i64 k, .bool true]) (fun k => el164 k) (fun k => ze170 k) rfl (by omega) (by simp [T.get_set]) (fun k => rfl) rfl ?_
      simp [evOp_call, T.get_set, oracF_cons, g0, g1, g2, g7, g8]
      refine Gd_append un164 un164 io170 (lx := 1) (new := [.int .i64 k, .bool true]) (hy.ext ((Ext.refl _ _).new (Nat.le_refl _) _)) (by show st.nx ≤ s.nx + 1; omega) (by decide) (fun s' h => by cases h) (fun k => rfl) (fun k => by simp [getC_eq, getsB_2, T.get_set, sets]) rfl (by omega) ?_
      intro y' s' hy' x' _ _
      simp [evOp_call, T.get_set, oracF_cons, g0, g1, g2, g7, g8, hwi, w1]
      exact fin _ _ y' (by simp [T.get_set, g0]) (by simp [T.get_set, g1]) (by simp [T.get_set, g2]) (by simp [T.get_set]) (by simp [T.get_set]) ((hs.new hle _).trans x') hy' (fun h => absurd h (Nat.lt_irrefl 0))
    · obtain ⟨i0, rfl⟩ : ∃ i0, i = i0 + 1 := ⟨i - 1, by omega⟩
      obtain ⟨z, hz⟩ : ∃ z, l[i0]? = some z := ⟨_, List.getElem?_eq_getElem (by omega)⟩
      obtain ⟨m2, o2, ty2, sz2, tr2, i2, b2, k2, l2, c2⟩ := hxs.idx (st := s) un76 io3 (i := i0) (by omega)
      have d2 : tr2.get o2 = some (.int .i64 z) := by simpa using c2 0 _ (by omega) (by simp [hz])
      have hp0 : (0 : Int) < ((i0 + 1 : Nat) : Int) := by omega
      have wk3 : IntKind.i64.wrap ((i0 : Int) + 1 - 1) = (i0 : Int) := by rw [show (i0 : Int) + 1 - 1 = (i0 : Int) by omega]; exact wrap_in (by omega) (by omega)
      have wk2 : IntKind.i64.wrap (i0 : Int) = (i0 : Int) := wrap_in (by omega) (by omega)
      have wk4 : IntKind.i64.wrap ((i0 : Int) + 1 + 1) = (i0 : Int) + 1 + 1 := by rw [show (i0 : Int) + 1 + 1 = ((i0 + 2 : Nat) : Int) by omega]; exact wrap_in (by omega) (by omega)
      have hask : ∀ f : Nat → Res, asNat (.int .i64 ((i0 : Int) + 1)) f = f (i0 + 1) := fun f => by
        rw [show (i0 : Int) + 1 = ((i0 + 1 : Nat) : Int) by omega]; exact asNat_cast ..
      have hp1 : (0 : Int) < (i0 : Int) + 1 := by omega
      by_cases hkz : k ≤ z
      · simp [evOp_call, T.get_set, oracF_cons, g0, g1, g2, g7, g8, hp0, hp1, hask, i1, i2, wk2, wk3, loadE_eq, getC_eq, k1, k2, d1, d2, hkz]
      simp [evOp_call, T.get_set, oracF_cons, g0, g1, g2, g7, g8, hp0, hp1, hask, i1, i2, wk2, wk3, wk4, loadE_eq, getC_eq, k1, k2, d1, d2, hkz]
      refine evOp_build1 (v := .g [.int .i64 k, .bool true]) (cs := [.int .i64 k, .bool true]) (fun k => el164 k) (fun k => ze170 k) rfl (by omega) (by simp [T.get_set]) (fun k => rfl) rfl ?_
      simp [evOp_call, T.get_set, oracF_cons, g0, g1, g2, g7, g8]
      refine Gd_append un164 un164 io170 (lx := 1) (new := [.int .i64 k, .bool true]) (hy.ext ((Ext.refl _ _).new (Nat.le_refl _) _)) (by show st.nx ≤ s.nx + 1; omega) (by decide) (fun s' h => by cases h) (fun k => rfl) (fun k => by simp [getC_eq, getsB_2, T.get_set, sets]) rfl (by omega) ?_
      intro y' s' hy' x' _ _
      simp [evOp_call, T.get_set, oracF_cons, g0, g1, g2, g7, g8, hwi, wk4]
      exact fin _ _ y' (by simp [T.get_set, g0]) (by simp [T.get_set, g1]) (by simp [T.get_set, g2]) (by simp [T.get_set]) (by simp [T.get_set]) ((hs.new hle _).trans x') hy' (fun _ z' hz' => (by rw [show i0 + 1 - 1 = i0 by omega, hz] at hz'; injection hz' with hz'; subst hz'; omega))
  · obtain rfl : i = l.length := by omega
    rw [List.take_length] at hy hup
    simp [evOp_call, T.get_set, oracF_cons, g0, g1, g2, g7, g8, hxs.lenS]
    rw [oracF_ne _ rfl, liftF_nil, lkF_ne rfl]
    refine Gd.mono (lknew_any s _) ?_
    rintro ⟨r, s1⟩ ⟨q, a, b, hr, T1, hq, ha, hb, x1⟩
    simp only at hr T1 x1
    subst hr
    have hKl : (wn l).length = l.length := wn_len l
    have hy1 : RdRow s1 y 2 (wn l).length (cellsK (wn l)) := by rw [hKl]; exact hy.rd.ext x1
    have hyb : ∀ m, (∃ o k q', y = .sl m o k q') ∨ (∃ o k q', y = .sg m o k q') → m ≠ q := fun m h => by
      obtain ⟨_, ⟨rfl, _⟩ | ⟨m', ty, t, rfl, _, h3, _⟩⟩ := hy
      · rcases h with ⟨_, _, _, e⟩ | ⟨_, _, _, e⟩ <;> cases e
      · rcases h with ⟨_, _, _, e⟩ | ⟨_, _, _, e⟩
        · cases e
        · injection e with e; omega
    simp [evOp_call, T.get_set, oracF_cons, g0, g1, g2, g7, g8]
    refine Gd.mono (take_any s1 s.nx q a b 0 0 T1 ⟨hq, ha, hb⟩ who y (wn l) hy1 (by omega) (by omega) hup hyb _) ?_
    rintro ⟨r, s2⟩ ⟨hr, L, R, hLK, hn2, x2, T2, hH2, hR2⟩
    simp only at hr hn2 x2 T2 hH2 hR2
    subst hr
    have hs1 : s.nx ≤ s1.nx := x1.le
    have x02 : Ext s.nx s s2 := x1.trans x2
    have hx2 := hxs.ext x02
    have hLl : L.length = l.length := by rw [← hKl, ← hLK, List.length_map]
    obtain ⟨k0, hk0⟩ : ∃ k, l[0]? = some k := ⟨_, List.getElem?_eq_getElem (by omega)⟩
    obtain ⟨kn, hkn⟩ : ∃ k, l[l.length - 1]? = some k := ⟨_, List.getElem?_eq_getElem (by omega)⟩
    obtain ⟨m1, o1, ty1, sz1, tr1, i1, b1, k1, l1, c1⟩ := hx2.idx (st := s2) un76 io3 (i := 0) (by omega)
    have d1 : tr1.get o1 = some (.int .i64 k0) := by simpa using c1 0 _ (by omega) (by simp [hk0])
    simp [evOp_call, T.get_set, oracF_cons, g0, g1, g2, g7, g8, hwf, i1, loadE_eq, getC_eq, k1, d1]
    rw [bldWant1]
    simp [evOp_call, T.get_set, oracF_cons, g0, g1, g2, g7, g8]
    refine evOp_build1 (v := .g [.int .i64 k0, .bool false]) (cs := [.int .i64 k0, .bool false]) (fun k => el164 k) (fun k => ze170 k) rfl (by omega) (by simp [T.get_set]) (fun k => rfl) rfl ?_
    have hrow : ∀ (st : St) (k : Int) (b : Bool), RdRow ⟨st.nx + 1, st.h.set st.nx (.cs 170 2 (sets [.int .i64 k, .bool b] 0 .lf))⟩ (.sl st.nx 0 1 1) 2 1 (cellsK [(k, b)]) := fun st k b => ⟨rfl, .inr (.inl ⟨st.nx, 0, 1, _, _, _, rfl, Nat.lt_succ_self _, T.get_set_same _ _ _, by simp, fun j v hj => by
      have hj2 : ([.int .i64 k, .bool b] : List V)[j]? = some v := hj
      have hlt := lt_of_get hj2
      rw [get_sets, if_pos ⟨Nat.zero_le _, by omega⟩]
      simpa using hj2⟩)⟩
    have xn : ∀ (st : St) v, Ext st.nx st ⟨st.nx + 1, st.h.set st.nx v⟩ := fun st v => (Ext.refl _ _).new (Nat.le_refl _) v
    have hone : ∀ e ∈ [(who, R, 0)], e.1 ≠ other := fun e he => by simp at he; subst he; exact a2
    obtain ⟨⟨⟨k0', b0'⟩, m0⟩, hL0⟩ : ∃ z, L[0]? = some z := ⟨_, List.getElem?_eq_getElem (by omega)⟩
    have e0 : (k0', b0') = (k0, true) := by
      have u1 : (L.map Prod.fst)[0]? = some (k0', b0') := by rw [List.getElem?_map, hL0]; rfl
      rw [hLK, wn_get hk0] at u1
      injection u1 with u1; exact u1.symm
    injection e0 with e01 e02
    subst e01 e02
    obtain ⟨⟨⟨kn', bn'⟩, mn⟩, hLn⟩ : ∃ z, L[l.length - 1]? = some z := ⟨_, List.getElem?_eq_getElem (by omega)⟩
    have e1 : (kn', bn') = (kn, true) := by
      have u1 : (L.map Prod.fst)[l.length - 1]? = some (kn', bn') := by rw [List.getElem?_map, hLn]; rfl
      rw [hLK, wn_get hkn] at u1
      injection u1 with u1; exact u1.symm
    injection e1 with e11 e12
    subst e11 e12
    simp [evOp_call, T.get_set, oracF_cons, g0, g1, g2, g7, g8]
    generalize hS3 : (⟨s2.nx + 1, s2.h.set s2.nx (.cs 170 2 (sets [.int .i64 k0', .bool false] 0 .lf))⟩ : St) = s3
    have x3 : Ext s2.nx s2 s3 := hS3 ▸ xn s2 _
    have hr3 : RdRow s3 (.sl s2.nx 0 1 1) 2 1 (cellsK [(k0', false)]) := hS3 ▸ hrow s2 k0' false
    rw [lkF_ne rfl]
    refine Gd.mono (may_of s3 q other (.sl s2.nx 0 1 1) 15 (fun nt => ref_busy s3 q a b _ _ _ _ (T2.ext x3) other hone (.sl s2.nx 0 1 1) k0' false hr3 0 (.sg m0 0 1 1) 0 (ents_get L 0 0 _ hL0) rfl (fun e h => by cases h) nt) _) ?_
    rintro ⟨r, s4⟩ ⟨hr, x4⟩
    simp only at hr x4
    subst hr
    have x24 : Ext s2.nx s2 s4 := x3.trans (x4.mono x3.le)
    have T4 := T2.ext x24
    have hx4 := hx2.ext x24
    have wln : IntKind.i64.wrap ((l.length : Int) - 1) = ((l.length - 1 : Nat) : Int) := by rw [show (l.length : Int) - 1 = ((l.length - 1 : Nat) : Int) by omega]; exact wrap_in (by omega) (by omega)
    obtain ⟨m5, o5, ty5, sz5, tr5, i5, b5, k5, l5, c5⟩ := hx4.idx (st := s4) un76 io3 (i := l.length - 1) (by omega)
    have d5 : tr5.get o5 = some (.int .i64 kn') := by simpa using c5 0 _ (by omega) (by simp [hkn])
    simp [evOp_call, T.get_set, oracF_cons, g0, g1, g2, g7, g8, hwf, hx4.lenS, wln, i5, loadE_eq, getC_eq, k5, d5]
    refine evOp_build1 (v := .g [.int .i64 kn', .bool true]) (cs := [.int .i64 kn', .bool true]) (fun k => el164 k) (fun k => ze170 k) rfl (by omega) (by simp [T.get_set]) (fun k => rfl) rfl ?_
    simp [evOp_call, T.get_set, oracF_cons, g0, g1, g2, g7, g8]
    generalize hS5 : (⟨s4.nx + 1, s4.h.set s4.nx (.cs 170 2 (sets [.int .i64 kn', .bool true] 0 .lf))⟩ : St) = s5
    have x5 : Ext s4.nx s4 s5 := hS5 ▸ xn s4 _
    have hr5 : RdRow s5 (.sl s4.nx 0 1 1) 2 1 (cellsK [(kn', true)]) := hS5 ▸ hrow s4 kn' true
    rw [lkF_ne rfl]
    refine Gd.mono (may_of s5 q other (.sl s4.nx 0 1 1) 15 (fun nt => ref_busy s5 q a b _ _ _ _ (T4.ext x5) other hone (.sl s4.nx 0 1 1) kn' true hr5 (l.length - 1) (.sg mn 0 1 1) (0 + (l.length - 1)) (ents_get L 0 (l.length - 1) _ hLn) rfl (ents_low hup hLK hLn 0) nt) _) ?_
    rintro ⟨r, s6⟩ ⟨hr, x6⟩
    simp only at hr x6
    subst hr
    have x26 : Ext s2.nx s2 s6 := (x24.trans (x5.mono x24.le)).trans (x6.mono (by have := x24.le; have := x5.le; omega))
    have T6 := T2.ext x26
    have hH6 : HeldOk s.nx s6 who L := hH2.keep x26.le fun m ty sz t h hh => (x26.keep m h).trans hh
    have hR6 : RdRow s6 R 2 L.length (cellsK (L.map Prod.fst)) := by rw [hLK, hLl, ← hKl]; exact hR2.ext x26
    have x06 : Ext s.nx s s6 := x02.trans (x26.mono (by omega))
    simp [evOp_call, T.get_set, oracF_cons, g0, g1, g2, g7, g8, hwf]
    rw [lkF_ne rfl]
    refine Gd.mono (lgive_any s6 s.nx q a b 0 _ 0 _ who L R T6 ⟨hq, ha, hb⟩ hH6 hR6 (by omega) _) ?_
    rintro ⟨r, s7⟩ ⟨hn7, x7, T7⟩
    simp only at hn7 x7 T7
    have x07 : Ext s.nx s s7 := x06.trans x7
    have hy7 : RdRow s7 y 2 (wn l).length (cellsK (wn l)) := by rw [hKl]; exact hy.rd.ext x07
    simp [evOp_call, T.get_set, oracF_cons, g0, g1, g2, g7, g8]
    rw [lkF_ne rfl]
    refine Gd.mono (may_of s7 q other y 0 (fun nt => ref_any s7 q a b [] [] _ _ T7 other (fun e h => by cases h) y (wn l) hy7 (by omega) (by omega) hup (fun r _ e h => by cases h) nt) _) ?_
    rintro ⟨r, s8⟩ ⟨hr, x8⟩
    simp only at hr x8
    subst hr
    have T8 := T7.ext x8
    have hn8 : s7.nx ≤ s8.nx := x8.le
    have hs7 : s.nx ≤ s7.nx := x07.le
    have x08 : Ext s.nx s s8 := x07.trans (x8.mono hs7)
    have hy8 : RdRow s8 y 2 (wn l).length (cellsK (wn l)) := hy7.ext x8
    simp [evOp_call, T.get_set, oracF_cons, g0, g1, g2, g7, g8, hwu]
    refine Gd.mono (take_any s8 s.nx q a b _ _ T8 ⟨hq, ha, hb⟩ other y (wn l) hy8 (by omega) (by omega) hup hyb _) ?_
    rintro ⟨r, s9⟩ ⟨hr, L', R', hLK', hn9, x9, T9, hH9, hR9⟩
    simp only at hr hn9 x9 T9 hH9 hR9
    subst hr
    have x09 : Ext s.nx s s9 := x08.trans x9
    have hx9 := hxs.ext x09
    obtain ⟨m9, o9, ty9, sz9, tr9, i9, b9, k9, l9, c9⟩ := hx9.idx (st := s9) un76 io3 (i := 0) (by omega)
    have d9 : tr9.get o9 = some (.int .i64 k0') := by simpa using c9 0 _ (by omega) (by simp [hk0])
    simp [evOp_call, T.get_set, oracF_cons, g0, g1, g2, g7, g8, hwu, i9, loadE_eq, getC_eq, k9, d9]
    rw [lkF_ne rfl]
    have hLl' : L'.length = l.length := by rw [← hKl, ← hLK', List.length_map]
    obtain ⟨⟨⟨k9', b9'⟩, m9'⟩, hL9⟩ : ∃ z, L'[0]? = some z := ⟨_, List.getElem?_eq_getElem (by omega)⟩
    have e9 : (k9', b9') = (k0', true) := by
      have u1 : (L'.map Prod.fst)[0]? = some (k9', b9') := by rw [List.getElem?_map, hL9]; rfl
      rw [hLK', wn_get hk0] at u1
      injection u1 with u1; exact u1.symm
    injection e9 with e91 e92
    subst e91 e92
    obtain ⟨v1, v2, tyv, tv, v3, v4, v5⟩ := hH9.1 _ (List.mem_of_getElem? hL9)
    simp only at v1 v2 v3
    have hrow9 : RdRow s9 (.sg m9' 0 1 1) 1 1 [.int .i64 other] := ⟨rfl, .inr (.inr ⟨m9', 0, tyv, 1, tv, rfl, v2, v3, by omega, fun i v hi => by
      cases i with
      | zero => simp at hi; subst hi; exact v5
      | succ i => simp at hi⟩)⟩
    refine Gd.mono (who_any s9 q a b _ _ _ _ T9 k9' (.sg m9' 0 1 1) true _ other (ents_get L' _ 0 _ hL9) hrow9 _) ?_
    rintro ⟨r, s10⟩ ⟨hr, x10⟩
    simp only at hr x10
    simp [evOp_call, T.get_set, oracF_cons, g0, g1, g2, g7, g8, hr.lenS]
theorem lkF_both : CallSound Try.prog lkF ∧ HasBody Try.prog lkF := addF_both namesOkK mixesK _ (callL_both namesOkK mixesK)
theorem fits_intsK : Fits Try.prog (rowC iC) 76 := fits_row Try.underlying76 (by kernel_rfl) (by decide) (fits_i Try.underlying3)
theorem w_LockAlone (who other : Int) (l : List Int) (W : World) (_ : -9223372036854775808 ≤ who ∧ who ≤ 9223372036854775807) (_ : -9223372036854775808 ≤ other ∧ other ≤ 9223372036854775807) (y : Value) (hy : (rowC iC).rel W (fun j => [y][j]?.getD default) l) :
    Calls Try.prog 18 #[.int .i64 who, .int .i64 other, y] W fun e W' => e = .returned (.bool true) ∧ Below W.heap.size W W' := by
  obtain ⟨s1, r1, v, b1, l1, q1, e1, a1⟩ := (rowC iC).enter (Begin.zero W) hy
  obtain ⟨h1, h2⟩ := rowC_ints a1
  exact law_calls (lawX_sound namesOkK mixesK lkF_both Try.func108 rfl lockAwake) b1 (.cons (rel_int _ _) (.cons (rel_int _ _) (.cons (q1 0 (by decide)).2 .nil)))
    (g_LockAlone s1 who other (v 0) l h1 h2)
end Go.Proofs.Ytdoennkmcloalaa

/-
  The law PathDots, walked.
-/
import Derived.Test.YtdoennkmcloalaaDoorPaH
import Derived.Test.YtdoennkmcloalaaDoorDrw
set_option linter.unusedSimpArgs false
namespace Go.Proofs.YtdoennkmcloalaaDoor
open Go.RowKit Ev
/-- a literal row of two elements of one cell each -/
theorem evOp_build2 {P : Program} {c : Cx} {e : Env} {st : St} {F : CallF} {d : Option Nat} {t ty el : Nat} {p : String} {af : Array Edge} {g : Option (Nat × Bool)} {x y : Operand} {Q : V × St → Prop} {u v z : V}
    (hu : ∀ k : TypeId → Nat → Res, Ev.elemOf P t k = k el 1) (hz : ∀ k : List V → Res, zero P el k = k [z]) (hv : opv e x = some u) (hw : opv e y = some v) (hc : ∀ k : List V → Res, cellsOf u k = k [u]) (hd : ∀ k : List V → Res, cellsOf v k = k [v])
    (hQ : Q (.sl st.nx 0 2 2, ⟨st.nx + 1, st.h.set st.nx (.cs el 2 (sets [u, v] 0 .lf))⟩)) : Gd (evOp P F c e st ⟨d, .buildSlice t 2 #[(0, x), (1, y)], ty, p, af, g⟩) Q := by
  have hx : ∀ k : V → Res, opd e x k = k u := fun k => by
    have : opd e x k = (opv e x).bind k := by rw [opd_bind]; rfl
    rw [this, hv]; rfl
  have hy : ∀ k : V → Res, opd e y k = k v := fun k => by
    have : opd e y k = (opv e y).bind k := by rw [opd_bind]; rfl
    rw [this, hw]; rfl
  have h1 : evOp P F c e st ⟨d, .buildSlice t 2 #[(0, x), (1, y)], ty, p, af, g⟩ = Ev.elemOf P t fun el z => zero P el fun zs => opd e x fun u => opd e y fun v => (match Nat.beq zs.length z, Nat.ble (2 * z) 16777216 with
    | true, true => partsK (fun i => some (i * z, z)) [(0, x), (1, y)] [u, v] (rep zs 2) fun l => newC st el l fun n st => (some (.sl n 0 2 2, st) : Res)
    | _, _ => none) := rfl
  rw [h1, hu, hz, hx, hy]
  have b1 : Nat.beq [z].length 1 = true := rfl
  have b2 : Nat.ble (2 * 1) 16777216 = true := rfl
  simp only [b1, b2]
  have h2 : partsK (fun i => some (i * 1, 1)) [(0, x), (1, y)] [u, v] (rep [z] 2) (fun l => newC st el l fun n st => (some (.sl n 0 2 2, st) : Res)) = cellsOf u fun cs => (match Nat.beq cs.length 1 with
      | true => splice (0 * 1) cs (rep [z] 2) fun l => cellsOf v fun cs => (match Nat.beq cs.length 1 with
        | true => splice (1 * 1) cs l fun l => newC st el l fun n st => (some (.sl n 0 2 2, st) : Res)
        | false => none)
      | false => none) := rfl
  rw [h2, hc]
  have b3 : Nat.beq [u].length 1 = true := rfl
  simp only [b3]
  have h3 : ∀ k : List V → Res, splice (0 * 1) [u] (rep [z] 2) k = k [u, z] := fun k => rfl
  rw [h3, hd]
  have b4 : Nat.beq [v].length 1 = true := rfl
  simp only [b4]
  have h4 : ∀ k : List V → Res, splice (1 * 1) [v] [u, z] k = k [u, v] := fun k => rfl
  rw [h4, newC_is]
  exact ⟨_, rfl, hQ⟩
theorem Gd_cxB {P : Program} {c c' : Cx} {ops : List Oper} {o : Oper} {i : Nat} {s0 : St} {rs : List (Nat × Nat × Nat)} {e : Env} {st : St} {b : Builtin} {ts : List TypeId} {args : List V} {R : V × St → Prop} (h : cxOf c ops o i rs s0 e = c') (k : Gd (builtinE P c' b ts args st) R) : Gd (builtinE P (cxOf c ops o i rs s0 e) b ts args st) R := by rw [h]; exact k
/-- two rows that grow -/
def Two (b : Nat) (st : St) (x y : V) (A B : List Tx) : Prop := OwnRow b st x 1 A.length (sv A) ∧ OwnRow b st y 1 B.length (sv B) ∧ ∀ m o l o' l', x = .sg m o l 1 → y ≠ .sg m o' l' 1
theorem Two.swap {b : Nat} {st : St} {x y : V} {A B : List Tx} (h : Two b st x y A B) : Two b st y x B A := ⟨h.2.1, h.1, fun m o l o' l' e1 e2 => h.2.2 m o' l' o l e2 e1⟩
theorem Ev.OwnRow.keepIf {b : Nat} {st st' : St} {x : V} {z n : Nat} {l : List V} (h : OwnRow b st x z n l) (hn : st.nx ≤ st'.nx) (k : ∀ m, m < st.nx → (∃ o ln, x = .sg m o ln z) → st'.h.get m = st.h.get m) : OwnRow b st' x z n l := by
  obtain ⟨h1, h2⟩ := h
  refine ⟨h1, ?_⟩
  rcases h2 with h2 | ⟨m, ty, t, e, h3, h4, h5, h6⟩
  · exact .inl h2
  · exact .inr ⟨m, ty, t, e, h3, Nat.lt_of_lt_of_le h4 hn, (k m h4 ⟨_, _, e⟩).trans h5, h6⟩
theorem own_lt {b : Nat} {st : St} {x : V} {z n : Nat} {l : List V} (h : OwnRow b st x z n l) : ∀ m o k q, x = .sg m o k q → m < st.nx := fun m o k q e => by
  obtain ⟨_, h2⟩ := h
  rcases h2 with ⟨rfl, _⟩ | ⟨m', ty, t, rfl, h3, h4, _⟩
  · cases e
  · injection e with e; omega
theorem Gd_app2 {P : Program} {st : St} {b nt t t' el el' lx : Nat} {x y w : V} {A B K : List Tx} {Q : V × St → Prop} (hu : P.underlying t = some (.slice el)) (hk : P.underlying t' = some (.slice el')) (hi : infoOk P el 1 = true)
    (h : Two b st x y A B) (hb : b ≤ st.nx) (hel : el ≠ roT) (hx : ∀ s', w ≠ .s s') (hl : ∀ k : Nat → Res, lenA w k = k lx) (hf : ∀ k : List V → Res, firsts ⟨false, [], 0, nt⟩ st 1 lx w k = k (sv K)) (hn : K.length = lx) (hmax : A.length + lx ≤ 1073741824)
    (hQ : ∀ x' st', Two b st' x' y (A ++ K) B → Ext b st st' → Q (x', st')) : Gd (builtinE P ⟨false, [], 0, nt⟩ .append [t, t'] [x, w] st) Q := by
  refine Gd_append hu hk hi h.1 hb hel hx hl hf (by simp [sv, hn]) hmax fun x' st' h1 h2 h3 h4 => hQ x' st' ⟨?_, ?_, ?_⟩ h2
  · rw [sv_app, List.length_append, hn]; exact h1
  · exact h.2.1.keepIf h2.le fun m hm ⟨o, ln, e⟩ => h3 m hm fun o' ln' e' => h.2.2 m o' ln' o ln e' e
  · intro m o l o' l' e1 e2
    rcases h4 with rfl | ⟨ln, rfl⟩
    · exact h.2.2 m o l o' l' e1 e2
    · have := own_lt h.2.1 _ _ _ _ e2
      injection e1 with e1
      omega
theorem Two.ext {b : Nat} {st st' : St} {x y : V} {A B : List Tx} (h : Two b st x y A B) (k : Ext st.nx st st') : Two b st' x y A B := ⟨h.1.ext k, h.2.1.ext k, h.2.2⟩
/-- a row with something put in -/
def insI (at' : Nat) (X L : List Tx) : Nat → List Tx
  | 0 => []
  | i + 1 => insI at' X L i ++ ((if i = at' then X else []) ++ (L[i]?).toList)
theorem insI_eq (at' : Nat) (X L : List Tx) : ∀ i, insI at' X L i = if at' < i then L.take at' ++ X ++ (L.take i).drop at' else L.take i
  | 0 => by simp [insI]
  | i + 1 => by
    rw [insI, insI_eq at' X L i, List.take_add_one]
    by_cases h : at' < i
    · rw [if_pos h, if_pos (show at' < i + 1 by omega), if_neg (show ¬ i = at' by omega)]
      by_cases hl : at' ≤ (L.take i).length
      · rw [List.drop_append_of_le_length hl]; simp
      · rw [List.length_take] at hl
        have : L[i]? = none := List.getElem?_eq_none (by omega)
        rw [this]; simp
    · rw [if_neg h]
      by_cases h2 : i = at'
      · subst h2
        rw [if_pos rfl, if_pos (show i < i + 1 by omega)]
        by_cases hl : i < L.length
        · rw [List.getElem?_eq_getElem hl, List.drop_append_of_le_length (by simp; omega)]
          simp
        · rw [List.getElem?_eq_none (by omega)]; simp
      · rw [if_neg h2, if_neg (show ¬ at' < i + 1 by omega)]; simp
theorem insI_all {at' : Nat} {X L : List Tx} (h : at' ≤ L.length) : insI at' X L (L.length + 1) = L.take at' ++ X ++ L.drop at' := by
  rw [insI_eq, if_pos (show at' < L.length + 1 by omega)]
  congr 2
  exact List.take_of_length_le (by omega)
/-- what stands between the slashes, put behind one more -/
theorem cl_slash {M : List Tx} (hsl : ∀ p ∈ M, 47 ∉ p) (hbad : ∀ p ∈ M, ¬ badT p) (hlen : (jn M).length ≤ 399) : clS (47 :: jn M) = wayL (clP (M.filter keepT)) := by
  have hs : spl (47 :: jn M) = [] :: [] :: M := by rw [spl_slash, spl_jn M hsl]
  have he : errS (47 :: jn M) = 0 := by
    refine errS_of (by simp) (by simp; omega) ?_
    rw [hs]
    intro p hp
    rcases List.mem_cons.1 hp with rfl | hp
    · unfold badT; simp
    · rcases List.mem_cons.1 hp with rfl | hp
      · unfold badT; simp
      · exact hbad p hp
  have hp : parS (47 :: jn M) = M.filter keepT := by
    unfold parS
    rw [hs]
    rfl
  unfold clS
  rw [if_pos he, hp]
theorem nm_keep {p : Tx} (h : nmT p) : keepT p = true := by unfold keepT; simp [h.1, h.2.2.1]
theorem nm_bad {p : Tx} (h : nmT p) : ¬ badT p := fun hb => by obtain ⟨q1, q2, q3, q4, q5, q6⟩ := h; unfold badT at hb; rcases hb with hb | hb; omega; exact q6 hb
theorem clP_app (L K : List Tx) : clP (L ++ K) = K.foldl cl1 (clP L) := by unfold clP; rw [List.foldl_append]
theorem dots_dot {L : List Tx} {k : Nat} (h : ∀ p ∈ L, nmT p) (hL : L.length ≤ 6) : clS (47 :: jn L) = wayL L ∧ clS (47 :: jn (L.take k ++ [[46], []] ++ L.drop k)) = wayL L := by
  have hf : ∀ M : List Tx, (∀ p ∈ M, nmT p) → M.filter keepT = M := fun M hM => List.filter_eq_self.2 fun p hp => nm_keep (hM p hp)
  have hn : clP L = L := clP_names fun p hp => (h p hp).2.2.2.1
  have ht : ∀ p ∈ L.take k, nmT p := fun p hp => h p (List.mem_of_mem_take hp)
  have hd : ∀ p ∈ L.drop k, nmT p := fun p hp => h p (List.mem_of_mem_drop hp)
  have hj := jn_max (L := L) (n := 40) fun p hp => (h p hp).2.1
  constructor
  · rw [cl_slash (fun p hp => (h p hp).2.2.2.2.1) (fun p hp => nm_bad (h p hp)) (by omega), hf L h, hn]
  · rw [cl_slash]
    · rw [List.filter_append, List.filter_append, hf _ ht, hf _ hd]
      have : [[46], []].filter keepT = [] := by decide
      rw [this, List.append_nil, List.take_append_drop, hn]
    · intro p hp
      rcases List.mem_append.1 hp with hp | hp
      · rcases List.mem_append.1 hp with hp | hp
        · exact (ht p hp).2.2.2.2.1
        · simp at hp; rcases hp with rfl | rfl <;> decide
      · exact (hd p hp).2.2.2.2.1
    · intro p hp
      rcases List.mem_append.1 hp with hp | hp
      · rcases List.mem_append.1 hp with hp | hp
        · exact nm_bad (ht p hp)
        · simp at hp; rcases hp with rfl | rfl <;> decide
      · exact nm_bad (hd p hp)
    · rw [jn_app, jn_app, List.length_append, List.length_append]
      have : (jn L).length = (jn (L.take k)).length + (jn (L.drop k)).length := by rw [← List.length_append, ← jn_app, List.take_append_drop]
      have h3 : (jn [[46], []]).length = 3 := rfl
      omega
theorem dots_up {L : List Tx} {k : Nat} {u : Tx} (h : ∀ p ∈ L, nmT p) (hL : L.length ≤ 6) (hu : nmT u) : clS (47 :: jn (L.take k ++ [u, [46, 46]] ++ L.drop k)) = wayL L := by
  have hf : ∀ M : List Tx, (∀ p ∈ M, nmT p) → M.filter keepT = M := fun M hM => List.filter_eq_self.2 fun p hp => nm_keep (hM p hp)
  have ht : ∀ p ∈ L.take k, nmT p := fun p hp => h p (List.mem_of_mem_take hp)
  have hd : ∀ p ∈ L.drop k, nmT p := fun p hp => h p (List.mem_of_mem_drop hp)
  have hj := jn_max (L := L) (n := 40) fun p hp => (h p hp).2.1
  rw [cl_slash]
  · rw [List.filter_append, List.filter_append, hf _ ht, hf _ hd]
    have : [u, [46, 46]].filter keepT = [u, [46, 46]] := List.filter_eq_self.2 fun p hp => by
      simp at hp
      rcases hp with rfl | rfl
      · exact nm_keep hu
      · decide
    rw [this, clP_app, clP_app]
    have e1 : clP (L.take k) = L.take k := clP_names fun p hp => (ht p hp).2.2.2.1
    have e2 : [u, [46, 46]].foldl cl1 (clP (L.take k)) = L.take k := by
      rw [e1]
      simp only [List.foldl_cons, List.foldl_nil, cl1, if_neg hu.2.2.2.1, if_true]
      simp
    rw [e2, cl_names _ _ fun p hp => (hd p hp).2.2.2.1, List.take_append_drop]
  · intro p hp
    rcases List.mem_append.1 hp with hp | hp
    · rcases List.mem_append.1 hp with hp | hp
      · exact (ht p hp).2.2.2.2.1
      · simp at hp
        rcases hp with rfl | rfl
        · exact hu.2.2.2.2.1
        · decide
    · exact (hd p hp).2.2.2.2.1
  · intro p hp
    rcases List.mem_append.1 hp with hp | hp
    · rcases List.mem_append.1 hp with hp | hp
      · exact nm_bad (ht p hp)
      · simp at hp
        rcases hp with rfl | rfl
        · exact nm_bad hu
        · decide
    · exact nm_bad (hd p hp)
  · rw [jn_app, jn_app, List.length_append, List.length_append]
    have : (jn L).length = (jn (L.take k)).length + (jn (L.drop k)).length := by rw [← List.length_append, ← jn_app, List.take_append_drop]
    have h3 : (jn [u, [46, 46]]).length = u.length + 4 := by simp [jn]
    have := hu.2.1
    omega
theorem okS_sl {s : Tx} (h : okS s) : okS (47 :: s) := fun b hb => by
  rcases List.mem_cons.1 hb with rfl | hb
  · omega
  · exact h b hb
def pdI (st : St) (x : V) (k : Int) (u : Tx) (L : List Tx) (e : Env) (s : St) : Prop := ∃ i : Nat, i ≤ L.length ∧ e.get 0 = some x ∧ e.get 1 = some (.int .i64 k) ∧ e.get 2 = some (.s u) ∧ e.get 7 = some (.int .i64 (i : Int)) ∧ (∀ p ∈ L.take i, nmT p) ∧ s = st
def pdJ (st : St) (x : V) (k : Nat) (u : Tx) (L : List Tx) (e : Env) (s : St) : Prop := ∃ (i : Nat) (a b : V), i ≤ L.length + 1 ∧ e.get 0 = some x ∧ e.get 1 = some (.int .i64 (k : Int)) ∧ e.get 2 = some (.s u) ∧ e.get 8 = some a ∧ e.get 9 = some b ∧ e.get 10 = some (.int .i64 (i : Int)) ∧
  Two st.nx s a b (insI k [[46], []] L i) (insI k [u, [46, 46]] L i) ∧ Ext st.nx st s
def pdK (st : St) (x : V) (k : Nat) (u : Tx) (L : List Tx) (i : Nat) (r : X × Env × St) : Prop := ∃ (en : Env) (a b : V) (s : St), r = (.n, en, s) ∧ en.get 0 = some x ∧ en.get 1 = some (.int .i64 (k : Int)) ∧ en.get 2 = some (.s u) ∧ en.get 8 = some a ∧ en.get 9 = some b ∧ en.get 10 = some (.int .i64 (i : Int)) ∧
  Two st.nx s a b (insI k [[46], []] L i ++ (if i = k then [[46], []] else [])) (insI k [u, [46, 46]] L i ++ (if i = k then [u, [46, 46]] else [])) ∧ Ext st.nx st s
set_option maxRecDepth 20000 in
set_option maxHeartbeats 4000000 in
theorem g_PathDots (st : St) (x : V) (L : List Tx) (k : Int) (u : Tx) (hx : RdRow st x 1 L.length (sv L)) (hok : ∀ p ∈ L, okS p) (hku : -9223372036854775808 ≤ k ∧ k ≤ 9223372036854775807) (hu : okS u) (hin : 0 < L.length → ∃ m o q, x = .sl m o L.length q ∧ ∀ s, Ext st.nx st s → isRo s.h m = true) : Gd (lawC Tryd.prog 8 ⟨false, [], 0, 0⟩ 7 [x, .int .i64 k, .s u] st) fun r => r.1 = .bool true := by
  rw [Gd_lawC Tryd.func7 rfl]
  by_cases c1 : (6 : Int) < (L.length : Int)
  · simp [evOp_call, sets, T.get_set, oracF_cons, hx.lenS, c1]
  by_cases c2 : k < 0
  · simp [evOp_call, sets, T.get_set, oracF_cons, hx.lenS, c1, c2]
  by_cases c3 : (L.length : Int) < k
  · simp [evOp_call, sets, T.get_set, oracF_cons, hx.lenS, c1, c2, c3]
  simp [evOp_call, sets, T.get_set, oracF_cons, hx.lenS, c1, c2, c3]
  refine Gd.mono (name_any _ st u hu) ?_
  rintro _ rfl
  by_cases c4 : nmT u
  case neg => simp [evOp_call, sets, T.get_set, oracF_cons, hx.lenS, c1, c2, c3, c4]
  simp [evOp_call, sets, T.get_set, oracF_cons, hx.lenS, c1, c2, c3, c4]
  refine Gd_loop (pdI st x k u L) (fun en _ => muAt 7 L.length en) ?_ ?_
  · exact ⟨0, Nat.zero_le _, by simp [T.get_set], by simp [T.get_set], by simp [T.get_set], by simp [T.get_set], fun p hp => by simp at hp, rfl⟩
  · rintro en st0 ⟨i, hi, g0, g1, g2, g7, hnm, rfl⟩
    by_cases hlt : i < L.length
    · have hlt' : (i : Int) < (L.length : Int) := by omega
      have w1 : IntKind.i64.wrap ((i : Int) + 1) = ((i + 1 : Nat) : Int) := by rw [show ((i : Int) + 1) = ((i + 1 : Nat) : Int) by omega]; exact wrap_in (by omega) (by omega)
      obtain ⟨p, hp⟩ : ∃ p, L[i]? = some p := ⟨_, List.getElem?_eq_getElem hlt⟩
      have hpo := hok p (List.mem_of_getElem? hp)
      obtain ⟨m, o, ty, sz, tr, hid, hm, hg, ho, hcc⟩ := hx.idx (st := st0) un23 io9 hlt
      have t0 : tr.get o = some (.s p) := hcc 0 _ (by omega) (by simpa using sv_get hp)
      simp [evOp_call, T.get_set, oracF_cons, g0, g1, g2, g7, hx.lenS, hlt', hid, loadE_eq, getC_eq, hg, t0]
      refine Gd.mono (name_any _ st0 p hpo) ?_
      rintro _ rfl
      by_cases hn : nmT p
      · simp [evOp_call, T.get_set, oracF_cons, g0, g1, g2, g7, hn, w1]
        refine ⟨⟨i + 1, hlt, by simp [T.get_set, g0], by simp [T.get_set, g1], by simp [T.get_set, g2], by simp [T.get_set], fun q hq => ?_, rfl⟩, muAt_lt g7 (by simp [T.get_set]) hlt⟩
        rw [List.take_add_one, hp] at hq
        rcases List.mem_append.1 hq with hq | hq
        · exact hnm q hq
        · simp at hq; subst hq; exact hn
      · simp [evOp_call, T.get_set, oracF_cons, g0, g1, g2, g7, hn]
    · obtain rfl : i = L.length := by omega
      rw [List.take_length] at hnm
      obtain ⟨n, hn⟩ : ∃ n : Nat, k = (n : Int) := ⟨k.toNat, by omega⟩
      subst hn
      have hnl : n ≤ L.length := by omega
      obtain ⟨d1, d2⟩ := dots_dot (k := n) hnm (by omega)
      have d3 := dots_up (k := n) hnm (by omega) c4
      simp [evOp_call, T.get_set, oracF_cons, g0, g1, g2, g7, hx.lenS]
      refine Gd_loop (pdJ st0 x n u L) (fun en _ => muAt 10 (L.length + 1) en) ?_ ?_
      · exact ⟨0, _, _, Nat.zero_le _, by simp [T.get_set, g0], by simp [T.get_set, g1], by simp [T.get_set, g2], by simp [T.get_set], by simp [T.get_set], by simp [T.get_set], ⟨⟨rfl, .inl ⟨rfl, rfl⟩⟩, ⟨rfl, .inl ⟨rfl, rfl⟩⟩, fun _ _ _ _ _ e => by cases e⟩, Ext.refl _ _⟩
      · clear g0 g1 g2 g7
        rintro en sy ⟨i, a, b, hi, g0, g1, g2, g8, g9, g10, htw, hxx⟩
        have hx1 := hx.ext hxx
        by_cases hlt : i ≤ L.length
        · have hlt' : (i : Int) ≤ (L.length : Int) := by omega
          have w1 : IntKind.i64.wrap ((i : Int) + 1) = ((i + 1 : Nat) : Int) := by rw [show ((i : Int) + 1) = ((i + 1 : Nat) : Int) by omega]; exact wrap_in (by omega) (by omega)
          simp [evOp_call, T.get_set, oracF_cons, g0, g1, g2, g8, g9, g10, hx1.lenS, hlt']
          have hA : ∀ X : List Tx, insI n X L (i + 1) = insI n X L i ++ ((if i = n then X else []) ++ (L[i]?).toList) := fun X => rfl
          have hAl : ∀ X : List Tx, X.length = 2 → (insI n X L i).length ≤ 8 := fun X hX => by
            rw [insI_eq]
            split <;> simp <;> omega
          have hbx : st0.nx ≤ sy.nx := hxx.le
          refine condK_join (pdK st0 x n u L i) ?_ ?_
          · by_cases hat : i = n
            · subst hat
              simp [evOp_call, T.get_set, g0, g1, g2, g8, g9, g10]
              refine evOp_build2 (u := .s [46]) (v := .s []) (fun k => el23 k) (fun k => ze9 k) rfl rfl (fun k => rfl) (fun k => rfl) ?_
              simp [evOp_call, T.get_set, g0, g1, g2, g8, g9, g10]
              refine Gd_app2 (K := [[46], []]) un23 un23 io9 (lx := 2) (htw.ext ((Ext.refl _ _).new (Nat.le_refl _) _)) (by show st0.nx ≤ sy.nx + 1; omega) (by decide) (fun s' h => by cases h) (fun k => rfl) (fun k => by simp [getC_eq, T.get_set, sets, sv]; rfl) rfl (by have := hAl [[46], []] rfl; omega) ?_
              intro a' sz hz hxz
              simp [evOp_call, T.get_set, g0, g1, g2, g9, g10]
              refine evOp_build2 (u := .s u) (v := .s [46, 46]) (fun k => el23 k) (fun k => ze9 k) (by simp [T.get_set]) rfl (fun k => rfl) (fun k => rfl) ?_
              simp [evOp_call, T.get_set, g0, g1, g2, g9, g10]
              have hxw : Ext st0.nx sy sz := (((Ext.refl _ _).new (Nat.le_refl _) _).mono hbx).trans hxz
              refine Gd_app2 (K := [u, [46, 46]]) un23 un23 io9 (lx := 2) (hz.ext ((Ext.refl _ _).new (Nat.le_refl _) _)).swap (by show st0.nx ≤ sz.nx + 1; have := hxw.le; omega) (by decide) (fun s' h => by cases h) (fun k => rfl) (fun k => by simp [getC_eq, T.get_set, sets, sv]; rfl) rfl (by have := hAl [u, [46, 46]] rfl; omega) ?_
              intro b' s3 h3 hx3
              simp [evOp_call, T.get_set, g0, g1, g2, g9, g10]
              refine ⟨_, a', b', s3, rfl, by simp [T.get_set, g0], by simp [T.get_set, g1], by simp [T.get_set, g2], by simp [T.get_set], by simp [T.get_set], by simp [T.get_set, g10], ?_, ?_⟩
              · simpa using h3.swap
              · exact hxx.trans (hxw.trans ((((Ext.refl _ _).new (Nat.le_refl _) _).mono (by have := hxw.le; omega)).trans hx3))
            · have hat' : ¬ (i : Int) = (n : Int) := by omega
              simp [evOp_call, T.get_set, g0, g1, g2, g8, g9, g10, hat']
              exact ⟨_, a, b, sy, rfl, by simp [T.get_set, g0], by simp [T.get_set, g1], by simp [T.get_set, g2], by simp [T.get_set, g8], by simp [T.get_set, g9], by simp [T.get_set, g10], by simpa [hat] using htw, hxx⟩
          · clear g0 g1 g2 g8 g9 htw hx1
            have g10o := g10
            clear g10
            rintro _ ⟨en2, a, b, s2, rfl, g0, g1, g2, g8, g9, g10, htw, hxx2⟩
            have hx1 := hx.ext hxx2
            have hbx2 : st0.nx ≤ s2.nx := hxx2.le
            by_cases hl2 : i < L.length
            · have hl2' : (i : Int) < (L.length : Int) := by omega
              obtain ⟨p, hp⟩ : ∃ p, L[i]? = some p := ⟨_, List.getElem?_eq_getElem hl2⟩
              obtain ⟨m, o, ty, sz, tr, hid, hm, hg0, ho, hcc⟩ := hx.idx (st := st0) un23 io9 hl2
              have hg := (hxx2.keep m hm).trans hg0
              have t0 : tr.get o = some (.s p) := hcc 0 _ (by omega) (by simpa using sv_get hp)
              simp [evOp_call, T.get_set, oracF_cons, g0, g1, g2, g8, g9, g10, hx1.lenS, hl2', hid, loadE_eq, getC_eq, hg, t0]
              refine ⟨by kernel_rfl, ?_⟩
              refine evOp_build1 (v := .s p) (cs := [.s p]) (fun k => el23 k) (fun k => ze9 k) rfl (by omega) (by simp [T.get_set]) (fun k => rfl) rfl ?_
              simp [evOp_call, T.get_set, oracF_cons, g0, g1, g2, g8, g9, g10, loadE_eq, getC_eq, hg, t0]
              obtain ⟨mr, or, qr, hsl, hro⟩ := hin (by omega)
              rw [cxOf_callRo [(mr, mr + 1)] (by kernel_rfl) (by kernel_rfl) (looseW_at 0 (.sl mr or L.length qr) (by simp [T.get_set, g0, hsl]) (by kernel_rfl)) (fun p hp => by simp at hp; subst hp; exact hro _ (hxx2.trans (((Ext.refl _ _).new (Nat.le_refl _) _).mono hbx2))), forb_cons (by kernel_rfl) rfl]
              refine Gd_app2 (K := [p]) un23 un23 io9 (lx := 1) (htw.ext ((Ext.refl _ _).new (Nat.le_refl _) _)) (by show st0.nx ≤ s2.nx + 1; omega) (by decide) (fun s' h => by cases h) (fun k => rfl) (fun k => by simp [getC_eq, T.get_set, sets, sv]; rfl) rfl (by have := hAl [[46], []] rfl; simp; split <;> simp <;> omega) ?_
              intro a' s3 hz hxz
              have hxw : Ext st0.nx s2 s3 := (((Ext.refl _ _).new (Nat.le_refl _) _).mono hbx2).trans hxz
              have hg3 := ((hxx2.trans hxw).keep m hm).trans hg0
              have hms : m < s2.nx := Nat.lt_of_lt_of_le hm hbx2
              have hld : ∀ b, inF ((0, m) :: (m + 1, s3.nx) :: forb b (rsOf [(5, s2.nx, s2.nx + 1)] 6 (s2.nx + 1) s3.nx) []) m = false := fun b => inF_lds (rsOf_lt (fun e h => by simp at h; subst h; exact hms) (Nat.lt_succ_of_lt hms))
              simp [evOp_call, T.get_set, oracF_cons, g0, g1, g2, g9, g10, hid, loadE_eq, getC_eq, hg3, t0, hld]
              refine evOp_build1 (v := .s p) (cs := [.s p]) (fun k => el23 k) (fun k => ze9 k) rfl (by omega) (by simp [T.get_set]) (fun k => rfl) rfl ?_
              simp [evOp_call, T.get_set, oracF_cons, g0, g1, g2, g9, g10]
              rw [cxOf_call (by kernel_rfl) (by kernel_rfl), forb_cons (by kernel_rfl) (forb_step (by kernel_rfl) (forb_cons (by kernel_rfl) rfl))]
              have hbx3 : st0.nx ≤ s3.nx := Nat.le_trans hbx2 hxw.le
              refine Gd_app2 (K := [p]) un23 un23 io9 (lx := 1) (hz.swap.ext ((Ext.refl _ _).new (Nat.le_refl _) _)) (by show st0.nx ≤ s3.nx + 1; omega) (by decide) (fun s' h => by cases h) (fun k => rfl) (fun k => by simp [getC_eq, T.get_set, sets, sv]; rfl) rfl (by have := hAl [u, [46, 46]] rfl; simp; split <;> simp <;> omega) ?_
              intro b' s4 hz4 hx4
              simp [evOp_call, T.get_set, oracF_cons, g0, g1, g2, g9, g10, w1]
              refine ⟨⟨i + 1, a', b', by omega, by simp [T.get_set, g0], by simp [T.get_set, g1], by simp [T.get_set, g2], by simp [T.get_set], by simp [T.get_set], by simp [T.get_set], ?_, ?_⟩, muAt_lt g10o (by simp [T.get_set]) (by omega)⟩
              · rw [hA, hA, hp]
                simpa using hz4.swap
              · exact hxx2.trans (hxw.trans ((((Ext.refl _ _).new (Nat.le_refl _) _).mono hbx3).trans hx4))
            · simp [evOp_call, T.get_set, oracF_cons, g0, g1, g2, g8, g9, g10, hx1.lenS, hl2, w1]
              have hnone : L[i]? = none := List.getElem?_eq_none (by omega)
              refine ⟨⟨i + 1, a, b, by omega, by simp [T.get_set, g0], by simp [T.get_set, g1], by simp [T.get_set, g2], by simp [T.get_set, g8], by simp [T.get_set, g9], by simp [T.get_set], ?_, hxx2⟩, muAt_lt g10o (by simp [T.get_set]) (by omega)⟩
              rw [hA, hA, hnone]
              simpa using htw
        · obtain rfl : i = L.length + 1 := by omega
          rw [insI_all hnl, insI_all hnl] at htw
          have hno : ¬ ((L.length : Int) + 1 ≤ (L.length : Int)) := by omega
          have hjl := jn_max (L := L) (n := 40) fun p hp => (hnm p hp).2.1
          simp [evOp_call, T.get_set, oracF_cons, g0, g1, g2, g8, g9, g10, hx1.lenS, hno]
          refine Gd.mono (join_any sy x L hx1 (by omega) hok (by omega) _) ?_
          rintro ⟨r, s1⟩ ⟨hr, x1⟩
          simp only at hr x1
          subst hr
          have ho1 : okS (47 :: jn L) := okS_sl (okS_jn hok)
          have w2 : [47].length + (jn L).length ≤ 1073741824 := by simp; omega
          simp [evOp_call, T.get_set, oracF_cons, g0, g1, g2, g8, g9, g10, bin_sadd _ _ w2]
          refine Gd.mono (clean_any s1 _ ho1 _) ?_
          rintro ⟨r, s2⟩ ⟨hr, x2⟩
          simp only at hr x2
          subst hr
          have ha := htw.1.rd
          have hb := htw.2.1.rd
          have hoA : ∀ p ∈ L.take n ++ [[46], []] ++ L.drop n, okS p := fun p hp => by
            rcases List.mem_append.1 hp with hp | hp
            · rcases List.mem_append.1 hp with hp | hp
              · exact hok p (List.mem_of_mem_take hp)
              · simp at hp; rcases hp with rfl | rfl <;> intro b hb <;> simp at hb; omega
            · exact hok p (List.mem_of_mem_drop hp)
          have hoB : ∀ p ∈ L.take n ++ [u, [46, 46]] ++ L.drop n, okS p := fun p hp => by
            rcases List.mem_append.1 hp with hp | hp
            · rcases List.mem_append.1 hp with hp | hp
              · exact hok p (List.mem_of_mem_take hp)
              · simp at hp
                rcases hp with rfl | rfl
                · exact hu
                · intro b hb; simp at hb; omega
            · exact hok p (List.mem_of_mem_drop hp)
          have hsp : (jn L).length = (jn (L.take n)).length + (jn (L.drop n)).length := by rw [← List.length_append, ← jn_app, List.take_append_drop]
          have hjA : (jn (L.take n ++ [[46], []] ++ L.drop n)).length ≤ 1000 := by
            rw [jn_app, jn_app, List.length_append, List.length_append]
            have h3 : (jn [[46], []]).length = 3 := rfl
            omega
          have hjB : (jn (L.take n ++ [u, [46, 46]] ++ L.drop n)).length ≤ 1000 := by
            rw [jn_app, jn_app, List.length_append, List.length_append]
            have h3 : (jn [u, [46, 46]]).length = u.length + 4 := by simp [jn]
            have := c4.2.1
            omega
          obtain ⟨A, hAe⟩ : ∃ A, A = L.take n ++ [[46], []] ++ L.drop n := ⟨_, rfl⟩
          obtain ⟨B, hBe⟩ : ∃ B, B = L.take n ++ [u, [46, 46]] ++ L.drop n := ⟨_, rfl⟩
          have hAn : A.length ≤ 1000000 := by rw [hAe]; simp; omega
          have hBn : B.length ≤ 1000000 := by rw [hBe]; simp; omega
          rw [← hAe] at ha hoA hjA d2
          rw [← hBe] at hb hoB hjB d3
          have x12 := x1.trans (x2.mono x1.le)
          simp [evOp_call, T.get_set, oracF_cons, g0, g1, g2, g8, g9, g10, d1]
          refine Gd.mono (join_any s2 a A (ha.ext x12) hAn hoA (by omega) _) ?_
          rintro ⟨r, s3⟩ ⟨hr, x3⟩
          simp only at hr x3
          subst hr
          have w2 : [47].length + (jn A).length ≤ 1073741824 := by simp; omega
          simp [evOp_call, T.get_set, oracF_cons, g0, g1, g2, g8, g9, g10, bin_sadd _ _ w2]
          refine Gd.mono (clean_any s3 _ (okS_sl (okS_jn hoA)) _) ?_
          rintro ⟨r, s4⟩ ⟨hr, x4⟩
          simp only at hr x4
          subst hr
          have x14 := x12.trans ((x3.trans (x4.mono x3.le)).mono x12.le)
          simp [evOp_call, T.get_set, oracF_cons, g0, g1, g2, g8, g9, g10, d2]
          refine Gd.mono (join_any s4 b B (hb.ext x14) hBn hoB (by omega) _) ?_
          rintro ⟨r, s5⟩ ⟨hr, x5⟩
          simp only at hr x5
          subst hr
          have w2 : [47].length + (jn B).length ≤ 1073741824 := by simp; omega
          simp [evOp_call, T.get_set, oracF_cons, g0, g1, g2, g8, g9, g10, bin_sadd _ _ w2]
          refine Gd.mono (clean_any s5 _ (okS_sl (okS_jn hoB)) _) ?_
          rintro ⟨r, s6⟩ ⟨hr, x6⟩
          simp only at hr x6
          subst hr
          simp [evOp_call, T.get_set, oracF_cons, g0, g1, g2, g8, g9, g10, d3]
theorem w_PathDots (l : List Tx) (k : Int) (u : ByteArray) (W : World) (x : Value) (hx : (rowC sC).rel W (fun j => [x][j]?.getD default) l) (hk : -9223372036854775808 ≤ k ∧ k ≤ 9223372036854775807) (_ : u.size ≤ maxLen) :
    Calls Tryd.prog 7 #[x, .int .i64 k, .string u] W fun e W' => e = .returned (.bool true) ∧ Below W.heap.size W W' := by
  obtain ⟨s1, r1, v1, b1, l1, q1, e1, a1⟩ := (rowC sC).enter (Begin.zero W) hx
  obtain ⟨k1, k2, k3⟩ := rows_in a1
  exact law_calls (lawC_sound namesOkW mixesW Tryd.func8 rfl paAwake) b1 (.cons (q1 0 (by decide)).2 (.cons (rel_i64 _ _) (.cons (txOf_rel _ u) .nil)))
    (g_PathDots s1 (v1 0) l k (txOf u) k1 k2 hk (txOf_ok u) fun h => by
      obtain ⟨m, o, q, h1, _, h3⟩ := rowC_sl a1 (List.getElem?_eq_getElem h)
      exact ⟨m, o, q, h1, h3⟩)
end Go.Proofs.YtdoennkmcloalaaDoor

/-
  Contracts of package strconv and of Show.
-/
import Derived.Test.YtlonobfpogimgaaGreatDoorCsH
set_option linter.unusedSimpArgs false
set_option linter.unusedVariables false
namespace Go.Proofs.YtlonobfpogimgaaGreatDoor
open Go.RowKit Ev
noncomputable def cF2 : CallF := addF Tryz.prog cF1 34
theorem cF2_both : CallSound Tryz.prog cF2 ∧ HasBody Tryz.prog cF2 := addF_both namesOkS mixesS _ cF1_both
noncomputable def cF3 : CallF := addF Tryz.prog cF2 11
theorem cF3_both : CallSound Tryz.prog cF3 ∧ HasBody Tryz.prog cF3 := addF_both namesOkS mixesS _ cF2_both
noncomputable def cF4 : CallF := addF Tryz.prog cF3 5
theorem cF4_both : CallSound Tryz.prog cF4 ∧ HasBody Tryz.prog cF4 := addF_both namesOkS mixesS _ cF3_both
set_option maxRecDepth 20000 in
theorem itoa1_any (st : St) (n : Int) (h1 : -9223372036854775808 ≤ n) (h2 : n < 9223372036854775808) (nt : Nat) :
    Gd (cF2 ⟨false, [], 0, nt⟩ 34 [.int .i64 n] st) fun r => r.1 = .s (itT n) ∧ Ext st.nx st r.2 := by
  unfold cF2
  rw [Gd_addF Tryz.func34 rfl]
  simp [evOp_call, sets, T.get_set]
  refine Gd.mono (fmtI_any st n h1 h2 _) ?_
  rintro ⟨r, s1⟩ ⟨hr, x1⟩
  simp only at hr x1
  subst hr
  simp [evOp_call, sets, T.get_set]
  exact x1
set_option maxRecDepth 20000 in
theorem itoa2_any (st : St) (n : Int) (h1 : -9223372036854775808 ≤ n) (h2 : n < 9223372036854775808) (nt : Nat) :
    Gd (cF3 ⟨false, [], 0, nt⟩ 11 [.int .i64 n] st) fun r => r.1 = .s (itT n) ∧ Ext st.nx st r.2 := by
  unfold cF3
  rw [Gd_addF Tryz.func11 rfl]
  simp [evOp_call, sets, T.get_set]
  refine Gd.mono (itoa1_any st n h1 h2 _) ?_
  rintro ⟨r, s1⟩ ⟨hr, x1⟩
  simp only at hr x1
  subst hr
  simp [evOp_call, sets, T.get_set]
  exact x1
theorem cF3_ne {f : Nat} (h1 : Nat.beq f 11 = false) (h2 : Nat.beq f 34 = false) (h3 : Nat.beq f 69 = false) (h4 : Nat.beq f 97 = false) (c : Cx) (l : List V) (st : St) : cF3 c f l st = callL Tryz.prog c f l st := by
  unfold cF3 cF2 cF1
  rw [addF_ne _ _ h1, addF_ne _ _ h2, addF_ne _ _ h3, cF0_ne h4]
theorem cellsOf_g {β : Type} (l : List V) (k : List V → Option β) : cellsOf (.g l) k = k l := rfl
/-- a literal row of four ints -/
theorem evOp_build4 {P : Program} {c : Cx} {e : Env} {st : St} {F : CallF} {d : Option Nat} {t ty el : Nat} {pp : String} {af : Array Edge} {g : Option (Nat × Bool)} {x y z w : Operand} {Q : V × St → Prop} {p k a m : Int} {zv : V}
    (hu : ∀ k : TypeId → Nat → Res, Ev.elemOf P t k = k el 1) (hz : ∀ k : List V → Res, zero P el k = k [zv]) (h1 : opv e x = some (.int .i64 p)) (h2 : opv e y = some (.int .i64 k)) (h3 : opv e z = some (.int .i64 a)) (h4 : opv e w = some (.int .i64 m))
    (hQ : Q (.sl st.nx 0 4 4, ⟨st.nx + 1, st.h.set st.nx (.cs el 4 (sets [.int .i64 p, .int .i64 k, .int .i64 a, .int .i64 m] 0 .lf))⟩)) : Gd (evOp P F c e st ⟨d, .buildSlice t 4 #[(0, x), (1, y), (2, z), (3, w)], ty, pp, af, g⟩) Q := by
  have ho : ∀ {x : Operand} {n : Int} (h : opv e x = some (.int .i64 n)) (k : V → Res), opd e x k = k (.int .i64 n) := fun {x n} h k => by
    have : opd e x k = (opv e x).bind k := by rw [opd_bind]; rfl
    rw [this, h]; rfl
  have e1 : evOp P F c e st ⟨d, .buildSlice t 4 #[(0, x), (1, y), (2, z), (3, w)], ty, pp, af, g⟩ = Ev.elemOf P t fun el z' => zero P el fun zs => opd e x fun u => opd e y fun v => opd e z fun u2 => opd e w fun v2 => (match Nat.beq zs.length z', Nat.ble (4 * z') 16777216 with
    | true, true => partsK (fun i => some (i * z', z')) [(0, x), (1, y), (2, z), (3, w)] [u, v, u2, v2] (rep zs 4) fun l => newC st el l fun n st => (some (.sl n 0 4 4, st) : Res)
    | _, _ => none) := rfl
  rw [e1, hu, hz, ho h1, ho h2, ho h3, ho h4]
  have b1 : Nat.beq [zv].length 1 = true := rfl
  have b2 : Nat.ble (4 * 1) 16777216 = true := rfl
  simp only [b1, b2]
  have e2 : partsK (fun i => some (i * 1, 1)) [(0, x), (1, y), (2, z), (3, w)] [.int .i64 p, .int .i64 k, .int .i64 a, .int .i64 m] (rep [zv] 4) (fun l => newC st el l fun n st => (some (.sl n 0 4 4, st) : Res)) = newC st el [.int .i64 p, .int .i64 k, .int .i64 a, .int .i64 m] fun n st => (some (.sl n 0 4 4, st) : Res) := rfl
  rw [e2, newC_is]
  exact ⟨_, rfl, hQ⟩
def fin64 (n : Int) : Prop := -9223372036854775808 ≤ n ∧ n < 9223372036854775808
def shT (p k a m : Int) : Tx := jnF [itT p, itT k, itT a, itT m] 3
theorem smN_ok (v : Nat) (hv : v < 100) : (smN v).length ≤ 2 ∧ 1 ≤ (smN v).length ∧ ∀ b ∈ smN v, 48 ≤ b ∧ b < 58 := by
  unfold smN
  split
  · refine ⟨by simp, by simp, fun b hb => ?_⟩
    simp at hb
    omega
  · refine ⟨by simp, by simp, fun b hb => ?_⟩
    simp at hb
    omega
theorem itT_ok {n : Int} (h : fin64 n) : (itT n).length ≤ 100 ∧ okS (itT n) := by
  obtain ⟨h1, h2⟩ := h
  have hu : n.natAbs < 2 ^ 64 := by omega
  have h3 := (ndN_ok hu).2
  unfold itT
  split
  · rename_i hs
    obtain ⟨k1, _, k2⟩ := smN_ok n.toNat (by omega)
    exact ⟨by omega, fun b hb => by have := k2 b hb; omega⟩
  · split
    · refine ⟨by rw [List.length_cons, dg_len]; omega, fun b hb => ?_⟩
      rcases List.mem_cons.1 hb with rfl | hb
      · omega
      · exact dg_ok _ _ b hb
    · exact ⟨by rw [dg_len]; omega, dg_ok _ _⟩
def shI (st : St) (q : Nat) (N : List Int) (e : Env) (s : St) : Prop := ∃ (i : Nat) (x : V), i ≤ 4 ∧ e.get 3 = some x ∧ e.get 14 = some (.sl q 0 4 4) ∧ e.get 15 = some (.int .i64 4) ∧ e.get 16 = some (.int .i64 (i : Int)) ∧ OwnRow (q + 1) s x 1 i (sv ((N.take i).map itT)) ∧ Ext (q + 1) st s
set_option maxRecDepth 20000 in
set_option maxHeartbeats 4000000 in
theorem show_any (st : St) (p k a m : Int) (hp : fin64 p) (hk : fin64 k) (ha : fin64 a) (hm : fin64 m) (nt : Nat) :
    Gd (cF4 ⟨false, [], 0, nt⟩ 5 [.g [.int .i64 p, .int .i64 k, .int .i64 a, .int .i64 m]] st) fun r => r.1 = .s (shT p k a m) ∧ Ext st.nx st r.2 := by
  unfold cF4
  rw [Gd_addF Tryz.func5 rfl]
  simp [evOp_call, sets, T.get_set, newC_is, loadE_eq, getC_eq, cellsOf_g]
  refine evOp_build4 (fun k => el41 k) (fun k => ze3 k) (by simp [T.get_set]; try rfl) (by simp [T.get_set]; try rfl) (by simp [T.get_set]; try rfl) (by simp [T.get_set]; try rfl) ?_
  obtain ⟨s0, hs0⟩ : ∃ s0 : St, s0 = ⟨st.nx + 1 + 1, (st.h.set st.nx (.cs 23 4 (sets [.int .i64 p, .int .i64 k, .int .i64 a, .int .i64 m] 0 .lf))).set (st.nx + 1) (.cs 3 4 (sets [.int .i64 p, .int .i64 k, .int .i64 a, .int .i64 m] 0 .lf))⟩ := ⟨_, rfl⟩
  have x0 : Ext st.nx st s0 := by rw [hs0]; exact (((Ext.refl st.nx st).new (Nat.le_refl _) _).new (Nat.le_succ _) _)
  have hn0 : s0.nx = st.nx + 1 + 1 := by rw [hs0]
  obtain ⟨N, hN⟩ : ∃ N : List Int, N = [p, k, a, m] := ⟨_, rfl⟩
  obtain ⟨T4, hT4⟩ : ∃ T4 : T V, T4 = sets [.int .i64 p, .int .i64 k, .int .i64 a, .int .i64 m] 0 .lf := ⟨_, rfl⟩
  have hg0 : s0.h.get (st.nx + 1) = some (.cs 3 4 T4) := by rw [hs0, hT4]; exact T.get_set_same _ _ _
  have hget : ∀ (i : Nat) (n : Int), N[i]? = some n → T4.get i = some (.int .i64 n) := fun i n hn => by
    rw [hN] at hn
    have hlt := (List.getElem?_eq_some_iff.1 hn).1
    rw [hT4, get_sets, if_pos ⟨Nat.zero_le _, by simpa using hlt⟩, Nat.sub_zero]
    have e : [V.int .i64 p, .int .i64 k, .int .i64 a, .int .i64 m] = [p, k, a, m].map fun n => V.int .i64 n := rfl
    rw [e, List.getElem?_map, hn]
    rfl
  have hfin : ∀ n ∈ N, fin64 n := fun n hn => by
    rw [hN] at hn
    simp at hn
    rcases hn with rfl | rfl | rfl | rfl <;> assumption
  have hlen : N.length = 4 := by rw [hN]; rfl
  simp [evOp_call, sets, T.get_set, lenS, lenA]
  have hs0' := hs0
  simp [sets] at hs0'
  rw [← hs0']
  refine Gd_loop (shI s0 (st.nx + 1) N) (fun e _ => muAt 16 4 e) ?_ ?_
  · exact ⟨0, _, by omega, by simp [T.get_set], by simp [T.get_set], by simp [T.get_set], by simp [T.get_set], ⟨rfl, .inl ⟨rfl, rfl⟩⟩, Ext.refl _ _⟩
  rintro e s ⟨i, x, hi, g3, g14, g15, g16, hrow, hx⟩
  by_cases hlt : i < 4
  · have hlt' : (i : Int) < 4 := by omega
    obtain ⟨n, hn⟩ : ∃ n, N[i]? = some n := ⟨_, List.getElem?_eq_getElem (by omega)⟩
    obtain ⟨f1, f2⟩ := hfin n (List.mem_of_getElem? hn)
    have hgi : s.h.get (st.nx + 1) = some (.cs 3 4 T4) := (hx.keep (st.nx + 1) (by omega)).trans hg0
    have t1 := hget i n hn
    have w1 : IntKind.i64.wrap ((i : Int) + 1) = ((i + 1 : Nat) : Int) := by rw [wrap_i (by omega) (by omega)]; omega
    simp [evOp_call, T.get_set, g3, g14, g15, g16, hlt', hlt, loadE_eq, getC_eq, hgi, t1]
    refine Gd.mono (itoa2_any s n f1 f2 _) ?_
    rintro ⟨r, s1⟩ ⟨hr, x1⟩
    simp only at hr x1
    subst hr
    simp [evOp_call, T.get_set, g3, g14, g15, g16]
    refine evOp_build1 (v := .s (itT n)) (cs := [.s (itT n)]) (fun k => el40 k) (fun k => ze9 k) rfl (by omega) (by simp [T.get_set]) (fun k => rfl) rfl ?_
    simp [evOp_call, T.get_set, g3, g14, g15, g16]
    have hle1 := x1.le
    have hle2 := hx.le
    refine Gd_append un40 un40 io9 (lx := 1) (new := [.s (itT n)]) ((hrow.ext x1).ext ((Ext.refl _ _).new (Nat.le_refl _) _)) (by show st.nx + 1 + 1 ≤ s1.nx + 1; omega) (by decide) (fun s' h => by cases h) (fun k => rfl) (fun k => by simp [getC_eq, getsB_1, T.get_set, sets]) rfl (by omega) ?_
    intro z s3 hz x3 _ _
    simp [evOp_call, T.get_set, g3, g14, g15, g16, w1]
    refine ⟨⟨i + 1, z, by omega, by simp [T.get_set], by simp [T.get_set, g14], by simp [T.get_set, g15], by simp [T.get_set], ?_, ?_⟩, muAt_lt g16 (by simp [T.get_set]) hlt⟩
    · have e : sv ((N.take (i + 1)).map itT) = sv ((N.take i).map itT) ++ [.s (itT n)] := by rw [List.take_add_one, hn]; simp [sv]
      rw [e]
      exact hz
    · have hle0 : st.nx + 1 + 1 ≤ s.nx := by omega
      exact ((hx.trans (x1.mono hle0)).new (by omega) _).trans x3
  · have hi4 : i = 4 := by omega
    subst hi4
    simp [evOp_call, T.get_set, g3, g14, g15, g16]
    rw [cF3_ne (by rfl) (by rfl) (by rfl) (by rfl)]
    have hNt : (N.take 4).map itT = [itT p, itT k, itT a, itT m] := by rw [hN]; rfl
    rw [hNt] at hrow
    refine Gd.mono (join_any s x [itT p, itT k, itT a, itT m] rfl _ hrow ?_ ?_ _) ?_
    · intro t ht
      simp at ht
      rcases ht with rfl | rfl | rfl | rfl
      · exact (itT_ok hp).1
      · exact (itT_ok hk).1
      · exact (itT_ok ha).1
      · exact (itT_ok hm).1
    · intro t ht
      simp at ht
      rcases ht with rfl | rfl | rfl | rfl
      · exact (itT_ok hp).2
      · exact (itT_ok hk).2
      · exact (itT_ok ha).2
      · exact (itT_ok hm).2
    rintro ⟨r, s1⟩ ⟨hr, x1⟩
    simp only at hr x1
    subst hr
    simp [evOp_call, T.get_set]
    refine ⟨rfl, x0.trans ((hx.mono (by omega)).trans (x1.mono ?_))⟩
    have := x0.le
    have := hx.le
    omega
end Go.Proofs.YtlonobfpogimgaaGreatDoor

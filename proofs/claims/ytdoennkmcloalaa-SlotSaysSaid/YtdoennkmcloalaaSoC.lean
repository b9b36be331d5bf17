/-
  Contracts of package slot: its words.
-/
import Derived.Test.YtdoennkmcloalaaSoB
set_option linter.unusedSimpArgs false
set_option linter.unusedVariables false
namespace Go.Proofs.Ytdoennkmcloalaa
open Go.RowKit Ev
theorem cxOf_storeLs {c : Cx} {e : Env} {d : Option Nat} {t ty : TypeId} {x y : Operand} {p : String} {af : Array Edge} {g : Option (Nat × Bool)} {ops : List Oper} {i : Nat} {s0 : St} {rs : List (Nat × Nat × Nat)} (l : List (Nat × Nat)) (h : mayW ops i = false) (hl : looseW ops e i = some l) (ha : ∀ p ∈ l, isRo s0.h p.1 = false) : cxOf c ops ⟨d, .store t x y, ty, p, af, g⟩ i rs s0 e = ⟨c.all, l ++ forb (befOf ops i) rs c.l, c.wb, c.nt⟩ := by
  have h0 : cxOf c ops ⟨d, .store t x y, ty, p, af, g⟩ i rs s0 e = (match mayW ops i with
      | true => ⟨c.all, forb (befOf ops i) rs c.l, c.wb, c.nt⟩
      | false => (match (match looseW ops e i with
          | none => none
          | some l => some (alive s0.h l)) with
        | some l => ⟨c.all, l ++ forb (befOf ops i) rs c.l, c.wb, c.nt⟩
        | none => ⟨c.all, forb (befOf ops i) rs c.l, s0.nx, c.nt⟩)) := rfl
  rw [h0, h, hl]
  simp only [alive_own ha]
def sputI (q : Nat) (s : So) (st : St) (e : Env) (s' : St) : Prop := ∃ i : Nat, i ≤ s.l.length ∧ e.get 1 = some (.p st.nx 0) ∧ e.get 3 = some (.sl q 0 8 8) ∧ e.get 26 = some (.int .i64 (s.l.length : Int)) ∧ e.get 27 = some (.int .i64 (i : Int)) ∧
  (∃ t, s'.h.get st.nx = some (.cs 63 2 t) ∧ t.get 1 = some (.s s.l)) ∧ SlRow (st.nx + 1) s' (.sl q 0 8 8) 8 (soPart s i) ∧ Ext st.nx st s'
set_option maxRecDepth 20000 in
set_option maxHeartbeats 4000000 in
theorem sput_any (st : St) (s : So) (hb : ∀ b ∈ s.l, b < 256) (nt : Nat) : Gd (callL Try.prog ⟨false, [], 0, nt⟩ 56 [soV s] st) fun r => RdRow r.2 r.1 1 (soPut s).length (wv (soPut s)) ∧ (soGood s → SlRow st.nx r.2 r.1 8 (soPut s)) ∧ Ext st.nx st r.2 := by
  rw [Gd_callL Try.func56 rfl]
  have hcell : ∀ k : List V → Res, cellsOf (soV s) k = k [.int .i64 s.n, .s s.l] := fun k => rfl
  have hsv : V.g [.int .i64 s.n, .s s.l] = soV s := rfl
  have hbx := fun v => bx_ext st v
  simp [hcell, evOp_call, sets, T.get_set, newC_is, loadE_eq, getC_eq, getsB_succ, getsB_zero]
  rw [hsv]
  refine Gd.mono (sgood_any _ s hb _) ?_
  rintro ⟨r, s1⟩ ⟨hr, x1⟩
  simp only at hr x1
  subst hr
  have hs1 : Ext st.nx st s1 := (hbx _).trans (x1.mono (Nat.le_succ _))
  have l1 : st.nx < s1.nx := x1.le
  have k0 : s1.h.get st.nx = _ := (x1.keep _ (Nat.lt_succ_self _)).trans (T.get_set_same _ _ _)
  by_cases hg : soGood s
  case neg =>
    simp [T.get_set, hg]
    rw [soPut_bad hg]
    exact ⟨(OwnRow.nil 0 s1 1).rd, hs1⟩
  simp [T.get_set, hg]
  refine Gd_make (i := .i64) (i' := .i64) (n := 8) (q := 8) (fun k => el23 k) io24 (fun k => ze24 k) rfl rfl (Nat.le_refl _) (by omega) ?_
  have hm := SlRow.made (b := st.nx + 1) (n := 8) (st := s1) (el := 24) (by omega) (by decide)
  generalize hS : (⟨s1.nx + 1, s1.h.set s1.nx (.cs 24 (rep [V.int .u64 0] 8).length (sets (rep [V.int .u64 0] 8) 0 .lf))⟩ : St) = s2 at hm ⊢
  have x2 : Ext st.nx st s2 := hS ▸ hs1.new (by omega) _
  have k2 : s2.h.get st.nx = _ := (by rw [← hS]; exact T.get_set_ne _ _ (by omega) : s2.h.get st.nx = s1.h.get st.nx).trans k0
  have q0 : ¬ s1.nx = st.nx := by omega
  have q0' : ¬ st.nx = s1.nx := by omega
  have down : ∀ {s' : St} {L : List (BitVec 64)}, SlRow (st.nx + 1) s' (.sl s1.nx 0 8 8) 8 L → SlRow st.nx s' (.sl s1.nx 0 8 8) 8 L := fun h => by
    obtain ⟨h1, m, ty, t, h2, h3, h4⟩ := h
    exact ⟨h1, m, ty, t, h2, by omega, h4⟩
  by_cases ht : s.n = 0
  · have hp := (soPut_none hg ht).2
    simp [evOp_call, T.get_set, loadE_eq, getC_eq, k2, ht]
    rw [hp]
    exact ⟨hm.rd, down hm, x2⟩
  obtain ⟨hF, hP⟩ := soPut_full hg ht
  have h40 := hF.2.1.2
  obtain ⟨m2, ty2, t2, e2, _, b2, g2, r2, _, _⟩ := hm.put (i := 0) (by omega)
  injection e2 with e2
  subst e2
  have p1 := hm.put2 (i := 0) rfl g2 (by omega) (BitVec.ofInt 64 s.n)
  have p2 := p1.put2 (i := 1) rfl (T.get_set_same _ _ _) (by omega) (BitVec.ofInt 64 s.l.length)
  have x3 : Ext st.nx st _ := (x2.set (m := s1.nx) (by omega) b2 (.cs ty2 8 (t2.set 0 (wd (BitVec.ofInt 64 s.n))))).set (m := s1.nx) (by omega) b2 (.cs ty2 8 ((t2.set 0 (wd (BitVec.ofInt 64 s.n))).set 1 (wd (BitVec.ofInt 64 s.l.length))))
  simp only [T.set_set] at p2 x3
  simp [evOp_call, T.get_set, ht, loadE_eq, getC_eq, k2, len_str un9]
  refine ⟨by kernel_rfl, ?_⟩
  rw [cxOf_storeLs [(st.nx, st.nx + 1)] (by kernel_rfl) (looseW_at 1 (.p st.nx 0) (by simp [T.get_set]) (by kernel_rfl)) (fun p hp => by simp at hp; subst hp; rw [isRo_cs k2]; decide), forb_nil]
  have f1 : inF [(st.nx, st.nx + 1)] s1.nx = false := by rw [inF_cons, if_neg (by omega)]; rfl
  simp [evOp_call, T.get_set, putB_eq, g2, r2, f1]
  rw [cxOf_store]
  rotate_left
  · kernel_rfl
  rw [forb_nil]
  simp [evOp_call, T.get_set, putB_eq, g2, r2, loadE_eq, getC_eq, k2, q0, q0', len_str un9]
  refine Gd_loop (sputI s1.nx s st) (fun en _ => muAt 27 s.l.length en) ?_ ?_
  · exact ⟨0, Nat.zero_le _, by simp [T.get_set], by simp [T.get_set], by simp [T.get_set], by simp [T.get_set], ⟨_, (T.get_set_ne _ _ q0).trans k2, by simp [T.get_set]⟩, p2, x3⟩
  clear p1 p2 x3 hm g2
  rintro e s' ⟨i, hi, g1, g3, g26, g27, ⟨tb, kb, kb1⟩, hz, hx⟩
  by_cases hlt : i < s.l.length
  · have hlt' : (i : Int) < s.l.length := by omega
    have hwi := wrap_nat (n := i) (by omega)
    obtain ⟨b, hbi⟩ : ∃ b, s.l[i]? = some b := ⟨_, List.getElem?_eq_getElem hlt⟩
    obtain ⟨a, ha⟩ : ∃ a, a = i / 8 := ⟨_, rfl⟩
    obtain ⟨r, hr⟩ : ∃ r, r = i % 8 := ⟨_, rfl⟩
    obtain ⟨j, hj⟩ : ∃ j, j = 2 + a := ⟨_, rfl⟩
    obtain ⟨m, hm⟩ : ∃ m, m = 8 * r := ⟨_, rfl⟩
    have h1 : (i : Int).tdiv 8 = (a : Int) := by rw [Int.tdiv_eq_ediv_of_nonneg (by omega)]; omega
    have h2 : IntKind.i64.wrap (a : Int) = (a : Int) := wrap_in (by omega) (by omega)
    have h3 : IntKind.i64.wrap (2 + (a : Int)) = (j : Int) := by rw [show 2 + (a : Int) = (j : Int) by omega]; exact wrap_in (by omega) (by omega)
    have h4 : (i : Int).tmod 8 = (r : Int) := by rw [Int.tmod_eq_emod_of_nonneg (by omega)]; omega
    have h5 : IntKind.i64.wrap (r : Int) = (r : Int) := wrap_in (by omega) (by omega)
    have h6 : IntKind.i64.wrap (8 * (r : Int)) = (m : Int) := by rw [show 8 * (r : Int) = (m : Int) by omega]; exact wrap_in (by omega) (by omega)
    have hj8 : j < 8 := by omega
    have hj8' : j + 1 ≤ 8 := by omega
    obtain ⟨m3, ty3, t3, e3, b3', b3, g3', r3, c3, _⟩ := hz.put (i := j) hj8
    injection e3 with e3
    subst e3
    have u0 : t3.get j = some (wd (wat (soPart s i) j)) := c3 _ _ (wat_get (by rw [soPart_len]; exact hj8))
    have hbb : W.byteW (bI s.l) i = BitVec.ofInt 64 (b : Int) := by
      unfold W.byteW bI
      rw [List.getElem?_map, hbi]; rfl
    have hput := hz.put2 (i := j) rfl g3' hj8 (wat (soPart s i) j ||| BitVec.ofInt 64 (b : Int) <<< m)
    simp [evOp_call, T.get_set, g1, g3, g26, g27, hlt', loadE_eq, getC_eq, kb, kb1, h1, h2, h3, hj8, g3', u0]
    refine ⟨by kernel_rfl, ?_⟩
    rw [indexK_str un9 s.l i b hbi]
    simp [evOp_call, T.get_set, g1, g3, g26, g27, h4, h5, h6, hj8]
    rw [cxOf_store]
    rotate_left
    · kernel_rfl
    rw [forb_nil]
    simp [evOp_call, T.get_set, g1, g3, g26, g27, putB_eq, g3', r3, hj8', sets, hwi]
    refine ⟨⟨i + 1, hlt, by simp [T.get_set, g1], by simp [T.get_set, g3], by simp [T.get_set, g26], by simp [T.get_set], ⟨tb, (T.get_set_ne _ _ q0).trans kb, kb1⟩, ?_, hx.set (by omega) b3 _⟩, muAt_lt g27 (by simp [T.get_set]) hlt⟩
    rw [soPart_succ s (by omega), ← ha, ← hr, ← hj, ← hm, hbb]
    exact hput
  · obtain rfl : i = s.l.length := by omega
    rw [soPart_end s h40] at hz
    simp [evOp_call, T.get_set, g1, g3, g26, g27]
    refine Gd_headS (i := .i64) (k := 7) un23 io24 hz (by simp [T.get_set]) (by omega) fun v hv => ?_
    have hv7 : RdRow s' v 1 (soBody s).length (wv (soBody s)) := hv
    simp [evOp_call, T.get_set]
    refine Gd.mono (slOf_any s' 0 v (soBody s) hv7 (by show 7 ≤ 1000000; omega) _) ?_
    rintro _ rfl
    obtain ⟨m3, ty3, t3, e3, _, b3, g3', r3, _, _⟩ := hz.put (i := 7) (by omega)
    injection e3 with e3
    subst e3
    have hput := hz.put2 (i := 7) rfl g3' (by omega) (slOf (soBody s))
    have h7 : ∀ f : Nat → Res, asNat (.int .i64 7) f = f 7 := fun f => rfl
    simp [evOp_call, sets, T.get_set, putB_eq, roT, g3, g3', r3, h7]
    have hfin : SlRow (st.nx + 1) ⟨s'.nx, s'.h.set s1.nx (.cs ty3 8 (t3.set 7 (wd (slOf (soBody s)))))⟩ (.sl s1.nx 0 8 8) 8 (soPut s) := by rw [hP]; exact hput
    have h8 : (soPut s).length = 8 := by rw [soPut_len, if_pos hg]
    rw [h8]
    exact ⟨hfin.rd, down hfin, hx.set (by omega) b3 _⟩
end Go.Proofs.Ytdoennkmcloalaa

/-
  Contracts of package span: all words; some words made sure.
-/
import Derived.Test.YtenncnbaoejekaaSp
set_option linter.unusedSimpArgs false
namespace Go.Proofs.Ytenncnbaoejekaa
open Go.RowKit Ev
theorem swordE_off {s : AS} {f n a : Int} (h : hasB s.L.length f n a 1) : s.swordE f n a = if s.off = true then 14 else 0 := by
  obtain ⟨⟨w1, w2, w3, w4⟩, w5, w6, w7, w8⟩ := id h
  have hin : s.in8 (f * 8 + a) := ⟨by omega, by omega⟩
  unfold AS.swordE AS.loadE
  rw [if_pos h, if_pos hin]
def saI (st s0 : St) (b0 : Nat) (f n : Int) (s : AS) (m : Nat) (e : Env) (se : St) : Prop := ∃ (i : Nat) (x : V) (L : List (BitVec 64)), i ≤ m ∧ e.get 1 = some (.p b0 0) ∧ e.get 4 = some x ∧ e.get 16 = some (.int .i64 (m : Int)) ∧ e.get 17 = some (.int .i64 (i : Int)) ∧ SlRow s0.nx se x m L ∧ (∀ j, j < i → L[j]? = some (s.sword f n (j : Int))) ∧ Ext s0.nx s0 se ∧ Ext st.nx st se ∧ (0 < i → s.off = false)
set_option maxRecDepth 20000 in
set_option maxHeartbeats 4000000 in
theorem sall_any (st : St) (q : Nat) (v : MV) (h : MemAt st q v) (hR : v.R.length ≤ 1024) (f n : Int) (nt : Nat) :
    Gd (callL Try.prog ⟨false, [], 0, nt⟩ 53 [spV q f n] st) fun r => Ext st.nx st r.2 ∧ ((winB f n v.R.length ∧ v.off = false ∧ ∃ x L, r.1 = .t [x, .int .i64 0] ∧ SlRow st.nx r.2 x (8 * n).toNat L ∧ ∀ j : Nat, j < (8 * n).toNat → L[j]? = some ((absV v).sword f n (j : Int))) ∨
      (winB f n v.R.length ∧ v.off = true ∧ r.1 = .t [.c (.slice none 0 0), .int .i64 14]) ∨ (¬ winB f n v.R.length ∧ r.1 = .t [.c (.slice none 0 0), .int .i64 1])) := by
  rw [Gd_callL Try.func53 rfl]
  have hex : ∀ (s : St) b, Ext s.nx s ⟨s.nx + 1, s.h.set s.nx b⟩ := fun s b => (Ext.refl _ _).new (Nat.le_refl _) _
  have hsp : V.g [V.p q 0, V.int .i64 f, V.int .i64 n] = spV q f n := rfl
  have hq := h.lt
  simp [spV, evOp_call, sets, T.get_set, newC_is, cellsOf, loadE_eq, getC_eq, getsB_succ, getsB_zero]
  rw [hsp]
  refine Gd.mono (has_any _ q v (h.ext (hex st _)) hR f n 0 1 _) ?_
  rintro ⟨r, s1⟩ ⟨hr, e1⟩
  simp only at hr e1
  subst hr
  have hl1 : st.nx + 1 ≤ s1.nx := e1.le
  have x1 : Ext st.nx st s1 := (hex st _).trans (e1.mono (Nat.le_succ _))
  have k1 : s1.h.get st.nx = _ := (e1.keep st.nx (Nat.lt_succ_self _)).trans (T.get_set_same _ _ _)
  by_cases hw : winB f n v.R.length
  · obtain ⟨w1, w2, w3, w4⟩ := id hw
    have hh : hasB v.R.length f n 0 1 := ⟨hw, by omega, by omega, by omega, by omega⟩
    obtain ⟨m, hm⟩ : ∃ m, m = (8 * n).toNat := ⟨_, rfl⟩
    have hmn : (m : Int) = n * 8 := by omega
    have wm : IntKind.i64.wrap (n * 8) = (m : Int) := by rw [← hmn]; exact wrap_in (by omega) (by omega)
    rw [← hm]
    simp [evOp_call, sets, T.get_set, loadE_eq, getC_eq, getsB_succ, getsB_zero, hh, k1, wm]
    refine Gd_make (i := .i64) (i' := .i64) (n := m) (q := m) (fun k => el30 k) io31 (fun k => ze31 k) (by simp [T.get_set]) (by simp [T.get_set]) (Nat.le_refl _) (by omega) ?_
    have hmade := SlRow.made (n := m) (st := s1) (el := 31) (Nat.le_refl s1.nx) (by decide)
    simp [evOp_call, sets, T.get_set, hmade.rd.lenS]
    refine Gd_loop (saI st s1 st.nx f n (absV v) m) (fun e _ => muAt 17 m e) ?_ ?_
    · exact ⟨0, _, _, Nat.zero_le _, by simp [T.get_set], by simp [T.get_set], by simp [T.get_set], by simp [T.get_set], hmade, fun j hj => by omega, hex s1 _, x1.trans ((hex s1 _).mono x1.le), fun h => by omega⟩
    · rintro e s ⟨i, x, L, hi, g1, g4, g16, g17, hrow, hL, hs1, hs, hoff⟩
      have k2 : s.h.get st.nx = _ := (hs1.keep st.nx (by omega)).trans k1
      by_cases hlt : i < m
      · have hlt' : (i : Int) < m := by omega
        have hwi := wrap_nat (n := i) (by omega)
        have hhi : hasB (absV v).L.length f n (i : Int) 1 := ⟨by rw [absLen]; exact hw, by omega, by omega, by omega, by omega⟩
        simp [evOp_call, T.get_set, g1, g4, g16, g17, hlt', loadE_eq, getC_eq, getsB_succ, getsB_zero, k2]
        rw [hsp]
        refine Gd.mono (sword_any s q v (h.ext hs) hR f n (i : Int) _) ?_
        rintro ⟨r, s2⟩ ⟨hr, e2⟩
        simp only at hr e2
        subst hr
        rw [swordE_off hhi]
        have x2 : Ext st.nx st s2 := hs.trans (e2.mono hs.le)
        cases ho : v.off with
        | true =>
          have ho' : (absV v).off = true := ho
          simp [ho', evOp_call, T.get_set, g1, g4, g16, g17, sets]
          exact ⟨x2, hw⟩
        | false =>
          have ho' : (absV v).off = false := ho
          have hrow2 := hrow.ext e2
          obtain ⟨mx, tyx, tx, rfl, p1, p2, p3, p4, p5, p6⟩ := hrow2.put hlt
          have hone : ∀ b : BitVec 64, (wd b).one = true := fun _ => rfl
          simp [ho', evOp_call, T.get_set, g1, g4, g16, g17, hlt, putB_eq, p3, p4, storeK_1 (hone _), hwi, show i + 1 ≤ m from hlt]
          have hs12 := hs1.trans (e2.mono hs1.le)
          refine ⟨⟨i + 1, _, _, hlt, by simp [T.get_set, g1], by simp [T.get_set, g4], by simp [T.get_set, g16], by simp [T.get_set], p6 _, fun j hj => ?_, hs12.set p1 p2 _, x2.set (Nat.le_trans x1.le p1) p2 _, fun _ => ho'⟩, muAt_lt g17 (by simp [T.get_set]) hlt⟩
          by_cases hji : j = i
          · subst hji; rw [List.getElem?_set_self (by rw [hrow.1]; exact hlt)]
          · rw [List.getElem?_set_ne (fun e => hji e.symm)]; exact hL j (by omega)
      · obtain rfl : i = m := by omega
        simp [evOp_call, T.get_set, g1, g4, g16, g17]
        obtain ⟨r1, mx, ty, t, rfl, r2, r3, r4, r5, r6⟩ := hrow
        refine ⟨hs, hw, hoff (by omega), L, ⟨r1, mx, ty, t, rfl, Nat.le_trans x1.le r2, r3, r4, r5, r6⟩, fun j hj => hL j (by omega)⟩
  · have hh : ¬ hasB v.R.length f n 0 1 := fun h => hw h.1
    simp [hh, hw, evOp_call, sets, T.get_set]
    exact x1
/-! ### some words made sure -/
def storesA (s : AS) (f n a : Int) : List (BitVec 64) → AS × Int
  | [] => (s, 0)
  | w :: l => if s.ssetE f n a = 0 then storesA (s.sset f n a w) f n (a + 1) l else (s.sset f n a w, s.ssetE f n a)
theorem storesA_app (f n : Int) : ∀ (l1 : List (BitVec 64)) (s : AS) (a : Int) (l2 : List (BitVec 64)), storesA s f n a (l1 ++ l2) = if (storesA s f n a l1).2 = 0 then storesA (storesA s f n a l1).1 f n (a + l1.length) l2 else storesA s f n a l1
  | [], s, a, l2 => by simp [storesA]
  | w :: l1, s, a, l2 => by
    show (if s.ssetE f n a = 0 then storesA (s.sset f n a w) f n (a + 1) (l1 ++ l2) else (s.sset f n a w, s.ssetE f n a)) = _
    by_cases h : s.ssetE f n a = 0
    · rw [if_pos h, storesA_app f n l1]
      have e : storesA s f n a (w :: l1) = storesA (s.sset f n a w) f n (a + 1) l1 := by show (if _ then _ else _) = _; rw [if_pos h]
      rw [e, show a + 1 + (l1.length : Int) = a + ((w :: l1).length : Int) by simp; omega]
    · rw [if_neg h]
      have e : storesA s f n a (w :: l1) = (s.sset f n a w, s.ssetE f n a) := by show (if _ then _ else _) = _; rw [if_neg h]
      rw [e, if_neg h]
theorem storesA_take {f n a : Int} {s sj : AS} {l : List (BitVec 64)} {j : Nat} {w : BitVec 64} (hj : l[j]? = some w) (h : storesA s f n a (l.take j) = (sj, 0)) :
    (sj.ssetE f n (a + j) = 0 → storesA s f n a (l.take (j + 1)) = (sj.sset f n (a + j) w, 0)) ∧ (sj.ssetE f n (a + j) ≠ 0 → storesA s f n a l = (sj.sset f n (a + j) w, sj.ssetE f n (a + j))) := by
  have hlt := lt_of_get hj
  have hl : (l.take j).length = j := by simp; omega
  constructor
  · intro h0
    rw [take_get hj, storesA_app, h, hl]
    simp [storesA, h0]
  · intro h0
    have e : l = l.take j ++ w :: l.drop (j + 1) := by
      have h1 := (List.take_append_drop j l).symm
      rw [List.drop_eq_getElem_cons hlt] at h1
      have h2 := List.getElem?_eq_getElem hlt
      rw [hj] at h2
      injection h2 with h2
      rw [h2]; exact h1
    rw [e, storesA_app, h, hl]
    simp [storesA, h0]
def linesOf (f a : Int) (k : Nat) : List Int := (List.range ((a + k - 1) / 8 - a / 8 + 1).toNat).map fun j : Nat => f + a / 8 + (j : Int)
def pushA (s : AS) (f n a : Int) (l : List (BitVec 64)) : AS × Int :=
  if hasB s.L.length f n a l.length then
    if (storesA s f n a l).2 = 0 then
      if (storesA s f n a l).1.flushE (linesOf f a l.length) = 0 then
        (((storesA s f n a l).1.flush (linesOf f a l.length)).fence, ((storesA s f n a l).1.flush (linesOf f a l.length)).fenceE)
      else ((storesA s f n a l).1.flush (linesOf f a l.length), (storesA s f n a l).1.flushE (linesOf f a l.length))
    else storesA s f n a l
  else (s, 1)
/-- the sizes that the contracts ask for, and what keeps them -/
def szB (s : AS) (N i : Nat) : Prop := s.L.length = N ∧ s.fuse ≤ 9223372036854775807 ∧ ∀ m ∈ s.L, m.O.length ≤ i
theorem szB.v {v : MV} {N i : Nat} (h : szB (absV v) N i) : v.R.length = N ∧ v.fuse ≤ 9223372036854775807 ∧ ∀ r ∈ v.R, r.m.O.length ≤ i :=
  ⟨by have := h.1; simpa [absV] using this, h.2.1, fun r hr => h.2.2 r.m (List.mem_map_of_mem hr)⟩
theorem szB.mono {s : AS} {N i j : Nat} (h : szB s N i) (k : i ≤ j) : szB s N j := ⟨h.1, h.2.1, fun m hm => Nat.le_trans (h.2.2 m hm) k⟩
theorem szB.fell {s : AS} {N i : Nat} (h : szB s N i) (K : List Int) : szB (s.fell K) N i := ⟨by show (fallM K s.L).length = N; rw [fallM_length]; exact h.1, by show (0 : Int) ≤ _; omega, fun m hm => by
  obtain ⟨x, hx, e⟩ := fallM_mem hm
  rcases e with ⟨rfl, _⟩ | ⟨k, rfl⟩
  · exact h.2.2 _ hx
  · exact Nat.zero_le _⟩
theorem szB.lit {s : AS} {N i : Nat} (h : szB s N i) : szB s.lit N i := by
  unfold AS.lit
  split
  · exact h
  · split
    · exact ⟨h.1, by have := h.2.1; show s.fuse - 1 ≤ _; omega, h.2.2⟩
    · exact h.fell _
theorem szB.store {s : AS} {N i : Nat} (h : szB s N i) (a : Int) (w : BitVec 64) : szB (s.store a w) N (i + 1) := by
  unfold AS.store
  split
  · exact h.mono (Nat.le_succ _)
  · split
    · rename_i hin
      split
      · exact h.lit.mono (Nat.le_succ _)
      · obtain ⟨m, hm⟩ := in8_get hin
        refine ⟨by show (s.L.set _ _).length = N; rw [List.length_set]; exact h.1, h.lit.2.1, fun x hx => ?_⟩
        rcases set_mem hx with hx | rfl
        · have := h.2.2 x hx; omega
        · rw [hm]
          have := h.2.2 m (List.mem_of_getElem? hm)
          have h2 : ((m.store (a % 8) w).O).length ≤ m.O.length + 1 := by unfold LM.store; split <;> simp
          exact Nat.le_trans h2 (by omega)
    · exact h.mono (Nat.le_succ _)
theorem szB.sset {s : AS} {N i : Nat} (h : szB s N i) (f n a : Int) (w : BitVec 64) : szB (s.sset f n a w) N (i + 1) := by
  unfold AS.sset
  split
  · exact h.store _ _
  · exact h.mono (Nat.le_succ _)
theorem szB.flush {s : AS} {N i : Nat} (h : szB s N i) (ls : List Int) : szB (s.flush ls) N i := by
  unfold AS.flush
  split
  · exact h
  · split
    · rename_i hm
      split
      · exact h.lit
      · exact ⟨by show (flushL s.L ls).length = N; rw [flushL_length]; exact h.1, h.lit.2.1, flushL_ok (P := fun m => m.O.length ≤ i) (fun _ h => h) ls s.L hm h.2.2⟩
    · exact h
theorem szB.fence {s : AS} {N i : Nat} (h : szB s N i) : szB s.fence N i := by
  unfold AS.fence
  split
  · exact h
  · split
    · exact h.lit
    · refine ⟨by show (s.L.map fenceM).length = N; rw [List.length_map]; exact h.1, h.lit.2.1, fun m hm => ?_⟩
      obtain ⟨x, hx, rfl⟩ := List.mem_map.1 hm
      have := h.2.2 x hx
      show (x.O.drop _).length ≤ i
      rw [List.length_drop]; omega
theorem szB.stores {f n : Int} {N : Nat} : ∀ (l : List (BitVec 64)) {s : AS} {i : Nat} {a : Int}, szB s N i → szB (storesA s f n a l).1 N (i + l.length)
  | [], _, _, _, h => h
  | w :: l, s, i, a, h => by
    show szB (if s.ssetE f n a = 0 then storesA (s.sset f n a w) f n (a + 1) l else (s.sset f n a w, s.ssetE f n a)).1 N (i + (l.length + 1))
    split
    · exact (szB.stores l (h.sset f n a w)).mono (by omega)
    · exact (h.sset f n a w).mono (by omega)
theorem szB.push {s : AS} {N i : Nat} (h : szB s N i) (f n a : Int) (l : List (BitVec 64)) : szB (pushA s f n a l).1 N (i + l.length) := by
  unfold pushA
  split
  · split
    · split
      · exact ((h.stores l).flush _).fence
      · exact (h.stores l).flush _
    · exact h.stores l
  · exact h.mono (by omega)
end Go.Proofs.Ytenncnbaoejekaa

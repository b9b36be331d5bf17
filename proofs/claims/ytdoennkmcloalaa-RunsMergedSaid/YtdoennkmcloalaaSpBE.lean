/-
  PLAIN: SpB, SpC, SpD, SpE, in one text.
-/
import Derived.Test.YtdoennkmcloalaaSp
set_option linter.unusedSimpArgs false
namespace Go.Proofs.Ytdoennkmcloalaa
open Go.RowKit Ev
theorem swordE_off {s : AS} {f n a : Int} (h : hasB s.L.length f n a 1) : s.swordE f n a = if s.off = true then 14 else 0 := by
  obtain ⟨⟨w1, w2, w3, w4⟩, w5, w6, w7, w8⟩ := id h
  have hin : s.in8 (f * 8 + a) := ⟨by omega, by omega⟩
  unfold AS.swordE AS.loadE
  rw [if_pos h, if_pos hin]
def saI (st s0 : St) (b0 : Nat) (f n : Int) (s : AS) (m : Nat) (e : Env) (se : St) : Prop := ∃ (i : Nat) (x : V) (L : List (BitVec 64)), i ≤ m ∧ e.get 1 = some (.p b0 0) ∧ e.get 4 = some x ∧ e.get 16 = some (.int .i64 (m : Int)) ∧ e.get 17 = some (.int .i64 (i : Int)) ∧ SlRow s0.nx se x m L ∧ (∀ j, j < i → L[j]? = some (s.sword f n (j : Int))) ∧ Ext s0.nx s0 se ∧ Ext st.nx st se ∧ (0 < i → s.off = false)
set_option maxRecDepth 20000 in
set_option maxHeartbeats 4000000 in
theorem sall_any (st : St) (q : Nat) (v : MV) (h : MemAt st q v) (hR : v.R.length ≤ 1024) (f n : Int) (nt : Nat) :
    Gd (callL Try.prog ⟨false, [], 0, nt⟩ 166 [spV q f n] st) fun r => Ext st.nx st r.2 ∧ ((winB f n v.R.length ∧ v.off = false ∧ ∃ x L, r.1 = .t [x, .int .i64 0] ∧ SlRow st.nx r.2 x (8 * n).toNat L ∧ ∀ j : Nat, j < (8 * n).toNat → L[j]? = some ((absV v).sword f n (j : Int))) ∨
      (winB f n v.R.length ∧ v.off = true ∧ r.1 = .t [.c (.slice none 0 0), .int .i64 14]) ∨ (¬ winB f n v.R.length ∧ r.1 = .t [.c (.slice none 0 0), .int .i64 1])) := by
  rw [Gd_callL Try.func166 rfl]
  have hex : ∀ (s : St) b, Ext s.nx s ⟨s.nx + 1, s.h.set s.nx b⟩ := fun s b => (Ext.refl _ _).new (Nat.le_refl _) _
  have hsp : V.g [V.p q 0, V.int .i64 f, V.int .i64 n] = spV q f n := rfl
  have hq := h.lt
  simp [spV, evOp_call, sets, T.get_set, newC_is, cellsOf, loadE_eq, getC_eq, getsB_succ, getsB_zero]
  rw [hsp]
  refine Gd.mono (has_any _ q v (h.ext (hex st _)) hR f n 0 1 _) ?_
  rintro ⟨r, s1⟩ ⟨hr, e1⟩
  simp only at hr e1
  subst hr
  have hl1 : st.nx + 1 ≤ s1.nx := e1.le
  have x1 : Ext st.nx st s1 := (hex st _).trans (e1.mono (Nat.le_succ _))
  have k1 : s1.h.get st.nx = _ := (e1.keep st.nx (Nat.lt_succ_self _)).trans (T.get_set_same _ _ _)
  by_cases hw : winB f n v.R.length
  · obtain ⟨w1, w2, w3, w4⟩ := id hw
    have hh : hasB v.R.length f n 0 1 := ⟨hw, by omega, by omega, by omega, by omega⟩
    obtain ⟨m, hm⟩ : ∃ m, m = (8 * n).toNat := ⟨_, rfl⟩
    have hmn : (m : Int) = n * 8 := by omega
    have wm : IntKind.i64.wrap (n * 8) = (m : Int) := by rw [← hmn]; exact wrap_in (by omega) (by omega)
    rw [← hm]
    simp [evOp_call, sets, T.get_set, loadE_eq, getC_eq, getsB_succ, getsB_zero, hh, k1, wm]
    refine Gd_make (i := .i64) (i' := .i64) (n := m) (q := m) (fun k => el23 k) io24 (fun k => ze24 k) (by simp [T.get_set]) (by simp [T.get_set]) (Nat.le_refl _) (by omega) ?_
    have hmade := SlRow.made (n := m) (st := s1) (el := 24) (Nat.le_refl s1.nx) (by decide)
    simp [evOp_call, sets, T.get_set, hmade.rd.lenS]
    refine Gd_loop (saI st s1 st.nx f n (absV v) m) (fun e _ => muAt 17 m e) ?_ ?_
    · exact ⟨0, _, _, Nat.zero_le _, by simp [T.get_set], by simp [T.get_set], by simp [T.get_set], by simp [T.get_set], hmade, fun j hj => by omega, hex s1 _, x1.trans ((hex s1 _).mono x1.le), fun h => by omega⟩
    · rintro e s ⟨i, x, L, hi, g1, g4, g16, g17, hrow, hL, hs1, hs, hoff⟩
      have k2 : s.h.get st.nx = _ := (hs1.keep st.nx (by omega)).trans k1
      by_cases hlt : i < m
      · have hlt' : (i : Int) < m := by omega
        have hwi := wrap_nat (n := i) (by omega)
        have hhi : hasB (absV v).L.length f n (i : Int) 1 := ⟨by rw [absLen]; exact hw, by omega, by omega, by omega, by omega⟩
        simp [evOp_call, T.get_set, g1, g4, g16, g17, hlt', loadE_eq, getC_eq, getsB_succ, getsB_zero, k2]
        rw [hsp]
        refine Gd.mono (sword_any s q v (h.ext hs) hR f n (i : Int) _) ?_
        rintro ⟨r, s2⟩ ⟨hr, e2⟩
        simp only at hr e2
        subst hr
        rw [swordE_off hhi]
        have x2 : Ext st.nx st s2 := hs.trans (e2.mono hs.le)
        cases ho : v.off with
        | true =>
          have ho' : (absV v).off = true := ho
          simp [ho', evOp_call, T.get_set, g1, g4, g16, g17, sets]
          exact ⟨x2, hw⟩
        | false =>
          have ho' : (absV v).off = false := ho
          have hrow2 := hrow.ext e2
          obtain ⟨mx, tyx, tx, rfl, p1, p2, p3, p4, p5, p6⟩ := hrow2.put hlt
          have hone : ∀ b : BitVec 64, (wd b).one = true := fun _ => rfl
          simp [ho', evOp_call, T.get_set, g1, g4, g16, g17, hlt, putB_eq, p3, p4, storeK_1 (hone _), hwi, show i + 1 ≤ m from hlt]
          have hs12 := hs1.trans (e2.mono hs1.le)
          refine ⟨⟨i + 1, _, _, hlt, by simp [T.get_set, g1], by simp [T.get_set, g4], by simp [T.get_set, g16], by simp [T.get_set], p6 _, fun j hj => ?_, hs12.set p1 p2 _, x2.set (Nat.le_trans x1.le p1) p2 _, fun _ => ho'⟩, muAt_lt g17 (by simp [T.get_set]) hlt⟩
          by_cases hji : j = i
          · subst hji; rw [List.getElem?_set_self (by rw [hrow.1]; exact hlt)]
          · rw [List.getElem?_set_ne (fun e => hji e.symm)]; exact hL j (by omega)
      · obtain rfl : i = m := by omega
        simp [evOp_call, T.get_set, g1, g4, g16, g17]
        obtain ⟨r1, mx, ty, t, rfl, r2, r3, r4, r5, r6⟩ := hrow
        refine ⟨hs, hw, hoff (by omega), L, ⟨r1, mx, ty, t, rfl, Nat.le_trans x1.le r2, r3, r4, r5, r6⟩, fun j hj => hL j (by omega)⟩
  · have hh : ¬ hasB v.R.length f n 0 1 := fun h => hw h.1
    simp [hh, hw, evOp_call, sets, T.get_set]
    exact x1
/-! ### some words made sure -/
def storesA (s : AS) (f n a : Int) : List (BitVec 64) → AS × Int
  | [] => (s, 0)
  | w :: l => if s.ssetE f n a = 0 then storesA (s.sset f n a w) f n (a + 1) l else (s.sset f n a w, s.ssetE f n a)
theorem storesA_app (f n : Int) : ∀ (l1 : List (BitVec 64)) (s : AS) (a : Int) (l2 : List (BitVec 64)), storesA s f n a (l1 ++ l2) = if (storesA s f n a l1).2 = 0 then storesA (storesA s f n a l1).1 f n (a + l1.length) l2 else storesA s f n a l1
  | [], s, a, l2 => by simp [storesA]
  | w :: l1, s, a, l2 => by
    show (if s.ssetE f n a = 0 then storesA (s.sset f n a w) f n (a + 1) (l1 ++ l2) else (s.sset f n a w, s.ssetE f n a)) = _
    by_cases h : s.ssetE f n a = 0
    · rw [if_pos h, storesA_app f n l1]
      have e : storesA s f n a (w :: l1) = storesA (s.sset f n a w) f n (a + 1) l1 := by show (if _ then _ else _) = _; rw [if_pos h]
      rw [e, show a + 1 + (l1.length : Int) = a + ((w :: l1).length : Int) by simp; omega]
    · rw [if_neg h]
      have e : storesA s f n a (w :: l1) = (s.sset f n a w, s.ssetE f n a) := by show (if _ then _ else _) = _; rw [if_neg h]
      rw [e, if_neg h]
theorem storesA_take {f n a : Int} {s sj : AS} {l : List (BitVec 64)} {j : Nat} {w : BitVec 64} (hj : l[j]? = some w) (h : storesA s f n a (l.take j) = (sj, 0)) :
    (sj.ssetE f n (a + j) = 0 → storesA s f n a (l.take (j + 1)) = (sj.sset f n (a + j) w, 0)) ∧ (sj.ssetE f n (a + j) ≠ 0 → storesA s f n a l = (sj.sset f n (a + j) w, sj.ssetE f n (a + j))) := by
  have hlt := lt_of_get hj
  have hl : (l.take j).length = j := by simp; omega
  constructor
  · intro h0
    rw [take_get hj, storesA_app, h, hl]
    simp [storesA, h0]
  · intro h0
    have e : l = l.take j ++ w :: l.drop (j + 1) := by
      have h1 := (List.take_append_drop j l).symm
      rw [List.drop_eq_getElem_cons hlt] at h1
      have h2 := List.getElem?_eq_getElem hlt
      rw [hj] at h2
      injection h2 with h2
      rw [h2]; exact h1
    rw [e, storesA_app, h, hl]
    simp [storesA, h0]
def linesOf (f a : Int) (k : Nat) : List Int := (List.range ((a + k - 1) / 8 - a / 8 + 1).toNat).map fun j : Nat => f + a / 8 + (j : Int)
def pushA (s : AS) (f n a : Int) (l : List (BitVec 64)) : AS × Int :=
  if hasB s.L.length f n a l.length then
    if (storesA s f n a l).2 = 0 then
      if (storesA s f n a l).1.flushE (linesOf f a l.length) = 0 then
        (((storesA s f n a l).1.flush (linesOf f a l.length)).fence, ((storesA s f n a l).1.flush (linesOf f a l.length)).fenceE)
      else ((storesA s f n a l).1.flush (linesOf f a l.length), (storesA s f n a l).1.flushE (linesOf f a l.length))
    else storesA s f n a l
  else (s, 1)
/-- the sizes that the contracts ask for, and what keeps them -/
def szB (s : AS) (N i : Nat) : Prop := s.L.length = N ∧ s.fuse ≤ 9223372036854775807 ∧ ∀ m ∈ s.L, m.O.length ≤ i
theorem szB.v {v : MV} {N i : Nat} (h : szB (absV v) N i) : v.R.length = N ∧ v.fuse ≤ 9223372036854775807 ∧ ∀ r ∈ v.R, r.m.O.length ≤ i :=
  ⟨by have := h.1; simpa [absV] using this, h.2.1, fun r hr => h.2.2 r.m (List.mem_map_of_mem hr)⟩
theorem szB.mono {s : AS} {N i j : Nat} (h : szB s N i) (k : i ≤ j) : szB s N j := ⟨h.1, h.2.1, fun m hm => Nat.le_trans (h.2.2 m hm) k⟩
theorem szB.fell {s : AS} {N i : Nat} (h : szB s N i) (K : List Int) : szB (s.fell K) N i := ⟨by show (fallM K s.L).length = N; rw [fallM_length]; exact h.1, by show (0 : Int) ≤ _; omega, fun m hm => by
  obtain ⟨x, hx, e⟩ := fallM_mem hm
  rcases e with ⟨rfl, _⟩ | ⟨k, rfl⟩
  · exact h.2.2 _ hx
  · exact Nat.zero_le _⟩
theorem szB.lit {s : AS} {N i : Nat} (h : szB s N i) : szB s.lit N i := by
  unfold AS.lit
  split
  · exact h
  · split
    · exact ⟨h.1, by have := h.2.1; show s.fuse - 1 ≤ _; omega, h.2.2⟩
    · exact h.fell _
theorem szB.store {s : AS} {N i : Nat} (h : szB s N i) (a : Int) (w : BitVec 64) : szB (s.store a w) N (i + 1) := by
  unfold AS.store
  split
  · exact h.mono (Nat.le_succ _)
  · split
    · rename_i hin
      split
      · exact h.lit.mono (Nat.le_succ _)
      · obtain ⟨m, hm⟩ := in8_get hin
        refine ⟨by show (s.L.set _ _).length = N; rw [List.length_set]; exact h.1, h.lit.2.1, fun x hx => ?_⟩
        rcases set_mem hx with hx | rfl
        · have := h.2.2 x hx; omega
        · rw [hm]
          have := h.2.2 m (List.mem_of_getElem? hm)
          have h2 : ((m.store (a % 8) w).O).length ≤ m.O.length + 1 := by unfold LM.store; split <;> simp
          exact Nat.le_trans h2 (by omega)
    · exact h.mono (Nat.le_succ _)
theorem szB.sset {s : AS} {N i : Nat} (h : szB s N i) (f n a : Int) (w : BitVec 64) : szB (s.sset f n a w) N (i + 1) := by
  unfold AS.sset
  split
  · exact h.store _ _
  · exact h.mono (Nat.le_succ _)
theorem szB.flush {s : AS} {N i : Nat} (h : szB s N i) (ls : List Int) : szB (s.flush ls) N i := by
  unfold AS.flush
  split
  · exact h
  · split
    · rename_i hm
      split
      · exact h.lit
      · exact ⟨by show (flushL s.L ls).length = N; rw [flushL_length]; exact h.1, h.lit.2.1, flushL_ok (P := fun m => m.O.length ≤ i) (fun _ h => h) ls s.L hm h.2.2⟩
    · exact h
theorem szB.fence {s : AS} {N i : Nat} (h : szB s N i) : szB s.fence N i := by
  unfold AS.fence
  split
  · exact h
  · split
    · exact h.lit
    · refine ⟨by show (s.L.map fenceM).length = N; rw [List.length_map]; exact h.1, h.lit.2.1, fun m hm => ?_⟩
      obtain ⟨x, hx, rfl⟩ := List.mem_map.1 hm
      have := h.2.2 x hx
      show (x.O.drop _).length ≤ i
      rw [List.length_drop]; omega
theorem szB.stores {f n : Int} {N : Nat} : ∀ (l : List (BitVec 64)) {s : AS} {i : Nat} {a : Int}, szB s N i → szB (storesA s f n a l).1 N (i + l.length)
  | [], _, _, _, h => h
  | w :: l, s, i, a, h => by
    show szB (if s.ssetE f n a = 0 then storesA (s.sset f n a w) f n (a + 1) l else (s.sset f n a w, s.ssetE f n a)).1 N (i + (l.length + 1))
    split
    · exact (szB.stores l (h.sset f n a w)).mono (by omega)
    · exact (h.sset f n a w).mono (by omega)
theorem szB.push {s : AS} {N i : Nat} (h : szB s N i) (f n a : Int) (l : List (BitVec 64)) : szB (pushA s f n a l).1 N (i + l.length) := by
  unfold pushA
  split
  · split
    · split
      · exact ((h.stores l).flush _).fence
      · exact (h.stores l).flush _
    · exact h.stores l
  · exact h.mono (by omega)
end Go.Proofs.Ytdoennkmcloalaa
set_option linter.unusedSimpArgs false
namespace Go.Proofs.Ytdoennkmcloalaa
open Go.RowKit Ev
def spI (s0 : St) (q b0 : Nat) (v : MV) (f n a : Int) (y : V) (l : List (BitVec 64)) (e : Env) (se : St) : Prop := ∃ (j : Nat) (vj : MV), j ≤ l.length ∧ e.get 1 = some (.int .i64 a) ∧ e.get 2 = some y ∧ e.get 3 = some (.p b0 0) ∧ e.get 19 = some y ∧ e.get 20 = some (.int .i64 (l.length : Int)) ∧ e.get 21 = some (.int .i64 (j : Int)) ∧
  MStep q v vj s0 se ∧ storesA (absV v) f n a (l.take j) = (absV vj, 0)
def spL (s1 : St) (b0 : Nat) (f a c : Int) (y : V) (N : Nat) (e : Env) (se : St) : Prop := ∃ (j : Nat) (z : V), j ≤ N ∧ e.get 1 = some (.int .i64 a) ∧ e.get 2 = some y ∧ e.get 3 = some (.p b0 0) ∧ e.get 10 = some z ∧ e.get 11 = some (.int .i64 (c + j)) ∧ OwnRow s1.nx se z 1 j (ivs ((List.range j).map fun i : Nat => f + c + (i : Int))) ∧ Ext s1.nx s1 se
set_option maxRecDepth 20000 in
set_option maxHeartbeats 8000000 in
theorem spush_any (st : St) (q : Nat) (v : MV) (h : MemAt st q v) (N i0 : Nat) (hsz : szB (absV v) N i0) (hN : N ≤ 1024) (f n a : Int) (y : V) (l : List (BitVec 64)) (hy : RdRow st y 1 l.length (wv l)) (hyn : ∀ k, Nm y k → ¬ MOw q v k) (hi0 : i0 + l.length < 1000) (nt : Nat) :
    Gd (callL Try.prog ⟨false, [], 0, nt⟩ 163 [spV q f n, .int .i64 a, y] st) fun r => r.1 = .int .i64 (pushA (absV v) f n a l).2 ∧ ∃ v', MStep q v v' st r.2 ∧ absV v' = (pushA (absV v) f n a l).1 := by
  rw [Gd_callL Try.func163 rfl]
  have hex : ∀ (s : St) b, Ext s.nx s ⟨s.nx + 1, s.h.set s.nx b⟩ := fun s b => (Ext.refl _ _).new (Nat.le_refl _) _
  have hsp : V.g [V.p q 0, V.int .i64 f, V.int .i64 n] = spV q f n := rfl
  obtain ⟨hRv, hFv, hOv⟩ := hsz.v
  have hAL : (absV v).L.length = v.R.length := absLen v
  simp [spV, evOp_call, sets, T.get_set, newC_is, cellsOf, loadE_eq, getC_eq, getsB_succ, getsB_zero, hy.lenS]
  rw [hsp]
  refine Gd.mono (has_any _ q v (h.ext (hex st _)) (by omega) f n a l.length _) ?_
  rintro ⟨r, s1⟩ ⟨hr, e1⟩
  simp only at hr e1
  subst hr
  have hl1 : st.nx + 1 ≤ s1.nx := e1.le
  have x1 : Ext st.nx st s1 := (hex st _).trans (e1.mono (Nat.le_succ _))
  have k1 : s1.h.get st.nx = _ := (e1.keep st.nx (Nat.lt_succ_self _)).trans (T.get_set_same _ _ _)
  have m1 := MStep.ofExt h x1
  unfold pushA
  rw [hAL]
  by_cases hh : hasB v.R.length f n a l.length
  · obtain ⟨⟨w1, w2, w3, w4⟩, w5, w6, w7, w8⟩ := id hh
    have hnb : ∀ k, MOw q v k → k < st.nx := fun k hk => h.own_lt hk
    rw [if_pos hh]
    simp [evOp_call, sets, T.get_set, hh, hy.lenS]
    refine Gd_loop (spI s1 q st.nx v f n a y l) (fun e _ => muAt 21 l.length e) ?_ ?_
    · exact ⟨0, v, Nat.zero_le _, by simp [T.get_set], by simp [T.get_set], by simp [T.get_set], by simp [T.get_set], by simp [T.get_set], by simp [T.get_set], MStep.refl m1.at', rfl⟩
    · rintro e s ⟨j, vj, hj, g1, g2, g3, g19, g20, g21, hs, hst⟩
      have hle := hs.kept.le
      have k2 : s.h.get st.nx = _ := (hs.kept.keep st.nx (by omega) (fun e => by have := hnb _ e; omega)).trans k1
      have hys : RdRow s y 1 l.length (wv l) := hs.row (hy.ext x1) hyn
      have hszj : szB (absV vj) N (i0 + j) := by
        have := szB.stores (f := f) (n := n) (a := a) (l.take j) hsz
        rw [hst] at this
        exact this.mono (by rw [List.length_take]; omega)
      obtain ⟨hRj, hFj, hOj⟩ := hszj.v
      by_cases hlt : j < l.length
      · have hlt' : (j : Int) < l.length := by omega
        have hwj := wrap_nat (n := j) (by omega)
        have wa : IntKind.i64.wrap (a + j) = a + j := wrap_in (by omega) (by omega)
        obtain ⟨m2, o2, ty2, sz2, t2, i2, b2, kk2, l2, d2⟩ := hys.idx (st := s) un23 io24 hlt
        obtain ⟨w, hw⟩ : ∃ w, l[j]? = some w := ⟨_, List.getElem?_eq_getElem hlt⟩
        have q2 : t2.get o2 = some (wd w) := d2 0 _ (by omega) (by simpa using wv_get hw)
        obtain ⟨hok, hbad⟩ := storesA_take hw hst
        simp [evOp_call, T.get_set, g1, g2, g3, g19, g20, g21, hlt', i2, loadE_eq, getC_eq, kk2, q2, k2, getsB_succ, getsB_zero, wa]
        rw [hsp]
        refine Gd.mono (sset_any s q vj hs.at' (by omega) hFj (fun r hr => by have := hOj r hr; omega) f n (a + j) w _) ?_
        rintro ⟨r, s2⟩ ⟨hr, v2, hs2, ha2⟩
        simp only at hr hs2
        subst hr
        by_cases h0 : (absV vj).ssetE f n (a + j) = 0
        · simp [h0, evOp_call, T.get_set, g1, g2, g3, g19, g20, g21, hwj]
          exact ⟨⟨j + 1, v2, hlt, by simp [T.get_set, g1], by simp [T.get_set, g2], by simp [T.get_set, g3], by simp [T.get_set, g19], by simp [T.get_set, g20], by simp [T.get_set], hs.trans hs2, by rw [hok h0, ha2]⟩, muAt_lt g21 (by simp [T.get_set]) hlt⟩
        · have hb := hbad h0
          simp [h0, evOp_call, T.get_set, g1, g2, g3, g19, g20, g21, sets, hb]
          exact ⟨v2, (m1.trans hs).trans hs2, ha2⟩
      · obtain rfl : j = l.length := by omega
        rw [List.take_length] at hst
        rw [hst]
        simp [evOp_call, T.get_set, g1, g2, g3, g19, g20, g21]
        have ha8 : a.tdiv 8 = a / 8 := Int.tdiv_eq_ediv_of_nonneg (by omega)
        have we : IntKind.i64.wrap (a + l.length) = a + l.length := wrap_in (by omega) (by omega)
        have we2 : IntKind.i64.wrap (a + l.length - 1) = a + l.length - 1 := wrap_in (by omega) (by omega)
        have ha9 : (a + l.length - 1).tdiv 8 = (a + l.length - 1) / 8 := Int.tdiv_eq_ediv_of_nonneg (by omega)
        have wq : IntKind.i64.wrap (a / 8) = a / 8 := wrap_in (by omega) (by omega)
        have wq2 : IntKind.i64.wrap ((a + l.length - 1) / 8) = (a + l.length - 1) / 8 := wrap_in (by omega) (by omega)
        obtain ⟨K, hK⟩ : ∃ K, K = ((a + l.length - 1) / 8 - a / 8 + 1).toNat := ⟨_, rfl⟩
        simp [ha8, wq]
        refine Gd_loop (spL s st.nx f a (a / 8) y K) (fun e _ => gapAt 11 (a / 8 + K) e) ?_ ?_
        · exact ⟨0, _, Nat.zero_le _, by simp [T.get_set, g1], by simp [T.get_set, g2], by simp [T.get_set, g3], by simp [T.get_set], by simp [T.get_set], OwnRow.nil _ _ _, Ext.refl _ _⟩
        · clear g19 g20 g21
          rintro en s3 ⟨j, z, hj2, g1, g2, g3, g10, g11, hz, e3⟩
          have k3 : s3.h.get st.nx = _ := (e3.keep st.nx (by omega)).trans k2
          have hy3 := hys.ext e3
          have wj : IntKind.i64.wrap (a / 8 + j + 1) = a / 8 + j + 1 := wrap_in (by omega) (by omega)
          have wfj : IntKind.i64.wrap (f + (a / 8 + j)) = f + (a / 8 + j) := wrap_in (by omega) (by omega)
          by_cases hlt : j < K
          · have hle2 : a / 8 + (j : Int) ≤ (a + l.length - 1) / 8 := by omega
            simp [evOp_call, T.get_set, g1, g2, g3, g10, g11, hy3.lenS, we, we2, ha9, wq2, hle2, loadE_eq, getC_eq, k3, wfj]
            refine Gd_buildW (vs := [.int .i64 (f + (a / 8 + j))]) (fun k => el76 k) (fun k => ze3 k) rfl (by simp [T.get_set]) (by simp) rfl rfl (by omega) ?_
            have hext := fun b => (Ext.refl s3.nx s3).new (Nat.le_refl _) b
            simp [evOp_call, T.get_set, g10]
            refine Gd_append un76 un76 io3 (lx := 1) (new := [.int .i64 (f + (a / 8 + j))]) (hz.ext (hext _)) (by show s.nx ≤ s3.nx + 1; have := e3.le; omega) (by decide) (fun s' h => by cases h) (fun k => rfl) (fun k => by simp [getC_eq, getsB_1, T.get_set, sets]) rfl (by omega) ?_
            intro z' s4 hz4 he4 _ _
            simp [evOp_call, T.get_set, g1, g2, g3, g10, g11, wj]
            refine ⟨⟨j + 1, z', hlt, by simp [T.get_set, g1], by simp [T.get_set, g2], by simp [T.get_set, g3], by simp [T.get_set], by simp [T.get_set]; omega, ?_, (e3.trans ((hext _).mono e3.le)).trans he4⟩, gapAt_lt (k' := a / 8 + (j : Int) + 1) g11 (by simp [T.get_set]) (by omega) (by omega)⟩
            have hiv : ivs ((List.range (j + 1)).map fun i : Nat => f + a / 8 + (i : Int)) = ivs ((List.range j).map fun i : Nat => f + a / 8 + (i : Int)) ++ [.int .i64 (f + (a / 8 + j))] := by
              rw [List.range_succ]; unfold ivs; simp; omega
            rw [hiv]; exact hz4
          · obtain rfl : j = K := by omega
            have hle2 : ¬ a / 8 + (j : Int) ≤ (a + l.length - 1) / 8 := by omega
            have hls : linesOf f a l.length = (List.range j).map fun i : Nat => f + a / 8 + (i : Int) := by unfold linesOf; rw [← hK]
            have hm3 := MStep.ofExt hs.at' e3
            have hzr := hz.rd
            have hlen : ((List.range j).map fun i : Nat => f + a / 8 + (i : Int)).length = j := by simp
            simp [evOp_call, T.get_set, g1, g2, g3, g10, g11, hy3.lenS, we, we2, ha9, wq2, hle2, loadE_eq, getC_eq, k3]
            rw [hls]
            refine Gd.mono (mflush_any s3 q vj hm3.at' z _ (by rw [hlen]; exact hzr) (fun k hk e => by have := hz.nm_ge hk; have := hs.at'.own_lt e; omega) (by rw [hlen]; omega) hFj (by omega) _) ?_
            rintro ⟨r, s5⟩ ⟨hr, v5, hs5, ha5⟩
            simp only at hr hs5
            subst hr
            have hm5 := ((m1.trans hs).trans hm3).trans hs5
            obtain ⟨R, hRd⟩ : ∃ R, R = (List.range j).map fun i : Nat => f + a / 8 + (i : Int) := ⟨_, rfl⟩
            rw [← hRd] at ha5 ⊢
            have hle3 : s.nx ≤ s3.nx := e3.le
            have k5 : s5.h.get st.nx = _ := (hs5.kept.keep st.nx (by omega) (fun e => by
              rcases hs.own _ e with e | e
              · have := hnb _ e; omega
              · omega)).trans k3
            have hF5 : v5.fuse ≤ 9223372036854775807 ∧ v5.R.length = N := by
              have := hszj.flush R
              rw [← ha5] at this
              exact ⟨this.v.2.1, this.v.1⟩
            by_cases hE : (absV vj).flushE R = 0
            · simp [hE, evOp_call, T.get_set, g1, g2, g3, g10, g11, loadE_eq, getC_eq, k5]
              refine Gd.mono (mfence_any s5 q v5 hs5.at' hF5.1 (by omega) _) ?_
              rintro ⟨r, s6⟩ ⟨hr, v6, hs6, ha6⟩
              simp only at hr hs6
              subst hr
              simp [evOp_call, T.get_set, sets, ← ha5]
              exact ⟨v6, hm5.trans hs6, ha6⟩
            · simp [hE, evOp_call, T.get_set, sets]
              exact ⟨v5, hm5, ha5⟩
  · rw [if_neg hh]
    simp [hh, evOp_call, sets, T.get_set]
    exact ⟨v, m1, rfl⟩
end Go.Proofs.Ytdoennkmcloalaa
set_option linter.unusedSimpArgs false
namespace Go.Proofs.Ytdoennkmcloalaa
open Go.RowKit Ev
def stL (L : List LM) (a : Int) (w : BitVec 64) : List LM := L.set (a / 8).toNat ((L[(a / 8).toNat]?.getD LM0).store (a % 8) w)
def storesL (L : List LM) (b : Int) : List (BitVec 64) → List LM
  | [] => L
  | w :: l => storesL (stL L b w) (b + 1) l
/-- lines in order -/
structure okLs (L : List LM) (n : Nat) : Prop where
  len : L.length = n
  ok : ∀ m ∈ L, okP m
theorem okS.ls {s : AS} {n i : Nat} (h : okS s n i) : okLs s.L n := ⟨h.len, h.ok⟩
theorem okLs.nl {L : List LM} {n : Nat} (h : okLs L n) : ∀ m ∈ L, m.N.length = 8 := fun m hm => (h.ok m hm).nl
theorem okLs.get {L : List LM} {n : Nat} (h : okLs L n) {p : Nat} (hp : p < 8 * n) : ∃ m, L[p / 8]? = some m ∧ okP m ∧ (allN L)[p]? = m.N[p % 8]? := by
  obtain ⟨m, hm⟩ : ∃ m, L[p / 8]? = some m := ⟨_, List.getElem?_eq_getElem (by rw [h.len]; omega)⟩
  refine ⟨m, hm, h.ok m (List.mem_of_getElem? hm), ?_⟩
  have := allN_get h.nl hm (show p % 8 < 8 by omega)
  rwa [show 8 * (p / 8) + p % 8 = p by omega] at this
theorem okLs.nlen {L : List LM} {n : Nat} (h : okLs L n) : (allN L).length = 8 * n := by rw [allN_length h.nl, h.len]
theorem okLs.st {L : List LM} {n : Nat} (h : okLs L n) {a : Int} (ha : 0 ≤ a ∧ a < 8 * n) (w : BitVec 64) : okLs (stL L a w) n := by
  obtain ⟨m, hm⟩ : ∃ m, L[(a / 8).toNat]? = some m := ⟨_, List.getElem?_eq_getElem (by rw [h.len]; omega)⟩
  refine ⟨by unfold stL; rw [List.length_set, h.len], fun x hx => ?_⟩
  unfold stL at hx
  rw [hm] at hx
  rcases set_mem hx with hx | rfl
  · exact h.ok x hx
  · exact (h.ok m (List.mem_of_getElem? hm)).store _ _
theorem allN_st {L : List LM} {n : Nat} (h : okLs L n) {a : Nat} (ha : a < 8 * n) (w : BitVec 64) : allN (stL L (a : Int) w) = (allN L).set a w := by
  have h2 := h.st (a := (a : Int)) (by omega) w
  apply List.ext_getElem?
  intro p
  by_cases hp : p < 8 * n
  · obtain ⟨m, hm, _, hg⟩ := h.get hp
    obtain ⟨m2, hm2, _, hg2⟩ := h2.get hp
    obtain ⟨ma, hma, hok, _⟩ := h.get ha
    have hal : ((a : Int) / 8).toNat = a / 8 := by omega
    have hap : ((a : Int) % 8) = ((a % 8 : Nat) : Int) := by omega
    unfold stL at hm2
    rw [hal, hap, hma] at hm2
    have hst : (some ma : Option LM).getD LM0 = ma := rfl
    rw [hst] at hm2
    have hs2 : ma.store ((a % 8 : Nat) : Int) w = { ma with N := ma.N.set (a % 8) w, O := ma.O ++ [(((a % 8 : Nat) : Int), w)] } := by
      unfold LM.store; rw [if_pos ⟨by omega, by omega⟩]; rfl
    rw [hg2]
    by_cases e : a / 8 = p / 8
    · rw [← e, List.getElem?_set_self (lt_of_get hma)] at hm2
      injection hm2 with hm2
      rw [← hm2, hs2]
      show (ma.N.set (a % 8) w)[p % 8]? = _
      by_cases e2 : a = p
      · subst e2
        rw [List.getElem?_set_self (by rw [hok.nl]; omega), List.getElem?_set_self (by rw [h.nlen]; exact ha)]
      · rw [List.getElem?_set_ne (by omega), List.getElem?_set_ne e2, hg]
        rw [← e, hma] at hm
        injection hm with hm
        rw [hm]
    · rw [List.getElem?_set_ne e, hm] at hm2
      injection hm2 with hm2
      rw [List.getElem?_set_ne (by omega), hg, hm2]
  · rw [List.getElem?_eq_none (by rw [h2.nlen]; omega), List.getElem?_eq_none (by rw [List.length_set, h.nlen]; omega)]
theorem okLs.sts {n : Nat} : ∀ (l : List (BitVec 64)) {L : List LM} {b : Int}, okLs L n → 0 ≤ b → b + l.length ≤ 8 * n → okLs (storesL L b l) n
  | [], _, _, h, _, _ => h
  | w :: l, L, b, h, h0, h1 => by
    have h2 : ((w :: l).length : Int) = l.length + 1 := by simp
    exact okLs.sts l (h.st (by omega) w) (by omega) (by omega)
theorem allN_sts {n : Nat} : ∀ (l : List (BitVec 64)) {L : List LM} {b : Nat}, okLs L n → b + l.length ≤ 8 * n → ∀ p, (allN (storesL L (b : Int) l))[p]? = if b ≤ p ∧ p < b + l.length then l[p - b]? else (allN L)[p]?
  | [], L, b, h, _ => fun p => by
    rw [if_neg (by simp)]; rfl
  | w :: l, L, b, h, h1 => fun p => by
    have hl : (w :: l).length = l.length + 1 := by simp
    have ih := allN_sts l (b := b + 1) (h.st (a := (b : Int)) (by omega) w) (by omega) p
    have e : storesL L (b : Int) (w :: l) = storesL (stL L (b : Int) w) ((b + 1 : Nat) : Int) l := by
      show storesL (stL L (b : Int) w) ((b : Int) + 1) l = _
      congr 1
    rw [e, ih, allN_st h (by omega)]
    by_cases c1 : b + 1 ≤ p ∧ p < b + 1 + l.length
    · rw [if_pos c1, if_pos (by omega), show p - b = (p - (b + 1)) + 1 by omega]; rfl
    · rw [if_neg c1]
      by_cases c2 : p = b
      · subst c2
        rw [if_pos (by omega), List.getElem?_set_self (by rw [h.nlen]; omega), Nat.sub_self]; rfl
      · rw [if_neg (by omega), List.getElem?_set_ne (fun e => c2 e.symm)]
theorem flushL_map {ls : List Int} {L : List LM} (h : ∀ i ∈ ls, 0 ≤ i ∧ i < L.length) : (flushL L ls).map (fun m => m.N) = L.map fun m => m.N := by
  apply List.ext_getElem?
  intro l
  rw [List.getElem?_map, List.getElem?_map]
  cases hx : (flushL L ls)[l]? with
  | none =>
    have := List.getElem?_eq_none_iff.1 hx
    rw [flushL_length] at this
    rw [List.getElem?_eq_none this]
  | some x =>
    obtain ⟨m, hm, _, q2, _⟩ := flushL_at h hx
    rw [hm]; simp [q2]
theorem allN_map {L K : List LM} (h : L.map (fun m => m.N) = K.map fun m => m.N) : allN L = allN K := by
  unfold allN
  rw [List.flatMap_def, List.flatMap_def]
  have : L.map (·.N) = K.map (·.N) := h
  rw [this]
theorem allN_flush {ls : List Int} {L : List LM} (h : ∀ i ∈ ls, 0 ≤ i ∧ i < L.length) : allN (flushL L ls) = allN L := allN_map (flushL_map h)
theorem allN_fence (L : List LM) : allN (L.map fenceM) = allN L := allN_map (by rw [List.map_map]; rfl)
theorem okLs.fl {L : List LM} {n : Nat} {ls : List Int} (h : okLs L n) (hl : ∀ i ∈ ls, 0 ≤ i ∧ i < L.length) : okLs (flushL L ls) n := ⟨by rw [flushL_length, h.len], flushL_ok (fun _ h => h.flush) ls L hl h.ok⟩
theorem okLs.fe {L : List LM} {n : Nat} (h : okLs L n) : okLs (L.map fenceM) n := ⟨by rw [List.length_map, h.len], fun m hm => by
  obtain ⟨x, hx, rfl⟩ := List.mem_map.1 hm
  exact (h.ok x hx).fence⟩
theorem okLs.fall {L : List LM} {n : Nat} (h : okLs L n) (K : List Int) : okLs (fallM K L) n := ⟨by rw [fallM_length, h.len], fun x hx => by
  obtain ⟨m, hm, h2⟩ := fallM_mem hx
  rcases h2 with ⟨rfl, _⟩ | ⟨k, rfl⟩
  · exact h.ok _ hm
  · exact (h.ok _ hm).fall k⟩
/-- a line that was flushed has all flushed -/
theorem flushL_full : ∀ (ls : List Int) {L : List LM} {j : Nat} {x : LM}, (∀ i ∈ ls, 0 ≤ i ∧ i < L.length) → ((j : Int) ∈ ls ∨ ∃ m, L[j]? = some m ∧ m.F = m.O.length) → (flushL L ls)[j]? = some x → x.F = x.O.length
  | [], L, j, x, _, h, hx => by
    rcases h with h | ⟨m, hm, h⟩
    · simp at h
    · have : L[j]? = some x := hx
      rw [hm] at this
      injection this with this
      rw [← this]; exact h
  | i :: ls, L, j, x, hi, h, hx => by
    have h1 := hi i (List.mem_cons_self ..)
    obtain ⟨y, hy⟩ : ∃ y, L[i.toNat]? = some y := ⟨_, List.getElem?_eq_getElem (by omega)⟩
    refine flushL_full ls (L := L.set i.toNat (flushM (L[i.toNat]?.getD LM0))) (fun k hk => by rw [List.length_set]; exact hi k (List.mem_cons_of_mem _ hk)) ?_ hx
    by_cases e : i.toNat = j
    · right
      subst e
      rw [hy]
      exact ⟨_, List.getElem?_set_self (lt_of_get hy), rfl⟩
    · rcases h with h | ⟨m, hm, h⟩
      · rcases List.mem_cons.1 h with h | h
        · omega
        · exact .inl h
      · exact .inr ⟨m, by rw [List.getElem?_set_ne e]; exact hm, h⟩
theorem fenced_none {L : List LM} {ls : List Int} {j : Nat} {x : LM} (hi : ∀ i ∈ ls, 0 ≤ i ∧ i < L.length) (hj : (j : Int) ∈ ls) (hx : ((flushL L ls).map fenceM)[j]? = some x) : x.O = [] := by
  rw [List.getElem?_map] at hx
  cases hy : (flushL L ls)[j]? with
  | none => rw [hy] at hx; cases hx
  | some y =>
    rw [hy] at hx
    injection hx with hx
    have hf := flushL_full ls hi (.inl hj) hy
    rw [← hx]
    show y.O.drop y.F.toNat = []
    rw [hf, show ((y.O.length : Int)).toNat = y.O.length by omega, List.drop_length]
/-- where a line has no open store, a fall changes nothing -/
theorem fall_same {L : List LM} {n : Nat} (h : okLs L n) (K : List Int) {p : Nat} (hp : p < 8 * n) (h0 : ∀ x, L[p / 8]? = some x → x.O = []) : (allN (fallM K L))[p]? = (allN L)[p]? := by
  obtain ⟨m, hm, _, hg⟩ := h.get hp
  obtain ⟨m2, hm2, _, hg2⟩ := (h.fall K).get hp
  obtain ⟨k, hk⟩ := fallM_get (K := K) hm
  rw [hk, h0 m hm] at hm2
  simp at hm2
  rw [hg, hg2, hm2]
theorem mem_linesOf {f a : Int} {k j : Nat} (h1 : f + a / 8 ≤ j) (h2 : (j : Int) ≤ f + (a + k - 1) / 8) : (j : Int) ∈ linesOf f a k := by
  unfold linesOf
  rw [List.mem_map]
  exact ⟨(j - (f + a / 8)).toNat, by rw [List.mem_range]; omega, by omega⟩
theorem linesOf_mem {f a : Int} {k : Nat} {i : Int} (h : i ∈ linesOf f a k) : f + a / 8 ≤ i ∧ i ≤ f + (a + k - 1) / 8 := by
  unfold linesOf at h
  rw [List.mem_map] at h
  obtain ⟨j, hj, rfl⟩ := h
  rw [List.mem_range] at hj
  omega
/-! ### a memory's, with any fuse -/
theorem store_on2 {s : AS} {n i : Nat} (h : okS s n i) {a : Int} (ha : 0 ≤ a ∧ a < 8 * n) (w : BitVec 64) :
    (s.fuse ≠ 1 ∧ s.storeE a = 0 ∧ (s.store a w).L = stL s.L a w ∧ (s.store a w).K = s.K ∧ okS (s.store a w) n (i + 1)) ∨ (s.fuse = 1 ∧ s.storeE a = 14 ∧ s.store a w = s.fell s.K) := by
  have hin : s.in8 a := ⟨ha.1, by rw [h.len]; omega⟩
  by_cases hf : s.fuse = 1
  · refine .inr ⟨hf, by simp [AS.storeE, h.off, hin, hf], ?_⟩
    have hl : s.lit = s.fell s.K := by unfold AS.lit; rw [if_neg (by omega), if_neg (by omega)]
    simp [AS.store, h.off, hin, hf, hl]
  · obtain ⟨l1, l2, l3, _⟩ := lit_on hf
    have he : s.store a w = { s.lit with L := s.L.set (a / 8).toNat ((s.L[(a / 8).toNat]?.getD LM0).store (a % 8) w), a := IntKind.i64.wrap (s.a + 1) } := by simp [AS.store, h.off, hin, hf]
    obtain ⟨m, hm⟩ := in8_get hin
    have hmm := List.mem_of_getElem? hm
    refine .inl ⟨hf, by simp [AS.storeE, h.off, hin, hf], by rw [he]; rfl, by rw [he]; exact l3, ?_⟩
    rw [he, hm]
    refine ⟨by simp [h.len], by show s.lit.off = false; rw [l2, h.off], fun x hx => ?_, fun x hx => ?_⟩
    · rcases set_mem hx with hx | rfl
      · exact h.ok x hx
      · exact (h.ok m hmm).store _ _
    · rcases set_mem hx with hx | rfl
      · have := h.op x hx; omega
      · have := h.op m hmm
        have h2 : ((m.store (a % 8) w).O).length ≤ m.O.length + 1 := by unfold LM.store; split <;> simp
        exact Nat.le_trans h2 (by omega)
end Go.Proofs.Ytdoennkmcloalaa
set_option linter.unusedSimpArgs false
namespace Go.Proofs.Ytdoennkmcloalaa
open Go.RowKit Ev
def okAs (P : Nat → BitVec 64 → Prop) (L : List LM) : Prop := ∀ l m, L[l]? = some m → okA P l m
theorem okAs.st {P : Nat → BitVec 64 → Prop} {L : List LM} {n : Nat} (h : okAs P L) (ho : okLs L n) {a : Nat} (ha : a < 8 * n) {w : BitVec 64} (hw : P a w) : okAs P (stL L (a : Int) w) := by
  intro l x hx
  have hal : ((a : Int) / 8).toNat = a / 8 := by omega
  have hap : ((a : Int) % 8) = ((a % 8 : Nat) : Int) := by omega
  obtain ⟨m, hm⟩ : ∃ m, L[a / 8]? = some m := ⟨_, List.getElem?_eq_getElem (by rw [ho.len]; omega)⟩
  unfold stL at hx
  rw [hal, hap, hm] at hx
  by_cases e : a / 8 = l
  · subst e
    rw [List.getElem?_set_self (lt_of_get hm)] at hx
    injection hx with hx
    subst hx
    have hk := h _ m hm
    have hst : (some m : Option LM).getD LM0 = m := rfl
    have hs2 : m.store ((a % 8 : Nat) : Int) w = { m with N := m.N.set (a % 8) w, O := m.O ++ [(((a % 8 : Nat) : Int), w)] } := by
      unfold LM.store; rw [if_pos ⟨by omega, by omega⟩]; rfl
    rw [hst, hs2]
    refine ⟨hk.1, fun r hr => ?_⟩
    rcases List.mem_append.1 hr with hr | hr
    · exact hk.2 r hr
    · simp at hr; subst hr
      show P (8 * (a / 8) + ((a % 8 : Nat) : Int).toNat) w
      rw [show 8 * (a / 8) + ((a % 8 : Nat) : Int).toNat = a by omega]
      exact hw
  · rw [List.getElem?_set_ne e] at hx
    exact h l x hx
theorem okAs.sts {P : Nat → BitVec 64 → Prop} {n : Nat} : ∀ (l : List (BitVec 64)) {L : List LM} {b : Nat}, okAs P L → okLs L n → b + l.length ≤ 8 * n → (∀ j w, l[j]? = some w → P (b + j) w) → okAs P (storesL L (b : Int) l)
  | [], _, _, h, _, _, _ => h
  | w :: l, L, b, h, ho, hb, hP => by
    have hl : (w :: l).length = l.length + 1 := by simp
    have e : storesL L (b : Int) (w :: l) = storesL (stL L (b : Int) w) ((b + 1 : Nat) : Int) l := by
      show storesL (stL L (b : Int) w) ((b : Int) + 1) l = _
      congr 1
    rw [e]
    exact okAs.sts l (h.st ho (by omega) (hP 0 w rfl)) (ho.st (by omega) w) (by omega) fun j v hj => by
      rw [show b + 1 + j = b + (j + 1) by omega]; exact hP (j + 1) v hj
theorem okAs.fl {P : Nat → BitVec 64 → Prop} {L : List LM} {ls : List Int} (h : okAs P L) (hl : ∀ i ∈ ls, 0 ≤ i ∧ i < L.length) : okAs P (flushL L ls) := fun l x hx => by
  obtain ⟨m, hm, q1, q2, q3⟩ := flushL_at hl hx
  have := h l m hm
  exact ⟨fun p v hp hv => this.1 p v hp (by rw [← q1]; exact hv), fun r hr => this.2 r (by rw [← q3]; exact hr)⟩
theorem okAs.fe {P : Nat → BitVec 64 → Prop} {L : List LM} {n : Nat} (h : okAs P L) (ho : okLs L n) : okAs P (L.map fenceM) := fun l x hx => by
  rw [List.getElem?_map] at hx
  cases hm : L[l]? with
  | none => rw [hm] at hx; cases hx
  | some m =>
    rw [hm] at hx
    injection hx with hx
    subst hx
    have hk := h l m hm
    have hp := ho.ok m (List.mem_of_getElem? hm)
    exact ⟨fun p v hp2 hv => hk.get hp _ hp2 hv, fun r hr => hk.2 r (List.mem_of_mem_drop hr)⟩
theorem okAs.fall {P : Nat → BitVec 64 → Prop} {L : List LM} {n : Nat} (h : okAs P L) (ho : okLs L n) (K : List Int) : ∀ k v, (allN (fallM K L))[k]? = some v → P k v := fun k v hv => by
  have hk : k < 8 * n := by have := lt_of_get hv; rwa [(ho.fall K).nlen] at this
  obtain ⟨m, hm, hpm, _⟩ := ho.get hk
  obtain ⟨m2, hm2, _, hg⟩ := (ho.fall K).get hk
  obtain ⟨c, hc⟩ := fallM_get (K := K) hm
  rw [hc] at hm2
  injection hm2 with hm2
  rw [hv, ← hm2] at hg
  have hka := h _ m hm
  have hkk : 8 * (k / 8) + k % 8 = k := by omega
  rw [← hkk]
  by_cases e : m.O.length = 0
  · rw [if_pos e] at hg
    refine hka.get hpm m.O.length (by omega) ?_
    rw [List.take_length, ← hpm.n]; exact hg.symm
  · rw [if_neg e] at hg
    exact hka.get hpm _ (by omega) hg.symm
/-- stores, one behind another -/
theorem stores_on {f n : Int} {N : Nat} (hw : winB f n N) : ∀ (l : List (BitVec 64)) {s : AS} {i : Nat} {a : Int}, okS s N i → 0 ≤ a → a + l.length ≤ n * 8 →
    ((storesA s f n a l).2 = 0 ∧ (storesA s f n a l).1.L = storesL s.L (f * 8 + a) l ∧ (storesA s f n a l).1.K = s.K ∧ okS (storesA s f n a l).1 N (i + l.length)) ∨
    ((storesA s f n a l).2 = 14 ∧ (storesA s f n a l).1.off = true ∧ ∃ j, j < l.length ∧ (storesA s f n a l).1.L = fallM s.K (storesL s.L (f * 8 + a) (l.take j)))
  | [], s, i, a, h, _, _ => .inl ⟨rfl, rfl, rfl, h⟩
  | w :: l, s, i, a, h, h0, h1 => by
    have hl : ((w :: l).length : Int) = l.length + 1 := by simp
    obtain ⟨w1, w2, w3, w4⟩ := id hw
    have hh : hasB s.L.length f n a 1 := ⟨by rw [h.len]; exact hw, h0, by omega, by omega, by omega⟩
    have e1 : s.sset f n a w = s.store (f * 8 + a) w := by unfold AS.sset; rw [if_pos hh]
    have e2 : s.ssetE f n a = s.storeE (f * 8 + a) := by unfold AS.ssetE; rw [if_pos hh]
    have e3 : storesA s f n a (w :: l) = if s.storeE (f * 8 + a) = 0 then storesA (s.store (f * 8 + a) w) f n (a + 1) l else (s.store (f * 8 + a) w, s.storeE (f * 8 + a)) := by
      rw [← e1, ← e2]; rfl
    rw [e3]
    rcases store_on2 h (a := f * 8 + a) (by omega) w with ⟨q1, q2, q3, q4, q5⟩ | ⟨q1, q2, q3⟩
    · rw [if_pos q2]
      have hb : f * 8 + (a + 1) = f * 8 + a + 1 := by omega
      rcases stores_on hw l (a := a + 1) q5 (by omega) (by omega) with ⟨r1, r2, r3, r4⟩ | ⟨r1, r2, j, r3, r4⟩
      · refine .inl ⟨r1, ?_, r3.trans q4, ?_⟩
        · rw [r2, q3, hb]; rfl
        · have : i + (w :: l).length = i + 1 + l.length := by simp; omega
          rw [this]; exact r4
      · refine .inr ⟨r1, r2, j + 1, by simp; omega, ?_⟩
        rw [r4, q3, q4, hb]; rfl
    · rw [if_neg (by omega)]
      refine .inr ⟨q2, by show (s.store (f * 8 + a) w).off = true; rw [q3]; rfl, 0, by simp, ?_⟩
      show (s.store (f * 8 + a) w).L = _
      rw [q3]; rfl
theorem flush_on2 {s : AS} {n i : Nat} (h : okS s n i) {ls : List Int} (hl : s.may ls) :
    (s.fuse ≠ 1 ∧ s.flushE ls = 0 ∧ (s.flush ls).L = flushL s.L ls ∧ (s.flush ls).K = s.K ∧ okS (s.flush ls) n i) ∨ (s.fuse = 1 ∧ s.flushE ls = 14 ∧ s.flush ls = s.fell s.K) := by
  by_cases hf : s.fuse = 1
  · refine .inr ⟨hf, by simp [AS.flushE, h.off, hl, hf], ?_⟩
    have hl2 : s.lit = s.fell s.K := by unfold AS.lit; rw [if_neg (by omega), if_neg (by omega)]
    simp [AS.flush, h.off, hl, hf, hl2]
  · obtain ⟨l1, l2, l3, _⟩ := lit_on hf
    have he : s.flush ls = { s.lit with L := flushL s.L ls, b := IntKind.i64.wrap (s.b + 1) } := by simp [AS.flush, h.off, hl, hf]
    refine .inl ⟨hf, by simp [AS.flushE, h.off, hl, hf], by rw [he], by rw [he]; exact l3, ?_⟩
    rw [he]
    exact ⟨by show (flushL s.L ls).length = n; rw [flushL_length, h.len], by show s.lit.off = false; rw [l2, h.off], flushL_ok (fun _ h => h.flush) ls s.L hl h.ok, flushL_ok (P := fun m => m.O.length ≤ i) (fun _ h => h) ls s.L hl h.op⟩
theorem fence_on2 {s : AS} {n i : Nat} (h : okS s n i) :
    (s.fuse ≠ 1 ∧ s.fenceE = 0 ∧ s.fence.L = s.L.map fenceM ∧ s.fence.K = s.K ∧ okS s.fence n i) ∨ (s.fuse = 1 ∧ s.fenceE = 14 ∧ s.fence = s.fell s.K) := by
  by_cases hf : s.fuse = 1
  · refine .inr ⟨hf, by simp [AS.fenceE, h.off, hf], ?_⟩
    have hl2 : s.lit = s.fell s.K := by unfold AS.lit; rw [if_neg (by omega), if_neg (by omega)]
    simp [AS.fence, h.off, hf, hl2]
  · obtain ⟨l1, l2, l3, _⟩ := lit_on hf
    have he : s.fence = { s.lit with L := s.L.map fenceM, c := IntKind.i64.wrap (s.c + 1) } := by simp [AS.fence, h.off, hf]
    refine .inl ⟨hf, by simp [AS.fenceE, h.off, hf], by rw [he], by rw [he]; exact l3, ?_⟩
    rw [he]
    refine ⟨by show (s.L.map fenceM).length = n; rw [List.length_map, h.len], by show s.lit.off = false; rw [l2, h.off], fun m hm => ?_, fun m hm => ?_⟩
    · obtain ⟨x, hx, rfl⟩ := List.mem_map.1 hm
      exact (h.ok x hx).fence
    · obtain ⟨x, hx, rfl⟩ := List.mem_map.1 hm
      have := h.op x hx
      show (x.O.drop _).length ≤ i
      rw [List.length_drop]; omega
/-- what a push comes to: all of it, sure; or a fall in its midst -/
theorem push_on {f n : Int} {N : Nat} {s : AS} {i : Nat} {a : Int} {l : List (BitVec 64)} (h : okS s N i) (hh : hasB N f n a l.length) :
    ((pushA s f n a l).2 = 0 ∧ (pushA s f n a l).1.L = (flushL (storesL s.L (f * 8 + a) l) (linesOf f a l.length)).map fenceM ∧ okS (pushA s f n a l).1 N (i + l.length)) ∨
    ((pushA s f n a l).2 = 14 ∧ (pushA s f n a l).1.off = true ∧ ((∃ j, (pushA s f n a l).1.L = fallM s.K (storesL s.L (f * 8 + a) (l.take j))) ∨ (pushA s f n a l).1.L = fallM s.K (flushL (storesL s.L (f * 8 + a) l) (linesOf f a l.length)))) := by
  obtain ⟨hw, h0, h1, h2, h3⟩ := id hh
  obtain ⟨w1, w2, w3, w4⟩ := id hw
  unfold pushA
  rw [h.len, if_pos hh]
  rcases stores_on hw l h h0 (by omega) with ⟨r1, r2, r3, r4⟩ | ⟨r1, r2, j, r3, r4⟩
  · rw [if_pos r1]
    have hmay : (storesA s f n a l).1.may (linesOf f a l.length) := fun x hx => by
      have := linesOf_mem hx
      rw [r4.len]; omega
    rcases flush_on2 r4 hmay with ⟨q1, q2, q3, q4, q5⟩ | ⟨q1, q2, q3⟩
    · rw [if_pos q2]
      rcases fence_on2 q5 with ⟨p1, p2, p3, p4, p5⟩ | ⟨p1, p2, p3⟩
      · exact .inl ⟨p2, by show (((storesA s f n a l).1.flush _).fence).L = _; rw [p3, q3, r2], p5⟩
      · refine .inr ⟨p2, by show (((storesA s f n a l).1.flush _).fence).off = true; rw [p3]; rfl, .inr ?_⟩
        show (((storesA s f n a l).1.flush _).fence).L = _
        rw [p3]
        show fallM _ _ = _
        rw [q4, r3, q3, r2]
    · rw [if_neg (by omega)]
      refine .inr ⟨q2, by show ((storesA s f n a l).1.flush _).off = true; rw [q3]; rfl, .inl ⟨l.length, ?_⟩⟩
      show ((storesA s f n a l).1.flush _).L = _
      rw [q3]
      show fallM _ _ = _
      rw [r3, r2, List.take_length]
  · rw [if_neg (by omega)]
    exact .inr ⟨r1, r2, .inl ⟨j, r4⟩⟩
/-- pushed words are sure -/
theorem push_sure {f n : Int} {N : Nat} {L : List LM} {a : Int} {l : List (BitVec 64)} (h : okLs L N) (hh : hasB N f n a l.length) (K : List Int) {j : Nat} (hj : j < l.length) :
    (allN (fallM K ((flushL (storesL L (f * 8 + a) l) (linesOf f a l.length)).map fenceM)))[(f * 8 + a).toNat + j]? = l[j]? := by
  obtain ⟨hw, h0, h1, h2, h3⟩ := id hh
  obtain ⟨w1, w2, w3, w4⟩ := id hw
  obtain ⟨b, hb⟩ : ∃ b : Nat, f * 8 + a = (b : Int) := ⟨(f * 8 + a).toNat, by omega⟩
  rw [hb, show ((b : Int)).toNat = b by omega]
  have hs := h.sts l (b := (b : Int)) (by omega) (by omega)
  have hl : ∀ i ∈ linesOf f a l.length, 0 ≤ i ∧ i < (storesL L (b : Int) l).length := fun i hi => by
    have := linesOf_mem hi
    rw [hs.len]; omega
  rw [fall_same ((hs.fl hl).fe) K (by omega) (fun x hx => fenced_none hl (mem_linesOf (by omega) (by omega)) hx), allN_fence, allN_flush hl, allN_sts l h (by omega), if_pos (by omega), Nat.add_sub_cancel_left]
end Go.Proofs.Ytdoennkmcloalaa

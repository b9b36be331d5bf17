/-
  Contracts of package books: the object, opened.
-/
import Derived.Test.YtdoennkmcloalaaBsA
set_option linter.unusedSimpArgs false
namespace Go.Proofs.Ytdoennkmcloalaa
open Go.RowKit Ev
theorem max_u64 (P : Program) (a b : Int) (ty : TypeId) (st : St) (ts : List TypeId) : pick1 P .max ts ty [.int .u64 a, .int .u64 b] st = some (.int .u64 (if b > a then b else a), st) := by
  have h : pureRun P (Builtin.max_ ⟨ts⟩ ty ⟨[.int .u64 a, .int .u64 b]⟩) = some (.int .u64 (if b > a then b else a)) := rfl
  have h2 : pick1 P .max ts ty [.int .u64 a, .int .u64 b] st = pu P (Builtin.max_ ⟨ts⟩ ty ⟨[.int .u64 a, .int .u64 b]⟩) (ret st) := rfl
  rw [h2]
  unfold pu
  rw [h]
  simp [ofV, fA, ret]
theorem max_wd (P : Program) (a b : BitVec 64) (ty : TypeId) (st : St) (ts : List TypeId) : pick1 P .max ts ty [wd a, wd b] st = some (wd (mxW a b), st) := by
  unfold wd
  rw [max_u64]
  unfold mxW
  by_cases h : a < b
  · rw [if_pos h, if_pos (by rw [BitVec.lt_def] at h; omega)]
  · rw [if_neg h, if_neg (by rw [BitVec.lt_def] at h; omega)]
set_option maxRecDepth 20000 in
theorem clone4_any (st : St) (x : V) (n : Nat) (l : List V) (hx : RdRow st x 4 n l) (h0 : 0 < n) (hn : n ≤ 1000) (nt : Nat) :
    Gd (callL Try.prog ⟨false, [], 0, nt⟩ 168 [x] st) fun r => OwnRow st.nx r.2 r.1 4 n l ∧ Ext st.nx st r.2 := by
  rw [Gd_callL Try.func168 rfl]
  have hnil : isNil x = false := by
    cases h : isNil x with
    | false => rfl
    | true => have := (isNil_len hx h).2; omega
  simp [sets, T.get_set, eql_nil un142 hx, hnil]
  rw [evOp_build0 (fun k => el142 k) (fun k => ze122 k) rfl]
  simp [T.get_set]
  have he : Ext st.nx st ⟨st.nx + 1, st.h.set st.nx (.cs 122 0 .lf)⟩ := (Ext.refl _ _).new (Nat.le_refl _) _
  have hx' := hx.ext he
  refine Gd_append0 un142 un142 io122 (by decide) (T.get_set_same _ _ _) hx.notS (fun k => hx.len k) (fun k => hx'.firsts k) hx.1 (by omega) (fun h => absurd h (by omega)) fun h1 => ?_
  simp [T.get_set]
  have h2 := he.new (Nat.le_succ _) (.cs 122 l.length (sets l 0 .lf))
  refine ⟨⟨hx.1, .inr ⟨st.nx + 1, 122, sets l 0 .lf, rfl, Nat.le_succ _, Nat.lt_succ_self _, ?_, by decide, fun j v hj => ?_⟩⟩, h2⟩
  · rw [← hx.1]; exact T.get_set_same _ _ _
  · have hjl : j < l.length := lt_of_get hj
    rw [get_sets, if_pos ⟨Nat.zero_le _, by omega⟩]
    simpa using hj
/-- the object of the books -/
structure BsAt (s : St) (q : Nat) (v : MV) (p : Nat) (z : V) (n : Nat) (m : BitVec 64) : Prop where
  lt : p < s.nx
  no : ¬ MOw q v p
  blk : ∃ t, s.h.get p = some (.cs 233 2 t) ∧ t.get 0 = some z ∧ t.get 1 = some (wd m)
  row : RowAp s q v z 4 n (bkRow q n)
  ne : ¬ Nm z p
theorem BsAt.step {s s' : St} {q p n : Nat} {v v' : MV} {z : V} {m : BitVec 64} (h : BsAt s q v p z n m) (k : MStep q v v' s s') : BsAt s' q v' p z n m := by
  obtain ⟨t, h1, h2, h3⟩ := h.blk
  exact ⟨Nat.lt_of_lt_of_le h.lt k.kept.le, k.not_own h.no h.lt, ⟨t, (k.kept.keep p h.lt h.no).trans h1, h2, h3⟩, h.row.step k, h.ne⟩
theorem BsAt.more {s s' : St} {q p n : Nat} {v : MV} {z : V} {m : BitVec 64} (h : BsAt s q v p z n m) (k : Ext s.nx s s') : BsAt s' q v p z n m := by
  obtain ⟨t, h1, h2, h3⟩ := h.blk
  exact ⟨Nat.lt_of_lt_of_le h.lt k.le, h.no, ⟨t, (k.keep p h.lt).trans h1, h2, h3⟩, h.row.more k, h.ne⟩
theorem BsAt.put {s : St} {q p n : Nat} {v : MV} {z : V} {m m' : BitVec 64} (h : BsAt s q v p z n m) {t : T V} (h0 : t.get 0 = some z) (h1 : t.get 1 = some (wd m')) : BsAt ⟨s.nx, s.h.set p (.cs 233 2 t)⟩ q v p z n m' :=
  ⟨h.lt, h.no, ⟨t, T.get_set_same _ _ _, h0, h1⟩, ⟨h.row.1.setOther (fun _ _ _ e => h.ne (.inl ⟨_, _, _, e⟩)) (fun _ _ _ e => h.ne (.inr ⟨_, _, _, e⟩)) _, h.row.2⟩, h.ne⟩
theorem blB1 (x0 : Operand) (a : V) (h : a.one = true) (st : St) : bldK Try.prog 233 [(0, x0)] [a] [.c (.slice none 0 0), .int .u64 0] st = some (.g [a, .int .u64 0], st) := by
  rw [bldK_ok so233, partsK_one rfl h (by simp)]; rfl
theorem bnext_any (st : St) (q p n : Nat) (v : MV) (z : V) (m : BitVec 64) (h : BsAt st q v p z n m) (nt : Nat) :
    Gd (callL Try.prog ⟨false, [], 0, nt⟩ 106 [.p p 0] st) fun r => r = (wd (nextW m), st) := by
  rw [Gd_callL Try.func106 rfl]
  obtain ⟨t, h1, h2, h3⟩ := h.blk
  unfold nextW
  by_cases c : m = 18446744073709551615#64
  · simp [evOp_call, sets, T.get_set, loadE_eq, getC_eq, h1, h2, h3, c]
  · simp [evOp_call, sets, T.get_set, loadE_eq, getC_eq, h1, h2, h3, c]
theorem bhas_any (st : St) (q p n : Nat) (v : MV) (z : V) (m : BitVec 64) (h : BsAt st q v p z n m) (c : Int) (nt : Nat) :
    Gd (callL Try.prog ⟨false, [], 0, nt⟩ 169 [.p p 0, .int .i64 c] st) fun r => r = (.bool (decide (0 ≤ c ∧ c < n)), st) := by
  rw [Gd_callL Try.func169 rfl]
  obtain ⟨t, h1, h2, h3⟩ := h.blk
  by_cases c0 : 0 ≤ c
  · simp [evOp_call, sets, T.get_set, loadE_eq, getC_eq, h1, h2, h3, c0, h.row.1.lenS]
  · simp [evOp_call, sets, T.get_set, loadE_eq, getC_eq, h1, h2, h3, c0]
theorem bkV_cs' (q i : Nat) : bkV q (4 * (i : Int)) 4 (i : Int) = .g [.p q 0, .int .i64 (4 * (i : Int)), .int .i64 4, .int .i64 (i : Int)] := rfl
def boI (st : St) (q p : Nat) (v : MV) (x z : V) (n : Nat) (H : List (Option RecW)) (e : Env) (s : St) : Prop := ∃ i : Nat, i ≤ n ∧ e.get 4 = some (.p p 0) ∧ e.get 22 = some x ∧ e.get 23 = some (.int .i64 (n : Int)) ∧ e.get 24 = some (.int .i64 (i : Int)) ∧ Ext st.nx st s ∧ BsAt s q v p z n (mostW (H.take i))
def bopQ (st : St) (q : Nat) (v : MV) (n : Nat) (H : List (Option RecW)) (r : V × St) : Prop := ∃ p z, r.1 = .t [.p p 0, .int .i64 0] ∧ Ext st.nx st r.2 ∧ BsAt r.2 q v p z n (mostW H) ∧ st.nx ≤ p ∧ ∀ k, Nm z k → st.nx ≤ k
set_option maxRecDepth 20000 in
set_option maxHeartbeats 8000000 in
theorem bopen_any (st : St) (q : Nat) (v : MV) (h : MemAt st q v) (x : V) (n : Nat) (hn : 1 ≤ n ∧ n ≤ 8) (hx : RowAp st q v x 4 n (bkRow q n)) (H : List (Option RecW)) (hs : Shelf n (absV v) H) (nt : Nat) :
    Gd (callL Try.prog ⟨false, [], 0, nt⟩ 99 [x] st) (bopQ st q v n H) := by
  rw [Gd_callL Try.func99 rfl]
  have c1 : ¬ (n : Int) = 0 := by omega
  have c2 : ¬ (8 : Int) < n := by omega
  have c1' : ¬ n = 0 := by omega
  have c2' : ¬ 8 < n := by omega
  simp [evOp_call, sets, T.get_set, hx.1.lenS, c1, c2, c1', c2']
  refine Gd.mono (clone4_any st x n _ hx.1 (by omega) (by omega) _) ?_
  rintro ⟨z, s1⟩ ⟨hz, e1⟩
  simp only at hz e1
  have hzo := hz.rd.one
  simp [evOp_call, sets, T.get_set, blB1, hzo]
  simp [evOp_call, sets, T.get_set, newC_is, cellsOf, (hx.more e1).1.lenS]
  have hx1 := fun b => (Ext.refl s1.nx s1).new (Nat.le_refl _) b
  have hm1 := h.ext e1
  have hzn : ∀ k, Nm z k → st.nx ≤ k := fun k hk => hz.nm_ge hk
  have hR : v.R.length = 4 * n := by rw [← absLen]; exact hs.c.ok.len
  have hoff : v.off = false := hs.c.ok.off
  refine Gd_loop (boI st q s1.nx v x z n H) (fun e _ => muAt 24 n e) ?_ ?_
  · refine ⟨0, Nat.zero_le _, by simp [T.get_set], by simp [T.get_set], by simp [T.get_set], by simp [T.get_set], e1.trans ((hx1 _).mono e1.le), ⟨Nat.lt_succ_self _, fun e => by have := h.own_lt e; have := e1.le; omega, ⟨_, T.get_set_same _ _ _, by simp [T.get_set], by simp [T.get_set]; rw [wd_0]; rfl⟩, ⟨hz.rd.ext (hx1 _), fun k hk e => by have := hzn k hk; have := h.own_lt e; omega⟩, fun hk => by have := hz.rd.nm_lt hk; omega⟩⟩
  rintro e s ⟨i, hi, g4, g22, g23, g24, hes, hb⟩
  by_cases hlt : i < n
  case neg =>
    obtain rfl : i = n := by omega
    rw [List.take_of_length_le (by rw [hs.len]; exact Nat.le_refl _)] at hb
    simp [evOp_call, T.get_set, g4, g22, g23, g24, sets]
    exact ⟨_, z, rfl, hes, hb, e1.le, hzn⟩
  have hlt' : (i : Int) < n := by omega
  have hwi := wrap_nat (n := i) (by omega)
  obtain ⟨m, o, ty, sz, tr, hid, hm, hg, ho, hc⟩ := (hx.more hes).1.idx (st := s) un142 io122 hlt
  have t0 : tr.get o = some (.p q 0) := hc 0 _ (by omega) (bkRow_at q n hlt rfl)
  have t1 : tr.get (o + 1) = some (.int .i64 (4 * (i : Int))) := hc 1 _ (by omega) (bkRow_at q n hlt rfl)
  have t2 : tr.get (o + 1 + 1) = some (.int .i64 4) := hc 2 _ (by omega) (bkRow_at q n hlt rfl)
  have t3 : tr.get (o + 1 + 1 + 1) = some (.int .i64 (i : Int)) := hc 3 _ (by omega) (bkRow_at q n hlt rfl)
  have hne : ¬ s.nx = m := by omega
  have hne' : ¬ m = s.nx := by omega
  have hx2 := fun b => (Ext.refl s.nx s).new (Nat.le_refl _) b
  simp [evOp_call, T.get_set, g4, g22, g23, g24, tupK, newC_is, cellsOf, storeK_g, putB_eq, roT, sets, loadE_eq, getC_eq, getsB_succ, getsB_zero, hlt', hid, hg, t0, t1, t2, t3, hne, hne']
  obtain ⟨r0, hr0⟩ : ∃ r0, H[i]? = some r0 := ⟨_, List.getElem?_eq_getElem (by rw [hs.len]; exact hlt)⟩
  rw [← bkV_cs' q i]
  have hb2 := fun b => hb.more (hx2 b)
  refine Gd.mono (bread_any _ q v ((h.ext hes).ext (hx2 _)) (by omega) (4 * (i : Int)) 4 i (by rw [hR]; exact hs.win hlt) (by omega) _) ?_
  rintro ⟨r, s3⟩ ⟨e3, hr⟩
  simp only at hr e3
  rcases hr with ⟨h0, _⟩ | ⟨_, w, num, K, b, hr, hw3, hwf, hrd, hK4⟩
  · rw [hoff] at h0; cases h0
  subst hr
  rw [hs.read hr0] at hrd
  have hnum0 : hnum r0 = num := by
    rcases hrd with ⟨_, e⟩ | ⟨_, e, e2, _⟩
    · rw [e]; rfl
    · rw [e, e2]; rfl
  have hl3 : s.nx + 1 ≤ s3.nx := e3.le
  have hl0 := hes.le
  have hwo := hw3.one
  have hb3 := (hb2 _).more e3
  have hx3 := fun b => (Ext.refl s3.nx s3).new (Nat.le_refl _) b
  have hb4 := fun b => hb3.more (hx3 b)
  obtain ⟨tb, k1, k2, k3⟩ := hb3.blk
  have hp3 := hb3.lt
  have n1 : ¬ s3.nx = s1.nx := by omega
  have n1' : ¬ s1.nx = s3.nx := by omega
  simp [evOp_call, T.get_set, g4, g22, g23, g24, tupK, newC_is, cellsOf, storeK_g, putB_eq, roT, sets, loadE_eq, getC_eq, getsB_succ, getsB_zero, hwo, wd_one]
  refine ⟨by kernel_rfl, ?_⟩
  simp [evOp_call, T.get_set, g4, g22, g23, g24, tupK, newC_is, cellsOf, storeK_g, putB_eq, roT, sets, loadE_eq, getC_eq, getsB_succ, getsB_zero, hwo, wd_one, n1, n1', k1, k2, k3, evOp_max, max_wd]
  rw [cxOf_store]
  rotate_left
  · kernel_rfl
  simp [evOp_call, T.get_set, g4, g22, g23, g24, tupK, newC_is, cellsOf, storeK_g, putB_eq, roT, sets, loadE_eq, getC_eq, getsB_succ, getsB_zero, hwo, wd_one, n1, n1', k1, k2, k3, evOp_max, max_wd, hwi]
  refine ⟨⟨i + 1, hlt, by simp [T.get_set, g4], by simp [T.get_set, g22], by simp [T.get_set, g23], by simp [T.get_set], ?_, ?_⟩, muAt_lt g24 (by simp [T.get_set]) hlt⟩
  · exact (((hes.trans ((hx2 _).mono hes.le)).trans (e3.mono (by show st.nx ≤ s.nx + 1; omega))).trans ((hx3 _).mono (by omega))).set (by have := e1.le; omega) (by show s1.nx < s3.nx + 1; omega) _
  · rw [mostW_take hr0, hnum0]
    exact (hb4 _).put (by simp [T.get_set, k2]) (by simp [T.get_set])
end Go.Proofs.Ytdoennkmcloalaa

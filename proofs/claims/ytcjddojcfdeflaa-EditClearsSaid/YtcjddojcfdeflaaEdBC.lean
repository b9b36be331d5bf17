/-
  PLAIN: EdB, EdC, in one text.
-/
import Derived.Test.YtcjddojcfdeflaaEdPQ
import Derived.Test.YtcjddojcfdeflaaTyEd
set_option linter.unusedSimpArgs false
set_option linter.unusedVariables false
namespace Go.Proofs.Ytcjddojcfdeflaa
open Go.RowKit Ev
theorem clash_offE {e : Env} {t : Nat} {w : V} {fl : List (Nat × Nat)} {s : St} {z n : Nat} {l : List V} (hg : e.get t = some w) (hr : RdRow s w z n l) (hq : ∀ b, rowIn w b → inF fl b = false) : clashes e fl (.tmp t) = false := by
  rw [clashes_tmp, hg]
  rcases hr.2 with ⟨rfl | rfl, _⟩ | ⟨m, o, q, ty, sz, t, rfl, _⟩ | ⟨m, o, ty, sz, t, rfl, _⟩
  · rfl
  · rfl
  · exact hq m (.inl ⟨_, _, _, rfl⟩)
  · exact hq m (.inr ⟨_, _, _, rfl⟩)
theorem Gd_env {P : Program} {M : Mach P} {c : Cx} {code : Code} {Q : X × Env × St → Prop} {E : Env} {s : St} (R : Env → Prop) (h : R E) (k : ∀ E', R E' → Gd (M.E c code E' s) Q) : Gd (M.E c code E s) Q := k E h
/-- of the blocks that were, only m may have changed -/
structure Kp (m : Nat) (st s : St) : Prop where
  le : st.nx ≤ s.nx
  wf : Wf st → Wf s
  keep : ∀ k, k < st.nx → k ≠ m → s.h.get k = st.h.get k
theorem Kp.ofExt {m : Nat} {st s : St} (h : Ext st.nx st s) : Kp m st s := ⟨h.le, h.wf, fun k hk _ => h.keep k hk⟩
theorem Kp.trans {m : Nat} {s1 s2 s3 : St} (h : Kp m s1 s2) (k : Kp m s2 s3) : Kp m s1 s3 := ⟨Nat.le_trans h.le k.le, fun w => k.wf (h.wf w), fun n hn hm => (k.keep n (Nat.lt_of_lt_of_le hn h.le) hm).trans (h.keep n hn hm)⟩
theorem Kp.ext {m b : Nat} {st s : St} (h : Kp m st s) (hb : b ≤ m) (hn : b ≤ st.nx) : Ext b st s := ⟨h.le, h.wf, fun n hb' => h.keep n (by omega) (by omega)⟩
theorem Kp.rd {m : Nat} {st s : St} (h : Kp m st s) {v : V} {z n : Nat} {l : List V} (hv : RdRow st v z n l) (hm : ¬ rowIn v m) : RdRow s v z n l := by
  obtain ⟨h1, h2⟩ := hv
  refine ⟨h1, ?_⟩
  rcases h2 with h2 | ⟨m', o, q, ty, sz, t, rfl, h3, h4, h5, h6⟩ | ⟨m', o, ty, sz, t, rfl, h3, h4, h5, h6⟩
  · exact .inl h2
  · exact .inr (.inl ⟨m', o, q, ty, sz, t, rfl, Nat.lt_of_lt_of_le h3 h.le, (h.keep m' h3 fun e => hm (by rw [← e]; exact .inl ⟨_, _, _, rfl⟩)).trans h4, h5, h6⟩)
  · exact .inr (.inr ⟨m', o, ty, sz, t, rfl, Nat.lt_of_lt_of_le h3 h.le, (h.keep m' h3 fun e => hm (by rw [← e]; exact .inr ⟨_, _, _, rfl⟩)).trans h4, h5, h6⟩)
/-- an Edit: its words lie in a row of their own -/
structure EdAt (s : St) (q m : Nat) (g : Gm) (W : List (BitVec 64)) : Prop where
  q1 : q < s.nx
  m1 : m < s.nx
  qm : q ≠ m
  len : W.length = 8 * g.b.toNat
  box : ∃ t, s.h.get q = some (.cs 51 7 t) ∧ t.get 0 = some (.int .i64 g.b) ∧ t.get 1 = some (.int .i64 g.n) ∧ t.get 2 = some (.int .i64 g.c) ∧ t.get 3 = some (.int .i64 g.k) ∧ t.get 4 = some (.sg m 0 (8 * g.b.toNat) 1)
  row : ∃ ty t, s.h.get m = some (.cs ty (8 * g.b.toNat) t) ∧ ty ≠ roT ∧ ∀ j v, (wv W)[j]? = some v → t.get j = some v
theorem EdAt.rd {s : St} {q m : Nat} {g : Gm} {W : List (BitVec 64)} (h : EdAt s q m g W) : RdRow s (.sg m 0 (8 * g.b.toNat) 1) 1 (8 * g.b.toNat) (wv W) := by
  obtain ⟨ty, t, h1, h2, h3⟩ := h.row
  exact ⟨by rw [wv_length, h.len, Nat.mul_one], .inr (.inr ⟨m, 0, ty, _, t, rfl, h.m1, h1, by omega, fun j v hj => by rw [Nat.zero_add]; exact h3 j v hj⟩)⟩
theorem capSg (m o n z : Nat) : CapOk (.sg m o n z) := fun _ _ _ _ e => by cases e
theorem EdAt.ext {s s' : St} {q m : Nat} {g : Gm} {W : List (BitVec 64)} (h : EdAt s q m g W) (k : Ext s.nx s s') : EdAt s' q m g W := by
  obtain ⟨h1, h2, h3, h4, ⟨t, h5, h6⟩, ⟨ty, t', h7, h8⟩⟩ := h
  exact ⟨Nat.lt_of_lt_of_le h1 k.le, Nat.lt_of_lt_of_le h2 k.le, h3, h4, ⟨t, (k.keep _ h1).trans h5, h6⟩, ⟨ty, t', (k.keep _ h2).trans h7, h8⟩⟩
/-- words written into it -/
theorem EdAt.put {s : St} {q m : Nat} {g : Gm} {W w : List (BitVec 64)} (h : EdAt s q m g W) {i : Nat} (hi : i + w.length ≤ 8 * g.b.toNat) {ty : TypeId} {t : T V} (hg : s.h.get m = some (.cs ty (8 * g.b.toNat) t)) : EdAt ⟨s.nx, s.h.set m (.cs ty (8 * g.b.toNat) (sets (wv w) i t))⟩ q m g (putL W i w) ∧ Kp m s ⟨s.nx, s.h.set m (.cs ty (8 * g.b.toNat) (sets (wv w) i t))⟩ := by
  obtain ⟨h1, h2, h3, h4, ⟨tb, h5, h6⟩, ⟨ty', t', h7, h8, h9⟩⟩ := h
  rw [hg] at h7
  injection h7 with h7
  injection h7 with e1 e2 e3
  subst e1 e3
  refine ⟨⟨h1, h2, h3, by rw [putL_length (by omega)]; exact h4, ⟨tb, (T.get_set_ne _ _ (by omega)).trans h5, h6⟩, ⟨ty, _, T.get_set_same _ _ _, h8, fun j v hj => ?_⟩⟩, ⟨Nat.le_refl _, fun w' n hn => ?_, fun k hk hm => T.get_set_ne _ _ (by omega)⟩⟩
  · unfold wv at hj
    rw [List.getElem?_map, putL_get (by omega)] at hj
    rw [get_sets]
    simp only [wv_length]
    by_cases hc : i ≤ j ∧ j < i + w.length
    · rw [if_pos hc] at hj
      rw [if_pos hc]
      unfold wv
      rw [List.getElem?_map]; exact hj
    · rw [if_neg hc] at hj
      rw [if_neg hc]
      exact h9 j v (by unfold wv; rw [List.getElem?_map]; exact hj)
  · have hn' : s.nx ≤ n := hn
    show (s.h.set m _).get n = none
    rw [T.get_set_ne _ _ (by omega)]
    exact w' n hn'
set_option maxRecDepth 20000 in
set_option maxHeartbeats 2000000 in
/-- put -/
theorem eput_any (st : St) (q m : Nat) (g : Gm) (W : List (BitVec 64)) (h : EdAt st q m g W) (hb : g.b ≤ 1024) (a : Nat) (ha : a < g.b.toNat) (w : V) (l : List (BitVec 64)) (hw : RdRow st w 1 8 (wv l)) (nt : Nat) :
    Gd (callL Try.prog ⟨false, [], 0, nt⟩ 23 [.p q 0, .int .i64 (a : Int), w] st) fun r => r.1 = .t [] ∧ EdAt r.2 q m g (putL W (a * 8) l) ∧ Kp m st r.2 := by
  rw [Gd_callL Try.func23 rfl]
  have hl : l.length = 8 := by have := hw.1; rw [wv_length] at this; exact this
  obtain ⟨t, kt, t0, t1, t2, t3, t4⟩ := h.box
  obtain ⟨ty, tr, km, hro, hc⟩ := h.row
  have w1 : IntKind.i64.wrap ((a : Int) * 8) = ((a * 8 : Nat) : Int) := by rw [show (a : Int) * 8 = ((a * 8 : Nat) : Int) by omega]; exact wrap_in (by omega) (by omega)
  have w2 : IntKind.i64.wrap ((a : Int) + 1) = (a : Int) + 1 := wrap_in (by omega) (by omega)
  have w3 : IntKind.i64.wrap (((a : Int) + 1) * 8) = ((a * 8 + 8 : Nat) : Int) := by rw [show ((a : Int) + 1) * 8 = ((a * 8 + 8 : Nat) : Int) by omega]; exact wrap_in (by omega) (by omega)
  simp [evOp_call, sets, T.get_set, loadE_eq, getC_eq, kt, t4, w1, w2, w3, -Int.natCast_add, -Int.natCast_mul]
  have hsl : ∀ (e : Env) (c : Cx), e.get 12 = some (.int .i64 ((a * 8 : Nat) : Int)) → e.get 15 = some (.int .i64 ((a * 8 + 8 : Nat) : Int)) → sliceK Try.prog c e st 28 (.sg m 0 (8 * g.b.toNat) 1) (some (.tmp 12)) (some (.tmp 15)) = some (.sg m (0 + a * 8 * 1) (a * 8 + 8 - a * 8) 1, st) := fun e c he he2 => by
    unfold sliceK
    rw [sliceE_midG (k := a * 8) (k2 := a * 8 + 8) (i := .i64) (i2 := .i64) un28 io39 (by simp [he]) (by simp [he2]) m 0 (8 * g.b.toNat) (by omega) (by omega) (fun a => some (a, st))]
  rw [hsl _ _ (by simp [T.get_set]) (by simp [T.get_set])]
  simp [evOp_call, T.get_set, -Int.natCast_add, -Int.natCast_mul]
  rw [copy_g (lx := 8) (n := 8) (L := wv l) un28 io39 (fun k => hw.len k) (by show min _ _ = _; omega) (fun k => hw.firsts k) rfl (Nat.zero_le _) km hro (by rw [wv_length]; omega)]
  simp [evOp_call, sets, T.get_set]
  exact h.put (w := l) (i := a * 8) (by omega) km
/-- blocks -/
def ebO (st : St) (x : V) (K : List Rn) (en : Env) (s : St) : Prop := ∃ (j : Nat) (y : V), j ≤ K.length ∧ en.get 7 = some x ∧ en.get 8 = some (.int .i64 (K.length : Int)) ∧ en.get 9 = some (.int .i64 (j : Int)) ∧ en.get 3 = some y ∧ OwnRow st.nx s y 1 (allJ (K.take j)).length (iv (allJ (K.take j))) ∧ Ext st.nx st s
def ebN (st : St) (x : V) (K : List Rn) (j c : Nat) (a : Int) (n : Nat) (en : Env) (s : St) : Prop := ∃ (i : Nat) (y : V), i ≤ n ∧ en.get 7 = some x ∧ en.get 8 = some (.int .i64 (K.length : Int)) ∧ en.get 9 = some (.int .i64 (j : Int)) ∧ en.get 5 = some (.p c 0) ∧ en.get 14 = some (.int .i64 (n : Int)) ∧ en.get 15 = some (.int .i64 (i : Int)) ∧ en.get 3 = some y ∧ (∀ o l w, y ≠ .sg c o l w) ∧ c < s.nx ∧ (∃ t, s.h.get c = some (.cs 87 2 t) ∧ t.get 0 = some (.int .i64 a)) ∧
  OwnRow st.nx s y 1 (allJ (K.take j) ++ runJ a i).length (iv (allJ (K.take j) ++ runJ a i)) ∧ Ext st.nx st s
set_option maxRecDepth 20000 in
set_option maxHeartbeats 4000000 in
theorem eblk_fl (st : St) (fl : List (Nat × Nat)) (hfn : ∀ k, st.nx ≤ k → inF fl k = false) (x : V) (K : List Rn) (hx : RdRow st x 2 K.length (cells K)) (hfx : ∀ m, rowIn x m → inF fl m = false) (hK : okRp K) (nt : Nat) :
    Gd (callL Try.prog ⟨false, fl, 0, nt⟩ 20 [x] st) fun r => OwnRow st.nx r.2 r.1 1 (allJ K).length (iv (allJ K)) ∧ Ext st.nx st r.2 := by
  rw [Gd_callL Try.func20 rfl]
  have hKl := hK.1
  simp [evOp_call, sets, T.get_set, hx.lenS]
  refine Gd_loop (ebO st x K) (fun en _ => muAt 9 K.length en) ?_ ?_
  · exact ⟨0, _, Nat.zero_le _, by simp [T.get_set], by simp [T.get_set], by simp [T.get_set], by simp [T.get_set], OwnRow.nil _ _ _, Ext.refl _ _⟩
  · rintro en s ⟨j, y, hj, g10, g11, g12, g6, hy, hs⟩
    have hxs := hx.ext hs
    have hle := hs.le
    by_cases hlt : j < K.length
    · have hlt' : (j : Int) < K.length := by omega
      obtain ⟨⟨a, n0⟩, hr⟩ : ∃ r, K[j]? = some r := ⟨_, List.getElem?_eq_getElem hlt⟩
      have hrb := hK.2 _ (List.mem_of_getElem? hr)
      simp only at hrb
      obtain ⟨n, rfl⟩ := Int.eq_ofNat_of_zero_le hrb.2.2.1
      obtain ⟨m1, o1, ty1, sz1, tr1, i1, b1, k1, l1, c1, hri⟩ := hxs.idxB (st := s) un31 io87 hlt
      have d0 : tr1.get o1 = some (.int .i64 a) := by simpa using c1 0 _ (by omega) (cells_get K j _ hr).1
      have d1 : tr1.get (o1 + 1) = some (.int .i64 (n : Int)) := by simpa using c1 1 _ (by omega) (cells_get K j _ hr).2
      have hfm := hfx m1 hri
      have fn0 := hfn s.nx hle
      simp [evOp_call, T.get_set, g10, g11, g12, g6, hlt', hfm, fn0, i1, loadE_eq, getC_eq, getsB_succ, getsB_zero, k1, d0, d1, newC_is, storeK_g, putB_eq, roT, sets]
      refine Gd_loop (ebN st x K j s.nx a n) (fun en _ => muAt 15 n en) ?_ ?_
      · exact ⟨0, y, Nat.zero_le _, by simp [T.get_set, g10], by simp [T.get_set, g11], by simp [T.get_set, g12], by simp [T.get_set], by simp [T.get_set], by simp [T.get_set], by simp [T.get_set, g6], own_ne hy, Nat.lt_succ_self _, ⟨_, T.get_set_same _ _ _, by simp [T.get_set]⟩,
          by rw [show runJ a 0 = [] from rfl, List.append_nil]; exact hy.ext ((Ext.refl _ _).new (Nat.le_refl _) _), hs.new hle _⟩
      · rintro en2 s2 ⟨i, y2, hi, f10, f11, f12, f8, f17, f18, f6, hyn, hc, ⟨t2, k2, e2⟩, hy2, hs2⟩
        have hle2 := hs2.le
        have haj : (allJ (K.take j)).length ≤ 100000 := by
          have := (allJ_le (K.take j) fun r hr => hK.2 r (List.mem_of_mem_take hr)).1
          have h2 : (K.take j).length ≤ 100 := by rw [List.length_take]; omega
          omega
        by_cases hli : i < n
        · have hli' : (i : Int) < n := by omega
          have hw1 : IntKind.i64.wrap (a + (i : Int)) = a + (i : Int) := wrap_in (by omega) (by omega)
          have hwi := wrap_nat (n := i) (by omega)
          have fn2 := hfn s2.nx hle2
          have hfr := AppRow.from (.inl hy2)
          simp [evOp_call, T.get_set, f10, f11, f12, f8, f17, f18, f6, hli', fn0, loadE_eq, getC_eq, k2, e2, hw1]
          refine evOp_build1 (v := .int .i64 (a + (i : Int))) (cs := [.int .i64 (a + (i : Int))]) (fun k => el63 k) (fun k => ze3 k) rfl (by omega) (by simp [T.get_set]) (fun k => rfl) rfl ?_
          simp [evOp_call, T.get_set, f10, f11, f12, f8, f17, f18, f6]
          refine Gd_appendL un63 un63 io3 (lx := 1) (new := [.int .i64 (a + (i : Int))]) (hy2.ext ((Ext.refl _ _).new (Nat.le_refl _) _)) (fun m o ln e => hfn m (hfr.1 _ _ _ _ e)) (by show st.nx ≤ s2.nx + 1; omega) (by decide) (fun s' h => by cases h) (fun k => rfl) (fun k => by simp [fn2, getC_eq, getsB_1, T.get_set, sets]) rfl (by rw [List.length_append, runJ_len]; omega) ?_
          intro y3 s3 hy3 x3 hk3 hyy
          have hyn3 : ∀ o l w, y3 ≠ .sg s.nx o l w := by
            rcases hyy with rfl | ⟨ln, rfl⟩
            · exact hyn
            · intro o l w e; injection e with e; simp only at e; omega
          have e3 : iv (allJ (K.take j) ++ runJ a i) ++ [V.int .i64 (a + (i : Int))] = iv (allJ (K.take j) ++ runJ a (i + 1)) := by rw [runJ_succ, ← List.append_assoc, iv_app (allJ (K.take j) ++ runJ a i)]; rfl
          have hx3 : Ext st.nx st s3 := (hs2.new hle2 _).trans x3
          have hn3 := x3.le
          simp only at hn3
          have kc : s3.h.get s.nx = some (.cs 87 2 t2) := by
            rw [hk3 s.nx (by show s.nx < s2.nx + 1; omega) ?_]
            · exact (T.get_set_ne _ _ (by omega)).trans k2
            · exact fun o ln => hyn o ln 1
          simp [evOp_call, T.get_set, f10, f11, f12, f8, f17, f18, f6, hwi]
          exact ⟨⟨i + 1, y3, by omega, by simp [T.get_set, f10], by simp [T.get_set, f11], by simp [T.get_set, f12], by simp [T.get_set, f8], by simp [T.get_set, f17], by simp [T.get_set], by simp [T.get_set], hyn3, by omega, ⟨t2, kc, e2⟩, by rw [← e3, runJ_succ, ← List.append_assoc, List.length_append]; exact hy3, hx3⟩, muAt_lt f18 (by simp [T.get_set]) hli⟩
        · obtain rfl : i = n := by omega
          have hwj := wrap_nat (n := j) (by omega)
          simp [evOp_call, T.get_set, f10, f11, f12, f8, f17, f18, f6, hwj]
          exact ⟨⟨j + 1, y2, by omega, by simp [T.get_set, f10], by simp [T.get_set, f11], by simp [T.get_set], by simp [T.get_set, f6], by rw [allJ_take hr]; exact hy2, hs2⟩, muAt_lt (t := 9) (j := j) (n := K.length) g12 (by simp [T.get_set]) hlt⟩
    · obtain rfl : j = K.length := by omega
      rw [List.take_length] at hy
      simp [evOp_call, T.get_set, g10, g11, g12, g6]
      exact ⟨hy, hs⟩
theorem eblk_any (st : St) (x : V) (K : List Rn) (hx : RdRow st x 2 K.length (cells K)) (hK : okRp K) (nt : Nat) :
    Gd (callL Try.prog ⟨false, [], 0, nt⟩ 20 [x] st) fun r => OwnRow st.nx r.2 r.1 1 (allJ K).length (iv (allJ K)) ∧ Ext st.nx st r.2 := eblk_fl st [] (fun _ _ => rfl) x K hx (fun _ _ => rfl) hK nt
end Go.Proofs.Ytcjddojcfdeflaa
set_option linter.unusedSimpArgs false
set_option linter.unusedVariables false
namespace Go.Proofs.Ytcjddojcfdeflaa
open Go.RowKit Ev
theorem pairs_cells : ∀ R : List (Int × Int), pairs R = cells R
  | [] => rfl
  | r :: R => by
    have := pairs_cells R
    rw [cells_cons, ← this]
    rfl
theorem EdAt.img {s : St} {q m : Nat} {g : Gm} {W : List (BitVec 64)} (h : EdAt s q m g W) : ∃ t, s.h.get q = some (.cs 51 7 t) ∧ t.get 0 = some (.int .i64 g.b) ∧ t.get (0 + 1) = some (.int .i64 g.n) ∧ t.get (0 + 1 + 1) = some (.int .i64 g.c) ∧ t.get (0 + 1 + 1 + 1) = some (.int .i64 g.k) ∧ t.get (0 + 1 + 1 + 1 + 1) = some (.sg m 0 (8 * g.b.toNat) 1) := h.box
set_option maxRecDepth 20000 in
set_option maxHeartbeats 2000000 in
theorem eold_any (st : St) (q m : Nat) (g : Gm) (hg : isGood g) (W : List (BitVec 64)) (h : EdAt st q m g W) (i : Nat) (hi : 1 ≤ i ∧ (i : Int) ≤ g.n) (N : Nd) (hN : getNd (blkW W (atN g i)) = some N) (hgN : goodN g N) (hs : N.s ≤ 9223372036854775807) (nt : Nat) :
    Gd (callL Try.prog ⟨false, [], 0, nt⟩ 21 [.p q 0, .int .i64 (i : Int)] st) fun r => RdRow r.2 r.1 2 N.R.length (cells N.R) ∧ (∀ b, rowIn r.1 b → st.nx ≤ b) ∧ CapOk r.1 ∧ Ext st.nx st r.2 := by
  rw [Gd_callL Try.func21 rfl]
  obtain ⟨t, kt, t0, t1, t2, t3, t4⟩ := h.box
  simp [evOp_call, sets, T.get_set, loadE_eq, getC_eq, getsB_succ, getsB_zero, kt, t0, t1, t2, t3, t4]
  refine Gd.mono (inode_any st g hg _ W h.rd (capSg _ _ _ _) i hi N hN hgN hs _) ?_
  rintro ⟨r, s1⟩ ⟨z, hr, hz, hzf, hzc, x1⟩
  simp only at hr hz hzf x1
  subst hr
  have hzo := hz.one
  have n1 := x1.le
  rw [pairs_cells] at hz
  simp [ndV, evOp_call, sets, T.get_set, tupK, newC_is, cellsOf, storeK_g, putB_eq, roT, loadE_eq, getC_eq, getsB_succ, getsB_zero, hzo]
  have xb := (Ext.refl s1.nx s1).new (Nat.le_refl _)
  exact ⟨hz.ext (xb _), hzf, hzc, x1.new n1 _⟩
set_option maxRecDepth 20000 in
set_option maxHeartbeats 2000000 in
theorem ehold_any (st : St) (q m : Nat) (g : Gm) (hg : isGood g) (W : List (BitVec 64)) (h : EdAt st q m g W) (x : V) (K : List Rn) (hx : RdRow st x 2 K.length (cells K)) (hK : okRp K) (nt : Nat) :
    Gd (callL Try.prog ⟨false, [], 0, nt⟩ 52 [.p q 0, x] st) fun r => ∃ y, r.1 = .g [y] ∧ RdRow r.2 y 1 (8 * (bN g).toNat) (wv (setB (bwF g W) true (allJ K))) ∧ RowFrom st.nx y ∧ Ext st.nx st r.2 := by
  rw [Gd_callL Try.func52 rfl]
  have hbl := (bwF_length hg h.len).1
  have hbn : (bN g).toNat ≤ 2 := by have := hg.1.2.1; unfold bN; omega
  obtain ⟨hal, haw⟩ := allJ_le K hK.2
  have hKl := hK.1
  simp [evOp_call, sets, T.get_set, newC_is, cellsOf, -seqC_n]
  rw [seqC_n]
  obtain ⟨s0, hs0⟩ : ∃ s0 : St, s0 = ⟨st.nx + 1, st.h.set st.nx (.cs 49 1 (T.lf.set 0 (V.c (.slice none 0 0))))⟩ := ⟨_, rfl⟩
  have x0 : Ext st.nx st s0 := by rw [hs0]; exact (Ext.refl _ _).new (Nat.le_refl _) _
  have k0 : s0.h.get st.nx = some (.cs 49 1 (T.lf.set 0 (V.c (.slice none 0 0)))) := by rw [hs0]; exact T.get_set_same _ _ _
  have n0 : s0.nx = st.nx + 1 := by rw [hs0]
  rw [← hs0]
  have h0 := h.ext x0
  obtain ⟨t, kt, t0, t1, t2, t3, t4⟩ := h0.box
  simp [evOp_call, sets, T.get_set, loadE_eq, getC_eq, getsB_succ, getsB_zero, kt, t0, t1, t2, t3, t4]
  refine Gd.mono (ibits_any s0 g hg _ W h0.rd (capSg _ _ _ _) _) ?_
  rintro ⟨r, s1⟩ ⟨mb, hr, hy1, hmb, x1⟩
  simp only at hr hy1 x1
  subst hr
  have n1 := x1.le
  simp [evOp_call, sets, T.get_set]
  refine Gd.mono (eblk_any s1 x K ((hx.ext x0).ext x1) hK _) ?_
  rintro ⟨r, s2⟩ ⟨hy2, x2⟩
  simp only at hy2 x2
  have n2 := x2.le
  simp [evOp_call, sets, T.get_set]
  refine Gd.mono (set_any s2 _ r (bwF g W) (by rw [hbl]; exact hy1.ext x2) (by omega) true (allJ K) hy2.rd (by omega) (fun i hi => by have := haw i hi; omega) _) ?_
  rintro ⟨r3, s3⟩ ⟨y3, hr3, hy3, hyf3, x3⟩
  simp only at hr3 hy3 hyf3 x3
  subst hr3
  have n3 := x3.le
  have hyo := hy3.one
  rw [hbl] at hy3
  have hs3 : Ext s0.nx s0 s3 := (x1.trans (x2.mono n1)).trans (x3.mono (by omega))
  have k3 := (hs3.keep st.nx (by omega)).trans k0
  simp [evOp_call, sets, T.get_set, storeK_g, putB_eq, roT, k3, hyo, loadE_eq, getC_eq, getsB_succ, getsB_zero]
  exact ⟨hy3.setOther (k := st.nx) (fun o l z e => by have := hyf3.1 _ _ _ _ e; omega) (fun o l z e => by have := hyf3.2 _ _ _ _ e; omega) _, hyf3.mono (by omega), (x0.trans (hs3.mono (by omega))).set (Nat.le_refl _) (by omega) _⟩
end Go.Proofs.Ytcjddojcfdeflaa

/-
  Contracts of package book: what is read.
-/
import Derived.Test.YtdoennkmcloalaaBkA
set_option linter.unusedSimpArgs false
namespace Go.Proofs.Ytdoennkmcloalaa
open Go.RowKit Ev
/-- what is read, as a value -/
def readIs (o : Option (BitVec 64 × List (Int × BitVec 64))) (b : Bool) (num : BitVec 64) (K : List (Int × BitVec 64)) : Prop := (b = true ∧ o = some (num, K)) ∨ (b = false ∧ o = none ∧ num = 0#64 ∧ K = [])
theorem nilRow2 (s : St) : RdRow s (.c (.slice none 0 0)) 2 ([] : List (Int × BitVec 64)).length (iw []) := (OwnRow.nil 0 s 2).rd
theorem getK_le4 (L : List (BitVec 64)) : (getK L).length ≤ 400 := by
  unfold getK
  split
  · rename_i h; rw [pairsR_length]; exact h.2.1
  · simp
theorem Gd_tailC {P : Program} {c : Cx} {e : Env} {st : St} {b t el n k : Nat} {i : IntKind} {y : V} {L : List (BitVec 64)} {x : Operand} {Q : V × St → Prop} (hu : P.underlying t = some (.slice el)) (hi : infoOk P el 1 = true) (h : SlRow b st y n L) (hv : opv e x = some (.int i (k : Int))) (hk : k < n)
    (hQ : ∀ v, RdRow st v 1 (n - k) (wv (L.drop k)) → CapOk v → Q (v, st)) : Gd (sliceK P c e st t y (some x) none) Q := by
  have h0 := h
  obtain ⟨h1, m, ty, tr, rfl, h2, h3, h4, h5, h6⟩ := h
  unfold sliceK
  have := sliceE_loS (P := P) hu hi hv m 0 n n (by omega) (Nat.le_refl _) hk (fun a => some (a, st))
  rw [this]
  refine ⟨_, rfl, hQ _ ⟨by simp [h1], .inr (.inl ⟨m, 0 + k * 1, n - k, ty, n, tr, rfl, h3, h4, by omega, fun j v hj => ?_⟩)⟩ (fun m' o' n' q' e => by injection e; omega)⟩
  unfold wv at hj
  rw [List.getElem?_map] at hj
  cases hq : (L.drop k)[j]? with
  | none => rw [hq] at hj; cases hj
  | some w =>
    rw [hq] at hj; injection hj with hj; subst hj
    rw [List.getElem?_drop] at hq
    have := h6 _ w hq
    rw [show 0 + k * 1 + j = k + j by omega]
    exact this
theorem Ev.RdRow.setOther' {s : St} {y : V} {z n b k : Nat} {l : List V} (h : RdRow s y z n l) (_ : St) (hf : RowFrom b y) (hk : k < b) (w : B) : RdRow ⟨s.nx, s.h.set k w⟩ y z n l :=
  h.setOther (fun _ _ _ e => by have := hf.1 _ _ _ _ e; omega) (fun _ _ _ e => by have := hf.2 _ _ _ _ e; omega) w
def bkQ (st : St) (off : Bool) (o : Option (BitVec 64 × List (Int × BitVec 64))) (r : V × St) : Prop := Ext st.nx st r.2 ∧
      ((off = true ∧ r.1 = .t [.g [wd 0#64, .c (.slice none 0 0)], .bool false, .int .i64 14]) ∨
       (off = false ∧ ∃ y num K b, r.1 = .t [.g [wd num, y], .bool b, .int .i64 0] ∧ RdRow r.2 y 2 K.length (iw K) ∧ RowFrom st.nx y ∧ readIs o b num K ∧ K.length ≤ 400))
theorem bkQ.off {st s : St} {b : Bool} {o : Option (BitVec 64 × List (Int × BitVec 64))} (h : b = true) (x : Ext st.nx st s) : bkQ st b o (.t [.g [.int .u64 0, .c (.slice none 0 0)], .bool false, .int .i64 14], s) := ⟨x, .inl ⟨h, by rw [wd_0]⟩⟩
theorem bkQ.none {st s : St} {b : Bool} {o : Option (BitVec 64 × List (Int × BitVec 64))} (h : b = false) (ho : o = none) (x : Ext st.nx st s) : bkQ st b o (.t [.g [.int .u64 0, .c (.slice none 0 0)], .bool false, .int .i64 0], s) := ⟨x, .inr ⟨h, _, 0#64, [], false, by rw [wd_0], nilRow2 _, nilFrom _, .inr ⟨rfl, ho, rfl, rfl⟩, Nat.zero_le _⟩⟩
theorem bkQ.some {st s : St} {b : Bool} {o : Option (BitVec 64 × List (Int × BitVec 64))} {y : V} {num : BitVec 64} {K : List (Int × BitVec 64)} (h : b = false) (hy : RdRow s y 2 K.length (iw K)) (hf : RowFrom st.nx y) (ho : o = some (num, K)) (hK : K.length ≤ 400) (x : Ext st.nx st s) : bkQ st b o (.t [.g [wd num, y], .bool true, .int .i64 0], s) := ⟨x, .inr ⟨h, _, num, K, true, rfl, hy, hf, .inl ⟨rfl, ho⟩, hK⟩⟩
set_option maxRecDepth 20000 in
set_option maxHeartbeats 8000000 in
theorem bread_any (st : St) (q : Nat) (v : MV) (h : MemAt st q v) (hR : v.R.length ≤ 1024) (f n c : Int) (hw : winB f n v.R.length) (hn : 2 ≤ n) (nt : Nat) :
    Gd (callL Try.prog ⟨false, [], 0, nt⟩ 92 [bkV q f n c] st) (bkQ st v.off (readO (spanL (absV v) f n))) := by
  rw [Gd_callL Try.func92 rfl]
  have hsp : V.g [V.p q 0, V.int .i64 f, V.int .i64 n] = spV q f n := rfl
  have he2 : ∀ a b, Ext st.nx st ⟨st.nx + 1 + 1, (st.h.set st.nx a).set (st.nx + 1) b⟩ := fun a b => ((Ext.refl _ _).new (Nat.le_refl _) a).new (Nat.le_succ _) b
  simp [bkV, evOp_call, sets, T.get_set, newC_is, cellsOf, loadE_eq, getC_eq, getsB_succ, getsB_zero]
  rw [hsp]
  obtain ⟨w1, w2, w3, w4⟩ := id hw
  refine Gd.mono (sall_any _ q v (h.ext (he2 _ _)) hR f n _) ?_
  rintro ⟨r, s1⟩ ⟨e1, hr⟩
  simp only at hr e1
  have hl1 : st.nx + 1 + 1 ≤ s1.nx := e1.le
  have x1 : Ext st.nx st s1 := (he2 _ _).trans (e1.mono (by omega))
  have kr1 : s1.h.get (st.nx + 1) = some (.cs 126 2 ((T.lf.set 0 (.int .u64 0)).set 1 (.c (.slice none 0 0)))) := (e1.keep (st.nx + 1) (by show st.nx + 1 < st.nx + 1 + 1; omega)).trans (T.get_set_same _ _ _)
  have xset : ∀ {s : St} (b : B), Ext st.nx st s → st.nx + 1 < s.nx → Ext st.nx st ⟨s.nx, s.h.set (st.nx + 1) b⟩ := fun b x hx => x.set (by omega) hx b
  rcases hr with ⟨_, ho, x, L, hr, hx, hL⟩ | ⟨_, ho, hr⟩ | ⟨hb, _⟩
  rotate_left
  · subst hr
    simp [evOp_call, sets, T.get_set, tupK, putB_eq, storeK_g, roT, kr1, loadE_eq, getC_eq, getsB_succ, getsB_zero]
    exact bkQ.off ho (xset _ x1 (by omega))
  · exact (hb hw).elim
  subst hr
  have hlen : L.length = (8 * n).toNat := by have := hx.rd.1; simpa using this
  have hLs : L = spanL (absV v) f n := by
    apply List.ext_getElem?
    intro j
    by_cases hj : j < (8 * n).toNat
    · rw [hL j hj]; unfold spanL; rw [List.getElem?_map, List.getElem?_range hj]; rfl
    · rw [List.getElem?_eq_none (by omega), List.getElem?_eq_none (by rw [spanL_length]; omega)]
  rw [← hLs]
  obtain ⟨m1, o1, ty1, sz1, t1, i1, b1, k1, l1, c1, r1⟩ := hx.rd.idxB (st := s1) un23 io24 (i := 0) (by omega)
  have d1 : t1.get o1 = some (wd (wat L 0)) := c1 0 _ (by omega) (by simpa using wv_get (wat_get (L := L) (i := 0) (by omega)))
  have hun : readO L = if wat L 0 = 0#64 then none else if getOk (L.drop 8) ∧ getN (L.drop 8) = wat L 0 then some (wat L 0, getK (L.drop 8)) else none := rfl
  by_cases c0 : wat L 0 = 0#64
  · simp [evOp_call, sets, T.get_set, tupK, putB_eq, storeK_g, roT, kr1, loadE_eq, getC_eq, getsB_succ, getsB_zero, i1, k1, d1, c0]
    exact bkQ.none ho (by rw [hun, if_pos c0]) (xset _ x1 (by omega))
  simp [evOp_call, sets, T.get_set, tupK, putB_eq, storeK_g, roT, kr1, loadE_eq, getC_eq, getsB_succ, getsB_zero, i1, k1, d1, c0]
  refine Gd_tailC (i := .i64) un23 io24 hx (k := 8) (by simp) (by omega) ?_
  intro z hz hzc
  have hdl : (L.drop 8).length = (8 * n).toNat - 8 := by rw [List.length_drop]; omega
  rw [← hdl] at hz
  simp [evOp_call, sets, T.get_set]
  refine Gd.mono (rdget_any s1 z (L.drop 8) hz hzc (by omega) _) ?_
  rintro ⟨r, s2⟩ ⟨y, hr, hy, hyf, e2⟩
  simp only at hr hy hyf e2
  subst hr
  have hl2 := e2.le
  have x2 := x1.trans (e2.mono x1.le)
  have kr2 := (e2.keep (st.nx + 1) (by omega)).trans kr1
  have kx2 : s2.h.get m1 = _ := (e2.keep m1 b1).trans k1
  have n1 : ¬ s2.nx = st.nx + 1 := by omega
  have n1' : ¬ st.nx + 1 = s2.nx := by omega
  have n2 : ¬ m1 = s2.nx := by omega
  have n2' : ¬ s2.nx = m1 := by omega
  have hm1 : st.nx + 1 + 1 ≤ m1 := by
    obtain ⟨_, m', _, _, e, h2, _⟩ := hx
    rcases r1 with ⟨_, _, _, e'⟩ | ⟨_, _, _, e'⟩
    · rw [e] at e'; injection e'; omega
    · rw [e] at e'; cases e'
  have n3 : ¬ m1 = st.nx + 1 := by omega
  have n3' : ¬ st.nx + 1 = m1 := by omega
  have hx3 : ∀ b, Ext st.nx st ⟨s2.nx + 1, s2.h.set s2.nx b⟩ := fun b => x2.new (by omega) b
  have hy3 : ∀ b, RdRow ⟨s2.nx + 1, s2.h.set s2.nx b⟩ y 2 (getK (L.drop 8)).length (iw (getK (L.drop 8))) := fun b => hy.ext ((Ext.refl _ _).new (Nat.le_refl _) b)
  by_cases g1 : getOk (L.drop 8)
  · by_cases g2 : getN (L.drop 8) = wat L 0
    · simp [evOp_call, sets, T.get_set, tupK, putB_eq, storeK_g, roT, newC_is, kr2, kx2, d1, i1, loadE_eq, getC_eq, getsB_succ, getsB_zero, n1, n1', n2, n2', n3, n3', g1, g2]
      refine ⟨by kernel_rfl, ?_⟩
      exact bkQ.some ho ((hy3 _).setOther' st hyf (by omega) _) (hyf.mono (by omega)) (by rw [hun, if_neg c0, if_pos ⟨g1, g2⟩]) (getK_le4 _) (xset _ (hx3 _) (by show st.nx + 1 < s2.nx + 1; omega))
    · simp [evOp_call, sets, T.get_set, tupK, putB_eq, storeK_g, roT, newC_is, kr2, kx2, d1, i1, loadE_eq, getC_eq, getsB_succ, getsB_zero, n1, n1', n2, n2', n3, n3', g1, g2]
      refine ⟨by kernel_rfl, ?_⟩
      exact bkQ.none ho (by rw [hun, if_neg c0, if_neg (fun h => g2 h.2)]) (xset _ (hx3 _) (by show st.nx + 1 < s2.nx + 1; omega))
  · simp [evOp_call, sets, T.get_set, tupK, putB_eq, storeK_g, roT, newC_is, kr2, kx2, d1, i1, loadE_eq, getC_eq, getsB_succ, getsB_zero, n1, n1', n2, n2', n3, n3', g1]
    refine ⟨by kernel_rfl, ?_⟩
    exact bkQ.none ho (by rw [hun, if_neg c0, if_neg (fun h => g1 h.1)]) (xset _ (hx3 _) (by show st.nx + 1 < s2.nx + 1; omega))
end Go.Proofs.Ytdoennkmcloalaa

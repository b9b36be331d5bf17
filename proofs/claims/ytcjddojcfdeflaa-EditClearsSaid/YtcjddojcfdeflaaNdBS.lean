/-
  PLAIN: NdB, NdG, NdC, NdO, NdH, NdR, NdS, in one text.
-/
import Derived.Test.YtcjddojcfdeflaaNdPA
import Derived.Test.YtcjddojcfdeflaaEqW
import Derived.Test.YtcjddojcfdeflaaMid
import Derived.Test.YtcjddojcfdeflaaRdAG
import Derived.Test.YtcjddojcfdeflaaGmA
import Derived.Test.YtcjddojcfdeflaaEqS
import Derived.Test.YtcjddojcfdeflaaOpn6
import Derived.Test.YtcjddojcfdeflaaEc
import Derived.Test.YtcjddojcfdeflaaDrw
set_option linter.unusedSimpArgs false
namespace Go.Proofs.Ytcjddojcfdeflaa
open Go.RowKit Ev
theorem readR_succ {L : List (BitVec 64)} (h : L.length = 8) {k : Nat} (hk : k < 4) : readR L (k + 1) = readR L k ++ (if wat L (2 + k) = 0#64 then [] else [unR (wat L (2 + k))]) := by
  unfold readR
  have e : (L.drop 2)[k]? = some (wat L (2 + k)) := by rw [List.getElem?_drop]; exact wat_get (by omega)
  rw [List.take_add_one, e]
  simp only [Option.toList_some, List.filter_append, List.map_append]
  congr 1
  by_cases hw : wat L (2 + k) = 0#64
  · rw [if_pos hw, hw]; rfl
  · rw [if_neg hw, List.filter_cons_of_pos (by simpa using hw)]; rfl
theorem readR_le (L : List (BitVec 64)) (k : Nat) : (readR L k).length ≤ k := by
  unfold readR
  rw [List.length_map]
  exact Nat.le_trans (List.length_filter_le _ _) (by simp; omega)
theorem own_cap {b z n : Nat} {st : St} {x : V} {l : List V} (h : OwnRow b st x z n l) : CapOk x := by
  intro m o l' q e
  rcases h.2 with ⟨rfl, _⟩ | ⟨m', ty, t, rfl, _⟩
  · cases e
  · cases e
def nilV : V := .c (.slice none 0 0)
def noN : Nd := ⟨0, 0, 0, []⟩
def ndOf (L : List (BitVec 64)) : Nd := (getNd L).getD noN
@[simp] theorem blN3 (x0 x1 x2 : Operand) (a b d : V) (h : a.one = true) (h2 : b.one = true) (h3 : d.one = true) (st : St) : bldK Try.prog 33 [(0, x0), (1, x1), (2, x2)] [a, b, d] [.int .i64 0, .int .i64 0, .int .i64 0, .c (.slice none 0 0)] st = some (.g [a, b, d, .c (.slice none 0 0)], st) := by
  rw [bldK_ok so33, partsK_one rfl h (by simp), partsK_one rfl h2 (by simp), partsK_one rfl h3 (by simp)]; rfl
def ngV (L : List (BitVec 64)) (st : St) (r : V × St) : Prop := (∃ z, r.1 = .t [ndV (ndOf L) z, .bool (getNd L).isSome] ∧ RdRow r.2 z 2 (ndOf L).R.length (pairs (ndOf L).R) ∧ (∀ m, rowIn z m → st.nx ≤ m) ∧ CapOk z) ∧ Ext st.nx st r.2
def ngI (x v : V) (L : List (BitVec 64)) (q2 q4 b : Nat) (s0 : St) (e : Env) (s : St) : Prop := ∃ (k : Nat) (z : V), k ≤ 4 ∧ e.get 0 = some x ∧ e.get 2 = some (.p q2 0) ∧ e.get 4 = some (.p q4 0) ∧ e.get 27 = some v ∧ e.get 28 = some (.int .i64 4) ∧ e.get 29 = some (.int .i64 (k : Int)) ∧
  (∃ t2, s.h.get q2 = some (.cs 33 4 t2)) ∧ (∃ t, s.h.get q4 = some (.cs 33 4 t) ∧ t.get 0 = some (.int .i64 (readN L).t) ∧ t.get 1 = some (.int .i64 (readN L).l) ∧ t.get 2 = some (.int .i64 (readN L).s) ∧ t.get 3 = some z) ∧ OwnRow b s z 2 (readR L k).length (pairs (readR L k)) ∧ Ext s0.nx s0 s ∧ b ≤ s.nx
set_option maxRecDepth 20000 in
set_option maxHeartbeats 8000000 in
theorem nget_any (st : St) (x : V) (L : List (BitVec 64)) (hx : RdRow st x 1 L.length (wv L)) (hcap : CapOk x) (nt : Nat) :
    Gd (callL Try.prog ⟨false, [], 0, nt⟩ 31 [x] st) (ngV L st) := by
  rw [Gd_callL Try.func31 rfl]
  have none_ : getNd L = none → ∀ s : St, (∃ z, V.t [.g [.int .i64 0, .int .i64 0, .int .i64 0, .c (.slice none 0 0)], .bool false] = .t [ndV (ndOf L) z, .bool (getNd L).isSome] ∧ RdRow s z 2 (ndOf L).R.length (pairs (ndOf L).R) ∧ (∀ m, rowIn z m → st.nx ≤ m) ∧ CapOk z) := fun h s => ⟨.c (.slice none 0 0), by unfold ndOf; rw [h]; rfl, by unfold ndOf; rw [h]; exact (OwnRow.nil 0 _ 2).rd, fun m hm => (by rcases hm with ⟨_, _, _, e⟩ | ⟨_, _, _, e⟩ <;> cases e), fun _ _ _ _ e => (by cases e)⟩
  by_cases h8 : L.length = 8
  · have h8' : (L.length : Int) = 8 := by omega
    obtain ⟨m0, o0, ty0, sz0, t0, i0, b0, k0, l0, c0⟩ := hx.idx (st := st) un28 io39 (i := 0) (by omega)
    have d0 : t0.get o0 = some (wd (wat L 0)) := c0 0 _ (by omega) (by simpa using wv_get (wat_get (L := L) (i := 0) (by omega)))
    obtain ⟨m1, o1, ty1, sz1, t1, i1, b1, k1, l1, c1⟩ := hx.idx (st := st) un28 io39 (i := 1) (by omega)
    have d1 : t1.get o1 = some (wd (wat L 1)) := c1 0 _ (by omega) (by simpa using wv_get (wat_get (L := L) (i := 1) (by omega)))
    have n0 : ¬ st.nx = m0 := by omega
    have n1 : ¬ st.nx = m1 := by omega
    have q1 : ¬ st.nx + 1 = st.nx := by omega
    have e2 : ∀ v w, Ext st.nx st ⟨st.nx + 1 + 1, (st.h.set st.nx v).set (st.nx + 1) w⟩ := fun v w => (bx_ext st v).new (Nat.le_succ _) w
    simp [evOp_call, sets, T.get_set, newC_is, hx.lenS, h8']
    refine ⟨by kernel_rfl, ?_⟩
    simp [evOp_call, sets, T.get_set, newC_is, i0, i1, loadE_eq, getC_eq, k0, k1, d0, d1, n0, n1]
    rw [cxOf_store]
    rotate_left
    · kernel_rfl
    rw [forb_oneR (by kernel_rfl)]
    simp [evOp_call, sets, T.get_set, newC_is, storeK_g, putB_eq, roT]
    refine Gd_midR (i := .i64) (i2 := .i64) (k := 2) (k2 := 6) un28 io39 (hx.ext (e2 _ _)) hcap (by simp) (by simp) (by omega) (by omega) fun v hv => ?_
    have hv2 := hv _ (hx.ext (e2 (.cs 33 4 .lf) (.cs 33 4 .lf)))
    simp [evOp_call, sets, T.get_set, hv2.lenS]
    refine Gd_loop (ngI x v L st.nx (st.nx + 1) (st.nx + 1 + 1) st) (fun en _ => muAt 29 4 en) ?_ ?_
    · refine ⟨0, .c (.slice none 0 0), by omega, by simp [T.get_set], by simp [T.get_set], by simp [T.get_set], by simp [T.get_set], by simp [T.get_set], by simp [T.get_set], ⟨_, (T.get_set_ne _ _ q1).trans (T.get_set_same _ _ _)⟩, ⟨_, T.get_set_same _ _ _, by simp [T.get_set, readN], by simp [T.get_set, readN], by simp [T.get_set, readN], by simp [T.get_set]⟩, OwnRow.nil _ _ _, e2 _ _, Nat.le_refl _⟩
    · rintro en s ⟨k, z, hk, g0, g2, g4, g27, g28, g29, ⟨tz, kq2⟩, ⟨tq, kq4, tq0, tq1, tq2, tq3⟩, hz, hs, hbn⟩
      have hvs := hv s (hx.ext hs)
      have hne4 : ¬ s.nx = st.nx + 1 := by omega
      have hne2 : ¬ s.nx = st.nx := by omega
      by_cases hlt : k < 4
      · have hlt' : (k : Int) < 4 := by omega
        have hwk := wrap_nat (n := k) (by omega)
        have hsucc := readR_succ h8 hlt
        have hrl := readR_le L k
        obtain ⟨ma, oa, tya, sza, ta, ia, ba, ka, la, ca⟩ := hvs.idx (st := s) un28 io39 (i := k) (by omega)
        have da : ta.get oa = some (wd (wat L (2 + k))) := ca 0 _ (by omega) (by
          rw [Nat.mul_one, Nat.add_zero]
          refine wv_get ?_
          rw [List.getElem?_take, if_pos (by omega), List.getElem?_drop]
          exact wat_get (by omega))
        by_cases hw : wat L (2 + k) = 0#64
        · rw [if_pos hw, List.append_nil] at hsucc
          rw [← hsucc] at hz
          simp [evOp_call, T.get_set, g0, g2, g4, g27, g28, g29, hlt', ia, loadE_eq, getC_eq, ka, da, hw, hwk]
          exact ⟨⟨k + 1, z, by omega, by simp [T.get_set, g0], by simp [T.get_set, g2], by simp [T.get_set, g4], by simp [T.get_set, g27], by simp [T.get_set, g28], by simp [T.get_set], ⟨tz, kq2⟩, ⟨tq, kq4, tq0, tq1, tq2, tq3⟩, hz, hs, hbn⟩, muAt_lt g29 (by simp [T.get_set]) hlt⟩
        · rw [if_neg hw] at hsucc
          simp [evOp_call, T.get_set, g0, g2, g4, g27, g28, g29, hlt', ia, loadE_eq, getC_eq, ka, da, hw, kq4, tq3]
          refine evOp_build1 (v := .g [.int .i64 (unR (wat L (2 + k))).1, .int .i64 (unR (wat L (2 + k))).2]) (cs := [.int .i64 (unR (wat L (2 + k))).1, .int .i64 (unR (wat L (2 + k))).2]) (fun k => el31 k) (fun k => ze87 k) rfl (by omega) (by simp [T.get_set, unR]) (fun k => rfl) rfl ?_
          simp [evOp_call, T.get_set]
          have hext := fun v => (Ext.refl s.nx s).new (Nat.le_refl _) v
          refine Gd_append un31 un31 io87 (n := (readR L k).length) (lx := 1) (new := [.int .i64 (unR (wat L (2 + k))).1, .int .i64 (unR (wat L (2 + k))).2]) (hz.ext (hext _)) (by show st.nx + 1 + 1 ≤ s.nx + 1; omega) (by decide) (fun s' h => by cases h) (fun k => rfl) (fun k => by simp [getC_eq, getsB_2, T.get_set, sets]) rfl (by omega) ?_
          intro s' st' ho' he' _ _
          have kq4' : st'.h.get (st.nx + 1) = _ := (he'.keep _ (Nat.lt_succ_self _)).trans ((T.get_set_ne _ _ hne4).trans kq4)
          have kq2' : st'.h.get st.nx = _ := (he'.keep _ (by omega)).trans ((T.get_set_ne _ _ hne2).trans kq2)
          have hone' := ho'.rd.one
          have hle' : s.nx + 1 ≤ st'.nx := he'.le
          have hfr := AppRow.from (.inl ho')
          simp [evOp_call, T.get_set, g0, g2, g4, g27, g28, g29]
          rw [storeK_1 hone']
          simp [evOp_call, T.get_set, g0, g2, g4, g27, g28, g29, putB_eq, roT, kq4', sets, hwk]
          refine ⟨⟨k + 1, s', by omega, by simp [T.get_set, g0], by simp [T.get_set, g2], by simp [T.get_set, g4], by simp [T.get_set, g27], by simp [T.get_set, g28], by simp [T.get_set], ⟨tz, (T.get_set_ne _ _ q1).trans kq2'⟩, ⟨_, T.get_set_same _ _ _, by simp [T.get_set, tq0], by simp [T.get_set, tq1], by simp [T.get_set, tq2], by simp [T.get_set]⟩, ?_, ?_, by show st.nx + 1 + 1 ≤ st'.nx; omega⟩, muAt_lt g29 (by simp [T.get_set]) hlt⟩
          · rw [hsucc, pairs_app, List.length_append]
            exact OwnRow.setOther ho' (fun o l z e => by have := hfr.1 _ _ _ _ e; omega) _
          · exact ((hs.trans ((hext _).mono (by omega))).trans (he'.mono (by omega))).set (m := st.nx + 1) (by omega) (by omega) _
      · obtain rfl : k = 4 := by omega
        have hzr := hz.rd
        have hR : (readN L).R = readR L 4 := rfl
        have hrl := readR_le L 4
        simp [evOp_call, T.get_set, g0, g2, g4, g27, g28, g29, loadE_eq, getC_eq, getsB_succ, getsB_zero, kq4, tq0, tq1, tq2, tq3]
        refine Gd.mono (nput_any s (readN L) z (by rw [hR]; exact hzr) _) ?_
        rintro ⟨y, s1⟩ ⟨hy, _, x1⟩
        simp only at hy x1
        simp [evOp_call, T.get_set, g0, g2, g4]
        refine Gd.mono (eq_anyW s1 y x (putN (readN L)) L hy ((hx.ext hs).ext x1) (by rw [putN_len]; split <;> omega) _) ?_
        rintro _ rfl
        have l1 := x1.le
        have k2' : s1.h.get st.nx = _ := (x1.keep _ (by omega)).trans kq2
        have k4' : s1.h.get (st.nx + 1) = _ := (x1.keep _ (by omega)).trans kq4
        have hs1 : Ext st.nx st s1 := hs.trans (x1.mono (by omega))
        have hfin : ∀ v, Ext st.nx st ⟨s1.nx, s1.h.set st.nx v⟩ := fun v => hs1.set (m := st.nx) (Nat.le_refl _) (by omega) v
        by_cases heq : putN (readN L) = L
        · have hyes : getNd L = some (readN L) := by unfold getNd; rw [if_pos ⟨h8, heq⟩]
          simp [evOp_call, T.get_set, g0, g2, g4, heq, loadE_eq, getC_eq, getsB_succ, getsB_zero, k2', k4', tq0, tq1, tq2, tq3, storeK_g, putB_eq, roT, hzr.one, sets]
          have hfr := AppRow.from (.inl hz)
          refine ⟨⟨z, ?_, ?_, ?_, own_cap hz⟩, hfin _⟩
          · unfold ndOf; rw [hyes]; rfl
          rotate_left
          · rintro m (⟨o, l, q, e⟩ | ⟨o, l, q, e⟩)
            · have := hfr.2 _ _ _ _ e; omega
            · have := hfr.1 _ _ _ _ e; omega
          · unfold ndOf; rw [hyes]
            exact (OwnRow.setOther (hz.ext x1) (fun o l z e => by have := hfr.1 _ _ _ _ e; omega) _).rd
        · have hno : getNd L = none := by unfold getNd; rw [if_neg (fun h => heq h.2)]
          simp [evOp_call, T.get_set, g0, g2, g4, heq, loadE_eq, getC_eq, getsB_succ, getsB_zero, k2', storeK_g, putB_eq, roT, sets]
          exact ⟨none_ hno _, hfin _⟩
  · have h8' : ¬ (L.length : Int) = 8 := by omega
    have hno : getNd L = none := by unfold getNd; rw [if_neg (fun h => h8 h.1)]
    simp [evOp_call, sets, T.get_set, newC_is, hx.lenS, h8', storeK_g, putB_eq, roT, loadE_eq, getC_eq, getsB_succ, getsB_zero]
    exact ⟨none_ hno _, bx_ext st _⟩
end Go.Proofs.Ytcjddojcfdeflaa
set_option linter.unusedSimpArgs false
namespace Go.Proofs.Ytcjddojcfdeflaa
open Go.RowKit Ev
def sumN (R : List (Int × Int)) : Int := R.foldl (fun a r => IntKind.i64.wrap (a + r.2)) 0
theorem sumN_take {R : List (Int × Int)} {k : Nat} {r : Int × Int} (h : R[k]? = some r) : sumN (R.take (k + 1)) = IntKind.i64.wrap (sumN (R.take k) + r.2) := by
  unfold sumN; rw [List.take_add_one, h]; simp
def upDiv (s : Int) : Int := if s % 64 = 0 then s / 64 else s / 64 + 1
def needN (N : Nd) : Int := if N.s < 0 then 0 else if N.t = 1 ∨ N.t = 3 then upDiv N.s else if N.t = 2 then N.s else 0
def sizedN (g : Gm) (N : Nd) : Prop := if N.t = 2 then 0 ≤ N.s ∧ N.s ≤ min 4096 g.b else if N.t = 3 then 1 ≤ N.s ∧ N.s ≤ 400 else 0 ≤ N.s ∧ N.s ≤ 4096
instance (g : Gm) (N : Nd) : Decidable (sizedN g N) := by unfold sizedN; infer_instance
def inD (g : Gm) (r : Int × Int) : Prop := dF g ≤ r.1 ∧ 1 ≤ r.2 ∧ r.2 ≤ dN g ∧ r.1 ≤ dF g + dN g - r.2
instance (g : Gm) (r : Int × Int) : Decidable (inD g r) := by unfold inD; infer_instance
def hit (r o : Int × Int) : Prop := r.1 < o.1 + o.2 ∧ o.1 < r.1 + r.2
instance (r o : Int × Int) : Decidable (hit r o) := by unfold hit; infer_instance
def ra (R : List (Int × Int)) (i : Nat) : Int × Int := R[i]?.getD (0, 0)
theorem ra_get {R : List (Int × Int)} {i : Nat} (h : i < R.length) : R[i]? = some (ra R i) := by unfold ra; rw [List.getElem?_eq_getElem h]; rfl
def rowsOk (g : Gm) (R : List (Int × Int)) (n : Nat) : Prop := ∀ i, i < n → inD g (ra R i) ∧ ∀ k, k < i → ¬ hit (ra R i) (ra R k)
instance (g : Gm) (R : List (Int × Int)) (n : Nat) : Decidable (rowsOk g R n) := by unfold rowsOk; infer_instance
def placedN (g : Gm) (N : Nd) : Prop := N.R.length ≤ 4 ∧ ((N.t = 2 ∧ N.R = [(nF g + g.n, g.n)]) ∨ rowsOk g N.R N.R.length)
instance (g : Gm) (N : Nd) : Decidable (placedN g N) := by unfold placedN; infer_instance
def goodT (g : Gm) (N : Nd) : Prop := (1 ≤ N.t ∧ N.t ≤ 3) ∧ (1 ≤ N.l ∧ N.l ≤ 200) ∧ sizedN g N ∧ placedN g N ∧ sumN N.R = needN N
instance (g : Gm) (N : Nd) : Decidable (goodT g N) := by unfold goodT; infer_instance
def goodN (g : Gm) (N : Nd) : Prop := isGood g ∧ (if N.t = 0 then noneN N else goodT g N)
instance (g : Gm) (N : Nd) : Decidable (goodN g N) := by unfold goodN; split <;> infer_instance
theorem d_le {g : Gm} (h : isGood g) : 17 ≤ nF g ∧ nF g ≤ 1023 ∧ dF g = nF g + g.n + g.n ∧ dF g + dN g = g.b - 1 ∧ 1 ≤ dN g := by
  obtain ⟨h1, h2⟩ := h
  have hc := ck_le h1
  obtain ⟨a1, a2, a3, a4, a5, a6, a7, a8⟩ := h1
  unfold dN at h2
  unfold dN dF nF bN at *
  omega
theorem good_fits {g : Gm} {N : Nd} (h : goodN g N) : fitsN N := by
  obtain ⟨hg, h⟩ := h
  unfold fitsN
  by_cases ht : N.t = 0
  · rw [if_pos ht] at h ⊢; exact h
  · rw [if_neg ht] at h ⊢
    obtain ⟨h1, h2, h3, ⟨h4, h5⟩, _⟩ := h
    have hd := d_le hg
    have hb : g.b ≤ 1024 := hg.1.2.1
    have hn : 4 ≤ g.n ∧ g.n ≤ 64 := ⟨hg.1.2.2.1, hg.1.2.2.2.1⟩
    refine ⟨h1, ⟨by omega, by omega⟩, ?_, h4, ?_⟩
    · unfold sizedN at h3
      split at h3
      · omega
      · split at h3 <;> omega
    · intro r hr
      rcases h5 with ⟨_, h5⟩ | h5
      · rw [h5] at hr
        simp at hr
        subst hr
        exact ⟨⟨by show 0 ≤ nF g + g.n; omega, by show nF g + g.n ≤ 2147483648; omega⟩, by show 1 ≤ g.n; omega, by show g.n ≤ 2147483648; omega⟩
      · obtain ⟨i, hi⟩ := List.getElem?_of_mem hr
        have hlt := lt_of_get hi
        have := (h5 i hlt).1
        rw [ra_get hlt] at hi
        injection hi with hi
        rw [hi] at this
        obtain ⟨q1, q2, q3, q4⟩ := this
        exact ⟨⟨by omega, by omega⟩, q2, by omega⟩
def blI (st : St) (y : V) (R : List (Int × Int)) (e : Env) (s : St) : Prop := ∃ k : Nat, k ≤ R.length ∧ e.get 3 = some (.int .i64 (sumN (R.take k))) ∧ e.get 7 = some y ∧ e.get 8 = some (.int .i64 (R.length : Int)) ∧ e.get 9 = some (.int .i64 (k : Int)) ∧ Ext st.nx st s
set_option maxRecDepth 20000 in
set_option maxHeartbeats 4000000 in
theorem blocks_any (st : St) (fl : List (Nat × Nat)) (hfn : ∀ k, st.nx ≤ k → inF fl k = false) (N : Nd) (y : V) (hy : RdRow st y 2 N.R.length (pairs N.R)) (hK : N.R.length ≤ 1000000) (hfy : ∀ m, rowIn y m → inF fl m = false) (nt : Nat) :
    Gd (callL Try.prog ⟨false, fl, 0, nt⟩ 46 [ndV N y] st) fun r => r.1 = .int .i64 (sumN N.R) ∧ Ext st.nx st r.2 := by
  rw [Gd_callL Try.func46 rfl]
  have hcell : ∀ k : List V → Res, cellsOf (ndV N y) k = k [.int .i64 N.t, .int .i64 N.l, .int .i64 N.s, y] := fun k => rfl
  have f0 := hfn st.nx (Nat.le_refl _)
  simp [hcell, f0, evOp_call, sets, T.get_set, newC_is, loadE_eq, getC_eq, hy.lenS]
  refine Gd_loop (blI st y N.R) (fun en _ => muAt 9 N.R.length en) ?_ ?_
  · exact ⟨0, Nat.zero_le _, by simp [T.get_set, sumN], by simp [T.get_set], by simp [T.get_set], by simp [T.get_set], bx_ext st _⟩
  · rintro en s ⟨k, hk, g3, g7, g8, g9, hs⟩
    have hsn := hs.le
    by_cases hlt : k < N.R.length
    · have hlt' : (k : Int) < N.R.length := by omega
      have hwk := wrap_nat (n := k) (by omega)
      obtain ⟨m, o, ty, sz, tr, hid, hm, hg, ho, hc, hri⟩ := (hy.ext hs).idxB (st := s) un31 io87 hlt
      obtain ⟨⟨F, L⟩, hr⟩ : ∃ r, N.R[k]? = some r := ⟨_, List.getElem?_eq_getElem hlt⟩
      have hcl := pairs_at N.R k _ hr
      have t0 : tr.get o = some (.int .i64 F) := hc 0 _ (by omega) hcl.1
      have t1 : tr.get (o + 1) = some (.int .i64 L) := hc 1 _ (by omega) hcl.2
      have hne : ¬ s.nx = m := by omega
      have hext := fun v => (Ext.refl s.nx s).new (Nat.le_refl _) v
      have hfm := hfy m hri
      have hfs := hfn s.nx hsn
      simp [evOp_call, T.get_set, hfm, hfs, g3, g7, g8, g9, hlt', hid, loadE_eq, getC_eq, hg, getsB_2, t0, t1, newC_is, cellsOf, putB_eq, storeK_g, roT, sets, hne, hwk]
      exact ⟨⟨k + 1, hlt, by simp [T.get_set, sumN_take hr], by simp [T.get_set, g7], by simp [T.get_set, g8], by simp [T.get_set], hs.trans ((hext _).mono hsn)⟩, muAt_lt g9 (by simp [T.get_set]) hlt⟩
    · obtain rfl : k = N.R.length := by omega
      rw [List.take_length] at g3
      simp [evOp_call, T.get_set, g3, g7, g8, g9]
      exact hs
theorem needs_any (st : St) (N : Nd) (y : V) (hs : N.s ≤ 9223372036854775807) (nt : Nat) :
    Gd (callL Try.prog ⟨false, [], 0, nt⟩ 28 [ndV N y] st) fun r => r.1 = .int .i64 (needN N) ∧ Ext st.nx st r.2 := by
  rw [Gd_callL Try.func28 rfl]
  have hcell : ∀ k : List V → Res, cellsOf (ndV N y) k = k [.int .i64 N.t, .int .i64 N.l, .int .i64 N.s, y] := fun k => rfl
  unfold needN upDiv
  by_cases h0 : N.s < 0
  · simp [hcell, evOp_call, sets, T.get_set, newC_is, loadE_eq, getC_eq, h0]
    exact bx_ext st _
  · have hd : N.s.tdiv 64 = N.s / 64 := Int.tdiv_eq_ediv_of_nonneg (by omega)
    have hm : N.s.tmod 64 = N.s % 64 := Int.tmod_eq_emod_of_nonneg (by omega)
    have w1 : IntKind.i64.wrap (N.s / 64) = N.s / 64 := wrap_in (by omega) (by omega)
    have w2 : IntKind.i64.wrap (N.s / 64 + 1) = N.s / 64 + 1 := wrap_in (by omega) (by omega)
    have w3 : IntKind.i64.wrap (N.s % 64) = N.s % 64 := wrap_in (by omega) (by omega)
    by_cases t1 : N.t = 1
    · by_cases hz : N.s % 64 = 0
      · simp [hcell, evOp_call, sets, T.get_set, newC_is, loadE_eq, getC_eq, h0, t1, hd, hm, w1, w2, w3, hz]
        exact bx_ext st _
      · simp [hcell, evOp_call, sets, T.get_set, newC_is, loadE_eq, getC_eq, h0, t1, hd, hm, w1, w2, w3, hz]
        exact bx_ext st _
    · by_cases t3 : N.t = 3
      · by_cases hz : N.s % 64 = 0
        · simp [hcell, evOp_call, sets, T.get_set, newC_is, loadE_eq, getC_eq, h0, t1, t3, hd, hm, w1, w2, w3, hz]
          exact bx_ext st _
        · simp [hcell, evOp_call, sets, T.get_set, newC_is, loadE_eq, getC_eq, h0, t1, t3, hd, hm, w1, w2, w3, hz]
          exact bx_ext st _
      · by_cases t2 : N.t = 2
        · simp [hcell, evOp_call, sets, T.get_set, newC_is, loadE_eq, getC_eq, h0, t1, t3, t2]
          exact bx_ext st _
        · simp [hcell, evOp_call, sets, T.get_set, newC_is, loadE_eq, getC_eq, h0, t1, t3, t2]
          exact bx_ext st _
def ngV2 (g : Gm) (N : Nd) (y : V) (k : List V → Res) : Prop := cellsOf (gV g) k = k [.int .i64 g.b, .int .i64 g.n, .int .i64 g.c, .int .i64 g.k] ∧ cellsOf (ndV N y) k = k [.int .i64 N.t, .int .i64 N.l, .int .i64 N.s, y]
theorem sized_any (st : St) (g : Gm) (hb : g.b ≤ 1024) (N : Nd) (y : V) (nt : Nat) :
    Gd (callL Try.prog ⟨false, [], 0, nt⟩ 44 [gV g, ndV N y] st) fun r => r.1 = .bool (decide (sizedN g N)) ∧ Ext st.nx st r.2 := by
  rw [Gd_callL Try.func44 rfl]
  have hcell : ∀ k : List V → Res, cellsOf (ndV N y) k = k [.int .i64 N.t, .int .i64 N.l, .int .i64 N.s, y] := fun k => rfl
  have gcell : ∀ k : List V → Res, cellsOf (gV g) k = k [.int .i64 g.b, .int .i64 g.n, .int .i64 g.c, .int .i64 g.k] := fun k => rfl
  have e2 : ∀ v w, Ext st.nx st ⟨st.nx + 1 + 1, (st.h.set st.nx v).set (st.nx + 1) w⟩ := fun v w => (bx_ext st v).new (Nat.le_succ _) w
  have q1 : ¬ st.nx + 1 = st.nx := by omega
  unfold sizedN
  by_cases t2 : N.t = 2
  · have hb2 : g.b < 4096 := by omega
    have hb3 : min 4096 g.b = g.b := by omega
    simp [hcell, gcell, evOp_call, evOp_min, min_i64, sets, T.get_set, newC_is, loadE_eq, getC_eq, t2, q1, hb2]
    refine Gd.mono (betw_any _ _ _ _ _) ?_
    rintro _ rfl
    simp [T.get_set, hb3]
    exact e2 _ _
  · by_cases t3 : N.t = 3
    · simp [hcell, gcell, evOp_call, sets, T.get_set, newC_is, loadE_eq, getC_eq, t2, t3, q1]
      refine Gd.mono (betw_any _ _ _ _ _) ?_
      rintro _ rfl
      simp [T.get_set]
      exact e2 _ _
    · simp [hcell, gcell, evOp_call, sets, T.get_set, newC_is, loadE_eq, getC_eq, t2, t3, q1]
      refine Gd.mono (betw_any _ _ _ _ _) ?_
      rintro _ rfl
      simp [T.get_set]
      exact e2 _ _
theorem nlost_any (st : St) (fl : List (Nat × Nat)) (hfn : ∀ k, st.nx ≤ k → inF fl k = false) (g : Gm) (hg : isGood g) (nt : Nat) :
    Gd (callL Try.prog ⟨false, fl, 0, nt⟩ 59 [gV g] st) fun r => r.1 = .g [.int .i64 (nF g + g.n), .int .i64 g.n] ∧ Ext st.nx st r.2 := by
  rw [Gd_callL Try.func59 rfl]
  have gcell : ∀ k : List V → Res, cellsOf (gV g) k = k [.int .i64 g.b, .int .i64 g.n, .int .i64 g.c, .int .i64 g.k] := fun k => rfl
  have e2 : ∀ v w, Ext st.nx st ⟨st.nx + 1 + 1, (st.h.set st.nx v).set (st.nx + 1) w⟩ := fun v w => (bx_ext st v).new (Nat.le_succ _) w
  have q1 : ¬ st.nx + 1 = st.nx := by omega
  have gVg : V.g [V.int .i64 g.b, V.int .i64 g.n, V.int .i64 g.c, V.int .i64 g.k] = gV g := rfl
  have f0 := hfn st.nx (Nat.le_refl _)
  have f1 := hfn (st.nx + 1) (by omega)
  simp [gcell, f0, f1, evOp_call, sets, T.get_set, newC_is, loadE_eq, getC_eq, getsB_succ, getsB_zero, q1]
  rw [gVg]
  refine Gd.mono (glost_any _ fl (fun k hk => hfn k (by have : st.nx + 1 + 1 ≤ k := hk; omega)) 0 (Nat.zero_le _) g _) ?_
  rintro ⟨r, s1⟩ ⟨hr, x1⟩
  simp only at hr x1
  unfold at2 at hr
  rw [if_pos hg] at hr
  subst hr
  have l1 : st.nx + 1 + 1 ≤ s1.nx := x1.le
  have hs1 : Ext st.nx st s1 := (e2 _ _).trans (x1.mono (by show st.nx ≤ st.nx + 1 + 1; omega))
  have k1 : s1.h.get (st.nx + 1) = _ := (x1.keep _ (Nat.lt_succ_self _)).trans (T.get_set_same _ _ _)
  simp [evOp_call, sets, T.get_set, k1, f0, f1, storeK_g, putB_eq, roT, loadE_eq, getC_eq, getsB_succ, getsB_zero]
  exact hs1.set (by omega) (by omega) _
theorem eqlRun (st : St) (x y : Operand) (a c b d : Int) : binE Try.prog st .eql 87 x y (.g [.int .i64 a, .int .i64 b]) (.g [.int .i64 c, .int .i64 d]) = some (.bool (decide ((a, b) = (c, d))), st) := by
  have := eql_struct (st := st) (x := x) (y := y) (l := [.int .i64 a, .int .i64 b]) (l' := [.int .i64 c, .int .i64 d]) (xs := [.int .i64 a, .int .i64 b]) (ys := [.int .i64 c, .int .i64 d]) Try.underlying87 (by kernel_rfl) (by kernel_rfl) rfl rfl
    (.cons (.int (d := 9998) (by decide) Try.underlying3 rfl rfl) (.cons (.int (d := 9998) (by decide) Try.underlying3 rfl rfl) .nil))
  have he : ([a == c, b == d].all id) = decide ((a, b) = (c, d)) := by
    have h1 : (a == c) = decide (a = c) := by by_cases e : a = c <;> simp [e]
    have h2 : (b == d) = decide (b = d) := by by_cases e : b = d <;> simp [e]
    rw [h1, h2]; simp
  rw [he] at this
  exact this
def plO (q : Nat) (y : V) (g : Gm) (N : Nd) (s0 : St) (e : Env) (s : St) : Prop := ∃ k : Nat, k ≤ N.R.length ∧ e.get 3 = some (.p (q + 1) 0) ∧ e.get 5 = some (.int .i64 (dF g)) ∧ e.get 6 = some (.int .i64 (dN g)) ∧ e.get 39 = some y ∧ e.get 40 = some (.int .i64 (N.R.length : Int)) ∧ e.get 41 = some (.int .i64 (k : Int)) ∧
  (∃ t, s.h.get (q + 1) = some (.cs 33 4 t) ∧ t.get 3 = some y) ∧ rowsOk g N.R k ∧ Ext s0.nx s0 s ∧ q + 1 < s.nx
def plJ (q b8 k : Nat) (y v : V) (g : Gm) (N : Nd) (s0 : St) (e : Env) (s : St) : Prop := ∃ j : Nat, j ≤ k ∧ e.get 3 = some (.p (q + 1) 0) ∧ e.get 5 = some (.int .i64 (dF g)) ∧ e.get 6 = some (.int .i64 (dN g)) ∧ e.get 39 = some y ∧ e.get 40 = some (.int .i64 (N.R.length : Int)) ∧ e.get 41 = some (.int .i64 (k : Int)) ∧ e.get 8 = some (.p b8 0) ∧ e.get 75 = some v ∧ e.get 76 = some (.int .i64 (k : Int)) ∧ e.get 77 = some (.int .i64 (j : Int)) ∧
  (∃ t, s.h.get (q + 1) = some (.cs 33 4 t) ∧ t.get 3 = some y) ∧ (∃ t, s.h.get b8 = some (.cs 87 2 t) ∧ t.get 0 = some (.int .i64 (ra N.R k).1) ∧ t.get 1 = some (.int .i64 (ra N.R k).2)) ∧ (∀ i, i < j → ¬ hit (ra N.R k) (ra N.R i)) ∧ Ext s0.nx s0 s ∧ q + 1 < s.nx ∧ b8 < s.nx
theorem rowsOk_no {g : Gm} {R : List (Int × Int)} {n i : Nat} (h : i < n) (hb : ¬ inD g (ra R i) ∨ ∃ k, k < i ∧ hit (ra R i) (ra R k)) : ¬ rowsOk g R n := fun h2 => by
  obtain ⟨h3, h4⟩ := h2 i h
  rcases hb with hb | ⟨k, hk, hb⟩
  · exact hb h3
  · exact h4 k hk hb
set_option maxRecDepth 20000 in
set_option maxHeartbeats 16000000 in
theorem placed_any (st : St) (g : Gm) (hg : isGood g) (N : Nd) (y : V) (hy : RdRow st y 2 N.R.length (pairs N.R)) (hcap : CapOk y) (nt : Nat) :
    Gd (callL Try.prog ⟨false, [], 0, nt⟩ 45 [gV g, ndV N y] st) fun r => r.1 = .bool (decide (placedN g N)) ∧ Ext st.nx st r.2 := by
  rw [Gd_callL Try.func45 rfl]
  have hcell : ∀ k : List V → Res, cellsOf (ndV N y) k = k [.int .i64 N.t, .int .i64 N.l, .int .i64 N.s, y] := fun k => rfl
  have gcell : ∀ k : List V → Res, cellsOf (gV g) k = k [.int .i64 g.b, .int .i64 g.n, .int .i64 g.c, .int .i64 g.k] := fun k => rfl
  have gVg : V.g [V.int .i64 g.b, V.int .i64 g.n, V.int .i64 g.c, V.int .i64 g.k] = gV g := rfl
  have e2 : ∀ v w, Ext st.nx st ⟨st.nx + 1 + 1, (st.h.set st.nx v).set (st.nx + 1) w⟩ := fun v w => (bx_ext st v).new (Nat.le_succ _) w
  have q1 : ¬ st.nx + 1 = st.nx := by omega
  have hone := hy.one
  by_cases h4 : (4 : Int) < N.R.length
  · have hno : ¬ placedN g N := fun h => by have := h.1; omega
    simp [hcell, gcell, evOp_call, sets, T.get_set, newC_is, loadE_eq, getC_eq, q1, hy.lenS, h4, hno]
    exact e2 _ _
  · simp [hcell, gcell, evOp_call, sets, T.get_set, newC_is, loadE_eq, getC_eq, q1, hy.lenS, h4]
    refine ⟨by kernel_rfl, ?_⟩
    generalize hS : (⟨st.nx + 1 + 1, _⟩ : St) = s0
    have x0 : Ext st.nx st s0 := hS ▸ e2 _ _
    have n0 : st.nx + 1 < s0.nx := by rw [← hS]; exact Nat.lt_succ_self _
    have kG : s0.h.get st.nx = some (gB g) := by rw [← hS]; exact (T.get_set_ne _ _ q1).trans (T.get_set_same _ _ _)
    obtain ⟨tN, kN, tN0, tN3⟩ : ∃ t, s0.h.get (st.nx + 1) = some (.cs 33 4 t) ∧ t.get 0 = some (.int .i64 N.t) ∧ t.get 3 = some y := by rw [← hS]; exact ⟨_, T.get_set_same _ _ _, by simp [T.get_set], by simp [T.get_set]⟩
    clear hS
    unfold gB at kG
    have hys0 := hy.ext x0
    by_cases t2 : N.t = 2
    case' neg =>
      have hnl : ¬ (N.t = 2 ∧ N.R = [(nF g + g.n, g.n)]) := fun h => t2 h.1
      simp [evOp_call, sets, T.get_set, loadE_eq, getC_eq, getsB_succ, getsB_zero, kG, kN, tN0, tN3, t2]
      rw [gVg]
    case' pos =>
      by_cases l1 : N.R.length = 1
      case' neg =>
        have l1' : ¬ (N.R.length : Int) = 1 := by omega
        have hnl : ¬ (N.t = 2 ∧ N.R = [(nF g + g.n, g.n)]) := fun h => l1 (by rw [h.2]; rfl)
        simp [evOp_call, sets, T.get_set, loadE_eq, getC_eq, getsB_succ, getsB_zero, kG, kN, tN0, tN3, t2, hy.lenS, l1']
        rw [gVg]
      case' pos =>
        have l1' : (N.R.length : Int) = 1 := by omega
        obtain ⟨m, o, ty, sz, tr, hid, hm, hgm, ho, hc⟩ := hys0.idx (st := s0) un31 io87 (i := 0) (by omega)
        obtain ⟨⟨F, L⟩, hr⟩ : ∃ r, N.R[0]? = some r := ⟨_, List.getElem?_eq_getElem (by omega)⟩
        have hcl := pairs_at N.R 0 _ hr
        have c0 : tr.get o = some (.int .i64 F) := hc 0 _ (by omega) hcl.1
        have c1 : tr.get (o + 1) = some (.int .i64 L) := hc 1 _ (by omega) hcl.2
        have hRR : N.R = [(F, L)] := by
          match hR : N.R, l1 with
          | [a], _ => rw [hR] at hr; simp at hr; rw [hr]
        simp [evOp_call, sets, T.get_set, loadE_eq, getC_eq, getsB_succ, getsB_zero, kG, kN, tN0, tN3, t2, hy.lenS, l1', hid, hgm, c0, c1]
        rw [gVg]
        obtain ⟨l, hal, hfl⟩ : ∃ l, alive s0.h [(st.nx + 1, st.nx + 1 + 1), (m, m + 1)] = l ∧ ∀ k, s0.nx ≤ k → inF l k = false := by
          refine ⟨_, rfl, fun k hk => ?_⟩
          rw [alive_cons, alive_cons, alive_nil]
          split <;> split <;> first | rfl | (rw [inF_cons, if_neg (by omega)]; first | rfl | (rw [inF_cons, if_neg (by omega)]; rfl))
        rw [cxOf_callA _ l (by kernel_rfl) (by kernel_rfl) (looseW_at2 25 27 (.p (st.nx + 1) 3) (.p m o) (by simp [T.get_set]) (by simp [T.get_set]) (by kernel_rfl)) hal (fun x hx => by simp at hx; subst hx; rw [clashes_tmp']; simp [T.get_set, gV, blkOf])]
        simp only [forb_nil, List.append_nil]
        refine Gd.mono (nlost_any s0 _ hfl g hg _) ?_
        rintro ⟨r, s1⟩ ⟨hr, x1⟩
        simp only at hr x1
        subst hr
        simp [evOp_call, sets, T.get_set]
        rw [eqlRun]
        have kG' := (x1.keep _ (by omega)).trans kG
        have kN' := (x1.keep _ (by omega)).trans kN
        have x0' := x0.trans (x1.mono x0.le)
        have n0' : st.nx + 1 < s1.nx := Nat.lt_of_lt_of_le n0 x1.le
        by_cases heq : (F, L) = (nF g + g.n, g.n)
        · simp only [heq]
          have hyes : placedN g N := ⟨by omega, .inl ⟨t2, by rw [hRR, heq]⟩⟩
          simp [evOp_call, sets, T.get_set, hyes]
          exact x0'
        have hnl : ¬ (N.t = 2 ∧ N.R = [(nF g + g.n, g.n)]) := fun h => heq (by have := h.2; rw [hRR] at this; injection this)
        clear kG kN x0 n0 hys0 hid hgm hc
        revert kG' kN' x0' n0'
        generalize s1 = s0
        intro kG kN x0 n0
        have hys0 := hy.ext x0
        simp only [heq]
        simp [evOp_call, sets, T.get_set, loadE_eq, getC_eq, getsB_succ, getsB_zero, kG, kN, tN0, tN3]
        rw [gVg]
    all_goals
      have hP : ∀ n, ¬ rowsOk g N.R n → n ≤ N.R.length → ¬ placedN g N := fun n hn hle h => by
        rcases h.2 with h | h
        · exact hnl h
        · exact hn fun i hi => h i (by omega)
      have hD := d_le hg
      have hgb : g.b ≤ 1024 := hg.1.2.1
      have hgn : 4 ≤ g.n ∧ g.n ≤ 64 := ⟨hg.1.2.2.1, hg.1.2.2.2.1⟩
      have hwD : IntKind.i64.wrap (dF g + dN g) = g.b - 1 := by rw [hD.2.2.2.1]; exact wrap_in (by omega) (by omega)
      refine Gd.mono (gdata_any s0 [] (fun _ _ => rfl) 0 (Nat.zero_le _) g _) ?_
      rintro ⟨r, s1⟩ ⟨hr, x1⟩
      simp only at hr x1
      unfold at2 at hr
      rw [if_pos hg] at hr
      subst hr
      have kN1 := (x1.keep _ (by omega)).trans kN
      have hx1 := x0.trans (x1.mono x0.le)
      have n1 : st.nx + 1 < s1.nx := Nat.lt_of_lt_of_le n0 x1.le
      simp [evOp_call, sets, T.get_set, loadE_eq, getC_eq, kN1, tN3, hy.lenS]
      refine Gd_loop (plO st.nx y g N st) (fun en _ => muAt 41 N.R.length en) ?_ ?_
      · exact ⟨0, Nat.zero_le _, by simp [T.get_set], by simp [T.get_set], by simp [T.get_set], by simp [T.get_set], by simp [T.get_set], by simp [T.get_set], ⟨tN, kN1, tN3⟩, fun i hi => by omega, hx1, n1⟩
      · clear kN1 hx1 n1 x1
        rintro en s ⟨k, hk, g3, g5, g6, g39, g40, g41, ⟨tb, kb, tb3⟩, hok, hs, hns⟩
        have hsn := hs.le
        by_cases hlt : k < N.R.length
        · have hlt' : (k : Int) < N.R.length := by omega
          have hwk := wrap_nat (n := k) (by omega)
          have hys := hy.ext hs
          obtain ⟨m, o, ty, sz, tr, hid, hm, hgm, ho, hc⟩ := hys.idx (st := s) un31 io87 hlt
          have hrk := ra_get hlt
          obtain ⟨⟨F, L⟩, hFL⟩ : ∃ r, ra N.R k = r := ⟨_, rfl⟩
          rw [hFL] at hrk
          have hcl := pairs_at N.R k _ hrk
          have c0 : tr.get o = some (.int .i64 F) := hc 0 _ (by omega) hcl.1
          have c1 : tr.get (o + 1) = some (.int .i64 L) := hc 1 _ (by omega) hcl.2
          have hne : ¬ s.nx = m := by omega
          have hne1 : ¬ s.nx = st.nx + 1 := by omega
          have hext := fun v => (Ext.refl s.nx s).new (Nat.le_refl _) v
          have hse := fun v => hs.trans ((hext v).mono hsn)
          by_cases d1 : F < dF g
          · have hno : ¬ placedN g N := hP (k + 1) (rowsOk_no (Nat.lt_succ_self k) (.inl fun h => by rw [hFL] at h; have := h.1; dsimp only at this; omega)) (by omega)
            simp [evOp_call, T.get_set, g3, g5, g6, g39, g40, g41, hlt', hid, loadE_eq, getC_eq, hgm, getsB_2, c0, c1, newC_is, cellsOf, putB_eq, storeK_g, roT, sets, hne, d1, hno]
            exact hse _
          · by_cases d2 : L < 1
            · have hno : ¬ placedN g N := hP (k + 1) (rowsOk_no (Nat.lt_succ_self k) (.inl fun h => by rw [hFL] at h; have := h.2.1; dsimp only at this; omega)) (by omega)
              simp [evOp_call, T.get_set, g3, g5, g6, g39, g40, g41, hlt', hid, loadE_eq, getC_eq, hgm, getsB_2, c0, c1, newC_is, cellsOf, putB_eq, storeK_g, roT, sets, hne, d1, d2, hno]
              exact hse _
            · by_cases d3 : dN g < L
              · have hno : ¬ placedN g N := hP (k + 1) (rowsOk_no (Nat.lt_succ_self k) (.inl fun h => by rw [hFL] at h; have := h.2.2.1; dsimp only at this; omega)) (by omega)
                simp [evOp_call, T.get_set, g3, g5, g6, g39, g40, g41, hlt', hid, loadE_eq, getC_eq, hgm, getsB_2, c0, c1, newC_is, cellsOf, putB_eq, storeK_g, roT, sets, hne, d1, d2, d3, hno]
                exact hse _
              · have hwL : IntKind.i64.wrap (g.b - 1 - L) = g.b - 1 - L := wrap_in (by omega) (by omega)
                by_cases d4 : g.b - 1 - L < F
                · have hno : ¬ placedN g N := hP (k + 1) (rowsOk_no (Nat.lt_succ_self k) (.inl fun h => by rw [hFL] at h; have := h.2.2.2; dsimp only at this; omega)) (by omega)
                  simp [evOp_call, T.get_set, g3, g5, g6, g39, g40, g41, hlt', hid, loadE_eq, getC_eq, hgm, getsB_2, c0, c1, newC_is, cellsOf, putB_eq, storeK_g, roT, sets, hne, d1, d2, d3, hwD, hwL, d4, hno]
                  exact hse _
                · have hin : inD g (F, L) := ⟨by show dF g ≤ F; omega, by show 1 ≤ L; omega, by show L ≤ dN g; omega, by show F ≤ dF g + dN g - L; omega⟩
                  simp [evOp_call, T.get_set, g3, g5, g6, g39, g40, g41, hlt', hid, loadE_eq, getC_eq, hgm, getsB_2, c0, c1, newC_is, cellsOf, putB_eq, storeK_g, roT, sets, hne, d1, d2, d3, hwD, hwL, d4, hne1, kb, tb3]
                  refine Gd_headZ (i := .i64) (k := k) (z := 2) un31 io87 (hys.ext (hext _)) hcap (by simp [T.get_set]) hlt fun v hv => ?_
                  have hv0 := hv _ (hys.ext (hext (.cs 87 2 .lf)))
                  simp [evOp_call, T.get_set, hv0.lenS]
                  refine Gd_loop (plJ st.nx s.nx k y v g N st) (fun en _ => muAt 77 k en) ?_ ?_
                  · exact ⟨0, Nat.zero_le _, by simp [T.get_set, g3], by simp [T.get_set, g5], by simp [T.get_set, g6], by simp [T.get_set, g39], by simp [T.get_set, g40], by simp [T.get_set, g41], by simp [T.get_set], by simp [T.get_set], by simp [T.get_set], by simp [T.get_set], ⟨tb, (T.get_set_ne _ _ hne1).trans kb, tb3⟩, ⟨_, T.get_set_same _ _ _, by simp [T.get_set, hFL], by simp [T.get_set, hFL]⟩, fun i hi => by omega, hse _, by show st.nx + 1 < s.nx + 1; omega, Nat.lt_succ_self _⟩
                  · rintro en2 s2 ⟨j, hj, f3, f5, f6, f39, f40, f41, f8, f75, f76, f77, ⟨tb2, kb2, tb23⟩, ⟨tr2, kr2, tr20, tr21⟩, hnh, hs2, hn2, hb8⟩
                    rw [hFL] at tr20 tr21
                    by_cases hjk : j < k
                    · have hjk' : (j : Int) < k := by omega
                      have hwj := wrap_nat (n := j) (by omega)
                      have hvs := hv s2 (hy.ext hs2)
                      obtain ⟨m3, o3, ty3, sz3, tr3, hid3, hm3, hgm3, ho3, hc3⟩ := hvs.idx (st := s2) un31 io87 hjk
                      have hrj := ra_get (R := N.R) (i := j) (by omega)
                      obtain ⟨⟨F2, L2⟩, hFL2⟩ : ∃ r, ra N.R j = r := ⟨_, rfl⟩
                      rw [hFL2] at hrj
                      have hcl2 := pairs_at N.R j _ hrj
                      have e0 : tr3.get o3 = some (.int .i64 F2) := hc3 0 _ (by omega) (by rw [List.getElem?_take, if_pos (by omega)]; exact hcl2.1)
                      have e1 : tr3.get (o3 + 1) = some (.int .i64 L2) := hc3 1 _ (by omega) (by rw [List.getElem?_take, if_pos (by omega)]; exact hcl2.2)
                      have hin2 := (hok j hjk).1
                      rw [hFL2] at hin2
                      obtain ⟨i1, i2, i3, i4⟩ := hin2
                      dsimp only at i1 i2 i3 i4
                      have w1 : IntKind.i64.wrap (F2 + L2) = F2 + L2 := wrap_in (by omega) (by omega)
                      have w2 : IntKind.i64.wrap (F + L) = F + L := wrap_in (by omega) (by omega)
                      have hne3 : ¬ s2.nx = m3 := by omega
                      have hneb : ¬ s2.nx = s.nx := by omega
                      have hnen : ¬ s2.nx = st.nx + 1 := by omega
                      have hext2 := fun v => (Ext.refl s2.nx s2).new (Nat.le_refl _) v
                      have hse2 := fun v => hs2.trans ((hext2 v).mono hs2.le)
                      by_cases h1 : F < F2 + L2
                      · by_cases h2 : F2 < F + L
                        · have hno : ¬ placedN g N := hP (k + 1) (rowsOk_no (Nat.lt_succ_self k) (.inr ⟨j, hjk, by rw [hFL, hFL2]; exact ⟨h1, h2⟩⟩)) (by omega)
                          simp [evOp_call, T.get_set, f3, f5, f6, f39, f40, f41, f8, f75, f76, f77, hjk', hid3, loadE_eq, getC_eq, hgm3, getsB_2, e0, e1, newC_is, cellsOf, putB_eq, storeK_g, roT, sets, hne3, hneb, kr2, tr20, tr21, w1, w2, h1, h2, hno]
                          exact hse2 _
                        · simp [evOp_call, T.get_set, f3, f5, f6, f39, f40, f41, f8, f75, f76, f77, hjk', hid3, loadE_eq, getC_eq, hgm3, getsB_2, e0, e1, newC_is, cellsOf, putB_eq, storeK_g, roT, sets, hne3, hneb, kr2, tr20, tr21, w1, w2, h1, h2, hwj]
                          exact ⟨⟨j + 1, hjk, by simp [T.get_set, f3], by simp [T.get_set, f5], by simp [T.get_set, f6], by simp [T.get_set, f39], by simp [T.get_set, f40], by simp [T.get_set, f41], by simp [T.get_set, f8], by simp [T.get_set, f75], by simp [T.get_set, f76], by simp [T.get_set], ⟨tb2, (T.get_set_ne _ _ hnen).trans kb2, tb23⟩, ⟨tr2, (T.get_set_ne _ _ hneb).trans kr2, by rw [hFL]; exact tr20, by rw [hFL]; exact tr21⟩, fun i hi => by
                            rcases (by omega : i < j ∨ i = j) with hi | rfl
                            · exact hnh i hi
                            · rw [hFL, hFL2]; exact fun h => h2 h.2, hse2 _, by show st.nx + 1 < s2.nx + 1; omega, by show s.nx < s2.nx + 1; omega⟩, muAt_lt f77 (by simp [T.get_set]) hjk⟩
                      · simp [evOp_call, T.get_set, f3, f5, f6, f39, f40, f41, f8, f75, f76, f77, hjk', hid3, loadE_eq, getC_eq, hgm3, getsB_2, e0, e1, newC_is, cellsOf, putB_eq, storeK_g, roT, sets, hne3, hneb, kr2, tr20, tr21, w1, w2, h1, hwj]
                        exact ⟨⟨j + 1, hjk, by simp [T.get_set, f3], by simp [T.get_set, f5], by simp [T.get_set, f6], by simp [T.get_set, f39], by simp [T.get_set, f40], by simp [T.get_set, f41], by simp [T.get_set, f8], by simp [T.get_set, f75], by simp [T.get_set, f76], by simp [T.get_set], ⟨tb2, (T.get_set_ne _ _ hnen).trans kb2, tb23⟩, ⟨tr2, (T.get_set_ne _ _ hneb).trans kr2, by rw [hFL]; exact tr20, by rw [hFL]; exact tr21⟩, fun i hi => by
                          rcases (by omega : i < j ∨ i = j) with hi | rfl
                          · exact hnh i hi
                          · rw [hFL, hFL2]; exact fun h => h1 h.1, hse2 _, by show st.nx + 1 < s2.nx + 1; omega, by show s.nx < s2.nx + 1; omega⟩, muAt_lt f77 (by simp [T.get_set]) hjk⟩
                    · obtain rfl : j = k := by omega
                      simp [evOp_call, T.get_set, f3, f5, f6, f39, f40, f41, f8, f75, f76, f77, hwk]
                      refine ⟨⟨j + 1, hlt, by simp [T.get_set, f3], by simp [T.get_set, f5], by simp [T.get_set, f6], by simp [T.get_set, f39], by simp [T.get_set, f40], by simp [T.get_set], ⟨tb2, kb2, tb23⟩, fun i hi => ?_, hs2, hn2⟩, muAt_lt g41 (by simp [T.get_set]) hlt⟩
                      rcases (by omega : i < j ∨ i = j) with hi | rfl
                      · exact hok i hi
                      · exact ⟨by rw [hFL]; exact hin, hnh⟩
        · obtain rfl : k = N.R.length := by omega
          have hyes : placedN g N := ⟨by omega, .inr hok⟩
          simp [evOp_call, T.get_set, g3, g5, g6, g39, g40, g41, hyes]
          exact hs
end Go.Proofs.Ytcjddojcfdeflaa
set_option linter.unusedSimpArgs false
namespace Go.Proofs.Ytcjddojcfdeflaa
open Go.RowKit Ev
theorem pairs_take {K : List (Int × Int)} {j : Nat} {r : Int × Int} (h : K[j]? = some r) : pairs (K.take (j + 1)) = pairs (K.take j) ++ [.int .i64 r.1, .int .i64 r.2] := by
  rw [List.take_add_one, h, pairs_app]; rfl
theorem Nd.ext_iff (N M : Nd) : N = M ↔ N.t = M.t ∧ N.l = M.l ∧ N.s = M.s ∧ N.R = M.R := by
  cases N; cases M; simp
def ndsI (q : Nat) (a b : List (Int × Int)) (s0 : St) (e : Env) (s : St) : Prop := ∃ j, j ≤ a.length ∧ e.get 2 = some (.p q 0) ∧ e.get 3 = some (.p (q + 1) 0) ∧ e.get 5 = some (.int .i64 (j : Int)) ∧ a.take j = b.take j ∧ s = s0
def sameNdI (st : St) (x y : V) (n : Nat) (a b : List (BitVec 64)) (e : Env) (s : St) : Prop := ∃ j, j ≤ n ∧ e.get 0 = some x ∧ e.get 1 = some y ∧ e.get 5 = some (.int .i64 (j : Int)) ∧ a.take j = b.take j ∧ s = st
theorem sameNd_take {a b : List (BitVec 64)} {j : Nat} {p q : BitVec 64} (h : a.take j = b.take j) (ha : a[j]? = some p) (hb : b[j]? = some q) : a.take (j + 1) = b.take (j + 1) ↔ p = q := by
  rw [List.take_add_one, List.take_add_one, ha, hb, h]
  simp
end Go.Proofs.Ytcjddojcfdeflaa
set_option linter.unusedSimpArgs false
namespace Go.Proofs.Ytcjddojcfdeflaa
open Go.RowKit Ev
theorem namesOkN : Ev.namesOk Try.prog = true := by kernel_rfl
theorem mixesN : Try.prog.follows .mixedOrders = true := by kernel_rfl
theorem rel_ndV (ρ : Rho) (a b c : Int) (w : V) (x : Value) (R : List (Int × Int)) (h : Rel ρ w x) (hone : w.one = true) : Rel ρ (ndV ⟨a, b, c, R⟩ w) (.agg #[.int .i64 a, .int .i64 b, .int .i64 c, x]) := by
  unfold ndV
  simp only [Rel]
  exact ⟨_, rfl, .cons (rel_int _ _) (.cons (rel_int _ _) (.cons (rel_int _ _) (.cons h .nil))), by simp [hone]⟩
end Go.Proofs.Ytcjddojcfdeflaa
set_option linter.unusedSimpArgs false
namespace Go.Proofs.Ytcjddojcfdeflaa
open Go.RowKit Ev
set_option maxRecDepth 20000 in
set_option maxHeartbeats 8000000 in
theorem ngood_any (st : St) (g : Gm) (N : Nd) (y : V) (hy : RdRow st y 2 N.R.length (pairs N.R)) (hcap : CapOk y) (hs : N.s ≤ 9223372036854775807) (nt : Nat) :
    Gd (callL Try.prog ⟨false, [], 0, nt⟩ 18 [gV g, ndV N y] st) fun r => r.1 = .bool (decide (goodN g N)) ∧ Ext st.nx st r.2 := by
  rw [Gd_callL Try.func18 rfl]
  have hcell : ∀ k : List V → Res, cellsOf (ndV N y) k = k [.int .i64 N.t, .int .i64 N.l, .int .i64 N.s, y] := fun k => rfl
  have gcell : ∀ k : List V → Res, cellsOf (gV g) k = k [.int .i64 g.b, .int .i64 g.n, .int .i64 g.c, .int .i64 g.k] := fun k => rfl
  have gVg : V.g [V.int .i64 g.b, V.int .i64 g.n, V.int .i64 g.c, V.int .i64 g.k] = gV g := rfl
  have hnd : V.g [.int .i64 N.t, .int .i64 N.l, .int .i64 N.s, y] = ndV N y := rfl
  have e2 : ∀ v w, Ext st.nx st ⟨st.nx + 1 + 1, (st.h.set st.nx v).set (st.nx + 1) w⟩ := fun v w => (bx_ext st v).new (Nat.le_succ _) w
  have q1 : ¬ st.nx + 1 = st.nx := by omega
  simp [hcell, gcell, evOp_call, sets, T.get_set, newC_is, loadE_eq, getC_eq, getsB_succ, getsB_zero, q1]
  generalize hS : (⟨st.nx + 1 + 1, _⟩ : St) = s0
  have x0 : Ext st.nx st s0 := hS ▸ e2 _ _
  have n0 : st.nx + 1 < s0.nx := by rw [← hS]; exact Nat.lt_succ_self _
  have kG : s0.h.get st.nx = some (gB g) := by rw [← hS]; exact (T.get_set_ne _ _ q1).trans (T.get_set_same _ _ _)
  have kN : s0.h.get (st.nx + 1) = some (.cs 33 4 ((((T.lf.set 0 (.int .i64 N.t)).set 1 (.int .i64 N.l)).set 2 (.int .i64 N.s)).set 3 y)) := by rw [← hS]; exact T.get_set_same _ _ _
  clear hS
  unfold gB at kG
  rw [gVg]
  refine Gd.mono (good_any _ [] (fun _ _ => rfl) 0 (Nat.zero_le _) g _) ?_
  rintro ⟨r, s1⟩ ⟨hr, x1⟩
  simp only at hr x1
  subst hr
  have y1 := x0.trans (x1.mono x0.le)
  have n1 : st.nx + 1 < s1.nx := Nat.lt_of_lt_of_le n0 x1.le
  have kG1 := (x1.keep _ (by omega)).trans kG
  have kN1 := (x1.keep _ (by omega)).trans kN
  by_cases hg : isGood g
  · by_cases ht : N.t = 0
    · have hG : goodN g N ↔ noneN N := by unfold goodN; rw [if_pos ht]; exact ⟨fun h => h.2, fun h => ⟨hg, h⟩⟩
      have hnd0 : V.g [.int .i64 0, .int .i64 N.l, .int .i64 N.s, y] = ndV N y := by unfold ndV; rw [ht]
      simp [evOp_call, T.get_set, hg, loadE_eq, getC_eq, getsB_succ, getsB_zero, kN1, ht]
      rw [hnd0]
      refine Gd.mono (noth_any _ [] (fun _ _ => rfl) 0 N y (fun s => hy.lenS s) _) ?_
      rintro ⟨r, s2⟩ ⟨hr, x2⟩
      simp only at hr x2
      subst hr
      simp [T.get_set, hG]
      exact y1.trans (x2.mono y1.le)
    · have hG : goodN g N ↔ goodT g N := by unfold goodN; rw [if_neg ht]; exact ⟨fun h => h.2, fun h => ⟨hg, h⟩⟩
      simp [evOp_call, T.get_set, hg, loadE_eq, getC_eq, getsB_succ, getsB_zero, kN1, kG1, ht]
      refine ⟨by kernel_rfl, ?_⟩
      refine Gd.mono (betw_any _ _ _ _ _) ?_
      rintro _ rfl
      by_cases c1 : 1 ≤ N.t ∧ N.t ≤ 3
      · simp [evOp_call, T.get_set, hg, loadE_eq, getC_eq, getsB_succ, getsB_zero, kN1, kG1, ht, c1]
        refine Gd.mono (betw_any _ _ _ _ _) ?_
        rintro _ rfl
        by_cases c2 : 1 ≤ N.l ∧ N.l ≤ 200
        · simp [evOp_call, T.get_set, hg, loadE_eq, getC_eq, getsB_succ, getsB_zero, kN1, kG1, ht, c1, c2]
          rw [gVg, hnd, cxOf_call (by kernel_rfl) (by kernel_rfl), forb_nil]
          refine Gd.mono (sized_any s1 g hg.1.2.1 N y _) ?_
          rintro ⟨r, s2⟩ ⟨hr, x2⟩
          simp only at hr x2
          subst hr
          have y2 := y1.trans (x2.mono y1.le)
          have n2 : st.nx + 1 < s2.nx := Nat.lt_of_lt_of_le n1 x2.le
          have kG2 := (x2.keep _ (by omega)).trans kG1
          have kN2 := (x2.keep _ (by omega)).trans kN1
          by_cases c3 : sizedN g N
          · have l2G : ∀ (b i nx' : Nat), inF ((0, st.nx) :: (st.nx + 1, nx') :: forb b (rsOf [] i s1.nx s2.nx) []) st.nx = false := fun b i nx' => inF_ld (by omega)
            have l2N : ∀ (b i nx' : Nat), inF ((0, st.nx + 1) :: (st.nx + 1 + 1, nx') :: forb b (rsOf [] i s1.nx s2.nx) []) (st.nx + 1) = false := fun b i nx' => inF_ld (by omega)
            simp [evOp_call, T.get_set, loadE_eq, getC_eq, getsB_succ, getsB_zero, kN2, kG2, c3, l2G, l2N]
            rw [gVg, hnd, cxOf_call (by kernel_rfl) (by kernel_rfl), forb_step (by kernel_rfl) rfl]
            refine Gd.mono (placed_any s2 g hg N y (hy.ext y2) hcap _) ?_
            rintro ⟨r, s3⟩ ⟨hr, x3⟩
            simp only at hr x3
            subst hr
            have y3 := y2.trans (x3.mono y2.le)
            have n3 : st.nx + 1 < s3.nx := Nat.lt_of_lt_of_le n2 x3.le
            have kN3 := (x3.keep _ (by omega)).trans kN2
            by_cases c4 : placedN g N
            · have r3 : ∀ i j : Nat, ∀ e ∈ rsOf (rsOf [] i s1.nx s2.nx) j s2.nx s3.nx, st.nx + 1 < e.2.1 := fun i j => rsOf_lt (rsOf_lt (fun e h => by cases h) n1) n2
              have l3N : ∀ (b i j nx' : Nat), inF ((0, st.nx + 1) :: (st.nx + 1 + 1, nx') :: forb b (rsOf (rsOf [] i s1.nx s2.nx) j s2.nx s3.nx) []) (st.nx + 1) = false := fun b i j nx' => inF_lds (r3 i j)
              simp [evOp_call, T.get_set, loadE_eq, getC_eq, getsB_succ, getsB_zero, kN3, c4, l3N]
              rw [hnd]
              rw [cxOf_callL [(st.nx + 1, st.nx + 1 + 1)] (by kernel_rfl) (by kernel_rfl) (looseW_at 3 (.p (st.nx + 1) 0) (by simp [T.get_set]) (by kernel_rfl)) (fun x hx => by simp at hx; subst hx; simp [clashes_tmp, T.get_set, ndV, blkOf]) (fun p hp => by simp at hp; subst hp; rw [isRo_cs kN3]; decide), forb_step (by kernel_rfl) (forb_step (by kernel_rfl) rfl)]
              simp only [List.append_nil]
              refine Gd.mono (blocks_any s3 _ (fun k hk => by rw [inF_cons, if_neg (by omega)]; rfl) N y (hy.ext y3) (by have := c4.1; omega) (fun m hm => ?_) _) ?_
              · have : m < st.nx := by
                  rcases hm with ⟨o, l, q, e⟩ | ⟨o, l, q, e⟩
                  · exact hy.lt_of.2 _ _ _ _ e
                  · exact hy.lt_of.1 _ _ _ _ e
                rw [inF_cons, if_neg (by omega)]; rfl
              rintro ⟨r, s4⟩ ⟨hr, x4⟩
              simp only at hr x4
              subst hr
              have y4 := y3.trans (x4.mono y3.le)
              have n4 : st.nx + 1 < s4.nx := Nat.lt_of_lt_of_le n3 x4.le
              have kN4 := (x4.keep _ (by omega)).trans kN3
              have r4 : ∀ i j k : Nat, ∀ e ∈ rsOf (rsOf (rsOf [] i s1.nx s2.nx) j s2.nx s3.nx) k s3.nx s4.nx, st.nx + 1 < e.2.1 := fun i j k => rsOf_lt (r3 i j) n3
              have l4N : ∀ (b i j k nx' : Nat), inF ((0, st.nx + 1) :: (st.nx + 1 + 1, nx') :: forb b (rsOf (rsOf (rsOf [] i s1.nx s2.nx) j s2.nx s3.nx) k s3.nx s4.nx) []) (st.nx + 1) = false := fun b i j k nx' => inF_lds (r4 i j k)
              simp [evOp_call, T.get_set, loadE_eq, getC_eq, getsB_succ, getsB_zero, kN4, l4N]
              rw [hnd, cxOf_call (by kernel_rfl) (by kernel_rfl), forb_step (by kernel_rfl) (forb_step (by kernel_rfl) (forb_step (by kernel_rfl) rfl))]
              refine Gd.mono (needs_any s4 N y hs _) ?_
              rintro ⟨r, s5⟩ ⟨hr, x5⟩
              simp only at hr x5
              subst hr
              have y5 := y4.trans (x5.mono y4.le)
              have hfin : goodT g N ↔ sumN N.R = needN N := ⟨fun h => h.2.2.2.2, fun h => ⟨c1, c2, c3, c4, h⟩⟩
              simp [evOp_call, T.get_set, hG, hfin]
              exact y5
            · have hno : ¬ goodT g N := fun h => c4 h.2.2.2.1
              simp [evOp_call, T.get_set, c4, hG, hno]
              exact y3
          · have hno : ¬ goodT g N := fun h => c3 h.2.2.1
            simp [evOp_call, T.get_set, c3, hG, hno]
            exact y2
        · have hno : ¬ goodT g N := fun h => c2 h.2.1
          simp [evOp_call, T.get_set, c1, c2, hG, hno]
          exact y1
      · have hno : ¬ goodT g N := fun h => c1 h.1
        simp [evOp_call, T.get_set, hg, loadE_eq, getC_eq, getsB_succ, getsB_zero, kN1, kG1, ht, c1, hG, hno]
        exact y1
  · have hG : ¬ goodN g N := fun h => hg h.1
    simp [evOp_call, T.get_set, hg, hG]
    exact y1
end Go.Proofs.Ytcjddojcfdeflaa
set_option linter.unusedSimpArgs false
namespace Go.Proofs.Ytcjddojcfdeflaa
open Go.RowKit Ev
def zeroN (N : Nd) : Bool := decide (N.t = 0 ∧ N.l = 0 ∧ N.s = 0 ∧ N.R.length = 0)
end Go.Proofs.Ytcjddojcfdeflaa
set_option linter.unusedSimpArgs false
namespace Go.Proofs.Ytcjddojcfdeflaa
open Go.RowKit Ev
theorem putN_bad' {N : Nd} (h : ¬ fitsN N) : putN N = [] := by unfold putN; rw [if_neg h]
def run7 (N : Nd) (k : Nat) : List (BitVec 64) := (runsN N k).take 7
theorem run7_succ (N : Nd) {k : Nat} : run7 N (k + 1) = (run7 N k).set (2 + k) (pkR (N.R[k]?.getD (0, 0))) := by
  unfold run7
  show ((runsN N k).set (2 + k) _).take 7 = _
  rw [List.take_set]
theorem run7_zero (N : Nd) : run7 N 0 = [pkH N, BitVec.ofInt 64 N.s, 0#64, 0#64, 0#64, 0#64, 0#64] := rfl
theorem run7_length (N : Nd) (k : Nat) : (run7 N k).length = 7 := by unfold run7; rw [List.length_take, runsN_length]; rfl
theorem body7 (N : Nd) (v : BitVec 64) : (bodyN N).set 7 v = run7 N N.R.length ++ [v] := by
  unfold run7
  have h := runsN_length N N.R.length
  show (runsN N N.R.length).set 7 v = _
  rw [List.set_eq_take_append_cons_drop, if_pos (by omega), List.drop_eq_nil_of_le (by omega)]
end Go.Proofs.Ytcjddojcfdeflaa

/-
  Contracts of the document's own line (for seats with pmem's texts).
-/
import Derived.Test.YtenncnbaoejekaaMmG
set_option linter.unusedSimpArgs false
namespace Go.Proofs.Ytenncnbaoejekaa
open Go.RowKit Ev
/-- cut from k on: any row but one of a fixed length -/
theorem Gd_slice_loR {P : Program} {c : Cx} {e : Env} {st : St} {t el z n k : Nat} {i : IntKind} {y : V} {l : List V} {x : Operand} {Q : V × St → Prop} (hu : P.underlying t = some (.slice el)) (hi : infoOk P el z = true) (h : RdRow st y z n l) (hsl : ∀ m o l q, y ≠ .sl m o l q) (hv : opv e x = some (.int i (k : Int))) (hk : k ≤ n)
    (hQ : ∀ y', RdRow st y' z (n - k) (l.drop (k * z)) → (∀ q, Nm y' q → Nm y q) → (∀ m o l q, y' ≠ .sl m o l q) → Q (y', st)) : Gd (sliceK P c e st t y (some x) none) Q := by
  have hlen := h.1
  obtain ⟨g1, g2⟩ := h
  unfold sliceK
  rcases g2 with ⟨rfl | rfl, rfl⟩ | ⟨m, o, q, ty, sz, tr, rfl, _⟩ | ⟨m, o, ty, sz, tr, rfl, g3, g4, g5, g6⟩
  · obtain rfl : k = 0 := by omega
    rw [sliceE_nil_lo hu hi hv]
    have hl : l = [] := List.length_eq_zero_iff.1 (by omega)
    subst hl
    exact ⟨_, rfl, hQ _ ⟨by simp, .inl ⟨.inl rfl, rfl⟩⟩ (fun q hq => hq) (fun _ _ _ _ e => by cases e)⟩
  · obtain rfl : k = 0 := by omega
    have h1 : sliceE P e t .e (some x) none (fun a => (some (a, st) : Res)) = none := by
      unfold sliceE; rw [hu]
    have hb : ∀ f : Nat → Res, bnd e 0 (some x) f = f 0 := fun f => by
      show opd e x (fun v => asNat v f) = _
      rw [opd_bind, show opd e x some = opv e x from rfl, hv]; rfl
    have h2 : sliceG P c st e t .e (some x) none = some (.e, st) := by
      unfold sliceG
      rw [hu]
      simp only [infoOk_sz hi, hb]
      rfl
    rw [h1, h2]
    have hl : l = [] := List.length_eq_zero_iff.1 (by omega)
    subst hl
    exact ⟨_, rfl, hQ _ ⟨by simp, .inl ⟨.inr rfl, rfl⟩⟩ (fun q hq => hq) (fun _ _ _ _ e => by cases e)⟩
  · exact absurd rfl (hsl m o n q)
  · rw [sliceE_lo hu hi hv _ _ _ hk]
    refine ⟨_, rfl, ?_⟩
    by_cases hkn : k = n ∧ k ≠ 0
    · rw [if_pos hkn]
      obtain ⟨rfl, _⟩ := hkn
      exact hQ _ ⟨by rw [List.length_drop, g1, Nat.sub_self, Nat.sub_self]; simp, .inl ⟨.inr rfl, Nat.sub_self _⟩⟩ (fun q hq => by rcases hq with ⟨_, _, _, e⟩ | ⟨_, _, _, e⟩ <;> cases e) (fun _ _ _ _ e => by cases e)
    · rw [if_neg hkn]
      refine hQ _ ⟨by rw [List.length_drop, g1, Nat.sub_mul], .inr (.inr ⟨m, o + k * z, ty, sz, tr, rfl, g3, g4, ?_, fun j v hj => ?_⟩)⟩ (fun q hq => ?_) (fun _ _ _ _ e => by cases e)
      · have : k * z + (n - k) * z = n * z := by rw [← Nat.add_mul]; congr 1; omega
        omega
      · rw [List.getElem?_drop] at hj
        rw [Nat.add_assoc]; exact g6 _ _ hj
      · rcases hq with ⟨o', l', z', e⟩ | ⟨o', l', q', e⟩ <;> cases e
        exact .inl ⟨_, _, _, rfl⟩
def rcells : List (Int × BitVec 64) → Nat → List V
  | [], _ => []
  | r :: O, f => .int .i64 r.1 :: wd r.2 :: .bool (decide (0 < f)) :: rcells O (f - 1)
theorem rcells_length : ∀ (O : List (Int × BitVec 64)) (f : Nat), (rcells O f).length = O.length * 3
  | [], _ => rfl
  | r :: O, f => by
    show (rcells O (f - 1)).length + 1 + 1 + 1 = (O.length + 1) * 3
    rw [rcells_length O]; omega
theorem rcells_at : ∀ (O : List (Int × BitVec 64)) (f i : Nat) (r : Int × BitVec 64), O[i]? = some r → (rcells O f)[i * 3 + 0]? = some (.int .i64 r.1) ∧ (rcells O f)[i * 3 + 1]? = some (wd r.2) ∧ (rcells O f)[i * 3 + 2]? = some (.bool (decide (i < f)))
  | [], _, i, r, h => by simp at h
  | q :: O, f, 0, r, h => by simp at h; subst h; exact ⟨rfl, rfl, rfl⟩
  | q :: O, f, i + 1, r, h => by
    have := rcells_at O (f - 1) i r (by simpa using h)
    rw [show rcells (q :: O) f = .int .i64 q.1 :: wd q.2 :: .bool (decide (0 < f)) :: rcells O (f - 1) from rfl, show (i + 1) * 3 + 0 = i * 3 + 0 + 1 + 1 + 1 by omega, show (i + 1) * 3 + 1 = i * 3 + 1 + 1 + 1 + 1 by omega, show (i + 1) * 3 + 2 = i * 3 + 2 + 1 + 1 + 1 by omega]
    have hd : decide (i + 1 < f) = decide (i < f - 1) := by rw [decide_eq_decide]; omega
    rw [hd]; exact this
theorem rcells_snoc : ∀ (O : List (Int × BitVec 64)) (f : Nat) (r : Int × BitVec 64), rcells (O ++ [r]) f = rcells O f ++ [.int .i64 r.1, wd r.2, .bool (decide (O.length < f))]
  | [], f, r => rfl
  | q :: O, f, r => by
    show _ :: _ :: _ :: rcells (O ++ [r]) (f - 1) = _ :: _ :: _ :: (rcells O (f - 1) ++ _)
    rw [rcells_snoc O]
    have hd : decide ((q :: O).length < f) = decide (O.length < f - 1) := by rw [decide_eq_decide, List.length_cons]; omega
    rw [hd]
theorem rcells_drop : ∀ (O : List (Int × BitVec 64)) (f k : Nat), (rcells O f).drop (k * 3) = rcells (O.drop k) (f - k)
  | [], f, k => by simp [rcells]
  | r :: O, f, 0 => by simp
  | r :: O, f, k + 1 => by
    rw [show rcells (r :: O) f = .int .i64 r.1 :: wd r.2 :: .bool (decide (0 < f)) :: rcells O (f - 1) from rfl, show (k + 1) * 3 = k * 3 + 1 + 1 + 1 by omega, List.drop_succ_cons, List.drop_succ_cons, List.drop_succ_cons, rcells_drop O (f - 1) k, List.drop_succ_cons]
    congr 1; omega
theorem rcells_all : ∀ (O : List (Int × BitVec 64)) (f g : Nat), O.length ≤ f → O.length ≤ g → rcells O f = rcells O g
  | [], _, _, _, _ => rfl
  | r :: O, f, g, h1, h2 => by
    have e1 : decide (0 < f) = true := by simp at h1; simp; omega
    have e2 : decide (0 < g) = true := by simp at h2; simp; omega
    show _ :: _ :: _ :: rcells O (f - 1) = _ :: _ :: _ :: rcells O (g - 1)
    rw [e1, e2, rcells_all O (f - 1) (g - 1) (by simp at h1; omega) (by simp at h2; omega)]
structure RefAt (st : St) (n : Nat) (ys yo : V) (m : LM) (f : Nat) : Prop where
  ls : m.S.length = 8
  lt : n < st.nx
  a1 : ¬ Nm ys n
  a2 : ¬ Nm yo n
  a3 : ∀ m o l q, yo ≠ .sl m o l q
  small : m.O.length ≤ 1000
  oks : ∀ r ∈ m.O, 0 ≤ r.1 ∧ r.1 < 8
  blk : ∃ t, st.h.get n = some (.cs 211 2 t) ∧ t.get 0 = some ys ∧ t.get 1 = some yo
  sr : RdRow st ys 1 8 (wv m.S)
  orow : RdRow st yo 3 m.O.length (rcells m.O f)
def ROw (n : Nat) (ys yo : V) (k : Nat) : Prop := k = n ∨ Nm ys k ∨ Nm yo k
theorem RefAt.own_lt {st : St} {n f : Nat} {ys yo : V} {m : LM} (h : RefAt st n ys yo m f) {k : Nat} (hk : ROw n ys yo k) : k < st.nx := by
  rcases hk with rfl | hk | hk
  · exact h.lt
  · exact h.sr.nm_lt hk
  · exact h.orow.nm_lt hk
theorem RefAt.other {st st' : St} {n f : Nat} {ys yo : V} {m : LM} (h : RefAt st n ys yo m f) (hle : st.nx ≤ st'.nx) (k : ∀ q, ROw n ys yo q → st'.h.get q = st.h.get q) : RefAt st' n ys yo m f := by
  obtain ⟨t, h1, h2⟩ := h.blk
  exact ⟨h.ls, Nat.lt_of_lt_of_le h.lt hle, h.a1, h.a2, h.a3, h.small, h.oks, ⟨t, by rw [k n (.inl rfl)]; exact h1, h2⟩, h.sr.other hle fun q hq => k q (.inr (.inl hq)), h.orow.other hle fun q hq => k q (.inr (.inr hq))⟩
structure RKept (n : Nat) (st st' : St) : Prop where
  le : st.nx ≤ st'.nx
  wf : Wf st → Wf st'
  keep : ∀ k, k < st.nx → k ≠ n → st'.h.get k = st.h.get k
theorem RKept.refl (n : Nat) (st : St) : RKept n st st := ⟨Nat.le_refl _, fun h => h, fun _ _ _ => rfl⟩
theorem RKept.trans {n : Nat} {s1 s2 s3 : St} (h : RKept n s1 s2) (k : RKept n s2 s3) : RKept n s1 s3 := ⟨Nat.le_trans h.le k.le, fun w => k.wf (h.wf w), fun q hq hn => (k.keep q (Nat.lt_of_lt_of_le hq h.le) hn).trans (h.keep q hq hn)⟩
theorem RKept.ofExt {n : Nat} {s1 s2 : St} (h : Ext s1.nx s1 s2) : RKept n s1 s2 := ⟨h.le, h.wf, fun q hq _ => h.keep q hq⟩
theorem RKept.ext {n b : Nat} {s s' : St} (h : RKept n s s') (hb : b ≤ s.nx) (hn : b ≤ n) : Ext b s s' := ⟨h.le, h.wf, fun q hq => h.keep q (by omega) (by omega)⟩
/-- the struct's cells are written anew -/
theorem RefAt.set {st : St} {n f f' : Nat} {ys yo ys' yo' : V} {m m' : LM} (h : RefAt st n ys yo m f) {t' : T V} (k1 : t'.get 0 = some ys') (k2 : t'.get 1 = some yo') (a1 : ¬ Nm ys' n) (a2 : ¬ Nm yo' n) (a3 : ∀ m o l q, yo' ≠ .sl m o l q) (hl : m'.S.length = 8) (hs : m'.O.length ≤ 1000) (ho : ∀ r ∈ m'.O, 0 ≤ r.1 ∧ r.1 < 8)
    (r1 : RdRow st ys' 1 8 (wv m'.S)) (r2 : RdRow st yo' 3 m'.O.length (rcells m'.O f')) : RefAt ⟨st.nx, st.h.set n (.cs 211 2 t')⟩ n ys' yo' m' f' ∧ RKept n st ⟨st.nx, st.h.set n (.cs 211 2 t')⟩ := by
  refine ⟨⟨hl, h.lt, a1, a2, a3, hs, ho, ⟨t', T.get_set_same _ _ _, k1, k2⟩, r1.other (Nat.le_refl _) fun q hq => T.get_set_ne _ _ fun e => a1 (e ▸ hq), r2.other (Nat.le_refl _) fun q hq => T.get_set_ne _ _ fun e => a2 (e ▸ hq)⟩, Nat.le_refl _, (((Ext.refl 0 st).set (Nat.zero_le _) h.lt _).wf), fun k _ hk => T.get_set_ne _ _ fun e => hk e.symm⟩
theorem ropen_any (st : St) (n f : Nat) (ys yo : V) (m : LM) (h : RefAt st n ys yo m f) (wb nt : Nat) :
    Gd (callL Try.prog ⟨false, [], wb, nt⟩ 117 [.p n 0] st) fun r => r = (.int .i64 (m.O.length : Int), st) := by
  obtain ⟨t, h1, _, h4⟩ := h.blk
  rw [Gd_callL Try.func117 rfl]
  simp [sets, T.get_set, loadE_eq, getC_eq, h1, h4, h.orow.lenS]
theorem setAll_take {S : List (BitVec 64)} {O : List (Int × BitVec 64)} {j : Nat} {r : Int × BitVec 64} (h : O[j]? = some r) : setAll S (O.take (j + 1)) = (setAll S (O.take j)).set r.1.toNat r.2 := by
  rw [List.take_add_one, h]
  simp [setAll]
def rloadI (st : St) (n a : Nat) (m : LM) (en : Env) (s : St) : Prop := ∃ i : Nat, i ≤ m.O.length ∧ en.get 0 = some (.p n 0) ∧ en.get 1 = some (.int .i64 (a : Int)) ∧ en.get 5 = some (wd ((setAll m.S (m.O.take i))[a]?.getD 0#64)) ∧ en.get 6 = some (.int .i64 (i : Int)) ∧ s = st
set_option maxHeartbeats 1000000 in
theorem rload_any (st : St) (n f : Nat) (ys yo : V) (m : LM) (h : RefAt st n ys yo m f) (a : Int) (wb nt : Nat) :
    Gd (callL Try.prog ⟨false, [], wb, nt⟩ 120 [.p n 0, .int .i64 a] st) fun r => r = (wd (if 0 ≤ a ∧ a < 8 then (setAll m.S m.O)[a.toNat]?.getD 0#64 else 0#64), st) := by
  obtain ⟨t, h1, h2, h3⟩ := h.blk
  rw [Gd_callL Try.func120 rfl]
  by_cases h0 : a < 0
  · have hn : ¬ (0 ≤ a ∧ a < 8) := by omega
    simp [evOp_call, sets, T.get_set, h0, hn]
  · by_cases h8 : 7 < a
    · have hn : ¬ (0 ≤ a ∧ a < 8) := by omega
      simp [evOp_call, sets, T.get_set, h0, h8, hn]
    · have hp : 0 ≤ a ∧ a < 8 := by omega
      obtain ⟨b, rfl⟩ := Int.eq_ofNat_of_zero_le hp.1
      have hb : b < 8 := by omega
      obtain ⟨q, o, ty, sz, tr, hid, hm, hg, ho, hc⟩ := h.sr.idx (st := st) un30 io31 hb
      obtain ⟨w, hw⟩ : ∃ w, m.S[b]? = some w := ⟨_, List.getElem?_eq_getElem (by rw [h.ls]; exact hb)⟩
      have t0 : tr.get o = some (wd w) := hc 0 _ (by omega) (by simpa using wv_get hw)
      simp [evOp_call, sets, T.get_set, h0, h8, loadE_eq, getC_eq, h1, h2, hid, hg, t0]
      refine Gd_loop (rloadI st n b m) (fun e _ => muAt 6 m.O.length e) ?_ ?_
      · exact ⟨0, Nat.zero_le _, by simp [T.get_set], by simp [T.get_set], by simp [T.get_set, setAll, hw], by simp [T.get_set], rfl⟩
      · rintro e s ⟨i, hi, g0, g1, g5, g6, rfl⟩
        by_cases hlt : i < m.O.length
        · have hlt' : (i : Int) < m.O.length := by omega
          have hsm := h.small
          have hwi := wrap_nat (n := i) (by omega)
          obtain ⟨q2, o2, ty2, sz2, tr2, hid2, hm2, hg2, ho2, hc2⟩ := h.orow.idx (st := s) un209 io220 hlt
          obtain ⟨⟨A, W⟩, hr⟩ : ∃ r, m.O[i]? = some r := ⟨_, List.getElem?_eq_getElem hlt⟩
          have hcl := rcells_at m.O f i _ hr
          have u0 : tr2.get o2 = some (.int .i64 A) := hc2 0 _ (by omega) hcl.1
          have u1 : tr2.get (o2 + 1) = some (wd W) := hc2 1 _ (by omega) hcl.2.1
          have hok := h.oks _ (List.mem_of_getElem? hr)
          simp only at hok
          have hst := setAll_take (S := m.S) hr
          by_cases hA : A = (b : Int)
          · subst hA
            have hv : ((setAll m.S (m.O.take i)).set b W)[b]?.getD 0#64 = W := by
              rw [List.getElem?_set_self (by rw [setAll_len, h.ls]; exact hb)]; rfl
            simp [evOp_call, T.get_set, g0, g1, g5, g6, hlt', loadE_eq, getC_eq, h1, h3, h.orow.lenS, hid2, hg2, u0, u1, hwi]
            exact ⟨⟨i + 1, hlt, by simp [T.get_set, g0], by simp [T.get_set, g1], by simp only [hst]; simp [T.get_set, hv], by simp [T.get_set], rfl⟩, muAt_lt g6 (by simp [T.get_set]) hlt⟩
          · have hv : ((setAll m.S (m.O.take i)).set A.toNat W)[b]? = (setAll m.S (m.O.take i))[b]? := List.getElem?_set_ne (by omega)
            simp [evOp_call, T.get_set, g0, g1, g5, g6, hlt', loadE_eq, getC_eq, h1, h3, h.orow.lenS, hid2, hg2, u0, hA, hwi]
            exact ⟨⟨i + 1, hlt, by simp [T.get_set, g0], by simp [T.get_set, g1], by simp only [hst, hv]; simp [T.get_set, g5], by simp [T.get_set], rfl⟩, muAt_lt g6 (by simp [T.get_set]) hlt⟩
        · obtain rfl : i = m.O.length := by omega
          rw [List.take_length] at g5
          simp [evOp_call, T.get_set, g0, g1, g5, g6, loadE_eq, getC_eq, h1, h3, h.orow.lenS, hb]
          exact fun h => by omega
def LM.settleN (m : LM) (k : Int) : LM := { m with S := setAll m.S (m.O.take k.toNat) }
def rsetI (st : St) (n f : Nat) (ys yo y4 : V) (m : LM) (k : Int) (en : Env) (s : St) : Prop := ∃ i : Nat, i ≤ m.O.length ∧ (0 ≤ k → (i : Int) ≤ k) ∧ en.get 0 = some (.p n 0) ∧ en.get 1 = some (.int .i64 k) ∧ en.get 4 = some y4 ∧ en.get 5 = some (.int .i64 (i : Int)) ∧
  OwnRow st.nx s y4 1 8 (wv (setAll m.S (m.O.take i))) ∧ RefAt s n ys yo m f ∧ Ext st.nx st s ∧ (k < 0 → i = 0)
set_option maxHeartbeats 1000000 in
theorem rsettle_any (st : St) (n f : Nat) (ys yo : V) (m : LM) (h : RefAt st n ys yo m f) (k : Int) (nt : Nat) :
    Gd (callL Try.prog ⟨false, [], 0, nt⟩ 163 [.p n 0, .int .i64 k] st) fun r => r.1 = .t [] ∧ ∃ ys', RefAt r.2 n ys' yo (m.settleN k) f ∧ RKept n st r.2 ∧ ∀ q, Nm ys' q → st.nx ≤ q := by
  obtain ⟨t, h1, h2, h3⟩ := h.blk
  have hlt := h.lt
  have hne : ¬ st.nx = n := by omega
  rw [Gd_callL Try.func163 rfl]
  simp [evOp_call, sets, T.get_set]
  rw [evOp_build0 (fun k => el30 k) (fun k => ze31 k) rfl]
  have he : Ext st.nx st ⟨st.nx + 1, st.h.set st.nx (.cs 31 0 .lf)⟩ := (Ext.refl _ _).new (Nat.le_refl _) _
  have hr0 := h.other he.le fun q hq => he.keep q (h.own_lt hq)
  simp [T.get_set, loadE_eq, getC_eq, hne, h1, h2]
  refine Gd_append0 un30 un30 io31 (by decide) (T.get_set_same _ _ _) hr0.sr.notS (fun k => hr0.sr.len k) (fun k => hr0.sr.firsts k) hr0.sr.1 (by omega) (fun h0 => by omega) fun _ => ?_
  simp [T.get_set]
  have h8 := h.ls
  have he2 := he.new (Nat.le_succ _) (.cs 31 (wv m.S).length (sets (wv m.S) 0 .lf))
  have ho : OwnRow st.nx ⟨st.nx + 1 + 1, (st.h.set st.nx (.cs 31 0 .lf)).set (st.nx + 1) (.cs 31 (wv m.S).length (sets (wv m.S) 0 .lf))⟩ (.sg (st.nx + 1) 0 8 1) 1 8 (wv m.S) := by
    refine ⟨by simp [h8], .inr ⟨st.nx + 1, 31, sets (wv m.S) 0 .lf, rfl, Nat.le_succ _, Nat.lt_succ_self _, ?_, by decide, fun j v hj => ?_⟩⟩
    · rw [wv_length, h8]; exact T.get_set_same _ _ _
    · have hjl : j < (wv m.S).length := lt_of_get hj
      rw [get_sets, if_pos ⟨Nat.zero_le _, by omega⟩]
      simpa using hj
  have hr2 := h.other he2.le fun q hq => he2.keep q (h.own_lt hq)
  rw [wv_length, h8] at ho he2 hr2
  simp only [h8]
  refine Gd_loop (rsetI st n f ys yo (.sg (st.nx + 1) 0 8 1) m k) (fun e _ => muAt 5 m.O.length e) ?_ ?_
  · exact ⟨0, Nat.zero_le _, fun h => by omega, by simp [T.get_set], by simp [T.get_set], by simp [T.get_set], by simp [T.get_set], by simpa [setAll] using ho, hr2, he2, fun _ => rfl⟩
  · clear ho he2 hr2 he hr0 h1 h2 h3
    rintro e s ⟨i, hi, hik, g0, g1, g4, g5, ho, hr, hs, hneg⟩
    obtain ⟨t, h1, h2, h3⟩ := hr.blk
    by_cases hgo : (i : Int) < k ∧ i < m.O.length
    · obtain ⟨hk1, hk2⟩ := hgo
      have hk2' : (i : Int) < m.O.length := by omega
      have hsm := h.small
      have hwi := wrap_nat (n := i) (by omega)
      obtain ⟨q2, o2, ty2, sz2, tr2, hid2, hm2, hg2, ho2, hc2⟩ := hr.orow.idx (st := s) un209 io220 hk2
      obtain ⟨⟨A, W⟩, hrr⟩ : ∃ r, m.O[i]? = some r := ⟨_, List.getElem?_eq_getElem hk2⟩
      have hcl := rcells_at m.O f i _ hrr
      have u0 : tr2.get o2 = some (.int .i64 A) := hc2 0 _ (by omega) hcl.1
      have u1 : tr2.get (o2 + 1) = some (wd W) := hc2 1 _ (by omega) hcl.2.1
      have hok := h.oks _ (List.mem_of_getElem? hrr)
      simp only at hok
      obtain ⟨b, rfl⟩ := Int.eq_ofNat_of_zero_le hok.1
      have hb : b < 8 := by omega
      have hb1 : b + 1 ≤ 8 := by omega
      obtain ⟨m4, ty4, tr4, hsg, hb4, hm4, hg4, hro4, hc4, hput⟩ := OwnRow.put ho (i := b) hb
      injection hsg with hsg; subst hsg
      have hst := setAll_take (S := m.S) hrr
      simp only [Int.toNat_natCast] at hst
      simp [evOp_call, T.get_set, g0, g1, g4, g5, hk1, hk2', loadE_eq, getC_eq, h1, h3, hr.orow.lenS, hid2, hg2, u0, u1, hwi, hb]
      refine ⟨by kernel_rfl, ?_⟩
      rw [cxOf_store]
      rotate_left
      · kernel_rfl
      simp [T.get_set, g0, g1, g4, g5, putB_eq, hg4, hb1, hro4, roT, sets, hwi]
      have hp := hput (wd W)
      have hwv : (wv (setAll m.S (m.O.take i))).set b (wd W) = wv (setAll m.S (m.O.take (i + 1))) := by rw [hst]; unfold wv; rw [List.map_set]
      rw [hwv] at hp
      refine ⟨⟨i + 1, hk2, fun h => by omega, by simp [T.get_set, g0], by simp [T.get_set, g1], by simp [T.get_set, g4], by simp [T.get_set], hp, ?_, hs.set (by omega) hm4 _, fun h => by omega⟩, muAt_lt g5 (by simp [T.get_set]) hk2⟩
      refine hr.other (Nat.le_refl _) fun q hq => ?_
      show (s.h.set (st.nx + 1) _).get q = _
      refine T.get_set_ne _ _ fun e => ?_
      subst e
      have : RefAt st n ys yo m f := h
      have := h.own_lt hq
      omega
    · have hend : m.O.take i = m.O.take k.toNat := by
        rcases (by omega : (k < 0) ∨ (0 ≤ k ∧ k ≤ (i : Int)) ∨ m.O.length ≤ i) with hc | hc | hc
        · rw [hneg hc]; have : k.toNat = 0 := by omega
          rw [this]
        · have := hik hc.1; congr 1; omega
        · by_cases hk0 : 0 ≤ k
          · have := hik hk0
            rw [List.take_of_length_le hc, List.take_of_length_le (by omega)]
          · rw [hneg (by omega)]; have : k.toNat = 0 := by omega
            rw [this]
      rw [hend] at ho
      have hfin : ∀ t' : T V, t'.get 0 = some (.sg (st.nx + 1) 0 8 1) → t'.get 1 = some yo → RefAt ⟨s.nx, s.h.set n (.cs 211 2 t')⟩ n (.sg (st.nx + 1) 0 8 1) yo (m.settleN k) f ∧ RKept n s ⟨s.nx, s.h.set n (.cs 211 2 t')⟩ := fun t' k1 k2 =>
        hr.set k1 k2 (fun e => by rcases e with ⟨_, _, _, e⟩ | ⟨_, _, _, e⟩ <;> cases e; omega) hr.a2 hr.a3 (by show (setAll _ _).length = 8; rw [setAll_len, h8]) hr.small hr.oks ho.rd hr.orow
      have hnm : ∀ q, Nm (.sg (st.nx + 1) 0 8 1) q → st.nx ≤ q := fun q hq => ho.nm_ge hq
      have hlast : ∀ t' : T V, t'.get 0 = some (.sg (st.nx + 1) 0 8 1) → t'.get 1 = some yo → ∃ ys', RefAt ⟨s.nx, s.h.set n (.cs 211 2 t')⟩ n ys' yo (m.settleN k) f ∧ RKept n st ⟨s.nx, s.h.set n (.cs 211 2 t')⟩ ∧ ∀ q, Nm ys' q → st.nx ≤ q := fun t' k1 k2 =>
        ⟨_, (hfin t' k1 k2).1, (RKept.ofExt hs).trans (hfin t' k1 k2).2, hnm⟩
      by_cases hk1 : (i : Int) < k
      · have hk2 : ¬ (i : Int) < m.O.length := by omega
        simp [evOp_call, T.get_set, g0, g1, g4, g5, hk1, hk2, loadE_eq, getC_eq, h1, h3, hr.orow.lenS, putB_eq, roT, sets]
        exact hlast _ (by simp [T.get_set]) (by simp [T.get_set, h3])
      · simp [evOp_call, T.get_set, g0, g1, g4, g5, hk1, loadE_eq, getC_eq, h1, h3, hr.orow.lenS, putB_eq, roT, sets]
        exact hlast _ (by simp [T.get_set]) (by simp [T.get_set, h3])
theorem rfall_any (st : St) (n f : Nat) (ys yo : V) (m : LM) (h : RefAt st n ys yo m f) (k : Int) (nt : Nat) :
    Gd (callL Try.prog ⟨false, [], 0, nt⟩ 118 [.p n 0, .int .i64 k] st) fun r => r.1 = .t [] ∧ ∃ ys', RefAt r.2 n ys' (.c (.slice none 0 0)) ⟨setAll m.S (m.O.take k.toNat), setAll m.S (m.O.take k.toNat), [], 0⟩ 0 ∧ RKept n st r.2 ∧ ∀ q, Nm ys' q → st.nx ≤ q := by
  rw [Gd_callL Try.func118 rfl]
  simp [evOp_call, sets, T.get_set]
  refine Gd.mono (rsettle_any st n f ys yo m h k _) ?_
  rintro ⟨r, s⟩ ⟨hr, ys', h', hk, hn⟩
  simp only at hr h' hk
  subst hr
  obtain ⟨t, h1, h2, h3⟩ := h'.blk
  simp [evOp_call, sets, T.get_set, loadE_eq, getC_eq, h1, putB_eq, roT]
  have hset := h'.set (m' := ⟨setAll m.S (m.O.take k.toNat), setAll m.S (m.O.take k.toNat), [], 0⟩) (f' := 0) (ys' := ys') (yo' := .c (.slice none 0 0)) (t' := t.set 1 (.c (.slice none 0 0))) (by simp [T.get_set, h2]) (by simp [T.get_set]) h'.a1 (fun e => nm_nil e) (fun _ _ _ _ e => by cases e) h'.ls (by simp) (fun r hr => by simp at hr) h'.sr ⟨rfl, .inl ⟨.inl rfl, rfl⟩⟩
  exact ⟨ys', hset.1, hk.trans hset.2, hn⟩
def rfenceI (st : St) (n f : Nat) (en : Env) (s : St) : Prop := ∃ i : Nat, i ≤ f ∧ en.get 0 = some (.p n 0) ∧ en.get 2 = some (.int .i64 (i : Int)) ∧ s = st
set_option maxHeartbeats 1000000 in
theorem rfence_any (st : St) (n f : Nat) (ys yo : V) (m : LM) (h : RefAt st n ys yo m f) (hf : f ≤ m.O.length) (nt : Nat) :
    Gd (callL Try.prog ⟨false, [], 0, nt⟩ 114 [.p n 0] st) fun r => r.1 = .t [] ∧ ∃ ys' yo', RefAt r.2 n ys' yo' ⟨setAll m.S (m.O.take f), m.N, m.O.drop f, 0⟩ 0 ∧ RKept n st r.2 ∧ (∀ q, Nm ys' q → st.nx ≤ q) ∧ ∀ q, Nm yo' q → Nm yo q := by
  obtain ⟨t, h1, h2, h3⟩ := h.blk
  have hsm := h.small
  rw [Gd_callL Try.func114 rfl]
  simp [evOp_call, sets, T.get_set]
  refine Gd_loop (rfenceI st n f) (fun e _ => muAt 2 f e) ?_ ?_
  · exact ⟨0, Nat.zero_le _, by simp [T.get_set], by simp [T.get_set], rfl⟩
  · rintro e s ⟨i, hi, g0, g2, rfl⟩
    by_cases hlt : i < f
    · have hlt' : (i : Int) < m.O.length := by omega
      have hwi := wrap_nat (n := i) (by omega)
      obtain ⟨q2, o2, ty2, sz2, tr2, hid2, hm2, hg2, ho2, hc2⟩ := h.orow.idx (st := s) un209 io220 (show i < m.O.length by omega)
      obtain ⟨r, hrr⟩ : ∃ r, m.O[i]? = some r := ⟨_, List.getElem?_eq_getElem (by omega)⟩
      have hcl := rcells_at m.O f i _ hrr
      have hd : decide (i < f) = true := by simpa using hlt
      rw [hd] at hcl
      have u2 : tr2.get (o2 + 2) = some (.bool true) := hc2 2 _ (by omega) hcl.2.2
      simp [evOp_call, T.get_set, g0, g2, hlt', loadE_eq, getC_eq, h1, h3, h.orow.lenS, hid2, hg2, u2, hwi]
      exact ⟨⟨i + 1, hlt, by simp [T.get_set, g0], by simp [T.get_set], rfl⟩, muAt_lt g2 (by simp [T.get_set]) hlt⟩
    · obtain rfl : i = f := by omega
      by_cases hend : i < m.O.length
      · have hlt' : (i : Int) < m.O.length := by omega
        obtain ⟨q2, o2, ty2, sz2, tr2, hid2, hm2, hg2, ho2, hc2⟩ := h.orow.idx (st := s) un209 io220 hend
        obtain ⟨r, hrr⟩ : ∃ r, m.O[i]? = some r := ⟨_, List.getElem?_eq_getElem (by omega)⟩
        have hcl := rcells_at m.O i i _ hrr
        have hd : decide (i < i) = false := by simp
        rw [hd] at hcl
        have u2 : tr2.get (o2 + 2) = some (.bool false) := hc2 2 _ (by omega) hcl.2.2
        simp [evOp_call, T.get_set, g0, g2, hlt', loadE_eq, getC_eq, h1, h3, h.orow.lenS, hid2, hg2, u2]
        refine Gd.mono (rsettle_any s n i ys yo m h i _) ?_
        rintro ⟨r, s2⟩ ⟨hr, ys', h', hk, hn⟩
        simp only at hr h' hk
        subst hr
        obtain ⟨t', k1, k2, k3⟩ := h'.blk
        simp [evOp_call, sets, T.get_set, g0, g2, loadE_eq, getC_eq, k1, k3]
        refine Gd_slice_loR (i := .i64) un209 io220 h'.orow h'.a3 (k := i) (by simp [T.get_set, g2]) hf ?_
        intro y' hy' hny hsl
        have hy1 : y'.one = true := hy'.one
        rw [show (m.settleN (i : Int)).O = m.O from rfl, rcells_drop, Nat.sub_self, ← List.length_drop] at hy'
        simp [T.get_set, g0, storeK_1 hy1, putB_eq, k1, roT, sets]
        have hset := h'.set (m' := ⟨setAll m.S (m.O.take i), m.N, m.O.drop i, 0⟩) (f' := 0) (ys' := ys') (yo' := y') (t' := t'.set 1 y') (by simp [T.get_set, k2]) (by simp [T.get_set]) h'.a1 (fun e => h'.a2 (hny _ e)) hsl h'.ls (by simp; omega) (fun r hr => h.oks r (List.mem_of_mem_drop hr)) h'.sr hy'
        exact ⟨ys', y', hset.1, hk.trans hset.2, hn, hny⟩
      · have hlt' : ¬ (i : Int) < m.O.length := by omega
        simp [evOp_call, T.get_set, g0, g2, hlt', loadE_eq, getC_eq, h1, h3, h.orow.lenS]
        refine Gd.mono (rsettle_any s n i ys yo m h i _) ?_
        rintro ⟨r, s2⟩ ⟨hr, ys', h', hk, hn⟩
        simp only at hr h' hk
        subst hr
        obtain ⟨t', k1, k2, k3⟩ := h'.blk
        simp [evOp_call, sets, T.get_set, g0, g2, loadE_eq, getC_eq, k1, k3]
        refine Gd_slice_loR (i := .i64) un209 io220 h'.orow h'.a3 (k := i) (by simp [T.get_set, g2]) hf ?_
        intro y' hy' hny hsl
        have hy1 : y'.one = true := hy'.one
        rw [show (m.settleN (i : Int)).O = m.O from rfl, rcells_drop, Nat.sub_self, ← List.length_drop] at hy'
        simp [T.get_set, g0, storeK_1 hy1, putB_eq, k1, roT, sets]
        have hset := h'.set (m' := ⟨setAll m.S (m.O.take i), m.N, m.O.drop i, 0⟩) (f' := 0) (ys' := ys') (yo' := y') (t' := t'.set 1 y') (by simp [T.get_set, k2]) (by simp [T.get_set]) h'.a1 (fun e => h'.a2 (hny _ e)) hsl h'.ls (by simp; omega) (fun r hr => h.oks r (List.mem_of_mem_drop hr)) h'.sr hy'
        exact ⟨ys', y', hset.1, hk.trans hset.2, hn, hny⟩
end Go.Proofs.Ytenncnbaoejekaa

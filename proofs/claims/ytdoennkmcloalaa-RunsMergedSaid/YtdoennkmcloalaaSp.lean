/-
  Contracts of package span: what is within, places, words.
-/
import Derived.Test.YtdoennkmcloalaaTySp
import Derived.Test.YtdoennkmcloalaaPmAD
set_option linter.unusedSimpArgs false
namespace Go.Proofs.Ytdoennkmcloalaa
open Go.RowKit Ev
def i64 (x : Int) : Prop := -9223372036854775808 ≤ x ∧ x ≤ 9223372036854775807
/-- n lines stand from a line on among so many -/
def winB (f n l : Int) : Prop := 0 ≤ f ∧ 1 ≤ n ∧ n ≤ l ∧ f ≤ l - n
instance (f n l : Int) : Decidable (winB f n l) := by unfold winB; infer_instance
set_option maxRecDepth 20000 in
theorem within_any (c : Cx) (st : St) (f n l : Int) (hl : 0 ≤ l ∧ l ≤ 1000000) :
    Gd (callL Try.prog c 196 [.int .i64 f, .int .i64 n, .int .i64 l] st) fun r => r = (.bool (decide (winB f n l)), st) := by
  rw [Gd_callL Try.func196 rfl]
  unfold winB
  by_cases c1 : 0 ≤ f
  · by_cases c2 : 1 ≤ n
    · by_cases c3 : n ≤ l
      · have w1 : IntKind.i64.wrap (l - n) = l - n := wrap_in (by omega) (by omega)
        simp [evOp_call, sets, T.get_set, c1, c2, c3, w1]
      · simp [evOp_call, sets, T.get_set, c1, c2, c3]
    · simp [evOp_call, sets, T.get_set, c1, c2]
  · simp [evOp_call, sets, T.get_set, c1]
theorem mlines_fl (st : St) (fl : List (Nat × Nat)) (wb : Nat) (q : Nat) (v : MV) (h : MemAt st q v) (hf : inF fl q = false) (nt : Nat) :
    Gd (callL Try.prog ⟨false, fl, wb, nt⟩ 197 [.p q 0] st) fun r => r = (.int .i64 (v.R.length : Int), st) := by
  obtain ⟨t, h1, h2, h3, h4, h5, h6, h7, h8⟩ := h.blk
  rw [Gd_callL Try.func197 rfl]
  simp [sets, T.get_set, loadE_eq, getC_eq, h1, h2, h.row.lenS, hf]
/-- a span as a value -/
def spV (q : Nat) (f n : Int) : V := .g [.p q 0, .int .i64 f, .int .i64 n]
def hasB (l : Nat) (f n a k : Int) : Prop := winB f n l ∧ 0 ≤ a ∧ 1 ≤ k ∧ k ≤ n * 8 ∧ a ≤ n * 8 - k
instance (l : Nat) (f n a k : Int) : Decidable (hasB l f n a k) := by unfold hasB; infer_instance
set_option maxRecDepth 20000 in
theorem has_any (st : St) (q : Nat) (v : MV) (h : MemAt st q v) (hR : v.R.length ≤ 1024) (f n a k : Int) (nt : Nat) :
    Gd (callL Try.prog ⟨false, [], 0, nt⟩ 199 [spV q f n, .int .i64 a, .int .i64 k] st) fun r => r.1 = .bool (decide (hasB v.R.length f n a k)) ∧ Ext st.nx st r.2 := by
  rw [Gd_callL Try.func199 rfl]
  have hex : ∀ b, Ext st.nx st ⟨st.nx + 1, st.h.set st.nx b⟩ := fun b => (Ext.refl _ _).new (Nat.le_refl _) _
  simp [spV, evOp_call, sets, T.get_set, newC_is, cellsOf]
  refine ⟨by kernel_rfl, ?_⟩
  simp [evOp_call, sets, T.get_set, loadE_eq, getC_eq]
  have hq := h.lt
  have hb := h.ext (hex (.cs 120 3 (((T.lf.set 0 (V.p q 0)).set 1 (V.int .i64 f)).set 2 (V.int .i64 n))))
  rw [cxOf_callL [(st.nx, st.nx + 1), (st.nx, st.nx + 1)] (by kernel_rfl) (by kernel_rfl) (looseW_at2 12 14 (.p st.nx 1) (.p st.nx 2) (by simp [T.get_set]) (by simp [T.get_set]) (by kernel_rfl)) (fun x hx => by simp at hx; subst hx; simp [clashes_tmp, T.get_set, inF_cons]; omega) (fun p hp => by simp at hp; subst hp; rw [isRo_cs (T.get_set_same _ _ _)]; decide)]
  simp only [forb_nil, List.append_nil]
  refine Gd.mono (mlines_fl _ _ _ q v hb (by rw [inF_cons, if_neg (by omega), inF_cons, if_neg (by omega)]; rfl) _) ?_
  rintro _ rfl
  simp [evOp_call, sets, T.get_set, loadE_eq, getC_eq]
  refine Gd.mono (within_any _ _ f n (v.R.length : Int) (by omega)) ?_
  rintro _ rfl
  by_cases hw : winB f n v.R.length
  · have hw2 : n ≤ 1024 ∧ 1 ≤ n := by obtain ⟨h1, h2, h3, h4⟩ := hw; omega
    have w1 : IntKind.i64.wrap (n * 8) = n * 8 := wrap_in (by omega) (by omega)
    by_cases c1 : 0 ≤ a
    · by_cases c2 : 1 ≤ k
      · by_cases c3 : k ≤ n * 8
        · have w2 : IntKind.i64.wrap (n * 8 - k) = n * 8 - k := wrap_in (by omega) (by omega)
          simp [hasB, evOp_call, sets, T.get_set, loadE_eq, getC_eq, hw, w1, w2, c1, c2, c3]
          exact hex _
        · simp [hasB, evOp_call, sets, T.get_set, loadE_eq, getC_eq, hw, w1, c1, c2, c3]
          exact hex _
      · simp [hasB, evOp_call, sets, T.get_set, loadE_eq, getC_eq, hw, w1, c1, c2]
        exact hex _
    · simp [hasB, evOp_call, sets, T.get_set, loadE_eq, getC_eq, hw, w1, c1]
      exact hex _
  · simp [hasB, evOp_call, sets, T.get_set, loadE_eq, getC_eq, hw]
    exact hex _
theorem place_fl (st : St) (fl : List (Nat × Nat)) (wb : Nat) (hfn : ∀ k, st.nx ≤ k → inF fl k = false) (q : Nat) (f n a : Int) (hs : 0 ≤ f ∧ f ≤ 1000000 ∧ 0 ≤ a ∧ a ≤ 1000000) (nt : Nat) :
    Gd (callL Try.prog ⟨false, fl, wb, nt⟩ 201 [spV q f n, .int .i64 a] st) fun r => r.1 = .int .i64 (f * 8 + a) ∧ Ext st.nx st r.2 := by
  rw [Gd_callL Try.func201 rfl]
  have w1 : IntKind.i64.wrap (f * 8) = f * 8 := wrap_in (by omega) (by omega)
  have w2 : IntKind.i64.wrap (f * 8 + a) = f * 8 + a := wrap_in (by omega) (by omega)
  have h0 := hfn st.nx (Nat.le_refl _)
  simp [spV, evOp_call, sets, T.get_set, newC_is, cellsOf, loadE_eq, getC_eq, h0, w1, w2]
  exact (Ext.refl _ _).new (Nat.le_refl _) _
/-- a span's word -/
def AS.sword (s : AS) (f n a : Int) : BitVec 64 := if hasB s.L.length f n a 1 then s.load (f * 8 + a) else 0#64
def AS.swordE (s : AS) (f n a : Int) : Int := if hasB s.L.length f n a 1 then s.loadE (f * 8 + a) else 1
theorem absLen (v : MV) : (absV v).L.length = v.R.length := by simp [absV]
set_option maxRecDepth 20000 in
theorem sword_any (st : St) (q : Nat) (v : MV) (h : MemAt st q v) (hR : v.R.length ≤ 1024) (f n a : Int) (nt : Nat) :
    Gd (callL Try.prog ⟨false, [], 0, nt⟩ 162 [spV q f n, .int .i64 a] st) fun r => r.1 = .t [wd ((absV v).sword f n a), .int .i64 ((absV v).swordE f n a)] ∧ Ext st.nx st r.2 := by
  rw [Gd_callL Try.func162 rfl]
  have hex : ∀ b, Ext st.nx st ⟨st.nx + 1, st.h.set st.nx b⟩ := fun b => (Ext.refl _ _).new (Nat.le_refl _) _
  have hsp : V.g [V.p q 0, V.int .i64 f, V.int .i64 n] = spV q f n := rfl
  have hq := h.lt
  simp [spV, evOp_call, sets, T.get_set, newC_is, cellsOf, loadE_eq, getC_eq, getsB_succ, getsB_zero]
  rw [hsp]
  refine Gd.mono (has_any _ q v (h.ext (hex _)) hR f n a 1 _) ?_
  rintro ⟨r, s1⟩ ⟨hr, e1⟩
  simp only at hr e1
  subst hr
  have hl1 : st.nx + 1 ≤ s1.nx := e1.le
  have x1 : Ext st.nx st s1 := (hex _).trans (e1.mono (Nat.le_succ _))
  have k1 : s1.h.get st.nx = _ := (e1.keep st.nx (Nat.lt_succ_self _)).trans (T.get_set_same _ _ _)
  unfold AS.sword AS.swordE
  rw [absLen]
  by_cases hh : hasB v.R.length f n a 1
  · obtain ⟨⟨w1, w2, w3, w4⟩, w5, w6, w7, w8⟩ := id hh
    simp [spV, evOp_call, sets, T.get_set, loadE_eq, getC_eq, getsB_succ, getsB_zero, hh]
    refine ⟨by kernel_rfl, ?_⟩
    simp [spV, evOp_call, sets, T.get_set, loadE_eq, getC_eq, getsB_succ, getsB_zero, hh, k1]
    rw [hsp, cxOf_callL [(st.nx, st.nx + 1)] (by kernel_rfl) (by kernel_rfl) (looseW_at 10 (.p st.nx 0) (by simp [T.get_set]) (by kernel_rfl)) (fun x hx => by simp at hx; rcases hx with rfl | rfl <;> simp [clashes_tmp, T.get_set, spV, blkOf]) (fun p hp => by simp at hp; subst hp; simp [isRo_cs k1, roT])]
    simp only [forb_nil, List.append_nil]
    refine Gd.mono (place_fl s1 _ _ (fun k hk => by rw [inF_cons, if_neg (by omega)]; rfl) q f n a (by omega) _) ?_
    rintro ⟨r, s2⟩ ⟨hr, e2⟩
    simp only at hr e2
    subst hr
    have hm2 := (h.ext x1).ext e2
    simp [evOp_call, sets, T.get_set]
    rw [cxOf_call (by kernel_rfl) (by kernel_rfl), forb_step (by kernel_rfl) rfl]
    refine Gd.mono (mload_any s2 q v hm2 (f * 8 + a) (by omega) _) ?_
    rintro _ rfl
    simp [evOp_call, sets, T.get_set]
    exact x1.trans (e2.mono x1.le)
  · simp [evOp_call, sets, T.get_set, hh, wd_0]
    exact x1
def AS.sset (s : AS) (f n a : Int) (w : BitVec 64) : AS := if hasB s.L.length f n a 1 then s.store (f * 8 + a) w else s
def AS.ssetE (s : AS) (f n a : Int) : Int := if hasB s.L.length f n a 1 then s.storeE (f * 8 + a) else 1
set_option maxRecDepth 20000 in
theorem sset_any (st : St) (q : Nat) (v : MV) (h : MemAt st q v) (hR : v.R.length ≤ 1024) (hf : v.fuse ≤ 9223372036854775807) (hO : ∀ r ∈ v.R, r.m.O.length < 1000) (f n a : Int) (w : BitVec 64) (nt : Nat) :
    Gd (callL Try.prog ⟨false, [], 0, nt⟩ 202 [spV q f n, .int .i64 a, wd w] st) fun r => r.1 = .int .i64 ((absV v).ssetE f n a) ∧ ∃ v', MStep q v v' st r.2 ∧ absV v' = (absV v).sset f n a w := by
  rw [Gd_callL Try.func202 rfl]
  have hex : ∀ b, Ext st.nx st ⟨st.nx + 1, st.h.set st.nx b⟩ := fun b => (Ext.refl _ _).new (Nat.le_refl _) _
  have hsp : V.g [V.p q 0, V.int .i64 f, V.int .i64 n] = spV q f n := rfl
  have hq := h.lt
  simp [spV, evOp_call, sets, T.get_set, newC_is, cellsOf, loadE_eq, getC_eq, getsB_succ, getsB_zero]
  rw [hsp]
  refine Gd.mono (has_any _ q v (h.ext (hex _)) hR f n a 1 _) ?_
  rintro ⟨r, s1⟩ ⟨hr, e1⟩
  simp only at hr e1
  subst hr
  have hl1 : st.nx + 1 ≤ s1.nx := e1.le
  have x1 : Ext st.nx st s1 := (hex _).trans (e1.mono (Nat.le_succ _))
  have k1 : s1.h.get st.nx = _ := (e1.keep st.nx (Nat.lt_succ_self _)).trans (T.get_set_same _ _ _)
  unfold AS.sset AS.ssetE
  rw [absLen]
  by_cases hh : hasB v.R.length f n a 1
  · obtain ⟨⟨w1, w2, w3, w4⟩, w5, w6, w7, w8⟩ := id hh
    simp [spV, evOp_call, sets, T.get_set, loadE_eq, getC_eq, getsB_succ, getsB_zero, hh]
    refine ⟨by kernel_rfl, ?_⟩
    simp [spV, evOp_call, sets, T.get_set, loadE_eq, getC_eq, getsB_succ, getsB_zero, hh, k1]
    rw [hsp, cxOf_callL [(st.nx, st.nx + 1)] (by kernel_rfl) (by kernel_rfl) (looseW_at 11 (.p st.nx 0) (by simp [T.get_set]) (by kernel_rfl)) (fun x hx => by simp at hx; rcases hx with rfl | rfl <;> simp [clashes_tmp, T.get_set, spV, blkOf]) (fun p hp => by simp at hp; subst hp; simp [isRo_cs k1, roT])]
    simp only [forb_nil, List.append_nil]
    refine Gd.mono (place_fl s1 _ _ (fun k hk => by rw [inF_cons, if_neg (by omega)]; rfl) q f n a (by omega) _) ?_
    rintro ⟨r, s2⟩ ⟨hr, e2⟩
    simp only at hr e2
    subst hr
    have hs2 := MStep.ofExt h (x1.trans (e2.mono x1.le))
    simp [evOp_call, sets, T.get_set]
    rw [cxOf_call (by kernel_rfl) (by kernel_rfl), forb_step (by kernel_rfl) rfl]
    refine Gd.mono (mstore_any s2 q v hs2.at' (f * 8 + a) w (by omega) hf (by omega) hO _) ?_
    rintro ⟨r, s3⟩ ⟨hr, v3, hs3, ha3⟩
    simp only at hr hs3
    subst hr
    simp [evOp_call, sets, T.get_set]
    exact ⟨v3, hs2.trans hs3, ha3⟩
  · simp [evOp_call, sets, T.get_set, hh]
    exact ⟨v, MStep.ofExt h x1, rfl⟩
def spZ : V := .g [.c (.pointer none), .int .i64 0, .int .i64 0]
def ofV' (l q : Nat) (f n : Int) : V := if winB f n l then .t [spV q f n, .int .i64 0] else .t [spZ, .int .i64 1]
set_option maxRecDepth 20000 in
theorem sof_any (st : St) (q : Nat) (v : MV) (h : MemAt st q v) (hR : v.R.length ≤ 1024) (f n : Int) (nt : Nat) :
    Gd (callL Try.prog ⟨false, [], 0, nt⟩ 158 [.p q 0, .int .i64 f, .int .i64 n] st) fun r => r.1 = ofV' v.R.length q f n ∧ Ext st.nx st r.2 := by
  rw [Gd_callL Try.func158 rfl]
  have hex : ∀ b, Ext st.nx st ⟨st.nx + 1, st.h.set st.nx b⟩ := fun b => (Ext.refl _ _).new (Nat.le_refl _) _
  simp [evOp_call, sets, T.get_set, newC_is, cellsOf]
  refine Gd.mono (mlines_any _ q v (h.ext (hex _)) _) ?_
  rintro _ rfl
  simp [evOp_call, sets, T.get_set]
  refine Gd.mono (within_any _ _ f n (v.R.length : Int) (by omega)) ?_
  rintro _ rfl
  unfold ofV'
  by_cases hw : winB f n v.R.length
  · simp [evOp_call, sets, T.get_set, hw, storeK_g, putB_eq, roT, loadE_eq, getC_eq, getsB_succ, getsB_zero, spV]
    exact hex _
  · simp [evOp_call, sets, T.get_set, hw, storeK_g, putB_eq, roT, loadE_eq, getC_eq, getsB_succ, getsB_zero, spZ]
    exact hex _
/-- a part of a span -/
def subB (l : Nat) (f n g k : Int) : Prop := winB f n l ∧ winB g k n
instance (l : Nat) (f n g k : Int) : Decidable (subB l f n g k) := by unfold subB; infer_instance
def subV (l q : Nat) (f n g k : Int) : V := if subB l f n g k then .t [spV q (f + g) k, .int .i64 0] else .t [spZ, .int .i64 1]
end Go.Proofs.Ytdoennkmcloalaa

/-
  Contracts of package pmem: stores, loads, flushes, fences.
-/
import Derived.Test.YtenncnbaoejekaaMmB
set_option linter.unusedSimpArgs false
namespace Go.Proofs.Ytenncnbaoejekaa
open Go.RowKit Ev
/-- a memory, but for where it lies -/
structure AS where
  L : List LM
  off : Bool
  fuse : Int
  K : List Int
  a : Int
  b : Int
  c : Int
def absV (v : MV) : AS := ⟨v.R.map (·.m), v.off, v.fuse, v.K, v.a, v.b, v.c⟩
def cntM (L : List LM) (i : Nat) : Nat := ((L.take i).filter fun m => decide (m.O.length ≠ 0)).length
def fallM (K : List Int) (L : List LM) : List LM := L.mapIdx fun i m => if m.O.length = 0 then m else m.fall (K[cntM L i]?.getD 0)
theorem cntM_R (R : List LR) (i : Nat) : cntM (R.map (·.m)) i = cntO R i := by
  unfold cntM cntO
  rw [← List.map_take, List.filter_map, List.length_map]
  rfl
theorem fallN_m (K : List Int) (R : List LR) : (fallN K R R.length).map (·.m) = fallM K (R.map (·.m)) := by
  apply List.ext_getElem?
  intro i
  unfold fallM
  rw [List.getElem?_map, fallN_get, List.getElem?_mapIdx, List.getElem?_map]
  cases h : R[i]? with
  | none => rfl
  | some r =>
    have := lt_of_get h
    simp only [Option.map_some]
    rw [if_pos this, cntM_R]
    unfold fallAt
    split <;> rfl
def AS.fell (s : AS) (K : List Int) : AS := { s with L := fallM K s.L, off := true, fuse := 0, K := [] }
theorem abs_fell (v : MV) (K : List Int) : absV (v.fell K) = (absV v).fell K := by
  unfold absV MV.fell AS.fell
  simp only [fallN_m]
def MV.lit (v : MV) : MV := if v.fuse < 1 then v else if 1 < v.fuse then { v with fuse := v.fuse - 1 } else ({ v with fuse := 0 } : MV).fell v.K
def AS.lit (s : AS) : AS := if s.fuse < 1 then s else if 1 < s.fuse then { s with fuse := s.fuse - 1 } else s.fell s.K
theorem abs_lit (v : MV) : absV v.lit = (absV v).lit := by
  show absV v.lit = if v.fuse < 1 then absV v else if 1 < v.fuse then { absV v with fuse := v.fuse - 1 } else (absV v).fell v.K
  unfold MV.lit
  by_cases h1 : v.fuse < 1
  · rw [if_pos h1, if_pos h1]
  · rw [if_neg h1, if_neg h1]
    by_cases h2 : 1 < v.fuse
    · rw [if_pos h2, if_pos h2]; rfl
    · rw [if_neg h2, if_neg h2, abs_fell]; rfl
theorem MemAt.setF {st : St} {q : Nat} {v : MV} (h : MemAt st q v) (t' : T V) (f a b c : Int) (ht : memIs t' { v with fuse := f, a := a, b := b, c := c }) :
    MStep q v { v with fuse := f, a := a, b := b, c := c } st ⟨st.nx, st.h.set q (.cs 166 7 t')⟩ := by
  obtain ⟨a1, a2⟩ := h.setB (v' := { v with fuse := f, a := a, b := b, c := c }) t' ht rfl rfl h.keep (fun k hk => ⟨fun e => h.q2 (by rw [← e]; exact hk), .inl hk⟩)
  exact ⟨a1, a2, fun k hk => .inl hk⟩
theorem mcrash_on (st : St) (q : Nat) (v : MV) (h : MemAt st q v) (ho : v.off = false) (x : V) (K : List Int) (hx : ∀ st' v', MStep q v v' st st' → v'.kz = v.kz → v'.K = v.K → RdRow st' x 1 K.length (ivs K)) (hR : v.R.length ≤ 1000000) (nt : Nat) :
    Gd (callL Try.prog ⟨false, [], 0, nt⟩ 32 [.p q 0, x] st) fun r => r.1 = .t [] ∧ MStep q v (v.fell K) st r.2 := by
  refine Gd.mono (mcrash_any st q v h x K hx hR nt) ?_
  rintro r ⟨h1, h2⟩
  rw [if_neg (by rw [ho]; simp)] at h2
  exact ⟨h1, h2⟩
theorem mburn_any (st : St) (q : Nat) (v : MV) (h : MemAt st q v) (ho : v.off = false) (hf : v.fuse ≤ 9223372036854775807) (hR : v.R.length ≤ 1000000) (nt : Nat) :
    Gd (callL Try.prog ⟨false, [], 0, nt⟩ 107 [.p q 0] st) fun r => r.1 = .bool (decide (v.fuse = 1)) ∧ MStep q v v.lit st r.2 := by
  obtain ⟨t, h1, h2, h3, h4, h5, h6, h7, h8⟩ := h.blk
  rw [Gd_callL Try.func107 rfl]
  unfold MV.lit
  by_cases c1 : v.fuse < 1
  · have c2 : ¬ v.fuse = 1 := by omega
    simp [evOp_call, sets, T.get_set, loadE_eq, getC_eq, h1, h4, c1, c2]
    exact MStep.refl h
  · have w1 : IntKind.i64.wrap (v.fuse - 1) = v.fuse - 1 := wrap_in (by omega) (by omega)
    by_cases c2 : 1 < v.fuse
    · have c3 : ¬ v.fuse = 1 := by omega
      have c4 : 0 < v.fuse - 1 := by omega
      simp [evOp_call, sets, T.get_set, loadE_eq, getC_eq, h1, h4, c1, c2, c3, w1, c4, putB_eq, roT]
      exact h.setF _ (v.fuse - 1) v.a v.b v.c (by simp [memIs, T.get_set, *])
    · have c3 : v.fuse = 1 := by omega
      have hs := h.setF (t.set 2 (.int .i64 0)) 0 v.a v.b v.c (by simp [memIs, T.get_set, *])
      obtain ⟨t', p1, p2, p3, p4, p5, p6, p7, p8⟩ := hs.at'.blk
      have w0 : IntKind.i64.wrap 0 = 0 := by decide
      simp [evOp_call, sets, T.get_set, loadE_eq, getC_eq, h1, h4, h5, c3, w0, putB_eq, roT]
      refine Gd.mono (mcrash_on _ q _ hs.at' ho v.kz v.K (fun st' v' hs' e1 e2 => ?_) hR _) ?_
      · have := hs'.at'.keep
        rw [e1, e2] at this
        exact this
      · rintro ⟨r, s1⟩ ⟨hr, x1⟩
        simp only at hr x1
        subst hr
        simp [T.get_set]
        exact hs.trans x1
def LM0 : LM := ⟨[], [], [], 0⟩
def AS.in8 (s : AS) (a : Int) : Prop := 0 ≤ a ∧ a / 8 < s.L.length
instance (s : AS) (a : Int) : Decidable (s.in8 a) := by unfold AS.in8; infer_instance
/-- a store: what it comes to, what it answers -/
def AS.store (s : AS) (a : Int) (w : BitVec 64) : AS := if s.off = true then s else if s.in8 a then (if s.fuse = 1 then s.lit else { s.lit with L := s.L.set (a / 8).toNat ((s.L[(a / 8).toNat]?.getD LM0).store (a % 8) w), a := IntKind.i64.wrap (s.a + 1) }) else s
def AS.storeE (s : AS) (a : Int) : Int := if s.off = true then 14 else if s.in8 a then (if s.fuse = 1 then 14 else 0) else 1
theorem abs_in8 (v : MV) (a : Int) : word8 v.R a ↔ (absV v).in8 a := by unfold word8 AS.in8 absV; simp
theorem MemAt.alone {st st' : St} {q : Nat} {v : MV} (h : MemAt st q v) (hle : st.nx ≤ st'.nx) (k : ∀ n, MOw q v n → st'.h.get n = st.h.get n) : MemAt st' q v := h.other hle k
theorem lit_not1 {v : MV} (h : ¬ v.fuse = 1) : v.lit.R = v.R ∧ v.lit.off = v.off ∧ v.lit.a = v.a ∧ v.lit.b = v.b ∧ v.lit.c = v.c ∧ v.lit.z = v.z ∧ v.lit.kz = v.kz ∧ v.lit.K = v.K := by
  unfold MV.lit
  by_cases c1 : v.fuse < 1
  · rw [if_pos c1]; exact ⟨rfl, rfl, rfl, rfl, rfl, rfl, rfl, rfl⟩
  · rw [if_neg c1, if_pos (by omega)]; exact ⟨rfl, rfl, rfl, rfl, rfl, rfl, rfl, rfl⟩
set_option maxRecDepth 20000 in
set_option maxHeartbeats 4000000 in
theorem mstore_any (st : St) (q : Nat) (v : MV) (h : MemAt st q v) (a : Int) (w : BitVec 64) (ha : -9223372036854775808 ≤ a ∧ a ≤ 9223372036854775807) (hf : v.fuse ≤ 9223372036854775807) (hR : v.R.length ≤ 1000000) (hO : ∀ r ∈ v.R, r.m.O.length < 1000) (nt : Nat) :
    Gd (callL Try.prog ⟨false, [], 0, nt⟩ 26 [.p q 0, .int .i64 a, wd w] st) fun r => r.1 = .int .i64 ((absV v).storeE a) ∧ ∃ v', MStep q v v' st r.2 ∧ absV v' = (absV v).store a w := by
  rw [Gd_callL Try.func26 rfl]
  have hoff : (absV v).off = v.off := rfl
  have hfu : (absV v).fuse = v.fuse := rfl
  simp [evOp_call, sets, T.get_set]
  refine Gd.mono (mword_any st q v h a ha _) ?_
  rintro _ rfl
  unfold AS.store AS.storeE
  rw [hoff, hfu]
  by_cases ho : v.off = true
  · have hwv : wordV v a = .t [.c (.pointer none), .int .i64 0, .int .i64 14] := if_pos ho
    rw [hwv, if_pos ho, if_pos ho]
    simp [evOp_call, sets, T.get_set]
    exact ⟨v, MStep.refl h, rfl⟩
  · have ho' : v.off = false := by simpa using ho
    rw [if_neg ho, if_neg ho]
    by_cases hw : word8 v.R a
    · have hw2 := (abs_in8 v a).1 hw
      have hwv : wordV v a = .t [.p (lineOf v a).n 0, .int .i64 (a % 8), .int .i64 0] := by unfold wordV; rw [if_neg ho, if_pos hw]
      rw [hwv]
      simp [evOp_call, sets, T.get_set, hw2]
      refine Gd.mono (mburn_any st q v h ho' hf hR _) ?_
      rintro ⟨r, s1⟩ ⟨hr, x1⟩
      simp only at hr x1
      subst hr
      by_cases h1 : v.fuse = 1
      · simp [evOp_call, sets, T.get_set, h1]
        exact ⟨v.lit, x1, abs_lit v⟩
      · obtain ⟨e1, e2, e3, e4, e5, e6, e7, e8⟩ := lit_not1 h1
        have hlg : v.lit.R[(a / 8).toNat]? = some (lineOf v a) := by rw [e1]; exact lineOf_get hw
        obtain ⟨hln, hok⟩ := x1.at'.lines _ _ hlg
        simp [evOp_call, sets, T.get_set, h1]
        refine Gd.mono (store_any s1 _ _ _ hln (a % 8) w _ (hO _ (List.mem_of_getElem? (lineOf_get hw)))) ?_
        rintro ⟨r, s2⟩ ⟨hr, y', l1, l2, l3⟩
        simp only at hr l1 l2 l3
        subst hr
        have hok' : okL ((lineOf v a).m.store (a % 8) w) := by
          obtain ⟨f, hf1, hf2⟩ := hok
          unfold LM.store
          split
          · exact ⟨f, hf1, by show f ≤ (_ ++ [_]).length; rw [List.length_append]; omega⟩
          · exact ⟨f, hf1, hf2⟩
        have x2 := x1.trans (x1.at'.line hlg l1 l2 l3 hok')
        obtain ⟨t', p1, p2, p3, p4, p5, p6, p7, p8⟩ := x2.at'.blk
        have x3 := x2.at'.setF (t'.set 4 (.int .i64 (IntKind.i64.wrap (v.a + 1)))) v.lit.fuse (IntKind.i64.wrap (v.a + 1)) v.lit.b v.lit.c (by simp [memIs, T.get_set, *])
        simp only at p6
        rw [e3] at p6
        simp [evOp_call, sets, T.get_set, loadE_eq, getC_eq, p1, p6, putB_eq, roT]
        refine ⟨_, x2.trans x3, ?_⟩
        have hL : (absV v).L[(a / 8).toNat]? = some (lineOf v a).m := by
          show (v.R.map (·.m))[(a / 8).toNat]? = _
          rw [List.getElem?_map, lineOf_get hw]; rfl
        rw [← abs_lit, hL]
        show (⟨(v.lit.R.set (a / 8).toNat ⟨(lineOf v a).n, y', (lineOf v a).m.store (a % 8) w⟩).map (·.m), _, _, _, _, _, _⟩ : AS) = ⟨(v.R.map (·.m)).set (a / 8).toNat ((lineOf v a).m.store (a % 8) w), _, _, _, _, _, _⟩
        rw [List.map_set, e1]
        rfl
    · have hw2 : ¬ (absV v).in8 a := fun e => hw ((abs_in8 v a).2 e)
      have hwv : wordV v a = .t [.c (.pointer none), .int .i64 0, .int .i64 1] := by unfold wordV; rw [if_neg ho, if_neg hw]
      rw [hwv]
      simp [evOp_call, sets, T.get_set, hw2]
      exact ⟨v, MStep.refl h, rfl⟩
end Go.Proofs.Ytenncnbaoejekaa

/-
  Contracts of the document's own memory: On, a fall, the fuse, stores, loads, fences, flushes.
-/
import Derived.Test.YtenncnbaoejekaaRm
import Derived.Test.YtenncnbaoejekaaPmP
set_option linter.unusedSimpArgs false
namespace Go.Proofs.Ytenncnbaoejekaa
open Go.RowKit Ev
theorem rmon_any (st : St) (q : Nat) (v : RV) (h : RMemAt st q v) (nt : Nat) :
    Gd (callL Try.prog ⟨false, [], 0, nt⟩ 35 [.p q 0] st) fun r => r.1 = .t [] ∧ RMStep q v { v with off := false } st r.2 := by
  obtain ⟨t, h1, h2, h3, h4, h5, h6, h7, h8⟩ := h.blk
  rw [Gd_callL Try.func35 rfl]
  simp [sets, T.get_set, loadE_eq, getC_eq, h1, putB_eq, roT]
  obtain ⟨a1, a2⟩ := h.setB (v' := { v with off := false }) (t.set 1 (.bool false)) (by simp [rmemIs, T.get_set, *]) rfl rfl h.keep (fun k hk => ⟨fun e => h.q2 (by rw [← e]; exact hk), .inl hk⟩)
  exact ⟨a1, a2, fun k hk => .inl hk⟩
def absR (v : RV) : AS := ⟨v.R.map (·.m), v.off, v.fuse, v.K, v.a, v.b, v.c⟩
def fallAtM (K : List Int) (L : List LM) (i : Nat) (m : LM) : LM := if m.O.length = 0 then m else m.fall (K[cntM L i]?.getD 0)
def fallTo (K : List Int) (L : List LM) (j : Nat) : List LM := L.mapIdx fun i m => if i < j then fallAtM K L i m else m
theorem fallTo_length (K : List Int) (L : List LM) (j : Nat) : (fallTo K L j).length = L.length := by simp [fallTo]
theorem fallTo_get (K : List Int) (L : List LM) (j i : Nat) : (fallTo K L j)[i]? = L[i]?.map fun m => if i < j then fallAtM K L i m else m := by
  unfold fallTo; rw [List.getElem?_mapIdx]
theorem fallTo_zero (K : List Int) (L : List LM) : fallTo K L 0 = L := List.ext_getElem? fun i => by
  rw [fallTo_get]; cases L[i]? <;> simp
theorem fallTo_all (K : List Int) (L : List LM) : fallTo K L L.length = fallM K L := List.ext_getElem? fun i => by
  rw [fallTo_get]; unfold fallM; rw [List.getElem?_mapIdx]
  cases h : L[i]? with
  | none => rfl
  | some m => simp only [Option.map_some]; rw [if_pos (lt_of_get h)]; rfl
theorem fallTo_succ {K : List Int} {L : List LM} {j : Nat} {m : LM} (h : L[j]? = some m) : fallTo K L (j + 1) = (fallTo K L j).set j (fallAtM K L j m) := List.ext_getElem? fun i => by
  have hl := lt_of_get h
  rw [fallTo_get]
  by_cases e : j = i
  · subst e; rw [List.getElem?_set_self (by rw [fallTo_length]; exact hl), h]; simp
  · rw [List.getElem?_set_ne e, fallTo_get]
    cases hi : L[i]? with
    | none => rfl
    | some s =>
      simp only [Option.map_some]
      by_cases c : i < j
      · rw [if_pos c, if_pos (by omega)]
      · rw [if_neg c, if_neg (by omega)]
theorem cntM_le (L : List LM) (j : Nat) : cntM L j ≤ j := by
  unfold cntM
  exact Nat.le_trans (List.length_filter_le _ _) (by simp; omega)
theorem cntM_succ {L : List LM} {j : Nat} {m : LM} (h : L[j]? = some m) : cntM L (j + 1) = cntM L j + (if m.O.length = 0 then 0 else 1) := by
  unfold cntM
  rw [List.take_add_one, h]
  simp only [Option.toList_some, List.filter_append, List.length_append]
  congr 1
  by_cases hr : m.O.length = 0
  · rw [if_pos hr, List.filter_cons_of_neg (by simp [hr])]; rfl
  · rw [if_neg hr, List.filter_cons_of_pos (by simpa using hr)]; rfl
def AS.rfell (s : AS) (K : List Int) : AS := if s.off = true then s else { s with L := fallM K s.L, off := true, fuse := 0 }
theorem fall_eq (m : LM) (k : Int) : m.fall k = ⟨setAll m.S (m.O.take k.toNat), setAll m.S (m.O.take k.toNat), [], 0⟩ := by
  have e : m.O.take (max 0 (min k m.O.length)).toNat = m.O.take k.toNat := by
    by_cases h : k ≤ m.O.length
    · rw [Int.min_eq_left h, show (max 0 k).toNat = k.toNat by omega]
    · rw [List.take_of_length_le (i := k.toNat) (by omega), List.take_of_length_le (by omega)]
  unfold LM.fall
  rw [e]
def rcrI (st : St) (q : Nat) (v : RV) (x : V) (K : List Int) (e : Env) (s : St) : Prop := ∃ (j : Nat) (R' : List RR), j ≤ v.R.length ∧ e.get 0 = some (.p q 0) ∧ e.get 1 = some x ∧ e.get 4 = some (.int .i64 (cntM (v.R.map (·.m)) j : Int)) ∧ e.get 5 = some (.int .i64 (j : Int)) ∧ RMStep q v { v with R := R' } st s ∧ R'.map (·.m) = fallTo K (v.R.map (·.m)) j
theorem rfall_step {st s s' : St} {q j : Nat} {v : RV} {K : List Int} {R' : List RR} {r : RR} {ys' : V} {k : Int} (hs : RMStep q v { v with R := R' } st s) (hm : R'.map (·.m) = fallTo K (v.R.map (·.m)) j) (hr : R'[j]? = some r) (h0 : ¬ r.m.O.length = 0) (hk : k = K[cntM (v.R.map (·.m)) j]?.getD 0)
    (h1 : RefAt s' r.n ys' (.c (.slice none 0 0)) (r.m.fall k) 0) (h2 : RKept r.n s s') (h3 : ∀ q, Nm ys' q → s.nx ≤ q) : ∃ R'', RMStep q v { v with R := R'' } st s' ∧ R''.map (·.m) = fallTo K (v.R.map (·.m)) (j + 1) := by
  have hL : (v.R.map (·.m))[j]? = some r.m := by
    have := congrArg (fun l => l[j]?) hm
    simp only [List.getElem?_map, hr, fallTo_get] at this
    rw [List.getElem?_map]
    cases hv : v.R[j]? with
    | none => rw [hv] at this; cases this
    | some u =>
      rw [hv] at this
      simp only [Option.map_some, Nat.lt_irrefl, if_false] at this
      exact this.symm
  refine ⟨R'.set j ⟨r.n, ys', .c (.slice none 0 0), r.m.fall k⟩, hs.trans (hs.at'.line hr (r' := ⟨r.n, ys', .c (.slice none 0 0), r.m.fall k⟩) rfl ⟨0, h1, rfl, Nat.zero_le _⟩ h2 fun n hn => ?_), ?_⟩
  · rcases hn with rfl | hn | hn
    · exact .inl (.inl rfl)
    · exact .inr (h3 n hn)
    · exact absurd hn nm_nil
  · rw [List.map_set, hm, fallTo_succ hL]
    show (fallTo K _ j).set j (r.m.fall k) = _
    unfold fallAtM; rw [if_neg h0, hk]
set_option maxRecDepth 20000 in
set_option maxHeartbeats 4000000 in
theorem rmcrash_any (st : St) (q : Nat) (v : RV) (h : RMemAt st q v) (x : V) (K : List Int) (hx : ∀ st' R', RMStep q v { v with R := R' } st st' → RdRow st' x 1 K.length (ivs K)) (hR : v.R.length ≤ 1000000) (nt : Nat) :
    Gd (callL Try.prog ⟨false, [], 0, nt⟩ 33 [.p q 0, x] st) fun r => r.1 = .t [] ∧ ∃ v', RMStep q v v' st r.2 ∧ absR v' = (absR v).rfell K := by
  obtain ⟨t, h1, h2, h3, h4, h5, h6, h7, h8⟩ := h.blk
  rw [Gd_callL Try.func33 rfl]
  cases ho : v.off with
  | true =>
    rw [ho] at h3
    simp [sets, T.get_set, loadE_eq, getC_eq, h1, h3]
    exact ⟨v, RMStep.refl h, (if_pos (show (absR v).off = true from ho)).symm⟩
  | false =>
    rw [ho] at h3
    simp [evOp_call, sets, T.get_set, loadE_eq, getC_eq, h1, h2, h3, h.row.lenS]
    refine Gd_loop (rcrI st q v x K) (fun e _ => muAt 5 v.R.length e) ?_ ?_
    · exact ⟨0, v.R, Nat.zero_le _, by simp [T.get_set], by simp [T.get_set], by simp [T.get_set, cntM], by simp [T.get_set], RMStep.refl h, (fallTo_zero _ _).symm⟩
    · rintro e s ⟨j, R', hj, g0, g1, g4, g5, hs, hm⟩
      obtain ⟨t', p1, p2, p3, p4, p5, p6, p7, p8⟩ := hs.at'.blk
      have hRl : R'.length = v.R.length := by have := congrArg List.length hm; rw [fallTo_length] at this; simpa using this
      have hrow : RdRow s v.z 1 v.R.length (rptrs R') := by have := hs.at'.row; rw [show ({ v with R := R' } : RV).R.length = v.R.length from hRl] at this; exact this
      by_cases hlt : j < v.R.length
      · have hlt' : (j : Int) < v.R.length := by omega
        have hwj := wrap_nat (n := j) (by omega)
        have hxr := hx s _ hs
        obtain ⟨r, hr⟩ : ∃ r, R'[j]? = some r := ⟨_, List.getElem?_eq_getElem (by omega)⟩
        obtain ⟨m1, o1, ty1, sz1, t1, i1, b1, k1, l1, d1⟩ := hrow.idx (st := s) un47 io158 hlt
        have hp : t1.get o1 = some (.p r.n 0) := d1 0 _ (by omega) (by
          rw [Nat.mul_one, Nat.add_zero]; unfold rptrs
          rw [List.getElem?_map, hr]; rfl)
        obtain ⟨f, hln, hf1, hf2⟩ := hs.at'.lines j r hr
        have hL : (v.R.map (·.m))[j]? = some r.m := by
          have := congrArg (fun l => l[j]?) hm
          simp only [List.getElem?_map, hr, fallTo_get] at this
          rw [List.getElem?_map]
          cases hv : v.R[j]? with
          | none => rw [hv] at this; cases this
          | some u =>
            rw [hv] at this
            simp only [Option.map_some, Nat.lt_irrefl, if_false] at this
            exact this.symm
        have hcs := cntM_succ hL
        have hcl := cntM_le (v.R.map (·.m)) j
        simp [evOp_call, T.get_set, g0, g1, g4, g5, hlt', i1, loadE_eq, getC_eq, k1, hp, p1, p2, hrow.lenS]
        refine Gd.mono (ropen_any s r.n f r.ys r.yo r.m hln _ _) ?_
        rintro _ rfl
        by_cases h0 : r.m.O.length = 0
        · have h0' : (r.m.O.length : Int) = 0 := by omega
          rw [if_pos h0, Nat.add_zero] at hcs
          simp [evOp_call, T.get_set, g0, g1, g4, g5, h0', hwj]
          refine ⟨⟨j + 1, R', hlt, by simp [T.get_set, g0], by simp [T.get_set, g1], by simp [T.get_set, g4, hcs], by simp [T.get_set], hs, ?_⟩, muAt_lt g5 (by simp [T.get_set]) hlt⟩
          rw [hm, fallTo_succ hL]
          exact List.ext_getElem? fun i => by
            by_cases hij : j = i
            · subst hij; rw [List.getElem?_set_self (by rw [fallTo_length]; exact lt_of_get hL), fallTo_get, hL]; unfold fallAtM; rw [if_pos h0]; simp
            · rw [List.getElem?_set_ne hij]
        · have h0' : ¬ (r.m.O.length : Int) = 0 := by omega
          rw [if_neg h0] at hcs
          obtain ⟨c, hc⟩ : ∃ c, c = cntM (v.R.map (·.m)) j := ⟨_, rfl⟩
          rw [← hc] at g4 hcs hcl
          have w1 : IntKind.i64.wrap ((c : Int) + 1) = ((c + 1 : Nat) : Int) := by rw [show ((c : Int) + 1) = ((c + 1 : Nat) : Int) by omega]; exact wrap_in (by omega) (by omega)
          obtain ⟨c1, hc1⟩ : ∃ c1, c1 = c + 1 := ⟨_, rfl⟩
          rw [← hc1] at w1 hcs
          have hO : ¬ r.m.O = [] := fun e => h0 (by rw [e]; rfl)
          by_cases hck : c < K.length
          · have hck' : (c : Int) < K.length := by omega
            obtain ⟨m2, o2, ty2, sz2, t2, i2, b2, k2, l2, d2⟩ := hxr.idx (st := s) un32 io3 hck
            obtain ⟨kp, hkp⟩ : ∃ kp, K[c]? = some kp := ⟨_, List.getElem?_eq_getElem hck⟩
            have e2 : t2.get o2 = some (.int .i64 kp) := d2 0 _ (by omega) (by rw [Nat.mul_one, Nat.add_zero]; unfold ivs; rw [List.getElem?_map, hkp]; rfl)
            simp [evOp_call, T.get_set, g0, g1, g4, g5, h0', hO, hxr.lenS, hck', hck, i2, loadE_eq, getC_eq, k2, e2, p1, p2, i1, k1, hp]
            refine Gd.mono (rfall_any s r.n f r.ys r.yo r.m hln kp _) ?_
            rintro ⟨u, s2⟩ ⟨hu, ys', f1, f2, f3⟩
            simp only at hu f1 f2
            subst hu
            obtain ⟨R'', f4, f5⟩ := rfall_step hs hm hr h0 (by rw [← hc, hkp]; first | done | rfl) (by rw [fall_eq]; exact f1) f2 f3
            simp [evOp_call, T.get_set, g0, g1, g4, g5, w1, hwj]
            exact ⟨⟨j + 1, R'', hlt, by simp [T.get_set, g0], by simp [T.get_set, g1], by simp [T.get_set, hcs], by simp [T.get_set], f4, f5⟩, muAt_lt g5 (by simp [T.get_set]) hlt⟩
          · have hck' : ¬ (c : Int) < K.length := by omega
            have hkn : K[c]? = none := List.getElem?_eq_none (by omega)
            simp [evOp_call, T.get_set, g0, g1, g4, g5, h0', hO, hxr.lenS, hck', hck, loadE_eq, getC_eq, p1, p2, i1, k1, hp]
            refine Gd.mono (rfall_any s r.n f r.ys r.yo r.m hln 0 _) ?_
            rintro ⟨u, s2⟩ ⟨hu, ys', f1, f2, f3⟩
            simp only at hu f1 f2
            subst hu
            obtain ⟨R'', f4, f5⟩ := rfall_step hs hm hr h0 (by rw [← hc, hkn]; first | done | rfl) (by rw [fall_eq]; exact f1) f2 f3
            simp [evOp_call, T.get_set, g0, g1, g4, g5, w1, hwj]
            exact ⟨⟨j + 1, R'', hlt, by simp [T.get_set, g0], by simp [T.get_set, g1], by simp [T.get_set, hcs], by simp [T.get_set], f4, f5⟩, muAt_lt g5 (by simp [T.get_set]) hlt⟩
      · obtain rfl : j = v.R.length := by omega
        simp [evOp_call, sets, T.get_set, g0, g1, g4, g5, loadE_eq, getC_eq, p1, p2, hrow.lenS, putB_eq, roT]
        obtain ⟨a1, a2⟩ := hs.at'.setB (v' := { v with R := R', off := true, fuse := 0 }) ((t'.set 1 (.bool true)).set 2 (.int .i64 0)) (by simp [rmemIs, T.get_set, p2, p5, p6, p7, p8]) rfl rfl hs.at'.keep (fun k hk => ⟨fun e => hs.at'.q2 (by rw [← e]; exact hk), .inl hk⟩)
        refine ⟨_, hs.trans ⟨a1, a2, fun k hk => .inl hk⟩, ?_⟩
        rw [show (absR v).rfell K = { absR v with L := fallM K (absR v).L, off := true, fuse := 0 } from if_neg (by show ¬ v.off = true; rw [ho]; simp)]
        unfold absR
        simp only
        rw [hm, ← fallTo_all, List.length_map]
def AS.rlit (s : AS) : AS := if s.fuse < 1 then s else if 1 < s.fuse then { s with fuse := s.fuse - 1 } else ({ s with fuse := 0 } : AS).rfell s.K
theorem RMemAt.setF {st : St} {q : Nat} {v : RV} (h : RMemAt st q v) (t' : T V) (f a b c : Int) (ht : rmemIs t' { v with fuse := f, a := a, b := b, c := c }) :
    RMStep q v { v with fuse := f, a := a, b := b, c := c } st ⟨st.nx, st.h.set q (.cs 49 7 t')⟩ := by
  obtain ⟨a1, a2⟩ := h.setB (v' := { v with fuse := f, a := a, b := b, c := c }) t' ht rfl rfl h.keep (fun k hk => ⟨fun e => h.q2 (by rw [← e]; exact hk), .inl hk⟩)
  exact ⟨a1, a2, fun k hk => .inl hk⟩
theorem rmblown_any (st : St) (q : Nat) (v : RV) (h : RMemAt st q v) (hf : v.fuse ≤ 9223372036854775807) (hR : v.R.length ≤ 1000000) (nt : Nat) :
    Gd (callL Try.prog ⟨false, [], 0, nt⟩ 109 [.p q 0] st) fun r => r.1 = .bool (decide (v.fuse = 1)) ∧ ∃ v', RMStep q v v' st r.2 ∧ absR v' = (absR v).rlit := by
  obtain ⟨t, h1, h2, h3, h4, h5, h6, h7, h8⟩ := h.blk
  rw [Gd_callL Try.func109 rfl]
  have hfu : (absR v).fuse = v.fuse := rfl
  unfold AS.rlit
  rw [hfu]
  by_cases c1 : v.fuse < 1
  · have c2 : ¬ v.fuse = 1 := by omega
    simp [evOp_call, sets, T.get_set, loadE_eq, getC_eq, h1, h4, c1, c2]
    exact ⟨v, RMStep.refl h, rfl⟩
  · have w1 : IntKind.i64.wrap (v.fuse - 1) = v.fuse - 1 := wrap_in (by omega) (by omega)
    by_cases c2 : 1 < v.fuse
    · have c3 : ¬ v.fuse = 1 := by omega
      have c4 : 0 < v.fuse - 1 := by omega
      simp [evOp_call, sets, T.get_set, loadE_eq, getC_eq, h1, h4, c1, c2, c3, w1, c4, putB_eq, roT]
      exact ⟨_, h.setF _ (v.fuse - 1) v.a v.b v.c (by simp [rmemIs, T.get_set, *]), rfl⟩
    · have c3 : v.fuse = 1 := by omega
      have hs := h.setF (t.set 2 (.int .i64 0)) 0 v.a v.b v.c (by simp [rmemIs, T.get_set, *])
      obtain ⟨t', p1, p2, p3, p4, p5, p6, p7, p8⟩ := hs.at'.blk
      have w0 : IntKind.i64.wrap 0 = 0 := by decide
      simp [evOp_call, sets, T.get_set, loadE_eq, getC_eq, h1, h4, h5, c3, w0, putB_eq, roT]
      refine Gd.mono (rmcrash_any _ q _ hs.at' v.kz v.K (fun st' R' hs' => hs'.at'.keep) hR _) ?_
      rintro ⟨r, s1⟩ ⟨hr, v', x1, x2⟩
      simp only at hr x1
      subst hr
      simp [T.get_set]
      exact ⟨v', hs.trans x1, x2⟩
theorem rlit_not1 {s : AS} (h : ¬ s.fuse = 1) : s.rlit.L = s.L ∧ s.rlit.off = s.off ∧ s.rlit.a = s.a ∧ s.rlit.b = s.b ∧ s.rlit.c = s.c ∧ s.rlit.K = s.K := by
  unfold AS.rlit
  by_cases c1 : s.fuse < 1
  · rw [if_pos c1]; exact ⟨rfl, rfl, rfl, rfl, rfl, rfl⟩
  · rw [if_neg c1, if_pos (by omega)]; exact ⟨rfl, rfl, rfl, rfl, rfl, rfl⟩
theorem store_O {m : LM} {a : Int} {v : BitVec 64} (h : 0 ≤ a ∧ a < 8) : (m.store a v).O = m.O ++ [(a, v)] := by unfold LM.store; rw [if_pos h]
def AS.rstore (s : AS) (a : Int) (w : BitVec 64) : AS := if s.off = true then s else if s.in8 a then (if s.fuse = 1 then s.rlit else { s.rlit with L := s.L.set (a / 8).toNat ((s.L[(a / 8).toNat]?.getD LM0).store (a % 8) w), a := IntKind.i64.wrap (s.a + 1) }) else s
/-- the line of a word -/
theorem RMemAt.at8 {st : St} {q : Nat} {v : RV} (h : RMemAt st q v) {i : Nat} (hi : i < v.R.length) : ∃ (r : RR) (f : Nat), v.R[i]? = some r ∧ (absR v).L[i]? = some r.m ∧ RefAt st r.n r.ys r.yo r.m f ∧ r.m.F = f ∧ f ≤ r.m.O.length ∧ (rptrs v.R)[i * 1 + 0]? = some (.p r.n 0) := by
  obtain ⟨r, hr⟩ : ∃ r, v.R[i]? = some r := ⟨_, List.getElem?_eq_getElem hi⟩
  obtain ⟨f, h1, h2, h3⟩ := h.lines i r hr
  refine ⟨r, f, hr, by show (v.R.map (·.m))[i]? = _; rw [List.getElem?_map, hr]; rfl, h1, h2, h3, ?_⟩
  rw [Nat.mul_one, Nat.add_zero]; unfold rptrs; rw [List.getElem?_map, hr]; rfl
set_option maxRecDepth 20000 in
set_option maxHeartbeats 4000000 in
theorem rmload_any (st : St) (q : Nat) (v : RV) (h : RMemAt st q v) (hok : ∀ m ∈ (absR v).L, okP m) (a : Int) (ha : -9223372036854775808 ≤ a ∧ a ≤ 9223372036854775807) (hR : v.R.length ≤ 1000000) (nt : Nat) :
    Gd (callL Try.prog ⟨false, [], 0, nt⟩ 39 [.p q 0, .int .i64 a] st) fun r => r = (.t [wd ((absR v).load a), .int .i64 ((absR v).loadE a)], st) := by
  obtain ⟨t, h1, h2, h3, h4, h5, h6, h7, h8⟩ := h.blk
  rw [Gd_callL Try.func39 rfl]
  have hoff : (absR v).off = v.off := rfl
  have hLl : (absR v).L.length = v.R.length := by show (v.R.map _).length = _; simp
  have wl : IntKind.i64.wrap (8 * (v.R.length : Int)) = 8 * (v.R.length : Int) := wrap_in (by omega) (by omega)
  unfold AS.load AS.loadE
  rw [hoff]
  cases ho : v.off with
  | true =>
    rw [ho] at h3
    simp [evOp_call, sets, T.get_set, loadE_eq, getC_eq, h1, h3, wd_0]
  | false =>
    rw [ho] at h3
    by_cases c1 : a < 0
    · have hw : ¬ (absR v).in8 a := fun h => by have := h.1; omega
      simp [evOp_call, sets, T.get_set, loadE_eq, getC_eq, h1, h3, c1, hw, wd_0]
    · by_cases c2 : 8 * (v.R.length : Int) ≤ a
      · have hw : ¬ (absR v).in8 a := fun h => by have := h.2; rw [hLl] at this; omega
        simp [evOp_call, sets, T.get_set, loadE_eq, getC_eq, h1, h2, h3, c1, c2, hw, wd_0, h.row.lenS, wl]
      · have hw : (absR v).in8 a := ⟨by omega, by rw [hLl]; omega⟩
        have hd : a.tdiv 8 = a / 8 := Int.tdiv_eq_ediv_of_nonneg (by omega)
        have hm : a.tmod 8 = a % 8 := Int.tmod_eq_emod_of_nonneg (by omega)
        obtain ⟨i, hi⟩ : ∃ i : Nat, a / 8 = (i : Int) := ⟨(a / 8).toNat, by omega⟩
        have w1 : IntKind.i64.wrap (i : Int) = (i : Int) := wrap_in (by omega) (by omega)
        have w2 : IntKind.i64.wrap (a % 8) = a % 8 := wrap_in (by omega) (by omega)
        have hlt : i < v.R.length := by omega
        obtain ⟨r, f, r1, r2, r3, r4, r5, r6⟩ := h.at8 hlt
        obtain ⟨m1, o1, ty1, sz1, t1, i1, b1, k1, l1, d1⟩ := h.row.idx (st := st) un47 io158 hlt
        have hp : t1.get o1 = some (.p r.n 0) := d1 0 _ (by omega) r6
        simp [evOp_call, sets, T.get_set, loadE_eq, getC_eq, h1, h2, h3, c1, c2, hw, wd_0, h.row.lenS, wl, hd, hm, hi, w1, w2, i1, k1, hp]
        refine Gd.mono (rload_any st r.n f r.ys r.yo r.m r3 (a % 8) _ _) ?_
        rintro _ rfl
        have hN := (hok r.m (List.mem_of_getElem? r2)).n
        rw [if_pos ⟨by omega, by omega⟩, ← hN]
        simp [evOp_call, sets, T.get_set, r2]
set_option maxRecDepth 20000 in
set_option maxHeartbeats 4000000 in
theorem rmstore_any (st : St) (q : Nat) (v : RV) (h : RMemAt st q v) (a : Int) (w : BitVec 64) (ha : -9223372036854775808 ≤ a ∧ a ≤ 9223372036854775807) (hf : v.fuse ≤ 9223372036854775807) (hR : v.R.length ≤ 1000000) (hO : ∀ r ∈ v.R, r.m.O.length < 1000) (nt : Nat) :
    Gd (callL Try.prog ⟨false, [], 0, nt⟩ 27 [.p q 0, .int .i64 a, wd w] st) fun r => r.1 = .int .i64 ((absR v).storeE a) ∧ ∃ v', RMStep q v v' st r.2 ∧ absR v' = (absR v).rstore a w := by
  obtain ⟨t, h1, h2, h3, h4, h5, h6, h7, h8⟩ := h.blk
  rw [Gd_callL Try.func27 rfl]
  have hoff : (absR v).off = v.off := rfl
  have hfu : (absR v).fuse = v.fuse := rfl
  have hLl : (absR v).L.length = v.R.length := by show (v.R.map _).length = _; simp
  have wl : IntKind.i64.wrap (8 * (v.R.length : Int)) = 8 * (v.R.length : Int) := wrap_in (by omega) (by omega)
  unfold AS.rstore AS.storeE
  rw [hoff, hfu]
  cases ho : v.off with
  | true =>
    rw [ho] at h3
    simp [evOp_call, sets, T.get_set, loadE_eq, getC_eq, h1, h3]
    exact ⟨v, RMStep.refl h, rfl⟩
  | false =>
    rw [ho] at h3
    by_cases c1 : a < 0
    · have hw : ¬ (absR v).in8 a := fun h => by have := h.1; omega
      simp [evOp_call, sets, T.get_set, loadE_eq, getC_eq, h1, h3, c1, hw]
      exact ⟨v, RMStep.refl h, rfl⟩
    · by_cases c2 : 8 * (v.R.length : Int) ≤ a
      · have hw : ¬ (absR v).in8 a := fun h => by have := h.2; rw [hLl] at this; omega
        simp [evOp_call, sets, T.get_set, loadE_eq, getC_eq, h1, h2, h3, c1, c2, hw, h.row.lenS, wl]
        exact ⟨v, RMStep.refl h, rfl⟩
      · have hw : (absR v).in8 a := ⟨by omega, by rw [hLl]; omega⟩
        have hd : a.tdiv 8 = a / 8 := Int.tdiv_eq_ediv_of_nonneg (by omega)
        have hm : a.tmod 8 = a % 8 := Int.tmod_eq_emod_of_nonneg (by omega)
        obtain ⟨i, hi⟩ : ∃ i : Nat, a / 8 = (i : Int) := ⟨(a / 8).toNat, by omega⟩
        have w1 : IntKind.i64.wrap (i : Int) = (i : Int) := wrap_in (by omega) (by omega)
        have w2 : IntKind.i64.wrap (a % 8) = a % 8 := wrap_in (by omega) (by omega)
        have hlt : i < v.R.length := by omega
        simp [evOp_call, sets, T.get_set, loadE_eq, getC_eq, h1, h2, h3, c1, c2, hw, h.row.lenS, wl]
        refine Gd.mono (rmblown_any st q v h hf hR _) ?_
        rintro ⟨r, s1⟩ ⟨hr, v1, x1, x2⟩
        simp only at hr x1
        subst hr
        by_cases hf1 : v.fuse = 1
        · simp [evOp_call, sets, T.get_set, hf1]
          exact ⟨v1, x1, x2⟩
        · obtain ⟨e1, e2, e3, e4, e5, e6⟩ := rlit_not1 (s := absR v) hf1
          rw [← x2] at e1 e2 e3
          have ea : v1.a = v.a := e3
          have el : v1.R.length = v.R.length := by have := congrArg List.length e1; simpa [absR] using this
          obtain ⟨t1, p1, p2, p3, p4, p5, p6, p7, p8⟩ := x1.at'.blk
          have xF := x1.at'.setF (t1.set 4 (.int .i64 (IntKind.i64.wrap (v1.a + 1)))) v1.fuse (IntKind.i64.wrap (v1.a + 1)) v1.b v1.c (by simp [rmemIs, T.get_set, *])
          obtain ⟨t2, y1, y2, y3, y4, y5, y6, y7, y8⟩ := xF.at'.blk
          obtain ⟨r, f, r1, r2, r3, r4, r5, r6⟩ := xF.at'.at8 (i := i) (by show i < v1.R.length; omega)
          obtain ⟨m1, o1, ty1, sz1, tt1, i1, b1, k1, l1, d1⟩ := xF.at'.row.idx (st := ⟨s1.nx, s1.h.set q (.cs 49 7 (t1.set 4 (.int .i64 (IntKind.i64.wrap (v1.a + 1)))))⟩) un47 io158 (i := i) (by show i < v1.R.length; omega)
          have hp : tt1.get o1 = some (.p r.n 0) := d1 0 _ (by omega) r6
          have k1' : (if q = m1 then some (B.cs 49 7 (t1.set 4 (V.c (Value.int IntKind.i64 (IntKind.i64.wrap (v1.a + 1)))))) else s1.h.get m1) = some (.cs ty1 sz1 tt1) := by rw [← T.get_set]; exact k1
          simp [evOp_call, sets, T.get_set, hf1, k1', loadE_eq, getC_eq, p1, p2, p6, putB_eq, roT, hd, hm, hi, w1, w2, i1, k1, hp]
          have hmem : r.m.O.length < 1000 := by
            have hr2 : (absR v).L[i]? = some r.m := by rw [← e1]; exact r2
            have : r.m ∈ v.R.map (·.m) := List.mem_of_getElem? hr2
            obtain ⟨r0, h0, h00⟩ := List.mem_map.1 this
            rw [← h00]; exact hO r0 h0
          refine Gd.mono (rstore_any _ r.n f r.ys r.yo r.m r3 hmem r5 (a % 8) w _) ?_
          rintro ⟨b, s2⟩ ⟨hb, yo', f1, f2, f3⟩
          simp only at hb f1 f2
          subst hb
          simp [T.get_set]
          have ha8 : 0 ≤ a % 8 ∧ a % 8 < 8 := ⟨by omega, by omega⟩
          have hst := store_O (m := r.m) (v := w) ha8
          have hstF : (r.m.store (a % 8) w).F = r.m.F := by unfold LM.store; rw [if_pos ha8]
          refine ⟨_, (x1.trans xF).trans (xF.at'.line r1 (r' := ⟨r.n, r.ys, yo', r.m.store (a % 8) w⟩) rfl ⟨f, f1, hstF.trans r4, ?_⟩ f2 fun k hk => ?_), ?_⟩
          · show f ≤ (r.m.store (a % 8) w).O.length
            rw [hst, List.length_append]; omega
          · rcases hk with hk | hk | hk
            · exact .inl (.inl hk)
            · exact .inl (.inr (.inl hk))
            · rcases f3 k hk with e | e
              · exact .inl (.inr (.inr e))
              · exact .inr e
          · have hL : (absR v).L[i]? = some r.m := by rw [← e1]; exact r2
            rw [← x2, hL]
            unfold absR
            simp only [List.map_set]
            have e1' : v1.R.map (·.m) = v.R.map (·.m) := e1
            rw [e1', ea]
            rfl
theorem RMStep.row {q : Nat} {v v' : RV} {s s' : St} {x : V} {z n : Nat} {l : List V} (k : RMStep q v v' s s') (h : RdRow s x z n l) (hn : ∀ k, Nm x k → ¬ RMOw q v k) : RdRow s' x z n l := h.other k.kept.le fun m hm => k.kept.keep m (h.nm_lt hm) (hn m hm)
theorem eachN_self {f : LM → LM} {R' : List RR} {L : List LM} {j : Nat} {r : RR} (hm : R'.map (·.m) = eachN f L j) (hr : R'[j]? = some r) : L[j]? = some r.m := by
  have := congrArg (fun l => l[j]?) hm
  simp only [List.getElem?_map, hr, eachN_get] at this
  cases hv : L[j]? with
  | none => rw [hv] at this; cases this
  | some u =>
    rw [hv] at this
    simp only [Option.map_some, Nat.lt_irrefl, if_false] at this
    exact this.symm
def AS.rfence (s : AS) : AS := if s.off = true then s else if s.fuse = 1 then s.rlit else { s.rlit with L := s.L.map fenceM, c := IntKind.i64.wrap (s.c + 1) }
def rfeI (st : St) (q : Nat) (u : RV) (e : Env) (s : St) : Prop := ∃ (j : Nat) (R' : List RR), j ≤ u.R.length ∧ e.get 0 = some (.p q 0) ∧ e.get 3 = some (.int .i64 (j : Int)) ∧ RMStep q u { u with R := R' } st s ∧ R'.map (·.m) = eachN fenceM (u.R.map (·.m)) j
set_option maxRecDepth 20000 in
set_option maxHeartbeats 4000000 in
theorem rmfence_any (st : St) (q : Nat) (v : RV) (h : RMemAt st q v) (hf : v.fuse ≤ 9223372036854775807) (hR : v.R.length ≤ 1000000) (nt : Nat) :
    Gd (callL Try.prog ⟨false, [], 0, nt⟩ 31 [.p q 0] st) fun r => r.1 = .int .i64 (absR v).fenceE ∧ ∃ v', RMStep q v v' st r.2 ∧ absR v' = (absR v).rfence := by
  obtain ⟨t, h1, h2, h3, h4, h5, h6, h7, h8⟩ := h.blk
  rw [Gd_callL Try.func31 rfl]
  have hoff : (absR v).off = v.off := rfl
  have hfu : (absR v).fuse = v.fuse := rfl
  unfold AS.rfence AS.fenceE
  rw [hoff, hfu]
  cases ho : v.off with
  | true =>
    rw [ho] at h3
    simp [evOp_call, sets, T.get_set, loadE_eq, getC_eq, h1, h3]
    exact ⟨v, RMStep.refl h, rfl⟩
  | false =>
    rw [ho] at h3
    simp [evOp_call, sets, T.get_set, loadE_eq, getC_eq, h1, h3]
    refine Gd.mono (rmblown_any st q v h hf hR _) ?_
    rintro ⟨r, s1⟩ ⟨hr, v1, x1, x2⟩
    simp only at hr x1
    subst hr
    by_cases hf1 : v.fuse = 1
    · simp [evOp_call, sets, T.get_set, hf1]
      exact ⟨v1, x1, x2⟩
    · obtain ⟨e1, e2, e3, e4, e5, e6⟩ := rlit_not1 (s := absR v) hf1
      rw [← x2] at e1 e5
      have ea : v1.c = v.c := e5
      have el : v1.R.length = v.R.length := by have := congrArg List.length e1; simpa [absR] using this
      obtain ⟨t1, p1, p2, p3, p4, p5, p6, p7, p8⟩ := x1.at'.blk
      have xF := x1.at'.setF (t1.set 6 (.int .i64 (IntKind.i64.wrap (v1.c + 1)))) v1.fuse v1.a v1.b (IntKind.i64.wrap (v1.c + 1)) (by simp [rmemIs, T.get_set, *])
      simp [evOp_call, sets, T.get_set, hf1, loadE_eq, getC_eq, p1, p8, putB_eq, roT]
      obtain ⟨u, hu⟩ : ∃ u : RV, u = { v1 with fuse := v1.fuse, a := v1.a, b := v1.b, c := IntKind.i64.wrap (v1.c + 1) } := ⟨_, rfl⟩
      rw [← hu] at xF
      obtain ⟨sF, hsF⟩ : ∃ sF : St, sF = ⟨s1.nx, s1.h.set q (.cs 49 7 (t1.set 6 (.int .i64 (IntKind.i64.wrap (v1.c + 1)))))⟩ := ⟨_, rfl⟩
      rw [← hsF] at xF
      have huR : u.R = v1.R := by rw [hu]
      refine Gd_loop (rfeI sF q u) (fun e _ => muAt 3 u.R.length e) ?_ ?_
      · exact ⟨0, u.R, Nat.zero_le _, by simp [T.get_set], by simp [T.get_set], by rw [hsF] at xF ⊢; exact RMStep.refl xF.at', rfl⟩
      · rintro e s ⟨j, R', hj, g0, g3, hs, hm⟩
        obtain ⟨t2, y1, y2, y3, y4, y5, y6, y7, y8⟩ := hs.at'.blk
        have hRl : R'.length = u.R.length := by have := congrArg List.length hm; rw [eachN_length] at this; simpa using this
        have hrow : RdRow s u.z 1 u.R.length (rptrs R') := by have := hs.at'.row; rw [show ({ u with R := R' } : RV).R.length = u.R.length from hRl] at this; exact this
        by_cases hlt : j < u.R.length
        · have hlt' : (j : Int) < u.R.length := by omega
          have hwj := wrap_nat (n := j) (by rw [huR] at hlt; omega)
          obtain ⟨r, f, r1, r2, r3, r4, r5, r6⟩ := hs.at'.at8 (i := j) (by show j < R'.length; omega)
          obtain ⟨m1, o1, ty1, sz1, tt1, i1, b1, k1, l1, d1⟩ := hrow.idx (st := s) un47 io158 hlt
          have hp : tt1.get o1 = some (.p r.n 0) := d1 0 _ (by omega) r6
          simp [evOp_call, T.get_set, g0, g3, hlt', i1, loadE_eq, getC_eq, k1, hp, y1, y2, hrow.lenS]
          refine Gd.mono (rfence_any s r.n f r.ys r.yo r.m r3 r5 _) ?_
          rintro ⟨x, s2⟩ ⟨hx, ys', yo', l1, l2, l3, l4⟩
          simp only at hx l1 l2
          subst hx
          have hfm : fenceM r.m = ⟨setAll r.m.S (r.m.O.take f), r.m.N, r.m.O.drop f, 0⟩ := by unfold fenceM; rw [r4]; rfl
          simp [evOp_call, T.get_set, g0, g3, hwj]
          refine ⟨⟨j + 1, _, hlt, by simp [T.get_set, g0], by simp [T.get_set], hs.trans (hs.at'.line r1 (r' := ⟨r.n, ys', yo', fenceM r.m⟩) rfl ⟨0, by rw [hfm]; exact l1, rfl, Nat.zero_le _⟩ l2 fun k hk => ?_), ?_⟩, muAt_lt g3 (by simp [T.get_set]) hlt⟩
          · rcases hk with hk | hk | hk
            · exact .inl (.inl hk)
            · exact .inr (l3 k hk)
            · exact .inl (.inr (.inr (l4 k hk)))
          · show (R'.set j _).map (·.m) = _
            rw [List.map_set, hm, eachN, eachN_self hm r1]
        · obtain rfl : j = u.R.length := by omega
          simp [evOp_call, sets, T.get_set, g0, g3, loadE_eq, getC_eq, y1, y2, hrow.lenS]
          refine ⟨_, (x1.trans xF).trans hs, ?_⟩
          have hlen : u.R.length = (u.R.map (·.m)).length := by simp
          rw [hlen, eachN_all] at hm
          rw [← x2]
          have e1' : v1.R.map (·.m) = v.R.map (·.m) := e1
          unfold absR
          simp only
          rw [hm, huR, e1', hu, ea]
def AS.rflush (s : AS) (ls : List Int) : AS := if s.off = true then s else if s.may ls then (if s.fuse = 1 then s.rlit else { s.rlit with L := flushL s.L ls, b := IntKind.i64.wrap (s.b + 1) }) else s
def rflK (st : St) (q : Nat) (x : V) (n : Nat) (ls : List Int) (e : Env) (s : St) : Prop := ∃ k : Nat, k ≤ ls.length ∧ e.get 0 = some (.p q 0) ∧ e.get 1 = some x ∧ e.get 5 = some (.int .i64 (k : Int)) ∧ (∀ i ∈ ls.take k, 0 ≤ i ∧ i < (n : Int)) ∧ s = st
def rflJ (st : St) (q : Nat) (u : RV) (x : V) (ls : List Int) (e : Env) (s : St) : Prop := ∃ (k : Nat) (R' : List RR), k ≤ ls.length ∧ e.get 0 = some (.p q 0) ∧ e.get 1 = some x ∧ e.get 6 = some (.int .i64 (k : Int)) ∧ RMStep q u { u with R := R' } st s ∧ R'.map (·.m) = flushL (u.R.map (·.m)) (ls.take k)
set_option maxRecDepth 20000 in
set_option maxHeartbeats 4000000 in
theorem rmflush_any (st : St) (q : Nat) (v : RV) (h : RMemAt st q v) (x : V) (ls : List Int) (hx : RdRow st x 1 ls.length (ivs ls)) (hxn : ∀ k, Nm x k → ¬ RMOw q v k) (hls : ls.length ≤ 1000000) (hf : v.fuse ≤ 9223372036854775807) (hR : v.R.length ≤ 1000000) (nt : Nat) :
    Gd (callL Try.prog ⟨false, [], 0, nt⟩ 29 [.p q 0, x] st) fun r => r.1 = .int .i64 ((absR v).flushE ls) ∧ ∃ v', RMStep q v v' st r.2 ∧ absR v' = (absR v).rflush ls := by
  obtain ⟨t, h1, h2, h3, h4, h5, h6, h7, h8⟩ := h.blk
  rw [Gd_callL Try.func29 rfl]
  have hoff : (absR v).off = v.off := rfl
  have hfu : (absR v).fuse = v.fuse := rfl
  have hlenL : (absR v).L.length = v.R.length := by simp [absR]
  unfold AS.rflush AS.flushE
  rw [hoff, hfu]
  cases ho : v.off with
  | true =>
    rw [ho] at h3
    simp [evOp_call, sets, T.get_set, loadE_eq, getC_eq, h1, h3]
    exact ⟨v, RMStep.refl h, rfl⟩
  | false =>
    rw [ho] at h3
    simp [evOp_call, sets, T.get_set, loadE_eq, getC_eq, h1, h3]
    refine Gd_loop (rflK st q x v.R.length ls) (fun e _ => muAt 5 ls.length e) ?_ ?_
    · exact ⟨0, Nat.zero_le _, by simp [T.get_set], by simp [T.get_set], by simp [T.get_set], fun i hi => by simp at hi, rfl⟩
    · rintro e s ⟨k, hk, g0, g1, g5, hok, rfl⟩
      by_cases hlt : k < ls.length
      · have hlt' : (k : Int) < ls.length := by omega
        have hwk := wrap_nat (n := k) (by omega)
        obtain ⟨m1, o1, ty1, sz1, t1, i1, b1, k1, l1, d1⟩ := hx.idx (st := s) un32 io3 hlt
        obtain ⟨i, hi⟩ : ∃ i, ls[k]? = some i := ⟨_, List.getElem?_eq_getElem hlt⟩
        have hp : t1.get o1 = some (.int .i64 i) := d1 0 _ (by omega) (ivs_get hi)
        simp [evOp_call, T.get_set, g0, g1, g5, hlt', hx.lenS]
        refine ⟨by kernel_rfl, ?_⟩
        by_cases c1 : i < 0
        · have hno : ¬ (absR v).may ls := fun e => by have := (e i (List.mem_of_getElem? hi)).1; omega
          simp [evOp_call, T.get_set, g0, g1, g5, hlt', i1, loadE_eq, getC_eq, k1, hp, c1, hno]
          exact ⟨v, RMStep.refl h, rfl⟩
        · by_cases c2 : (v.R.length : Int) ≤ i
          · have hno : ¬ (absR v).may ls := fun e => by have := (e i (List.mem_of_getElem? hi)).2; rw [hlenL] at this; omega
            simp [evOp_call, T.get_set, g0, g1, g5, hlt', i1, loadE_eq, getC_eq, k1, hp, c1, h1, h2, h.row.lenS, c2, hno]
            exact ⟨v, RMStep.refl h, rfl⟩
          · simp [evOp_call, T.get_set, g0, g1, g5, hlt', i1, loadE_eq, getC_eq, k1, hp, c1, h1, h2, h.row.lenS, c2, hwk]
            exact ⟨⟨k + 1, hlt, by simp [T.get_set, g0], by simp [T.get_set, g1], by simp [T.get_set], mem_take1 hi hok ⟨by omega, by omega⟩, rfl⟩, muAt_lt g5 (by simp [T.get_set]) hlt⟩
      · obtain rfl : k = ls.length := by omega
        rw [List.take_length] at hok
        have hyes : (absR v).may ls := fun i hi => by rw [hlenL]; exact hok i hi
        simp [evOp_call, T.get_set, g0, g1, g5, hyes, hx.lenS]
        refine Gd.mono (rmblown_any s q v h hf hR _) ?_
        rintro ⟨r, s1⟩ ⟨hr, v1, x1, x2⟩
        simp only at hr x1
        subst hr
        by_cases hf1 : v.fuse = 1
        · simp [evOp_call, sets, T.get_set, hf1]
          exact ⟨v1, x1, x2⟩
        · obtain ⟨e1, e2, e3, e4, e5, e6⟩ := rlit_not1 (s := absR v) hf1
          rw [← x2] at e1 e4
          have ea : v1.b = v.b := e4
          have el : v1.R.length = v.R.length := by have := congrArg List.length e1; simpa [absR] using this
          obtain ⟨t1, p1, p2, p3, p4, p5, p6, p7, p8⟩ := x1.at'.blk
          have xF := x1.at'.setF (t1.set 5 (.int .i64 (IntKind.i64.wrap (v1.b + 1)))) v1.fuse v1.a (IntKind.i64.wrap (v1.b + 1)) v1.c (by simp [rmemIs, T.get_set, *])
          simp [evOp_call, sets, T.get_set, g0, g1, hf1, loadE_eq, getC_eq, p1, p7, putB_eq, roT]
          obtain ⟨u, hu⟩ : ∃ u : RV, u = { v1 with fuse := v1.fuse, a := v1.a, b := IntKind.i64.wrap (v1.b + 1), c := v1.c } := ⟨_, rfl⟩
          rw [← hu] at xF
          obtain ⟨sF, hsF⟩ : ∃ sF : St, sF = ⟨s1.nx, s1.h.set q (.cs 49 7 (t1.set 5 (.int .i64 (IntKind.i64.wrap (v1.b + 1)))))⟩ := ⟨_, rfl⟩
          rw [← hsF] at xF
          have huR : u.R = v1.R := by rw [hu]
          have x1F := x1.trans xF
          have hx1 := x1F.row hx hxn
          have hxn1 : ∀ k, Nm x k → ¬ RMOw q u k := fun k hk e => by
            rcases x1F.own k e with e | e
            · exact hxn k hk e
            · have := hx.nm_lt hk; omega
          refine Gd_loop (rflJ sF q u x ls) (fun e _ => muAt 6 ls.length e) ?_ ?_
          · exact ⟨0, u.R, Nat.zero_le _, by simp [T.get_set, g0], by simp [T.get_set, g1], by simp [T.get_set], by rw [hsF] at xF ⊢; exact RMStep.refl xF.at', rfl⟩
          · rintro en s2 ⟨k, R', hk2, f0, f1, f6, hs, hm⟩
            obtain ⟨t2, y1, y2, y3, y4, y5, y6, y7, y8⟩ := hs.at'.blk
            have hRl : R'.length = u.R.length := by have := congrArg List.length hm; rw [flushL_length] at this; simpa using this
            have hrow : RdRow s2 u.z 1 u.R.length (rptrs R') := by have := hs.at'.row; rw [show ({ u with R := R' } : RV).R.length = u.R.length from hRl] at this; exact this
            have hxs := hs.row hx1 hxn1
            by_cases hlt : k < ls.length
            · have hlt' : (k : Int) < ls.length := by omega
              have hwk := wrap_nat (n := k) (by omega)
              obtain ⟨m1, o1, ty1, sz1, t1, i1, b1, k1, l1, d1⟩ := hxs.idx (st := s2) un32 io3 hlt
              obtain ⟨i, hi⟩ : ∃ i, ls[k]? = some i := ⟨_, List.getElem?_eq_getElem hlt⟩
              have hp : t1.get o1 = some (.int .i64 i) := d1 0 _ (by omega) (ivs_get hi)
              obtain ⟨hi1, hi2⟩ := hok i (List.mem_of_getElem? hi)
              obtain ⟨n, rfl⟩ := Int.eq_ofNat_of_zero_le hi1
              have hnu : n < u.R.length := by rw [huR]; omega
              obtain ⟨r, f, r1, r2, r3, r4, r5, r6⟩ := hs.at'.at8 (i := n) (by show n < R'.length; omega)
              obtain ⟨m3, o3, ty3, sz3, t3, i3, b3, k3, l3, d3⟩ := hrow.idx (st := s2) un47 io158 hnu
              have hp3 : t3.get o3 = some (.p r.n 0) := d3 0 _ (by omega) r6
              simp [evOp_call, T.get_set, f0, f1, f6, hlt', hxs.lenS]
              refine ⟨by kernel_rfl, ?_⟩
              simp [evOp_call, T.get_set, f0, f1, f6, hlt', i1, loadE_eq, getC_eq, k1, hp, y1, y2, i3, k3, hp3]
              rw [cxOf_call (by kernel_rfl) (by kernel_rfl), forb_nil]
              refine Gd.mono (rflush_any s2 r.n f r.ys r.yo r.m r3 _) ?_
              rintro ⟨w, s3⟩ ⟨hw, yo', f2, f3, f4⟩
              simp only at hw f2 f3
              subst hw
              simp [evOp_call, T.get_set, f0, f1, f6, hwk]
              have hrF : RefAt s3 r.n r.ys yo' (flushM r.m) r.m.O.length := ⟨f2.ls, f2.lt, f2.a1, f2.a2, f2.a3, f2.small, f2.oks, f2.blk, f2.sr, f2.orow⟩
              refine ⟨⟨k + 1, _, hlt, by simp [T.get_set, f0], by simp [T.get_set, f1], by simp [T.get_set], hs.trans (hs.at'.line r1 (r' := ⟨r.n, r.ys, yo', flushM r.m⟩) rfl ⟨r.m.O.length, hrF, rfl, Nat.le_refl _⟩ f3 fun k hk => ?_), ?_⟩, muAt_lt f6 (by simp [T.get_set]) hlt⟩
              · rcases hk with hk | hk | hk
                · exact .inl (.inl hk)
                · exact .inl (.inr (.inl hk))
                · exact .inr (f4 k hk)
              · show (R'.set n _).map (·.m) = _
                rw [List.map_set, flushL_take hi, ← hm]
                show _ = (R'.map (·.m)).set n (flushM ((R'.map (·.m))[n]?.getD LM0))
                rw [List.getElem?_map, r1]
                rfl
            · obtain rfl : k = ls.length := by omega
              rw [List.take_length] at hm
              simp [evOp_call, sets, T.get_set, f0, f1, f6, hxs.lenS]
              refine ⟨_, x1F.trans hs, ?_⟩
              rw [← x2]
              have e1' : v1.R.map (·.m) = v.R.map (·.m) := e1
              unfold absR
              simp only
              rw [hm, huR, e1', hu, ea]
end Go.Proofs.Ytenncnbaoejekaa

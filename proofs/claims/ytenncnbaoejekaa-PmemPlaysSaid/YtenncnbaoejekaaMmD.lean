/-
  Contracts of package pmem: loads, flushes, fences, words.
-/
import Derived.Test.YtenncnbaoejekaaMmC
set_option linter.unusedSimpArgs false
namespace Go.Proofs.Ytenncnbaoejekaa
open Go.RowKit Ev
/-- a row of words that was made with room -/
def CRow (b : Nat) (st : St) (x : V) (n c : Nat) (L : List (BitVec 64)) : Prop := L.length = n ∧ n ≤ c ∧ ∃ m ty t, x = .sl m 0 n c ∧ b ≤ m ∧ m < st.nx ∧ st.h.get m = some (.cs ty c t) ∧ ty ≠ roT ∧ ∀ j v, L[j]? = some v → t.get j = some (wd v)
theorem CRow.rd {b n c : Nat} {st : St} {x : V} {L : List (BitVec 64)} (h : CRow b st x n c L) : RdRow st x 1 n (wv L) := by
  obtain ⟨h1, hc, m, ty, t, rfl, h2, h3, h4, h5, h6⟩ := h
  refine ⟨by simp [h1], .inr (.inl ⟨m, 0, c, ty, c, t, rfl, h3, h4, by omega, fun j v hj => ?_⟩)⟩
  unfold wv at hj
  rw [List.getElem?_map] at hj
  cases hq : L[j]? with
  | none => rw [hq] at hj; cases hj
  | some w => rw [hq] at hj; injection hj with hj; subst hj; rw [Nat.zero_add]; exact h6 j w hq
theorem CRow.ext {b n c : Nat} {st st' : St} {x : V} {L : List (BitVec 64)} (h : CRow b st x n c L) (k : Ext st.nx st st') : CRow b st' x n c L := by
  obtain ⟨h1, hc, m, ty, t, rfl, h2, h3, h4, h5⟩ := h
  exact ⟨h1, hc, m, ty, t, rfl, h2, Nat.lt_of_lt_of_le h3 k.le, (k.keep _ h3).trans h4, h5⟩
theorem Gd_appendW {P : Program} {st : St} {b t t' el el' n c nt : Nat} {s x : V} {L : List (BitVec 64)} {w : BitVec 64} {Q : V × St → Prop} (hu : P.underlying t = some (.slice el)) (hk : P.underlying t' = some (.slice el')) (hi : infoOk P el 1 = true)
    (h : CRow b st s n c L) (hn : n < c) (hx : ∀ s', x ≠ .s s') (hl : ∀ k : Nat → Res, lenA x k = k 1) (hf : ∀ k : List V → Res, firsts ⟨false, [], 0, nt⟩ st 1 1 x k = k [wd w]) (hmax : n + 1 ≤ 1073741824)
    (hQ : ∀ s' st', CRow b st' s' (n + 1) c (L ++ [w]) → Ext b st st' → Q (s', st')) : Gd (builtinE P ⟨false, [], 0, nt⟩ .append [t, t'] [s, x] st) Q := by
  obtain ⟨h1, hc, m, ty, tr, rfl, h2, h3, h4, h5, h6⟩ := h
  have e1 : builtinE P ⟨false, [], 0, nt⟩ .append [t, t'] [.sl m 0 n c, x] st = appE ⟨false, [], 0, nt⟩ st el 1 n 1 (.sl m 0 n c) [wd w] := by
    unfold builtinE
    simp only [elemOf_ok hu hi, lenA_sl, hk]
    cases x with
    | s s' => exact absurd rfl (hx s')
    | _ => simp only [hl, hf, infoOk_small hi hmax]
  rw [e1]
  unfold appE
  rw [fn_eq]
  have hble : Nat.ble (n + 1) c = true := by rw [Nat.ble_eq]; omega
  simp only [hble, fn_eq]
  have hsz : 0 + n * 1 + [wd w].length ≤ c := by simp; omega
  rw [putB_eq]
  have hcok : (⟨false, [], 0, nt⟩ : Cx).ok m = true := rfl
  rw [hcok, h4]
  simp only [cond_true, Option.bind_some, csK_cs]
  rw [if_pos ⟨hsz, h5, Nat.zero_le _⟩]
  refine ⟨_, rfl, hQ _ _ ⟨by simp [h1], by omega, m, ty, _, rfl, h2, h3, T.get_set_same _ _ _, h5, fun j v hj => ?_⟩ ((Ext.refl b st).set h2 h3 _)⟩
  show (tr.set (0 + n * 1) (wd w)).get j = _
  rw [T.get_set]
  by_cases hj2 : 0 + n * 1 = j
  · rw [if_pos hj2]
    rw [List.getElem?_append_right (by omega), show j - L.length = 0 by omega] at hj
    injection hj with hj
    rw [← hj]
  · rw [if_neg hj2]
    have := lt_of_get hj
    simp at this
    rw [List.getElem?_append_left (by omega)] at hj
    exact h6 j v hj
def AS.load (s : AS) (a : Int) : BitVec 64 := if s.off = true then 0#64 else if s.in8 a then ((s.L[(a / 8).toNat]?.getD LM0).N[(a % 8).toNat]?.getD 0#64) else 0#64
def AS.loadE (s : AS) (a : Int) : Int := if s.off = true then 14 else if s.in8 a then 0 else 1
theorem mload_any (st : St) (q : Nat) (v : MV) (h : MemAt st q v) (a : Int) (ha : -9223372036854775808 ≤ a ∧ a ≤ 9223372036854775807) (nt : Nat) :
    Gd (callL Try.prog ⟨false, [], 0, nt⟩ 38 [.p q 0, .int .i64 a] st) fun r => r = (.t [wd ((absV v).load a), .int .i64 ((absV v).loadE a)], st) := by
  rw [Gd_callL Try.func38 rfl]
  simp [evOp_call, sets, T.get_set]
  refine Gd.mono (mword_any st q v h a ha _) ?_
  rintro _ rfl
  have hoff : (absV v).off = v.off := rfl
  unfold AS.load AS.loadE
  rw [hoff]
  by_cases ho : v.off = true
  · have hwv : wordV v a = .t [.c (.pointer none), .int .i64 0, .int .i64 14] := if_pos ho
    rw [hwv, if_pos ho, if_pos ho]
    simp [evOp_call, sets, T.get_set, wd_0]
  · rw [if_neg ho, if_neg ho]
    by_cases hw : word8 v.R a
    · have hw2 := (abs_in8 v a).1 hw
      have hwv : wordV v a = .t [.p (lineOf v a).n 0, .int .i64 (a % 8), .int .i64 0] := by unfold wordV; rw [if_neg ho, if_pos hw]
      have hL : (absV v).L[(a / 8).toNat]? = some (lineOf v a).m := by
        show (v.R.map (·.m))[(a / 8).toNat]? = _
        rw [List.getElem?_map, lineOf_get hw]; rfl
      rw [hwv, hL]
      simp [evOp_call, sets, T.get_set, hw2]
      refine Gd.mono (load_any st _ _ _ (h.lines _ _ (lineOf_get hw)).1 (a % 8) _) ?_
      rintro _ rfl
      rw [if_pos ⟨by omega, by omega⟩]
      simp [evOp_call, sets, T.get_set]
    · have hw2 : ¬ (absV v).in8 a := fun e => hw ((abs_in8 v a).2 e)
      have hwv : wordV v a = .t [.c (.pointer none), .int .i64 0, .int .i64 1] := by unfold wordV; rw [if_neg ho, if_neg hw]
      rw [hwv]
      simp [evOp_call, sets, T.get_set, hw2, wd_0]
def fenceM (m : LM) : LM := ⟨setAll m.S (m.O.take m.F.toNat), m.N, m.O.drop m.F.toNat, 0⟩
def AS.fence (s : AS) : AS := if s.off = true then s else if s.fuse = 1 then s.lit else { s.lit with L := s.L.map fenceM, c := IntKind.i64.wrap (s.c + 1) }
def AS.fenceE (s : AS) : Int := if s.off = true then 14 else if s.fuse = 1 then 14 else 0
/-- every line by itself, from the first on -/
def eachN (f : LM → LM) (L : List LM) : Nat → List LM
  | 0 => L
  | j + 1 => match L[j]? with
    | some m => (eachN f L j).set j (f m)
    | none => eachN f L j
theorem eachN_length (f : LM → LM) (L : List LM) : ∀ j, (eachN f L j).length = L.length
  | 0 => rfl
  | j + 1 => by unfold eachN; split <;> simp [eachN_length f L j]
theorem eachN_get (f : LM → LM) (L : List LM) : ∀ (j i : Nat), (eachN f L j)[i]? = (L[i]?).map fun m => if i < j then f m else m
  | 0, i => by
    show L[i]? = _
    cases L[i]? <;> simp
  | j + 1, i => by
    have ih := eachN_get f L j i
    have hl := eachN_length f L j
    have e : eachN f L (j + 1) = match L[j]? with | some m => (eachN f L j).set j (f m) | none => eachN f L j := rfl
    rw [e]
    cases hj : L[j]? with
    | none =>
      simp only
      rw [ih]
      cases hi : L[i]? with
      | none => rfl
      | some r =>
        have h1 := lt_of_get hi
        have h2 : L.length ≤ j := List.getElem?_eq_none_iff.1 hj
        simp only [Option.map_some]
        rw [if_pos (by omega), if_pos (by omega)]
    | some r =>
      simp only
      have h1 := lt_of_get hj
      by_cases hij : j = i
      · subst hij
        rw [List.getElem?_set_self (by omega), hj]
        simp
      · rw [List.getElem?_set_ne hij, ih]
        cases hi : L[i]? with
        | none => rfl
        | some s =>
          simp only [Option.map_some]
          by_cases c : i < j
          · rw [if_pos c, if_pos (by omega)]
          · rw [if_neg c, if_neg (by omega)]
theorem eachN_all (f : LM → LM) (L : List LM) : eachN f L L.length = L.map f := by
  apply List.ext_getElem?
  intro i
  rw [eachN_get, List.getElem?_map]
  cases h : L[i]? with
  | none => rfl
  | some m => simp only [Option.map_some]; rw [if_pos (lt_of_get h)]
/-- the same, but for its lines -/
def Same (u v : MV) : Prop := v.z = u.z ∧ v.off = u.off ∧ v.fuse = u.fuse ∧ v.K = u.K ∧ v.a = u.a ∧ v.b = u.b ∧ v.c = u.c ∧ v.R.length = u.R.length
theorem Same.refl (u : MV) : Same u u := ⟨rfl, rfl, rfl, rfl, rfl, rfl, rfl, rfl⟩
theorem Same.set {u v : MV} (h : Same u v) (i : Nat) (r : LR) : Same u { v with R := v.R.set i r } := by
  obtain ⟨h1, h2, h3, h4, h5, h6, h7, h8⟩ := h
  exact ⟨h1, h2, h3, h4, h5, h6, h7, by simp [h8]⟩
theorem Same.abs {u v : MV} (h : Same u v) {X : List LM} (hX : v.R.map (·.m) = X) : absV v = { absV u with L := X } := by
  obtain ⟨h1, h2, h3, h4, h5, h6, h7, h8⟩ := h
  unfold absV
  rw [hX, h2, h3, h4, h5, h6, h7]
def feI (st : St) (q : Nat) (v : MV) (e : Env) (s : St) : Prop := ∃ (j : Nat) (v' : MV), j ≤ v.R.length ∧ e.get 0 = some (.p q 0) ∧ e.get 16 = some v.z ∧ e.get 17 = some (.int .i64 (v.R.length : Int)) ∧ e.get 18 = some (.int .i64 (j : Int)) ∧
  MStep q v v' st s ∧ Same v v' ∧ (∀ i, j ≤ i → v'.R[i]? = v.R[i]?) ∧ v'.R.map (·.m) = eachN fenceM (v.R.map (·.m)) j
set_option maxRecDepth 20000 in
set_option maxHeartbeats 4000000 in
theorem mfence_any (st : St) (q : Nat) (v : MV) (h : MemAt st q v) (hf : v.fuse ≤ 9223372036854775807) (hR : v.R.length ≤ 1000000) (nt : Nat) :
    Gd (callL Try.prog ⟨false, [], 0, nt⟩ 30 [.p q 0] st) fun r => r.1 = .int .i64 (absV v).fenceE ∧ ∃ v', MStep q v v' st r.2 ∧ absV v' = (absV v).fence := by
  obtain ⟨t, h1, h2, h3, h4, h5, h6, h7, h8⟩ := h.blk
  rw [Gd_callL Try.func30 rfl]
  have hoff : (absV v).off = v.off := rfl
  have hfu : (absV v).fuse = v.fuse := rfl
  unfold AS.fence AS.fenceE
  rw [hoff, hfu]
  by_cases ho : v.off = true
  · rw [if_pos ho, if_pos ho]
    simp [evOp_call, sets, T.get_set, loadE_eq, getC_eq, h1, h3, ho]
    exact ⟨v, MStep.refl h, rfl⟩
  · have ho' : v.off = false := by simpa using ho
    rw [if_neg ho, if_neg ho]
    simp [evOp_call, sets, T.get_set, loadE_eq, getC_eq, h1, h3, ho']
    refine Gd.mono (mburn_any st q v h ho' hf hR _) ?_
    rintro ⟨r, s1⟩ ⟨hr, x1⟩
    simp only at hr x1
    subst hr
    by_cases hf1 : v.fuse = 1
    · simp [evOp_call, sets, T.get_set, hf1]
      exact ⟨v.lit, x1, abs_lit v⟩
    · obtain ⟨e1, e2, e3, e4, e5, e6, e7, e8⟩ := lit_not1 hf1
      have hm1 := x1.at'
      generalize hu : v.lit = u at x1 hm1 e1 e2 e3 e4 e5 e6 e7 e8
      obtain ⟨t', p1, p2, p3, p4, p5, p6, p7, p8⟩ := hm1.blk
      have hRu : u.R.length ≤ 1000000 := by rw [e1]; exact hR
      simp [evOp_call, sets, T.get_set, hf1, loadE_eq, getC_eq, p1, p2, hm1.row.lenS]
      refine Gd_loop (feI s1 q u) (fun e _ => muAt 18 u.R.length e) ?_ ?_
      · exact ⟨0, u, Nat.zero_le _, by simp [T.get_set], by simp [T.get_set], by simp [T.get_set], by simp [T.get_set], MStep.refl hm1, Same.refl _, fun _ _ => rfl, rfl⟩
      · rintro e s ⟨j, v', hj, g0, g16, g17, g18, hs, hsm, er, ea⟩
        by_cases hlt : j < u.R.length
        · have hlt' : (j : Int) < u.R.length := by omega
          have hwj := wrap_nat (n := j) (by omega)
          obtain ⟨r, hr⟩ : ∃ r, u.R[j]? = some r := ⟨_, List.getElem?_eq_getElem hlt⟩
          have hrj : v'.R[j]? = some r := by rw [er j (Nat.le_refl _)]; exact hr
          have hrow := hs.at'.row
          rw [hsm.1, hsm.2.2.2.2.2.2.2] at hrow
          obtain ⟨m1, o1, ty1, sz1, t1, i1, b1, k1, l1, d1⟩ := hrow.idx (st := s) un164 io160 hlt
          have hp : t1.get o1 = some (.p r.n 0) := d1 0 _ (by omega) (by
            rw [Nat.mul_one, Nat.add_zero]; unfold ptrs
            rw [List.getElem?_map, hrj]; rfl)
          obtain ⟨hln, f, hf1, hf2⟩ := hs.at'.lines j r hrj
          simp [evOp_call, T.get_set, g0, g16, g17, g18, hlt', i1, loadE_eq, getC_eq, k1, hp]
          refine Gd.mono (fence_any s r.n r.y r.m hln f hf1 hf2 _) ?_
          rintro ⟨x, s2⟩ ⟨hx, y', l1, l2, l3⟩
          simp only at hx l1 l2 l3
          subst hx
          have hfm : fenceM r.m = ⟨setAll r.m.S (r.m.O.take f), r.m.N, r.m.O.drop f, 0⟩ := by unfold fenceM; rw [hf1]; rfl
          simp [evOp_call, T.get_set, g0, g16, g17, g18, hwj]
          refine ⟨⟨j + 1, _, hlt, by simp [T.get_set, g0], by simp [T.get_set, g16], by simp [T.get_set, g17], by simp [T.get_set], hs.trans (hs.at'.line hrj l1 l2 l3 ⟨0, rfl, Nat.zero_le _⟩), hsm.set _ _, fun i hi => ?_, ?_⟩, muAt_lt g18 (by simp [T.get_set]) hlt⟩
          · show (v'.R.set j _)[i]? = _
            rw [List.getElem?_set_ne (by omega)]
            exact er i (by omega)
          · show (v'.R.set j _).map (·.m) = _
            have hmj : (u.R.map (·.m))[j]? = some r.m := by rw [List.getElem?_map, hr]; rfl
            rw [List.map_set, ea, eachN, hmj]
            simp only [hfm]
        · obtain rfl : j = u.R.length := by omega
          obtain ⟨t2, w1, w2, w3, w4, w5, w6, w7, w8⟩ := hs.at'.blk
          have hx3 := hs.at'.setF (t2.set 6 (.int .i64 (IntKind.i64.wrap (v'.c + 1)))) v'.fuse v'.a v'.b (IntKind.i64.wrap (v'.c + 1)) (by simp [memIs, T.get_set, w2, w3, w4, w5, w6, w7])
          simp [evOp_call, sets, T.get_set, g0, g16, g17, g18, loadE_eq, getC_eq, w1, w8, putB_eq, roT]
          refine ⟨_, (x1.trans hs).trans hx3, ?_⟩
          have hlen : u.R.length = (u.R.map (·.m)).length := by simp
          rw [hlen, eachN_all] at ea
          have hcc : v'.c = (absV v).c := by rw [hsm.2.2.2.2.2.2.1, e5]; rfl
          have hab := hsm.abs ea
          rw [← abs_lit, hu, ← hcc]
          have hLL : (absV v).L = (absV u).L := by unfold absV; rw [e1]
          rw [hLL]
          have : absV ({ v' with fuse := v'.fuse, a := v'.a, b := v'.b, c := IntKind.i64.wrap (v'.c + 1) } : MV) = { absV v' with c := IntKind.i64.wrap (v'.c + 1) } := rfl
          rw [this, hab]
          rfl
end Go.Proofs.Ytenncnbaoejekaa

/-
  Contracts of package pmem: flushes, fuses, words.
-/
import Derived.Test.YtenncnbaoejekaaMmD
set_option linter.unusedSimpArgs false
namespace Go.Proofs.Ytenncnbaoejekaa
open Go.RowKit Ev
theorem MStep.row {q z n : Nat} {v v' : MV} {s s' : St} {x : V} {l : List V} (h : MStep q v v' s s') (hx : RdRow s x z n l) (hn : ∀ k, Nm x k → ¬ MOw q v k) : RdRow s' x z n l :=
  hx.other h.kept.le fun k hk => h.kept.keep k (hx.nm_lt hk) (hn k hk)
def flushM (m : LM) : LM := { m with F := m.O.length }
def flushL (L : List LM) (ls : List Int) : List LM := ls.foldl (fun L i => L.set i.toNat (flushM (L[i.toNat]?.getD LM0))) L
theorem flushL_length (ls : List Int) : ∀ L, (flushL L ls).length = L.length := by
  induction ls with
  | nil => intro L; rfl
  | cons i ls ih => intro L; show (flushL (L.set _ _) ls).length = _; rw [ih, List.length_set]
theorem flushL_take {L : List LM} {ls : List Int} {k : Nat} {i : Int} (h : ls[k]? = some i) : flushL L (ls.take (k + 1)) = (flushL L (ls.take k)).set i.toNat (flushM ((flushL L (ls.take k))[i.toNat]?.getD LM0)) := by
  unfold flushL; rw [List.take_add_one, h]; simp
def AS.may (s : AS) (ls : List Int) : Prop := ∀ i ∈ ls, 0 ≤ i ∧ i < s.L.length
instance (s : AS) (ls : List Int) : Decidable (s.may ls) := by unfold AS.may; infer_instance
def AS.flush (s : AS) (ls : List Int) : AS := if s.off = true then s else if s.may ls then (if s.fuse = 1 then s.lit else { s.lit with L := flushL s.L ls, b := IntKind.i64.wrap (s.b + 1) }) else s
def AS.flushE (s : AS) (ls : List Int) : Int := if s.off = true then 14 else if s.may ls then (if s.fuse = 1 then 14 else 0) else 1
def flI (st : St) (q : Nat) (x : V) (n : Nat) (ls : List Int) (e : Env) (s : St) : Prop := ∃ k : Nat, k ≤ ls.length ∧ e.get 0 = some (.p q 0) ∧ e.get 1 = some x ∧ e.get 13 = some x ∧ e.get 14 = some (.int .i64 (ls.length : Int)) ∧ e.get 15 = some (.int .i64 (k : Int)) ∧ (∀ i ∈ ls.take k, 0 ≤ i ∧ i < (n : Int)) ∧ s = st
def flJ (st : St) (q : Nat) (v : MV) (x : V) (ls : List Int) (e : Env) (s : St) : Prop := ∃ (k : Nat) (v' : MV), k ≤ ls.length ∧ e.get 0 = some (.p q 0) ∧ e.get 1 = some x ∧ e.get 33 = some x ∧ e.get 34 = some (.int .i64 (ls.length : Int)) ∧ e.get 35 = some (.int .i64 (k : Int)) ∧
  MStep q v v' st s ∧ Same v v' ∧ v'.R.map (·.m) = flushL (v.R.map (·.m)) (ls.take k)
theorem ivs_get {K : List Int} {i : Nat} {k : Int} (h : K[i]? = some k) : (ivs K)[i * 1 + 0]? = some (.int .i64 k) := by
  rw [Nat.mul_one, Nat.add_zero]; unfold ivs; rw [List.getElem?_map, h]; rfl
theorem ptrs_get {R : List LR} {i : Nat} {r : LR} (h : R[i]? = some r) : (ptrs R)[i * 1 + 0]? = some (.p r.n 0) := by
  rw [Nat.mul_one, Nat.add_zero]; unfold ptrs; rw [List.getElem?_map, h]; rfl
theorem mem_take1 {α : Type} {K : List α} {k : Nat} {r : α} (h : K[k]? = some r) {P : α → Prop} (h1 : ∀ q ∈ K.take k, P q) (h2 : P r) : ∀ q ∈ K.take (k + 1), P q := by
  intro q hq
  rw [List.take_add_one, h] at hq
  rcases List.mem_append.1 hq with hq | hq
  · exact h1 q hq
  · simp at hq; subst hq; exact h2
set_option maxRecDepth 20000 in
set_option maxHeartbeats 4000000 in
theorem mflush_any (st : St) (q : Nat) (v : MV) (h : MemAt st q v) (x : V) (ls : List Int) (hx : RdRow st x 1 ls.length (ivs ls)) (hxn : ∀ k, Nm x k → ¬ MOw q v k) (hls : ls.length ≤ 1000000) (hf : v.fuse ≤ 9223372036854775807) (hR : v.R.length ≤ 1000000) (nt : Nat) :
    Gd (callL Try.prog ⟨false, [], 0, nt⟩ 28 [.p q 0, x] st) fun r => r.1 = .int .i64 ((absV v).flushE ls) ∧ ∃ v', MStep q v v' st r.2 ∧ absV v' = (absV v).flush ls := by
  obtain ⟨t, h1, h2, h3, h4, h5, h6, h7, h8⟩ := h.blk
  rw [Gd_callL Try.func28 rfl]
  have hoff : (absV v).off = v.off := rfl
  have hfu : (absV v).fuse = v.fuse := rfl
  have hlenL : (absV v).L.length = v.R.length := by simp [absV]
  unfold AS.flush AS.flushE
  rw [hoff, hfu]
  by_cases ho : v.off = true
  · rw [if_pos ho, if_pos ho]
    simp [evOp_call, sets, T.get_set, loadE_eq, getC_eq, h1, h3, ho]
    exact ⟨v, MStep.refl h, rfl⟩
  · have ho' : v.off = false := by simpa using ho
    rw [if_neg ho, if_neg ho]
    simp [evOp_call, sets, T.get_set, loadE_eq, getC_eq, h1, h3, ho', hx.lenS]
    refine Gd_loop (flI st q x v.R.length ls) (fun e _ => muAt 15 ls.length e) ?_ ?_
    · exact ⟨0, Nat.zero_le _, by simp [T.get_set], by simp [T.get_set], by simp [T.get_set], by simp [T.get_set], by simp [T.get_set], fun i hi => by simp at hi, rfl⟩
    · rintro e s ⟨k, hk, g0, g1, g13, g14, g15, hok, rfl⟩
      by_cases hlt : k < ls.length
      · have hlt' : (k : Int) < ls.length := by omega
        have hwk := wrap_nat (n := k) (by omega)
        obtain ⟨m1, o1, ty1, sz1, t1, i1, b1, k1, l1, d1⟩ := hx.idx (st := s) un32 io3 hlt
        obtain ⟨i, hi⟩ : ∃ i, ls[k]? = some i := ⟨_, List.getElem?_eq_getElem hlt⟩
        have hp : t1.get o1 = some (.int .i64 i) := d1 0 _ (by omega) (ivs_get hi)
        by_cases c1 : i < 0
        · have hno : ¬ (absV v).may ls := fun e => by have := (e i (List.mem_of_getElem? hi)).1; omega
          simp [evOp_call, T.get_set, g0, g1, g13, g14, g15, hlt', i1, loadE_eq, getC_eq, k1, hp, c1, hno]
          exact ⟨v, MStep.refl h, rfl⟩
        · by_cases c2 : (v.R.length : Int) ≤ i
          · have hno : ¬ (absV v).may ls := fun e => by have := (e i (List.mem_of_getElem? hi)).2; rw [hlenL] at this; omega
            simp [evOp_call, T.get_set, g0, g1, g13, g14, g15, hlt', i1, loadE_eq, getC_eq, k1, hp, c1, h1, h2, h.row.lenS, c2, hno]
            exact ⟨v, MStep.refl h, rfl⟩
          · simp [evOp_call, T.get_set, g0, g1, g13, g14, g15, hlt', i1, loadE_eq, getC_eq, k1, hp, c1, h1, h2, h.row.lenS, c2, hwk]
            exact ⟨⟨k + 1, hlt, by simp [T.get_set, g0], by simp [T.get_set, g1], by simp [T.get_set, g13], by simp [T.get_set, g14], by simp [T.get_set], mem_take1 hi hok ⟨by omega, by omega⟩, rfl⟩, muAt_lt g15 (by simp [T.get_set]) hlt⟩
      · obtain rfl : k = ls.length := by omega
        rw [List.take_length] at hok
        have hyes : (absV v).may ls := fun i hi => by rw [hlenL]; exact hok i hi
        simp [evOp_call, T.get_set, g0, g1, g13, g14, g15, hyes]
        refine Gd.mono (mburn_any s q v h ho' hf hR _) ?_
        rintro ⟨r, s1⟩ ⟨hr, x1⟩
        simp only at hr x1
        subst hr
        by_cases hf1 : v.fuse = 1
        · simp [evOp_call, sets, T.get_set, hf1]
          exact ⟨v.lit, x1, abs_lit v⟩
        · obtain ⟨e1, e2, e3, e4, e5, e6, e7, e8⟩ := lit_not1 hf1
          have hm1 := x1.at'
          have hx1 := x1.row hx hxn
          have hxn1 : ∀ k, Nm x k → ¬ MOw q v.lit k := fun k hk e => by
            rcases x1.own k e with e | e
            · exact hxn k hk e
            · have := hx.nm_lt hk; omega
          generalize hu : v.lit = u at x1 hm1 e1 e2 e3 e4 e5 e6 e7 e8 hxn1
          simp [evOp_call, sets, T.get_set, g0, g1, hf1, hx.lenS]
          refine Gd_loop (flJ s1 q u x ls) (fun e _ => muAt 35 ls.length e) ?_ ?_
          · exact ⟨0, u, Nat.zero_le _, by simp [T.get_set, g0], by simp [T.get_set, g1], by simp [T.get_set], by simp [T.get_set], by simp [T.get_set], MStep.refl hm1, Same.refl _, rfl⟩
          · rintro en s2 ⟨k, v', hk2, f0, f1, f33, f34, f35, hs, hsm, ea⟩
            by_cases hlt : k < ls.length
            · have hlt' : (k : Int) < ls.length := by omega
              have hwk := wrap_nat (n := k) (by omega)
              have hxs := hs.row hx1 hxn1
              obtain ⟨m1, o1, ty1, sz1, t1, i1, b1, k1, l1, d1⟩ := hxs.idx (st := s2) un32 io3 hlt
              obtain ⟨i, hi⟩ : ∃ i, ls[k]? = some i := ⟨_, List.getElem?_eq_getElem hlt⟩
              have hp : t1.get o1 = some (.int .i64 i) := d1 0 _ (by omega) (ivs_get hi)
              obtain ⟨hi1, hi2⟩ := hok i (List.mem_of_getElem? hi)
              obtain ⟨n, rfl⟩ := Int.eq_ofNat_of_zero_le hi1
              have hnu : n < v'.R.length := by rw [hsm.2.2.2.2.2.2.2, e1]; omega
              obtain ⟨r, hr⟩ : ∃ r, v'.R[n]? = some r := ⟨_, List.getElem?_eq_getElem hnu⟩
              obtain ⟨t2, p1, p2, p3, p4, p5, p6, p7, p8⟩ := hs.at'.blk
              have hrow := hs.at'.row
              obtain ⟨m3, o3, ty3, sz3, t3, i3, b3, k3, l3, d3⟩ := hrow.idx (st := s2) un164 io160 hnu
              have hp3 : t3.get o3 = some (.p r.n 0) := d3 0 _ (by omega) (ptrs_get hr)
              obtain ⟨hln, f, hf1, hf2⟩ := hs.at'.lines n r hr
              simp [evOp_call, T.get_set, f0, f1, f33, f34, f35, hlt', i1, loadE_eq, getC_eq, k1, hp, p1, p2, i3, k3, hp3]
              refine Gd.mono (flush_any s2 r.n r.y r.m hln _) ?_
              rintro ⟨w, s3⟩ ⟨hw, l1, l2⟩
              simp only at hw l1 l2
              subst hw
              simp [evOp_call, T.get_set, f0, f1, f33, f34, f35, hwk]
              refine ⟨⟨k + 1, _, hlt, by simp [T.get_set, f0], by simp [T.get_set, f1], by simp [T.get_set, f33], by simp [T.get_set, f34], by simp [T.get_set], hs.trans (hs.at'.line hr l1 l2 (fun k hk => .inl hk) ⟨r.m.O.length, rfl, Nat.le_refl _⟩), hsm.set _ _, ?_⟩, muAt_lt f35 (by simp [T.get_set]) hlt⟩
              show (v'.R.set n _).map (·.m) = _
              rw [List.map_set, flushL_take hi, ← ea]
              show _ = (v'.R.map (·.m)).set n (flushM ((v'.R.map (·.m))[n]?.getD LM0))
              rw [List.getElem?_map, hr]
              rfl
            · obtain rfl : k = ls.length := by omega
              rw [List.take_length] at ea
              obtain ⟨t2, w1, w2, w3, w4, w5, w6, w7, w8⟩ := hs.at'.blk
              have hx3 := hs.at'.setF (t2.set 5 (.int .i64 (IntKind.i64.wrap (v'.b + 1)))) v'.fuse v'.a (IntKind.i64.wrap (v'.b + 1)) v'.c (by simp [memIs, T.get_set, w2, w3, w4, w5, w6, w8])
              simp [evOp_call, sets, T.get_set, f0, f1, f33, f34, f35, loadE_eq, getC_eq, w1, w7, putB_eq, roT]
              refine ⟨_, (x1.trans hs).trans hx3, ?_⟩
              have hcc : v'.b = (absV v).b := by rw [hsm.2.2.2.2.2.1, e4]; rfl
              have hab := hsm.abs ea
              rw [← abs_lit, hu, ← hcc]
              have hLL : (absV v).L = (absV u).L := by unfold absV; rw [e1]
              rw [hLL]
              have : absV ({ v' with fuse := v'.fuse, a := v'.a, b := IntKind.i64.wrap (v'.b + 1), c := v'.c } : MV) = { absV v' with b := IntKind.i64.wrap (v'.b + 1) } := rfl
              rw [this, hab]
              rfl
end Go.Proofs.Ytenncnbaoejekaa

/-
  Contracts of package pmem: memories made.
-/
import Derived.Test.YtdoennkmcloalaaMmAF
import Derived.Test.YtdoennkmcloalaaDrw
set_option linter.unusedSimpArgs false
namespace Go.Proofs.Ytdoennkmcloalaa
open Go.RowKit Ev
/-- a memory that was made behind st, and nothing else changed -/
structure MLive (st s : St) (q : Nat) (v : MV) : Prop where
  at' : MemAt s q v
  own : ∀ k, MOw q v k → st.nx ≤ k
  ext : Ext st.nx st s
theorem MLive.step {st s s' : St} {q : Nat} {v v' : MV} (h : MLive st s q v) (k : MStep q v v' s s') : MLive st s' q v' :=
  ⟨k.at', k.own_ge h.ext.le h.own, h.ext.trans (k.ext h.ext.le h.own)⟩
theorem MLive.more {st s s' : St} {q : Nat} {v : MV} (h : MLive st s q v) (k : Ext s.nx s s') : MLive st s' q v := ⟨h.at'.ext k, h.own, h.ext.trans (k.mono h.ext.le)⟩
/-- a row that is not the memory's -/
def RowAp (s : St) (q : Nat) (v : MV) (x : V) (z n : Nat) (l : List V) : Prop := RdRow s x z n l ∧ ∀ k, Nm x k → ¬ MOw q v k
theorem RowAp.step {s s' : St} {q z n : Nat} {v v' : MV} {x : V} {l : List V} (h : RowAp s q v x z n l) (k : MStep q v v' s s') : RowAp s' q v' x z n l :=
  ⟨k.row h.1 h.2, fun m hm e => by
    rcases k.own m e with e | e
    · exact h.2 m hm e
    · have := h.1.nm_lt hm; omega⟩
theorem RowAp.more {s s' : St} {q z n : Nat} {v : MV} {x : V} {l : List V} (h : RowAp s q v x z n l) (k : Ext s.nx s s') : RowAp s' q v x z n l := ⟨h.1.ext k, h.2⟩
theorem MLive.row {st s : St} {q z n : Nat} {v : MV} {x : V} {l : List V} (h : MLive st s q v) (hx : RdRow st x z n l) : RowAp s q v x z n l :=
  ⟨hx.ext h.ext, fun k hk e => by have := hx.nm_lt hk; have := h.own k e; omega⟩
/-- a row that was made now -/
theorem CRow.apart {s s' : St} {q n c : Nat} {v : MV} {x : V} {L : List (BitVec 64)} (h : CRow s.nx s' x n c L) (hm : MemAt s q v) : RowAp s' q v x 1 n (wv L) :=
  ⟨h.rd, fun k hk e => by
    obtain ⟨_, _, m, ty, t, rfl, h2, _⟩ := h
    have hlt := hm.own_lt e
    rcases hk with ⟨o, l, z, e⟩ | ⟨o, l, p, e⟩
    · cases e
    · injection e with e; omega⟩
theorem SlRow.apart {s s' : St} {q n : Nat} {v : MV} {x : V} {l : List V} (h : RdRow s' x 1 n l) (hn : ∀ k, Nm x k → s.nx ≤ k) (hm : MemAt s q v) : RowAp s' q v x 1 n l :=
  ⟨h, fun k hk e => by have := hn k hk; have := hm.own_lt e; omega⟩
def lineM (W : List (BitVec 64)) (i : Nat) : LM := ⟨initS ((W.drop (i * 8)).take 8), initS ((W.drop (i * 8)).take 8), [], 0⟩
def fromA (W : List (BitVec 64)) (j : Nat) : AS := ⟨(List.range j).map (lineM W), false, 0, [], 0, 0, 0⟩
theorem fromA_succ (W : List (BitVec 64)) (j : Nat) : fromA W (j + 1) = { fromA W j with L := (fromA W j).L ++ [lineM W j] } := by
  unfold fromA; rw [List.range_succ]; simp
theorem blk_lt {st : St} {v : V} {z n : Nat} {l : List V} (h : RdRow st v z n l) {fl : List (Nat × Nat)} (hf : ∀ k, k < st.nx → inF fl k = false) : (blkOf v).elim false (inF fl) = false := by
  rcases h.2 with ⟨e | e, _⟩ | ⟨m, o, q, ty, sz, t, rfl, h2, _⟩ | ⟨m, o, ty, sz, t, rfl, h2, _⟩
  · rw [e]; rfl
  · rw [e]; rfl
  · exact hf m h2
  · exact hf m h2
/-- a line more -/
theorem MemAt.push {s s1 s3 : St} {q n' : Nat} {v : MV} {m : LM} {z' : V} {t' : T V} (h : MemAt s q v) (hkz : ∀ k, ¬ Nm v.kz k) (x1 : Ext s.nx s s1) (hl : LineAt s1 n' nilW m) (hn : s.nx ≤ n') (hok : okL m)
    (hle : s1.nx ≤ s3.nx) (hwf : Wf s1 → Wf s3) (hk : ∀ k, k < s1.nx → ¬ Nm v.z k → s3.h.get k = s1.h.get k) (hz : RdRow s3 z' 1 (v.R.length + 1) (ptrs (v.R ++ [⟨n', nilW, m⟩]))) (hzn : ∀ k, Nm z' k → Nm v.z k ∨ s1.nx ≤ k)
    (ht : memIs t' { v with z := z', R := v.R ++ [⟨n', nilW, m⟩] }) :
    MStep q v { v with z := z', R := v.R ++ [⟨n', nilW, m⟩] } s ⟨s3.nx, s3.h.set q (.cs 224 7 t')⟩ := by
  have hnl := hl.own_lt (.inl rfl)
  have hsn := x1.le
  have hq := h.lt
  have ne : ∀ n, n ≠ q → (s3.h.set q (.cs 224 7 t')).get n = s3.h.get n := fun n hn => T.get_set_ne _ _ (fun e => hn e.symm)
  have keepO : ∀ k, k < s1.nx → k ≠ q → ¬ Nm v.z k → (s3.h.set q (.cs 224 7 t')).get k = s1.h.get k := fun k h1 h2 h3 => (ne k h2).trans (hk k h1 h3)
  have hone : ∀ k, Ow n' nilW k → k = n' := fun k hk => ow_nil hk
  have hget : ∀ (i : Nat) (r : LR), (v.R ++ [⟨n', nilW, m⟩])[i]? = some r → (i < v.R.length ∧ v.R[i]? = some r) ∨ (i = v.R.length ∧ r = ⟨n', nilW, m⟩) := fun i r hi => by
    by_cases hlt : i < v.R.length
    · rw [List.getElem?_append_left hlt] at hi; exact .inl ⟨hlt, hi⟩
    · rw [List.getElem?_append_right (by omega)] at hi
      have h0 := lt_of_get hi
      simp at h0
      rw [show i - v.R.length = 0 by omega] at hi
      injection hi with hi
      exact .inr ⟨by omega, hi.symm⟩
  have zlt : ∀ k, Nm v.z k → k < s.nx := fun k hk => h.row.nm_lt hk
  have h1 := h.ext x1
  refine ⟨⟨by show q < s3.nx; omega, ⟨t', T.get_set_same _ _ _, ht⟩, ?_, ?_, fun i r hi => ?_, fun e => ?_, h.q2, fun i r hi k hk2 => ?_, fun i j r u hij hi hj k hk2 hk3 => ?_⟩, ⟨by show s.nx ≤ s3.nx; omega, fun w => ((Ext.refl 0 s3).set (Nat.zero_le _) (by omega : q < s3.nx) _).wf (hwf (x1.wf w)), fun k hk2 hno => ?_⟩, fun k hk2 => ?_⟩
  · show RdRow _ z' 1 (v.R ++ [(⟨n', nilW, m⟩ : LR)]).length _
    rw [List.length_append]
    exact hz.other (Nat.le_refl _) fun k hk2 => ne k fun e => by
      rcases hzn k hk2 with e2 | e2
      · exact h.q1 (by rw [← e]; exact e2)
      · omega
  · exact h1.keep.other hle fun k hk2 => keepO k (h1.keep.nm_lt hk2) (fun e => h.q2 (by rw [← e]; exact hk2)) (fun _ => hkz k hk2)
  · rcases hget i r hi with ⟨_, hi⟩ | ⟨_, rfl⟩
    · exact ⟨(h1.lines i r hi).1.other hle fun k hk2 => keepO k ((h1.lines i r hi).1.own_lt hk2) (h.own1 i r hi k hk2).1 (h.own1 i r hi k hk2).2.1, (h.lines i r hi).2⟩
    · refine ⟨hl.other hle fun k hk2 => ?_, hok⟩
      have := hone k hk2
      subst this
      exact keepO _ hnl (by omega) (fun e => by have := zlt _ e; omega)
  · rcases hzn q e with e2 | e2
    · exact h.q1 e2
    · omega
  · rcases hget i r hi with ⟨_, hi⟩ | ⟨_, rfl⟩
    · obtain ⟨o1, o2, o3⟩ := h.own1 i r hi k hk2
      refine ⟨o1, fun e => ?_, o3⟩
      rcases hzn k e with e2 | e2
      · exact o2 e2
      · have := (h.lines i r hi).1.own_lt hk2; omega
    · have := hone k hk2
      subst this
      refine ⟨by omega, fun e => ?_, fun e => by have := h.keep.nm_lt e; omega⟩
      rcases hzn _ e with e2 | e2
      · have := zlt _ e2; omega
      · omega
  · rcases hget i r hi with ⟨hi1, gi⟩ | ⟨hi1, rfl⟩
    · rcases hget j u hj with ⟨hj1, gj⟩ | ⟨hj1, rfl⟩
      · exact h.own2 i j r u hij gi gj k hk2 hk3
      · have e := hone k hk3
        have := (h.lines i r gi).1.own_lt hk2; omega
    · rcases hget j u hj with ⟨hj1, gj⟩ | ⟨hj1, rfl⟩
      · have e := hone k hk2
        have := (h.lines j u gj).1.own_lt hk3; omega
      · omega
  · have hkz : ¬ Nm v.z k := fun e => hno (.inr (.inl e))
    rw [keepO k (by omega) (fun e => hno (.inl e)) hkz, x1.keep k hk2]
  · rcases hk2 with rfl | hk2 | hk2 | ⟨r, hr, hk2⟩
    · exact .inl (.inl rfl)
    · rcases hzn k hk2 with e | e
      · exact .inl (.inr (.inl e))
      · exact .inr (by omega)
    · exact .inl (.inr (.inr (.inl hk2)))
    · obtain ⟨i, hi⟩ := List.getElem?_of_mem hr
      rcases hget i r hi with ⟨_, hi⟩ | ⟨_, rfl⟩
      · exact .inl (.inr (.inr (.inr ⟨r, List.mem_of_getElem? hi, hk2⟩)))
      · have := hone k hk2
        subst this
        exact .inr hn
def frI (st : St) (n q : Nat) (W : List (BitVec 64)) (x : V) (e : Env) (s : St) : Prop := ∃ (j : Nat) (v : MV), j ≤ n ∧ e.get 0 = some x ∧ e.get 5 = some (.p q 0) ∧ e.get 25 = some (.int .i64 (n : Int)) ∧ e.get 26 = some (.int .i64 (j : Int)) ∧
  MLive st s q v ∧ OwnRow st.nx s v.z 1 j (ptrs v.R) ∧ v.R.length = j ∧ v.kz = nilW ∧ absV v = fromA W j
set_option maxRecDepth 20000 in
set_option maxHeartbeats 4000000 in
theorem mfrom_any (st : St) (x : V) (W : List (BitVec 64)) (n : Nat) (hn : 1 ≤ n ∧ n ≤ 1024) (hW : W.length = n * 8) (hx : RdRow st x 1 W.length (wv W)) (hcap : CapOk x) (nt : Nat) :
    Gd (callL Try.prog ⟨false, [], 0, nt⟩ 195 [x] st) fun r => ∃ q v, r.1 = .t [.p q 0, .int .i64 0] ∧ MLive st r.2 q v ∧ absV v = fromA W n := by
  rw [Gd_callL Try.func195 rfl]
  have w1 : (W.length : Int).tdiv 8 = (n : Int) := by rw [Int.tdiv_eq_ediv_of_nonneg (by omega)]; omega
  have w2 : IntKind.i64.wrap (n : Int) = (n : Int) := wrap_in (by omega) (by omega)
  have w3 : IntKind.i64.wrap ((n : Int) * 8) = (W.length : Int) := by rw [show (n : Int) * 8 = (W.length : Int) by omega]; exact wrap_in (by omega) (by omega)
  have c1 : ¬ (n : Int) < 1 := by omega
  have c2 : ¬ (1024 : Int) < (n : Int) := by omega
  simp [evOp_call, sets, T.get_set, hx.lenS, w1, w2, w3, c1, c2, newC_is, cellsOf]
  refine Gd_loop (frI st n st.nx W x) (fun e _ => muAt 26 n e) ?_ ?_
  · refine ⟨0, ⟨nilW, nilW, [], false, 0, [], 0, 0, 0⟩, Nat.zero_le _, by simp [T.get_set], by simp [T.get_set], by simp [T.get_set], by simp [T.get_set], ⟨⟨Nat.lt_succ_self _, ⟨_, T.get_set_same _ _ _, by simp [memIs, sets, T.get_set, nilW]⟩, ⟨rfl, .inl ⟨.inl rfl, rfl⟩⟩, ⟨rfl, .inl ⟨.inl rfl, rfl⟩⟩, fun i r hi => by simp at hi, fun e => nm_nil e, fun e => nm_nil e, fun i r hi => by simp at hi, fun i j r s _ hi => by simp at hi⟩, fun k hk => ?_, (Ext.refl _ _).new (Nat.le_refl _) _⟩, OwnRow.nil _ _ _, rfl, rfl, rfl⟩
    rcases hk with rfl | hk | hk | ⟨r, hr, _⟩
    · exact Nat.le_refl _
    · exact absurd hk nm_nil
    · exact absurd hk nm_nil
    · simp at hr
  · rintro e s ⟨j, v, hj, g0, g5, g25, g26, hm, hz, hR, hkz, ha⟩
    obtain ⟨t, h1, h2, h3, h4, h5, h6, h7, h8⟩ := hm.at'.blk
    by_cases hlt : j < n
    · have hlt' : (j : Int) < n := by omega
      have hwj := wrap_nat (n := j) (by omega)
      have w4 : IntKind.i64.wrap ((j : Int) * 8) = ((j * 8 : Nat) : Int) := by rw [show (j : Int) * 8 = ((j * 8 : Nat) : Int) by omega]; exact wrap_in (by omega) (by omega)
      have w5 : IntKind.i64.wrap (((j : Int) + 1) * 8) = (j : Int) * 8 + 8 := by rw [show ((j : Int) + 1) * 8 = (j : Int) * 8 + 8 by omega]; exact wrap_in (by omega) (by omega)
      simp [evOp_call, T.get_set, g0, g5, g25, g26, hlt']
      refine ⟨by kernel_rfl, ?_⟩
      simp [evOp_call, T.get_set, g0, g5, g25, g26, hlt', loadE_eq, getC_eq, h1, h2, w4, hwj, w5]
      have hxs := hx.ext hm.ext
      refine Gd_midR (i := .i64) (i2 := .i64) (k := j * 8) (k2 := j * 8 + 8) un23 io24 hxs hcap (by simp [T.get_set]) (by simp [T.get_set, w5]) (by omega) (by omega) ?_
      intro y hy
      have hys := hy s hxs
      have hyst := hy st hx
      have hle := hm.ext.le
      rw [show j * 8 + 8 - j * 8 = 8 by omega] at hys hyst
      have hq0 := hm.at'.lt
      have hblk := blk_lt (fl := [(st.nx, st.nx + 1)]) hyst (fun k hk => by rw [inF_cons, if_neg (by omega)]; rfl)
      have hlen : ((W.drop (j * 8)).take 8).length = 8 := by simp; omega
      simp [evOp_call, T.get_set]
      rw [cxOf_callL [(st.nx, st.nx + 1)] (by kernel_rfl) (by kernel_rfl) (looseW_at 32 (.p st.nx 0) (by simp [T.get_set]) (by kernel_rfl)) (fun x hx => by simp at hx; subst hx; simp only [clashes_tmp, T.get_set]; simpa using hblk) (fun p hp => by simp at hp; subst hp; simp [isRo_cs h1, roT])]
      simp only [forb_nil, List.append_nil]
      refine Gd.mono (new_fl s [(st.nx, st.nx + 1)] (fun k hk => by rw [inF_cons, if_neg (by omega)]; rfl) y ((W.drop (j * 8)).take 8) (by rw [hlen]; exact hys) (fun k hk => by
        have := hyst.nm_lt hk
        rw [inF_cons, if_neg (by omega)]; rfl) _) ?_
      rintro ⟨r, s1⟩ ⟨n', hr, hl, x1, hn'⟩
      simp only at hr hl x1
      subst hr
      have hx1 := x1.le
      have hzl : v.R.length = j := hR
      simp [evOp_call, T.get_set]
      refine Gd_buildW (vs := [.p n' 0]) (fun k => el222 k) (fun k => ze225 k) rfl (by simp [T.get_set]) (by simp) rfl rfl (by omega) ?_
      simp [evOp_call, T.get_set]
      rw [cxOf_call (by kernel_rfl) (by kernel_rfl), forb_cons (by kernel_rfl) (forb_step (by kernel_rfl) rfl)]
      have hext := fun v => (Ext.refl s1.nx s1).new (Nat.le_refl _) v
      refine Gd_append un222 un222 io225 (lx := 1) (new := [.p n' 0]) ((hz.ext x1).ext (hext _)) (by show st.nx ≤ s1.nx + 1; omega) (by decide) (fun s' h => by cases h) (fun k => rfl) (fun k => by simp [getC_eq, getsB_1, T.get_set, sets]) rfl (by omega) ?_
      intro z' s3 hz3 he3 hk3 hz'
      have hone := hz3.rd.one
      have hqn : ¬ Nm v.z st.nx := hm.at'.q1
      have hkq : s3.h.get st.nx = some (.cs 224 7 t) := by
        rw [hk3 st.nx (by show st.nx < s1.nx + 1; omega) (fun o l e => hqn (.inl ⟨o, l, _, e⟩))]
        show (T.set s1.h s1.nx _).get st.nx = _
        rw [T.get_set_ne _ _ (by omega), x1.keep st.nx hq0]; exact h1
      simp [evOp_call, T.get_set]
      rw [cxOf_store]
      rotate_left
      · kernel_rfl
      rw [forb_step (by kernel_rfl) (forb_cons (by kernel_rfl) (forb_step (by kernel_rfl) rfl))]
      simp [storeK_1 hone, putB_eq, hkq, roT]
      have hpt : ptrs (v.R ++ [(⟨n', nilW, lineM W j⟩ : LR)]) = ptrs v.R ++ [V.p n' 0] := by unfold ptrs; rw [List.map_append]; rfl
      have hstep := MemAt.push (t' := sets [z'] 0 t) hm.at' (fun k hk => by rw [hkz] at hk; exact nm_nil hk) x1 (m := lineM W j) hl hn' ⟨0, rfl, Nat.zero_le _⟩ (s3 := s3) (z' := z') (Nat.le_trans (Nat.le_succ _) he3.le) (fun w => he3.wf ((hext _).wf w)) (fun k hk hno => by
        rw [hk3 k (by show k < s1.nx + 1; omega) (fun o l e => hno (.inl ⟨o, l, _, e⟩))]
        exact T.get_set_ne _ _ (by omega)) (by rw [hpt, hR]; exact hz3.rd) (fun k hk => by
        rcases hz' with rfl | ⟨ln, rfl⟩
        · exact .inl hk
        · rcases hk with ⟨o, l, z, e⟩ | ⟨o, l, q, e⟩
          · injection e with e
            exact .inr (by rw [← e]; exact Nat.le_succ _)
          · cases e) (by simp [memIs, sets, T.get_set, h3, h4, h5, h6, h7, h8])
      have hlast := hm.step hstep
      simp [evOp_call, T.get_set, g0, g5, g25, g26, hwj]
      refine ⟨⟨j + 1, _, hlt, by simp [T.get_set, g0], by simp [T.get_set, g5], by simp [T.get_set, g25], by simp [T.get_set], hlast, ?_, by simp [hR], hkz, ?_⟩, muAt_lt g26 (by simp [T.get_set]) hlt⟩
      · show OwnRow st.nx _ z' 1 (j + 1) (ptrs (v.R ++ [(⟨n', nilW, lineM W j⟩ : LR)]))
        rw [hpt]
        refine hz3.setOther (fun o l z e => ?_) _
        rcases hz' with rfl | ⟨ln, rfl⟩
        · exact hqn (.inl ⟨o, l, z, e⟩)
        · injection e with e
          have : s1.nx + 1 = st.nx := e
          omega
      · rw [fromA_succ, ← ha]
        unfold absV
        simp
    · obtain rfl : j = n := by omega
      simp [evOp_call, T.get_set, g0, g5, g25, g26]
      exact ⟨v, hm, ha⟩
theorem MLive.from {st st1 s : St} {q : Nat} {v : MV} (h : MLive st1 s q v) (k : Ext st.nx st st1) : MLive st s q v :=
  ⟨h.at', fun n hn => Nat.le_trans k.le (h.own n hn), k.trans (h.ext.mono k.le)⟩
def zeroA (n : Nat) : AS := fromA (List.replicate (n * 8) 0#64) n
set_option maxRecDepth 20000 in
theorem mnew_any (st : St) (n : Nat) (hn : 1 ≤ n ∧ n ≤ 1024) (nt : Nat) :
    Gd (callL Try.prog ⟨false, [], 0, nt⟩ 157 [.int .i64 (n : Int)] st) fun r => ∃ q v, r.1 = .t [.p q 0, .int .i64 0] ∧ MLive st r.2 q v ∧ absV v = zeroA n := by
  rw [Gd_callL Try.func157 rfl]
  have c1 : ¬ (n : Int) < 1 := by omega
  have c2 : ¬ (1024 : Int) < (n : Int) := by omega
  have w1 : IntKind.i64.wrap ((n : Int) * 8) = ((n * 8 : Nat) : Int) := by rw [show (n : Int) * 8 = ((n * 8 : Nat) : Int) by omega]; exact wrap_in (by omega) (by omega)
  simp [evOp_call, sets, T.get_set, w1, c1, c2]
  refine Gd_make (i := .i64) (i' := .i64) (n := n * 8) (q := n * 8) (fun k => el23 k) io24 (fun k => ze24 k) (by simp [T.get_set]) (by simp [T.get_set]) (Nat.le_refl _) (by omega) ?_
  have hm := SlRow.made (n := n * 8) (st := st) (el := 24) (Nat.le_refl st.nx) (by decide)
  simp [evOp_call, sets, T.get_set]
  refine Gd.mono (mfrom_any _ _ (List.replicate (n * 8) 0#64) n hn (by simp) (by have := hm.rd; simpa using this) (fun m o l q e => by injection e with e1 e2 e3 e4; omega) _) ?_
  rintro ⟨r, s⟩ ⟨q, v, hr, hv, ha⟩
  simp only at hr hv
  subst hr
  simp [evOp_call, sets, T.get_set]
  exact ⟨v, hv.from ((Ext.refl _ _).new (Nat.le_refl _) _), ha⟩
/-- another block is written -/
theorem MLive.poke {st s : St} {q nb : Nat} {v : MV} (h : MLive st s q v) (hn : ¬ MOw q v nb) (h1 : st.nx ≤ nb) (h2 : nb < s.nx) (b : B) : MLive st ⟨s.nx, s.h.set nb b⟩ q v :=
  ⟨h.at'.other (Nat.le_refl _) fun k hk => T.get_set_ne _ _ (fun e => hn (by rw [e]; exact hk)), h.own, h.ext.set h1 h2 b⟩
theorem RowAp.poke {s : St} {q z n nb : Nat} {v : MV} {x : V} {l : List V} (h : RowAp s q v x z n l) (hn : ¬ Nm x nb) (b : B) : RowAp ⟨s.nx, s.h.set nb b⟩ q v x z n l :=
  ⟨h.1.other (Nat.le_refl _) fun k hk => T.get_set_ne _ _ (fun e => hn (by rw [e]; exact hk)), h.2⟩
theorem MStep.not_own {q nb : Nat} {v v' : MV} {s s' : St} (h : MStep q v v' s s') (hn : ¬ MOw q v nb) (hlt : nb < s.nx) : ¬ MOw q v' nb := fun e => by
  rcases h.own nb e with e | e
  · exact hn e
  · omega
/-- a row of cells just built -/
theorem built_row {st : St} {el n : Nat} {vs : List V} (hel : el ≠ roT) (hn : vs.length = n) : RdRow ⟨st.nx + 1, st.h.set st.nx (.cs el n (sets vs 0 .lf))⟩ (.sl st.nx 0 n n) 1 n vs := (AppRow.built (b := st.nx) (Nat.le_refl _) hel hn).rd
theorem nm_sl {m o l q k : Nat} (h : Nm (.sl m o l q) k) : k = m := by
  rcases h with ⟨a, b, c, e⟩ | ⟨a, b, c, e⟩
  · cases e
  · injection e with e; exact e.symm
@[simp] theorem mem_not_nil (st : St) (x y : Operand) (n : Nat) : binE Try.prog st .eql 118 x y (.p n 0) (.c (.pointer none)) = some (.bool false, st) := by kernel_rfl
@[simp] theorem mem_neq_nil (st : St) (x y : Operand) (n : Nat) : binE Try.prog st .neq 118 x y (.p n 0) (.c (.pointer none)) = some (.bool true, st) := by kernel_rfl
@[simp] theorem nil_is_nil (st : St) (x y : Operand) : binE Try.prog st .eql 118 x y (.c (.pointer none)) (.c (.pointer none)) = some (.bool true, st) := by kernel_rfl
@[simp] theorem bool_neqM (st : St) (x y : Operand) (a b : Bool) : binE Try.prog st .neq 4 x y (.bool a) (.bool b) = some (.bool (a != b), st) := by cases a <;> cases b <;> kernel_rfl
@[simp] theorem bool_eqlM (st : St) (x y : Operand) (a b : Bool) : binE Try.prog st .eql 4 x y (.bool a) (.bool b) = some (.bool (a == b), st) := by cases a <;> cases b <;> kernel_rfl
end Go.Proofs.Ytdoennkmcloalaa

/-
  Contracts of package pmem: words, fuses.
-/
import Derived.Test.YtenncnbaoejekaaMmE
set_option linter.unusedSimpArgs false
namespace Go.Proofs.Ytenncnbaoejekaa
open Go.RowKit Ev
def allN (L : List LM) : List (BitVec 64) := L.flatMap (·.N)
theorem allN_succ {L : List LM} {j : Nat} {m : LM} (h : L[j]? = some m) : allN (L.take (j + 1)) = allN (L.take j) ++ m.N := by
  unfold allN; rw [List.take_add_one, h]; simp
theorem take_get {α : Type} {l : List α} {i : Nat} {x : α} (h : l[i]? = some x) : l.take (i + 1) = l.take i ++ [x] := by rw [List.take_add_one, h]; rfl
def woO (st : St) (q : Nat) (v : MV) (e : Env) (s : St) : Prop := ∃ (j : Nat) (y : V), j ≤ v.R.length ∧ e.get 0 = some (.p q 0) ∧ e.get 3 = some y ∧ e.get 17 = some v.z ∧ e.get 18 = some (.int .i64 (v.R.length : Int)) ∧ e.get 19 = some (.int .i64 (j : Int)) ∧ CRow st.nx s y (8 * j) (8 * v.R.length) (allN (v.R.map (·.m) |>.take j)) ∧ Ext st.nx st s
def woI (st : St) (q j : Nat) (v : MV) (r : LR) (e : Env) (s : St) : Prop := ∃ (i : Nat) (y : V), i ≤ 8 ∧ e.get 0 = some (.p q 0) ∧ e.get 3 = some y ∧ e.get 5 = some (.p r.n 0) ∧ e.get 17 = some v.z ∧ e.get 18 = some (.int .i64 (v.R.length : Int)) ∧ e.get 19 = some (.int .i64 (j : Int)) ∧ e.get 23 = some (.int .i64 (i : Int)) ∧ CRow st.nx s y (8 * j + i) (8 * v.R.length) (allN (v.R.map (·.m) |>.take j) ++ r.m.N.take i) ∧ Ext st.nx st s
set_option maxRecDepth 20000 in
set_option maxHeartbeats 4000000 in
theorem mwords_any (st : St) (q : Nat) (v : MV) (h : MemAt st q v) (hR : v.R.length ≤ 2000) (nt : Nat) :
    Gd (callL Try.prog ⟨false, [], 0, nt⟩ 43 [.p q 0] st) fun r => CRow st.nx r.2 r.1 (8 * v.R.length) (8 * v.R.length) (allN (absV v).L) ∧ Ext st.nx st r.2 := by
  obtain ⟨t, h1, h2, h3, h4, h5, h6, h7, h8⟩ := h.blk
  rw [Gd_callL Try.func43 rfl]
  obtain ⟨c, hc⟩ : ∃ c, c = v.R.length * 8 := ⟨_, rfl⟩
  have w1 : IntKind.i64.wrap ((v.R.length : Int) * 8) = (c : Int) := by rw [show ((v.R.length : Int) * 8) = (c : Int) by omega]; exact wrap_in (by omega) (by omega)
  simp [evOp_call, sets, T.get_set, loadE_eq, getC_eq, h1, h2, h.row.lenS, w1]
  refine Gd_make (i := .i64) (i' := .i64) (n := 0) (q := c) (fun k => el30 k) io31 (fun k => ze31 k) (by simp [T.get_set]) (by simp [T.get_set]) (Nat.zero_le _) (by omega) ?_
  have hne : ¬ st.nx = q := by have := h.lt; omega
  have hrl : (rep [V.int .u64 0] c).length = c := by rw [rep_one]; simp
  simp [evOp_call, sets, T.get_set, loadE_eq, getC_eq, h1, h2, h.row.lenS, hne]
  have hc8 : 8 * v.R.length = c := by omega
  refine Gd_loop (woO st q v) (fun e _ => muAt 19 v.R.length e) ?_ ?_
  · refine ⟨0, .sl st.nx 0 0 c, Nat.zero_le _, by simp [T.get_set], by simp [T.get_set], by simp [T.get_set], by simp [T.get_set], by simp [T.get_set], ?_, (Ext.refl _ _).new (Nat.le_refl _) _⟩
    rw [hc8]
    refine ⟨rfl, Nat.zero_le _, st.nx, 31, sets (rep [V.int .u64 0] c) 0 .lf, rfl, Nat.le_refl _, Nat.lt_succ_self _, (T.get_set_same _ _ _).trans (by rw [hrl]), by decide, fun j v hj => by simp [allN] at hj⟩
  · rintro e s ⟨j, y, hj, g0, g3, g17, g18, g19, hy, hs⟩
    have hms := h.ext hs
    by_cases hlt : j < v.R.length
    · have hlt' : (j : Int) < v.R.length := by omega
      have hwj := wrap_nat (n := j) (by omega)
      obtain ⟨r, hr⟩ : ∃ r, v.R[j]? = some r := ⟨_, List.getElem?_eq_getElem hlt⟩
      obtain ⟨m1, o1, ty1, sz1, t1, i1, b1, k1, l1, d1⟩ := hms.row.idx (st := s) un164 io160 hlt
      have hp : t1.get o1 = some (.p r.n 0) := d1 0 _ (by omega) (ptrs_get hr)
      have hmj : (v.R.map (·.m))[j]? = some r.m := by rw [List.getElem?_map, hr]; rfl
      have hN8 := (h.lines j r hr).1.ln
      simp [evOp_call, T.get_set, g0, g3, g17, g18, g19, hlt', i1, loadE_eq, getC_eq, k1, hp]
      refine Gd_loop (woI st q j v r) (fun e _ => muAt 23 8 e) ?_ ?_
      · exact ⟨0, y, by omega, by simp [T.get_set, g0], by simp [T.get_set, g3], by simp [T.get_set], by simp [T.get_set, g17], by simp [T.get_set, g18], by simp [T.get_set, g19], by simp [T.get_set], by simpa using hy, hs⟩
      · rintro e2 s2 ⟨i, y2, hi, f0, f3, f5, f17, f18, f19, f23, hy2, hs2⟩
        by_cases hil : i < 8
        · have hil' : (i : Int) < 8 := by omega
          have hwi := wrap_nat (n := i) (by omega)
          have hln := ((h.ext hs2).lines j r hr).1
          obtain ⟨w, hw⟩ : ∃ w, r.m.N[i]? = some w := ⟨_, List.getElem?_eq_getElem (by omega)⟩
          simp [evOp_call, T.get_set, f0, f3, f5, f17, f18, f19, f23, hil']
          refine Gd.mono (load_any s2 r.n r.y r.m hln (i : Int) _) ?_
          rintro _ rfl
          rw [if_pos ⟨by omega, by omega⟩, show ((i : Int)).toNat = i by omega, hw]
          simp [evOp_call, T.get_set, f0, f3, f5, f17, f18, f19, f23]
          refine Gd_buildW (vs := [wd w]) (fun k => el30 k) (fun k => ze31 k) rfl (by simp [T.get_set]) (by simp) rfl rfl (by omega) ?_
          simp [evOp_call, T.get_set, f0, f3]
          have hext := fun v => (Ext.refl s2.nx s2).new (Nat.le_refl _) v
          have hsn2 := hs2.le
          refine Gd_appendW (w := w) un30 un30 io31 (hy2.ext (hext _)) (by omega) (fun s' h => by cases h) (fun k => rfl) (fun k => by simp [getC_eq, getsB_1, T.get_set, sets]) (by omega) ?_
          intro s' st' ho' he'
          simp [evOp_call, T.get_set, f0, f5, f17, f18, f19, f23, hwi]
          refine ⟨⟨i + 1, s', by omega, by simp [T.get_set, f0], by simp [T.get_set], by simp [T.get_set, f5], by simp [T.get_set, f17], by simp [T.get_set, f18], by simp [T.get_set, f19], by simp [T.get_set], ?_, (hs2.trans ((hext _).mono hsn2)).trans he'⟩, muAt_lt f23 (by simp [T.get_set]) hil⟩
          rw [take_get hw, ← List.append_assoc]
          exact ho'
        · obtain rfl : i = 8 := by omega
          have ht8 : r.m.N.take 8 = r.m.N := List.take_of_length_le (by omega)
          rw [ht8] at hy2
          simp [evOp_call, T.get_set, f0, f3, f5, f17, f18, f19, f23, hwj]
          refine ⟨⟨j + 1, y2, hlt, by simp [T.get_set, f0], by simp [T.get_set, f3], by simp [T.get_set, f17], by simp [T.get_set, f18], by simp [T.get_set], ?_, hs2⟩, muAt_lt g19 (by simp [T.get_set]) hlt⟩
          rw [allN_succ hmj]
          exact hy2
    · obtain rfl : j = v.R.length := by omega
      rw [List.take_of_length_le (by simp)] at hy
      simp [evOp_call, T.get_set, g0, g3, g17, g18, g19]
      exact ⟨hy, hs⟩
def AS.fused (s : AS) (n : Int) (K : List Int) : AS := if s.off = true then s else { s with fuse := n, K := K }
theorem mfuse_any (st : St) (q : Nat) (v : MV) (h : MemAt st q v) (n : Int) (x : V) (K : List Int) (hx : RdRow st x 1 K.length (ivs K)) (hK : K.length ≤ 1000000) (nt : Nat) :
    Gd (callL Try.prog ⟨false, [], 0, nt⟩ 36 [.p q 0, .int .i64 n, x] st) fun r => r.1 = .t [] ∧ ∃ v', MStep q v v' st r.2 ∧ absV v' = (absV v).fused n K := by
  obtain ⟨t, h1, h2, h3, h4, h5, h6, h7, h8⟩ := h.blk
  rw [Gd_callL Try.func36 rfl]
  unfold AS.fused
  have hoff : (absV v).off = v.off := rfl
  rw [hoff]
  by_cases ho : v.off = true
  · rw [if_pos ho]
    simp [evOp_call, sets, T.get_set, loadE_eq, getC_eq, h1, h3, ho]
    exact ⟨v, MStep.refl h, rfl⟩
  · have ho' : v.off = false := by simpa using ho
    rw [if_neg ho]
    simp [evOp_call, sets, T.get_set, loadE_eq, getC_eq, h1, h3, ho']
    refine Gd_append_nil un32 un32 io3 (Nat.le_refl _) (by decide) hx.notS hx.len (fun k => hx.firsts k) hx.1 (by omega) ?_
    intro s' st' hs' he' _
    have hone := hs'.rd.one
    have hm := MStep.ofExt h he'
    obtain ⟨t2, p1, p2, p3, p4, p5, p6, p7, p8⟩ := hm.at'.blk
    obtain ⟨a1, a2⟩ := hm.at'.setB (v' := { v with fuse := n, K := K, kz := s' }) ((t2.set 2 (.int .i64 n)).set 3 s') (by simp [memIs, T.get_set, p2, p3, p6, p7, p8]) rfl rfl hs'.rd (fun k hk => by
      have hge := hs'.nm_ge hk
      exact ⟨fun e => by have := h.lt; omega, .inr fun m hm2 e => by have := h.own_lt hm2; omega⟩)
    simp [evOp_call, sets, T.get_set, loadE_eq, getC_eq, p1, putB_eq, roT, storeK_1 hone]
    refine ⟨_, ⟨a1, ⟨Nat.le_trans hm.kept.le a2.le, fun w => a2.wf (hm.kept.wf w), fun k hk hnk => ?_⟩, fun k hk => ?_⟩, by show (⟨_, v.off, n, K, v.a, v.b, v.c⟩ : AS) = ⟨_, false, n, K, v.a, v.b, v.c⟩; rw [ho']; rfl⟩
    · rw [a2.keep k (Nat.lt_of_lt_of_le hk hm.kept.le) hnk]
      exact hm.kept.keep k hk hnk
    · rcases hk with rfl | hk | hk | hk
      · exact .inl (.inl rfl)
      · exact .inl (.inr (.inl hk))
      · exact .inr (hs'.nm_ge hk)
      · exact .inl (.inr (.inr (.inr hk)))
end Go.Proofs.Ytenncnbaoejekaa

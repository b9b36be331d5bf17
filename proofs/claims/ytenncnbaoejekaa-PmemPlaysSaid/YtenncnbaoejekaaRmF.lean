/-
  Contracts of the document's own memory: all its words.
-/
import Derived.Test.YtenncnbaoejekaaRmE
set_option linter.unusedSimpArgs false
namespace Go.Proofs.Ytenncnbaoejekaa
open Go.RowKit Ev
def rwoO (st : St) (q : Nat) (v : RV) (e : Env) (s : St) : Prop := ∃ (j : Nat) (y : V), j ≤ v.R.length ∧ e.get 0 = some (.p q 0) ∧ e.get 3 = some y ∧ e.get 4 = some (.int .i64 (j : Int)) ∧ OwnRow st.nx s y 1 (8 * j) (wv (allN ((absR v).L.take j))) ∧ Ext st.nx st s
def rwoI (st : St) (q j : Nat) (v : RV) (m : LM) (e : Env) (s : St) : Prop := ∃ (i : Nat) (y : V), i ≤ 8 ∧ e.get 0 = some (.p q 0) ∧ e.get 3 = some y ∧ e.get 4 = some (.int .i64 (j : Int)) ∧ e.get 5 = some (.int .i64 (i : Int)) ∧ OwnRow st.nx s y 1 (8 * j + i) (wv (allN ((absR v).L.take j) ++ m.N.take i)) ∧ Ext st.nx st s
set_option maxRecDepth 20000 in
set_option maxHeartbeats 4000000 in
theorem rmwords_any (st : St) (q : Nat) (v : RV) (h : RMemAt st q v) (hok : ∀ m ∈ (absR v).L, okP m) (hR : v.R.length ≤ 2000) (nt : Nat) :
    Gd (callL Try.prog ⟨false, [], 0, nt⟩ 44 [.p q 0] st) fun r => OwnRow st.nx r.2 r.1 1 (8 * v.R.length) (wv (allN (absR v).L)) ∧ Ext st.nx st r.2 := by
  obtain ⟨t, h1, h2, h3, h4, h5, h6, h7, h8⟩ := h.blk
  have hLl : (absR v).L.length = v.R.length := by simp [absR]
  rw [Gd_callL Try.func44 rfl]
  simp [evOp_call, sets, T.get_set]
  refine Gd_loop (rwoO st q v) (fun e _ => muAt 4 v.R.length e) ?_ ?_
  · exact ⟨0, .c (.slice none 0 0), Nat.zero_le _, by simp [T.get_set], by simp [T.get_set], by simp [T.get_set], by simpa [allN, wv] using OwnRow.nil _ _ _, Ext.refl _ _⟩
  · rintro e s ⟨j, y, hj, g0, g3, g4, hy, hs⟩
    have hms := h.ext hs
    obtain ⟨t', p1, p2, p3, p4, p5, p6, p7, p8⟩ := hms.blk
    by_cases hlt : j < v.R.length
    · have hlt' : (j : Int) < v.R.length := by omega
      have hwj := wrap_nat (n := j) (by omega)
      obtain ⟨r, f, r1, r2, r3, r4, r5, r6⟩ := hms.at8 hlt
      have hmj := r2
      have hN := hok r.m (List.mem_of_getElem? r2)
      have hN8 := hN.nl
      simp [evOp_call, T.get_set, g0, g3, g4, hlt', loadE_eq, getC_eq, p1, p2, hms.row.lenS]
      refine Gd_loop (rwoI st q j v r.m) (fun e _ => muAt 5 8 e) ?_ ?_
      · exact ⟨0, y, by omega, by simp [T.get_set, g0], by simp [T.get_set, g3], by simp [T.get_set, g4], by simp [T.get_set], by simpa using hy, hs⟩
      · rintro e2 s2 ⟨i, y2, hi, f0, f3, f4, f5, hy2, hs2⟩
        have hms2 := h.ext hs2
        obtain ⟨t2, u1, u2, u3, u4, u5, u6, u7, u8⟩ := hms2.blk
        by_cases hil : i < 8
        · have hil' : (i : Int) < 8 := by omega
          have hwi := wrap_nat (n := i) (by omega)
          obtain ⟨r', f', z1, z2, z3, z4, z5, z6⟩ := hms2.at8 hlt
          rw [r1] at z1
          injection z1 with z1
          subst z1
          obtain ⟨m1, o1, ty1, sz1, t1, i1, b1, k1, l1, d1⟩ := hms2.row.idx (st := s2) un47 io158 hlt
          have hp : t1.get o1 = some (.p r.n 0) := d1 0 _ (by omega) z6
          obtain ⟨w, hw⟩ : ∃ w, r.m.N[i]? = some w := ⟨_, List.getElem?_eq_getElem (by omega)⟩
          simp [evOp_call, T.get_set, f0, f3, f4, f5, hil', loadE_eq, getC_eq, u1, u2, i1, k1, hp]
          refine Gd.mono (rload_any s2 r.n f' r.ys r.yo r.m z3 (i : Int) _ _) ?_
          rintro _ rfl
          rw [if_pos ⟨by omega, by omega⟩, ← hN.n, show ((i : Int)).toNat = i by omega, hw]
          simp [evOp_call, T.get_set, f0, f3, f4, f5]
          refine evOp_build1 (v := wd w) (cs := [wd w]) (fun k => el30 k) (fun k => ze31 k) rfl (by omega) (by simp [T.get_set]) (fun k => rfl) rfl ?_
          have hext : Ext s2.nx s2 ⟨s2.nx + 1, s2.h.set s2.nx (.cs 31 1 (sets [wd w] 0 .lf))⟩ := (Ext.refl s2.nx s2).new (Nat.le_refl _) _
          have hsn2 := hs2.le
          have hy3 := hy2.ext hext
          simp [T.get_set, f3]
          refine Gd_append (lx := 1) (new := [wd w]) un30 un30 io31 hy3 (by show st.nx ≤ s2.nx + 1; omega) (by decide) (fun s' e => by cases e) (fun k => rfl) (fun k => by simp [getC_eq, getsB_1, T.get_set, sets]) rfl (by omega) ?_
          intro s' st' ho' he' hk' hs'
          simp [evOp_call, T.get_set, f0, f4, f5, hwi]
          refine ⟨⟨i + 1, s', by omega, by simp [T.get_set, f0], by simp [T.get_set], by simp [T.get_set, f4], by simp [T.get_set], ?_, (hs2.trans (hext.mono hsn2)).trans he'⟩, muAt_lt f5 (by simp [T.get_set]) hil⟩
          rw [take_get hw, ← List.append_assoc]
          have : wv (allN ((absR v).L.take j) ++ r.m.N.take i ++ [w]) = wv (allN ((absR v).L.take j) ++ r.m.N.take i) ++ [wd w] := by unfold wv; rw [List.map_append]; rfl
          rw [this]
          exact ho'
        · obtain rfl : i = 8 := by omega
          have ht8 : r.m.N.take 8 = r.m.N := List.take_of_length_le (by omega)
          rw [ht8] at hy2
          simp [evOp_call, T.get_set, f0, f3, f4, f5, hwj]
          refine ⟨⟨j + 1, y2, hlt, by simp [T.get_set, f0], by simp [T.get_set, f3], by simp [T.get_set], ?_, hs2⟩, muAt_lt g4 (by simp [T.get_set]) hlt⟩
          rw [allN_succ hmj]
          exact hy2
    · obtain rfl : j = v.R.length := by omega
      rw [List.take_of_length_le (by omega)] at hy
      simp [evOp_call, T.get_set, g0, g3, g4, loadE_eq, getC_eq, p1, p2, hms.row.lenS]
      exact ⟨hy, hs⟩
end Go.Proofs.Ytenncnbaoejekaa

/-
  Contracts of package seal, of the document's own sums, of copies.
-/
import Derived.Test.YtcjddojcfdeflaaTyAll
import Derived.Test.YtcjddojcfdeflaaRd
set_option linter.unusedSimpArgs false
namespace Go.Proofs.Ytcjddojcfdeflaa
open Go.RowKit Ev
/-- the block that a row lies in -/
def rowIn (x : V) (m : Nat) : Prop := (∃ o l q, x = .sl m o l q) ∨ ∃ o l z, x = .sg m o l z
theorem Ev.RdRow.idxB {P : Program} {st : St} {t el z n : Nat} {x : V} {l : List V} (hu : P.underlying t = some (.slice el)) (hi : infoOk P el z = true) (h : RdRow st x z n l) {i : Nat} (hlt : i < n) :
    ∃ m o ty sz tr, (∀ k : V → Res, idxE P t x i k = k (.p m o)) ∧ m < st.nx ∧ st.h.get m = some (.cs ty sz tr) ∧ o + z ≤ sz ∧ (∀ j v, j < z → l[i * z + j]? = some v → tr.get (o + j) = some v) ∧ rowIn x m := by
  have hz := infoOk_pos hi
  have hle : i * z + z ≤ n * z := by rw [← Nat.succ_mul]; exact Nat.mul_le_mul_right z hlt
  obtain ⟨h1, h2⟩ := h
  rcases h2 with ⟨_, rfl⟩ | ⟨m, o, q, ty, sz, tr, rfl, h3, h4, h5, h6⟩ | ⟨m, o, ty, sz, tr, rfl, h3, h4, h5, h6⟩
  · omega
  · refine ⟨m, o + i * z, ty, sz, tr, fun k => ?_, h3, h4, by omega, fun j v hj hv => ?_, .inl ⟨_, _, _, rfl⟩⟩
    · rw [idxE_sl hu (fun k => infoOk_sz hi k), if_pos hlt]
    · rw [Nat.add_assoc]; exact h6 _ _ hv
  · refine ⟨m, o + i * z, ty, sz, tr, fun k => ?_, h3, h4, by omega, fun j v hj hv => ?_, .inr ⟨_, _, _, rfl⟩⟩
    · rw [idxE_sg hu (fun k => infoOk_sz hi k), if_pos hlt]
    · rw [Nat.add_assoc]; exact h6 _ _ hv
theorem rot9 (v : BitVec 64) : v.rotateLeft 9 = v <<< 9 ||| v >>> 55 := by simp [BitVec.rotateLeft_def]
theorem rot_any (c : Cx) (st : St) (v : BitVec 64) : Gd (callL Try.prog c 67 [wd v, .int .i64 9] st) fun r => r = (wd (v.rotateLeft 9), st) := by
  rw [Gd_callL Try.func67 rfl, rot9]
  simp [evOp_call, sets, T.get_set]
def slI (st : St) (x : V) (L : List (BitVec 64)) (s0 : BitVec 64) (e : Env) (s : St) : Prop := ∃ j : Nat, j ≤ L.length ∧ e.get 0 = some (wd (slOn s0 (L.take j))) ∧ e.get 7 = some x ∧ e.get 8 = some (.int .i64 L.length) ∧ e.get 9 = some (.int .i64 (j : Int)) ∧ s = st
theorem slOn_fl (st : St) (fl : List (Nat × Nat)) (wb : Nat) (x : V) (L : List (BitVec 64)) (hx : RdRow st x 1 L.length (wv L)) (hL : L.length ≤ 1000000) (hfl : ∀ m, rowIn x m → inF fl m = false) (s0 : BitVec 64) (nt : Nat) :
    Gd (callL Try.prog ⟨false, fl, wb, nt⟩ 60 [wd s0, x] st) fun r => r = (wd (slOn s0 L), st) := by
  rw [Gd_callL Try.func60 rfl]
  simp [evOp_call, sets, T.get_set, hx.lenS]
  refine Gd_loop (slI st x L s0) (fun e _ => muAt 9 L.length e) ?_ ?_
  · exact ⟨0, Nat.zero_le _, by simp [T.get_set, slOn], by simp [T.get_set], by simp [T.get_set], by simp [T.get_set], rfl⟩
  · rintro e s ⟨j, hj, g0, g7, g8, g9, rfl⟩
    by_cases hlt : j < L.length
    · have hlt' : (j : Int) < L.length := by omega
      have hw := wrap_nat (n := j) (by omega)
      obtain ⟨p, hp⟩ : ∃ p, L[j]? = some p := ⟨_, List.getElem?_eq_getElem hlt⟩
      obtain ⟨m1, o1, ty1, sz1, t1, i1, b1, k1, l1, c1, r1⟩ := hx.idxB (st := s) un28 io39 hlt
      have hfm := hfl m1 r1
      have hfo : ∀ nx, inF ((0, m1) :: (m1 + 1, nx) :: fl) m1 = false := fun nx => inF_ownF hfm
      have d1 : t1.get o1 = some (wd p) := c1 0 _ (by omega) (by simpa using wv_get hp)
      simp [evOp_call, T.get_set, g0, g7, g8, g9, hlt', i1, loadE_eq, getC_eq, k1, d1, hfm, hfo]
      refine Gd.mono (rot_any _ _ _) ?_
      rintro _ rfl
      simp [evOp_call, T.get_set, g0, g7, g8, g9, hw]
      exact ⟨⟨j + 1, hlt, by simp [T.get_set, slOn_take hp, slStep], by simp [T.get_set, g7], by simp [T.get_set, g8], by simp [T.get_set], rfl⟩, muAt_lt g9 (by simp [T.get_set]) hlt⟩
    · obtain rfl : j = L.length := by omega
      simp [evOp_call, T.get_set, g0, g7, g8, g9, List.take_length]
theorem slOn_any (st : St) (wb : Nat) (x : V) (L : List (BitVec 64)) (hx : RdRow st x 1 L.length (wv L)) (hL : L.length ≤ 1000000) (s0 : BitVec 64) (nt : Nat) :
    Gd (callL Try.prog ⟨false, [], wb, nt⟩ 60 [wd s0, x] st) fun r => r = (wd (slOn s0 L), st) :=
  slOn_fl st [] wb x L hx hL (fun _ _ => rfl) s0 nt
theorem slOf_fl (st : St) (fl : List (Nat × Nat)) (wb : Nat) (x : V) (L : List (BitVec 64)) (hx : RdRow st x 1 L.length (wv L)) (hL : L.length ≤ 1000000) (hfl : ∀ m, rowIn x m → inF fl m = false) (nt : Nat) :
    Gd (callL Try.prog ⟨false, fl, wb, nt⟩ 50 [x] st) fun r => r = (wd (slOf L), st) := by
  rw [Gd_callL Try.func50 rfl]
  simp [evOp_call, sets, T.get_set]
  refine Gd.mono (slOn_fl st fl wb x L hx hL hfl slBegin _) ?_
  rintro _ rfl
  simp [evOp_call, T.get_set, slOf]
theorem slOf_any (st : St) (wb : Nat) (x : V) (L : List (BitVec 64)) (hx : RdRow st x 1 L.length (wv L)) (hL : L.length ≤ 1000000) (nt : Nat) :
    Gd (callL Try.prog ⟨false, [], wb, nt⟩ 50 [x] st) fun r => r = (wd (slOf L), st) :=
  slOf_fl st [] wb x L hx hL (fun _ _ => rfl) nt
def rslI (st : St) (x : V) (L : List (BitVec 64)) (s0 : BitVec 64) (e : Env) (s : St) : Prop := ∃ j : Nat, j ≤ L.length ∧ e.get 0 = some (wd (slOn s0 (L.take j))) ∧ e.get 1 = some x ∧ e.get 5 = some (.int .i64 (j : Int)) ∧ s = st
theorem clone_any (st : St) (x : V) (n : Nat) (l : List V) (hx : RdRow st x 1 n l) (hn : n ≤ 1000000) (nt : Nat) :
    Gd (callL Try.prog ⟨false, [], 0, nt⟩ 13 [x] st) fun r => RdRow r.2 r.1 1 n l ∧ (0 < n → OwnRow st.nx r.2 r.1 1 n l) ∧ RowFrom st.nx r.1 ∧ Ext st.nx st r.2 := by
  rw [Gd_callL Try.func13 rfl]
  by_cases hnil : isNil x = true
  · obtain ⟨rfl, rfl⟩ := isNil_len hx hnil
    simp [sets, T.get_set, eql_nil un28 hx, hnil]
    exact ⟨hx, ⟨fun _ _ _ _ e => (by cases e), fun _ _ _ _ e => by cases e⟩, Ext.refl _ _⟩
  · simp [sets, T.get_set, eql_nil un28 hx, hnil]
    rw [evOp_build0 (fun k => el28 k) (fun k => ze39 k) rfl]
    simp [T.get_set]
    have he : Ext st.nx st ⟨st.nx + 1, st.h.set st.nx (.cs 39 0 .lf)⟩ := (Ext.refl _ _).new (Nat.le_refl _) _
    have hx' := hx.ext he
    refine Gd_append0 un28 un28 io39 (by decide) (T.get_set_same _ _ _) hx.notS (fun k => hx.len k) (fun k => hx'.firsts k) hx.1 (by omega) (fun h0 => ?_) fun h1 => ?_
    · subst h0
      simp [T.get_set]
      have hl : l = [] := List.length_eq_zero_iff.1 (by have := hx.1; omega)
      subst hl
      exact ⟨⟨rfl, .inr (.inl ⟨st.nx, 0, 0, 39, 0, .lf, rfl, Nat.lt_succ_self _, T.get_set_same _ _ _, Nat.le_refl _, fun j v h => by simp at h⟩)⟩, ⟨fun _ _ _ _ e => (by cases e), fun _ _ _ _ e => (by cases e; exact Nat.le_refl _)⟩, he⟩
    · simp [T.get_set]
      have h2 := he.new (Nat.le_succ _) (.cs 39 l.length (sets l 0 .lf))
      have ho : OwnRow st.nx ⟨st.nx + 1 + 1, (st.h.set st.nx (.cs 39 0 .lf)).set (st.nx + 1) (.cs 39 l.length (sets l 0 .lf))⟩ (.sg (st.nx + 1) 0 n 1) 1 n l := by
        refine ⟨hx.1, .inr ⟨st.nx + 1, 39, sets l 0 .lf, rfl, Nat.le_succ _, Nat.lt_succ_self _, ?_, by decide, fun j v hj => ?_⟩⟩
        · rw [← hx.1]; exact T.get_set_same _ _ _
        · have hjl : j < l.length := lt_of_get hj
          rw [get_sets, if_pos ⟨Nat.zero_le _, by omega⟩]
          simpa using hj
      exact ⟨ho.rd, fun _ => ho, ⟨fun _ _ _ _ e => (by cases e; omega), fun _ _ _ _ e => by cases e⟩, h2⟩
end Go.Proofs.Ytcjddojcfdeflaa

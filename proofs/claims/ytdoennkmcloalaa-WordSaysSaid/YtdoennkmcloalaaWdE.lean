/-
  Contracts of package word and of the document's own answer: bytes of words (the document's own), words of bytes.
-/
import Derived.Test.YtdoennkmcloalaaWdD
set_option linter.unusedSimpArgs false
namespace Go.Proofs.Ytdoennkmcloalaa
open Go.RowKit Ev
def rbI (st : St) (y : V) (L : List (BitVec 64)) (e : Env) (s : St) : Prop := ∃ (i : Nat) (x : V), i ≤ L.length ∧ e.get 0 = some y ∧ e.get 4 = some (.int .i64 (i : Int)) ∧ e.get 3 = some x ∧ OwnRow st.nx s x 1 (bytesL (L.take i)).length (bv (bytesL (L.take i))) ∧ Ext st.nx st s
def rbJ (st : St) (y : V) (L : List (BitVec 64)) (i : Nat) (w : BitVec 64) (e : Env) (s : St) : Prop := ∃ (k : Nat) (x : V), k ≤ 8 ∧ e.get 0 = some y ∧ e.get 4 = some (.int .i64 (i : Int)) ∧ e.get 5 = some (.int .i64 (k : Int)) ∧ e.get 3 = some x ∧ OwnRow st.nx s x 1 (bytesL (L.take i) ++ bytesN w k).length (bv (bytesL (L.take i) ++ bytesN w k)) ∧ Ext st.nx st s
set_option maxRecDepth 20000 in
set_option maxHeartbeats 4000000 in
theorem rbytes_any (st : St) (y : V) (L : List (BitVec 64)) (hy : RdRow st y 1 L.length (wv L)) (hL : L.length ≤ 100000) (nt : Nat) :
    Gd (callL Try.prog ⟨false, [], 0, nt⟩ 25 [y] st) fun r => OwnRow st.nx r.2 r.1 1 (bytesL L).length (bv (bytesL L)) ∧ Ext st.nx st r.2 := by
  rw [Gd_callL Try.func25 rfl]
  simp [evOp_call, sets, T.get_set]
  refine Gd_loop (rbI st y L) (fun en _ => muAt 4 L.length en) ?_ ?_
  · exact ⟨0, _, Nat.zero_le _, by simp [T.get_set], by simp [T.get_set], by simp [T.get_set], ⟨rfl, .inl ⟨rfl, rfl⟩⟩, Ext.refl _ _⟩
  · rintro en sx ⟨i, x, hi, g0, g4, g3, hrow, hx⟩
    have hyl := (hy.ext hx).lenS
    by_cases hlt : i < L.length
    · have hlt' : (i : Int) < (L.length : Int) := by omega
      have w1 : IntKind.i64.wrap ((i : Int) + 1) = ((i + 1 : Nat) : Int) := by rw [show ((i : Int) + 1) = ((i + 1 : Nat) : Int) by omega]; exact wrap_in (by omega) (by omega)
      obtain ⟨w, hw⟩ : ∃ w, L[i]? = some w := ⟨_, List.getElem?_eq_getElem hlt⟩
      simp [evOp_call, T.get_set, g0, g4, g3, hyl, hlt']
      refine Gd_loop (rbJ st y L i w) (fun en _ => muAt 5 8 en) ?_ ?_
      · exact ⟨0, x, by omega, by simp [T.get_set, g0], by simp [T.get_set, g4], by simp [T.get_set], by simp [T.get_set, g3], by simpa [bytesN] using hrow, hx⟩
      · clear g0 g3 hrow hx
        rintro e2 s2 ⟨k, x, hk, g0, g4', g5, g3, hrow, hx⟩
        by_cases hk8 : k < 8
        · have hk8' : (k : Int) < 8 := by omega
          have w2 : IntKind.i64.wrap ((k : Int) + 1) = ((k + 1 : Nat) : Int) := by rw [show ((k : Int) + 1) = ((k + 1 : Nat) : Int) by omega]; exact wrap_in (by omega) (by omega)
          have w3 : IntKind.i64.wrap (8 * (k : Int)) = 8 * (k : Int) := wrap_in (by omega) (by omega)
          have h9 : (BitVec.ofInt 64 (8 * (k : Int))).toNat = 8 * k := by rw [BitVec.toNat_ofInt]; omega
          have h10 : (8 * (k : Int) % 18446744073709551616).toNat = 8 * k := by omega
          obtain ⟨m, o, ty, sz, tr, hid, hm, hg, ho, hc⟩ := (hy.ext hx).idx (st := s2) un23 io24 hlt
          have t0 : tr.get o = some (wd w) := hc 0 _ (by omega) (by simpa using wv_get hw)
          simp [evOp_call, T.get_set, g0, g4', g5, g3, hk8', w3, h9, h10, hid, loadE_eq, getC_eq, hg, t0, un179, conv_byte]
          refine evOp_build1 (v := .int .u8 (byteN w k)) (cs := [.int .u8 (byteN w k)]) (fun k => el22 k) (fun k => ze5 k) rfl (by omega) (by simp [T.get_set]) (fun k => rfl) rfl ?_
          simp [evOp_call, T.get_set, g0, g4', g5, g3]
          have hlB : (bytesL (L.take i) ++ bytesN w k).length = 8 * i + k := by rw [List.length_append, bytesL_len, bytesN_len, List.length_take]; omega
          have hbx := hx.le
          refine Gd_append un22 un22 io5 (lx := 1) (new := [.int .u8 (byteN w k)]) (hrow.ext ((Ext.refl _ _).new (Nat.le_refl _) _)) (by show st.nx ≤ s2.nx + 1; omega) (by decide) (fun s' h => by cases h) (fun k => rfl) (fun k => by simp [getC_eq, getsB_1, T.get_set, sets]) rfl (by rw [hlB]; omega) ?_
          intro z s3 hz hx3 _ _
          simp [evOp_call, T.get_set, g5, w2]
          refine ⟨⟨k + 1, z, by omega, by simp [T.get_set, g0], by simp [T.get_set, g4'], by simp [T.get_set], by simp [T.get_set], ?_, (hx.new hbx _).trans hx3⟩, muAt_lt g5 (by simp [T.get_set]) hk8⟩
          rw [bytesN_succ, ← List.append_assoc, bv_app, List.length_append]
          exact hz
        · obtain rfl : k = 8 := by omega
          simp [evOp_call, T.get_set, g0, g4', g5, g3, w1]
          refine ⟨⟨i + 1, x, hlt, by simp [T.get_set, g0], by simp [T.get_set], by simp [T.get_set, g3], by rw [bytesL_take hw]; exact hrow, hx⟩, muAt_lt g4 (by simp [T.get_set]) hlt⟩
    · obtain rfl : i = L.length := by omega
      rw [List.take_length] at hrow
      simp [evOp_call, T.get_set, g0, g4, g3, hyl]
      exact ⟨hrow, hx⟩
/-- the words that bytes make -/
def wordsF (B : List Int) (n : Nat) : List (BitVec 64) := (List.range n).map fun (i : Nat) => getF B (i : Int)
theorem wordsF_succ (B : List Int) (n : Nat) : wordsF B (n + 1) = wordsF B n ++ [getF B (n : Int)] := by simp [wordsF, List.range_succ]
theorem wordsF_len (B : List Int) (n : Nat) : (wordsF B n).length = n := by simp [wordsF]
def rwI (st : St) (y : V) (B : List Int) (e : Env) (s : St) : Prop := ∃ (i : Nat) (x : V), i ≤ B.length / 8 ∧ e.get 0 = some y ∧ e.get 4 = some (.int .i64 (i : Int)) ∧ e.get 3 = some x ∧ OwnRow st.nx s x 1 (wordsF B i).length (wv (wordsF B i)) ∧ Ext st.nx st s
set_option maxRecDepth 20000 in
set_option maxHeartbeats 4000000 in
theorem rwords_any (st : St) (y : V) (B : List Int) (hy : RdRow st y 1 B.length (bv B)) (hB : B.length ≤ 1000000) (nt : Nat) :
    Gd (callL Try.prog ⟨false, [], 0, nt⟩ 28 [y] st) fun r => OwnRow st.nx r.2 r.1 1 (wordsF B (B.length / 8)).length (wv (wordsF B (B.length / 8))) ∧ Ext st.nx st r.2 := by
  rw [Gd_callL Try.func28 rfl]
  have h0 : ¬ (8 : Int) = 0 := by decide
  have w0 : IntKind.i64.wrap ((B.length : Int) / 8) = (B.length : Int) / 8 := wrap_in (by omega) (by omega)
  simp [evOp_call, sets, T.get_set]
  refine Gd_loop (rwI st y B) (fun en _ => muAt 4 (B.length / 8) en) ?_ ?_
  · exact ⟨0, _, Nat.zero_le _, by simp [T.get_set], by simp [T.get_set], by simp [T.get_set], ⟨rfl, .inl ⟨rfl, rfl⟩⟩, Ext.refl _ _⟩
  · rintro en sx ⟨i, x, hi, g0, g4, g3, hrow, hx⟩
    have hyx := hy.ext hx
    have hyl := hyx.lenS
    by_cases hlt : i < B.length / 8
    · have hlt' : (i : Int) < (B.length : Int) / 8 := by omega
      have w1 : IntKind.i64.wrap ((i : Int) + 1) = ((i + 1 : Nat) : Int) := by rw [show ((i : Int) + 1) = ((i + 1 : Nat) : Int) by omega]; exact wrap_in (by omega) (by omega)
      simp [evOp_call, T.get_set, g0, g4, g3, hyl, len8 B hB, w0, h0, hlt']
      refine Gd.mono (rget_any sx y B hyx hB (i : Int) _) ?_
      rintro _ rfl
      simp [evOp_call, T.get_set, g0, g4, g3]
      refine evOp_build1 (v := wd (getF B (i : Int))) (cs := [wd (getF B (i : Int))]) (fun k => el23 k) (fun k => ze24 k) rfl (by omega) (by simp [T.get_set]) (fun k => rfl) rfl ?_
      simp [evOp_call, T.get_set, g0, g4, g3]
      have hbx := hx.le
      refine Gd_append un23 un23 io24 (lx := 1) (new := [wd (getF B (i : Int))]) (hrow.ext ((Ext.refl _ _).new (Nat.le_refl _) _)) (by show st.nx ≤ sx.nx + 1; omega) (by decide) (fun s' h => by cases h) (fun k => rfl) (fun k => by simp [getC_eq, getsB_1, T.get_set, sets]) rfl (by rw [wordsF_len]; omega) ?_
      intro z s3 hz hx3 _ _
      simp [evOp_call, T.get_set, g4, w1]
      refine ⟨⟨i + 1, z, by omega, by simp [T.get_set, g0], by simp [T.get_set], by simp [T.get_set], ?_, (hx.new hbx _).trans hx3⟩, muAt_lt g4 (by simp [T.get_set]) hlt⟩
      rw [wordsF_succ, List.length_append]
      have : wv (wordsF B i ++ [getF B (i : Int)]) = wv (wordsF B i) ++ [wd (getF B (i : Int))] := by simp [wv]
      rw [this]
      exact hz
    · obtain rfl : i = B.length / 8 := by omega
      have hlt' : ¬ ((B.length / 8 : Nat) : Int) < (B.length : Int) / 8 := by omega
      simp [evOp_call, T.get_set, g0, g4, g3, hyl, len8 B hB, w0, h0, hlt']
      exact ⟨hrow, hx⟩
theorem rep_zeroW (n : Nat) : rep [V.int .u64 0] n = wv (List.replicate n 0#64) := by
  induction n with
  | zero => rfl
  | succ n ih => show [V.int .u64 0] ++ rep [V.int .u64 0] n = _; rw [ih]; rfl
/-- the first i words stand, the rest are noughts -/
def halfW (B : List Int) (n i : Nat) : List (BitVec 64) := wordsF B i ++ List.replicate (n - i) 0#64
theorem halfW_set {B : List Int} {n i : Nat} (h : i < n) : (halfW B n i).set i (getF B (i : Int)) = halfW B n (i + 1) := by
  unfold halfW
  obtain ⟨k, hk⟩ : ∃ k, n - i = k + 1 := ⟨n - i - 1, by omega⟩
  rw [hk, List.replicate_succ, List.set_append_right _ _ (by rw [wordsF_len]; exact Nat.le_refl _), wordsF_len, Nat.sub_self, List.set_cons_zero, wordsF_succ, show n - (i + 1) = k by omega]
  simp
def wwI (st : St) (y x : V) (B : List Int) (n : Nat) (e : Env) (s : St) : Prop := ∃ i : Nat, i ≤ n ∧ e.get 0 = some y ∧ e.get 3 = some x ∧ e.get 10 = some (.int .i64 (n : Int)) ∧ e.get 11 = some (.int .i64 (i : Int)) ∧ SlRow st.nx s x n (halfW B n i) ∧ Ext st.nx st s
set_option maxRecDepth 20000 in
set_option maxHeartbeats 4000000 in
theorem words_any (st : St) (y : V) (B : List Int) (hy : RdRow st y 1 B.length (bv B)) (hcap : CapOk y) (hB : B.length ≤ 1000000) (nt : Nat) :
    Gd (callL Try.prog ⟨false, [], 0, nt⟩ 27 [y] st) fun r => RdRow r.2 r.1 1 (B.length / 8) (wv (wordsF B (B.length / 8))) ∧ Ext st.nx st r.2 := by
  rw [Gd_callL Try.func27 rfl]
  have h0 : ¬ (8 : Int) = 0 := by decide
  have w0 : IntKind.i64.wrap ((B.length : Int) / 8) = (B.length : Int) / 8 := wrap_in (by omega) (by omega)
  simp [evOp_call, sets, T.get_set, hy.lenS, len8 B hB, w0, h0]
  obtain ⟨n, hn⟩ : ∃ n, n = B.length / 8 := ⟨_, rfl⟩
  have hn' : (B.length : Int) / 8 = (n : Int) := by omega
  rw [← hn]
  refine Gd_make (n := n) (q := n) (i := .i64) (i' := .i64) (zs := [.int .u64 0]) (fun k => el23 k) io24 (fun k => ze24 k) (by simp [T.get_set, w0, hn']) (by simp [T.get_set, w0, hn']) (Nat.le_refl _) (by omega) ?_
  rw [rep_zeroW]
  generalize hS : (⟨st.nx + 1, _⟩ : St) = s1
  have x1 : Ext st.nx st s1 := by rw [← hS]; exact (Ext.refl _ _).new (Nat.le_refl _) _
  have c1 : SlRow st.nx s1 (.sl st.nx 0 n n) n (halfW B n 0) := by
    rw [← hS]
    refine ⟨by simp [halfW, wordsF], st.nx, 24, sets (wv (List.replicate n 0#64)) 0 .lf, rfl, Nat.le_refl _, Nat.lt_succ_self _, ?_, by decide, fun j v hj => ?_⟩
    · have e : (wv (List.replicate n 0#64)).length = n := by simp [wv]
      show (st.h.set st.nx (.cs _ (wv (List.replicate n 0#64)).length _)).get st.nx = _
      rw [e]
      exact T.get_set_same _ _ _
    · have hj2 : (List.replicate n 0#64)[j]? = some v := by simpa [halfW, wordsF] using hj
      have hl := lt_of_get (wv_get hj2)
      rw [get_sets, if_pos ⟨Nat.zero_le _, by omega⟩]
      simpa using wv_get hj2
  have hlS : lenS s1 (.sl st.nx 0 n n) = some (.int .i64 (n : Int), s1) := rfl
  simp [evOp_call, sets, T.get_set, hlS]
  refine Gd_loop (wwI st y (.sl st.nx 0 n n) B n) (fun en _ => muAt 11 n en) ?_ ?_
  · exact ⟨0, Nat.zero_le _, by simp [T.get_set], by simp [T.get_set], by simp [T.get_set], by simp [T.get_set], c1, x1⟩
  · rintro en sx ⟨i, hi, g0, g3, g10, g11, hrow, hx⟩
    by_cases hlt : i < n
    · have hlt' : (i : Int) < (n : Int) := by omega
      have w1 : IntKind.i64.wrap ((i : Int) + 1) = ((i + 1 : Nat) : Int) := by rw [show ((i : Int) + 1) = ((i + 1 : Nat) : Int) by omega]; exact wrap_in (by omega) (by omega)
      simp [evOp_call, T.get_set, g0, g3, g10, g11, hlt']
      refine Gd.mono (get_any sx y B (hy.ext hx) hcap hB (i : Int) _) ?_
      rintro _ rfl
      obtain ⟨m, ty, t, e, hb, hm, hg, hro, hc, hput⟩ := hrow.put hlt
      injection e with e
      subst e
      have hid : ∀ k : V → Res, idxE Try.prog 23 (.sl st.nx 0 n n) i k = k (.p st.nx i) := fun k => by
        rw [idxE_sl un23 (fun k => infoOk_sz io24 k), if_pos hlt]; simp
      simp [evOp_call, T.get_set, g0, g3, g10, g11, hid, putB_eq, hg, hro, sets, w1, hlt]
      rw [if_pos (show i + 1 ≤ n by omega)]
      simp [evOp_call, T.get_set, g0, g3, g10, g11, w1]
      refine ⟨⟨i + 1, hlt, by simp [T.get_set, g0], by simp [T.get_set, g3], by simp [T.get_set, g10], by simp [T.get_set], ?_, hx.set hb hm _⟩, muAt_lt g11 (by simp [T.get_set]) hlt⟩
      rw [← halfW_set hlt]
      exact hput _
    · obtain rfl : i = n := by omega
      have hh : halfW B i i = wordsF B i := by simp [halfW]
      rw [hh] at hrow
      simp [evOp_call, T.get_set, g0, g3, g10, g11]
      exact ⟨hrow.rd, hx⟩
end Go.Proofs.Ytdoennkmcloalaa

/-
  The law PathParts, walked.
-/
import Derived.Test.YtdoennkmcloalaaDoorPaG
set_option linter.unusedSimpArgs false
namespace Go.Proofs.YtdoennkmcloalaaDoor
open Go.RowKit Ev
/-- the first of a row -/
theorem row_hi {P : Program} {st : St} {t el n : Nat} {x : V} {l : List V} (k : Nat) (hu : P.underlying t = some (.slice el)) (hi : infoOk P el 1 = true) (h : RdRow st x 1 n l) (hc : CapOk x) (hn : 0 < n) (hk : k ≤ n) :
    ∃ x', (∀ (e : Env) (o : Operand) (i : IntKind), opv e o = some (.int i (k : Int)) → ∀ kk : V → Res, sliceE P e t x none (some o) kk = kk x') ∧ RdRow st x' 1 k (l.take k) := by
  obtain ⟨h1, h2⟩ := h
  have hl : (l.take k).length = k * 1 := by rw [List.length_take]; omega
  have hg : ∀ j v, (l.take k)[j]? = some v → l[j]? = some v := fun j v hj => by
    rw [List.getElem?_take] at hj
    split at hj
    · exact hj
    · cases hj
  rcases h2 with ⟨_, h2⟩ | ⟨m, o', q, ty, sz, tr, rfl, h3, h4, h5, h6⟩ | ⟨m, o', ty, sz, tr, rfl, h3, h4, h5, h6⟩
  · omega
  · refine ⟨.sl m o' k q, fun e o i hv kk => sliceE_hiS hu hi hv m o' n q (by have := hc m o' n q rfl; omega) kk, hl, .inr (.inl ⟨m, o', q, ty, sz, tr, rfl, h3, h4, by omega, fun j v hj => h6 j v (hg j v hj)⟩)⟩
  · refine ⟨.sg m (o' + 0 * 1) k 1, fun e o i hv kk => sliceE_hiZ hu hi hv m o' n hk kk, hl, .inr (.inr ⟨m, o' + 0 * 1, ty, sz, tr, rfl, h3, h4, by omega, fun j v hj => by simpa using h6 j v (hg j v hj)⟩)⟩
theorem sv_take (L : List Tx) (k : Nat) : (sv L).take k = sv (L.take k) := by simp [sv, List.map_take]
theorem jn_max {L : List Tx} {n : Nat} (h : ∀ p ∈ L, p.length ≤ n) : (jn L).length ≤ L.length * (n + 1) := by
  rw [jn_len]
  induction L with
  | nil => simp
  | cons p L ih =>
    have h1 := ih fun q hq => h q (by simp [hq])
    have h2 := h p (by simp)
    simp only [List.map_cons, List.sum_cons, List.length_cons, Nat.add_mul]
    omega
theorem not_suf {L : List Tx} (hne : L ≠ []) (h : ∀ p ∈ L, nmT p) : ¬ suf (jn L) := by
  rintro ⟨h1, h2⟩
  obtain ⟨K, q, rfl⟩ := List.eq_nil_or_concat L |>.resolve_left hne
  have hq := h q (by simp)
  rw [List.concat_eq_append, jn_app] at h2 h1
  have e : jn [q] = 47 :: q := by simp [jn]
  rw [e] at h2 h1
  obtain ⟨q1, q2, q3, q4, q5, q6⟩ := hq
  rcases List.eq_nil_or_concat q with rfl | ⟨q', b, rfl⟩
  · exact q1 rfl
  rcases List.eq_nil_or_concat q' with rfl | ⟨q'', a, rfl⟩
  · have : (jn K ++ 47 :: ([] : Tx).concat b).length - 2 = (jn K).length := by simp
    rw [this, List.drop_append_of_le_length (Nat.le_refl _), List.drop_length] at h2
    simp at h2
    subst h2
    exact q3 rfl
  · have e2 : jn K ++ 47 :: (q''.concat a).concat b = (jn K ++ 47 :: q'') ++ [a, b] := by simp
    rw [e2] at h2
    have : ((jn K ++ 47 :: q'') ++ [a, b]).length - 2 = (jn K ++ 47 :: q'').length := by simp; omega
    rw [this, List.drop_append_of_le_length (Nat.le_refl _), List.drop_length] at h2
    simp at h2
    apply q5
    simp [h2.1]
theorem names_all {L : List Tx} (hne : L ≠ []) (hL : L.length ≤ 9) (h : ∀ p ∈ L, nmT p) : errS (jn L) = 0 ∧ parS (jn L) = L ∧ lastE (jn L) = 0 ∧ clS (jn L) = jn L := by
  have e1 : errS (jn L) = 0 := by
    refine err_jn hne ?_ fun p hp => ?_
    · have := jn_max (L := L) (n := 40) fun p hp => (h p hp).2.1
      omega
    · obtain ⟨q1, q2, q3, q4, q5, q6⟩ := h p hp
      exact ⟨q5, fun hb => by unfold badT at hb; rcases hb with hb | hb; omega; exact q6 hb⟩
  have e2 : parS (jn L) = L := par_jn fun p hp => ⟨(h p hp).2.2.2.2.1, (h p hp).1, (h p hp).2.2.1⟩
  refine ⟨e1, e2, ?_, ?_⟩
  · unfold lastE
    rw [if_neg (by simp [e1]), if_neg]
    rintro (k | k | k | k)
    · rw [e2] at k; exact hne k
    · rw [e2] at k; exact (h _ (List.mem_of_getLast? k)).2.2.2.1 rfl
    · cases L with
      | nil => exact hne rfl
      | cons p L => have e : jn (p :: L) = 47 :: (p ++ jn L) := rfl
                    rw [e] at k; injection k with k _; omega
    · exact not_suf hne h k
  · unfold clS
    rw [if_pos e1, e2, clP_names fun p hp => (h p hp).2.2.2.1]
    unfold wayL
    rw [if_neg hne]
def ppI (st : St) (x : V) (L : List Tx) (e : Env) (s : St) : Prop := ∃ i : Nat, i ≤ L.length ∧ e.get 0 = some x ∧ e.get 3 = some (.int .i64 (i : Int)) ∧ (∀ p ∈ L.take i, nmT p) ∧ s = st
set_option maxRecDepth 20000 in
set_option maxHeartbeats 4000000 in
theorem g_PathParts (st : St) (x : V) (L : List Tx) (hx : RdRow st x 1 L.length (sv L)) (hok : ∀ p ∈ L, okS p) (hcap : CapOk x) : Gd (lawC Tryd.prog 8 ⟨false, [], 0, 0⟩ 6 [x] st) fun r => r.1 = .bool true := by
  rw [Gd_lawC Tryd.func6 rfl]
  by_cases c1 : (L.length : Int) < 1
  · simp [evOp_call, sets, T.get_set, oracF_cons, hx.lenS, c1]
  by_cases c2 : (9 : Int) < (L.length : Int)
  · simp [evOp_call, sets, T.get_set, oracF_cons, hx.lenS, c1, c2]
  simp [evOp_call, sets, T.get_set, oracF_cons, hx.lenS, c1, c2]
  refine Gd_loop (ppI st x L) (fun en _ => muAt 3 L.length en) ?_ ?_
  · exact ⟨0, Nat.zero_le _, by simp [T.get_set], by simp [T.get_set], fun p hp => by simp at hp, rfl⟩
  · rintro en sx ⟨i, hi, g0, g3, hnm, rfl⟩
    by_cases hlt : i < L.length
    · have hlt' : (i : Int) < (L.length : Int) := by omega
      have w1 : IntKind.i64.wrap ((i : Int) + 1) = ((i + 1 : Nat) : Int) := by rw [show ((i : Int) + 1) = ((i + 1 : Nat) : Int) by omega]; exact wrap_in (by omega) (by omega)
      obtain ⟨p, hp⟩ : ∃ p, L[i]? = some p := ⟨_, List.getElem?_eq_getElem hlt⟩
      have hpo := hok p (List.mem_of_getElem? hp)
      obtain ⟨m, o, ty, sz, tr, hid, hm, hg, ho, hcc⟩ := hx.idx (st := sx) un23 io9 hlt
      have t0 : tr.get o = some (.s p) := hcc 0 _ (by omega) (by simpa using sv_get hp)
      simp [evOp_call, T.get_set, oracF_cons, g0, g3, hx.lenS, hlt', hid, loadE_eq, getC_eq, hg, t0]
      refine Gd.mono (name_any _ sx p hpo) ?_
      rintro _ rfl
      by_cases hn : nmT p
      · simp [evOp_call, T.get_set, oracF_cons, g0, g3, hn, w1]
        refine ⟨⟨i + 1, hlt, by simp [T.get_set, g0], by simp [T.get_set], fun q hq => ?_, rfl⟩, muAt_lt g3 (by simp [T.get_set]) hlt⟩
        rw [List.take_add_one, hp] at hq
        rcases List.mem_append.1 hq with hq | hq
        · exact hnm q hq
        · simp at hq; subst hq; exact hn
      · simp [evOp_call, T.get_set, oracF_cons, g0, g3, hn]
    · obtain rfl : i = L.length := by omega
      rw [List.take_length] at hnm
      have hne : L ≠ [] := fun e => by rw [e] at c1; simp at c1
      have hpos : 0 < L.length := List.length_pos_iff.2 hne
      obtain ⟨e1, e2, e3, e4⟩ := names_all hne (by omega) hnm
      have hjl := jn_max (L := L) (n := 40) fun p hp => (hnm p hp).2.1
      obtain ⟨c, hc⟩ : ∃ c, c = jn L := ⟨_, rfl⟩
      have hco : okS c := by rw [hc]; exact okS_jn hok
      simp [evOp_call, T.get_set, oracF_cons, g0, g3, hx.lenS]
      refine Gd.mono (join_any sx x L hx (by omega) hok (by omega) _) ?_
      rintro ⟨r, s1⟩ ⟨hr, x1⟩
      simp only at hr x1
      subst hr
      rw [← hc] at e1 e2 e3 e4 ⊢
      simp [evOp_call, T.get_set, oracF_cons, g0, g3]
      refine Gd.mono (psplit_any _ c hco _) ?_
      rintro ⟨r, s2⟩ ⟨y, hr, hy, x2⟩
      simp only at hr hy x2
      subst hr
      have hpe : pErr c = L := by unfold pErr; rw [if_pos e1, e2]
      rw [hpe] at hy
      have hy := hy.rd
      have hx2 := hx.ext (x1.trans (x2.mono x1.le))
      simp [evOp_call, T.get_set, oracF_cons, g0, g3, tupK, e1]
      refine Gd.mono (last_any _ c hco _) ?_
      rintro ⟨r, s3⟩ ⟨z, hr, hz, _, _, x3⟩
      simp only at hr hz x3
      subst hr
      have hld : lastD c = L.dropLast := by unfold lastD; rw [if_pos e3, e2]
      obtain ⟨k, hk⟩ : ∃ k, k + 1 = L.length := ⟨_, Nat.sub_add_cancel hpos⟩
      obtain ⟨p, hp⟩ : ∃ p, L[k]? = some p := ⟨_, List.getElem?_eq_getElem (by omega)⟩
      have hln : lastN c = p := by
        unfold lastN
        rw [if_pos e3, e2, List.getLast?_eq_getElem?, show L.length - 1 = k by omega, hp]
        rfl
      have hdl : L.dropLast = L.take k := by rw [List.dropLast_eq_take, show L.length - 1 = k by omega]
      rw [hld, hdl] at hz
      have hkl : (L.take k).length = k := by rw [List.length_take]; omega
      rw [hkl] at hz
      have hx3 := hx2.ext x3
      have hy3 := hy.ext x3
      have w1 : IntKind.i64.wrap ((L.length : Int) - 1) = (k : Int) := by rw [show (L.length : Int) - 1 = (k : Int) by omega]; exact wrap_in (by omega) (by omega)
      rw [hln]
      simp [evOp_call, T.get_set, oracF_cons, g0, g3, tupK, e1, e3, hx3.lenS, w1]
      refine Gd.mono (texts_any s3 y x L L hy3 hx3 (by omega) _) ?_
      rintro _ rfl
      simp [evOp_call, T.get_set, oracF_cons, g0, g3, tupK, e1, e3, hx3.lenS, w1]
      unfold sliceK
      obtain ⟨x', k1, k2⟩ := row_hi k un23 io9 hx3 hcap hpos (by omega)
      rw [k1 _ _ .i64 (by simp [T.get_set, w1])]
      rw [sv_take] at k2
      simp [evOp_call, T.get_set, oracF_cons, g0, g3, tupK, e1, e3, hx3.lenS, w1]
      refine Gd.mono (texts_any s3 z x' (L.take k) (L.take k) (by rw [hkl]; exact hz) (by rw [hkl]; exact k2) (by omega) _) ?_
      rintro _ rfl
      obtain ⟨m, o, ty, sz, tr, hid, hm, hg, ho, hcc⟩ := hx3.idx (st := s3) un23 io9 (i := k) (by omega)
      have t0 : tr.get o = some (.s p) := hcc 0 _ (by omega) (by simpa using sv_get hp)
      simp [evOp_call, T.get_set, oracF_cons, g0, g3, tupK, e1, e3, hx3.lenS, w1, hid, loadE_eq, getC_eq, hg, t0]
      refine Gd.mono (clean_any _ c hco _) ?_
      rintro ⟨r, s4⟩ ⟨hr, _⟩
      simp only at hr
      subst hr
      simp [evOp_call, T.get_set, oracF_cons, g0, g3, e4]
theorem w_PathParts (l : List Tx) (W : World) (x : Value) (hx : (rowC sC).rel W (fun j => [x][j]?.getD default) l) :
    Calls Tryd.prog 6 #[x] W fun e W' => e = .returned (.bool true) ∧ Below W.heap.size W W' := by
  obtain ⟨s1, r1, v1, b1, l1, q1, e1, a1⟩ := (rowC sC).enter (Begin.zero W) hx
  obtain ⟨k1, k2, k3⟩ := rows_in a1
  exact law_calls (lawC_sound namesOkW mixesW Tryd.func8 rfl paAwake) b1 (.cons (q1 0 (by decide)).2 .nil)
    (g_PathParts s1 (v1 0) l k1 k2 k3)
end Go.Proofs.YtdoennkmcloalaaDoor

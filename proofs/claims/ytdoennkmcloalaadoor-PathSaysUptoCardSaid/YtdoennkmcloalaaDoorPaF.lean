/-
  The law PathCleans, walked.
-/
import Derived.Test.YtdoennkmcloalaaDoorPaE
set_option linter.unusedSimpArgs false
namespace Go.Proofs.YtdoennkmcloalaaDoor
open Go.RowKit Ev
theorem namesOkW : Ev.namesOk Tryd.prog = true := by kernel_rfl
theorem mixesW : Tryd.prog.follows .mixedOrders = true := by kernel_rfl
theorem paRan : Ev.yesQ Tryd.prog 100000 8 = true := by kernel_rfl
theorem paAwake (w : World) : Calls Tryd.prog 8 #[] w fun e w' => e = .returned (.bool true) ∧ Below w.heap.size w w' := Ev.yesQ_ok namesOkW mixesW paRan w
theorem okS_clS {s : Tx} (hs : okS s) : okS (clS s) := by
  unfold clS
  split
  · unfold wayL
    split
    · intro b hb; simp at hb; omega
    · exact okS_jn fun p hp => okS_cl hs hp
  · intro b hb; simp at hb
theorem clS_all {s : Tx} (hl : s.length ≤ 399) (h : clS s ≠ []) : errS (clS s) = 0 ∧ (∀ p ∈ parS (clS s), p ≠ [46, 46] ∧ p ≠ [46] ∧ p ≠ []) ∧ clS (clS s) = clS s ∧ ((parS (clS s) = [] ∧ clS s = [47]) ∨ jn (parS (clS s)) = clS s) := by
  have he : errS s = 0 := by
    by_cases he : errS s = 0
    · exact he
    · exact absurd (by unfold clS; rw [if_neg he]) h
  obtain ⟨h1, h2, h3, h4⟩ := clS_some he hl
  by_cases h0 : clP (parS s) = []
  · have := h1 h0
    obtain ⟨k1, k2, k3⟩ := clS_slash
    rw [this]
    exact ⟨k1, by rw [k2]; simp, k3, .inl ⟨k2, rfl⟩⟩
  · obtain ⟨e1, e2, e3, e4⟩ := h2 h0
    exact ⟨e2, by rw [e3]; exact h4, e4, .inr (by rw [e3]; exact e1.symm)⟩
def pcI (s1 : St) (y : V) (c : Tx) (L : List Tx) (e : Env) (s : St) : Prop := ∃ i : Nat, i ≤ L.length ∧ e.get 3 = some (.s c) ∧ e.get 6 = some y ∧ e.get 7 = some (.int .i64 0) ∧ e.get 8 = some (.int .i64 (i : Int)) ∧ s = s1
set_option maxRecDepth 20000 in
set_option maxHeartbeats 4000000 in
theorem g_PathCleans (st : St) (s : Tx) (hs : okS s) : Gd (lawC Tryd.prog 8 ⟨false, [], 0, 0⟩ 5 [.s s] st) fun r => r.1 = .bool true := by
  rw [Gd_lawC Tryd.func5 rfl]
  by_cases hl : (399 : Int) < (s.length : Int)
  · simp [evOp_call, sets, T.get_set, oracF_cons, len_str un9, hl]
  · have hl' : s.length ≤ 399 := by omega
    simp [evOp_call, sets, T.get_set, oracF_cons, len_str un9, hl]
    refine Gd.mono (clean_any _ s hs _) ?_
    rintro ⟨r, s1⟩ ⟨hr, _⟩
    simp only at hr
    subst hr
    by_cases h0 : clS s = []
    · simp [evOp_call, sets, T.get_set, oracF_cons, h0]
      refine Gd.mono (psplit_any _ s hs _) ?_
      rintro ⟨r, s2⟩ ⟨y, hr, _⟩
      simp only at hr
      subst hr
      have he : errS s ≠ 0 := fun he => (clS_some he hl').2.2.1 h0
      simp [evOp_call, sets, T.get_set, oracF_cons, tupK, he]
    · obtain ⟨e1, e2, e3, e4⟩ := clS_all hl' h0
      have hco := okS_clS hs
      obtain ⟨c, hc⟩ : ∃ c, c = clS s := ⟨_, rfl⟩
      rw [← hc] at e1 e2 e3 e4 hco h0
      rw [← hc]
      simp [evOp_call, sets, T.get_set, oracF_cons, h0]
      refine Gd.mono (psplit_any _ c hco _) ?_
      rintro ⟨r, s2⟩ ⟨y, hr, hy, x2⟩
      simp only at hr hy x2
      subst hr
      have hpe : pErr c = parS c := by unfold pErr; rw [if_pos e1]
      rw [hpe] at hy
      have hy := hy.rd
      have hpl := par_len c
      have hcl := (errS_zero e1).2.1
      simp [evOp_call, sets, T.get_set, oracF_cons, tupK, e1]
      refine Gd_loop (pcI s2 y c (parS c)) (fun en _ => muAt 8 (parS c).length en) ?_ ?_
      · exact ⟨0, Nat.zero_le _, by simp [T.get_set], by simp [T.get_set], by simp [T.get_set], by simp [T.get_set], rfl⟩
      · rintro en sx ⟨i, hi, g3, g6, g7, g8, rfl⟩
        by_cases hlt : i < (parS c).length
        · have hlt' : (i : Int) < ((parS c).length : Int) := by omega
          have w1 : IntKind.i64.wrap ((i : Int) + 1) = ((i + 1 : Nat) : Int) := by rw [show ((i : Int) + 1) = ((i + 1 : Nat) : Int) by omega]; exact wrap_in (by omega) (by omega)
          obtain ⟨p, hp⟩ : ∃ p, (parS c)[i]? = some p := ⟨_, List.getElem?_eq_getElem hlt⟩
          obtain ⟨k1, k2, k3⟩ := e2 p (List.mem_of_getElem? hp)
          obtain ⟨m, o, ty, sz, tr, hid, hm, hg, ho, hcc⟩ := hy.idx (st := sx) un23 io9 hlt
          have t0 : tr.get o = some (.s p) := hcc 0 _ (by omega) (by simpa using sv_get hp)
          simp [evOp_call, T.get_set, oracF_cons, g3, g6, g7, g8, hy.lenS, hlt', hid, loadE_eq, getC_eq, hg, t0, k1, k2, k3, w1]
          exact ⟨⟨i + 1, hlt, by simp [T.get_set, g3], by simp [T.get_set, g6], by simp [T.get_set, g7], by simp [T.get_set], rfl⟩, muAt_lt g8 (by simp [T.get_set]) hlt⟩
        · obtain rfl : i = (parS c).length := by omega
          simp [evOp_call, T.get_set, oracF_cons, g3, g6, g7, g8, hy.lenS]
          refine Gd.mono (clean_any _ c hco _) ?_
          rintro ⟨r, s3⟩ ⟨hr, x3⟩
          simp only at hr x3
          subst hr
          have hy3 := hy.ext x3
          rcases e4 with ⟨q1, q2⟩ | q
          · have hq : c = [47] := q2
            simp [evOp_call, T.get_set, oracF_cons, g3, g6, g7, g8, hy3.lenS, e3, q1, hq, clS_slash.2.2, clS_slash.2.1]
          · by_cases h00 : parS c = []
            · rw [h00] at q
              exact absurd q.symm h0
            · have hn0 : ¬ ((parS c).length : Int) = 0 := by have := List.length_pos_iff.2 h00; omega
              simp [evOp_call, T.get_set, oracF_cons, g3, g6, g7, g8, hy3.lenS, e3, h00, hn0]
              refine Gd.mono (join_any s3 y _ hy3 (by omega) (fun p hp => okS_par hco hp) (by rw [q]; omega) _) ?_
              rintro ⟨r, s4⟩ ⟨hr, _⟩
              simp only at hr
              subst hr
              simp [evOp_call, T.get_set, oracF_cons, g3, g6, g7, g8, q]
/-- a text that came in -/
def txOf (s : ByteArray) : Tx := s.data.toList.map UInt8.toNat
theorem txOf_ok (s : ByteArray) : okS (txOf s) := fun b hb => by
  unfold txOf at hb
  obtain ⟨x, _, rfl⟩ := List.mem_map.1 hb
  exact x.toNat_lt
theorem txOf_rel (ρ : Rho) (s : ByteArray) : Rel ρ (.s (txOf s)) (.string s) := by
  simp only [Rel]
  refine ⟨?_, txOf_ok s⟩
  have : (txOf s).map UInt8.ofNat = s.data.toList := by
    unfold txOf
    rw [List.map_map]
    conv => rhs; rw [← List.map_id s.data.toList]
    congr 1
    funext x
    simp
  rw [this]
theorem w_PathCleans (s : ByteArray) (W : World) (_ : s.size ≤ maxLen) : Calls Tryd.prog 5 #[.string s] W fun e W' => e = .returned (.bool true) ∧ Below W.heap.size W W' :=
  law_calls (lawC_sound namesOkW mixesW Tryd.func8 rfl paAwake) (Begin.zero W) (.cons (txOf_rel _ s) .nil) (g_PathCleans _ (txOf s) (txOf_ok s))
end Go.Proofs.YtdoennkmcloalaaDoor

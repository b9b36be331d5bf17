/-
  Contracts: all records, in order; who has one.
-/
import Derived.Test.YtdoennkmcloalaaBsD
set_option linter.unusedSimpArgs false
namespace Go.Proofs.Ytdoennkmcloalaa
open Go.RowKit Ev
set_option maxRecDepth 20000 in
theorem stable_nil (st : St) (nt : Nat) :
    Gd (callL Try.prog ⟨false, [], 0, nt⟩ 170 [.c (.slice none 0 0), .f (.func 171) [] []] st) fun r => r = (.t [], st) := by
  rw [Gd_callL Try.func170 rfl]
  have hl := (nilRow2 st).lenS st
  simp at hl
  simp [evOp_call, sets, T.get_set, hl]
  rw [Gd_callL Try.func207 rfl]
  simp [evOp_call, sets, T.get_set]
  refine Gd_loop (stI st (.c (.slice none 0 0)) 0) (fun _ _ => 0) ?_ ?_
  · exact ⟨by simp [T.get_set], by simp [T.get_set], by simp [T.get_set], by simp [T.get_set], by simp [T.get_set], by simp [T.get_set], rfl⟩
  rintro e s ⟨g0, g1, g2, g6, g7, g8, rfl⟩
  simp [evOp_call, T.get_set, g0, g1, g2, g6, g7, g8]
  rw [Gd_callL Try.func239 rfl]
  have w1 : IntKind.i64.wrap 1 = 1 := by decide
  simp [evOp_call, sets, T.get_set, w1]
  refine Gd_loop (fun e s' => e.get 2 = some (.int .i64 0) ∧ e.get 8 = some (.int .i64 1) ∧ s' = s) (fun _ _ => 0) ?_ ?_
  · exact ⟨by simp [T.get_set], by simp [T.get_set], rfl⟩
  rintro e2 s2 ⟨k2, k8, rfl⟩
  simp [evOp_call, sets, T.get_set, k2, k8, g0, g1, g2, g6, g7, g8]
  refine Gd_loop (stI s2 (.c (.slice none 0 0)) 0) (fun _ _ => 0) ?_ ?_
  · exact ⟨by simp [T.get_set, g0], by simp [T.get_set, g1], by simp [T.get_set, g2], by simp [T.get_set, g6], by simp [T.get_set, g7], by simp [T.get_set, g8], rfl⟩
  clear g0 g1 g2 g6 g7 g8
  rintro e2 s3 ⟨g0, g1, g2, g6, g7, g8, rfl⟩
  simp [evOp_call, T.get_set, g0, g1, g2, g6, g7, g8, sets]
theorem filt_take {H : List (Option RecW)} {i : Nat} {r0 : Option RecW} (h : H[i]? = some r0) : (H.take (i + 1)).filterMap id = (H.take i).filterMap id ++ r0.toList := by
  rw [List.take_add_one, h, List.filterMap_append]
  cases r0 <;> rfl
def recOf (e : RcE) : RecW := (e.1, e.2.2)
structure RcRows (b : Nat) (s : St) (y : V) (E : List RcE) : Prop where
  row : OwnRow b s y 2 E.length (rwE E)
  each : ∀ e ∈ E, RdRow s e.2.1 2 e.2.2.length (iw e.2.2) ∧ RowFrom b e.2.1 ∧ ∀ k, Nm e.2.1 k → ¬ Nm y k
theorem RcRows.ext {b : Nat} {s s' : St} {y : V} {E : List RcE} (h : RcRows b s y E) (k : Ext s.nx s s') : RcRows b s' y E := ⟨h.row.ext k, fun e he => ⟨(h.each e he).1.ext k, (h.each e he).2⟩⟩
theorem RcRows.blk {b : Nat} {s : St} {y : V} {E : List RcE} (h : RcRows b s y E) (h0 : 0 < E.length) : ∃ m, y = .sg m 0 E.length 2 ∧ b ≤ m ∧ RcB s m E := by
  obtain ⟨h1, h2⟩ := h.row
  rcases h2 with ⟨_, h2⟩ | ⟨m, ty, t, h2, h3, h4, h5, h6, h7⟩
  · omega
  · refine ⟨m, h2, h3, h4, ty, t, h5, h6, fun j r hj => ?_⟩
    obtain ⟨a0, a1⟩ := rwE_at E j r hj
    exact ⟨h7 _ _ a0, h7 _ _ a1, (h.each r (List.mem_of_getElem? hj)).1.one⟩
def baE (st : St) (H : List (Option RecW)) (r : V × St) : Prop := ∃ E : List RcE, RdRow r.2 r.1 2 E.length (rwE E) ∧ Ext st.nx st r.2 ∧ (∀ e ∈ E, RdRow r.2 e.2.1 2 e.2.2.length (iw e.2.2)) ∧ (E.map recOf).Perm (H.filterMap id) ∧ Srt E E.length ∧ E.length ≤ 8 ∧ RowFrom st.nx r.1 ∧ ∀ e ∈ E, RowFrom st.nx e.2.1
def baL (st : St) (z : V) (n : Nat) (H : List (Option RecW)) (e : Env) (s : St) : Prop := ∃ (i : Nat) (y : V) (E : List RcE), i ≤ n ∧ e.get 3 = some y ∧ e.get 12 = some z ∧ e.get 13 = some (.int .i64 (n : Int)) ∧ e.get 14 = some (.int .i64 (i : Int)) ∧ Ext st.nx st s ∧ RcRows st.nx s y E ∧ E.map recOf = (H.take i).filterMap id ∧ E.length ≤ i ∧ (E.length = 0 → y = .c (.slice none 0 0))
set_option maxRecDepth 20000 in
set_option maxHeartbeats 8000000 in
theorem bsall_any (st : St) (q : Nat) (v : MV) (hm : MemAt st q v) (p : Nat) (z : V) (n : Nat) (hn : n ≤ 8) (m : BitVec 64) (hb : BsAt st q v p z n m) (H : List (Option RecW)) (hs : Shelf n (absV v) H) (nt : Nat) :
    Gd (callL Try.prog ⟨false, [], 0, nt⟩ 104 [.p p 0] st) (baE st H) := by
  rw [Gd_callL Try.func104 rfl]
  obtain ⟨t, k1, k2, k3⟩ := hb.blk
  have hR : v.R.length = 4 * n := by rw [← absLen]; exact hs.c.ok.len
  have hoff : v.off = false := hs.c.ok.off
  simp [evOp_call, sets, T.get_set, loadE_eq, getC_eq, k1, k2, hb.row.1.lenS]
  refine Gd_loop (baL st z n H) (fun e _ => muAt 14 n e) ?_ ?_
  · exact ⟨0, _, [], Nat.zero_le _, by simp [T.get_set], by simp [T.get_set], by simp [T.get_set], by simp [T.get_set], Ext.refl _ _, ⟨OwnRow.nil _ _ _, fun e he => by cases he⟩, by simp, Nat.le_refl _, fun _ => rfl⟩
  rintro e s ⟨i, y, E, hi, g3, g12, g13, g14, hes, hE, hmap, hEi, hy0⟩
  by_cases hlt : i < n
  case neg =>
    obtain rfl : i = n := by omega
    rw [List.take_of_length_le (by rw [hs.len]; exact Nat.le_refl _)] at hmap
    simp [evOp_call, T.get_set, g3, g12, g13, g14]
    rcases Nat.eq_zero_or_pos E.length with h0 | h0
    · have hy := hy0 h0
      subst hy
      have hE0 : E = [] := List.length_eq_zero_iff.1 h0
      subst hE0
      refine Gd.mono (stable_nil s _) ?_
      rintro _ rfl
      simp [evOp_call, T.get_set, g3, sets]
      exact ⟨[], (OwnRow.nil 0 s 2).rd, hes, fun e he => (by cases he), by rw [hmap], fun p q _ hq => absurd hq (Nat.not_lt_zero _), by simp, nilFrom _, fun e he => by cases he⟩
    · obtain ⟨mb, hy, hbm, hB⟩ := hE.blk h0
      subst hy
      refine Gd.mono (stable_any s mb E h0 (by omega) hB _) ?_
      rintro ⟨r, s2⟩ ⟨hr, E', hp, hso, hB2, hle, hkeep, hwf⟩
      simp only at hr hB2 hle hkeep hwf
      subst hr
      simp [evOp_call, T.get_set, g3, sets]
      have hrow := hB2.row
      rw [hp.length_eq] at hrow
      refine ⟨E', by rw [hp.length_eq]; exact hrow, ⟨Nat.le_trans hes.le hle, fun w => hwf (hes.wf w), fun k hk => (hkeep k (by have := hes.le; omega) (by omega)).trans (hes.keep k hk)⟩, fun e he => ?_, (hp.map recOf).trans (by rw [hmap]), hso, by rw [hp.length_eq]; omega, ⟨fun _ _ _ _ e => by injection e; omega, fun _ _ _ _ e => by cases e⟩, fun e he => (hE.each e (hp.mem_iff.1 he)).2.1⟩
      obtain ⟨f1, f2, f3⟩ := hE.each e (hp.mem_iff.1 he)
      exact f1.other hle fun k hk => hkeep k (f1.nm_lt hk) (fun e => f3 k hk (by rw [e]; exact .inl ⟨_, _, _, rfl⟩))
  have hlt' : (i : Int) < n := by omega
  have hwi := wrap_nat (n := i) (by omega)
  obtain ⟨mb, o, ty, sz, tr, hid, hmb, hg, ho, hc⟩ := (hb.row.more hes).1.idx (st := s) un142 io122 hlt
  have t0 : tr.get o = some (.p q 0) := hc 0 _ (by omega) (bkRow_at q n hlt rfl)
  have t1 : tr.get (o + 1) = some (.int .i64 (4 * (i : Int))) := hc 1 _ (by omega) (bkRow_at q n hlt rfl)
  have t2 : tr.get (o + 1 + 1) = some (.int .i64 4) := hc 2 _ (by omega) (bkRow_at q n hlt rfl)
  have t3 : tr.get (o + 1 + 1 + 1) = some (.int .i64 (i : Int)) := hc 3 _ (by omega) (bkRow_at q n hlt rfl)
  have hne : ¬ s.nx = mb := by omega
  have hne' : ¬ mb = s.nx := by omega
  have hx2 := fun b => (Ext.refl s.nx s).new (Nat.le_refl _) b
  simp [evOp_call, T.get_set, g3, g12, g13, g14, tupK, newC_is, cellsOf, storeK_g, putB_eq, roT, sets, loadE_eq, getC_eq, getsB_succ, getsB_zero, hlt', hid, hg, t0, t1, t2, t3, hne, hne']
  obtain ⟨r0, hr0⟩ : ∃ r0, H[i]? = some r0 := ⟨_, List.getElem?_eq_getElem (by rw [hs.len]; exact hlt)⟩
  rw [← bkV_cs' q i]
  refine Gd.mono (bread_any _ q v ((hm.ext hes).ext (hx2 _)) (by omega) (4 * (i : Int)) 4 i (by rw [hR]; exact hs.win hlt) (by omega) _) ?_
  rintro ⟨r, s3⟩ ⟨e3, hr⟩
  simp only at hr e3
  rcases hr with ⟨h0, _⟩ | ⟨_, w, num, K, b, hr, hw3, hwf, hrd, hK4⟩
  · rw [hoff] at h0; cases h0
  subst hr
  rw [hs.read hr0] at hrd
  have hl3 : s.nx + 1 ≤ s3.nx := e3.le
  have hl0 := hes.le
  have hwo := hw3.one
  have hx3 := fun b => (Ext.refl s3.nx s3).new (Nat.le_refl _) b
  have hE3 := (hE.ext (hx2 _)).ext e3
  have htake := filt_take hr0
  rcases hrd with ⟨rfl, hsome⟩ | ⟨rfl, hnone, hnum0, hK0⟩
  · subst hsome
    simp [evOp_call, T.get_set, g3, g12, g13, g14, tupK, newC_is, cellsOf, storeK_g, putB_eq, roT, sets, loadE_eq, getC_eq, getsB_succ, getsB_zero, hwo, wd_one]
    refine evOp_build1 (v := .g [wd num, w]) (cs := [wd num, w]) (fun k => el137 k) (fun k => ze126 k) rfl (by decide) (by simp [T.get_set]) (fun k => rfl) rfl ?_
    have hx4 := fun a b => (hx3 a).new (Nat.le_succ _) b
    have hx4' := fun a b => ((hx3 a).mono (Nat.le_refl _)).trans ((Ext.refl (s3.nx + 1) ⟨s3.nx + 1, s3.h.set s3.nx a⟩).new (Nat.le_refl _) b |>.mono (Nat.le_succ _))
    simp [evOp_call, T.get_set, g3, g12, g13, g14, tupK, newC_is, cellsOf, storeK_g, putB_eq, roT, sets, loadE_eq, getC_eq, getsB_succ, getsB_zero, hwo, wd_one, hwi]
    refine Gd_append un137 un137 io126 (n := E.length) (lx := 1) (new := [wd num, w]) (hE3.row.ext (hx4 _ _)) (by show st.nx ≤ s3.nx + 1 + 1; omega) (by decide) (fun s' h => by cases h) (fun k => rfl) (fun k => by simp [getC_eq, getsB_2, T.get_set, sets]) rfl (by omega) ?_
    intro y' s5 hy5 e5 hk5 hor
    simp [evOp_call, T.get_set, g3, g12, g13, g14, tupK, newC_is, cellsOf, storeK_g, putB_eq, roT, sets, loadE_eq, getC_eq, getsB_succ, getsB_zero, hwo, wd_one, hwi]
    have hE4 := fun a b => hE3.ext (hx4 a b)
    have hw4 := fun a b => hw3.ext (hx4 a b)
    have hnx5 : s3.nx + 1 + 1 ≤ s5.nx := e5.le
    have keep : ∀ (w' : V) (K' : List (Int × BitVec 64)), RdRow s3 w' 2 K'.length (iw K') → (∀ k, Nm w' k → ¬ Nm y k) → RdRow s5 w' 2 K'.length (iw K') ∧ ∀ k, Nm w' k → ¬ Nm y' k := fun w' K' hr hn => by
      refine ⟨(hr.ext (hx4 _ _)).other e5.le fun k hk => hk5 k ((hr.ext (hx4 _ _)).nm_lt hk) (fun o ln e => hn k hk (by rw [e]; exact .inl ⟨_, _, _, rfl⟩)), fun k hk hk' => ?_⟩
      rcases hor with rfl | ⟨ln, rfl⟩
      · exact hn k hk hk'
      · have := hr.nm_lt hk
        rcases hk' with ⟨_, _, _, e⟩ | ⟨_, _, _, e⟩
        · injection e with e; have : s3.nx + 1 + 1 = k := e; omega
        · cases e
    refine ⟨⟨i + 1, y', E ++ [(num, w, K)], hlt, by simp [T.get_set], by simp [T.get_set, g12], by simp [T.get_set, g13], by simp [T.get_set], ?_, ⟨by rw [rwE_app, List.length_append]; exact hy5, fun e he => ?_⟩, ?_, by simp; omega, fun h => by simp at h⟩, muAt_lt g14 (by simp [T.get_set]) hlt⟩
    · exact ((((hes.trans ((hx2 _).mono hl0)).trans (e3.mono (by show st.nx ≤ s.nx + 1; omega))).trans ((hx4 _ _).mono (by omega))).trans e5)
    · rcases List.mem_append.1 he with he | he
      · obtain ⟨f1, f2, f3⟩ := hE3.each e he
        obtain ⟨f4, f5⟩ := keep _ _ f1 f3
        exact ⟨f4, f2, f5⟩
      · simp at he
        subst he
        have hyl : ∀ k, Nm y k → k < s.nx := fun k hk => hE.row.rd.nm_lt hk
        obtain ⟨f4, f5⟩ := keep w K hw3 (fun k hk hk' => by have h9 : s.nx + 1 ≤ k := nm_from hwf hk; have := hyl k hk'; omega)
        exact ⟨f4, hwf.mono (by show st.nx ≤ s.nx + 1; omega), f5⟩
    · rw [List.map_append, hmap, htake]; rfl
  · subst hnone
    simp [evOp_call, T.get_set, g3, g12, g13, g14, tupK, newC_is, cellsOf, storeK_g, putB_eq, roT, sets, loadE_eq, getC_eq, getsB_succ, getsB_zero, hwo, wd_one, hwi]
    refine ⟨⟨i + 1, y, E, hlt, by simp [T.get_set, g3], by simp [T.get_set, g12], by simp [T.get_set, g13], by simp [T.get_set], ?_, hE3.ext (hx3 _), ?_, by omega, hy0⟩, muAt_lt g14 (by simp [T.get_set]) hlt⟩
    · exact (((hes.trans ((hx2 _).mono hl0)).trans (e3.mono (by show st.nx ≤ s.nx + 1; omega))).trans ((hx3 _).mono (by omega)))
    · rw [hmap, htake]; simp
end Go.Proofs.Ytdoennkmcloalaa

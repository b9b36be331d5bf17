/-
  Package image: what the bits of an image say; the document's own Open.
-/
import Derived.Test.YtcjddojcfdeflaaImE
import Derived.Test.YtcjddojcfdeflaaHdRS
set_option linter.unusedSimpArgs false
set_option linter.unusedVariables false
namespace Go.Proofs.Ytcjddojcfdeflaa
open Go.RowKit Ev
theorem bit_setOne (K : List (BitVec 64)) (i : Int) (n : Nat) : bit (setOne true K i) n = (bit K n || (decide (i = (n : Int)) && decide (n < K.length * 64))) := by
  unfold setOne
  by_cases h : 0 ≤ i ∧ i < K.length * 64
  · rw [if_pos h]
    obtain ⟨m, rfl⟩ := Int.eq_ofNat_of_zero_le h.1
    have hm : m / 64 < K.length := by omega
    simp only [Int.toNat_natCast, if_true]
    unfold bit
    rw [List.getElem?_set]
    by_cases h1 : m / 64 = n / 64
    · rw [if_pos h1, if_pos hm, h1]
      simp only [Option.getD_some, BitVec.getLsbD_or, BitVec.getLsbD_shiftLeft]
      by_cases h2 : m = n
      · subst h2
        have h3 : m < K.length * 64 := by omega
        have h4 : m % 64 < 64 := by omega
        simp [h3, h4]
      · have h5 : ¬ ((m : Int) = (n : Int)) := by omega
        have h6 : m % 64 ≠ n % 64 := by omega
        rw [decide_eq_false h5]
        by_cases h7 : n % 64 < m % 64
        · simp [h7]
        · have h8 : (1#64).getLsbD (n % 64 - m % 64) = false := by
            obtain ⟨d, hd⟩ : ∃ d, n % 64 - m % 64 = d + 1 := ⟨n % 64 - m % 64 - 1, by omega⟩
            rw [hd]; simp
          simp [h8]
    · rw [if_neg h1]
      have h5 : ¬ ((m : Int) = (n : Int)) := by omega
      rw [decide_eq_false h5]; simp
  · rw [if_neg h]
    by_cases h2 : i = (n : Int)
    · have h3 : ¬ n < K.length * 64 := by omega
      simp [h3]
    · simp [h2]
theorem bit_setB (n : Nat) : ∀ (l : List Int) (K : List (BitVec 64)), bit (setB K true l) n = (bit K n || (l.any fun i => decide (i = (n : Int)) && decide (n < K.length * 64)))
  | [], K => by simp [setB]
  | i :: l, K => by
    show bit (setB (setOne true K i) true l) n = _
    rw [bit_setB n l, bit_setOne, setOne_length, List.any_cons]
    simp [Bool.or_assoc]

set_option maxRecDepth 20000 in
set_option maxHeartbeats 4000000 in
theorem block_any (st : St) (g : Gm) (x : V) (n : Nat) (L : List (BitVec 64)) (hx : RdRow st x 1 (8 * n) (wv L)) (hcap : CapOk x) (a : Nat) (ha : a < n) (hn : n ≤ 100000) (nt : Nat) :
    Gd (callL Try.prog ⟨false, [], 0, nt⟩ 32 [.g [.int .i64 g.b, .int .i64 g.n, .int .i64 g.c, .int .i64 g.k, x], .int .i64 (a : Int)] st) fun r => RdRow r.2 r.1 1 8 (wv ((L.drop (a * 8)).take 8)) ∧ Ext st.nx st r.2 := by
  rw [Gd_callL Try.func32 rfl]
  have hone := hx.one
  have x0 := fun b => (Ext.refl st.nx st).new (Nat.le_refl _) b
  have c1 : ¬ (a : Int) < 0 := by omega
  have q1 : (((8 * n : Nat) : Int)).tdiv 8 = (n : Int) := by rw [Int.tdiv_eq_ediv_of_nonneg (by omega)]; omega
  have q1' : (8 * (n : Int)).tdiv 8 = (n : Int) := by rw [Int.tdiv_eq_ediv_of_nonneg (by omega)]; omega
  have q2 : IntKind.i64.wrap (n : Int) = (n : Int) := wrap_in (by omega) (by omega)
  have w1 : IntKind.i64.wrap ((a : Int) * 8) = ((a * 8 : Nat) : Int) := by rw [show (a : Int) * 8 = ((a * 8 : Nat) : Int) by omega]; exact wrap_in (by omega) (by omega)
  have w2 : IntKind.i64.wrap ((a : Int) + 1) = (a : Int) + 1 := wrap_in (by omega) (by omega)
  have w3 : IntKind.i64.wrap (((a : Int) + 1) * 8) = ((a * 8 + 8 : Nat) : Int) := by rw [show ((a : Int) + 1) * 8 = ((a * 8 + 8 : Nat) : Int) by omega]; exact wrap_in (by omega) (by omega)
  have c2 : ¬ (n : Int) ≤ (a : Int) := by omega
  have c2' : ¬ n ≤ a := by omega
  simp [evOp_call, sets, T.get_set, cellsOf, newC_is, loadE_eq, getC_eq, getsB_succ, getsB_zero, hone, c1, hx.lenS, q1, q1', q2, c2, c2', w1, w2, w3]
  refine Gd_midR (i := .i64) (i2 := .i64) (k := a * 8) (k2 := a * 8 + 8) un28 io39 (hx.ext (x0 _)) hcap (by simp [T.get_set]) (by simp [T.get_set]) (by omega) (by omega) fun v hv => ?_
  simp [evOp_call, T.get_set]
  have h1 := hv _ (hx.ext (x0 (.cs 47 5 (((((T.lf.set 0 (V.int .i64 g.b)).set 1 (V.int .i64 g.n)).set 2 (V.int .i64 g.c)).set 3 (V.int .i64 g.k)).set 4 x))))
  rw [show a * 8 + 8 - a * 8 = 8 by omega] at h1
  exact ⟨h1, x0 _⟩
def bitsF (g : Gm) : Nat := (1 + g.c * g.k).toNat
def bitsW (g : Gm) (L : List (BitVec 64)) (i : Nat) : List (BitVec 64) := (L.drop (bitsF g * 8)).take (8 * i)
theorem bitsW_succ (g : Gm) (L : List (BitVec 64)) (i : Nat) : bitsW g L (i + 1) = bitsW g L i ++ (L.drop ((bitsF g + i) * 8)).take 8 := by
  unfold bitsW
  rw [show 8 * (i + 1) = 8 * i + 8 by omega, List.take_add, List.drop_drop]
  congr 3
  omega
theorem bitsW_length {g : Gm} {L : List (BitVec 64)} {i : Nat} (h : (bitsF g + i) * 8 ≤ L.length) : (bitsW g L i).length = 8 * i := by
  unfold bitsW
  rw [List.length_take, List.length_drop]
  omega
def ibB (st : St) (g : Gm) (x : V) (s : St) : Prop := s.h.get st.nx = some (.cs 47 5 (((((T.lf.set 0 (V.int .i64 g.b)).set 1 (V.int .i64 g.n)).set 2 (V.int .i64 g.c)).set 3 (V.int .i64 g.k)).set 4 x)) ∧ s.h.get (st.nx + 1) = some (.cs 49 1 (sets [V.c (.slice none 0 0)] 0 .lf)) ∧ Ext st.nx st s ∧ st.nx + 1 < s.nx
theorem ibB.grow {st s s' : St} {g : Gm} {x : V} (h : ibB st g x s) (k : Ext (st.nx + 2) s s') : ibB st g x s' := by
  obtain ⟨h1, h2, h3, h4⟩ := h
  have := k.le
  exact ⟨(k.keep _ (by omega)).trans h1, (k.keep _ (by omega)).trans h2, h3.trans ⟨k.le, k.wf, fun n hn => k.keep n (by omega)⟩, by omega⟩
def ibI (st : St) (g : Gm) (x : V) (L : List (BitVec 64)) (e : Env) (s : St) : Prop := ∃ (i : Nat) (y : V), i ≤ (bN g).toNat ∧ e.get 1 = some (.p st.nx 0) ∧ e.get 2 = some (.p (st.nx + 1) 0) ∧ e.get 3 = some y ∧ e.get 4 = some (.int .i64 (1 + g.c * g.k)) ∧ e.get 13 = some (.int .i64 (bN g)) ∧ e.get 14 = some (.int .i64 (i : Int)) ∧ ibB st g x s ∧ OwnRow (st.nx + 2) s y 1 (8 * i) (wv (bitsW g L i))
set_option maxRecDepth 20000 in
set_option maxHeartbeats 4000000 in
theorem ibits_any (st : St) (g : Gm) (hg : isGood g) (x : V) (L : List (BitVec 64)) (hx : RdRow st x 1 (8 * g.b.toNat) (wv L)) (hcap : CapOk x) (nt : Nat) :
    Gd (callL Try.prog ⟨false, [], 0, nt⟩ 14 [.g [.int .i64 g.b, .int .i64 g.n, .int .i64 g.c, .int .i64 g.k, x]] st) fun r => ∃ m, r.1 = .g [.sg m 0 (8 * (bN g).toNat) 1] ∧ RdRow r.2 (.sg m 0 (8 * (bN g).toNat) 1) 1 (8 * (bN g).toNat) (wv (bitsW g L (bN g).toNat)) ∧ st.nx < m ∧ Ext st.nx st r.2 := by
  rw [Gd_callL Try.func14 rfl]
  have hone := hx.one
  have hck := ck_le hg.1
  obtain ⟨⟨hb1, hb2, hn1', hn2', hc1, hc2, hk1, hk2⟩, hdN1⟩ := id hg
  have hbn : 1 ≤ bN g ∧ bN g ≤ 2 := by unfold bN; omega
  have hnF : nF g = 1 + g.c * g.k + bN g := rfl
  have hdF : dF g = nF g + g.n + g.n := rfl
  have hdN : dN g = g.b - 1 - dF g := rfl
  have hF : ((bitsF g : Nat) : Int) = 1 + g.c * g.k := by unfold bitsF; omega
  have hLl : L.length = 8 * g.b.toNat := by simpa using hx.1
  have gVg : V.g [V.int .i64 g.b, V.int .i64 g.n, V.int .i64 g.c, V.int .i64 g.k] = gV g := rfl
  simp [evOp_call, sets, T.get_set, cellsOf, newC_is, loadE_eq, getC_eq, getsB_succ, getsB_zero, hone]
  rw [gVg]
  have x0 : Ext st.nx st ⟨st.nx + 1 + 1, (st.h.set st.nx (.cs 47 5 (((((T.lf.set 0 (V.int .i64 g.b)).set 1 (V.int .i64 g.n)).set 2 (V.int .i64 g.c)).set 3 (V.int .i64 g.k)).set 4 x))).set (st.nx + 1) (.cs 49 1 (sets [V.c (.slice none 0 0)] 0 .lf))⟩ := ((Ext.refl st.nx st).new (Nat.le_refl _) _).new (Nat.le_succ _) _
  refine Gd.mono (gbits_any _ [] (fun _ _ => rfl) 0 (Nat.zero_le _) g _) ?_
  rintro ⟨r, s1⟩ ⟨hr, x1⟩
  simp only at hr x1
  unfold at2 at hr
  rw [if_pos hg] at hr
  subst hr
  have l1 : st.nx + 1 + 1 ≤ s1.nx := x1.le
  have hB : ibB st g x s1 := ⟨(x1.keep st.nx (by show st.nx < st.nx + 1 + 1; omega)).trans ((T.get_set_ne _ _ (show st.nx + 1 ≠ st.nx by omega)).trans (T.get_set_same _ _ _)), (x1.keep (st.nx + 1) (Nat.lt_succ_self _)).trans (T.get_set_same _ _ _), x0.trans (x1.mono (by show st.nx ≤ st.nx + 1 + 1; omega)), by omega⟩
  simp [evOp_call, T.get_set]
  refine Gd_loop (ibI st g x L) (fun e _ => muAt 14 (bN g).toNat e) ?_ ?_
  · exact ⟨0, .c (.slice none 0 0), Nat.zero_le _, by simp [T.get_set], by simp [T.get_set], by simp [T.get_set], by simp [T.get_set], by simp [T.get_set], by simp [T.get_set], hB, OwnRow.nil _ _ _⟩
  clear hB x1 l1
  rintro e s ⟨i, y, hi, g1, g2, g3, g4, g13, g14, hB, hrow⟩
  obtain ⟨k0, k1, x3, l3⟩ := id hB
  by_cases hlt : (i : Int) < bN g
  case neg =>
    obtain rfl : i = (bN g).toNat := by omega
    have hgb : (((bN g).toNat : Nat) : Int) = bN g := by omega
    have hlt2 : ¬ bN g < bN g := by omega
    obtain ⟨my, rfl, hmy, hmy2⟩ : ∃ m, y = .sg m 0 (8 * (bN g).toNat) 1 ∧ st.nx + 2 ≤ m ∧ m < s.nx := by
      rcases hrow.2 with ⟨_, e⟩ | ⟨m, ty, t, e, e2, e3, _⟩
      · omega
      · exact ⟨m, e, e2, e3⟩
    simp [evOp_call, T.get_set, g1, g2, g3, g13, g14, hgb, hlt2]
    simp [evOp_call, sets, T.get_set, g2, storeK_g, putB_eq, roT, k1, cellsOf, loadE_eq, getC_eq, getsB_succ, getsB_zero]
    exact ⟨hrow.rd.setOther (k := st.nx + 1) (fun o l z e => by injection e with e; omega) (fun o l q e => by cases e) _, by omega, x3.set (m := st.nx + 1) (Nat.le_succ _) (by omega) _⟩
  have hwi := wrap_nat (n := i) (by omega)
  have hwa : IntKind.i64.wrap (1 + g.c * g.k + (i : Int)) = ((bitsF g + i : Nat) : Int) := by rw [← hF]; exact wrap_in (by omega) (by omega)
  have hxs := hx.ext x3
  simp [evOp_call, T.get_set, g1, g2, g3, g4, g13, g14, hlt, loadE_eq, getC_eq, getsB_succ, getsB_zero, k0, hwa]
  refine Gd.mono (block_any s g x g.b.toNat L (by have := hx.ext x3; exact this) hcap (bitsF g + i) (by omega) (by omega) _) ?_
  rintro ⟨z, s2⟩ ⟨hz, x4⟩
  simp only at hz x4
  have hrow2 := hrow.ext x4
  have ln2 := x4.le
  simp [evOp_call, T.get_set]
  refine Gd_append un28 un28 io39 (lx := 8) (new := wv ((L.drop ((bitsF g + i) * 8)).take 8)) hrow2 (by omega) (by decide) hz.notS (fun k => hz.len k) (fun k => hz.firsts k) hz.1 (by omega) ?_
  intro w' s8 ho x9 _ _
  simp [evOp_call, T.get_set, g14, hwi]
  refine ⟨⟨i + 1, w', by omega, by simp [T.get_set, g1], by simp [T.get_set, g2], by simp [T.get_set], by simp [T.get_set, g4], by simp [T.get_set, g13], by simp [T.get_set], hB.grow ((x4.mono (by omega)).trans x9), ?_⟩, muAt_lt g14 (by simp [T.get_set]) (by omega)⟩
  rw [bitsW_succ, wv_app, show 8 * (i + 1) = 8 * i + 8 by omega]
  exact ho
theorem bit_tak {g : Gm} {a : Nat} (ha : a < g.b.toNat) : bit (takW g) a = isOut g a := by
  unfold takW
  rw [bit_setB]
  have h0 : bit (List.replicate ((g.b.toNat + 63) / 64) 0#64) a = false := by
    unfold bit
    rw [List.getElem?_replicate]
    split <;> simp
  rw [h0, Bool.false_or]
  cases ho : isOut g a with
  | true =>
    rw [List.any_eq_true]
    refine ⟨(a : Int), ?_, ?_⟩
    · unfold outs
      exact List.mem_map.2 ⟨a, List.mem_filter.2 ⟨List.mem_range.2 ha, ho⟩, rfl⟩
    · rw [List.length_replicate]
      have : a < (g.b.toNat + 63) / 64 * 64 := by omega
      simp [this]
  | false =>
    rw [List.any_eq_false]
    intro i hi h
    unfold outs at hi
    obtain ⟨j, hj, rfl⟩ := List.mem_map.1 hi
    have hj2 := (List.mem_filter.1 hj).2
    simp only [Bool.and_eq_true, decide_eq_true_eq] at h
    have : j = a := by omega
    rw [this, ho] at hj2
    cases hj2
theorem bits_at {g : Gm} (hg : isGood g) {a : Nat} (ha : a < g.b.toNat) : ∃ w, (bitsW g (imgW g) (bN g).toNat)[a / 64]? = some w ∧ w.getLsbD (a % 64) = isOut g a := by
  have h := imgOk hg
  have htl := takW_length g
  have hb2 : g.b ≤ 512 * bN g := by unfold bN; omega
  obtain ⟨b1, b2⟩ := h.b
  have hj : a / 64 < (takW g).length := by omega
  refine ⟨(takW g)[a / 64]?.getD 0#64, ?_, bit_tak ha⟩
  unfold bitsW
  rw [List.getElem?_take, if_pos (by omega), List.getElem?_drop]
  unfold imgW bitsF
  rw [putL_get h.h5, if_pos ⟨by omega, by omega⟩, show (1 + g.c * g.k).toNat * 8 + a / 64 - (1 + g.c * g.k).toNat * 8 = a / 64 by omega, List.getElem?_eq_getElem hj]
  rfl
end Go.Proofs.Ytcjddojcfdeflaa

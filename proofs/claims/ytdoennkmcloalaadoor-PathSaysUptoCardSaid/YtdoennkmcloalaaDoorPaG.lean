/-
  Contracts: path.Last; two rows of texts alike; rows of texts that came in.
-/
import Derived.Test.YtdoennkmcloalaaDoorPaF
set_option linter.unusedSimpArgs false
namespace Go.Proofs.YtdoennkmcloalaaDoor
open Go.RowKit Ev
@[simp] theorem evOp_slice3 {P : Program} {F : CallF} {c : Cx} {e : Env} {st : St} (d : Option Nat) (ty : TypeId) (p : String) (af : Array Edge) (g : Option (Nat × Bool)) (t : TypeId) (x mx : Operand) (lo hi : Option Operand) : evOp P F c e st ⟨d, .slice t x lo hi (some mx), ty, p, af, g⟩ = opd e x fun v => slice3E P e t v lo hi mx fun a => some (a, st) := rfl
theorem slice3_sg {P : Program} {e : Env} {t el : TypeId} (hu : P.underlying t = some (.slice el)) (hi : infoOk P el 1 = true) {x y : Operand} {k : Nat} {i j : IntKind} (hv : opv e x = some (.int i (k : Int))) (hw : opv e y = some (.int j (k : Int))) (m n : Nat) (hk : k ≤ n) (kk : V → Res) :
    slice3E P e t (.sg m 0 n 1) none (some x) y kk = kk (.sl m 0 k k) := by
  unfold slice3E
  rw [hu]
  simp only [infoOk_sz hi]
  rw [bnd_at hw, bnd_at hv]
  have h2 : ∀ f : Nat → Res, bnd e 0 none f = f 0 := fun f => rfl
  rw [h2]
  have b1 : Nat.ble 0 k = true := by rw [Nat.ble_eq]; omega
  have b2 : Nat.ble k k = true := by rw [Nat.ble_eq]; exact Nat.le_refl _
  have b3 : Nat.ble k n = true := by rw [Nat.ble_eq]; exact hk
  have b4 : Nat.beq 1 1 = true := rfl
  simp only [b1, b2, b3, b4, fn_eq]
  cases Nat.beq k 0 <;> simp
def suf (s : Tx) : Prop := 2 ≤ s.length ∧ s.drop (s.length - 2) = [47, 46]
instance (s : Tx) : Decidable (suf s) := by unfold suf; infer_instance
theorem suffix_any (c : Cx) (st : St) (s : Tx) (hl : s.length ≤ 1000000) : Gd (callL Tryd.prog c 22 [.s s, .s [47, 46]] st) fun r => r = (.bool (decide (suf s)), st) := by
  rw [Gd_callL Tryd.func22 rfl]
  simp [evOp_call, sets, T.get_set]
  rw [Gd_callL Tryd.func29 rfl]
  by_cases h : 2 ≤ s.length
  · have h' : (2 : Int) ≤ (s.length : Int) := by omega
    obtain ⟨k, hk⟩ : ∃ k, k = s.length - 2 := ⟨_, rfl⟩
    have w1 : IntKind.i64.wrap ((s.length : Int) - 2) = (k : Int) := by rw [show (s.length : Int) - 2 = (k : Int) by omega]; exact wrap_in (by omega) (by omega)
    have hd : decide (suf s) = decide (s.drop k = [47, 46]) := by unfold suf; simp [h, hk]
    rw [hd]
    simp [evOp_call, sets, T.get_set, len_str un9, h, h', w1]
    refine Gd_strLo (k := k) (i := .i64) un9 (by simp [T.get_set, w1]) (by omega) ?_
    simp [evOp_call, sets, T.get_set]
  · have h' : ¬ (2 : Int) ≤ (s.length : Int) := by omega
    have hd : decide (suf s) = false := by unfold suf; simp [h]
    rw [hd]
    simp [evOp_call, sets, T.get_set, len_str un9, h, h']
def lastBad (s : Tx) : Prop := parS s = [] ∨ (parS s).getLast? = some [46, 46] ∨ s = [46] ∨ suf s
instance (s : Tx) : Decidable (lastBad s) := by unfold lastBad; infer_instance
def lastE (s : Tx) : Int := if errS s ≠ 0 then errS s else if lastBad s then 1 else 0
def lastD (s : Tx) : List Tx := if lastE s = 0 then (parS s).dropLast else []
def lastN (s : Tx) : Tx := if lastE s = 0 then (parS s).getLast?.getD [] else []
set_option maxRecDepth 20000 in
set_option maxHeartbeats 4000000 in
theorem last_any (st : St) (s : Tx) (hs : okS s) (nt : Nat) :
    Gd (callL Tryd.prog ⟨false, [], 0, nt⟩ 10 [.s s] st) fun r => ∃ x, r.1 = .t [x, .s (lastN s), .int .i64 (lastE s)] ∧ RdRow r.2 x 1 (lastD s).length (sv (lastD s)) ∧ RowFrom st.nx x ∧ CapOk x ∧ Ext st.nx st r.2 := by
  rw [Gd_callL Tryd.func10 rfl]
  have hnil : ∀ s2 : St, RdRow s2 (.c (.slice none 0 0)) 1 0 (sv []) ∧ RowFrom st.nx (.c (.slice none 0 0)) ∧ CapOk (.c (.slice none 0 0)) := fun s2 => ⟨⟨rfl, .inl ⟨.inl rfl, rfl⟩⟩, ⟨(fun _ _ _ _ e => nomatch e), (fun _ _ _ _ e => nomatch e)⟩, (fun _ _ _ _ e => nomatch e)⟩
  simp [evOp_call, sets, T.get_set]
  refine Gd.mono (psplit_any st s hs _) ?_
  rintro ⟨r, s1⟩ ⟨y, hr, hy, x1⟩
  simp only at hr hy x1
  subst hr
  by_cases he : errS s = 0
  case neg =>
    have e1 : lastE s = errS s := by unfold lastE; rw [if_pos he]
    have e2 : lastD s = [] := by unfold lastD; rw [if_neg (by rw [e1]; exact he)]
    have e3 : lastN s = [] := by unfold lastN; rw [if_neg (by rw [e1]; exact he)]
    simp [evOp_call, sets, T.get_set, tupK, he]
    obtain ⟨h1, h2, h3⟩ := hnil s1
    exact ⟨_, ⟨rfl, e3, e1.symm⟩, by rw [e2]; exact h1, h2, h3, x1⟩
  have hp : pErr s = parS s := by unfold pErr; rw [if_pos he]
  rw [hp] at hy
  have hyr := hy.rd
  have hpl := par_len s
  have hsl := (errS_zero he).2.1
  have bad : lastBad s → lastE s = 1 ∧ lastD s = [] ∧ lastN s = [] := fun h => by
    have e1 : lastE s = 1 := by unfold lastE; rw [if_neg (by simpa using he), if_pos h]
    exact ⟨e1, by unfold lastD; rw [e1]; rfl, by unfold lastN; rw [e1]; rfl⟩
  by_cases h0 : parS s = []
  · obtain ⟨e1, e2, e3⟩ := bad (.inl h0)
    have w1 : IntKind.i64.wrap (-1) = -1 := rfl
    rw [h0] at hyr
    simp [evOp_call, sets, T.get_set, tupK, he, hyr.lenS, w1]
    obtain ⟨h1, h2, h3⟩ := hnil s1
    exact ⟨_, ⟨rfl, e3, e1.symm⟩, by rw [e2]; exact h1, h2, h3, x1⟩
  · have hlp := List.length_pos_iff.2 h0
    obtain ⟨k, hk⟩ : ∃ k, k + 1 = (parS s).length := ⟨_, Nat.sub_add_cancel hlp⟩
    have w1 : IntKind.i64.wrap (((parS s).length : Int) - 1) = (k : Int) := by rw [show ((parS s).length : Int) - 1 = (k : Int) by omega]; exact wrap_in (by omega) (by omega)
    have hk0 : ¬ (k : Int) < 0 := by omega
    obtain ⟨p, hp⟩ : ∃ p, (parS s)[k]? = some p := ⟨_, List.getElem?_eq_getElem (by omega)⟩
    have hgl : (parS s).getLast? = some p := by rw [List.getLast?_eq_getElem?, show (parS s).length - 1 = k by omega]; exact hp
    rcases hy.2 with ⟨_, hn⟩ | ⟨m, ty, tr, rfl, hm1, hm2, hm3, hm4, hm5⟩
    · omega
    have hkl : k < (parS s).length := by omega
    have t0 : tr.get k = some (.s p) := hm5 k _ (sv_get hp)
    by_cases h1 : p = [46, 46]
    · obtain ⟨e1, e2, e3⟩ := bad (.inr (.inl (by rw [hgl, h1])))
      simp [evOp_call, sets, T.get_set, tupK, he, hyr.lenS, w1, hk0, hkl, loadE_eq, getC_eq, hm3, t0, h1]
      obtain ⟨h1, h2, h3⟩ := hnil s1
      exact ⟨_, ⟨rfl, e3, e1.symm⟩, by rw [e2]; exact h1, h2, h3, x1⟩
    · by_cases h2 : s = [46]
      · exact absurd (by rw [h2]; decide) h0
      · simp [evOp_call, sets, T.get_set, tupK, he, hyr.lenS, w1, hk0, hkl, loadE_eq, getC_eq, hm3, t0, h1, h2]
        refine Gd.mono (suffix_any _ s1 s (by omega)) ?_
        rintro _ rfl
        by_cases h3 : suf s
        · obtain ⟨e1, e2, e3⟩ := bad (.inr (.inr (.inr h3)))
          simp [evOp_call, sets, T.get_set, h3]
          obtain ⟨h1, h2, h3⟩ := hnil s1
          exact ⟨_, ⟨rfl, e3, e1.symm⟩, by rw [e2]; exact h1, h2, h3, x1⟩
        · have hnb : ¬ lastBad s := by
            rintro (h | h | h | h)
            · exact h0 h
            · rw [hgl] at h; injection h with h; exact h1 h
            · exact h2 h
            · exact h3 h
          have e1 : lastE s = 0 := by unfold lastE; rw [if_neg (by simpa using he), if_neg hnb]
          have e2 : lastD s = (parS s).dropLast := by unfold lastD; rw [if_pos e1]
          have e3 : lastN s = p := by unfold lastN; rw [if_pos e1, hgl]; rfl
          simp [evOp_call, sets, T.get_set, h3]
          refine ⟨by kernel_rfl, ?_⟩
          rw [slice3_sg un23 io9 (k := k) (i := .i64) (j := .i64) (by simp [T.get_set, w1]) (by simp [T.get_set, w1]) m _ (by omega)]
          simp [evOp_call, sets, T.get_set, w1, hkl, loadE_eq, getC_eq, hm3, t0]
          have hlen : (parS s).dropLast.length = k := by rw [List.length_dropLast]; omega
          have hF : RowFrom st.nx (.sl m 0 k k) := ⟨fun _ _ _ _ e => (by cases e), fun _ _ _ _ e => (by injection e with e; omega)⟩
          have hC : CapOk (.sl m 0 k k) := fun _ _ _ _ e => (by injection e with _ _ e3 e4; omega)
          refine ⟨.sl m 0 k k, ?_, ?_, hF, hC, x1⟩
          · exact ⟨rfl, e3.symm, e1.symm⟩
          rw [e2, hlen]
          refine ⟨by simp [hlen], .inr (.inl ⟨m, 0, k, ty, _, tr, rfl, hm2, hm3, by omega, fun j v hj => ?_⟩)⟩
          obtain ⟨q, hq, rfl⟩ := sv_of hj
          rw [List.getElem?_dropLast] at hq
          split at hq
          · rw [Nat.zero_add]; exact hm5 j _ (sv_get hq)
          · cases hq
/-- two rows alike? -/
def txI (st : St) (x y : V) (L K : List Tx) (e : Env) (s : St) : Prop := ∃ i : Nat, i ≤ L.length ∧ e.get 0 = some x ∧ e.get 1 = some y ∧ e.get 5 = some (.int .i64 (i : Int)) ∧ L.take i = K.take i ∧ s = st
theorem take_succ_eq {L K : List Tx} {i : Nat} {p q : Tx} (h : L.take i = K.take i) (hp : L[i]? = some p) (hq : K[i]? = some q) (e : p = q) : L.take (i + 1) = K.take (i + 1) := by
  rw [List.take_add_one, List.take_add_one, hp, hq, h, e]
set_option maxRecDepth 20000 in
set_option maxHeartbeats 2000000 in
theorem texts_any (st : St) (x y : V) (L K : List Tx) (hx : RdRow st x 1 L.length (sv L)) (hy : RdRow st y 1 K.length (sv K)) (hL : L.length ≤ 1000000) (nt : Nat) :
    Gd (callL Tryd.prog ⟨false, [], 0, nt⟩ 11 [x, y] st) fun r => r = (.bool (decide (L = K)), st) := by
  rw [Gd_callL Tryd.func11 rfl]
  by_cases hn : (L.length : Int) = (K.length : Int)
  · have hn' : L.length = K.length := by omega
    simp [evOp_call, sets, T.get_set, hx.lenS, hy.lenS, hn']
    refine Gd_loop (txI st x y L K) (fun en _ => muAt 5 L.length en) ?_ ?_
    · exact ⟨0, Nat.zero_le _, by simp [T.get_set], by simp [T.get_set], by simp [T.get_set], rfl, rfl⟩
    · rintro en sx ⟨i, hi, g0, g1, g5, ht, rfl⟩
      by_cases hlt : i < L.length
      · have hlt' : (i : Int) < (L.length : Int) := by omega
        have w1 : IntKind.i64.wrap ((i : Int) + 1) = ((i + 1 : Nat) : Int) := by rw [show ((i : Int) + 1) = ((i + 1 : Nat) : Int) by omega]; exact wrap_in (by omega) (by omega)
        obtain ⟨p, hp⟩ : ∃ p, L[i]? = some p := ⟨_, List.getElem?_eq_getElem hlt⟩
        obtain ⟨q, hq⟩ : ∃ q, K[i]? = some q := ⟨_, List.getElem?_eq_getElem (by omega)⟩
        obtain ⟨m, o, ty, sz, tr, hid, hm, hg, ho, hc⟩ := hx.idx (st := sx) un23 io9 hlt
        obtain ⟨m2, o2, ty2, sz2, tr2, hid2, hm2, hg2, ho2, hc2⟩ := hy.idx (st := sx) un23 io9 (i := i) (by omega)
        have t0 : tr.get o = some (.s p) := hc 0 _ (by omega) (by simpa using sv_get hp)
        have t2 : tr2.get o2 = some (.s q) := hc2 0 _ (by omega) (by simpa using sv_get hq)
        simp [evOp_call, T.get_set, g0, g1, g5, hx.lenS, hlt']
        refine ⟨by kernel_rfl, ?_⟩
        by_cases hpq : p = q
        · simp [evOp_call, T.get_set, g0, g1, g5, hid, hid2, loadE_eq, getC_eq, hg, hg2, t0, t2, hpq, w1]
          exact ⟨⟨i + 1, hlt, by simp [T.get_set, g0], by simp [T.get_set, g1], by simp [T.get_set], take_succ_eq ht hp hq hpq, rfl⟩, muAt_lt g5 (by simp [T.get_set]) hlt⟩
        · have hne : ¬ L = K := fun e => by rw [e, hq] at hp; injection hp with hp; exact hpq hp.symm
          simp [evOp_call, T.get_set, g0, g1, g5, hid, hid2, loadE_eq, getC_eq, hg, hg2, t0, t2, hpq, hne]
      · obtain rfl : i = L.length := by omega
        rw [List.take_length, hn', List.take_length] at ht
        simp [evOp_call, T.get_set, g0, g1, g5, hx.lenS, ht]
  · have hne : ¬ L = K := fun e => hn (by rw [e])
    have hn' : ¬ L.length = K.length := by omega
    simp [evOp_call, sets, T.get_set, hx.lenS, hy.lenS, hn, hn', hne]
/-- texts that came in -/
theorem rows_in {st : St} {x : Nat → V} {L : List Tx} (h : (rowC sC).at' st x L) : RdRow st (x 0) 1 L.length (sv L) ∧ (∀ p ∈ L, okS p) ∧ CapOk (x 0) := by
  obtain ⟨h1, h2, h3, xs, h4, h5⟩ := h
  have e : (List.range (L.length * 1)).map xs = sv L := by
    apply List.ext_getElem?
    intro j
    rw [List.getElem?_map]
    rcases Nat.lt_or_ge j L.length with hj | hj
    · have hp : L[j]? = some L[j] := List.getElem?_eq_getElem hj
      rw [List.getElem?_range (by omega), sv_get hp]
      have := (h5 j _ hp).1
      simp only [Option.map_some]
      congr 1
      simpa [show sC.z = 1 from rfl] using this
    · rw [List.getElem?_eq_none (by simp; omega), List.getElem?_eq_none (by simp; omega)]
      rfl
  rw [show sC.z = 1 from rfl, e] at h4
  refine ⟨h4, fun p hp => ?_, h2⟩
  obtain ⟨j, hj, rfl⟩ := List.getElem_of_mem hp
  exact (h5 j _ (List.getElem?_eq_getElem hj)).2.1
theorem fits_txs : Fits Tryd.prog (rowC sC) 23 := fits_row Tryd.underlying23 (by kernel_rfl) (by decide) (fits_s Tryd.underlying9)
end Go.Proofs.YtdoennkmcloalaaDoor

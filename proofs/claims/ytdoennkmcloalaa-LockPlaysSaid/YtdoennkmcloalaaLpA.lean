/-
  Package lock: a table of which anybody may hold anything; refuses.
-/
import Derived.Test.YtdoennkmcloalaaLkE
import Derived.Test.YtdoennkmcloalaaBsrI
set_option linter.unusedSimpArgs false
set_option linter.unusedVariables false
namespace Go.Proofs.Ytdoennkmcloalaa
open Go.RowKit Ev
theorem mfirst {k : Int} : ∀ {A : List (Int × V × Nat)}, (∃ e ∈ A, e.1 = k) → ∃ j v c, A[j]? = some (k, v, c) ∧ ∀ e ∈ A.take j, e.1 ≠ k
  | [], h => by obtain ⟨e, h, _⟩ := h; cases h
  | x :: A, h => by
    by_cases hx : x.1 = k
    · exact ⟨0, x.2.1, x.2.2, by simp [← hx], fun e h => by cases h⟩
    · obtain ⟨e, he, hk⟩ := h
      rcases List.mem_cons.1 he with rfl | he
      · exact absurd hk hx
      · obtain ⟨j, v, c, h1, h2⟩ := mfirst ⟨e, he, hk⟩
        refine ⟨j + 1, v, c, by simpa using h1, fun e he => ?_⟩
        rw [List.take_succ_cons] at he
        rcases List.mem_cons.1 he with rfl | he
        · exact hx
        · exact h2 e he
def iv1 (L : List Int) : List V := L.map fun v => .int .i64 v
/-- a row of wants, in a block that is no key's -/
def WRow (s : St) (q pb : Nat) (KB : Nat → Prop) (x : V) (K : List Wn) : Prop := ∃ m ty sz t, x = .sg m 0 K.length 2 ∧ m < s.nx ∧ ¬ KB m ∧ (m ≠ q ∧ m ≠ pb) ∧ s.h.get m = some (.cs ty sz t) ∧ K.length * 2 ≤ sz ∧ ∀ j v, (cellsK K)[j]? = some v → t.get j = some v
/-- who holds a key, in a block of its own -/
def KRow (s : St) (KB : Nat → Prop) (x : V) (m : Nat) (h : List Int × Bool) : Prop := ∃ ty sz t, x = .g [.sg m 0 h.1.length 1, .bool h.2] ∧ m < s.nx ∧ KB m ∧ s.h.get m = some (.cs ty sz t) ∧ ty ≠ roT ∧ h.1.length * 1 ≤ sz ∧ ∀ j v, (iv1 h.1)[j]? = some v → t.get j = some v
structure LkMaps (s : St) (q pb : Nat) (KB : Nat → Prop) (hv : Int → List Wn) (ky : Int → List Int × Bool) (A B : List (Int × V × Nat)) : Prop where
  aOk : ∀ e ∈ A, hv e.1 ≠ [] ∧ WRow s q pb KB e.2.1 (hv e.1)
  aAll : ∀ w, hv w ≠ [] → ∃ e ∈ A, e.1 = w
  aOne : (A.map (·.1)).Nodup
  bOk : ∀ e ∈ B, (ky e.1).1 ≠ [] ∧ ∃ m, KRow s KB e.2.1 m (ky e.1)
  bAll : ∀ k, (ky k).1 ≠ [] → ∃ e ∈ B, e.1 = k
  bOne : (B.map (·.1)).Nodup
  bApart : ∀ e ∈ B, ∀ e' ∈ B, ∀ m l r l' r', e.2.1 = .g [.sg m 0 l 1, r] → e'.2.1 = .g [.sg m 0 l' 1, r'] → e.1 = e'.1
  qNo : ¬ KB q
  kbLt : ∀ n, KB n → n < s.nx
  ris : ∀ k, RisI (ky k).1
  big : (∀ w, (hv w).length ≤ 1000) ∧ ∀ k, (ky k).1.length ≤ 1000
def LkAt (s : St) (q a b pb : Nat) (KB : Nat → Prop) (hv : Int → List Wn) (ky : Int → List Int × Bool) : Prop := ∃ A B ca cb, TabAt s q a b A B ca cb ∧ LkMaps s q pb KB hv ky A B
theorem WRow.keep {s s' : St} {q pb : Nat} {KB : Nat → Prop} {x : V} {K : List Wn} (h : WRow s q pb KB x K) (hn : s.nx ≤ s'.nx) (k : ∀ m ty sz t, m < s.nx → ¬ KB m → m ≠ q ∧ m ≠ pb → s.h.get m = some (.cs ty sz t) → s'.h.get m = some (.cs ty sz t)) : WRow s' q pb KB x K := by
  obtain ⟨m, ty, sz, t, h1, h2, h3, h4, h5, h6⟩ := h
  exact ⟨m, ty, sz, t, h1, by omega, h3, h4, k _ _ _ _ h2 h3 h4 h5, h6⟩
theorem KRow.keep {s s' : St} {KB : Nat → Prop} {x : V} {m : Nat} {h : List Int × Bool} (hk : KRow s KB x m h) (hn : s.nx ≤ s'.nx) (k : ∀ ty sz t, m < s.nx → KB m → s.h.get m = some (.cs ty sz t) → s'.h.get m = some (.cs ty sz t)) : KRow s' KB x m h := by
  obtain ⟨ty, sz, t, h1, h2, h3, h4, h5⟩ := hk
  exact ⟨ty, sz, t, h1, by omega, h3, k _ _ _ h2 h3 h4, h5⟩
theorem LkMaps.keep {s s' : St} {q pb : Nat} {KB : Nat → Prop} {hv : Int → List Wn} {ky : Int → List Int × Bool} {A B : List (Int × V × Nat)} (h : LkMaps s q pb KB hv ky A B) (hn : s.nx ≤ s'.nx) (k : ∀ m ty sz t, m < s.nx → m ≠ q → s.h.get m = some (.cs ty sz t) → s'.h.get m = some (.cs ty sz t)) : LkMaps s' q pb KB hv ky A B where
  aOk e he := ⟨(h.aOk e he).1, (h.aOk e he).2.keep hn fun m ty sz t h1 _ h3 h4 => k m ty sz t h1 h3.1 h4⟩
  aAll := h.aAll
  aOne := h.aOne
  bOk e he := by
    obtain ⟨h1, m, h2⟩ := h.bOk e he
    exact ⟨h1, m, h2.keep hn fun ty sz t h3 h4 h5 => k m ty sz t h3 (fun e => h.qNo (e ▸ h4)) h5⟩
  bAll := h.bAll
  bOne := h.bOne
  bApart := h.bApart
  qNo := h.qNo
  kbLt n hk := Nat.lt_of_lt_of_le (h.kbLt n hk) hn
  ris := h.ris
  big := h.big
theorem LkAt.ext {s s' : St} {q a b pb : Nat} {KB : Nat → Prop} {hv : Int → List Wn} {ky : Int → List Int × Bool} (h : LkAt s q a b pb KB hv ky) (k : Ext s.nx s s') : LkAt s' q a b pb KB hv ky := by
  obtain ⟨A, B, ca, cb, h1, h2⟩ := h
  exact ⟨A, B, ca, cb, h1.ext k, h2.keep k.le fun m ty sz t hm _ hg => (k.keep m hm).trans hg⟩
/-- the block that is set apart changes -/
theorem LkMaps.keep4 {s s' : St} {q pb : Nat} {KB : Nat → Prop} {hv : Int → List Wn} {ky : Int → List Int × Bool} {A B : List (Int × V × Nat)} (h : LkMaps s q pb KB hv ky A B) (hp : ¬ KB pb) (hn : s.nx ≤ s'.nx) (k : ∀ m ty sz t, m < s.nx → m ≠ pb → s.h.get m = some (.cs ty sz t) → s'.h.get m = some (.cs ty sz t)) : LkMaps s' q pb KB hv ky A B where
  aOk e he := ⟨(h.aOk e he).1, (h.aOk e he).2.keep hn fun m ty sz t h1 _ h3 h4 => k m ty sz t h1 h3.2 h4⟩
  aAll := h.aAll
  aOne := h.aOne
  bOk e he := by
    obtain ⟨h1, m, h2⟩ := h.bOk e he
    exact ⟨h1, m, h2.keep hn fun ty sz t h3 h4 h5 => k m ty sz t h3 (fun e => hp (e ▸ h4)) h5⟩
  bAll := h.bAll
  bOne := h.bOne
  bApart := h.bApart
  qNo := h.qNo
  kbLt n hk := Nat.lt_of_lt_of_le (h.kbLt n hk) hn
  ris := h.ris
  big := h.big
theorem LkAt.put4 {s : St} {q a b pb ty sz : Nat} {t : T V} {KB : Nat → Prop} {hv : Int → List Wn} {ky : Int → List Int × Bool} (h : LkAt s q a b pb KB hv ky) (hp : ¬ KB pb) (hq : pb ≠ q) (hg : s.h.get pb = some (.cs ty sz t)) (w : B) : LkAt ⟨s.nx, s.h.set pb w⟩ q a b pb KB hv ky := by
  obtain ⟨A, B, ca, cb, ⟨h1, h2, h3, h4, h5, h6, ⟨t', h7, h8⟩, h9, h10⟩, hM⟩ := h
  have na : pb ≠ a := fun e => by rw [e, h9] at hg; cases hg
  have nb : pb ≠ b := fun e => by rw [e, h10] at hg; cases hg
  exact ⟨A, B, ca, cb, ⟨h1, h2, h3, h4, h5, h6, ⟨t', (T.get_set_ne _ _ hq).trans h7, h8⟩, (T.get_set_ne _ _ na).trans h9, (T.get_set_ne _ _ nb).trans h10⟩, hM.keep4 hp (Nat.le_refl _) fun m ty sz t _ hne hg => (T.get_set_ne _ _ (fun e => hne e.symm)).trans hg⟩
theorem WRow.rd {s : St} {q pb : Nat} {KB : Nat → Prop} {x : V} {K : List Wn} (h : WRow s q pb KB x K) : RdRow s x 2 K.length (cellsK K) := by
  obtain ⟨m, ty, sz, t, rfl, h2, h3, h4, h5, h6, h7⟩ := h
  exact ⟨cellsK_length K, .inr (.inr ⟨m, 0, ty, sz, t, rfl, h2, h5, by omega, fun j v hj => by rw [Nat.zero_add]; exact h7 j v hj⟩)⟩
/-- a want that may not be had -/
def Busy (ky : Int → List Int × Bool) (w : Wn) : Prop := (ky w.1).1 ≠ [] ∧ ((ky w.1).2 = true ∨ w.2 = true)
def RefC (hv : Int → List Wn) (ky : Int → List Int × Bool) (who : Int) (K : List Wn) (c : Int) : Prop :=
  (c = 1 ∧ (K = [] ∨ hv who ≠ [] ∨ ¬ UpK K)) ∨ (c = 15 ∧ K ≠ [] ∧ hv who = [] ∧ UpK K ∧ ∃ w ∈ K, Busy ky w) ∨ (c = 0 ∧ K ≠ [] ∧ hv who = [] ∧ UpK K ∧ ∀ w ∈ K, ¬ Busy ky w)
def rfG (st : St) (hv : Int → List Wn) (ky : Int → List Int × Bool) (who : Int) (K : List Wn) (r : V × St) : Prop := ∃ c : Int, r.1 = .int .i64 c ∧ RefC hv ky who K c ∧ Ext st.nx st r.2
def rg1I (st : St) (q : Nat) (who : Int) (x : V) (K : List Wn) (e : Env) (s : St) : Prop := ∃ i : Nat, 1 ≤ i ∧ i ≤ K.length ∧ (∀ j x y, j + 1 < i → K[j]? = some x → K[j + 1]? = some y → x.1 < y.1) ∧ e.get 0 = some (.p q 0) ∧ e.get 1 = some (.int .i64 who) ∧ e.get 2 = some x ∧ e.get 7 = some (.int .i64 (i : Int)) ∧ s = st
def rg2I (st : St) (q : Nat) (who : Int) (x : V) (ky : Int → List Int × Bool) (K : List Wn) (e : Env) (s : St) : Prop := ∃ i : Nat, i ≤ K.length ∧ (∀ w ∈ K.take i, ¬ Busy ky w) ∧ e.get 0 = some (.p q 0) ∧ e.get 43 = some x ∧ e.get 44 = some (.int .i64 (K.length : Int)) ∧ e.get 45 = some (.int .i64 (i : Int)) ∧ Ext st.nx st s
set_option maxRecDepth 20000 in
set_option maxHeartbeats 8000000 in
theorem ref_G (st : St) (q a b pb : Nat) (KB : Nat → Prop) (hv : Int → List Wn) (ky : Int → List Int × Bool) (T : LkAt st q a b pb KB hv ky) (who : Int) (x : V) (K : List Wn) (hx : RdRow st x 2 K.length (cellsK K)) (h2 : K.length ≤ 1000) (nt : Nat) :
    Gd (callL Try.prog ⟨false, [], 0, nt⟩ 175 [.p q 0, .int .i64 who, x] st) (rfG st hv ky who K) := by
  rw [Gd_callL Try.func175 rfl]
  obtain ⟨A, B, ca, cb, T0, TM⟩ := T
  have T := T0
  obtain ⟨hq, ha, hb, hab, haq, hbq, ⟨t, ht, t0, t1⟩, gA, gB⟩ := T
  have hwu : wantK true (some V.u) = false := rfl
  have hwf : wantK false (some V.u) = false := rfl
  by_cases hK : K = []
  · subst hK
    simp [evOp_call, sets, T.get_set, hx.lenS, hwu]
    exact ⟨1, rfl, .inl ⟨rfl, .inl rfl⟩, Ext.refl _ _⟩
  have hK1 : 1 ≤ K.length := List.length_pos_iff.2 hK
  have hK0 : ¬ (K.length : Int) = 0 := by omega
  have hK0' : ¬ K.length = 0 := by omega
  by_cases hw : hv who = []
  rotate_left
  · obtain ⟨j, v, cj, hj, hjn⟩ := mfirst (TM.aAll who hw)
    obtain ⟨_, hr⟩ := TM.aOk _ (List.mem_of_getElem? hj)
    have hln := hr.rd.lenS
    have hlk : ∀ nt ok, lookE Try.prog ⟨false, [], 0, nt⟩ st 237 (.m a) (.int .i64 who) ok = lookV ok st v true := fun nt ok => look_yes map_w rfl gA hj hjn
    have hp : 0 < (hv who).length := List.length_pos_iff.2 hw
    simp only at hln
    simp [evOp_call, sets, T.get_set, hx.lenS, hK0, hK0', hK, loadE_eq, getC_eq, ht, t0, hlk, hln, hp]
    exact ⟨1, rfl, .inl ⟨rfl, .inr (.inl hw)⟩, Ext.refl _ _⟩
  have hln : ∀ s : St, lenS s (V.c (.slice none 0 0)) = some (.int .i64 0, s) := fun s => (OwnRow.nil 0 s 2).rd.lenS s
  have hA : ∀ e ∈ A, e.1 ≠ who := fun e he h => (TM.aOk e he).1 (h ▸ hw)
  have hlk : ∀ nt ok, lookE Try.prog ⟨false, [], 0, nt⟩ st 237 (.m a) (.int .i64 who) ok = lookV ok st (.c (.slice none 0 0)) false := fun nt ok => look_no map_w rfl gA hA zv_w
  simp [evOp_call, sets, T.get_set, hx.lenS, hK0, hK0', hK, loadE_eq, getC_eq, ht, t0, hlk, hln]
  refine Gd_loop (rg1I st q who x K) (fun e _ => muAt 7 K.length e) ?_ ?_
  · exact ⟨1, Nat.le_refl _, hK1, fun j x y hj => by omega, by simp [T.get_set], by simp [T.get_set], by simp [T.get_set], by simp [T.get_set], rfl⟩
  rintro e s ⟨i, hi1, hi, hup, g0, g1, g2, g7, rfl⟩
  by_cases hlt : i < K.length
  · obtain ⟨k, rfl⟩ : ∃ k, i = k + 1 := ⟨i - 1, by omega⟩
    have hlt' : (k : Int) + 1 < K.length := by omega
    have wk3 : IntKind.i64.wrap ((k : Int) + 1 - 1) = (k : Int) := by rw [show (k : Int) + 1 - 1 = (k : Int) by omega]; exact wrap_in (by omega) (by omega)
    have wk2 : IntKind.i64.wrap (k : Int) = (k : Int) := wrap_in (by omega) (by omega)
    have wk4 : IntKind.i64.wrap ((k : Int) + 1 + 1) = (k : Int) + 1 + 1 := by rw [show (k : Int) + 1 + 1 = ((k + 2 : Nat) : Int) by omega]; exact wrap_in (by omega) (by omega)
    have hask : ∀ f : Nat → Res, asNat (.int .i64 ((k : Int) + 1)) f = f (k + 1) := fun f => by
      rw [show (k : Int) + 1 = ((k + 1 : Nat) : Int) by omega]; exact asNat_cast ..
    obtain ⟨y, hy⟩ : ∃ y, K[k + 1]? = some y := ⟨_, List.getElem?_eq_getElem (by omega)⟩
    obtain ⟨z, hz⟩ : ∃ z, K[k]? = some z := ⟨_, List.getElem?_eq_getElem (by omega)⟩
    obtain ⟨m1, o1, ty1, sz1, tr1, i1, b1, k1, l1, c1⟩ := hx.idx (st := s) un164 io170 (i := k + 1) (by omega)
    obtain ⟨m2, o2, ty2, sz2, tr2, i2, b2, k2, l2, c2⟩ := hx.idx (st := s) un164 io170 (i := k) (by omega)
    have d1 : tr1.get o1 = some (.int .i64 y.1) := by simpa using c1 0 _ (by omega) (cellsK_get K (k + 1) _ hy).1
    have d2 : tr2.get o2 = some (.int .i64 z.1) := by simpa using c2 0 _ (by omega) (cellsK_get K k _ hz).1
    by_cases hyz : z.1 < y.1
    · have hnl : ¬ y.1 ≤ z.1 := by omega
      simp [evOp_call, T.get_set, g0, g1, g2, g7, hx.lenS, hlt', hask, i1, i2, wk2, wk3, loadE_eq, getC_eq, k1, k2, d1, d2, hnl]
      refine ⟨by kernel_rfl, ?_⟩
      simp [evOp_call, T.get_set, g0, g1, g2, g7, hx.lenS, hlt', hask, i1, i2, wk2, wk3, wk4, loadE_eq, getC_eq, k1, k2, d1, d2, hnl]
      refine ⟨⟨k + 1 + 1, by omega, by omega, fun j p r hj hp hr => ?_, by simp [T.get_set, g0], by simp [T.get_set, g1], by simp [T.get_set, g2], by simp [T.get_set], rfl⟩, muAt_lt g7 (by simp [T.get_set]) hlt⟩
      by_cases hjk : j = k
      · subst hjk; rw [hz] at hp; rw [hy] at hr; injection hp with hp; injection hr with hr; subst hp hr; exact hyz
      · exact hup j p r (by omega) hp hr
    · have hnl : y.1 ≤ z.1 := by omega
      simp [evOp_call, T.get_set, g0, g1, g2, g7, hx.lenS, hlt', hask, i1, i2, wk2, wk3, loadE_eq, getC_eq, k1, k2, d1, d2, hnl]
      refine ⟨by kernel_rfl, ?_⟩
      exact ⟨1, rfl, .inl ⟨rfl, .inr (.inr fun h => hyz (h k z y hz hy))⟩, Ext.refl _ _⟩
  · obtain rfl : i = K.length := by omega
    have hUp : UpK K := fun j p r hp hr => hup j p r (List.getElem?_eq_some_iff.1 hr).1 hp hr
    simp [evOp_call, T.get_set, g0, g1, g2, g7, hx.lenS]
    refine Gd_loop (rg2I s q who x ky K) (fun e _ => muAt 45 K.length e) ?_ ?_
    · exact ⟨0, Nat.zero_le _, fun w h => by simp at h, by simp [T.get_set, g0], by simp [T.get_set], by simp [T.get_set], by simp [T.get_set], Ext.refl _ _⟩
    rintro e2 s2 ⟨i, hi, hnb, f0, f43, f44, f45, hs⟩
    by_cases hlt : i < K.length
    · have hlt' : (i : Int) < K.length := by omega
      have hwi := wrap_nat (n := i) (by omega)
      have T2 := T0.ext hs
      obtain ⟨hq2, ha2, hb2, _, _, _, ⟨t', ht', t0', t1'⟩, gA2, gB2⟩ := T2
      have hxs := hx.ext hs
      obtain ⟨y, hy⟩ : ∃ y, K[i]? = some y := ⟨_, List.getElem?_eq_getElem hlt⟩
      have hym : y ∈ K := List.mem_of_getElem? hy
      obtain ⟨m1, o1, ty1, sz1, tr1, i1, b1, k1, l1, c1⟩ := hxs.idx (st := s2) un164 io170 hlt
      have d1 : tr1.get o1 = some (.int .i64 y.1) := by simpa using c1 0 _ (by omega) (cellsK_get K i _ hy).1
      have d2 : tr1.get (o1 + 1) = some (.bool y.2) := by simpa using c1 1 _ (by omega) (cellsK_get K i _ hy).2
      have nq : ¬ s2.nx = q := by omega
      have nb : ¬ s2.nx = b := by omega
      have hnext : ¬ Busy ky y → ∀ w ∈ K.take (i + 1), ¬ Busy ky w := fun hn w hw => by
        rw [List.take_add_one, hy] at hw
        rcases List.mem_append.1 hw with h | h
        · exact hnb w h
        · simp at h; subst h; exact hn
      simp [evOp_call, T.get_set, f0, f43, f44, f45, hlt', i1, loadE_eq, getC_eq, getsB_succ, getsB_zero, k1, d1, d2, newC_is, storeK_g, putB_eq, roT, sets]
      refine ⟨by kernel_rfl, ?_⟩
      simp [evOp_call, T.get_set, f0, f43, f44, f45, loadE_eq, getC_eq, getsB_succ, getsB_zero, ht', t1', nq]
      by_cases hky : (ky y.1).1 = []
      · have hB : ∀ e ∈ B, e.1 ≠ y.1 := fun e he h => (TM.bOk e he).1 (h ▸ hky)
        rw [cxOf_may rfl rfl (by kernel_rfl), forb_nil, look_no map_h rfl ((T.get_set_ne _ _ nb).trans gB2) hB zv_h]
        simp [evOp_call, T.get_set, f0, f43, f44, f45, tupK, newC_is]
        rw [cxOf_store]
        rotate_left
        · kernel_rfl
        rw [forb_cons (by kernel_rfl) rfl]
        simp [evOp_call, T.get_set, f0, f43, f44, f45, storeK_g, putB_eq, roT, sets, loadE_eq, getC_eq, hwu, hwf, hwi]
        exact ⟨⟨i + 1, hlt, hnext (fun h => h.1 hky), by simp [T.get_set, f0], by simp [T.get_set, f43], by simp [T.get_set, f44], by simp [T.get_set], (hs.new hs.le _).new (by show s.nx ≤ s2.nx + 1; have := hs.le; omega) _⟩, muAt_lt f45 (by simp [T.get_set]) hlt⟩
      · obtain ⟨j, v, cj, hj, hjn⟩ := mfirst (TM.bAll _ hky)
        obtain ⟨_, m, ty, sz, tm, hv1, _⟩ := TM.bOk _ (List.mem_of_getElem? hj)
        simp only at hv1
        subst hv1
        rw [cxOf_may rfl rfl (by kernel_rfl), forb_nil, look_yes map_h rfl ((T.get_set_ne _ _ nb).trans gB2) hj hjn]
        simp [evOp_call, T.get_set, f0, f43, f44, f45, tupK, newC_is]
        rw [cxOf_store]
        rotate_left
        · kernel_rfl
        rw [forb_cons (by kernel_rfl) rfl]
        have x3 := (hs.new hs.le (.cs 170 2 ((((T.lf.set 0 (V.int .i64 0)).set 1 (V.bool false)).set 0 (V.int .i64 y.1)).set 1 (V.bool y.2))))
        by_cases ha1 : (ky y.1).2 = true
        · simp [evOp_call, T.get_set, f0, f43, f44, f45, storeK_g, putB_eq, roT, sets, loadE_eq, getC_eq, hwu, hwf, hwi, ha1]
          exact ⟨15, rfl, .inr (.inl ⟨rfl, hK, hw, hUp, y, hym, hky, .inl ha1⟩), (hs.new hs.le _).new (by show s.nx ≤ s2.nx + 1; have := hs.le; omega) _⟩
        · have ha2 : (ky y.1).2 = false := by simpa using ha1
          by_cases hy2 : y.2 = true
          · simp [evOp_call, T.get_set, f0, f43, f44, f45, storeK_g, putB_eq, roT, sets, loadE_eq, getC_eq, hwu, hwf, hwi, ha2, hy2]
            exact ⟨15, rfl, .inr (.inl ⟨rfl, hK, hw, hUp, y, hym, hky, .inr hy2⟩), (hs.new hs.le _).new (by show s.nx ≤ s2.nx + 1; have := hs.le; omega) _⟩
          · have hy3 : y.2 = false := by simpa using hy2
            simp [evOp_call, T.get_set, f0, f43, f44, f45, storeK_g, putB_eq, roT, sets, loadE_eq, getC_eq, hwu, hwf, hwi, ha2, hy3]
            exact ⟨⟨i + 1, hlt, hnext (fun h => by rcases h.2 with h | h <;> simp [ha2, hy3] at h), by simp [T.get_set, f0], by simp [T.get_set, f43], by simp [T.get_set, f44], by simp [T.get_set], (hs.new hs.le _).new (by show s.nx ≤ s2.nx + 1; have := hs.le; omega) _⟩, muAt_lt f45 (by simp [T.get_set]) hlt⟩
    · obtain rfl : i = K.length := by omega
      simp [evOp_call, T.get_set, f0, f43, f44, f45, sets]
      exact ⟨0, rfl, .inr (.inr ⟨rfl, hK, hw, hUp, fun w h => hnb w (by rw [List.take_length]; exact h)⟩), hs⟩
end Go.Proofs.Ytdoennkmcloalaa

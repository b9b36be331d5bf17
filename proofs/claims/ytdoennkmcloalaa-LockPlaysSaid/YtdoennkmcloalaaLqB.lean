/-
  The law LockPlays, walked.
-/
import Derived.Test.YtdoennkmcloalaaLqA
set_option linter.unusedSimpArgs false
set_option linter.unusedVariables false
namespace Go.Proofs.Ytdoennkmcloalaa
open Go.RowKit Ev
def lwE (y0 : V) (q p4 i : Nat) (e : Env) : Prop := e.get 0 = some y0 ∧ e.get 3 = some (.p q 0) ∧ e.get 4 = some (.p p4 0) ∧ e.get 5 = some (.int .i64 (i : Int))
theorem lwE.of {y0 : V} {q p4 i : Nat} {e e' : Env} (h : lwE y0 q p4 i e) (h0 : e'.get 0 = e.get 0) (h3 : e'.get 3 = e.get 3) (h4 : e'.get 4 = e.get 4) (h5 : e'.get 5 = e.get 5) : lwE y0 q p4 i e' := ⟨h0.trans h.1, h3.trans h.2.1, h4.trans h.2.2.1, h5.trans h.2.2.2⟩
def lwI (st : St) (y0 : V) (q a b p4 N : Nat) (e : Env) (s : St) : Prop := ∃ i, i ≤ N ∧ lwE y0 q p4 i e ∧ ∃ KB hv ky, LwH st s q a b p4 KB hv ky
/-- the act's own variable -/
def ActL (s : St) (pa : Nat) (op who : Int) (xl : V) : Prop := ∃ t, s.h.get pa = some (.cs 167 3 t) ∧ t.get 0 = some (.int .i64 op) ∧ t.get 1 = some (.int .i64 who) ∧ t.get 2 = some xl
def lwJ (st : St) (y0 : V) (q a b p4 i : Nat) (e : Env) (s : St) : Prop := lwE y0 q p4 i e ∧ ∃ KB hv ky, LwH st s q a b p4 KB hv ky
def lhI (st : St) (y0 : V) (q a b p4 i : Nat) (KB : Nat → Prop) (hv : Int → List Wn) (ky : Int → List Int × Bool) (e : Env) (s : St) : Prop := ∃ p : Nat, p ≤ 6 ∧ lwE y0 q p4 i e ∧ e.get 13 = some (.int .i64 (p : Int)) ∧ LwH st s q a b p4 KB hv ky
def lh2 (y0 : V) (q p4 i p n : Nat) (h : V) (s5 : St) (e : Env) (s : St) : Prop := ∃ k : Nat, k ≤ n ∧ lwE y0 q p4 i e ∧ e.get 13 = some (.int .i64 (p : Int)) ∧ e.get 14 = some h ∧ e.get 15 = some (.int .i64 (k : Int)) ∧ s = s5
def lgI (st : St) (y0 : V) (q a b p4 i : Nat) (KB : Nat → Prop) (hv : Int → List Wn) (ky : Int → List Int × Bool) (e : Env) (s : St) : Prop := ∃ key : Nat, key ≤ 6 ∧ lwE y0 q p4 i e ∧ e.get 16 = some (.int .i64 (key : Int)) ∧ LwH st s q a b p4 KB hv ky
def lg2 (st : St) (y0 : V) (q a b p4 i key : Nat) (KB : Nat → Prop) (hv : Int → List Wn) (ky : Int → List Int × Bool) (s5 : St) (e : Env) (s : St) : Prop := ∃ (p : Nat) (w : V), p ≤ 6 ∧ lwE y0 q p4 i e ∧ e.get 16 = some (.int .i64 (key : Int)) ∧ e.get 17 = some w ∧ e.get 18 = some (.int .i64 (p : Int)) ∧ Ext s5.nx s5 s ∧ OwnRow s5.nx s w 1 (colP ky key p).length (iv1 (colP ky key p))
noncomputable def colK (hv : Int → List Wn) (ky : Int → List Int × Bool) (key : Int) (p k : Nat) : List Int := colP ky key p ++ open Classical in if ∃ w ∈ (hv p).take k, w.1 = key then [(p : Int)] else []
def lg3 (st : St) (y0 : V) (q a b p4 i key p : Nat) (KB : Nat → Prop) (hv : Int → List Wn) (ky : Int → List Int × Bool) (s5 : St) (e : Env) (s : St) : Prop := ∃ (k : Nat) (w : V), k ≤ (hv p).length ∧ lwE y0 q p4 i e ∧ e.get 16 = some (.int .i64 (key : Int)) ∧ e.get 17 = some w ∧ e.get 18 = some (.int .i64 (p : Int)) ∧ e.get 19 = some (.int .i64 (k : Int)) ∧ Ext s5.nx s5 s ∧ OwnRow s5.nx s w 1 (colK hv ky key p k).length (iv1 (colK hv ky key p k))
def lg4 (y0 : V) (q p4 i key n : Nat) (w g : V) (s5 : St) (e : Env) (s : St) : Prop := ∃ k : Nat, k ≤ n ∧ lwE y0 q p4 i e ∧ e.get 16 = some (.int .i64 (key : Int)) ∧ e.get 17 = some w ∧ e.get 20 = some g ∧ e.get 21 = some (.int .i64 (k : Int)) ∧ s = s5
/-- rising, as far as looked -/
def UpT (K : List Wn) (k : Nat) : Prop := ∀ (i : Nat) (x y : Wn), i + 1 < k → K[i]? = some x → K[i + 1]? = some y → x.1 < y.1
theorem UpT.iff (K : List Wn) : UpT K K.length ↔ UpK K := ⟨fun h i x y hx hy => h i x y (lt_of_get hy) hx hy, fun h i x y _ hx hy => h i x y hx hy⟩
theorem UpT.succ {K : List Wn} {k : Nat} {x y : Wn} (hx : K[k]? = some x) (hy : K[k + 1]? = some y) : UpT K (k + 1 + 1) ↔ UpT K (k + 1) ∧ x.1 < y.1 := by
  constructor
  · exact fun h => ⟨fun i a b hi => h i a b (by omega), h k x y (by omega) hx hy⟩
  · rintro ⟨h1, h2⟩ i a b hi ha hb
    by_cases e : i = k
    · subst e
      rw [hx] at ha; rw [hy] at hb; cases ha; cases hb; exact h2
    · exact h1 i a b (by omega) ha hb
/-- what is told where this much is bad -/
def One1 (B : Prop) (c : Int) : Prop := (c = 1 ∧ B) ∨ (c = 0 ∧ ¬ B)
theorem One1.iff {B B' : Prop} (h : B ↔ B') {c : Int} (k : One1 B c) : One1 B' c := by
  rcases k with ⟨h1, h2⟩ | ⟨h1, h2⟩
  · exact .inl ⟨h1, h.1 h2⟩
  · exact .inr ⟨h1, fun e => h2 (h.2 e)⟩
def V15 (B : Prop) (c : Int) : Prop := (c = 15 ∧ B) ∨ (c = 0 ∧ ¬ B)
theorem V15.iff {B B' : Prop} (h : B ↔ B') {c : Int} (k : V15 B c) : V15 B' c := by
  rcases k with ⟨h1, h2⟩ | ⟨h1, h2⟩
  · exact .inl ⟨h1, h.1 h2⟩
  · exact .inr ⟨h1, fun e => h2 (h.2 e)⟩
def Bad (hv : Int → List Wn) (who : Int) (K : List Wn) (k : Nat) : Prop := K = [] ∨ hv who ≠ [] ∨ ¬ UpT K k
def confW (u w : Wn) : Prop := u.1 = w.1 ∧ (u.2 = true ∨ w.2 = true)
def CfP (hv : Int → List Wn) (who : Int) (K : List Wn) (p : Nat) : Prop := ∃ (p' : Nat) (u w : Wn), p' < p ∧ (p' : Int) ≠ who ∧ u ∈ hv p' ∧ w ∈ K ∧ confW u w
def CfQ (hv : Int → List Wn) (who : Int) (K : List Wn) (p k : Nat) : Prop := CfP hv who K p ∨ ((p : Int) ≠ who ∧ ∃ u ∈ (hv p).take k, ∃ w ∈ K, confW u w)
def CfR (hv : Int → List Wn) (who : Int) (K : List Wn) (p k : Nat) (u : Wn) (j : Nat) : Prop := CfQ hv who K p k ∨ ((p : Int) ≠ who ∧ ∃ w ∈ K.take j, confW u w)
theorem CfP.zero (hv : Int → List Wn) (who : Int) (K : List Wn) : ¬ CfP hv who K 0 := fun ⟨_, _, _, h, _⟩ => by omega
theorem CfP.six (hv : Int → List Wn) (who : Int) (K : List Wn) : CfP hv who K 6 ↔ Cf hv who K := Iff.rfl
theorem CfP.mono {hv : Int → List Wn} {who : Int} {K : List Wn} {p p2 : Nat} (h : CfP hv who K p) (hp : p ≤ p2) : CfP hv who K p2 := by
  obtain ⟨p', u, w, h1, h2⟩ := h
  exact ⟨p', u, w, by omega, h2⟩
theorem CfQ.zero (hv : Int → List Wn) (who : Int) (K : List Wn) (p : Nat) : CfQ hv who K p 0 ↔ CfP hv who K p := ⟨fun h => h.elim id fun ⟨_, u, hu, _⟩ => (by cases hu), .inl⟩
theorem CfQ.all (hv : Int → List Wn) (who : Int) (K : List Wn) (p : Nat) : CfQ hv who K p (hv p).length ↔ CfP hv who K (p + 1) := by
  unfold CfQ
  rw [List.take_length]
  constructor
  · rintro (h | ⟨h1, u, hu, w, hw, h2⟩)
    · exact h.mono (Nat.le_succ p)
    · exact ⟨p, u, w, Nat.lt_succ_self p, h1, hu, hw, h2⟩
  · rintro ⟨p', u, w, h1, h2, h3, h4, h5⟩
    by_cases e : p' = p
    · subst e; exact .inr ⟨h2, u, h3, w, h4, h5⟩
    · exact .inl ⟨p', u, w, by omega, h2, h3, h4, h5⟩
theorem CfR.zero (hv : Int → List Wn) (who : Int) (K : List Wn) (p k : Nat) (u : Wn) : CfR hv who K p k u 0 ↔ CfQ hv who K p k := ⟨fun h => h.elim id fun ⟨_, w, hw, _⟩ => (by cases hw), .inl⟩
theorem CfR.succ {hv : Int → List Wn} {who : Int} {K : List Wn} {p k j : Nat} {u w : Wn} (hw : K[j]? = some w) (hp : (p : Int) ≠ who) : CfR hv who K p k u (j + 1) ↔ CfR hv who K p k u j ∨ confW u w := by
  unfold CfR
  rw [List.take_add_one, hw]
  simp only [Option.toList_some, List.mem_append, List.mem_singleton]
  constructor
  · rintro (h | ⟨h1, v, hv | rfl, h2⟩)
    · exact .inl (.inl h)
    · exact .inl (.inr ⟨h1, v, hv, h2⟩)
    · exact .inr h2
  · rintro ((h | ⟨h1, v, hv, h2⟩) | h)
    · exact .inl h
    · exact .inr ⟨h1, v, .inl hv, h2⟩
    · exact .inr ⟨hp, w, .inr rfl, h⟩
theorem CfR.all {hv : Int → List Wn} {who : Int} {K : List Wn} {p k : Nat} {u : Wn} (hu : (hv p)[k]? = some u) : CfR hv who K p k u K.length ↔ CfQ hv who K p (k + 1) := by
  unfold CfR CfQ
  rw [List.take_length, List.take_add_one, hu]
  simp only [Option.toList_some, List.mem_append, List.mem_singleton]
  constructor
  · rintro ((h | ⟨h1, v, hv, h2⟩) | ⟨h1, w, hw, h2⟩)
    · exact .inl h
    · exact .inr ⟨h1, v, .inl hv, h2⟩
    · exact .inr ⟨h1, u, .inr rfl, w, hw, h2⟩
  · rintro (h | ⟨h1, v, hv | rfl, w, hw, h2⟩)
    · exact .inl (.inl h)
    · exact .inl (.inr ⟨h1, v, hv, w, hw, h2⟩)
    · exact .inr ⟨h1, w, hw, h2⟩
theorem CfR.own {hv : Int → List Wn} {who : Int} {K : List Wn} {p k : Nat} {u : Wn} (hp : (p : Int) = who) : CfR hv who K p k u 0 ↔ CfQ hv who K p (k + 1) := by
  rw [CfR.zero]
  unfold CfQ
  exact ⟨fun h => h.elim .inl fun ⟨e, _⟩ => absurd hp e, fun h => h.elim .inl fun ⟨e, _⟩ => absurd hp e⟩
/-- what stands while it is reckoned -/
def lkT (y0 : V) (q p4 i pa : Nat) (c : Int) (e : Env) : Prop := lwE y0 q p4 i e ∧ e.get 6 = some (.p pa 0) ∧ e.get 7 = some (.int .i64 c)
def lu1 (y0 : V) (q p4 i pa : Nat) (hv : Int → List Wn) (who : Int) (K : List Wn) (s2 : St) (e : Env) (s : St) : Prop := ∃ (k : Nat) (c : Int), k + 1 ≤ max 1 K.length ∧ One1 (Bad hv who K (k + 1)) c ∧ lkT y0 q p4 i pa c e ∧ e.get 8 = some (.int .i64 ((k + 1 : Nat) : Int)) ∧ s = s2
def lu2 (y0 : V) (q p4 i pa : Nat) (hv : Int → List Wn) (who : Int) (K : List Wn) (s2 : St) (e : Env) (s : St) : Prop := ∃ (p : Nat) (c : Int), p ≤ 6 ∧ ((c = 1 ∧ Bad hv who K K.length) ∨ ¬ Bad hv who K K.length ∧ V15 (CfP hv who K p) c) ∧ lkT y0 q p4 i pa c e ∧ e.get 9 = some (.int .i64 (p : Int)) ∧ s = s2
def lu3 (y0 : V) (q p4 i pa : Nat) (hv : Int → List Wn) (who : Int) (K : List Wn) (p : Nat) (s2 : St) (e : Env) (s : St) : Prop := ∃ (k : Nat) (c : Int), k ≤ (hv p).length ∧ V15 (CfQ hv who K p k) c ∧ lkT y0 q p4 i pa c e ∧ e.get 9 = some (.int .i64 (p : Int)) ∧ e.get 10 = some (.int .i64 (k : Int)) ∧ s = s2
def lu4 (y0 : V) (q p4 i pa : Nat) (hv : Int → List Wn) (who : Int) (K : List Wn) (p k : Nat) (u : Wn) (s2 : St) (e : Env) (s : St) : Prop := ∃ (j : Nat) (c : Int), j ≤ K.length ∧ V15 (CfR hv who K p k u j) c ∧ lkT y0 q p4 i pa c e ∧ e.get 9 = some (.int .i64 (p : Int)) ∧ e.get 10 = some (.int .i64 (k : Int)) ∧ e.get 11 = some (.int .i64 (j : Int)) ∧ s = s2
theorem lkT.of {y0 : V} {q p4 i pa : Nat} {c c' : Int} {e e' : Env} (h : lkT y0 q p4 i pa c e) (h0 : e'.get 0 = e.get 0) (h3 : e'.get 3 = e.get 3) (h4 : e'.get 4 = e.get 4) (h5 : e'.get 5 = e.get 5) (h6 : e'.get 6 = e.get 6) (h7 : e'.get 7 = some (.int .i64 c')) : lkT y0 q p4 i pa c' e' := ⟨h.1.of h0 h3 h4 h5, h6.trans h.2.1, h7⟩
theorem neqBool (st : St) (x y : Operand) (a b : Bool) : binE Try.prog st .neq 4 x y (.bool a) (.bool b) = some (.bool (a != b), st) := by cases a <;> cases b <;> kernel_rfl
theorem Gd_append0L {P : Program} {st : St} {fl : List (Nat × Nat)} {t t' el el' z m lx nt : Nat} {x : V} {new : List V} {Q : V × St → Prop} (hu : P.underlying t = some (.slice el)) (hk : P.underlying t' = some (.slice el')) (hi : infoOk P el z = true) (hel : el ≠ roT)
    (hfm : inF fl m = false) (hm : st.h.get m = some (.cs el 0 .lf)) (hx : ∀ s', x ≠ .s s') (hl : ∀ k : Nat → Res, lenA x k = k lx) (hf : ∀ k : List V → Res, firsts ⟨false, fl, 0, nt⟩ st z lx x k = k new) (hn : new.length = lx * z) (hmax : lx ≤ 1073741824)
    (h0 : lx = 0 → Q (.sl m 0 0 0, ⟨st.nx, st.h.set m (.cs el 0 .lf)⟩)) (h1 : 0 < lx → Q (.sg st.nx 0 lx z, ⟨st.nx + 1, st.h.set st.nx (.cs el new.length (sets new 0 .lf))⟩)) : Gd (builtinE P ⟨false, fl, 0, nt⟩ .append [t, t'] [.sl m 0 0 0, x] st) Q := by
  have e1 : builtinE P ⟨false, fl, 0, nt⟩ .append [t, t'] [.sl m 0 0 0, x] st = appE ⟨false, fl, 0, nt⟩ st el z 0 lx (.sl m 0 0 0) new := by
    have hsm : small P el (0 + lx) = true := infoOk_small hi (by omega)
    unfold builtinE
    simp only [elemOf_ok hu hi, hk, lenA_sl]
    cases x with
    | s s' => exact absurd rfl (hx s')
    | _ => simp only [hl, hf, hsm]
  rw [e1]
  unfold appE
  simp only [fn_eq, Nat.zero_add]
  by_cases hz : lx = 0
  · subst hz
    have hnew : new = [] := List.length_eq_zero_iff.1 (by omega)
    subst hnew
    simp [putB_eq, hm, hel, sets, hfm]
    exact h0 rfl
  · have hb : Nat.ble lx 0 = false := by
      cases h : Nat.ble lx 0 with
      | false => rfl
      | true => rw [Nat.ble_eq] at h; omega
    simp only [hb]
    unfold growE
    simp [getC_eq, hm, getsB_zero, newC_is, hfm]
    exact h1 (by omega)
theorem firstsL {β : Type} {st : St} {fl : List (Nat × Nat)} {wb nt z n : Nat} {x : V} {l : List V} (h : RdRow st x z n l) (hfx : ∀ m, (∃ o k r, x = .sl m o k r) ∨ (∃ o k r, x = .sg m o k r) → inF fl m = false) (k : List V → Option β) : firsts ⟨false, fl, wb, nt⟩ st z n x k = k l := by
  obtain ⟨h1, h2⟩ := h
  rcases h2 with ⟨hx, rfl⟩ | ⟨m, o, q, ty, sz, t, rfl, _, h4, _, h6⟩ | ⟨m, o, ty, sz, t, rfl, _, h4, _, h6⟩
  · have hl : l = [] := List.eq_nil_of_length_eq_zero (by rw [h1]; simp)
    subst hl
    rcases hx with rfl | rfl <;> rfl
  · rw [firsts_sl, if_pos (Nat.le_refl _), getC_eq, h4]
    simp only [ok_top, hfx m (.inl ⟨_, _, _, rfl⟩), Bool.not_false, cond_true, Option.bind_some, csK_cs]
    rw [← h1]
    exact getsB_list h6 k
  · have e1 : Ev.firsts ⟨false, fl, wb, nt⟩ st z n (.sg m o n z) k = (match Nat.ble n n with | true => getC ⟨false, fl, wb, nt⟩ st m fun t => getsB t (n * z) o k | false => none) := rfl
    have e2 : Nat.ble n n = true := by rw [Nat.ble_eq]; exact Nat.le_refl _
    rw [e1, e2]
    simp only
    rw [getC_eq, h4]
    simp only [ok_top, hfx m (.inr ⟨_, _, _, rfl⟩), Bool.not_false, cond_true, Option.bind_some, csK_cs]
    rw [← h1]
    exact getsB_list h6 k
theorem colK_zero (hv : Int → List Wn) (ky : Int → List Int × Bool) (key : Int) (p : Nat) : colK hv ky key p 0 = colP ky key p := by
  unfold colK
  rw [if_neg (fun ⟨w, h, _⟩ => by cases h), List.append_nil]
theorem colK_no {hv : Int → List Wn} {ky : Int → List Int × Bool} {key : Int} {p k : Nat} {u : Wn} (hu : (hv p)[k]? = some u) (he : u.1 ≠ key) : colK hv ky key p (k + 1) = colK hv ky key p k := by
  unfold colK
  congr 1
  have : (∃ w ∈ (hv p).take (k + 1), w.1 = key) ↔ ∃ w ∈ (hv p).take k, w.1 = key := by
    rw [List.take_add_one, hu]
    simp only [Option.toList_some, List.mem_append, List.mem_singleton]
    exact ⟨fun ⟨w, h, e⟩ => h.elim (fun h => ⟨w, h, e⟩) fun h => absurd (h ▸ e) he, fun ⟨w, h, e⟩ => ⟨w, .inl h, e⟩⟩
  simp only [this]
theorem colK_yes {hv : Int → List Wn} {ky : Int → List Int × Bool} {key : Int} {p k : Nat} {u : Wn} (hup : UpK (hv p)) (hu : (hv p)[k]? = some u) (he : u.1 = key) : colK hv ky key p k = colP ky key p ∧ colK hv ky key p (k + 1) = colP ky key p ++ [(p : Int)] := by
  unfold colK
  constructor
  · rw [if_neg ?_, List.append_nil]
    rintro ⟨w, h, e⟩
    obtain ⟨j, hj⟩ := List.getElem?_of_mem h
    have hjk : j < k := by have := lt_of_get hj; rw [List.length_take] at this; omega
    rw [List.getElem?_take_of_lt hjk] at hj
    have := List.pairwise_iff_getElem.1 hup.pw j k (lt_of_get hj) (lt_of_get hu) hjk
    rw [(List.getElem?_eq_some_iff.1 hj).2, (List.getElem?_eq_some_iff.1 hu).2] at this
    omega
  · rw [if_pos]
    exact ⟨u, by rw [List.take_add_one, hu]; simp, he⟩
theorem colK_all {hv : Int → List Wn} {ky : Int → List Int × Bool} (h : Cons hv ky) (key : Int) (p : Nat) : colK hv ky key p (hv p).length = colP ky key (p + 1) := by
  unfold colK
  rw [colP_succ, List.take_length]
  congr 1
  have : (∃ w ∈ hv p, w.1 = key) ↔ (p : Int) ∈ (ky key).1 := by
    rw [h.mem p key]
    exact ⟨fun ⟨w, h, e⟩ => ⟨w.2, by rw [← e]; exact h⟩, fun ⟨al, h⟩ => ⟨_, h, rfl⟩⟩
  simp only [this]
theorem laZero (k : List V → Res) : zero Try.prog 165 k = k (rep [.c (.slice none 0 0)] 6) := by kernel_rfl
set_option maxRecDepth 20000 in
set_option maxHeartbeats 16000000 in
theorem g_LockPlays (st : St) (y : Nat → V) (l : List LAct) (hy : (rowC laC).at' st y l) :
    Gd (lawX Try.prog lkG 108 ⟨false, [], 0, 0⟩ 17 [y 0] st) fun r => r.1 = .bool true := by
  rw [Gd_lawX Try.func17 rfl]
  by_cases c3 : (60 : Int) < (l.length : Int)
  · simp [evOp_call, sets, T.get_set, oracF_cons, rowC_len hy, c3]
  simp [evOp_call, sets, T.get_set, oracF_cons, rowC_len hy, c3]
  rw [oracF_ne _ rfl, liftF_nil, lkG_ne rfl rfl]
  refine Gd.mono (lknew_any st _) ?_
  rintro ⟨r, s0⟩ ⟨q, a, b, hr, hT, hq, ha, hb, x0⟩
  simp only at hr hT x0
  subst hr
  simp [evOp_call, sets, T.get_set, laZero, newC_is]
  have hn : s0.nx = s0.nx := rfl
  have x1 := (Ext.refl s0.nx s0).new (Nat.le_refl _) (.cs 165 (rep [V.c (.slice none 0 0)] 6).length (sets (rep [V.c (.slice none 0 0)] 6) 0 .lf))
  refine Gd_loop (lwI st (y 0) q a b s0.nx l.length) (fun e _ => muAt 5 l.length e) ?_ ?_
  · have hT1 := hT.ext x1
    refine ⟨0, Nat.zero_le _, ⟨by simp [T.get_set], by simp [T.get_set], by simp [T.get_set], by simp [T.get_set]⟩, fun _ => False, fun _ => [], fun _ => ([], false), ⟨⟨[], [], 0, 0, hT1, ?_⟩, Cons.zero, ⟨Nat.lt_succ_self _, fun e => by have := hT.1; omega, fun h => h, _, T.get_set_same _ _ _, fun p hp => ⟨.c (.slice none 0 0), ?_, rfl, ⟨rfl, .inl ⟨.inl rfl, rfl⟩⟩, fun m h => ?_⟩⟩, x0.trans (x1.mono x0.le), hq, ha, hb, x0.le, fun n h => h.elim⟩⟩
    · exact ⟨fun e h => (by cases h), fun w h => absurd rfl h, by simp, fun e h => (by cases h), fun k h => absurd rfl h, by simp, fun e h => (by cases h), fun h => h, fun n h => h.elim, fun k => List.Pairwise.nil, fun w => Nat.zero_le _, fun k => Nat.zero_le _⟩
    · rcases (show p = 0 ∨ p = 1 ∨ p = 2 ∨ p = 3 ∨ p = 4 ∨ p = 5 by omega) with rfl | rfl | rfl | rfl | rfl | rfl <;> simp [T.get_set]
    · rcases h with ⟨_, _, _, h⟩ | ⟨_, _, _, h⟩ <;> cases h
  rintro e s ⟨i, hi, ⟨g0, g3, g4, g5⟩, KB, hv, ky, hS⟩
  by_cases hlt : i < l.length
  case neg =>
    obtain rfl : i = l.length := by omega
    simp [evOp_call, T.get_set, g0, g5, rowC_len hy, sets]
  have hlt' : (i : Int) < l.length := by omega
  have hwi := wrap_nat (n := i) (by omega)
  obtain ⟨⟨op, who, K⟩, hl⟩ : ∃ r, l[i]? = some r := ⟨_, List.getElem?_eq_getElem hlt⟩
  obtain ⟨mt, o, ty, sz, tr, yy, hid, hmt, hgt, hcl, hat⟩ := rowC_old un161 io167 hy hl
  have t0 : tr.get o = some (.int .i64 op) := by have := hcl 0 (by decide); rw [hat.1.1] at this; exact this
  have t1 : tr.get (o + 1) = some (.int .i64 who) := (hcl 1 (by decide)).trans (congrArg some hat.2.1.1)
  have t2 : tr.get (o + 1 + 1) = some (yy 2) := hcl 2 (by decide)
  have hK : RdRow st (yy 2) 2 K.length (cellsK K) := rowC_wants hat.2.2
  have hone := hK.one
  refine Gd_seqJ (JE fun e' s' => lwE (y 0) q s0.nx i e' ∧ s = s') ?_ ?_
  · simp [evOp_call, T.get_set, g0, g5, rowC_len hy, hlt']
    exact ⟨_, _, rfl, by constructor <;> simp [T.get_set, g0, g3, g4, g5], rfl⟩
  have hmu5 : ∀ e' : Env, e'.get 5 = some (.int .i64 ((i + 1 : Nat) : Int)) → muAt 5 l.length e' < muAt 5 l.length e := fun e' h => muAt_lt g5 h hlt
  clear g0 g3 g4 g5
  rintro _ ⟨e, _, rfl, hE, rfl⟩
  rw [seqC_n, Gd_seq, Gd_block]
  have hst := hS.ext.le
  have x2 := fun b => (Ext.refl s.nx s).new (Nat.le_refl _) b
  refine Gd_seqJ (JE fun e' s' => lwE (y 0) q s0.nx i e' ∧ e'.get 6 = some (.p s.nx 0) ∧ LwH st s' q a b s0.nx KB hv ky ∧ ActL s' s.nx op who (yy 2) ∧ s.nx < s'.nx ∧ ¬ KB s.nx ∧ s.nx ≠ q ∧ s.nx ≠ s0.nx) ?_ ?_
  · obtain ⟨g0, g3, g4, g5⟩ := hE
    simp [evOp_call, T.get_set, g0, g5, hid, loadE_eq, getC_eq, hgt s hS.ext, getsB_succ, getsB_zero, t0, t1, t2, newC_is, cellsOf, storeK_g, putB_eq, roT, sets, hone]
    exact ⟨_, _, rfl, by constructor <;> simp [T.get_set, g0, g3, g4, g5], by simp [T.get_set], hS.more (x2 _), ⟨_, T.get_set_same _ _ _, by simp [T.get_set], by simp [T.get_set], by simp [T.get_set]⟩, Nat.lt_succ_self _, fun h => by have := hS.lk.mps.2.2.1 _ h; omega, fun e => by have := hS.lk.mps.2.2.2.2.2; omega, fun e => by have := hS.hav.1; omega⟩
  clear hE hS
  rintro _ ⟨e, s2, rfl, hE, g6, hS, hA, hn2, hpa⟩
  rw [seqC_n]
  have hwr : -9223372036854775808 ≤ who ∧ who ≤ 9223372036854775807 := hat.2.1.2
  obtain ⟨tA, k0, k1, k2, k3⟩ := hA
  have hKs2 : RdRow s2 (yy 2) 2 K.length (cellsK K) := hK.ext hS.ext
  by_cases c4 : who < 0
  · simp [evOp_call, T.get_set, g6, loadE_eq, getC_eq, k0, k1, k2, k3, c4, sets]
  by_cases c5 : 5 < who
  · simp [evOp_call, T.get_set, g6, loadE_eq, getC_eq, k0, k1, k2, k3, c4, c5, sets]
  by_cases c6 : (10 : Int) < (K.length : Int)
  · simp [evOp_call, T.get_set, g6, loadE_eq, getC_eq, k0, k1, k2, k3, c4, c5, c6, hKs2.lenS, sets]
  obtain ⟨wn, rfl⟩ := Int.eq_ofNat_of_zero_le (show 0 ≤ who by omega)
  have hwn : wn < 6 := by omega
  have hasw : ∀ f : Nat → Res, asNat (V.int .i64 (wn : Int)) f = f wn := fun _ => rfl
  refine Gd_seqJ (JE fun e' s' => lwE (y 0) q s0.nx i e' ∧ e'.get 6 = some (.p s.nx 0) ∧ s2 = s') ?_ ?_
  · obtain ⟨g0, g3, g4, g5⟩ := hE
    simp [evOp_call, T.get_set, g6, loadE_eq, getC_eq, k0, k1, k2, k3, c4, c5, c6, hKs2.lenS, sets]
    exact ⟨_, _, rfl, by constructor <;> simp [T.get_set, g0, g3, g4, g5], by simp [T.get_set, g6], rfl⟩
  clear hE g6
  rintro _ ⟨e, _, rfl, hE, g6, rfl⟩
  rw [seqC_n]
  refine Gd_seqJ (JE (lwJ st (y 0) q a b s0.nx i)) ?_ ?_
  · by_cases o1 : op = 0
    rotate_left
    · -- given back
      obtain ⟨g0, g3, g4, g5⟩ := hE
      simp [evOp_call, T.get_set, g6, g3, loadE_eq, getC_eq, k0, k1, k2, k3, o1, oracF_cons]
      rw [lkG_ne rfl rfl]
      refine Gd.mono (give_G s2 q a b s0.nx KB hv ky hS.lk wn (fun w hw => (hS.cons.mem wn w.1).2 ⟨w.2, hw⟩) (hS.cons.up wn) _) ?_
      rintro ⟨r, s3⟩ ⟨KB3, fr3, lk3⟩
      simp only at fr3 lk3
      obtain ⟨m1, m2, m3, m4, m5, m6⟩ := hS.lk.mps
      obtain ⟨MA, cA, gMA⟩ := m1
      obtain ⟨MB, cB, gMB⟩ := m2
      have k03 : s3.h.get s.nx = some (.cs 167 3 tA) := (fr3.keep s.nx hn2 (fun e => by rw [e, gMA] at k0; cases k0) (fun e => by rw [e, gMB] at k0; cases k0) hpa.1).trans k0
      have hv3 := hS.hav.frK fr3 ⟨MA, cA, gMA⟩ ⟨MB, cB, gMB⟩
      obtain ⟨th, gth, hv4⟩ := hv3.put (L := []) (x := .c (.slice none 0 0)) hwn rfl ⟨rfl, .inl ⟨.inl rfl, rfl⟩⟩ (fun m h => by rcases h with ⟨_, _, _, h⟩ | ⟨_, _, _, h⟩ <;> cases h)
      have hw5 : wn ≤ 5 := by omega
      simp [evOp_call, T.get_set, g6, g4, loadE_eq, getC_eq, k03, k1, k2, k3, hasw, hwn, hw5, storeK_1, putB_eq, gth, roT, sets]
      refine ⟨_, _, rfl, by constructor <;> simp [T.get_set, g0, g3, g4, g5], KB3, _, _, ⟨lk3.put4 hv3.2.2.1 hv3.2.1 gth _, hS.cons.give (fun k => by obtain ⟨_, _, _, _, _, hM⟩ := lk3; exact hM.ris k), hv4, ?_, ?_⟩⟩
      · exact (fr3.ext hS.ext hS.lo.2.1 hS.lo.2.2.1 hS.lo.2.2.2.2).set (m := s0.nx) hS.lo.2.2.2.1 hv3.1 _
      · exact ⟨hS.lo.1, hS.lo.2.1, hS.lo.2.2.1, hS.lo.2.2.2.1, fun n hn => by
          rcases fr3.more n hn with h | h
          · exact hS.lo.2.2.2.2 n h
          · have := hS.ext.le; omega⟩
    · subst o1
      obtain ⟨_, _, _, th, gth, hth⟩ := id hS.hav
      obtain ⟨xw, w1, w2, w3, _⟩ := hth wn hwn
      have hK2 : ∀ k : Nat → Res, lenA (yy 2) k = k K.length := fun k => hKs2.len k
      -- which way
      refine Gd_seqJ (JE fun e' s' => lwE (y 0) q s0.nx i e' ∧ e'.get 6 = some (.p s.nx 0) ∧ e'.get 54 = some (.c (.bool false)) ∧ s2 = s') ?_ ?_
      · obtain ⟨g0, g3, g4, g5⟩ := hE
        simp [evOp_call, T.get_set, g6, loadE_eq, getC_eq, k0, k1]
        exact ⟨_, _, rfl, by constructor <;> simp [T.get_set, g0, g3, g4, g5], by simp [T.get_set, g6], by simp [T.get_set], rfl⟩
      clear hE g6
      rintro _ ⟨e, _, rfl, hE, g6, g54, rfl⟩
      rw [seqC_n, Gd_if]
      simp only [opv_tmp, g54, Option.getD_some, condK_f]
      -- none yet
      refine Gd_seqJ (JE fun e' s' => lkT (y 0) q s0.nx i s.nx 0 e' ∧ s2 = s') ?_ ?_
      · obtain ⟨g0, g3, g4, g5⟩ := hE
        simp [evOp_call, T.get_set]
        exact ⟨_, _, rfl, ⟨by constructor <;> simp [T.get_set, g0, g3, g4, g5], by simp [T.get_set, g6], by simp [T.get_set]⟩, rfl⟩
      clear hE g6 g54
      rintro _ ⟨e, _, rfl, hE, rfl⟩
      rw [seqC_n]
      refine Gd_seqJ (JE fun e' s' => (∃ c, One1 (Bad hv wn K 1) c ∧ lkT (y 0) q s0.nx i s.nx c e') ∧ s2 = s') ?_ ?_
      · obtain ⟨⟨g0, g3, g4, g5⟩, g6, g7⟩ := hE
        have hUp1 : UpT K 1 := fun i x y h => absurd h (by omega)
        by_cases b1 : hv wn = []
        · by_cases b2 : K = []
          · have hl0 : K.length = 0 := by rw [b2]; rfl
            have hl1 : (hv wn).length = 0 := by rw [b1]; rfl
            simp [evOp_call, T.get_set, g4, g6, g7, loadE_eq, getC_eq, k0, k1, k2, k3, hasw, hwn, gth, w1, w3.lenS, hKs2.lenS, hl0, hl1]
            exact ⟨_, _, rfl, ⟨1, .inl ⟨rfl, .inl b2⟩, by constructor <;> simp [T.get_set, g0, g3, g4, g5], by simp [T.get_set, g6], by simp [T.get_set]⟩, rfl⟩
          · have hl0 : K.length ≠ 0 := fun e => b2 (List.length_eq_zero_iff.1 e)
            have hl1 : (hv wn).length = 0 := by rw [b1]; rfl
            simp [evOp_call, T.get_set, g4, g6, g7, loadE_eq, getC_eq, k0, k1, k2, k3, hasw, hwn, gth, w1, w3.lenS, hKs2.lenS, hl0, hl1]
            exact ⟨_, _, rfl, ⟨0, .inr ⟨rfl, fun h => h.elim b2 fun h => h.elim (fun h => h b1) fun h => h hUp1⟩, by constructor <;> simp [T.get_set, g0, g3, g4, g5], by simp [T.get_set, g6], by simp [T.get_set, g7]⟩, rfl⟩
        · have hl1 : 0 < (hv wn).length := List.length_pos_iff.2 b1
          simp [evOp_call, T.get_set, g4, g6, g7, loadE_eq, getC_eq, k0, k1, k2, k3, hasw, hwn, gth, w1, w3.lenS, hKs2.lenS, hl1]
          exact ⟨_, _, rfl, ⟨1, .inl ⟨rfl, .inr (.inl b1)⟩, by constructor <;> simp [T.get_set, g0, g3, g4, g5], by simp [T.get_set, g6], by simp [T.get_set]⟩, rfl⟩
      clear hE
      rintro _ ⟨e, _, rfl, ⟨c, hc, hE⟩, rfl⟩
      rw [seqC_n]
      -- rising
      refine Gd_seqJ (JE fun e' s' => (∃ c, One1 (Bad hv wn K K.length) c ∧ lkT (y 0) q s0.nx i s.nx c e') ∧ s2 = s') ?_ ?_
      · obtain ⟨⟨g0, g3, g4, g5⟩, g6, g7⟩ := hE
        simp [evOp_call, T.get_set]
        refine Gd_loop (lu1 (y 0) q s0.nx i s.nx hv wn K s2) (fun e _ => muAt 8 (max 1 K.length) e) ?_ ?_
        · exact ⟨0, c, by omega, hc, ⟨by constructor <;> simp [T.get_set, g0, g3, g4, g5], by simp [T.get_set, g6], by simp [T.get_set, g7]⟩, by simp [T.get_set], rfl⟩
        clear g0 g3 g4 g5 g6 g7 hc c
        rintro e s' ⟨k, c, hk, hc, ⟨⟨g0, g3, g4, g5⟩, g6, g7⟩, g8, rfl⟩
        by_cases hlt : k + 1 < K.length
        case neg =>
          have hlt' : ¬ ((k : Int) + 1 < K.length) := by omega
          simp [evOp_call, T.get_set, g6, g8, loadE_eq, getC_eq, k0, k3, hKs2.lenS, hlt']
          refine ⟨_, _, rfl, ⟨c, hc.iff ?_, by constructor <;> simp [T.get_set, g0, g3, g4, g5], by simp [T.get_set, g6], by simp [T.get_set, g7]⟩, rfl⟩
          unfold Bad
          refine or_congr Iff.rfl (or_congr Iff.rfl (not_congr ?_))
          by_cases h0 : K.length = 0
          · exact ⟨fun _ i x y h => absurd h (by omega), fun _ i x y h => absurd h (by omega)⟩
          · rw [show k + 1 = K.length by omega]
        have hlt' : ((k : Int) + 1 < K.length) := by omega
        have wk3 : IntKind.i64.wrap ((k : Int) + 1 - 1) = (k : Int) := by rw [show (k : Int) + 1 - 1 = (k : Int) by omega]; exact wrap_in (by omega) (by omega)
        have wk2 : IntKind.i64.wrap (k : Int) = (k : Int) := wrap_in (by omega) (by omega)
        have wk4 : IntKind.i64.wrap ((k : Int) + 1 + 1) = (k : Int) + 1 + 1 := by rw [show (k : Int) + 1 + 1 = ((k + 2 : Nat) : Int) by omega]; exact wrap_in (by omega) (by omega)
        have hask : ∀ f : Nat → Res, asNat (.int .i64 ((k : Int) + 1)) f = f (k + 1) := fun f => by
          rw [show (k : Int) + 1 = ((k + 1 : Nat) : Int) by omega]; exact asNat_cast ..
        obtain ⟨u, hu⟩ : ∃ z, K[k]? = some z := ⟨_, List.getElem?_eq_getElem (by omega)⟩
        obtain ⟨w, hw⟩ : ∃ z, K[k + 1]? = some z := ⟨_, List.getElem?_eq_getElem hlt⟩
        obtain ⟨m1, o1, ty1, sz1, tr1, i1, b1, n1, l1, d1⟩ := hKs2.idx un164 io170 (show k < K.length by omega)
        obtain ⟨m2, o2, ty2, sz2, tr2, i2, b2, n2, l2, d2⟩ := hKs2.idx un164 io170 hlt
        have e1 : tr1.get o1 = some (.int .i64 u.1) := by simpa using d1 0 _ (by omega) (cellsK_get K k u hu).1
        have e2 : tr2.get o2 = some (.int .i64 w.1) := by simpa using d2 0 _ (by omega) (cellsK_get K (k + 1) w hw).1
        by_cases hle : w.1 ≤ u.1
        · simp [evOp_call, T.get_set, g6, g8, loadE_eq, getC_eq, k0, k3, hKs2.lenS, hlt', hask, i1, i2, wk2, wk3, n1, n2, e1, e2, hle]
          refine ⟨by kernel_rfl, ?_⟩
          simp [evOp_call, T.get_set, g6, g8, loadE_eq, getC_eq, k0, k3, hKs2.lenS, hlt', hask, i1, i2, wk2, wk3, wk4, n1, n2, e1, e2, hle]
          refine ⟨⟨k + 1, 1, by omega, .inl ⟨rfl, .inr (.inr fun h => ?_)⟩, ⟨by constructor <;> simp [T.get_set, g0, g3, g4, g5], by simp [T.get_set, g6], by simp [T.get_set]⟩, by simp [T.get_set], rfl⟩, muAt_lt g8 (by simp [T.get_set]) (by omega)⟩
          have := ((UpT.succ hu hw).1 h).2
          omega
        · simp [evOp_call, T.get_set, g6, g8, loadE_eq, getC_eq, k0, k3, hKs2.lenS, hlt', hask, i1, i2, wk2, wk3, n1, n2, e1, e2, hle]
          refine ⟨by kernel_rfl, ?_⟩
          simp [evOp_call, T.get_set, g6, g8, loadE_eq, getC_eq, k0, k3, hKs2.lenS, hlt', hask, i1, i2, wk2, wk3, wk4, n1, n2, e1, e2, hle]
          refine ⟨⟨k + 1, c, by omega, hc.iff (or_congr Iff.rfl (or_congr Iff.rfl (not_congr ?_))), ⟨by constructor <;> simp [T.get_set, g0, g3, g4, g5], by simp [T.get_set, g6], by simp [T.get_set, g7]⟩, by simp [T.get_set], rfl⟩, muAt_lt g8 (by simp [T.get_set]) (by omega)⟩
          rw [UpT.succ hu hw]
          exact ⟨fun h => ⟨h, by omega⟩, fun h => h.1⟩
      clear hE hc c
      rintro _ ⟨e, _, rfl, ⟨c, hc, hE⟩, rfl⟩
      rw [seqC_n]
      -- against the others
      refine Gd_seqJ (JE fun e' s' => (∃ c, WantC hv wn K c ∧ lkT (y 0) q s0.nx i s.nx c e') ∧ s2 = s') ?_ ?_
      · obtain ⟨⟨g0, g3, g4, g5⟩, g6, g7⟩ := hE
        simp [evOp_call, T.get_set]
        refine Gd_loop (lu2 (y 0) q s0.nx i s.nx hv wn K s2) (fun e _ => muAt 9 6 e) ?_ ?_
        · refine ⟨0, c, by omega, ?_, ⟨by constructor <;> simp [T.get_set, g0, g3, g4, g5], by simp [T.get_set, g6], by simp [T.get_set, g7]⟩, by simp [T.get_set], rfl⟩
          rcases hc with h | ⟨h1, h2⟩
          · exact .inl h
          · exact .inr ⟨h2, .inr ⟨h1, CfP.zero hv wn K⟩⟩
        clear g0 g3 g4 g5 g6 g7 hc c
        rintro e s' ⟨p, c, hp, hc, ⟨⟨g0, g3, g4, g5⟩, g6, g7⟩, g9, rfl⟩
        have hbad : ¬ Bad hv wn K K.length → K ≠ [] ∧ hv wn = [] ∧ UpK K := fun h => ⟨fun e => h (.inl e), Decidable.byContradiction fun e => h (.inr (.inl e)), (UpT.iff K).1 (Classical.byContradiction fun e => h (.inr (.inr e)))⟩
        by_cases hgo : p < 6 ∧ c = 0
        case neg =>
          have fin : WantC hv wn K c := by
            rcases hc with ⟨h1, h2⟩ | ⟨h1, ⟨h2, h3⟩ | ⟨h2, h3⟩⟩
            · refine .inl ⟨h1, h2.elim .inl fun h => .inr (h.elim .inl fun h => .inr fun e => h ((UpT.iff K).2 e))⟩
            · exact .inr (.inl ⟨h2, hbad h1, (CfP.six hv wn K).1 (h3.mono hp)⟩)
            · obtain rfl : p = 6 := Classical.byContradiction fun e => hgo ⟨by omega, h2⟩
              exact .inr (.inr ⟨h2, hbad h1, h3⟩)
          by_cases hp6 : p < 6
          · have hc0 : c ≠ 0 := fun e => hgo ⟨hp6, e⟩
            have hp6' : (p : Int) < 6 := by omega
            simp [evOp_call, T.get_set, g7, g9, hp6', hc0]
            exact ⟨_, _, rfl, ⟨c, fin, by constructor <;> simp [T.get_set, g0, g3, g4, g5], by simp [T.get_set, g6], by simp [T.get_set, g7]⟩, rfl⟩
          · have hp6' : ¬ (p : Int) < 6 := by omega
            simp [evOp_call, T.get_set, g7, g9, hp6']
            exact ⟨_, _, rfl, ⟨c, fin, by constructor <;> simp [T.get_set, g0, g3, g4, g5], by simp [T.get_set, g6], by simp [T.get_set, g7]⟩, rfl⟩
        obtain ⟨hp6, rfl⟩ := hgo
        have hp6' : (p : Int) < 6 := by omega
        have hwp := wrap_nat (n := p) (by omega)
        obtain ⟨hnb, hv0⟩ : ¬ Bad hv wn K K.length ∧ V15 (CfP hv wn K p) 0 := hc.resolve_left fun h => absurd h.1 (by decide)
        obtain ⟨xp, p1, p2, p3, _⟩ := hth p hp6
        simp [evOp_call, T.get_set, g7, g9, hp6']
        refine Gd_loop (lu3 (y 0) q s0.nx i s.nx hv wn K p s') (fun e _ => muAt 10 (hv p).length e) ?_ ?_
        · exact ⟨0, 0, Nat.zero_le _, hv0.iff (CfQ.zero hv wn K p).symm, ⟨by constructor <;> simp [T.get_set, g0, g3, g4, g5], by simp [T.get_set, g6], by simp [T.get_set, g7]⟩, by simp [T.get_set, g9], by simp [T.get_set], rfl⟩
        have hmu : ∀ e' : Env, e'.get 9 = some (.int .i64 ((p + 1 : Nat) : Int)) → muAt 9 6 e' < muAt 9 6 e := fun e' h => muAt_lt g9 h hp6
        clear g0 g3 g4 g5 g6 g7 g9
        rintro e2 s2' ⟨k, c, hk, hc, ⟨⟨g0, g3, g4, g5⟩, g6, g7⟩, f9, f10, rfl⟩
        have hmx : (hv p).length ≤ 10 := hS.cons.len p
        by_cases hkl : k < (hv p).length
        case neg =>
          obtain rfl : k = (hv p).length := by omega
          simp [evOp_call, T.get_set, g4, f9, f10, hp6, loadE_eq, getC_eq, gth, p1, p3.lenS, hwp]
          exact ⟨⟨p + 1, c, hp6, .inr ⟨hnb, hc.iff (CfQ.all hv wn K p)⟩, ⟨by constructor <;> simp [T.get_set, g0, g3, g4, g5], by simp [T.get_set, g6], by simp [T.get_set, g7]⟩, by simp [T.get_set], rfl⟩, hmu _ (by simp [T.get_set])⟩
        have hkl' : (k : Int) < (hv p).length := by omega
        have hwk := wrap_nat (n := k) (by omega)
        obtain ⟨u, hu⟩ : ∃ z, (hv p)[k]? = some z := ⟨_, List.getElem?_eq_getElem hkl⟩
        simp [evOp_call, T.get_set, g4, f9, f10, hp6, loadE_eq, getC_eq, gth, p1, p3.lenS, hkl', hkl]
        refine Gd_loop (lu4 (y 0) q s0.nx i s.nx hv wn K p k u s2') (fun e _ => muAt 11 K.length e) ?_ ?_
        · exact ⟨0, c, Nat.zero_le _, hc.iff (CfR.zero hv wn K p k u).symm, ⟨by constructor <;> simp [T.get_set, g0, g3, g4, g5], by simp [T.get_set, g6], by simp [T.get_set, g7]⟩, by simp [T.get_set, f9], by simp [T.get_set, f10], by simp [T.get_set], rfl⟩
        have hmk : ∀ e' : Env, e'.get 10 = some (.int .i64 ((k + 1 : Nat) : Int)) → muAt 10 (hv p).length e' < muAt 10 (hv p).length e2 := fun e' h => muAt_lt f10 h hkl
        clear g0 g3 g4 g5 g6 g7 f9 f10 hc c
        rintro e3 s3' ⟨j, c, hj, hc, ⟨⟨g0, g3, g4, g5⟩, g6, g7⟩, f9, f10, f11, rfl⟩
        by_cases hpw : (p : Int) = wn
        · -- not against oneself
          obtain rfl : p = wn := by omega
          have hq0 : V15 (CfQ hv p K p (k + 1)) c := by
            refine hc.iff ⟨fun h => ?_, fun h => ?_⟩
            · exact (CfR.own (u := u) rfl).1 (h.elim (fun h => .inl h) fun h => absurd rfl h.1)
            · exact ((CfR.own (u := u) rfl).2 h).elim (fun h => .inl h) fun h => absurd rfl h.1
          by_cases hjl : j < K.length
          · have hjl' : (j : Int) < K.length := by omega
            simp [evOp_call, T.get_set, g6, f9, f10, f11, loadE_eq, getC_eq, k0, k2, k3, hKs2.lenS, hjl, hwk]
            exact ⟨⟨k + 1, c, hkl, hq0, ⟨by constructor <;> simp [T.get_set, g0, g3, g4, g5], by simp [T.get_set, g6], by simp [T.get_set, g7]⟩, by simp [T.get_set, f9], by simp [T.get_set], rfl⟩, hmk _ (by simp [T.get_set])⟩
          · simp [evOp_call, T.get_set, g6, f9, f10, f11, loadE_eq, getC_eq, k0, k2, k3, hKs2.lenS, hjl, hwk]
            exact ⟨⟨k + 1, c, hkl, hq0, ⟨by constructor <;> simp [T.get_set, g0, g3, g4, g5], by simp [T.get_set, g6], by simp [T.get_set, g7]⟩, by simp [T.get_set, f9], by simp [T.get_set], rfl⟩, hmk _ (by simp [T.get_set])⟩
        by_cases hjl : j < K.length
        case neg =>
          obtain rfl : j = K.length := by omega
          simp [evOp_call, T.get_set, g6, f9, f10, f11, loadE_eq, getC_eq, k0, k2, k3, hKs2.lenS, hwk]
          exact ⟨⟨k + 1, c, hkl, hc.iff (CfR.all hu), ⟨by constructor <;> simp [T.get_set, g0, g3, g4, g5], by simp [T.get_set, g6], by simp [T.get_set, g7]⟩, by simp [T.get_set, f9], by simp [T.get_set], rfl⟩, hmk _ (by simp [T.get_set])⟩
        have hpw' : p ≠ wn := fun e => hpw (by omega)
        have hwj := wrap_nat (n := j) (by omega)
        obtain ⟨w, hw⟩ : ∃ z, K[j]? = some z := ⟨_, List.getElem?_eq_getElem hjl⟩
        obtain ⟨m1, o1, ty1, sz1, tr1, i1, b1, n1, l1, d1⟩ := p3.idx (st := s3') un164 io170 hkl
        obtain ⟨m2, o2, ty2, sz2, tr2, i2, b2, n2, l2, d2⟩ := hKs2.idx un164 io170 hjl
        have e10 : tr1.get o1 = some (.int .i64 u.1) := by simpa using d1 0 _ (by omega) (cellsK_get (hv p) k u hu).1
        have e11 : tr1.get (o1 + 1) = some (.bool u.2) := by simpa using d1 1 _ (by omega) (cellsK_get (hv p) k u hu).2
        have e20 : tr2.get o2 = some (.int .i64 w.1) := by simpa using d2 0 _ (by omega) (cellsK_get K j w hw).1
        have e21 : tr2.get (o2 + 1) = some (.bool w.2) := by simpa using d2 1 _ (by omega) (cellsK_get K j w hw).2
        by_cases hcf : confW u w
        · have hx := hcf.1
          have nx : V15 (CfR hv wn K p k u (j + 1)) 15 := .inl ⟨rfl, (CfR.succ hw hpw).2 (.inr hcf)⟩
          rcases hcf.2 with hb | hb
          · rw [hb] at e11
            simp [evOp_call, T.get_set, g4, g6, f9, f10, f11, loadE_eq, getC_eq, k0, k2, k3, hKs2.lenS, hjl, hpw, hpw', hp6, gth, p1, i1, i2, n1, n2, e10, e11, e20, e21, hx]
            refine ⟨by kernel_rfl, ?_⟩
            simp [evOp_call, T.get_set, g4, g6, f9, f10, f11, loadE_eq, getC_eq, k0, k2, k3, hKs2.lenS, hjl, hpw, hpw', hp6, gth, p1, i1, i2, n1, n2, e10, e11, e20, e21, hx, hwj]
            exact ⟨⟨j + 1, 15, hjl, nx, ⟨by constructor <;> simp [T.get_set, g0, g3, g4, g5], by simp [T.get_set, g6], by simp [T.get_set]⟩, by simp [T.get_set, f9], by simp [T.get_set, f10], by simp [T.get_set], rfl⟩, muAt_lt f11 (by simp [T.get_set]) hjl⟩
          · rw [hb] at e21
            cases hub : u.2 <;> rw [hub] at e11 <;> (
            simp [evOp_call, T.get_set, g4, g6, f9, f10, f11, loadE_eq, getC_eq, k0, k2, k3, hKs2.lenS, hjl, hpw, hpw', hp6, gth, p1, i1, i2, n1, n2, e10, e11, e20, e21, hx]
            refine ⟨by kernel_rfl, ?_⟩
            simp [evOp_call, T.get_set, g4, g6, f9, f10, f11, loadE_eq, getC_eq, k0, k2, k3, hKs2.lenS, hjl, hpw, hpw', hp6, gth, p1, i1, i2, n1, n2, e10, e11, e20, e21, hx, hwj]
            exact ⟨⟨j + 1, 15, hjl, nx, ⟨by constructor <;> simp [T.get_set, g0, g3, g4, g5], by simp [T.get_set, g6], by simp [T.get_set]⟩, by simp [T.get_set, f9], by simp [T.get_set, f10], by simp [T.get_set], rfl⟩, muAt_lt f11 (by simp [T.get_set]) hjl⟩)
        · have nx : V15 (CfR hv wn K p k u (j + 1)) c := hc.iff ((CfR.succ hw hpw).trans ⟨fun h => h.resolve_right hcf, .inl⟩).symm
          by_cases hx : u.1 = w.1
          · have hub : u.2 = false := by cases h : u.2 with
              | false => rfl
              | true => exact absurd ⟨hx, .inl h⟩ hcf
            have hwb : w.2 = false := by cases h : w.2 with
              | false => rfl
              | true => exact absurd ⟨hx, .inr h⟩ hcf
            rw [hub] at e11
            rw [hwb] at e21
            simp [evOp_call, T.get_set, g4, g6, f9, f10, f11, loadE_eq, getC_eq, k0, k2, k3, hKs2.lenS, hjl, hpw, hpw', hp6, gth, p1, i1, i2, n1, n2, e10, e11, e20, e21, hx]
            refine ⟨by kernel_rfl, ?_⟩
            simp [evOp_call, T.get_set, g4, g6, f9, f10, f11, loadE_eq, getC_eq, k0, k2, k3, hKs2.lenS, hjl, hpw, hpw', hp6, gth, p1, i1, i2, n1, n2, e10, e11, e20, e21, hx, hwj]
            exact ⟨⟨j + 1, c, hjl, nx, ⟨by constructor <;> simp [T.get_set, g0, g3, g4, g5], by simp [T.get_set, g6], by simp [T.get_set, g7]⟩, by simp [T.get_set, f9], by simp [T.get_set, f10], by simp [T.get_set], rfl⟩, muAt_lt f11 (by simp [T.get_set]) hjl⟩
          · simp [evOp_call, T.get_set, g4, g6, f9, f10, f11, loadE_eq, getC_eq, k0, k2, k3, hKs2.lenS, hjl, hpw, hpw', hp6, gth, p1, i1, i2, n1, n2, e10, e11, e20, e21, hx]
            refine ⟨by kernel_rfl, ?_⟩
            simp [evOp_call, T.get_set, g4, g6, f9, f10, f11, loadE_eq, getC_eq, k0, k2, k3, hKs2.lenS, hjl, hpw, hpw', hp6, gth, p1, i1, i2, n1, n2, e10, e11, e20, e21, hx, hwj]
            exact ⟨⟨j + 1, c, hjl, nx, ⟨by constructor <;> simp [T.get_set, g0, g3, g4, g5], by simp [T.get_set, g6], by simp [T.get_set, g7]⟩, by simp [T.get_set, f9], by simp [T.get_set, f10], by simp [T.get_set], rfl⟩, muAt_lt f11 (by simp [T.get_set]) hjl⟩
      clear hE hc c
      rintro _ ⟨e, _, rfl, ⟨c, hc, hE⟩, rfl⟩
      rw [seqC_n]
      -- whether it may
      have hKlen : K.length ≤ 10 := by omega
      refine Gd_seqJ (JE fun e' s' => lkT (y 0) q s0.nx i s.nx c e' ∧ e'.get 12 = some (.c (.bool (decide (c = 0)))) ∧ Ext s2.nx s2 s') ?_ ?_
      · obtain ⟨⟨g0, g3, g4, g5⟩, g6, g7⟩ := hE
        simp [evOp_call, T.get_set, g3, g6, loadE_eq, getC_eq, k0, k2, k3, oracF_cons]
        rw [lkG_ne rfl rfl]
        refine Gd.mono (may_G s2 q a b s0.nx KB hv ky hS.lk wn (yy 2) K hKs2 (by omega) _) ?_
        rintro ⟨r, s5⟩ ⟨c', hc', hr, x5⟩
        simp only at hr x5
        obtain rfl : c' = c := hS.cons.same hc hc'
        subst hr
        simp [evOp_call, T.get_set]
        exact ⟨_, _, rfl, ⟨by constructor <;> simp [T.get_set, g0, g3, g4, g5], by simp [T.get_set, g6], by simp [T.get_set, g7]⟩, by simp [T.get_set], x5⟩
      clear hE
      rintro _ ⟨e, s5, rfl, hE, g12, x5⟩
      rw [seqC_n]
      have hS5 := hS.more x5
      have k05 := (x5.keep s.nx hn2).trans k0
      have hKs5 := hKs2.ext x5
      have hxlt : ∀ m, (∃ o k r, yy 2 = .sl m o k r) ∨ (∃ o k r, yy 2 = .sg m o k r) → m < st.nx := fun m h => by
        rcases h with ⟨o, k, r, h⟩ | ⟨o, k, r, h⟩
        · exact hK.lt_of.2 _ _ _ _ h
        · exact hK.lt_of.1 _ _ _ _ h
      -- taken
      refine Gd_seqJ (JE fun e' s' => lkT (y 0) q s0.nx i s.nx c e' ∧ (c ≠ 0 → Ext s5.nx s5 s') ∧ (c = 0 → ∃ KB', FrK s5 s' a b KB KB' ∧ LkAt s' q a b s0.nx KB' (updI hv wn K) (takeK ky wn K))) ?_ ?_
      · obtain ⟨⟨g0, g3, g4, g5⟩, g6, g7⟩ := hE
        have tk := fun nt => take_G s5 q a b s0.nx KB hv ky hS5.lk wn (yy 2) K hKs5 (by omega) (fun m h => ⟨by have := hxlt m h; have := hS.lo.1; omega, fun hk => by have := hxlt m h; have := hS.lo.2.2.2.2 m hk; omega⟩) (fun h => hS.cons.no h) (fun k => by have := hS.cons.few k; omega) hS5.hav.1 nt
        by_cases c0 : c = 0
        · subst c0
          simp [evOp_call, T.get_set, g3, g6, g7, g12, loadE_eq, getC_eq, k05, k2, k3, oracF_cons, neqBool]
          refine Gd.mono (tk _) ?_
          rintro ⟨r, s6⟩ ⟨c', hr, hc', h1, h2⟩
          simp only at hr h1 h2
          obtain rfl : c' = 0 := hS.cons.same hc hc'
          subst hr
          simp [evOp_call, T.get_set, g7]
          exact ⟨_, _, rfl, ⟨by constructor <;> simp [T.get_set, g0, g3, g4, g5], by simp [T.get_set, g6], by simp [T.get_set, g7]⟩, h2 rfl⟩
        · simp [evOp_call, T.get_set, g3, g6, g7, g12, loadE_eq, getC_eq, k05, k2, k3, oracF_cons, c0, neqBool]
          refine Gd.mono (tk _) ?_
          rintro ⟨r, s6⟩ ⟨c', hr, hc', h1, h2⟩
          simp only at hr h1 h2
          obtain rfl : c' = c := hS.cons.same hc hc'
          subst hr
          simp [evOp_call, T.get_set, g7]
          exact ⟨_, _, rfl, ⟨by constructor <;> simp [T.get_set, g0, g3, g4, g5], by simp [T.get_set, g6], by simp [T.get_set, g7]⟩, h1 c0⟩
      clear hE g12
      rintro _ ⟨e, s6, rfl, ⟨⟨g0, g3, g4, g5⟩, g6, g7⟩, h1, h2⟩
      rw [seqC_n]
      by_cases c0 : c = 0
      rotate_left
      · simp [evOp_call, T.get_set, g7, c0]
        exact ⟨_, _, rfl, by constructor <;> simp [T.get_set, g0, g3, g4, g5], KB, hv, ky, hS5.more (h1 c0)⟩
      subst c0
      obtain ⟨KB6, fr6, lk6⟩ := h2 rfl
      have k06 : s6.h.get s.nx = some (.cs 167 3 tA) := by
        obtain ⟨⟨MA, cA, gMA⟩, ⟨MB, cB, gMB⟩, _⟩ := hS5.lk.mps
        exact (fr6.keep s.nx (by have := x5.le; omega) (fun e => by rw [e, gMA] at k05; cases k05) (fun e => by rw [e, gMB] at k05; cases k05) hpa.1).trans k05
      have hv6 := hS5.hav.frK fr6 hS5.lk.mps.1 hS5.lk.mps.2.1
      have hKs6 : RdRow s6 (yy 2) 2 K.length (cellsK K) := RdRow.frK fr6 hS5.lk.mps.1 hS5.lk.mps.2.1 hKs5 fun m h hk => by have := hxlt m h; have := hS.lo.2.2.2.2 m hk; omega
      have hgood : K ≠ [] ∧ hv wn = [] ∧ UpK K ∧ ¬ Cf hv wn K := by
        rcases hc with ⟨h, _⟩ | ⟨h, _⟩ | ⟨_, ⟨h1, h2, h3⟩, h4⟩
        · cases h
        · cases h
        · exact ⟨h1, h2, h3, h4⟩
      simp [evOp_call, T.get_set, g6, g7, loadE_eq, getC_eq, k06, k2]
      refine ⟨by kernel_rfl, ?_⟩
      rw [evOp_build0 (fun k => el164 k) (fun k => ze170 k) rfl]
      have he : Ext s6.nx s6 ⟨s6.nx + 1, s6.h.set s6.nx (.cs 170 0 .lf)⟩ := (Ext.refl _ _).new (Nat.le_refl _) _
      have k07 := (he.keep s.nx (by have := x5.le; have := fr6.le; omega)).trans k06
      have hlm : ∀ (b' : Nat), inF ((0, s.nx) :: (s.nx + 1, s6.nx + 1) :: forb b' [(2, s6.nx, s6.nx + 1)] []) s.nx = false := fun b' => inF_lds (fun e h => by simp at h; subst h; show s.nx < s6.nx; have := x5.le; have := fr6.le; omega)
      have hne : ¬ s6.nx = s.nx := by have := x5.le; have := fr6.le; omega
      simp [evOp_call, T.get_set, g6, loadE_eq, getC_eq, k06, k3, hlm, hne]
      have hbx : ∀ m, (∃ o k r, yy 2 = .sl m o k r) ∨ (∃ o k r, yy 2 = .sg m o k r) → inF [(s.nx, s.nx + 1)] m = false := fun m h => by
        rw [inF_cons, if_neg (by have := hxlt m h; omega)]; rfl
      have hbk : ((some (yy 2)).bind blkOf).elim false (inF [(s.nx, s.nx + 1)]) = false := by
        rcases hKs6.2 with ⟨e | e, _⟩ | ⟨m, o, r, ty, sz, t, e, _⟩ | ⟨m, o, ty, sz, t, e, _⟩
        · rw [e]; rfl
        · rw [e]; rfl
        · have := hbx m (.inl ⟨_, _, _, e⟩)
          rw [e]; exact this
        · have := hbx m (.inr ⟨_, _, _, e⟩)
          rw [e]; exact this
      have hb6 : inF [(s.nx, s.nx + 1)] s6.nx = false := by rw [inF_cons, if_neg (by have := x5.le; have := fr6.le; omega)]; rfl
      rw [cxOf_callL [(s.nx, s.nx + 1)] (by kernel_rfl) (by kernel_rfl) (looseW_at 177 (.p s.nx 1) (by simp [T.get_set]) (by kernel_rfl)) (fun x hx => by
          simp at hx
          rcases hx with rfl | rfl
          · rw [clashes_tmp]; simp only [T.get_set]; exact hb6
          · rw [clashes_tmp]; simp only [T.get_set]; exact hbk) (fun p hp => by simp at hp; subst hp; rw [isRo_cs k07]; decide), forb_cons (by kernel_rfl) rfl]
      have hKs7 := hKs6.ext he
      refine Gd_append0L un164 un164 io170 (by decide) hb6 (T.get_set_same _ _ _) hKs6.notS (fun k => hKs6.len k) (fun k => firstsL hKs7 hbx k) hKs6.1 (by omega) (fun h0 => absurd (List.length_eq_zero_iff.1 h0) hgood.1) fun _ => ?_
      have he2 := he.new (Nat.le_succ _) (.cs 170 (cellsK K).length (sets (cellsK K) 0 .lf))
      have ho : OwnRow s6.nx ⟨s6.nx + 1 + 1, (s6.h.set s6.nx (.cs 170 0 .lf)).set (s6.nx + 1) (.cs 170 (cellsK K).length (sets (cellsK K) 0 .lf))⟩ (.sg (s6.nx + 1) 0 K.length 2) 2 K.length (cellsK K) := by
        refine ⟨hKs6.1, .inr ⟨s6.nx + 1, 170, sets (cellsK K) 0 .lf, rfl, Nat.le_succ _, Nat.lt_succ_self _, ?_, by decide, fun j v hj => ?_⟩⟩
        · rw [← hKs6.1]; exact T.get_set_same _ _ _
        · have hjl : j < (cellsK K).length := lt_of_get hj
          rw [get_sets, if_pos ⟨Nat.zero_le _, by omega⟩]
          simpa using hj
      have lk8 := lk6.ext he2
      have hv8 := hv6.frK (he2.frK a b KB6) lk6.mps.1 lk6.mps.2.1
      obtain ⟨thw, gthw, hv9⟩ := hv8.put (L := K) (x := .sg (s6.nx + 1) 0 K.length 2) hwn rfl ho.rd (fun m h => by
        have hm : m = s6.nx + 1 := by
          rcases h with ⟨_, _, _, h⟩ | ⟨_, _, _, h⟩
          · cases h
          · injection h with h; exact h.symm
        subst hm
        exact ⟨by have := lk6.mps.2.2.2.2.2; omega, fun hk => by have := lk6.mps.2.2.1 _ hk; omega, by have := hv6.1; omega⟩)
      have hw5 : wn ≤ 5 := by omega
      simp [evOp_call, T.get_set, g4, hasw, hwn, hw5]
      rw [cxOf_may rfl rfl (by kernel_rfl), forb_cons (by kernel_rfl) (forb_cons (by kernel_rfl) rfl)]
      simp only [putB_eq, gthw]
      simp [roT, sets, hw5]
      refine ⟨_, _, rfl, by constructor <;> simp [T.get_set, g0, g3, g4, g5], KB6, _, _, ⟨lk8.put4 hv8.2.2.1 hv8.2.1 gthw _, hS.cons.take hgood.2.1 hgood.2.2.1 (fun w hw hb => hgood.2.2.2 ((hS.cons.cf hgood.2.1).2 ⟨w, hw, hb⟩)) (by omega) hKlen (fun k => by obtain ⟨_, _, _, _, _, hM⟩ := lk6; exact hM.ris k), hv9, ?_, ?_⟩⟩
      · exact (((fr6.ext hS5.ext hS.lo.2.1 hS.lo.2.2.1 hS.lo.2.2.2.2).trans (he2.mono (by have := hS.ext.le; have := x5.le; have := fr6.le; omega))).set (m := s0.nx) hS.lo.2.2.2.1 hv8.1 _)
      · exact ⟨hS.lo.1, hS.lo.2.1, hS.lo.2.2.1, hS.lo.2.2.2.1, fun n hn => by
          rcases fr6.more n hn with h | h
          · exact hS.lo.2.2.2.2 n h
          · have := hS.ext.le; have := x5.le; omega⟩
  clear hE g6
  rintro _ ⟨e, s3, rfl, hE, KB3, hv3, ky3, hS3⟩
  rw [seqC_n]
  refine Gd_seqJ (JE (lwJ st (y 0) q a b s0.nx i)) ?_ ?_
  · obtain ⟨g0, g3, g4, g5⟩ := hE
    simp [evOp_call, T.get_set]
    refine Gd_loop (lhI st (y 0) q a b s0.nx i KB3 hv3 ky3) (fun e _ => muAt 13 6 e) ?_ ?_
    · exact ⟨0, Nat.zero_le _, by constructor <;> simp [T.get_set, g0, g3, g4, g5], by simp [T.get_set], hS3⟩
    clear g0 g3 g4 g5
    rintro e s ⟨p, hp, ⟨g0, g3, g4, g5⟩, g13, hS⟩
    by_cases hlt : p < 6
    case neg =>
      obtain rfl : p = 6 := by omega
      simp [evOp_call, T.get_set, g13]
      exact ⟨_, _, rfl, by constructor <;> simp [T.get_set, g0, g3, g4, g5], KB3, hv3, ky3, hS⟩
    have hlt' : (p : Int) < 6 := by omega
    have hwp := wrap_nat (n := p) (by omega)
    simp [evOp_call, T.get_set, g3, g13, hlt', oracF_cons]
    rw [lkG_ne rfl rfl]
    refine Gd.mono (holds_G s q a b s0.nx KB3 hv3 ky3 hS.lk p _) ?_
    rintro ⟨h, s5⟩ ⟨hh, x5⟩
    simp only at hh x5
    have hS5 := hS.more x5
    obtain ⟨_, _, _, th, gth, hth⟩ := hS5.hav
    obtain ⟨xp, p1, p2, p3, _⟩ := hth p hlt
    simp [evOp_call, T.get_set, g3, g4, g13, hlt, loadE_eq, getC_eq, gth, p1, hh.lenS, p3.lenS]
    refine Gd_loop (lh2 (y 0) q s0.nx i p (hv3 p).length h s5) (fun e _ => muAt 15 (hv3 p).length e) ?_ ?_
    · exact ⟨0, Nat.zero_le _, by constructor <;> simp [T.get_set, g0, g3, g4, g5], by simp [T.get_set, g13], by simp [T.get_set], by simp [T.get_set], rfl⟩
    have hmu : ∀ e' : Env, e'.get 13 = some (.int .i64 ((p + 1 : Nat) : Int)) → muAt 13 6 e' < muAt 13 6 e := fun e' h => muAt_lt g13 h hlt
    clear g0 g3 g4 g5
    rintro e2 s' ⟨k, hk, ⟨g0, g3, g4, g5⟩, f13, f14, f15, rfl⟩
    have hmx : (hv3 p).length ≤ 10 := hS.cons.len p
    by_cases hkl : k < (hv3 p).length
    · have hkl' : (k : Int) < (hv3 p).length := by omega
      have hwk := wrap_nat (n := k) (by omega)
      obtain ⟨z, hz⟩ : ∃ z, (hv3 p)[k]? = some z := ⟨_, List.getElem?_eq_getElem hkl⟩
      obtain ⟨c0, c1⟩ := cellsK_get (hv3 p) k z hz
      obtain ⟨m1, o1, ty1, sz1, tr1, i1, b1, k1', l1, d1⟩ := hh.idx (st := s') un164 io170 hkl
      obtain ⟨m2, o2, ty2, sz2, tr2, i2, b2, k2', l2, d2⟩ := p3.idx (st := s') un164 io170 hkl
      have e10 : tr1.get o1 = some (.int .i64 z.1) := by simpa using d1 0 _ (by omega) c0
      have e11 : tr1.get (o1 + 1) = some (.bool z.2) := by simpa using d1 1 _ (by omega) c1
      have e20 : tr2.get o2 = some (.int .i64 z.1) := by simpa using d2 0 _ (by omega) c0
      have e21 : tr2.get (o2 + 1) = some (.bool z.2) := by simpa using d2 1 _ (by omega) c1
      simp [evOp_call, T.get_set, g3, g4, f13, f14, f15, hh.lenS, hkl', hkl]
      refine ⟨by kernel_rfl, ?_⟩
      simp [evOp_call, T.get_set, g3, g4, f13, f14, f15, hlt, i1, i2, loadE_eq, getC_eq, gth, p1, k1', k2', e10, e11, e20, e21, getsB_succ, getsB_zero, neqWant, hwk]
      exact ⟨⟨k + 1, hkl, by constructor <;> simp [T.get_set, g0, g3, g4, g5], by simp [T.get_set, f13], by simp [T.get_set, f14], by simp [T.get_set], rfl⟩, muAt_lt f15 (by simp [T.get_set]) hkl⟩
    · obtain rfl : k = (hv3 p).length := by omega
      simp [evOp_call, T.get_set, f13, f14, f15, hh.lenS, hwp]
      exact ⟨⟨p + 1, hlt, by constructor <;> simp [T.get_set, g0, g3, g4, g5], by simp [T.get_set], hS5⟩, hmu _ (by simp [T.get_set])⟩
  clear hE hS3
  rintro _ ⟨e, s4, rfl, hE, KB4, hv4, ky4, hS4⟩
  rw [seqC_n]
  obtain ⟨g0, g3, g4, g5⟩ := hE
  simp [evOp_call, T.get_set]
  refine Gd_loop (lgI st (y 0) q a b s0.nx i KB4 hv4 ky4) (fun e _ => muAt 16 6 e) ?_ ?_
  · exact ⟨0, Nat.zero_le _, by constructor <;> simp [T.get_set, g0, g3, g4, g5], by simp [T.get_set], hS4⟩
  clear g0 g3 g4 g5
  rintro e s ⟨key, hkey, ⟨g0, g3, g4, g5⟩, g16, hS⟩
  by_cases hk6 : key < 6
  case neg =>
    obtain rfl : key = 6 := by omega
    simp [evOp_call, T.get_set, g5, g16, hwi]
    exact ⟨⟨i + 1, hlt, by constructor <;> simp [T.get_set, g0, g3, g4, g5], KB4, hv4, ky4, hS⟩, hmu5 _ (by simp [T.get_set])⟩
  have hk6' : (key : Int) < 6 := by omega
  have hwk := wrap_nat (n := key) (by omega)
  simp [evOp_call, T.get_set, g16, hk6']
  refine Gd_loop (lg2 st (y 0) q a b s0.nx i key KB4 hv4 ky4 s) (fun e _ => muAt 18 6 e) ?_ ?_
  · exact ⟨0, .c (.slice none 0 0), Nat.zero_le _, by constructor <;> simp [T.get_set, g0, g3, g4, g5], by simp [T.get_set, g16], by simp [T.get_set], by simp [T.get_set], Ext.refl _ _, OwnRow.nil _ _ _⟩
  have hmu16 : ∀ e' : Env, e'.get 16 = some (.int .i64 ((key + 1 : Nat) : Int)) → muAt 16 6 e' < muAt 16 6 e := fun e' h => muAt_lt g16 h hk6
  clear g0 g3 g4 g5 g16
  rintro e2 s5 ⟨p, w, hp, ⟨g0, g3, g4, g5⟩, g16, g17, g18, x5, hrow⟩
  have hS5 := hS.more x5
  by_cases hp6 : p < 6
  case neg =>
    obtain rfl : p = 6 := by omega
    rw [colP_six hS.cons key] at hrow
    simp [evOp_call, T.get_set, g3, g16, g18, oracF_cons]
    rw [lkG_ne rfl rfl]
    refine Gd.mono (who_G s5 q a b s0.nx KB4 hv4 ky4 hS5.lk key _) ?_
    rintro ⟨g, s6⟩ ⟨hg, x6⟩
    simp only at hg x6
    have hr6 := hrow.rd.ext x6
    simp [evOp_call, T.get_set, g17, hg.lenS, hr6.lenS]
    refine Gd_loop (lg4 (y 0) q s0.nx i key (ky4 key).1.length w g s6) (fun e _ => muAt 21 (ky4 key).1.length e) ?_ ?_
    · exact ⟨0, Nat.zero_le _, by constructor <;> simp [T.get_set, g0, g3, g4, g5], by simp [T.get_set, g16], by simp [T.get_set, g17], by simp [T.get_set], by simp [T.get_set], rfl⟩
    clear g0 g3 g4 g5 g16 g17 g18
    rintro e3 s7 ⟨k, hk, ⟨g0, g3, g4, g5⟩, f16, f17, f20, f21, rfl⟩
    by_cases hkl : k < (ky4 key).1.length
    · have hkl' : (k : Int) < (ky4 key).1.length := by omega
      have hwj := wrap_nat (n := k) (by have := hS.cons.few key; omega)
      obtain ⟨v, hv⟩ : ∃ z, (ky4 key).1[k]? = some z := ⟨_, List.getElem?_eq_getElem hkl⟩
      have c0 : (iv1 (ky4 key).1)[k * 1 + 0]? = some (.int .i64 v) := by simp [iv1, hv]
      obtain ⟨m1, o1, ty1, sz1, tr1, i1, b1, n1, l1, d1⟩ := hg.idx (st := s7) un76 io3 hkl
      obtain ⟨m2, o2, ty2, sz2, tr2, i2, b2, n2, l2, d2⟩ := hr6.idx (st := s7) un76 io3 hkl
      have e1 : tr1.get o1 = some (.int .i64 v) := by simpa using d1 0 _ (by omega) c0
      have e2 : tr2.get o2 = some (.int .i64 v) := by simpa using d2 0 _ (by omega) c0
      simp [evOp_call, T.get_set, f17, f20, f21, hr6.lenS, hkl', hkl]
      refine ⟨by kernel_rfl, ?_⟩
      simp [evOp_call, T.get_set, f17, f20, f21, hkl, i1, i2, loadE_eq, getC_eq, n1, n2, e1, e2, hwj]
      exact ⟨⟨k + 1, hkl, by constructor <;> simp [T.get_set, g0, g3, g4, g5], by simp [T.get_set, f16], by simp [T.get_set, f17], by simp [T.get_set, f20], by simp [T.get_set], rfl⟩, muAt_lt f21 (by simp [T.get_set]) hkl⟩
    · obtain rfl : k = (ky4 key).1.length := by omega
      simp [evOp_call, T.get_set, f16, f17, f20, f21, hr6.lenS, hwk]
      exact ⟨⟨key + 1, hk6, by constructor <;> simp [T.get_set, g0, g3, g4, g5], by simp [T.get_set], hS5.more x6⟩, hmu16 _ (by simp [T.get_set])⟩
  have hp6' : (p : Int) < 6 := by omega
  have hwp := wrap_nat (n := p) (by omega)
  have hmx : (hv4 p).length ≤ 10 := hS.cons.len p
  simp [evOp_call, T.get_set, g18, hp6']
  refine Gd_loop (lg3 st (y 0) q a b s0.nx i key p KB4 hv4 ky4 s) (fun e _ => muAt 19 (hv4 p).length e) ?_ ?_
  · exact ⟨0, w, Nat.zero_le _, by constructor <;> simp [T.get_set, g0, g3, g4, g5], by simp [T.get_set, g16], by simp [T.get_set, g17], by simp [T.get_set, g18], by simp [T.get_set], x5, by rw [colK_zero]; exact hrow⟩
  have hmu18 : ∀ e' : Env, e'.get 18 = some (.int .i64 ((p + 1 : Nat) : Int)) → muAt 18 6 e' < muAt 18 6 e2 := fun e' h => muAt_lt g18 h hp6
  clear g0 g3 g4 g5 g16 g17 g18 hrow x5 hS5
  rintro e3 s7 ⟨k, w, hk, ⟨g0, g3, g4, g5⟩, g16, g17, g18, g19, x7, hrow⟩
  have hS7 := hS.more x7
  obtain ⟨_, _, _, th, gth, hth⟩ := id hS7.hav
  obtain ⟨xp, p1, p2, p3, _⟩ := hth p hp6
  by_cases hkl : k < (hv4 p).length
  case neg =>
    obtain rfl : k = (hv4 p).length := by omega
    rw [colK_all hS.cons] at hrow
    simp [evOp_call, T.get_set, g4, g18, g19, hp6, loadE_eq, getC_eq, gth, p1, p3.lenS, hwp]
    exact ⟨⟨p + 1, w, hp6, by constructor <;> simp [T.get_set, g0, g3, g4, g5], by simp [T.get_set, g16], by simp [T.get_set, g17], by simp [T.get_set], x7, hrow⟩, hmu18 _ (by simp [T.get_set])⟩
  have hkl' : (k : Int) < (hv4 p).length := by omega
  have hwj := wrap_nat (n := k) (by omega)
  obtain ⟨u, hu⟩ : ∃ z, (hv4 p)[k]? = some z := ⟨_, List.getElem?_eq_getElem hkl⟩
  obtain ⟨m1, o1, ty1, sz1, tr1, i1, b1, n1, l1, d1⟩ := p3.idx (st := s7) un164 io170 hkl
  have e10 : tr1.get o1 = some (.int .i64 u.1) := by simpa using d1 0 _ (by omega) (cellsK_get (hv4 p) k u hu).1
  by_cases he : u.1 = key
  · obtain ⟨y1, y2⟩ := colK_yes (ky := ky4) (hS.cons.up p) hu he
    rw [y1] at hrow
    have hcl := colP_len ky4 key p
    simp [evOp_call, T.get_set, g4, g16, g17, g18, g19, hp6, loadE_eq, getC_eq, gth, p1, p3.lenS, hkl, i1, n1, e10, he]
    refine evOp_build1 (v := .int .i64 (p : Int)) (cs := [.int .i64 (p : Int)]) (fun k => el76 k) (fun k => ze3 k) rfl (by decide) (by simp [T.get_set, g18]) (fun k => rfl) rfl ?_
    simp [T.get_set]
    have x8 := (Ext.refl s7.nx s7).new (Nat.le_refl _) (.cs 3 1 (sets [V.int .i64 (p : Int)] 0 .lf))
    refine Gd_append un76 un76 io3 (lx := 1) (new := [.int .i64 (p : Int)]) (hrow.ext x8) (by have := x7.le; show s.nx ≤ s7.nx + 1; omega) (by decide) (fun s' h => by cases h) (fun k => rfl) (fun k => by simp [getC_eq, getsB_1, T.get_set, sets]) rfl (by omega) ?_
    intro w' s8 ho x9 _ _
    simp [evOp_call, T.get_set, g19, hwj]
    refine ⟨⟨k + 1, w', hkl, by constructor <;> simp [T.get_set, g0, g3, g4, g5], by simp [T.get_set, g16], by simp [T.get_set], by simp [T.get_set, g18], by simp [T.get_set], (x7.trans (x8.mono x7.le)).trans x9, ?_⟩, muAt_lt g19 (by simp [T.get_set]) hkl⟩
    rw [y2]
    have e3 : iv1 (colP ky4 key p ++ [(p : Int)]) = iv1 (colP ky4 key p) ++ [V.int .i64 (p : Int)] := by simp [iv1]
    rw [e3, List.length_append]
    exact ho
  · simp [evOp_call, T.get_set, g4, g16, g17, g18, g19, hp6, loadE_eq, getC_eq, gth, p1, p3.lenS, hkl, i1, n1, e10, he, hwj]
    exact ⟨⟨k + 1, w, hkl, by constructor <;> simp [T.get_set, g0, g3, g4, g5], by simp [T.get_set, g16], by simp [T.get_set, g17], by simp [T.get_set, g18], by simp [T.get_set], x7, by rw [colK_no hu he]; exact hrow⟩, muAt_lt g19 (by simp [T.get_set]) hkl⟩
end Go.Proofs.Ytdoennkmcloalaa

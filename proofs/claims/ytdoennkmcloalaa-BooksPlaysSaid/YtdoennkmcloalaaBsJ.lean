/-
  PLAIN: what the law BooksPlays keeps.
-/
import Derived.Test.YtdoennkmcloalaaBsI
set_option linter.unusedSimpArgs false
namespace Go.Proofs.Ytdoennkmcloalaa
open Go.RowKit Ev
abbrev baC := pairC iC (pairC iC (rowC (pairC iC wC)))
abbrev BAct := Int × Int × List (Int × BitVec 64)
def JT (P : Env → St → Prop) (r : X × Env × St) : Prop := ∃ (e : Env) (s : St), r = (.n, e, s) ∧ P e s
def recO (e : RcE) : Option RecW := if e.1 = 0#64 then none else some (e.1, e.2.2)
abbrev nilV : V := .c (.slice none 0 0)
theorem mostW_none : ∀ n, mostW (List.replicate n none) = 0#64
  | 0 => rfl
  | n + 1 => by
    have := mostW_none n
    unfold mostW at this ⊢
    rw [List.replicate_succ, List.foldl_cons]
    exact this
theorem mxW_nat (a b : BitVec 64) : (mxW a b).toNat = if a.toNat < b.toNat then b.toNat else a.toNat := by
  unfold mxW
  by_cases h : a < b
  · rw [if_pos h, if_pos (by rwa [BitVec.lt_def] at h)]
  · rw [if_neg h, if_neg (by rwa [BitVec.lt_def] at h)]
theorem most_ind (H : List (Option RecW)) : ∀ k, k ≤ H.length → (∀ (i : Nat) h, i < k → H[i]? = some h → (hnum h).toNat ≤ (mostW (H.take k)).toNat) ∧ (∀ B, (∀ (i : Nat) h, i < k → H[i]? = some h → (hnum h).toNat ≤ B) → (mostW (H.take k)).toNat ≤ B)
  | 0, _ => ⟨fun i h hi => absurd hi (Nat.not_lt_zero _), fun B _ => by simp [mostW]⟩
  | k + 1, hk => by
    obtain ⟨i1, i2⟩ := most_ind H k (by omega)
    obtain ⟨h0, hh⟩ : ∃ h0, H[k]? = some h0 := ⟨_, List.getElem?_eq_getElem (by omega)⟩
    rw [mostW_take hh, mxW_nat]
    refine ⟨fun i h hi hih => ?_, fun B hB => ?_⟩
    · rcases Nat.lt_succ_iff_lt_or_eq.1 hi with hi | hi
      · have := i1 i h hi hih
        split <;> omega
      · subst hi
        rw [hh] at hih
        injection hih with hih
        subst hih
        split <;> omega
    · have a1 := i2 B fun i h hi => hB i h (by omega)
      have a2 := hB k h0 (Nat.lt_succ_self _) hh
      split <;> omega
structure NumOK (H : List (Option RecW)) (m : BitVec 64) : Prop where
  num : ∀ (i : Nat) r, H[i]? = some (some r) → r.1.toNat ≤ m.toNat
  dis : ∀ (i j : Nat) r r', H[i]? = some (some r) → H[j]? = some (some r') → r.1 = r'.1 → i = j
theorem NumOK.most {H : List (Option RecW)} {m : BitVec 64} (h : NumOK H m) : NumOK H (mostW H) ∧ (mostW H).toNat ≤ m.toNat := by
  obtain ⟨i1, i2⟩ := most_ind H H.length (Nat.le_refl _)
  rw [List.take_length] at i1 i2
  refine ⟨⟨fun i r hi => i1 i _ (lt_of_get hi) hi, h.dis⟩, i2 _ fun i h0 _ hi => ?_⟩
  cases h0 with
  | none => exact Nat.zero_le _
  | some r => exact h.num i r hi
theorem NumOK.off {H : List (Option RecW)} {m : BitVec 64} (h : NumOK H m) (i : Nat) : NumOK (H.set i none) m := by
  have key : ∀ (j : Nat) r, (H.set i none)[j]? = some (some r) → H[j]? = some (some r) := fun j r hj => by
    rw [List.getElem?_set] at hj
    by_cases e : i = j
    · rw [if_pos e] at hj
      split at hj <;> cases hj
    · rwa [if_neg e] at hj
  exact ⟨fun j r hj => h.num j r (key j r hj), fun a b r r' ha hb => h.dis a b r r' (key a r ha) (key b r' hb)⟩
theorem NumOK.on {H : List (Option RecW)} {m : BitVec 64} (h : NumOK H m) (hm : m.toNat ≤ 1000) (i : Nat) (K : List (Int × BitVec 64)) : NumOK (H.set i (some (nextW m, K))) (nextW m) := by
  have hn : (nextW m).toNat = m.toNat + 1 := by
    unfold nextW
    rw [if_neg (fun e => by subst e; simp at hm), BitVec.toNat_add]
    show (m.toNat + 1) % _ = _
    omega
  have key : ∀ (j : Nat) r, (H.set i (some (nextW m, K)))[j]? = some (some r) → (i = j ∧ r.1 = nextW m) ∨ (i ≠ j ∧ H[j]? = some (some r)) := fun j r hj => by
    rw [List.getElem?_set] at hj
    by_cases e : i = j
    · rw [if_pos e] at hj
      split at hj
      · injection hj with hj; injection hj with hj; subst hj; exact .inl ⟨e, rfl⟩
      · cases hj
    · rw [if_neg e] at hj; exact .inr ⟨e, hj⟩
  refine ⟨fun j r hj => ?_, fun a b r r' ha hb e => ?_⟩
  · rcases key j r hj with ⟨_, e⟩ | ⟨_, e⟩
    · rw [e]; exact Nat.le_refl _
    · have := h.num j r e; omega
  · rcases key a r ha with ⟨e1, e2⟩ | ⟨e1, e2⟩ <;> rcases key b r' hb with ⟨e3, e4⟩ | ⟨e3, e4⟩
    · omega
    · have := h.num b r' e4; rw [← e, e2] at this; omega
    · have := h.num a r e2; rw [e, e4] at this; omega
    · exact h.dis a b r r' e2 e4 e
theorem next_toNat {m : BitVec 64} (hm : m.toNat ≤ 1000) : (nextW m).toNat = m.toNat + 1 := by
  unfold nextW
  rw [if_neg (fun e => by subst e; simp at hm), BitVec.toNat_add]
  show (m.toNat + 1) % _ = _
  omega
theorem next_succ {m : BitVec 64} (hm : m.toNat ≤ 1000) : nextW m + 1#64 = nextW (nextW m) := by
  have h := next_toNat hm
  rw [nextW.eq_def (nextW m), if_neg (fun e => by rw [e] at h; simp at h; omega)]
theorem next_ne {m : BitVec 64} (hm : m.toNat ≤ 1000) : ¬ nextW m = 0#64 := fun e => by
  have h := next_toNat hm
  rw [e] at h
  simp at h
theorem NumOK.takes {H : List (Option RecW)} {m : BitVec 64} (h : NumOK H m) {k : Nat} (hk : k ≤ H.length) : (mostW (H.take k)).toNat ≤ m.toNat :=
  (most_ind H k hk).2 _ fun j h0 _ hj => by
    cases h0 with
    | none => exact Nat.zero_le _
    | some r => exact h.num j r hj
theorem max_ge {M a : BitVec 64} (hM : M.toNat ≤ 1000) (ha : a.toNat ≤ 1000) (h : nextW M ≤ a) : a + 1#64 = nextW (mxW M a) := by
  have h1 := next_toNat hM
  rw [BitVec.le_def, h1] at h
  have e : mxW M a = a := by unfold mxW; rw [if_pos (by rw [BitVec.lt_def]; omega)]
  rw [e]
  unfold nextW
  rw [if_neg (fun e => by subst e; simp at ha)]
theorem max_not {M a : BitVec 64} (hM : M.toNat ≤ 1000) (h : ¬ nextW M ≤ a) : mxW M a = M := by
  have h1 := next_toNat hM
  rw [BitVec.le_def, h1] at h
  unfold mxW
  rw [if_neg (by rw [BitVec.lt_def]; omega)]
def lastN (A : List RcE) : Nat → BitVec 64
  | 0 => 0#64
  | k + 1 => (A[k]?.getD (0#64, .u, [])).1
structure BpC (st : St) (q n : Nat) (x : V) (mh p : Nat) (z : V) (v : MV) (m : BitVec 64) (E : List RcE) (s : St) : Prop where
  live : MLive st s q v
  bs : BsAt s q v p z n m
  row : RowAp s q v x 4 n (bkRow q n)
  rc : RcB s mh E
  each : ∀ e ∈ E, RdRow s e.2.1 2 e.2.2.length (iw e.2.2) ∧ e.2.2.length ≤ 20 ∧ ∀ k, Nm e.2.1 k → ¬ MOw q v k ∧ k ≠ p ∧ k ≠ mh
  len : E.length = n
  h1 : ¬ MOw q v mh
  h2 : mh ≠ p
  h3 : ¬ Nm x mh
  h4 : ¬ Nm z mh
  h5 : st.nx ≤ mh
  hp : st.nx ≤ p
  xp : ¬ Nm x p
theorem BpC.more {st : St} {q n : Nat} {x : V} {mh p : Nat} {z : V} {v : MV} {m : BitVec 64} {E : List RcE} {s s' : St} (h : BpC st q n x mh p z v m E s) (k : Ext s.nx s s') : BpC st q n x mh p z v m E s' :=
  ⟨h.live.more k, h.bs.more k, h.row.more k, h.rc.ext k, fun e he => ⟨(h.each e he).1.ext k, (h.each e he).2⟩, h.len, h.h1, h.h2, h.h3, h.h4, h.h5, h.hp, h.xp⟩
theorem RcB.moved {s s' : St} {m : Nat} {E : List RcE} (h : RcB s m E) (hle : s.nx ≤ s'.nx) (hk : s'.h.get m = s.h.get m) : RcB s' m E := by
  obtain ⟨h1, ty, t, h2, h3⟩ := h
  exact ⟨Nat.lt_of_lt_of_le h1 hle, ty, t, hk.trans h2, h3⟩
theorem BsStep.get {s s' : St} {q p : Nat} {v v' : MV} (k : BsStep q p v v' s s') {j : Nat} (hj : j < s.nx) (h1 : ¬ MOw q v j) (h2 : j ≠ p) : s'.h.get j = s.h.get j := by
  obtain ⟨s1, k1, rfl | ⟨t, rfl⟩⟩ := k
  · exact k1.kept.keep j hj h1
  · exact (T.get_set_ne _ _ (fun e => h2 e.symm)).trans (k1.kept.keep j hj h1)
theorem BsStep.no {s s' : St} {q p : Nat} {v v' : MV} (k : BsStep q p v v' s s') {j : Nat} (hj : j < s.nx) (h1 : ¬ MOw q v j) : ¬ MOw q v' j := by
  obtain ⟨s1, k1, _⟩ := k
  exact k1.not_own h1 hj
theorem BpC.step {st : St} {q n : Nat} {x : V} {mh p : Nat} {z : V} {v v' : MV} {m m' : BitVec 64} {E : List RcE} {s s' : St} (h : BpC st q n x mh p z v m E s) (k : BsStep q p v v' s s') (hb : BsAt s' q v' p z n m') : BpC st q n x mh p z v' m' E s' := by
  refine ⟨h.live.bs k h.bs.no h.hp h.bs.lt, hb, h.row.bs k h.xp, h.rc.moved k.le (k.get h.rc.1 h.h1 h.h2), fun e he => ?_, h.len, k.no h.rc.1 h.h1, h.h2, h.h3, h.h4, h.h5, h.hp, h.xp⟩
  obtain ⟨f1, f2, f3⟩ := h.each e he
  exact ⟨f1.other k.le fun j hj => k.get (f1.nm_lt hj) (f3 j hj).1 (f3 j hj).2.1, f2, fun j hj => ⟨k.no (f1.nm_lt hj) (f3 j hj).1, (f3 j hj).2⟩⟩
theorem BsAt.pokeO {s : St} {q p n : Nat} {v : MV} {z : V} {m : BitVec 64} (h : BsAt s q v p z n m) {j : Nat} (h1 : j ≠ p) (h2 : ¬ Nm z j) (t : B) : BsAt ⟨s.nx, s.h.set j t⟩ q v p z n m := by
  obtain ⟨t0, k1, k2, k3⟩ := h.blk
  exact ⟨h.lt, h.no, ⟨t0, (T.get_set_ne _ _ h1).trans k1, k2, k3⟩, h.row.poke h2 t, h.ne⟩
theorem BpC.put {st : St} {q n : Nat} {x : V} {mh p : Nat} {z : V} {v : MV} {m : BitVec 64} {E : List RcE} {s : St} (h : BpC st q n x mh p z v m E s) {i : Nat} (hi : i < n) {a : BitVec 64} {w : V} {K : List (Int × BitVec 64)} (hw : RdRow s w 2 K.length (iw K)) (hK : K.length ≤ 20) (hn : ∀ k, Nm w k → ¬ MOw q v k ∧ k ≠ p ∧ k ≠ mh) {ty : Nat} {t : T V} (hg : s.h.get mh = some (.cs ty (E.length * 2) t)) :
    BpC st q n x mh p z v m (E.set i (a, w, K)) ⟨s.nx, s.h.set mh (.cs ty (E.length * 2) ((t.set (i * 2) (wd a)).set (i * 2 + 1) w))⟩ := by
  have hiE : i < E.length := by rw [h.len]; exact hi
  have keep : ∀ j, j ≠ mh → (s.h.set mh (.cs ty (E.length * 2) ((t.set (i * 2) (wd a)).set (i * 2 + 1) w))).get j = s.h.get j := fun j hj => T.get_set_ne _ _ (fun e => hj e.symm)
  refine ⟨h.live.poke h.h1 h.h5 h.rc.1 _, h.bs.pokeO h.h2 h.h4 _, h.row.poke h.h3 _, ?_, fun e he => ?_, by rw [List.length_set]; exact h.len, h.h1, h.h2, h.h3, h.h4, h.h5, h.hp, h.xp⟩
  · obtain ⟨r1, ty', t', r2, r3, r4⟩ := h.rc
    rw [hg] at r2
    injection r2 with r2
    injection r2 with r2 r5 r6
    subst r2
    subst r6
    refine ⟨r1, ty, _, by rw [List.length_set]; exact T.get_set_same _ _ _, r3, rc_put r4 hiE hw.one⟩
  · have hor := List.mem_or_eq_of_mem_set he
    rcases hor with he | rfl
    · obtain ⟨f1, f2, f3⟩ := h.each e he
      exact ⟨f1.other (Nat.le_refl _) fun j hj => keep j (f3 j hj).2.2, f2, f3⟩
    · exact ⟨hw.other (Nat.le_refl _) fun j hj => keep j (hn j hj).2.2, hK, hn⟩
structure BpH (v : MV) (n : Nat) (m : BitVec 64) (H : List (Option RecW)) (E : List RcE) : Prop where
  sh : Shelf n (absV v) H
  hE : E.map recO = H
  num : NumOK H m
theorem BpH.at' {v : MV} {n : Nat} {m : BitVec 64} {H : List (Option RecW)} {E : List RcE} (h : BpH v n m H E) {i : Nat} {a : RcE} (hi : E[i]? = some a) : H[i]? = some (recO a) := by
  rw [← h.hE, List.getElem?_map, hi]; rfl
theorem BpH.hn {v : MV} {n : Nat} {m : BitVec 64} {H : List (Option RecW)} {E : List RcE} (h : BpH v n m H E) {i : Nat} {a : RcE} (hi : E[i]? = some a) : ∃ r, H[i]? = some r ∧ hnum r = a.1 := by
  refine ⟨_, h.at' hi, ?_⟩
  unfold recO
  by_cases e : a.1 = 0#64
  · rw [if_pos e, e]; rfl
  · rw [if_neg e]; rfl
structure BpE (n : Nat) (x y0 : V) (q mh p : Nat) (m : BitVec 64) (i : Nat) (e : Env) : Prop where
  g0 : e.get 0 = some (.int .i64 (n : Int))
  g1 : e.get 1 = some y0
  g5 : e.get 5 = some x
  g6 : e.get 6 = some (.p q 0)
  g7 : e.get 7 = some (.p p 0)
  g9 : e.get 9 = some (.sl mh 0 n n)
  g10 : e.get 10 = some (wd (nextW m))
  g11 : e.get 11 = some (.int .i64 (i : Int))
def bpJ (st : St) (n : Nat) (x y0 : V) (q mh i b : Nat) (e : Env) (s : St) : Prop := ∃ p z v m H E, BpE n x y0 q mh p m i e ∧ BpC st q n x mh p z v m E s ∧ BpH v n m H E ∧ m.toNat ≤ b
theorem rwE_rep (a : BitVec 64) (w : V) (K : List (Int × BitVec 64)) : ∀ n, rwE (List.replicate n (a, w, K)) = rep [wd a, w] n
  | 0 => rfl
  | n + 1 => by
    rw [List.replicate_succ]
    show [wd a, w] ++ rwE (List.replicate n (a, w, K)) = _
    rw [rwE_rep a w K n]; rfl
theorem RcB.rowL {st : St} {m n : Nat} {E : List RcE} (h : RcB st m E) (hn : E.length = n) : RdRow st (.sl m 0 n n) 2 E.length (rwE E) := by
  obtain ⟨h1, ty, t, h2, h3, h4⟩ := h
  subst hn
  refine ⟨rwE_length E, .inr (.inl ⟨m, 0, E.length, ty, _, t, rfl, h1, h2, by omega, fun j v hj => ?_⟩)⟩
  have hjl := lt_of_get hj
  rw [rwE_length] at hjl
  obtain ⟨r, hr⟩ : ∃ r, E[j / 2]? = some r := ⟨_, List.getElem?_eq_getElem (by omega)⟩
  obtain ⟨a0, a1⟩ := rwE_at E (j / 2) r hr
  obtain ⟨b0, b1, _⟩ := h4 _ _ hr
  rcases Nat.mod_two_eq_zero_or_one j with e | e
  · rw [show j = j / 2 * 2 by omega] at hj ⊢
    rw [a0] at hj; injection hj with hj; subst hj
    simpa using b0
  · rw [show j = j / 2 * 2 + 1 by omega] at hj ⊢
    rw [a1] at hj; injection hj with hj; subst hj
    simpa using b1
/-- an act, copied -/
structure ActAt (s : St) (q : Nat) (v : MV) (p mh a : Nat) (op c : Int) (w : V) : Prop where
  lt : a < s.nx
  no : ¬ MOw q v a
  np : a ≠ p
  nm : a ≠ mh
  blk : ∃ t, s.h.get a = some (.cs 150 3 t) ∧ t.get 0 = some (.int .i64 op) ∧ t.get 1 = some (.int .i64 c) ∧ t.get 2 = some w
theorem ActAt.more {s s' : St} {q : Nat} {v : MV} {p mh a : Nat} {op c : Int} {w : V} (h : ActAt s q v p mh a op c w) (k : Ext s.nx s s') : ActAt s' q v p mh a op c w := by
  obtain ⟨t, k1, k2⟩ := h.blk
  exact ⟨Nat.lt_of_lt_of_le h.lt k.le, h.no, h.np, h.nm, t, (k.keep a h.lt).trans k1, k2⟩
theorem ActAt.step {s s' : St} {q : Nat} {v v' : MV} {p mh a : Nat} {op c : Int} {w : V} (h : ActAt s q v p mh a op c w) (k : BsStep q p v v' s s') : ActAt s' q v' p mh a op c w := by
  obtain ⟨t, k1, k2⟩ := h.blk
  exact ⟨Nat.lt_of_lt_of_le h.lt k.le, k.no h.lt h.no, h.np, h.nm, t, (k.get h.lt h.no h.np).trans k1, k2⟩
/-- who has one -/
theorem heldL_at (H : List (Option RecW)) {k : Nat} {r : RecW} (hk : H[k]? = some (some r)) : ∀ n, k < n → (heldL H n)[(heldL H k).length]? = some (k : Int)
  | 0, h => absurd h (Nat.not_lt_zero _)
  | n + 1, h => by
    rcases Nat.lt_succ_iff_lt_or_eq.1 h with h | rfl
    · have ih := heldL_at H hk n h
      show (heldL H n ++ _)[(heldL H k).length]? = _
      rw [List.getElem?_append_left (lt_of_get ih)]
      exact ih
    · rw [heldL_some hk, List.getElem?_append_right (Nat.le_refl _), Nat.sub_self]; rfl
theorem heldL_len (H : List (Option RecW)) : ∀ k, k ≤ H.length → (heldL H k).length = ((H.take k).filterMap id).length
  | 0, _ => rfl
  | k + 1, h => by
    obtain ⟨h0, hh⟩ : ∃ h0, H[k]? = some h0 := ⟨_, List.getElem?_eq_getElem (by omega)⟩
    rw [filt_take hh, List.length_append, ← heldL_len H k (by omega)]
    cases h0 with
    | none => rw [heldL_none hh]; rfl
    | some r => rw [heldL_some hh, List.length_append]; rfl
/-- numbers that differ, in order -/
theorem nums_nodup {H : List (Option RecW)} {m : BitVec 64} (h : NumOK H m) : ((H.filterMap id).map Prod.fst).Nodup := by
  rw [List.nodup_iff_pairwise_ne, List.pairwise_map, List.pairwise_filterMap, List.pairwise_iff_getElem]
  intro i j hi hj hij b hb b' hb' e
  have := h.dis i j b b' (by rw [List.getElem?_eq_getElem hi]; exact congrArg some hb) (by rw [List.getElem?_eq_getElem hj]; exact congrArg some hb') e
  omega
theorem all_lt {H : List (Option RecW)} {m : BitVec 64} (h : NumOK H m) {E : List RcE} (hp : (E.map recOf).Perm (H.filterMap id)) (hs : Srt E E.length) {i j : Nat} {a b : RcE} (hij : i < j) (ha : E[i]? = some a) (hb : E[j]? = some b) : a.1.toNat < b.1.toNat := by
  have hj := lt_of_get hb
  have hi := lt_of_get ha
  have nd : ((E.map recOf).map Prod.fst).Nodup := (hp.map Prod.fst).nodup_iff.2 (nums_nodup h)
  have h1 := hs i j hij hj
  unfold ky at h1
  rw [ha, hb] at h1
  have hne : a.1 ≠ b.1 := fun e => by
    rw [List.nodup_iff_pairwise_ne, List.pairwise_iff_getElem] at nd
    have := nd i j (by simpa using hi) (by simpa using hj) hij
    rw [List.getElem?_eq_getElem hi] at ha
    rw [List.getElem?_eq_getElem hj] at hb
    injection ha with ha
    injection hb with hb
    simp [recOf, ha, hb, e] at this
  have h2 : a.1.toNat ≠ b.1.toNat := fun e => hne (BitVec.eq_of_toNat_eq e)
  simp at h1
  omega
theorem last_lt {n : Nat} {v : MV} {m : BitVec 64} {H : List (Option RecW)} {E : List RcE} (h : BpH v n m H E) {A : List RcE} (hp : (A.map recOf).Perm (H.filterMap id)) (hs : Srt A A.length) {k : Nat} {a : RcE} (ha : A[k]? = some a) : ¬ a.1 ≤ lastN A k ∧ ∃ j : Nat, H[j]? = some (some (recOf a)) := by
  have hmem : recOf a ∈ H.filterMap id := hp.mem_iff.1 (List.mem_map_of_mem (List.mem_of_getElem? ha))
  obtain ⟨o, ho, ho2⟩ := List.mem_filterMap.1 hmem
  have ho2 : o = some (recOf a) := ho2
  subst ho2
  obtain ⟨j, hj⟩ := List.getElem?_of_mem ho
  refine ⟨fun e => ?_, j, hj⟩
  rw [BitVec.le_def] at e
  cases k with
  | zero =>
    have h0 : (h.sh.bk j _ hj).2.1.1 = (h.sh.bk j _ hj).2.1.1 := rfl
    have hne : (recOf a).1 ≠ 0#64 := (h.sh.bk j _ hj).2.1.1
    have e : a.1.toNat ≤ 0 := e
    exact hne (BitVec.eq_of_toNat_eq (by show a.1.toNat = 0; omega))
  | succ k =>
    have hk := lt_of_get ha
    obtain ⟨b, hb⟩ : ∃ b, A[k]? = some b := ⟨_, List.getElem?_eq_getElem (by omega)⟩
    have := all_lt h.num hp hs (Nat.lt_succ_self k) hb ha
    have e : a.1.toNat ≤ ((A[k]?.getD (0#64, .u, [])).1).toNat := e
    rw [hb] at e
    simp at e
    omega
theorem clash_row {e : Env} {t : Nat} {w : V} {s : St} {z n mh : Nat} {l : List V} (hg : e.get t = some w) (hr : RdRow s w z n l) (hn : ∀ m, Nm w m → ¬ m = mh) : clashes e [(mh, mh + 1)] (.tmp t) = false := by
  rw [clashes_tmp', hg]
  have one : ∀ m, ¬ m = mh → inF [(mh, mh + 1)] m = false := fun m hm => by
    rw [inF_cons, if_neg (by omega)]; rfl
  rcases hr with ⟨_, ⟨rfl | rfl, _⟩ | ⟨m, o, q, ty, sz, t, rfl, _⟩ | ⟨m, o, ty, sz, t, rfl, _⟩⟩
  · rfl
  · rfl
  · exact one m (hn m (.inr ⟨_, _, _, rfl⟩))
  · exact one m (hn m (.inl ⟨_, _, _, rfl⟩))
end Go.Proofs.Ytdoennkmcloalaa

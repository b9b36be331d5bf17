/-
  PLAIN: Ins, Inj, Ink, in one text.
-/
import Derived.Test.YtcjddojcfdeflaaEx
import Derived.Test.YtcjddojcfdeflaaMid
set_option linter.unusedSimpArgs false
set_option linter.unusedVariables false
namespace Go.Proofs.Ytcjddojcfdeflaa.Ev
open Go.RowKit
mutual
theorem Rel.down {ρ ρ' : Rho} (hρ : ρ.le ρ') : ∀ (v : V) (y x : Value), Rel ρ v y → Rel ρ' v x → Rel ρ v x
  | .c _, _, _, _, h => by simpa [Rel] using h
  | .s _, _, _, _, h => by simpa [Rel] using h
  | .p .., _, _, g, h => by simp only [Rel] at g h ⊢; obtain ⟨r, h1, h2⟩ := h; obtain ⟨r', g1, _⟩ := g; have := hρ _ _ g1; rw [h1] at this; injection this with this; subst this; exact ⟨r, g1, h2⟩
  | .sl .., _, _, g, h => by simp only [Rel] at g h ⊢; obtain ⟨r, h1, h2⟩ := h; obtain ⟨r', g1, _⟩ := g; have := hρ _ _ g1; rw [h1] at this; injection this with this; subst this; exact ⟨r, g1, h2⟩
  | .sg .., _, _, g, h => by simp only [Rel] at g h ⊢; obtain ⟨r, h1, h2⟩ := h; obtain ⟨r', g1, _⟩ := g; have := hρ _ _ g1; rw [h1] at this; injection this with this; subst this; exact ⟨r, g1, h2⟩
  | .e, _, _, _, h => by simpa [Rel] using h
  | .m .., _, _, g, h => by simp only [Rel] at g h ⊢; obtain ⟨r, h1, h2⟩ := h; obtain ⟨r', g1, _⟩ := g; have := hρ _ _ g1; rw [h1] at this; injection this with this; subst this; exact ⟨r, g1, h2⟩
  | .f fn a b, _, _, g, h => by
    simp only [Rel] at g h ⊢
    obtain ⟨a', b', h1, h2, h3⟩ := h
    obtain ⟨a2, b2, _, g2, g3⟩ := g
    exact ⟨a', b', h1, RelL.down hρ a a2 a' g2 h2, RelL.down hρ b b2 b' g3 h3⟩
  | .g l, _, _, g, h => by
    simp only [Rel] at g h ⊢
    obtain ⟨l', h1, h2, h3⟩ := h
    obtain ⟨l2, _, g2, _⟩ := g
    exact ⟨l', h1, RelL.down hρ l l2 l' g2 h2, h3⟩
  | .t l, _, _, g, h => by
    simp only [Rel] at g h ⊢
    obtain ⟨l', h1, h2⟩ := h
    obtain ⟨l2, _, g2⟩ := g
    exact ⟨l', h1, RelL.down hρ l l2 l' g2 h2⟩
theorem RelL.down {ρ ρ' : Rho} (hρ : ρ.le ρ') : ∀ (v : List V) (y x : List Value), RelL ρ v y → RelL ρ' v x → RelL ρ v x
  | [], _, _, _, h => by simpa [RelL] using h
  | v :: vs, _, _, g, h => by
    simp only [RelL] at g h ⊢
    obtain ⟨x, xs, h1, h2, h3⟩ := h
    obtain ⟨y, ys, _, g2, g3⟩ := g
    exact ⟨x, xs, h1, Rel.down hρ v y x g2 h2, RelL.down hρ vs ys xs g3 h3⟩
end
theorem RelE.down {ρ ρ' : Rho} (hρ : ρ.le ρ') {x : MEnt} {y z : MapEntry} (g : RelE ρ x y) (h : RelE ρ' x z) : RelE ρ x z := ⟨Rel.down hρ _ _ _ g.1 h.1, Rel.down hρ _ _ _ g.2.1 h.2.1, h.2.2⟩
theorem MRel.down {ρ ρ' : Rho} (hρ : ρ.le ρ') : ∀ {l : List MEnt} {es fs : List MapEntry}, MRel ρ l es → MRel ρ' l fs → MRel ρ l fs
  | [], [], [], _, _ => trivial
  | _ :: _, _ :: _, _ :: _, g, h => ⟨RelE.down hρ g.1 h.1, MRel.down hρ g.2 h.2⟩
  | [], _ :: _, _, g, _ => g.elim
  | _ :: _, [], _, g, _ => g.elim
  | [], [], _ :: _, _, h => h.elim
  | _ :: _, _ :: _, [], _, h => h.elim
theorem Blk.down {ρ ρ' : Rho} (hρ : ρ.le ρ') {b : B} {r : R} {w w' : World} (g : Blk ρ b r w) (h : Blk ρ' b r w') : Blk ρ b r w' := by
  cases b with
  | cs ty sz t =>
    obtain ⟨_, _, _, _, _, _, _, g5⟩ := g
    obtain ⟨ty', cells, fr, h1, h2, h3, h4, h5⟩ := h
    exact ⟨ty', cells, fr, h1, h2, h3, h4, fun i v hv => by
      obtain ⟨_, _, y, _, g9⟩ := g5 i v hv
      obtain ⟨h6, h7, x, h8, h9⟩ := h5 i v hv
      exact ⟨h6, h7, x, h8, Rel.down hρ _ _ _ g9 h9⟩⟩
  | it l pos => exact h
  | mp l clock => obtain ⟨_, _, g2⟩ := g; obtain ⟨es, h1, h2⟩ := h; exact ⟨es, h1, MRel.down hρ g2 h2⟩
  | _ => trivial
/-- the row with a part put in -/
def insL (q : Nat) (old new : List V) : List V := old.take q ++ (new ++ old.drop q)
theorem insL_length {q : Nat} {old new : List V} (h : q ≤ old.length) : (insL q old new).length = old.length + new.length := by
  simp [insL]; omega
theorem mem_insL {q : Nat} {old new : List V} {a : V} (h : a ∈ insL q old new) : a ∈ old ∨ a ∈ new := by
  simp only [insL, List.mem_append] at h
  rcases h with h | h | h
  · exact .inl (List.mem_of_mem_take h)
  · exact .inr h
  · exact .inl (List.mem_of_mem_drop h)
noncomputable def insK (z : Nat) (c : Cx) (st : St) (m n i b o k : Nat) : Res := match c.all with
  | false => (match Nat.ble c.wb m, Nat.ble i n, Nat.beq m b, Nat.blt 0 k, Nat.ble (n + k) 1048576, Nat.blt 0 z with
    | true, true, false, true, true, true => getB c st m fun x => getB c st b fun y => (match x, y with
      | .cs ty sz tr, .cs ty' sz' tr' => (match Nat.ble (n * z) sz, Nat.beq ty roT, Nat.beq ty' roT || Nat.beq ty' unT, Nat.blt 0 sz' with
        | true, false, false, true => getsB tr (n * z) 0 fun old => getsB tr' (k * z) o fun new => forceL (insL (i * z) old new) fun l => fn l.length fun ln => setsK l 0 .lf fun t =>
          st.h.setK m .gone fun h => h.setK st.nx (.cs unT ln t) fun h => fn (st.nx + 2) fun nx => fn (n + k) fun nk => some (.sg st.nx 0 nk z, ⟨nx, h⟩)
        | _, _, _, _ => none)
      | _, _ => none)
    | _, _, _, _, _, _ => none)
  | true => none
/-- calls of f are answered so, where a row of unknown room comes in -/
noncomputable def insF (F : CallF) (f z : Nat) : CallF := fun c g args st => match Nat.beq g f with
  | true => (match args with
    | [.sg m 0 n z', .c (.int .i64 (.ofNat i)), .sl b o k _] => (match Nat.beq z' z with
      | true => insK z c st m n i b o k
      | false => F c g args st)
    | _ => F c g args st)
  | false => F c g args st
theorem insF_ne (F : CallF) {f z g : Nat} (h : Nat.beq g f = false) (c : Cx) (args : List V) (st : St) : insF F f z c g args st = F c g args st := by unfold insF; rw [h]
/-- what a call for a row of so much room comes to -/
structure InsR (st : St) (m n k cap ty z s0 : Nat) (L : List V) (r : V × St) : Prop where
  le : st.nx ≤ r.2.nx
  nx : r.2.nx ≤ st.nx + 2
  keep : ∀ p, p < st.nx → p ≠ m → r.2.h.get p = st.h.get p
  out : (n + k ≤ cap ∧ r.1 = .sl m 0 (n + k) cap ∧ ∃ tr, r.2.h.get m = some (.cs ty s0 tr) ∧ ∀ j a, L[j]? = some a → tr.get j = some a) ∨
    ∃ q ty2 sz2 tr, st.nx ≤ q ∧ q < r.2.nx ∧ r.1 = .sg q 0 (n + k) z ∧ r.2.h.get q = some (.cs ty2 sz2 tr) ∧ ty2 ≠ roT ∧ (n + k) * z ≤ sz2 ∧ ∀ j a, L[j]? = some a → tr.get j = some a
def InsC (F : CallF) (f z : Nat) : Prop := ∀ (wb nt : Nat) (st : St) (m n i b o k q cap ty s0 ty' sz' : Nat) (tr tr' : T V) (old new : List V), m < st.nx → b < st.nx → wb ≤ m → i ≤ n → m ≠ b → 0 < k → n + k ≤ 1048576 → n ≤ cap →
  cap * z ≤ s0 → st.h.get m = some (.cs ty s0 tr) → ty ≠ roT → st.h.get b = some (.cs ty' sz' tr') → ty' ≠ roT → ty' ≠ unT → 0 < sz' → old.length = n * z → (∀ j a, old[j]? = some a → tr.get j = some a) → new.length = k * z → (∀ j a, new[j]? = some a → tr'.get (o + j) = some a) →
  old.all V.one = true → new.all V.one = true → Gd (F ⟨false, [], wb, nt⟩ f [.sl m 0 n cap, .int .i64 (i : Int), .sl b o k q] st) (InsR st m n k cap ty z s0 (insL (i * z) old new))
theorem insK_inv {z : Nat} {c : Cx} {st : St} {m n i b o k : Nat} {r : V × St} (h : insK z c st m n i b o k = some r) :
    c.all = false ∧ c.ok m = true ∧ c.ok b = true ∧ c.wb ≤ m ∧ i ≤ n ∧ m ≠ b ∧ 0 < k ∧ n + k ≤ 1048576 ∧ 0 < z ∧ ∃ ty sz tr ty' sz' tr' old new, n * z ≤ sz ∧ st.h.get m = some (.cs ty sz tr) ∧ ty ≠ roT ∧ st.h.get b = some (.cs ty' sz' tr') ∧ ty' ≠ roT ∧ ty' ≠ unT ∧ 0 < sz' ∧
      old.length = n * z ∧ (∀ j a, old[j]? = some a → tr.get j = some a) ∧ new.length = k * z ∧ (∀ j a, new[j]? = some a → tr'.get (o + j) = some a) ∧
      r = (.sg st.nx 0 (n + k) z, ⟨st.nx + 2, (st.h.set m .gone).set st.nx (.cs unT (insL (i * z) old new).length (sets (insL (i * z) old new) 0 .lf))⟩) := by
  unfold insK at h
  split at h
  case h_2 => cases h
  rename_i c1
  split at h
  case h_2 => cases h
  rename_i d1 d2 d3 d4 d5 d6
  obtain ⟨x, x1, x2, hA⟩ := getB_inv h
  clear h
  obtain ⟨y, y1, y2, h⟩ := getB_inv hA
  clear hA
  split at h
  case h_2 => cases h
  rename_i ty sz tr ty' sz' tr'
  split at h
  case h_2 => cases h
  rename_i e1 e2 e3 e4
  obtain ⟨old, h, o1, o2⟩ := getsB_inv h
  obtain ⟨new, h, n1, n2⟩ := getsB_inv h
  rw [forceL_eq, fn_eq, setsK_eq, T.setK_eq, T.setK_eq, fn_eq, fn_eq] at h
  have e1' := Nat.le_of_ble_eq_true e1
  simp only [Bool.or_eq_false_iff, nbeq, decide_eq_false_iff_not] at e3 e2 d3
  rw [Nat.ble_eq] at d1 d2 d5
  rw [Nat.blt_eq] at d4 d6 e4
  refine ⟨c1, x1, y1, d1, d2, d3, d4, d5, d6, ty, sz, tr, ty', sz', tr', old, new, e1', x2, e2, y2, e3.1, e3.2, e4, o1, fun j a e => by simpa using o2 j a e, n1, n2, ?_⟩
  injection h with h
  exact h.symm
theorem insF_sound {P : Program} {F F' : CallF} {f z : Nat} (hF' : CallSound P F' ∧ HasBody P F') (hc : InsC F' f z) (hb : ∃ fn b, P.funcs[f]? = some fn ∧ fn.body = some b) (h : CallSound P F ∧ HasBody P F) : CallSound P (insF F f z) ∧ HasBody P (insF F f z) := by
  constructor
  · intro c g args st v st' h' hwf
    unfold insF at h'
    split at h'
    case h_2 => exact h.1 _ _ _ _ _ _ h' hwf
    rename_i hg
    have hg := Nat.eq_of_beq_eq_true hg
    subst hg
    split at h'
    case h_2 => exact h.1 _ _ _ _ _ _ h' hwf
    rename_i m n z' i b o k q
    split at h'
    case h_2 => exact h.1 _ _ _ _ _ _ h' hwf
    rename_i hz
    have hz := Nat.eq_of_beq_eq_true hz
    subst hz
    obtain ⟨c1, ok1, ok2, d1, d2, d3, d4, d5, d6, ty, sz, tr, ty', sz', tr', old, new, m0, m1, m2, b1, b2, b3, b4, o1, o2, n1, n2, hr⟩ := insK_inv h'
    obtain ⟨call, cl, wb, nt⟩ := c
    simp only at c1 d1
    subst c1
    simp only [Prod.mk.injEq] at hr
    obtain ⟨rfl, rfl⟩ := hr
    have hm : m < st.nx := by
      rcases Nat.lt_or_ge m st.nx with h | h
      · exact h
      · rw [hwf m h] at m1; cases m1
    have hbx : b < st.nx := by
      rcases Nat.lt_or_ge b st.nx with h | h
      · exact h
      · rw [hwf b h] at b1; cases b1
    have hL : (insL (i * z') old new).length = (n + k) * z' := by
      rw [insL_length (by rw [o1]; exact Nat.mul_le_mul_right _ d2), o1, n1, Nat.add_mul]
    have get' : ∀ p, ((st.h.set m .gone).set st.nx (.cs unT (insL (i * z') old new).length (sets (insL (i * z') old new) 0 .lf))).get p = if p = st.nx then some (.cs unT (insL (i * z') old new).length (sets (insL (i * z') old new) 0 .lf)) else if p = m then some .gone else st.h.get p := fun p => by
      rw [T.get_set, T.get_set]
      by_cases h1 : st.nx = p
      · rw [if_pos h1, if_pos h1.symm]
      · rw [if_neg h1, if_neg (show ¬ p = st.nx from fun e => h1 e.symm)]
        by_cases h2 : m = p
        · rw [if_pos h2, if_pos h2.symm]
        · rw [if_neg h2, if_neg (show ¬ p = m from fun e => h2 e.symm)]
    refine ⟨⟨Nat.le_add_right _ _, fun p hp hne => ?_, fun _ p hp => ?_, fun p hp hne b' hb' => ?_⟩, fun B0 ρ τ w vs hvs hag hre hfr RR hR => ?_⟩
    · simp only [get'] at hne ⊢
      rw [if_neg (by omega)] at hne ⊢
      by_cases e : p = m
      · subst e; rw [if_pos rfl]; exact ⟨ok1, by rw [m1]; simp, by simp, d1⟩
      · rw [if_neg e] at hne; exact absurd rfl hne
    · simp only [get']
      have hp' : st.nx + 2 ≤ p := hp
      rw [if_neg (by omega), if_neg (by omega)]; exact hwf p (by omega)
    · simp only [get'] at hne
      rw [if_neg (by omega)] at hne
      by_cases e : p = m
      · subst e; rw [m1] at hb'; injection hb' with hb'; subst hb'; exact m2
      · rw [if_neg e] at hne; exact absurd rfl hne
    · have τm := hag m _ ok1 m1
      have τb := hag b _ ok2 b1
      obtain ⟨x1, xs, rfl, r1, hxs⟩ := (show ∃ x xs, vs = x :: xs ∧ Rel ρ (.sg m 0 n z') x ∧ RelL ρ [.c (.int .i64 (.ofNat i)), .sl b o k q] xs by simpa only [RelL] using hvs)
      simp only [Rel] at r1
      obtain ⟨r, hr, _, hle, rfl⟩ := r1
      let cap := (r.size - 0) / z'
      have hcz : cap * z' ≤ r.size := Nat.le_trans (Nat.div_mul_le_self _ _) (Nat.sub_le _ _)
      let st2 : St := ⟨st.nx, ((T.lf : T B).set b (.cs ty' sz' tr')).set m (.cs ty r.size tr)⟩
      let τ2 : Mem := upd τ m (.cs ty r.size tr)
      obtain ⟨rm, qm1, qm2, qm3, qm4⟩ := hre.blk m _ τm
      rw [hr] at qm1; injection qm1 with qm1; subst qm1
      obtain ⟨rb, qb1, qb2, qb3, qb4⟩ := hre.blk b _ τb
      have hnz : n * z' ≤ cap * z' := Nat.mul_le_mul_right _ hle
      have qm4' : Blk ρ (.cs ty r.size tr) r w := by
        obtain ⟨t0, cells, fr, k1, k2, k3, k4, k5⟩ := qm4
        exact ⟨t0, cells, fr, k1, k2, Nat.le_refl _, k4, fun j u hu => by obtain ⟨k6, k7⟩ := k5 j u hu; exact ⟨by omega, k7⟩⟩
      have hre2 : Real ρ B0 τ2 w := by
        refine ⟨hre.size, fun p u hp => ?_, fun p p' u u' rp rp' hp hp' h1 h2 hne h3 h4 => ?_, hre.kept⟩
        · by_cases e : p = m
          · subst e
            have : τ2 p = some (.cs ty r.size tr) := upd_same _ _ _
            rw [this] at hp; injection hp with hp; subst hp
            exact ⟨r, hr, fun _ => qm2 m2, qm3, qm4'⟩
          · have : τ2 p = τ p := upd_ne _ _ e
            rw [this] at hp
            exact hre.blk p u hp
        · have back : ∀ p u, τ2 p = some u → ∃ u0, τ p = some u0 ∧ (u.live → u0.live) ∧ (u.has → u0.has) := fun p u hp => by
            by_cases e : p = m
            · subst e
              have : τ2 p = some (.cs ty r.size tr) := upd_same _ _ _
              rw [this] at hp; injection hp with hp; subst hp
              exact ⟨_, τm, id, id⟩
            · have : τ2 p = τ p := upd_ne _ _ e
              rw [this] at hp
              exact ⟨u, hp, id, id⟩
          obtain ⟨u0, k1, k2, _⟩ := back p u hp
          obtain ⟨u1, k3, _, k4⟩ := back p' u' hp'
          exact hre.inj p p' u0 u1 rp rp' k1 k3 (k2 h1) (k4 h2) hne h3 h4
      have g2m : st2.h.get m = some (.cs ty r.size tr) := T.get_set_same _ _ _
      have g2b : st2.h.get b = some (.cs ty' sz' tr') := (T.get_set_ne _ _ d3).trans (T.get_set_same _ _ _)
      have g2 : ∀ p, p ≠ m → p ≠ b → st2.h.get p = none := fun p hp hq => (T.get_set_ne _ _ (fun e => hp e.symm)).trans ((T.get_set_ne _ _ (fun e => hq e.symm)).trans (by simp))
      have hwf2 : Wf st2 := fun p hp => by
        have hp' : st.nx ≤ p := hp
        exact g2 p (by omega) (by omega)
      have hag2 : Agree ⟨false, [], wb, nt⟩ st2 τ2 := fun p u hok hu => by
        by_cases e : p = m
        · subst e; rw [g2m] at hu; rw [← hu]; exact upd_same _ _ _
        · have : τ2 p = τ p := upd_ne _ _ e
          rw [this]
          by_cases e2 : p = b
          · subst e2; rw [g2b] at hu; rw [← hu]; exact τb
          · rw [g2 p e e2] at hu; cases hu
      -- what the cells are
      have oldR : ∀ a ∈ old, a.one = true ∧ ∃ y, Rel ρ a y := fun a ha => by
        obtain ⟨j, hj⟩ := List.getElem?_of_mem ha
        obtain ⟨_, _, _, _, _, _, _, k5⟩ := qm4
        obtain ⟨_, k7, y, _, k8⟩ := k5 j a (o2 j a hj)
        exact ⟨k7, y, k8⟩
      have newR : ∀ a ∈ new, a.one = true ∧ ∃ y, Rel ρ a y := fun a ha => by
        obtain ⟨j, hj⟩ := List.getElem?_of_mem ha
        obtain ⟨_, _, _, _, _, _, _, k5⟩ := qb4
        obtain ⟨_, k7, y, _, k8⟩ := k5 _ a (n2 j a hj)
        exact ⟨k7, y, k8⟩
      have hoo : old.all V.one = true := List.all_eq_true.2 fun a ha => (oldR a ha).1
      have hno : new.all V.one = true := List.all_eq_true.2 fun a ha => (newR a ha).1
      obtain ⟨⟨v2, st2'⟩, hF, hR2⟩ := hc wb nt st2 m n i b o k q cap ty r.size ty' sz' tr tr' old new hm hbx d1 d2 d3 d4 d5 hle hcz g2m m2 g2b b2 b3 b4 o1 o2 n1 n2 hoo hno
      obtain ⟨hs2, hsem⟩ := hF'.1 _ _ _ _ _ _ hF hwf2
      have l2 : st.nx ≤ st2'.nx := hR2.le
      have l3 : st2'.nx ≤ st.nx + 2 := hR2.nx
      have hwf2' := hs2.wf hwf2
      have hnone : ∀ p, st.nx ≤ p → p < st.nx + 2 → τ p = none := fun p h1 h2 => by
        cases e : τ p with
        | none => rfl
        | some u =>
          obtain ⟨ru, e1, _⟩ := hre.blk p u e
          rw [hfr p h1 h2] at e1; cases e1
      refine hsem B0 ρ τ2 w _ (RelL.cons (by simp only [Rel]; exact ⟨r, hr, rfl⟩) hxs) hag2 hre2 (fun p h1 h2 => hfr p h1 (Nat.lt_of_lt_of_le h2 l3)) RR fun ρ' v' w' hle' hdom hrel hre' hbel => ?_
      have hfn : ρ st.nx = none := hfr st.nx (Nat.le_refl _) (by show st.nx < st.nx + 2; omega)
      -- the result's place
      have τ'old : ∀ p u, p ≠ m → τ p = some u → ov st2 st2' τ2 p = some u := fun p u hp hu => by
        have hp2 : ¬ (st.nx ≤ p ∧ p < st.nx + 2) := fun hh => by rw [hnone p hh.1 hh.2] at hu; cases hu
        unfold ov
        rw [if_neg (fun hh => hp2 ⟨hh.1, Nat.lt_of_lt_of_le hh.2 l3⟩)]
        have e : st2.h.get p = st2'.h.get p := by
          by_cases hlt : p < st.nx
          · exact (hR2.keep p hlt hp).symm
          · rw [hwf2 p (by show st.nx ≤ p; omega), hwf2' p (by omega)]
        rw [if_pos e]
        show upd τ m _ p = _
        rw [upd_ne _ _ hp]; exact hu
      have place : ∃ (mm : Nat) (r2 : R) (ty2 sz2 : Nat) (t2 : T V), ρ' mm = some r2 ∧ (mm = m ∨ st.nx ≤ mm) ∧ ov st2 st2' τ2 mm = some (.cs ty2 sz2 t2) ∧ ty2 ≠ roT ∧ (n + k) * z' ≤ sz2 ∧ (∀ j a, (insL (i * z') old new)[j]? = some a → t2.get j = some a) ∧ n + k ≤ (r2.size - 0) / z' ∧ v' = .slice (some ⟨r2.block, r2.base + 0, none⟩) (n + k) ((r2.size - 0) / z') ∧ (st.nx ≤ mm → mm < st.nx + 2) := by
        rcases hR2.out with ⟨a1, a2, tr2, a3, a4⟩ | ⟨q2, ty2, sz2, tr2, a1, a2, a3, a4, a5, a6, a7⟩
        · simp only at a2 a3
          subst a2
          simp only [Rel] at hrel
          obtain ⟨r2, hr2, rfl⟩ := hrel
          have := hle' m r hr
          rw [hr2] at this; injection this with this; subst this
          refine ⟨m, r2, ty, r2.size, tr2, hr2, .inl rfl, ?_, m2, Nat.le_trans (Nat.mul_le_mul_right _ a1) hcz, a4, a1, rfl, fun h => by omega⟩
          unfold ov
          rw [if_neg (fun hh => by have : st.nx ≤ m := hh.1; omega)]
          by_cases e : st2.h.get m = st2'.h.get m
          · rw [if_pos e]
            show upd τ m _ m = _
            rw [upd_same, ← g2m, e, a3]
          · rw [if_neg e, a3]
        · simp only at a2 a3 a4
          subst a3
          simp only [Rel] at hrel
          obtain ⟨r2, hr2, _, hle2, rfl⟩ := hrel
          refine ⟨q2, r2, ty2, sz2, tr2, hr2, .inr a1, ?_, a5, a6, a7, hle2, rfl, fun _ => by omega⟩
          unfold ov
          rw [if_pos ⟨a1, a2⟩, a4]
      obtain ⟨mm, r2, ty2, sz2, t2, p1, p2, p3, p4, p5, p6, p7, rfl, p8⟩ := place
      have hle3 : ρ.le (upd ρ st.nx r2) := fun p u e => by
        by_cases hp : p = st.nx
        · subst hp; rw [hfn] at e; cases e
        · rw [upd_ne _ _ hp]; exact e
      obtain ⟨rr, s1, s2, s3, s4⟩ := hre'.blk mm _ p3
      rw [p1] at s1; injection s1 with s1; subst s1
      -- the memory behind it
      have τf : ∀ p, ov st ⟨st.nx + 2, (st.h.set m .gone).set st.nx (.cs unT (insL (i * z') old new).length (sets (insL (i * z') old new) 0 .lf))⟩ τ p = if p = st.nx then some (.cs unT (insL (i * z') old new).length (sets (insL (i * z') old new) 0 .lf)) else if p = m then some .gone else τ p := fun p => by
        unfold ov
        have e0 := get' p
        by_cases h1 : st.nx ≤ p ∧ p < st.nx + 2
        · rw [if_pos h1]
          by_cases h2 : p = st.nx
          · rw [if_pos h2] at e0 ⊢; exact e0
          · have h3 : ¬ p = m := by omega
            rw [if_neg h2, if_neg h3] at e0 ⊢
            exact e0.trans ((hwf p h1.1).trans (hnone p h1.1 h1.2).symm)
        · rw [if_neg h1]
          have h2 : ¬ p = st.nx := by omega
          rw [if_neg h2] at e0 ⊢
          by_cases h3 : p = m
          · rw [if_pos h3] at e0 ⊢
            rw [if_neg (fun hh => by rw [e0, h3, m1] at hh; cases hh)]
            exact e0
          · rw [if_neg h3] at e0 ⊢
            exact if_pos e0.symm
      refine hR (upd ρ st.nx r2) _ w' hle3 (fun p u e => ?_) ?_ ?_ hbel
      · by_cases hp : p = st.nx
        · subst hp; exact .inr ⟨Nat.le_refl _, by show st.nx < st.nx + 2; omega⟩
        · rw [upd_ne _ _ hp] at e; exact .inl e
      · simp only [Rel]
        exact ⟨r2, upd_same _ _ _, d6, p7, rfl⟩
      · refine ⟨hre'.size, fun p u hp => ?_, fun p p' u u' rp rp' hp hp' h1 h2 hne h3 h4 => ?_, hre'.kept⟩
        · rw [τf] at hp
          by_cases e1 : p = st.nx
          · rw [if_pos e1] at hp
            injection hp with hp; subst hp e1
            refine ⟨r2, upd_same _ _ _, fun _ => s2 p4, s3, ?_⟩
            obtain ⟨t0, cells, fr, k1, k2, k3, k4, k5⟩ := s4
            refine ⟨t0, cells, fr, k1, k2, by rw [hL]; omega, fun _ => ⟨(k4 p4).1, fun hh => absurd rfl hh⟩, fun j u hu => ?_⟩
            rw [get_sets] at hu
            by_cases hj : 0 ≤ j ∧ j < 0 + (insL (i * z') old new).length
            · rw [if_pos hj, Nat.sub_zero] at hu
              obtain ⟨k6, k7, x, k8, k9⟩ := k5 j u (p6 j u hu)
              obtain ⟨y, hy⟩ : ∃ y, Rel ρ u y := by
                rcases mem_insL (List.mem_of_getElem? hu) with hmem | hmem
                · exact (oldR u hmem).2
                · exact (newR u hmem).2
              exact ⟨by omega, k7, x, k8, Rel.mono hle3 _ _ (Rel.down hle' _ _ _ hy k9)⟩
            · rw [if_neg hj] at hu
              simp at hu
          · rw [if_neg e1] at hp
            by_cases e2 : p = m
            · rw [if_pos e2] at hp
              injection hp with hp; subst hp e2
              refine ⟨r, hle3 _ _ hr, fun hh => hh.elim, Nat.lt_of_lt_of_le qm3 hbel.size, trivial⟩
            · rw [if_neg e2] at hp
              obtain ⟨ru, q1, q2, q3, q4⟩ := hre.blk p u hp
              obtain ⟨ru', q1', q2', q3', q4'⟩ := hre'.blk p u (τ'old p u e2 hp)
              have := hle' p ru q1
              rw [q1'] at this; injection this with this; subst this
              exact ⟨ru', hle3 _ _ q1, q2', q3', (Blk.down hle' q4 q4').mono hle3⟩
        · rw [τf] at hp hp'
          -- the names that they had
          have back : ∀ p u rp, (if p = st.nx then some (B.cs unT (insL (i * z') old new).length (sets (insL (i * z') old new) 0 .lf)) else if p = m then some .gone else τ p) = some u → u.has → upd ρ st.nx r2 p = some rp → ∃ p0 u0, ov st2 st2' τ2 p0 = some u0 ∧ (u.live → u0.live) ∧ u0.has ∧ ρ' p0 = some rp ∧ (p = st.nx ∧ p0 = mm ∨ p ≠ st.nx ∧ p0 = p ∧ p ≠ m ∧ ¬ (st.nx ≤ p ∧ p < st.nx + 2)) := fun p u rp hp hh hrp => by
            by_cases e1 : p = st.nx
            · rw [if_pos e1] at hp
              injection hp with hp; subst hp e1
              rw [upd_same] at hrp; injection hrp with hrp; subst hrp
              exact ⟨mm, _, p3, fun _ => p4, trivial, p1, .inl ⟨rfl, rfl⟩⟩
            · rw [if_neg e1] at hp
              by_cases e2 : p = m
              · rw [if_pos e2] at hp
                injection hp with hp; subst hp
                exact hh.elim
              · rw [if_neg e2] at hp
                rw [upd_ne _ _ e1] at hrp
                exact ⟨p, u, τ'old p u e2 hp, id, hh, hle' _ _ hrp, .inr ⟨e1, rfl, e2, fun hx => by rw [hnone p hx.1 hx.2] at hp; cases hp⟩⟩
          obtain ⟨p0, u0, k1, k2, k3, k4, k5⟩ := back p u rp hp h1.has h3
          obtain ⟨p0', u0', j1, j2, j3, j4, j5⟩ := back p' u' rp' hp' h2 h4
          refine hre'.inj p0 p0' u0 u0' rp rp' k1 j1 (k2 h1) j3 (fun e => ?_) k4 j4
          rcases k5 with ⟨x1, x2⟩ | ⟨x1, x2, x3, x4⟩
          · rcases j5 with ⟨y1, y2⟩ | ⟨y1, y2, y3, y4⟩
            · exact hne (x1.trans y1.symm)
            · rcases p2 with hh | hh
              · exact y3 (by rw [← y2, ← e, x2, hh])
              · exact y4 ⟨by rw [← y2, ← e, x2]; exact hh, by rw [← y2, ← e, x2]; exact p8 hh⟩
          · rcases j5 with ⟨y1, y2⟩ | ⟨y1, y2, y3, y4⟩
            · rcases p2 with hh | hh
              · exact x3 (by rw [← x2, e, y2, hh])
              · exact x4 ⟨by rw [← x2, e, y2]; exact hh, by rw [← x2, e, y2]; exact p8 hh⟩
            · exact hne (by rw [← x2, ← y2, e])
  · intro c g args st r h'
    unfold insF at h'
    split at h'
    case h_2 => exact h.2 _ _ _ _ _ h'
    rename_i hg
    have hg := Nat.eq_of_beq_eq_true hg
    subst hg
    exact hb
end Go.Proofs.Ytcjddojcfdeflaa.Ev
set_option linter.unusedSimpArgs false
set_option linter.unusedVariables false
namespace Go.Proofs.Ytcjddojcfdeflaa.Ev
open Go.RowKit
section
variable {P : Program}
theorem stepF_ok (hd : DrawSound P) (hn : Named P) {F : CallF} (hcall : CallSound P F) (hbody : HasBody P F) {ih : CodeF} (ihc : CodeSound P ih) (ihl : LoopSound P ih) : CodeSound P (stepF P F ih) ∧ LoopSound P (stepF P F ih) := by
  have loop : LoopSound P (stepF P F ih) := by
    intro c b e st x e' st' h hwf
    have h' : (match ih c b e st with
      | some (.n, e, st) => ih c (.loop b) e st
      | r => r) = some (x, e', st') := h
    split at h'
    · rename_i e1 st1 hb
      obtain ⟨s1, k1⟩ := ihc _ _ _ _ _ _ _ hb hwf
      obtain ⟨m, s2, k2⟩ := ihl _ _ _ _ _ _ _ h' (s1.wf hwf)
      refine ⟨m + 1, s1.trans s2, fun B0 ρ τ w a he ht hag hre hf Q hQ => ?_⟩
      rw [rounds_succ]
      refine k1 B0 ρ τ w a he ht hag hre (hf.left s2.le) _ ?_
      exact cont_step s1 s2 hwf hag hf hQ fun ρ' a' w' he' ht' hag' hre' hf' hc' => k2 B0 ρ' _ w' a' he' ht' hag' hre' hf' Q hc'
    · rename_i hne
      obtain ⟨s1, k1⟩ := ihc _ _ _ _ _ _ _ h' hwf
      refine ⟨1, s1, fun B0 ρ τ w a he ht hag hre hf Q hQ => ?_⟩
      rw [rounds_succ]
      refine k1 B0 ρ τ w a he ht hag hre hf _ fun ρ' a' w' q1 q2 q3 q4 q5 q6 q7 => ?_
      have := hQ ρ' a' w' q1 q2 q3 q4 q5 q6 q7
      cases x with
      | n => exact (hne e' st' h').elim
      | ex i => exact this
      | ret => exact this
  refine ⟨fun c code e st x e' st' h hwf => ?_, loop⟩
  cases code with
  | skip =>
    have h' : (some (X.n, e, st) : Option (X × Env × St)) = some (x, e', st') := h
    injection h' with h'; injection h' with h1 h'; injection h' with h2 h3; subst h1 h2 h3
    exact ⟨.refl _ _, fun B0 ρ τ w a he ht hag hre hf Q hQ => wp_skip (cont_refl hQ he ht hre)⟩
  | label l =>
    have h' : (some (X.n, e, st) : Option (X × Env × St)) = some (x, e', st') := h
    injection h' with h'; injection h' with h1 h'; injection h' with h2 h3; subst h1 h2 h3
    exact ⟨.refl _ _, fun B0 ρ τ w a he ht hag hre hf Q hQ => wp_label (cont_refl hQ he ht hre)⟩
  | exit i =>
    have h' : (some (X.ex i, e, st) : Option (X × Env × St)) = some (x, e', st') := h
    injection h' with h'; injection h' with h1 h'; injection h' with h2 h3; subst h1 h2 h3
    exact ⟨.refl _ _, fun B0 ρ τ w a he ht hag hre hf Q hQ => wp_exit (cont_refl hQ he ht hre)⟩
  | ret =>
    have h' : (some (X.ret, e, st) : Option (X × Env × St)) = some (x, e', st') := h
    injection h' with h'; injection h' with h1 h'; injection h' with h2 h3; subst h1 h2 h3
    exact ⟨.refl _ _, fun B0 ρ τ w a he ht hag hre hf Q hQ => wp_ret (cont_refl hQ he ht hre)⟩
  | region id ops d =>
    cases d with
    | false =>
      have h' : (match evOps P (F) c ops.toList ops.toList e st with
        | none => none
        | some (e, st) => some (X.n, e, st)) = some (x, e', st') := h
      split at h'
      · cases h'
      · rename_i e1 st1 hop
        injection h' with h'; injection h' with h1 h'; injection h' with h2 h3; subst h1 h2 h3
        obtain ⟨s1, k1⟩ := evOps_ok hcall hn hbody hop hwf
        exact ⟨s1, fun B0 ρ τ w a he ht hag hre hf Q hQ => wp_region_list (k1 B0 ρ τ w a he ht hag hre hf Q hQ)⟩
    | true =>
      have h' : (match regOk ops.toList with
        | true => (match evDraw P (F) c ops.toList ops.toList 0 [] e st with
          | none => none
          | some (e, st) => some (X.n, e, st))
        | false => none) = some (x, e', st') := h
      split at h'
      · rename_i hreg
        split at h'
        · cases h'
        · rename_i e1 st1 hop
          injection h' with h'; injection h' with h1 h'; injection h' with h2 h3; subst h1 h2 h3
          exact hd _ hcall hbody c ops id e e1 st st1 hreg hop hwf
      · cases h'
  | seq a b =>
    have h' : (match ih c a e st with
      | some (.n, e, st) => ih c b e st
      | r => r) = some (x, e', st') := h
    split at h'
    · rename_i e1 st1 hb
      obtain ⟨s1, k1⟩ := ihc _ _ _ _ _ _ _ hb hwf
      obtain ⟨s2, k2⟩ := ihc _ _ _ _ _ _ _ h' (s1.wf hwf)
      refine ⟨s1.trans s2, fun B0 ρ τ w a he ht hag hre hf Q hQ => wp_seq ?_⟩
      refine k1 B0 ρ τ w a he ht hag hre (hf.left s2.le) _ ?_
      exact cont_step s1 s2 hwf hag hf hQ fun ρ' a' w' he' ht' hag' hre' hf' hc' => k2 B0 ρ' _ w' a' he' ht' hag' hre' hf' Q hc'
    · rename_i hne
      obtain ⟨s1, k1⟩ := ihc _ _ _ _ _ _ _ h' hwf
      refine ⟨s1, fun B0 ρ τ w a he ht hag hre hf Q hQ => wp_seq ?_⟩
      refine k1 B0 ρ τ w a he ht hag hre hf _ fun ρ' a' w' q1 q2 q3 q4 q5 q6 q7 => ?_
      have := hQ ρ' a' w' q1 q2 q3 q4 q5 q6 q7
      cases x with
      | n => exact (hne e' st' h').elim
      | ex i => exact this
      | ret => exact this
  | cond y a b =>
    have h' : (opd e y fun v => (match v with
      | .c (.bool true) => ih c a e st
      | .c (.bool false) => ih c b e st
      | _ => none)) = some (x, e', st') := h
    obtain ⟨v, h1, h2⟩ := opd_inv h'
    split at h1
    · obtain ⟨s1, k1⟩ := ihc _ _ _ _ _ _ _ h1 hwf
      refine ⟨s1, fun B0 ρ τ w a he ht hag hre hf Q hQ => wp_cond_true ?_ (k1 B0 ρ τ w a he ht hag hre hf Q hQ)⟩
      exact rel_true (h2 ρ a (he.tmp y))
    · obtain ⟨s1, k1⟩ := ihc _ _ _ _ _ _ _ h1 hwf
      refine ⟨s1, fun B0 ρ τ w a he ht hag hre hf Q hQ => wp_cond_false ?_ (k1 B0 ρ τ w a he ht hag hre hf Q hQ)⟩
      exact rel_true (h2 ρ a (he.tmp y))
    · cases h1
  | block i b =>
    have h' : (match ih c b e st with
      | some (.ex j, e, st) => (match Nat.beq j i with | true => some (X.n, e, st) | false => some (.ex j, e, st))
      | r => r) = some (x, e', st') := h
    split at h'
    · rename_i j e1 st1 hb
      obtain ⟨s1, k1⟩ := ihc _ _ _ _ _ _ _ hb hwf
      split at h'
      · rename_i hj
        injection h' with h'; injection h' with h1 h'; injection h' with h2 h3; subst h1 h2 h3
        have hj' : j = i := by simpa [nbeq] using hj
        refine ⟨s1, fun B0 ρ τ w a he ht hag hre hf Q hQ => wp_block (k1 B0 ρ τ w a he ht hag hre hf _ fun ρ' a' w' q1 q2 q3 q4 q5 q6 q7 => ?_)⟩
        show Exit.inBlock i Q (.exit j) a' w'
        simp only [Exit.inBlock, hj', if_true]
        exact hQ ρ' a' w' q1 q2 q3 q4 q5 q6 q7
      · rename_i hj
        injection h' with h'; injection h' with h1 h'; injection h' with h2 h3; subst h1 h2 h3
        have hj' : ¬ j = i := by simpa [nbeq] using hj
        refine ⟨s1, fun B0 ρ τ w a he ht hag hre hf Q hQ => wp_block (k1 B0 ρ τ w a he ht hag hre hf _ fun ρ' a' w' q1 q2 q3 q4 q5 q6 q7 => ?_)⟩
        show Exit.inBlock i Q (.exit j) a' w'
        simp only [Exit.inBlock, hj', if_false]
        exact hQ ρ' a' w' q1 q2 q3 q4 q5 q6 q7
    · rename_i hne
      obtain ⟨s1, k1⟩ := ihc _ _ _ _ _ _ _ h' hwf
      refine ⟨s1, fun B0 ρ τ w a he ht hag hre hf Q hQ => wp_block (k1 B0 ρ τ w a he ht hag hre hf _ fun ρ' a' w' q1 q2 q3 q4 q5 q6 q7 => ?_)⟩
      have := hQ ρ' a' w' q1 q2 q3 q4 q5 q6 q7
      cases x with
      | n => exact this
      | ex i => exact (hne _ e' st' h').elim
      | ret => exact this
  | loop b =>
    obtain ⟨m, s1, k1⟩ := loop _ _ _ _ _ _ _ h hwf
    exact ⟨s1, fun B0 ρ τ w a he ht hag hre hf Q hQ => wp_loop_rounds m (k1 B0 ρ τ w a he ht hag hre hf Q hQ)⟩
  | rangeFunc f ps as b => cases h
  | scope b =>
    obtain ⟨s1, k1⟩ := ihc _ _ _ _ _ _ _ h hwf
    refine ⟨s1, fun B0 ρ τ w a he ht hag hre hf Q hQ => wp_scope_straight (k1 B0 ρ τ w a he ht hag hre hf _ fun ρ' a' w' q1 q2 q3 q4 q5 q6 q7 => ?_)⟩
    have := hQ ρ' a' w' q1 q2 q3 q4 q5 q6 q7
    cases x with
    | n => exact this
    | ex i => exact this
    | ret => exact this
  | goto l => cases h
  | refuse y => cases h
/-- how calls are turned into others, soundly -/
structure XOk (P : Program) (X : CallF → CallF) : Prop where
  lim : ∀ {FF : Nat → CallF} {GG : CallF}, Chain FF GG → Chain (fun n => X (FF n)) (X GG)
  sound : ∀ {F : CallF}, CallSound P F ∧ HasBody P F → CallSound P (X F) ∧ HasBody P (X F)
abbrev LeF (F G : CallF) : Prop := LeC F G
def two {α : Type} (x y : α) : Nat → α
  | 0 => x
  | _ + 1 => y
theorem chain_two {F G : CallF} (h : LeF F G) : Chain (two F G) G := ⟨fun n m hnm c f args st r hr => by
    cases n with
    | zero => cases m with
      | zero => exact hr
      | succ m => exact h _ _ _ _ _ hr
    | succ n => cases m with
      | zero => omega
      | succ m => exact hr, fun c f args st r hr => ⟨1, hr⟩⟩
theorem chain_two' {F G : CallF} (h : LeF F G) : Chain (two F G) F := ⟨(chain_two h).mono, fun c f args st r hr => ⟨0, hr⟩⟩
theorem XOk.mono {X : CallF → CallF} (hX : XOk P X) {F G : CallF} (h : LeF F G) : LeF (X F) (X G) := fun c f args st r hr => (hX.lim (chain_two h)).mono 0 1 (Nat.zero_le _) c f args st r hr
theorem stepF_mono2 {FF GG : CallF} {F G : CodeF} (hF : LeF FF GG) (h : Le F G) : Le (stepF P FF F) (stepF P GG G) := by
  intro cx c e st r hr
  obtain ⟨n, hn⟩ := stepF_lim (chain_two' hF) (F := two F G) (G := F) (fun n m hnm => by
    cases n with
    | zero => cases m with
      | zero => exact fun _ _ _ _ _ h => h
      | succ m => exact h
    | succ n => cases m with
      | zero => omega
      | succ m => exact fun _ _ _ _ _ h => h) (fun cx c e st r h => ⟨0, h⟩) hr
  exact hn (n + 1) (by omega)
noncomputable def evX (P : Program) (X : CallF → CallF) (n : Nat) : CodeF := nr (fun _ _ _ _ => none) (fun _ ih => stepF P (X (callOf P ih)) ih) n
theorem evX_succ (X : CallF → CallF) (n : Nat) : evX P X (n + 1) = stepF P (X (callOf P (evX P X n))) (evX P X n) := rfl
theorem evX_le {X : CallF → CallF} (hX : XOk P X) : ∀ n, Le (evX P X n) (evX P X (n + 1))
  | 0 => fun _ _ _ _ _ h => by cases h
  | n + 1 => by rw [evX_succ, evX_succ]; exact stepF_mono2 (hX.mono (callOf_mono (evX_le hX n))) (evX_le hX n)
theorem evX_mono {X : CallF → CallF} (hX : XOk P X) {n m : Nat} (h : n ≤ m) : Le (evX P X n) (evX P X m) := by
  induction m with
  | zero => obtain rfl : n = 0 := by omega
            exact fun _ _ _ _ _ h => h
  | succ m ih =>
    by_cases e : n = m + 1
    · subst e; exact fun _ _ _ _ _ h => h
    · exact fun cx c e st r h' => evX_le hX m _ _ _ _ _ (ih (by omega) _ _ _ _ _ h')
noncomputable def evXL (P : Program) (X : CallF → CallF) : CodeF := open Classical in fun cx c e st => if h : ∃ r n, evX P X n cx c e st = some r then some (Classical.choose h) else none
theorem evXL_some {X : CallF → CallF} (hX : XOk P X) {cx : Cx} {c : Code} {e : Env} {st : St} {r : Ev.X × Env × St} : evXL P X cx c e st = some r ↔ ∃ n, evX P X n cx c e st = some r := by
  unfold evXL
  constructor
  · intro h
    split at h
    · rename_i hx
      injection h with h
      subst h
      exact Classical.choose_spec hx
    · cases h
  · rintro ⟨n, hn⟩
    have hx : ∃ r n, evX P X n cx c e st = some r := ⟨r, n, hn⟩
    rw [dif_pos hx]
    obtain ⟨m, hm⟩ := Classical.choose_spec hx
    have h1 := evX_mono hX (Nat.le_max_left n m) _ _ _ _ _ hn
    have h2 := evX_mono hX (Nat.le_max_right n m) _ _ _ _ _ hm
    rw [h1] at h2
    exact h2.symm
theorem callOf_chain {F : Nat → CodeF} {G : CodeF} (hm : ∀ n m, n ≤ m → Le (F n) (F m)) (hl : ∀ cx c e st r, G cx c e st = some r → ∃ n, F n cx c e st = some r) : Chain (fun n => callOf P (F n)) (callOf P G) := ⟨fun n m hnm => callOf_mono (hm n m hnm), fun cx f args st r h => by
    unfold callOf at h ⊢
    split at h
    · cases h
    · rename_i fn hf
      split at h
      · cases h
      · rename_i b hb
        rw [initE_eq] at h
        split at h
        · rename_i e1 st1 h1
          obtain ⟨n, hn⟩ := hl _ _ _ _ _ h1
          exact ⟨n, by simp only [initE_eq, hn]; exact h⟩
        · rename_i e1 st1 h1
          obtain ⟨n, hn⟩ := hl _ _ _ _ _ h1
          exact ⟨n, by simp only [initE_eq, hn]; exact h⟩
        · cases h⟩
theorem evXL_eq {X : CallF → CallF} (hX : XOk P X) : evXL P X = stepF P (X (callOf P (evXL P X))) (evXL P X) := by
  funext cx c e st
  apply Option.ext
  intro r
  have up : ∀ n, Le (evX P X n) (evXL P X) := fun n _ _ _ _ _ h => (evXL_some hX).2 ⟨n, h⟩
  constructor
  · intro h
    obtain ⟨n, hn⟩ := (evXL_some hX).1 h
    cases n with
    | zero => cases hn
    | succ n =>
      rw [evX_succ] at hn
      exact stepF_mono2 (hX.mono (callOf_mono (up n))) (up n) _ _ _ _ _ hn
  · intro h
    obtain ⟨n, hn⟩ := stepF_lim (hX.lim (callOf_chain (P := P) (F := evX P X) (G := evXL P X) (fun n m => evX_mono hX) (fun _ _ _ _ _ h => (evXL_some hX).1 h))) (F := evX P X) (fun n m => evX_mono hX) (fun _ _ _ _ _ h => (evXL_some hX).1 h) h
    exact (evXL_some hX).2 ⟨n + 1, hn n (Nat.le_refl _)⟩
theorem evX_ok (hn : namesOk P = true) (hm : P.follows .mixedOrders = true) {X : CallF → CallF} (hX : XOk P X) : ∀ n, CodeSound P (evX P X n) ∧ LoopSound P (evX P X n)
  | 0 => ⟨fun _ _ _ _ _ _ _ h _ => (by cases h), fun _ _ _ _ _ _ _ h _ => (by cases h)⟩
  | n + 1 => by
    obtain ⟨h1, h2⟩ := evX_ok hn hm hX n
    have h3 := hX.sound ⟨callOf_sound h1, callOf_body⟩
    rw [evX_succ]
    exact stepF_ok (draw_sound (named_of hn) hm) (named_of hn) h3.1 h3.2 h1 h2
theorem evXL_sound (hn : namesOk P = true) (hm : P.follows .mixedOrders = true) {X : CallF → CallF} (hX : XOk P X) : CodeSound P (evXL P X) := fun c code e st x e' st' h hwf => by
  obtain ⟨n, h⟩ := (evXL_some hX).1 h
  exact (evX_ok hn hm hX n).1 c code e st x e' st' h hwf
/-- calls, turned at each level -/
noncomputable def callX (P : Program) (X : CallF → CallF) : CallF := X (callOf P (evXL P X))
theorem callX_both (hn : namesOk P = true) (hm : P.follows .mixedOrders = true) {X : CallF → CallF} (hX : XOk P X) : CallSound P (callX P X) ∧ HasBody P (callX P X) := hX.sound ⟨callOf_sound (evXL_sound hn hm hX), callOf_body⟩
noncomputable def machX {X : CallF → CallF} (hX : XOk P X) : Mach P := ⟨callX P X, evXL P X, evXL_eq hX⟩
/-! ### three ways -/
theorem XOk.id : XOk P fun F => F := ⟨fun h => h, fun h => h⟩
theorem XOk.comp {X Y : CallF → CallF} (hX : XOk P X) (hY : XOk P Y) : XOk P fun F => X (Y F) := ⟨fun h => hX.lim (hY.lim h), fun h => hX.sound (hY.sound h)⟩
theorem XOk.lift : XOk P liftF := ⟨fun {FF GG} h => ⟨fun n m hnm c f args st r hr => by
    obtain ⟨a, l, wb, nt⟩ := c
    cases l with
    | nil => exact h.mono n m hnm _ _ _ _ _ hr
    | cons x l =>
      rw [liftF_cons] at hr ⊢
      cases hF : FF n ⟨a, [], wb, nt⟩ f args (er (x :: l) st) with
      | none => rw [hF] at hr; cases hr
      | some q => rw [hF] at hr; rw [h.mono n m hnm _ _ _ _ _ hF]; exact hr, fun c f args st r hr => by
    obtain ⟨a, l, wb, nt⟩ := c
    cases l with
    | nil => exact h.lim _ _ _ _ _ hr
    | cons x l =>
      rw [liftF_cons] at hr
      cases hF : GG ⟨a, [], wb, nt⟩ f args (er (x :: l) st) with
      | none => rw [hF] at hr; cases hr
      | some q =>
        obtain ⟨n, hn⟩ := h.lim _ _ _ _ _ hF
        refine ⟨n, ?_⟩
        rw [liftF_cons]
        rw [hF] at hr; rw [hn]; exact hr⟩, fun h => liftF_sound h⟩
/-- functions whose contracts are known over other calls -/
noncomputable def knF (S : Nat → Bool) (K : CallF) (F : CallF) : CallF := fun c g args st => match S g with
  | true => K c g args st
  | false => F c g args st
theorem XOk.kn {S : Nat → Bool} {K : CallF} (hK : CallSound P K ∧ HasBody P K) : XOk P (knF S K) := ⟨fun {FF GG} h => ⟨fun n m hnm c f args st r hr => by
    unfold knF at hr ⊢
    split at hr
    · exact hr
    · exact h.mono n m hnm _ _ _ _ _ hr, fun c f args st r hr => by
    unfold knF at hr ⊢
    split at hr
    · exact ⟨0, hr⟩
    · exact h.lim _ _ _ _ _ hr⟩, fun h => ⟨fun c f args st v st' hr hwf => by
    unfold knF at hr
    split at hr
    · exact hK.1 _ _ _ _ _ _ hr hwf
    · exact h.1 _ _ _ _ _ _ hr hwf, fun c f args st r hr => by
    unfold knF at hr
    split at hr
    · exact hK.2 _ _ _ _ _ hr
    · exact h.2 _ _ _ _ _ hr⟩⟩
theorem XOk.ins {F' : CallF} {f z : Nat} (h : CallSound P F' ∧ HasBody P F') (hc : InsC F' f z) (hb : ∃ fn b, P.funcs[f]? = some fn ∧ fn.body = some b) : XOk P fun F => insF F f z := ⟨fun {FF GG} k => ⟨fun n m hnm c g args st r hr => by
    revert hr
    unfold insF
    split
    · split
      · split
        · exact fun hr => hr
        · exact k.mono n m hnm _ _ _ _ _
      · exact k.mono n m hnm _ _ _ _ _
    · exact k.mono n m hnm _ _ _ _ _, fun c g args st r hr => by
    revert hr
    unfold insF
    split
    · split
      · split
        · exact fun hr => ⟨0, hr⟩
        · exact k.lim _ _ _ _ _
      · exact k.lim _ _ _ _ _
    · exact k.lim _ _ _ _ _⟩, fun k => insF_sound h hc hb k⟩
end
end Go.Proofs.Ytcjddojcfdeflaa.Ev
set_option linter.unusedSimpArgs false
set_option linter.unusedVariables false
namespace Go.Proofs.Ytcjddojcfdeflaa.Ev
open Go.RowKit
section
variable {P : Program} {c : Cx} {e : Env} {st : St}
theorem sl_lo {t el z m o len cap k : Nat} {x : Operand} {i : IntKind} (hu : P.underlying t = some (.slice el)) (hi : infoOk P el z = true) (hx : opv e x = some (.int i (k : Int))) (h1 : k ≤ len) (h2 : len ≤ cap) (h3 : k < cap) : sliceK P c e st t (.sl m o len cap) (some x) none = some (.sl m (o + k * z) (len - k) (cap - k), st) := by
  have b1 : Nat.ble k len = true := Nat.ble_eq ▸ h1
  have b2 : Nat.ble len cap = true := Nat.ble_eq ▸ h2
  have b3 : Nat.beq cap k = false := by
    cases h : Nat.beq cap k with
    | false => rfl
    | true => have := Nat.eq_of_beq_eq_true h; omega
  have hb : ∀ f : Nat → Res, bnd e len none f = f len := fun _ => rfl
  unfold sliceK sliceE
  rw [hu]
  simp only [infoOk_sz hi, bnd_at hx, hb, b1, b2, b3, fn_eq]
theorem sl_any {t el z m o len cap k : Nat} {x : Operand} {i : IntKind} (hu : P.underlying t = some (.slice el)) (hi : infoOk P el z = true) (hx : opv e x = some (.int i (k : Int))) (h1 : k ≤ len) (h2 : len ≤ cap) : ∃ v, sliceK P c e st t (.sl m o len cap) (some x) none = some (v, st) := by
  have b1 : Nat.ble k len = true := Nat.ble_eq ▸ h1
  have b2 : Nat.ble len cap = true := Nat.ble_eq ▸ h2
  have hb : ∀ f : Nat → Res, bnd e len none f = f len := fun _ => rfl
  unfold sliceK sliceE
  rw [hu]
  simp only [infoOk_sz hi, bnd_at hx, hb, b1, b2, fn_eq]
  exact ⟨_, rfl⟩
theorem sl_hi {t el z m o len cap k : Nat} {x : Operand} {i : IntKind} (hu : P.underlying t = some (.slice el)) (hi : infoOk P el z = true) (hx : opv e x = some (.int i (k : Int))) (h1 : k ≤ cap) : sliceK P c e st t (.sl m o len cap) none (some x) = some (.sl m o k cap, st) := by
  have b1 : Nat.ble 0 k = true := Nat.ble_eq ▸ Nat.zero_le k
  have b2 : Nat.ble k cap = true := Nat.ble_eq ▸ h1
  have hb : ∀ f : Nat → Res, bnd e 0 none f = f 0 := fun _ => rfl
  have b3 : (match Nat.beq cap 0 with | true => o | false => o + 0 * z) = o := by cases Nat.beq cap 0 <;> simp
  unfold sliceK sliceE
  rw [hu]
  simp only [infoOk_sz hi, bnd_at hx, hb, b1, b2, fn_eq, Nat.sub_zero]
  exact congrArg (fun q => (some (V.sl m q k cap, st) : Res)) b3
theorem sg_lo {t el z m o len k : Nat} {x : Operand} {i : IntKind} (hu : P.underlying t = some (.slice el)) (hi : infoOk P el z = true) (hx : opv e x = some (.int i (k : Int))) (h1 : k < len) : sliceK P c e st t (.sg m o len z) (some x) none = some (.sg m (o + k * z) (len - k) z, st) := by
  unfold sliceK
  rw [sliceE_lo hu hi hx m o len (by omega), if_neg (by omega)]
theorem firsts_cs {z n m o l q ty sz : Nat} {tr : T V} {L : List V} (hok : c.ok m = true) (hg : st.h.get m = some (.cs ty sz tr)) (hn : n ≤ l) (hl : L.length = n * z) (hL : ∀ j a, L[j]? = some a → tr.get (o + j) = some a) {β : Type} (k : List V → Option β) : firsts c st z n (.sl m o l q) k = k L := by
  have b1 : Nat.ble n l = true := Nat.ble_eq ▸ hn
  show (match Nat.ble n l with | true => getC c st m fun t => getsB t (n * z) o k | false => none) = _
  rw [b1]
  simp only [getC_eq, hok, hg, cond_true, Option.bind_some, csK_cs]
  rw [← hl]
  exact getsB_list hL k
/-- a copy, its source by what it reads -/
theorem copy_d {t t' el z m o ld q lx n ty sz : Nat} {x : V} {L : List V} {tr : T V} (hu : P.underlying t = some (.slice el)) (hi : infoOk P el z = true) (hlx : ∀ k : Nat → Res, lenA x k = k lx) (hn : Nat.min lx ld = n) (hf : ∀ k : List V → Res, firsts c st z n x k = k L)
    (hok : c.ok m = true) (hw : c.wb ≤ m) (hg : st.h.get m = some (.cs ty sz tr)) (hro : ty ≠ roT) (hle : o + L.length ≤ sz) : builtinE P c .copy [t, t'] [.sl m o ld q, x] st = some (.int .i64 (n : Int), ⟨st.nx, st.h.set m (.cs ty sz (sets L o tr))⟩) := by
  have h0 : builtinE P c .copy [t, t'] [.sl m o ld q, x] st = Ev.elemOf P t fun _ z => lenA x fun lx => fn (Nat.min lx ld) fun n => firsts c st z n x fun cs => putB c st m o cs fun st => (some (.int .i64 (.ofNat n), st) : Res) := rfl
  rw [h0, elemOf_ok hu hi, hlx, fn_eq, hn, hf, putB_eq, hg]
  simp only [hok, cond_true, Option.bind_some, csK_cs, if_pos (show o + L.length ≤ sz ∧ ty ≠ roT ∧ c.wb ≤ m from ⟨hle, hro, hw⟩)]
  rfl
theorem copy_g {t t' el z m o ld w lx n ty sz : Nat} {x : V} {L : List V} {tr : T V} (hu : P.underlying t = some (.slice el)) (hi : infoOk P el z = true) (hlx : ∀ k : Nat → Res, lenA x k = k lx) (hn : Nat.min lx ld = n) (hf : ∀ k : List V → Res, firsts c st z n x k = k L)
    (hok : c.ok m = true) (hw : c.wb ≤ m) (hg : st.h.get m = some (.cs ty sz tr)) (hro : ty ≠ roT) (hle : o + L.length ≤ sz) : builtinE P c .copy [t, t'] [.sg m o ld w, x] st = some (.int .i64 (n : Int), ⟨st.nx, st.h.set m (.cs ty sz (sets L o tr))⟩) := by
  have h0 : builtinE P c .copy [t, t'] [.sg m o ld w, x] st = Ev.elemOf P t fun _ z => lenA x fun lx => fn (Nat.min lx ld) fun n => firsts c st z n x fun cs => putB c st m o cs fun st => (some (.int .i64 (.ofNat n), st) : Res) := rfl
  rw [h0, elemOf_ok hu hi, hlx, fn_eq, hn, hf, putB_eq, hg]
  simp only [hok, cond_true, Option.bind_some, csK_cs, if_pos (show o + L.length ≤ sz ∧ ty ≠ roT ∧ c.wb ≤ m from ⟨hle, hro, hw⟩)]
  rfl
/-- an append where there is room -/
theorem app_room {t t' el el' z m o n cap lx ty sz : Nat} {x : V} {L : List V} {tr : T V} (hu : P.underlying t = some (.slice el)) (hk : P.underlying t' = some (.slice el')) (hi : infoOk P el z = true) (hx : ∀ s', x ≠ .s s') (hlx : ∀ k : Nat → Res, lenA x k = k lx) (hf : ∀ k : List V → Res, firsts c st z lx x k = k L)
    (hmax : n + lx ≤ 1073741824) (hcap : n + lx ≤ cap) (hok : c.ok m = true) (hw : c.wb ≤ m) (hg : st.h.get m = some (.cs ty sz tr)) (hro : ty ≠ roT) (hle : o + n * z + L.length ≤ sz) : builtinE P c .append [t, t'] [.sl m o n cap, x] st = some (.sl m o (n + lx) cap, ⟨st.nx, st.h.set m (.cs ty sz (sets L (o + n * z) tr))⟩) := by
  have hls : ∀ k : Nat → Res, lenA (.sl m o n cap) k = k n := fun _ => rfl
  have e1 : builtinE P c .append [t, t'] [.sl m o n cap, x] st = appE c st el z n lx (.sl m o n cap) L := by
    unfold builtinE
    simp only [elemOf_ok hu hi, hls, hk]
    cases x with
    | s s' => exact absurd rfl (hx s')
    | _ => simp only [hlx, hf, infoOk_small hi hmax]
  have b1 : Nat.ble (n + lx) cap = true := Nat.ble_eq ▸ hcap
  rw [e1]
  unfold appE
  simp only [fn_eq, b1, still_wb hw, putB_eq, hg, hok, cond_true, Option.bind_some, csK_cs, if_pos (show o + n * z + L.length ≤ sz ∧ ty ≠ roT ∧ c.wb ≤ m from ⟨hle, hro, hw⟩)]
/-- .. and where there is none -/
theorem app_none {t t' el el' z m o n cap lx : Nat} {x : V} {L old : List V} (hu : P.underlying t = some (.slice el)) (hk : P.underlying t' = some (.slice el')) (hi : infoOk P el z = true) (hx : ∀ s', x ≠ .s s') (hlx : ∀ k : Nat → Res, lenA x k = k lx) (hf : ∀ k : List V → Res, firsts c st z lx x k = k L)
    (hmax : n + lx ≤ 1073741824) (hcap : cap < n + lx) (ho : ∀ k : List V → Res, firsts c st z n (.sl m o n cap) k = k old) : builtinE P c .append [t, t'] [.sl m o n cap, x] st = some (.sg st.nx 0 (n + lx) z, ⟨st.nx + 1, st.h.set st.nx (.cs el (old ++ L).length (sets (old ++ L) 0 .lf))⟩) := by
  have hls : ∀ k : Nat → Res, lenA (.sl m o n cap) k = k n := fun _ => rfl
  have e1 : builtinE P c .append [t, t'] [.sl m o n cap, x] st = appE c st el z n lx (.sl m o n cap) L := by
    unfold builtinE
    simp only [elemOf_ok hu hi, hls, hk]
    cases x with
    | s s' => exact absurd rfl (hx s')
    | _ => simp only [hlx, hf, infoOk_small hi hmax]
  have b1 : Nat.ble (n + lx) cap = false := by
    cases h : Nat.ble (n + lx) cap with
    | false => rfl
    | true => rw [Nat.ble_eq] at h; omega
  rw [e1]
  unfold appE growE
  simp only [fn_eq, b1, ho, newC_is]
/-- noughts behind it, where there is no room -/
theorem app_mk {t t' el z m o n cap lx : Nat} {k : IntKind} {zs old : List V} (hu : P.underlying t = some (.slice el)) (hk : P.underlying t' = some (.int k)) (hi : infoOk P el z = true) (hzs : ∀ kk : List V → Res, zero P el kk = kk zs)
    (hmax : n + lx ≤ 1073741824) (hcap : cap < n + lx) (ho : ∀ k : List V → Res, firsts c st z n (.sl m o n cap) k = k old) : builtinE P c .append [t, t'] [.sl m o n cap, .c (.int .i64 (lx : Int))] st = some (.sg st.nx 0 (n + lx) z, ⟨st.nx + 1, st.h.set st.nx (.cs el (old ++ rep zs lx).length (sets (old ++ rep zs lx) 0 .lf))⟩) := by
  have hls : ∀ k : Nat → Res, lenA (.sl m o n cap) k = k n := fun _ => rfl
  have e1 : builtinE P c .append [t, t'] [.sl m o n cap, .c (.int .i64 (Int.ofNat lx))] st = appE c st el z n lx (.sl m o n cap) (rep zs lx) := by
    unfold builtinE
    simp only [elemOf_ok hu hi, hls, hk, hzs, infoOk_small hi hmax]
  have b1 : Nat.ble (n + lx) cap = false := by
    cases h : Nat.ble (n + lx) cap with
    | false => rfl
    | true => rw [Nat.ble_eq] at h; omega
  show builtinE P c .append [t, t'] [.sl m o n cap, .c (.int .i64 (Int.ofNat lx))] st = _
  rw [e1]
  unfold appE growE
  simp only [fn_eq, b1, ho, newC_is]
@[simp] theorem evOp_cap {F : CallF} (d : Option Nat) (ty : TypeId) (p : String) (af : Array Edge) (g : Option (Nat × Bool)) (args : Array Operand) (ats : Array TypeId) : evOp P F c e st ⟨d, .call ⟨.builtin .cap, args, ats⟩, ty, p, af, g⟩ = opds e args.toList fun args => builtinE P c .cap ats.toList args st := rfl
/-- a row of one's own, and another: they do not overlap -/
theorem ext_over {F : CallF} {d : Option Nat} {ty : TypeId} {p : String} {af : Array Edge} {g : Option (Nat × Bool)} {f : Nat} (hx : (ext? P f).isSome = true) (hk : xKind P f = 2) (ho : ovArg P f = true) {x1 x2 : Operand} {ats : Array TypeId} {b o k q m u l r ty1 sz1 ty2 sz2 : Nat} {t1 t2 : T V} (ha1 : opv e x1 = some (.sl b o k q)) (ha2 : opv e x2 = some (.sl m u l r)) (hne : b ≠ m) (h1 : 0 < k) (h2 : 0 < l) (ok1 : c.ok b = true) (ok2 : c.ok m = true) (g1 : st.h.get b = some (.cs ty1 sz1 t1)) (g2 : st.h.get m = some (.cs ty2 sz2 t2)) (r1 : ty1 ≠ roT) (u1 : ty1 ≠ unT) (r2 : ty2 ≠ roT) (s1 : 0 < sz1) (s2 : 0 < sz2) : evOp P F c e st ⟨d, .call ⟨.value (.func f), #[x1, x2], ats⟩, ty, p, af, g⟩ = some (.bool false, st) := by
  obtain ⟨g0, hg⟩ := Option.isSome_iff_exists.1 hx
  have ha : ∀ kk : List V → Res, opds e [x1, x2] kk = kk [.sl b o k q, .sl m u l r] := fun kk => by
    rw [opds_bind]
    show (opvs e [x1, x2]).bind kk = _
    rw [opvs_cons, opvs_cons, opvs_nil, ha1, ha2]
    rfl
  rw [evOp_ext hg, ha, extR_none (by rfl)]
  have b1 : Nat.beq b m = false := by rw [nbeq]; exact decide_eq_false hne
  have b2 : Nat.blt 0 k = true := by rw [Nat.blt_eq]; exact h1
  have b3 : Nat.blt 0 l = true := by rw [Nat.blt_eq]; exact h2
  have b4 : Nat.beq ty1 roT = false := by rw [nbeq]; exact decide_eq_false r1
  have b5 : Nat.beq ty1 unT = false := by rw [nbeq]; exact decide_eq_false u1
  have b6 : Nat.beq ty2 roT = false := by rw [nbeq]; exact decide_eq_false r2
  have b7 : Nat.blt 0 sz1 = true := by rw [Nat.blt_eq]; exact s1
  have b8 : Nat.blt 0 sz2 = true := by rw [Nat.blt_eq]; exact s2
  unfold extS
  rw [hk]
  show (match slBlk (.sl b o k q), slBlk (.sl m u l r) with
    | some (n, la), some (m, lb) => (match Nat.beq n m, ovArg P f, Nat.blt 0 la, Nat.blt 0 lb with
      | false, true, true, true => getB c st n fun x => getB c st m fun y => (match x, y with
        | .cs ty sz _, .cs ty' sz' _ => (match Nat.beq ty roT || Nat.beq ty unT, Nat.beq ty' roT, Nat.blt 0 sz, Nat.blt 0 sz' with
          | false, false, true, true => some (V.bool false, st)
          | _, _, _, _ => none)
        | _, _ => none)
      | _, _, _, _ => none)
    | _, _ => none) = _
  simp only [slBlk, b1, ho, b2, b3]
  rw [getB_get b _ _ ok1 g1, getB_get m _ _ ok2 g2]
  simp only [b4, b5, b6, b7, b8, Bool.or_self]
theorem cap_sl {t el z m o n cap : Nat} (hu : P.underlying t = some (.slice el)) (hi : infoOk P el z = true) : builtinE P c .cap [t] [.sl m o n cap] st = some (.int .i64 (cap : Int), st) := by
  have h0 : builtinE P c .cap [t] [.sl m o n cap] st = Ev.elemOf P t fun _ _ => (some (.int .i64 (.ofNat cap), st) : Res) := rfl
  rw [h0, elemOf_ok hu hi]; rfl
end
section
variable {P : Program} {c : Cx} {e : Env} {st : St}
@[simp] theorem evOp_sl3 {F : CallF} (d : Option Nat) (ty : TypeId) (p : String) (af : Array Edge) (g : Option (Nat × Bool)) (t : TypeId) (x mx : Operand) (lo hi : Option Operand) : evOp P F c e st ⟨d, .slice t x lo hi (some mx), ty, p, af, g⟩ = opd e x fun v => slice3E P e t v lo hi mx fun a => some (a, st) := rfl
@[simp] theorem evOp_clear {F : CallF} (d : Option Nat) (ty : TypeId) (p : String) (af : Array Edge) (g : Option (Nat × Bool)) (x : Operand) (t : TypeId) : evOp P F c e st ⟨d, .call ⟨.builtin .clear, #[x], #[t]⟩, ty, p, af, g⟩ = opd e x fun v => builtinE P c .clear [t] [v] st := rfl
/-- three places of a row of one's own: what it tells is a row -/
theorem sg_three {t el z m n h j : Nat} {x y w : Operand} {i1 i2 i3 : IntKind} (hu : P.underlying t = some (.slice el)) (hi : infoOk P el z = true) (hx : opv e x = some (.int i1 (j : Int))) (hy : opv e y = some (.int i2 (h : Int))) (hw : opv e w = some (.int i3 (n : Int))) (h1 : j ≤ h) (h2 : h ≤ n) : ∃ v, ∀ kk : V → Res, slice3E P e t (.sg m 0 n z) (some x) (some y) w kk = kk v := by
  have b1 : Nat.ble j h = true := Nat.ble_eq ▸ h1
  have b2 : Nat.ble h n = true := Nat.ble_eq ▸ h2
  have b3 : Nat.ble n n = true := Nat.ble_eq ▸ Nat.le_refl n
  unfold slice3E
  rw [hu]
  simp only [infoOk_sz hi, bnd_at hx, bnd_at hy, bnd_at hw, b1, b2, b3, Nat.beq_refl, fn_eq]
  exact ⟨_, fun _ => rfl⟩
theorem sg_hi {t el z m o n k : Nat} {x : Operand} {i : IntKind} (hu : P.underlying t = some (.slice el)) (hi : infoOk P el z = true) (hx : opv e x = some (.int i (k : Int))) (h : k ≤ n) : sliceK P c e st t (.sg m o n z) none (some x) = some (.sg m o k z, st) := by
  unfold sliceK
  rw [sliceE_hi hu hi hx m o n h]
theorem sg_loA {t el z m o n k : Nat} {x : Operand} {i : IntKind} (hu : P.underlying t = some (.slice el)) (hi : infoOk P el z = true) (hx : opv e x = some (.int i (k : Int))) (h : k ≤ n) : sliceK P c e st t (.sg m o n z) (some x) none = some (if k = n ∧ k ≠ 0 then .e else .sg m (o + k * z) (n - k) z, st) := by
  unfold sliceK
  rw [sliceE_lo hu hi hx m o n h]
/-- beyond its length, where its block is known -/
theorem sg_past {t el z m n h sz ty : Nat} {tr : T V} {x y : Operand} {i j : IntKind} (hu : P.underlying t = some (.slice el)) (hi : infoOk P el z = true) (hok : c.ok m = true) (hg : st.h.get m = some (.cs ty sz tr)) (hx : opv e x = some (.int i (n : Int))) (hy : opv e y = some (.int j (h : Int))) (h1 : n < h) (h2 : h * z ≤ sz) : sliceK P c e st t (.sg m 0 n z) (some x) (some y) = some (.sg m (n * z) (h - n) z, st) := by
  have b1 : Nat.ble n h = true := Nat.ble_eq ▸ Nat.le_of_lt h1
  have b2 : Nat.ble h n = false := by
    cases q : Nat.ble h n with
    | false => rfl
    | true => rw [Nat.ble_eq] at q; omega
  have b4 : Nat.beq n h = false := by rw [nbeq]; exact decide_eq_false (by omega)
  have b5 : Nat.ble (h * z) sz = true := by rw [Nat.ble_eq]; omega
  have e1 : sliceE P e t (.sg m 0 n z) (some x) (some y) (fun a => (some (a, st) : Res)) = none := by
    unfold sliceE
    rw [hu]
    simp only [infoOk_sz hi, bnd_at hx, bnd_at hy, b1, b2, Nat.beq_refl]
  unfold sliceK
  rw [e1]
  show sliceG P c st e t (.sg m 0 n z) (some x) (some y) = _
  unfold sliceG
  rw [hu]
  simp only [infoOk_sz hi, getB_eq, hok, hg, Option.bind_some, cond_true, bnd_at hx, bnd_at hy, b1, b4, Nat.beq_refl, Bool.false_and, fn_eq, Nat.zero_add, b5]
/-- an append within the block -/
theorem app_in {t t' el el' z m n lx ty sz : Nat} {x : V} {L : List V} {tr : T V} (hu : P.underlying t = some (.slice el)) (hk : P.underlying t' = some (.slice el')) (hi : infoOk P el z = true) (hx : ∀ s', x ≠ .s s') (hlx : ∀ k : Nat → Res, lenA x k = k lx) (hf : ∀ k : List V → Res, firsts c st z lx x k = k L) (hl : L.length = lx * z)
    (hmax : n + lx ≤ 1073741824) (hok : c.ok m = true) (hw : c.wb ≤ m) (hg : st.h.get m = some (.cs ty sz tr)) (hro : ty ≠ roT) (hle : (n + lx) * z ≤ sz) : builtinE P c .append [t, t'] [.sg m 0 n z, x] st = some (.sg m 0 (n + lx) z, ⟨st.nx, st.h.set m (.cs ty sz (sets L (n * z) tr))⟩) := by
  have hls : ∀ k : Nat → Res, lenA (.sg m 0 n z) k = k n := fun _ => rfl
  have e1 : builtinE P c .append [t, t'] [.sg m 0 n z, x] st = appE c st el z n lx (.sg m 0 n z) L := by
    unfold builtinE
    simp only [elemOf_ok hu hi, hls, hk]
    cases x with
    | s s' => exact absurd rfl (hx s')
    | _ => simp only [hlx, hf, infoOk_small hi hmax]
  have b4 : Nat.beq ty roT = false := by rw [nbeq]; exact decide_eq_false hro
  have b5 : Nat.ble ((n + lx) * z) sz = true := by rw [Nat.ble_eq]; omega
  have e2 : (n + lx) * z = n * z + lx * z := Nat.add_mul ..
  rw [e1]
  unfold appE
  simp only [fn_eq, Nat.beq_refl, b4, b5, getB_eq, putB_eq, hg, hok, cond_true, Option.bind_some, csK_cs, Nat.zero_add, if_pos (show n * z + L.length ≤ sz ∧ ty ≠ roT ∧ c.wb ≤ m from ⟨by omega, hro, hw⟩)]
theorem clr_sg {t el z m o n ty sz : Nat} {zs : List V} {tr : T V} (hu : P.underlying t = some (.slice el)) (hi : infoOk P el z = true) (hz : ∀ kk : List V → Res, zero P el kk = kk zs) (hok : c.ok m = true) (hw : c.wb ≤ m) (hg : st.h.get m = some (.cs ty sz tr)) (hro : ty ≠ roT) (hle : o + (rep zs n).length ≤ sz) : builtinE P c .clear [t] [.sg m o n z] st = some (.t [], ⟨st.nx, st.h.set m (.cs ty sz (sets (rep zs n) o tr))⟩) := by
  have e1 : builtinE P c .clear [t] [.sg m o n z] st = Ev.elemOf P t fun el _ => zero P el fun zs => putB c st m o (rep zs n) fun st => (some (.t [], st) : Res) := rfl
  rw [e1, elemOf_ok hu hi, hz, putB_eq, hg]
  simp only [hok, cond_true, Option.bind_some, csK_cs, if_pos (show o + (rep zs n).length ≤ sz ∧ ty ≠ roT ∧ c.wb ≤ m from ⟨hle, hro, hw⟩)]
end
/-- the row without a part -/
def delL (q z : Nat) (old : List V) : List V := old.take q ++ old.drop (q + z)
theorem del_get {q z r : Nat} {old zs : List V} {tr : T V} (hq : q + z ≤ old.length) (ht : ∀ j a, old[j]? = some a → tr.get j = some a) (hr : r = old.length - z) {j : Nat} {a : V} (h : (delL q z old)[j]? = some a) : (sets zs r (sets (old.drop (q + z)) q tr)).get j = some a := by
  have hlt := (List.getElem?_eq_some_iff.1 h).1
  simp only [delL, List.length_append, List.length_take, List.length_drop] at hlt
  rw [get_sets, if_neg (by omega), get_sets]
  unfold delL at h
  by_cases h1 : q ≤ j ∧ j < q + (old.drop (q + z)).length
  · rw [if_pos h1]
    rw [List.getElem?_append_right (by simp; omega)] at h
    rw [← h]; congr 1; simp; omega
  · rw [if_neg h1]
    rw [List.length_drop] at h1
    have hj : j < q := by omega
    rw [List.getElem?_append_left (by simp; omega), List.getElem?_take, if_pos hj] at h
    exact ht j a h
theorem ins_get {q : Nat} {old new : List V} {tr : T V} (hq : q ≤ old.length) (ht : ∀ j a, j < q → old[j]? = some a → tr.get j = some a) {j : Nat} {a : V} (h : (insL q old new)[j]? = some a) : (sets new q (sets (old.drop q) (q + new.length) tr)).get j = some a := by
  unfold insL at h
  rw [get_sets]
  by_cases h1 : q ≤ j ∧ j < q + new.length
  · rw [if_pos h1]
    rw [List.getElem?_append_right (by simp; omega), List.getElem?_append_left (by simp; omega)] at h
    rw [← h]; congr 1; simp; omega
  · rw [if_neg h1, get_sets]
    by_cases h2 : q + new.length ≤ j ∧ j < q + new.length + (old.drop q).length
    · rw [if_pos h2]
      rw [List.getElem?_append_right (by simp; omega), List.getElem?_append_right (by simp; omega)] at h
      rw [← h]; congr 1; simp; omega
    · rw [if_neg h2]
      have hlt : j < (old.take q ++ (new ++ old.drop q)).length := (List.getElem?_eq_some_iff.1 h).1
      simp only [List.length_append, List.length_take, List.length_drop] at hlt h2
      have hj : j < q := by omega
      rw [List.getElem?_append_left (by simp; omega), List.getElem?_take, if_pos hj] at h
      exact ht j a hj h
theorem ins_get' {q : Nat} {old new : List V} {tr : T V} (hq : q ≤ old.length) (ht : ∀ j a, j < q → old[j]? = some a → tr.get j = some a) {j : Nat} {a : V} (h : (insL q old new)[j]? = some a) : (sets (old.drop q) (q + new.length) (sets new q tr)).get j = some a := by
  have e := ins_get hq ht h
  rw [get_sets, get_sets] at e
  rw [get_sets, get_sets, ← e]
  by_cases h1 : q ≤ j ∧ j < q + new.length
  · rw [if_pos h1, if_neg (by omega), if_pos h1]
  · rw [if_neg h1]
    by_cases h2 : q + new.length ≤ j ∧ j < q + new.length + (old.drop q).length
    · rw [if_pos h2, if_neg h1]
    · rw [if_neg h2, if_neg h1]
/-- put behind the last -/
theorem ins_end {old new : List V} {q : Nat} (h : q = old.length) : insL q old new = old ++ new := by
  subst h; simp [insL]
theorem app_get {old new : List V} {tr : T V} {q : Nat} (hq : q = old.length) (ht : ∀ j a, old[j]? = some a → tr.get j = some a) {j : Nat} {a : V} (h : (old ++ new)[j]? = some a) : (sets new q tr).get j = some a := by
  subst hq
  rw [get_sets]
  by_cases h1 : old.length ≤ j ∧ j < old.length + new.length
  · rw [if_pos h1]
    rw [List.getElem?_append_right h1.1] at h; exact h
  · rw [if_neg h1]
    have hlt := (List.getElem?_eq_some_iff.1 h).1
    rw [List.length_append] at hlt
    rw [List.getElem?_append_left (by omega)] at h
    exact ht j a h
end Go.Proofs.Ytcjddojcfdeflaa.Ev

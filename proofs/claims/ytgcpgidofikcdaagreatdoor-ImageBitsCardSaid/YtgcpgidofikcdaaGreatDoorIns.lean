/-
  PLAIN: a part put into a row of which it isn't known how much room is behind it (slices.Insert): answered by itself, from what is shown of it for each room.
-/
import Derived.Test.YtgcpgidofikcdaaGreatDoorEx
set_option linter.unusedSimpArgs false
set_option linter.unusedVariables false
namespace Go.Proofs.YtgcpgidofikcdaaGreatDoor.Ev
open Go.RowKit
mutual
theorem Rel.down {ρ ρ' : Rho} (hρ : ρ.le ρ') : ∀ (v : V) (y x : Value), Rel ρ v y → Rel ρ' v x → Rel ρ v x
  | .c _, _, _, _, h => by simpa [Rel] using h
  | .s _, _, _, _, h => by simpa [Rel] using h
  | .p .., _, _, g, h => by simp only [Rel] at g h ⊢; obtain ⟨r, h1, h2⟩ := h; obtain ⟨r', g1, _⟩ := g; have := hρ _ _ g1; rw [h1] at this; injection this with this; subst this; exact ⟨r, g1, h2⟩
  | .sl .., _, _, g, h => by simp only [Rel] at g h ⊢; obtain ⟨r, h1, h2⟩ := h; obtain ⟨r', g1, _⟩ := g; have := hρ _ _ g1; rw [h1] at this; injection this with this; subst this; exact ⟨r, g1, h2⟩
  | .sg .., _, _, g, h => by simp only [Rel] at g h ⊢; obtain ⟨r, h1, h2⟩ := h; obtain ⟨r', g1, _⟩ := g; have := hρ _ _ g1; rw [h1] at this; injection this with this; subst this; exact ⟨r, g1, h2⟩
  | .e, _, _, _, h => by simpa [Rel] using h
  | .m .., _, _, g, h => by simp only [Rel] at g h ⊢; obtain ⟨r, h1, h2⟩ := h; obtain ⟨r', g1, _⟩ := g; have := hρ _ _ g1; rw [h1] at this; injection this with this; subst this; exact ⟨r, g1, h2⟩
  | .f fn a b, _, _, g, h => by
    simp only [Rel] at g h ⊢
    obtain ⟨a', b', h1, h2, h3⟩ := h
    obtain ⟨a2, b2, _, g2, g3⟩ := g
    exact ⟨a', b', h1, RelL.down hρ a a2 a' g2 h2, RelL.down hρ b b2 b' g3 h3⟩
  | .g l, _, _, g, h => by
    simp only [Rel] at g h ⊢
    obtain ⟨l', h1, h2, h3⟩ := h
    obtain ⟨l2, _, g2, _⟩ := g
    exact ⟨l', h1, RelL.down hρ l l2 l' g2 h2, h3⟩
  | .t l, _, _, g, h => by
    simp only [Rel] at g h ⊢
    obtain ⟨l', h1, h2⟩ := h
    obtain ⟨l2, _, g2⟩ := g
    exact ⟨l', h1, RelL.down hρ l l2 l' g2 h2⟩
theorem RelL.down {ρ ρ' : Rho} (hρ : ρ.le ρ') : ∀ (v : List V) (y x : List Value), RelL ρ v y → RelL ρ' v x → RelL ρ v x
  | [], _, _, _, h => by simpa [RelL] using h
  | v :: vs, _, _, g, h => by
    simp only [RelL] at g h ⊢
    obtain ⟨x, xs, h1, h2, h3⟩ := h
    obtain ⟨y, ys, _, g2, g3⟩ := g
    exact ⟨x, xs, h1, Rel.down hρ v y x g2 h2, RelL.down hρ vs ys xs g3 h3⟩
end
theorem RelE.down {ρ ρ' : Rho} (hρ : ρ.le ρ') {x : MEnt} {y z : MapEntry} (g : RelE ρ x y) (h : RelE ρ' x z) : RelE ρ x z := ⟨Rel.down hρ _ _ _ g.1 h.1, Rel.down hρ _ _ _ g.2.1 h.2.1, h.2.2⟩
theorem MRel.down {ρ ρ' : Rho} (hρ : ρ.le ρ') : ∀ {l : List MEnt} {es fs : List MapEntry}, MRel ρ l es → MRel ρ' l fs → MRel ρ l fs
  | [], [], [], _, _ => trivial
  | _ :: _, _ :: _, _ :: _, g, h => ⟨RelE.down hρ g.1 h.1, MRel.down hρ g.2 h.2⟩
  | [], _ :: _, _, g, _ => g.elim
  | _ :: _, [], _, g, _ => g.elim
  | [], [], _ :: _, _, h => h.elim
  | _ :: _, _ :: _, [], _, h => h.elim
theorem Blk.down {ρ ρ' : Rho} (hρ : ρ.le ρ') {b : B} {r : R} {w w' : World} (g : Blk ρ b r w) (h : Blk ρ' b r w') : Blk ρ b r w' := by
  cases b with
  | cs ty sz t =>
    obtain ⟨_, _, _, _, _, _, _, g5⟩ := g
    obtain ⟨ty', cells, fr, h1, h2, h3, h4, h5⟩ := h
    exact ⟨ty', cells, fr, h1, h2, h3, h4, fun i v hv => by
      obtain ⟨_, _, y, _, g9⟩ := g5 i v hv
      obtain ⟨h6, h7, x, h8, h9⟩ := h5 i v hv
      exact ⟨h6, h7, x, h8, Rel.down hρ _ _ _ g9 h9⟩⟩
  | it l pos => exact h
  | mp l clock => obtain ⟨_, _, g2⟩ := g; obtain ⟨es, h1, h2⟩ := h; exact ⟨es, h1, MRel.down hρ g2 h2⟩
  | _ => trivial
/-- the row with a part put in -/
def insL (q : Nat) (old new : List V) : List V := old.take q ++ (new ++ old.drop q)
theorem insL_length {q : Nat} {old new : List V} (h : q ≤ old.length) : (insL q old new).length = old.length + new.length := by
  simp [insL]; omega
theorem mem_insL {q : Nat} {old new : List V} {a : V} (h : a ∈ insL q old new) : a ∈ old ∨ a ∈ new := by
  simp only [insL, List.mem_append] at h
  rcases h with h | h | h
  · exact .inl (List.mem_of_mem_take h)
  · exact .inr h
  · exact .inl (List.mem_of_mem_drop h)
noncomputable def insK (z : Nat) (c : Cx) (st : St) (m n i b o k : Nat) : Res := match c.all with
  | false => (match Nat.ble c.wb m, Nat.ble i n, Nat.beq m b, Nat.blt 0 k, Nat.ble (n + k) 1048576, Nat.blt 0 z with
    | true, true, false, true, true, true => getB c st m fun x => getB c st b fun y => (match x, y with
      | .cs ty sz tr, .cs ty' sz' tr' => (match Nat.ble (n * z) sz, Nat.beq ty roT, Nat.beq ty' roT || Nat.beq ty' unT, Nat.blt 0 sz' with
        | true, false, false, true => getsB tr (n * z) 0 fun old => getsB tr' (k * z) o fun new => forceL (insL (i * z) old new) fun l => fn l.length fun ln => setsK l 0 .lf fun t =>
          st.h.setK m .gone fun h => h.setK st.nx (.cs unT ln t) fun h => fn (st.nx + 2) fun nx => fn (n + k) fun nk => some (.sg st.nx 0 nk z, ⟨nx, h⟩)
        | _, _, _, _ => none)
      | _, _ => none)
    | _, _, _, _, _, _ => none)
  | true => none
/-- calls of f are answered so, where a row of unknown room comes in -/
noncomputable def insF (F : CallF) (f z : Nat) : CallF := fun c g args st => match Nat.beq g f with
  | true => (match args with
    | [.sg m 0 n z', .c (.int .i64 (.ofNat i)), .sl b o k _] => (match Nat.beq z' z with
      | true => insK z c st m n i b o k
      | false => F c g args st)
    | _ => F c g args st)
  | false => F c g args st
theorem insF_ne (F : CallF) {f z g : Nat} (h : Nat.beq g f = false) (c : Cx) (args : List V) (st : St) : insF F f z c g args st = F c g args st := by unfold insF; rw [h]
/-- what a call for a row of so much room comes to -/
structure InsR (st : St) (m n k cap ty z s0 : Nat) (L : List V) (r : V × St) : Prop where
  le : st.nx ≤ r.2.nx
  nx : r.2.nx ≤ st.nx + 2
  keep : ∀ p, p < st.nx → p ≠ m → r.2.h.get p = st.h.get p
  out : (n + k ≤ cap ∧ r.1 = .sl m 0 (n + k) cap ∧ ∃ tr, r.2.h.get m = some (.cs ty s0 tr) ∧ ∀ j a, L[j]? = some a → tr.get j = some a) ∨
    ∃ q ty2 sz2 tr, st.nx ≤ q ∧ q < r.2.nx ∧ r.1 = .sg q 0 (n + k) z ∧ r.2.h.get q = some (.cs ty2 sz2 tr) ∧ ty2 ≠ roT ∧ (n + k) * z ≤ sz2 ∧ ∀ j a, L[j]? = some a → tr.get j = some a
def InsC (F : CallF) (f z : Nat) : Prop := ∀ (wb nt : Nat) (st : St) (m n i b o k q cap ty s0 ty' sz' : Nat) (tr tr' : T V) (old new : List V), m < st.nx → b < st.nx → wb ≤ m → i ≤ n → m ≠ b → 0 < k → n + k ≤ 1048576 → n ≤ cap →
  cap * z ≤ s0 → st.h.get m = some (.cs ty s0 tr) → ty ≠ roT → st.h.get b = some (.cs ty' sz' tr') → ty' ≠ roT → ty' ≠ unT → 0 < sz' → old.length = n * z → (∀ j a, old[j]? = some a → tr.get j = some a) → new.length = k * z → (∀ j a, new[j]? = some a → tr'.get (o + j) = some a) →
  old.all V.one = true → new.all V.one = true → Gd (F ⟨false, [], wb, nt⟩ f [.sl m 0 n cap, .int .i64 (i : Int), .sl b o k q] st) (InsR st m n k cap ty z s0 (insL (i * z) old new))
theorem insK_inv {z : Nat} {c : Cx} {st : St} {m n i b o k : Nat} {r : V × St} (h : insK z c st m n i b o k = some r) :
    c.all = false ∧ c.ok m = true ∧ c.ok b = true ∧ c.wb ≤ m ∧ i ≤ n ∧ m ≠ b ∧ 0 < k ∧ n + k ≤ 1048576 ∧ 0 < z ∧ ∃ ty sz tr ty' sz' tr' old new, n * z ≤ sz ∧ st.h.get m = some (.cs ty sz tr) ∧ ty ≠ roT ∧ st.h.get b = some (.cs ty' sz' tr') ∧ ty' ≠ roT ∧ ty' ≠ unT ∧ 0 < sz' ∧
      old.length = n * z ∧ (∀ j a, old[j]? = some a → tr.get j = some a) ∧ new.length = k * z ∧ (∀ j a, new[j]? = some a → tr'.get (o + j) = some a) ∧
      r = (.sg st.nx 0 (n + k) z, ⟨st.nx + 2, (st.h.set m .gone).set st.nx (.cs unT (insL (i * z) old new).length (sets (insL (i * z) old new) 0 .lf))⟩) := by
  unfold insK at h
  split at h
  case h_2 => cases h
  rename_i c1
  split at h
  case h_2 => cases h
  rename_i d1 d2 d3 d4 d5 d6
  obtain ⟨x, x1, x2, hA⟩ := getB_inv h
  clear h
  obtain ⟨y, y1, y2, h⟩ := getB_inv hA
  clear hA
  split at h
  case h_2 => cases h
  rename_i ty sz tr ty' sz' tr'
  split at h
  case h_2 => cases h
  rename_i e1 e2 e3 e4
  obtain ⟨old, h, o1, o2⟩ := getsB_inv h
  obtain ⟨new, h, n1, n2⟩ := getsB_inv h
  rw [forceL_eq, fn_eq, setsK_eq, T.setK_eq, T.setK_eq, fn_eq, fn_eq] at h
  have e1' := Nat.le_of_ble_eq_true e1
  simp only [Bool.or_eq_false_iff, nbeq, decide_eq_false_iff_not] at e3 e2 d3
  rw [Nat.ble_eq] at d1 d2 d5
  rw [Nat.blt_eq] at d4 d6 e4
  refine ⟨c1, x1, y1, d1, d2, d3, d4, d5, d6, ty, sz, tr, ty', sz', tr', old, new, e1', x2, e2, y2, e3.1, e3.2, e4, o1, fun j a e => by simpa using o2 j a e, n1, n2, ?_⟩
  injection h with h
  exact h.symm
theorem insF_sound {P : Program} {F F' : CallF} {f z : Nat} (hF' : CallSound P F' ∧ HasBody P F') (hc : InsC F' f z) (hb : ∃ fn b, P.funcs[f]? = some fn ∧ fn.body = some b) (h : CallSound P F ∧ HasBody P F) : CallSound P (insF F f z) ∧ HasBody P (insF F f z) := by
  constructor
  · intro c g args st v st' h' hwf
    unfold insF at h'
    split at h'
    case h_2 => exact h.1 _ _ _ _ _ _ h' hwf
    rename_i hg
    have hg := Nat.eq_of_beq_eq_true hg
    subst hg
    split at h'
    case h_2 => exact h.1 _ _ _ _ _ _ h' hwf
    rename_i m n z' i b o k q
    split at h'
    case h_2 => exact h.1 _ _ _ _ _ _ h' hwf
    rename_i hz
    have hz := Nat.eq_of_beq_eq_true hz
    subst hz
    obtain ⟨c1, ok1, ok2, d1, d2, d3, d4, d5, d6, ty, sz, tr, ty', sz', tr', old, new, m0, m1, m2, b1, b2, b3, b4, o1, o2, n1, n2, hr⟩ := insK_inv h'
    obtain ⟨call, cl, wb, nt⟩ := c
    simp only at c1 d1
    subst c1
    simp only [Prod.mk.injEq] at hr
    obtain ⟨rfl, rfl⟩ := hr
    have hm : m < st.nx := by
      rcases Nat.lt_or_ge m st.nx with h | h
      · exact h
      · rw [hwf m h] at m1; cases m1
    have hbx : b < st.nx := by
      rcases Nat.lt_or_ge b st.nx with h | h
      · exact h
      · rw [hwf b h] at b1; cases b1
    have hL : (insL (i * z') old new).length = (n + k) * z' := by
      rw [insL_length (by rw [o1]; exact Nat.mul_le_mul_right _ d2), o1, n1, Nat.add_mul]
    have get' : ∀ p, ((st.h.set m .gone).set st.nx (.cs unT (insL (i * z') old new).length (sets (insL (i * z') old new) 0 .lf))).get p = if p = st.nx then some (.cs unT (insL (i * z') old new).length (sets (insL (i * z') old new) 0 .lf)) else if p = m then some .gone else st.h.get p := fun p => by
      rw [T.get_set, T.get_set]
      by_cases h1 : st.nx = p
      · rw [if_pos h1, if_pos h1.symm]
      · rw [if_neg h1, if_neg (show ¬ p = st.nx from fun e => h1 e.symm)]
        by_cases h2 : m = p
        · rw [if_pos h2, if_pos h2.symm]
        · rw [if_neg h2, if_neg (show ¬ p = m from fun e => h2 e.symm)]
    refine ⟨⟨Nat.le_add_right _ _, fun p hp hne => ?_, fun _ p hp => ?_, fun p hp hne b' hb' => ?_⟩, fun B0 ρ τ w vs hvs hag hre hfr RR hR => ?_⟩
    · simp only [get'] at hne ⊢
      rw [if_neg (by omega)] at hne ⊢
      by_cases e : p = m
      · subst e; rw [if_pos rfl]; exact ⟨ok1, by rw [m1]; simp, by simp, d1⟩
      · rw [if_neg e] at hne; exact absurd rfl hne
    · simp only [get']
      have hp' : st.nx + 2 ≤ p := hp
      rw [if_neg (by omega), if_neg (by omega)]; exact hwf p (by omega)
    · simp only [get'] at hne
      rw [if_neg (by omega)] at hne
      by_cases e : p = m
      · subst e; rw [m1] at hb'; injection hb' with hb'; subst hb'; exact m2
      · rw [if_neg e] at hne; exact absurd rfl hne
    · have τm := hag m _ ok1 m1
      have τb := hag b _ ok2 b1
      obtain ⟨x1, xs, rfl, r1, hxs⟩ := (show ∃ x xs, vs = x :: xs ∧ Rel ρ (.sg m 0 n z') x ∧ RelL ρ [.c (.int .i64 (.ofNat i)), .sl b o k q] xs by simpa only [RelL] using hvs)
      simp only [Rel] at r1
      obtain ⟨r, hr, _, hle, rfl⟩ := r1
      let cap := (r.size - 0) / z'
      have hcz : cap * z' ≤ r.size := Nat.le_trans (Nat.div_mul_le_self _ _) (Nat.sub_le _ _)
      let st2 : St := ⟨st.nx, ((T.lf : T B).set b (.cs ty' sz' tr')).set m (.cs ty r.size tr)⟩
      let τ2 : Mem := upd τ m (.cs ty r.size tr)
      obtain ⟨rm, qm1, qm2, qm3, qm4⟩ := hre.blk m _ τm
      rw [hr] at qm1; injection qm1 with qm1; subst qm1
      obtain ⟨rb, qb1, qb2, qb3, qb4⟩ := hre.blk b _ τb
      have hnz : n * z' ≤ cap * z' := Nat.mul_le_mul_right _ hle
      have qm4' : Blk ρ (.cs ty r.size tr) r w := by
        obtain ⟨t0, cells, fr, k1, k2, k3, k4, k5⟩ := qm4
        exact ⟨t0, cells, fr, k1, k2, Nat.le_refl _, k4, fun j u hu => by obtain ⟨k6, k7⟩ := k5 j u hu; exact ⟨by omega, k7⟩⟩
      have hre2 : Real ρ B0 τ2 w := by
        refine ⟨hre.size, fun p u hp => ?_, fun p p' u u' rp rp' hp hp' h1 h2 hne h3 h4 => ?_⟩
        · by_cases e : p = m
          · subst e
            have : τ2 p = some (.cs ty r.size tr) := upd_same _ _ _
            rw [this] at hp; injection hp with hp; subst hp
            exact ⟨r, hr, fun _ => qm2 m2, qm3, qm4'⟩
          · have : τ2 p = τ p := upd_ne _ _ e
            rw [this] at hp
            exact hre.blk p u hp
        · have back : ∀ p u, τ2 p = some u → ∃ u0, τ p = some u0 ∧ (u.live → u0.live) ∧ (u.has → u0.has) := fun p u hp => by
            by_cases e : p = m
            · subst e
              have : τ2 p = some (.cs ty r.size tr) := upd_same _ _ _
              rw [this] at hp; injection hp with hp; subst hp
              exact ⟨_, τm, id, id⟩
            · have : τ2 p = τ p := upd_ne _ _ e
              rw [this] at hp
              exact ⟨u, hp, id, id⟩
          obtain ⟨u0, k1, k2, _⟩ := back p u hp
          obtain ⟨u1, k3, _, k4⟩ := back p' u' hp'
          exact hre.inj p p' u0 u1 rp rp' k1 k3 (k2 h1) (k4 h2) hne h3 h4
      have g2m : st2.h.get m = some (.cs ty r.size tr) := T.get_set_same _ _ _
      have g2b : st2.h.get b = some (.cs ty' sz' tr') := (T.get_set_ne _ _ d3).trans (T.get_set_same _ _ _)
      have g2 : ∀ p, p ≠ m → p ≠ b → st2.h.get p = none := fun p hp hq => (T.get_set_ne _ _ (fun e => hp e.symm)).trans ((T.get_set_ne _ _ (fun e => hq e.symm)).trans (by simp))
      have hwf2 : Wf st2 := fun p hp => by
        have hp' : st.nx ≤ p := hp
        exact g2 p (by omega) (by omega)
      have hag2 : Agree ⟨false, [], wb, nt⟩ st2 τ2 := fun p u hok hu => by
        by_cases e : p = m
        · subst e; rw [g2m] at hu; rw [← hu]; exact upd_same _ _ _
        · have : τ2 p = τ p := upd_ne _ _ e
          rw [this]
          by_cases e2 : p = b
          · subst e2; rw [g2b] at hu; rw [← hu]; exact τb
          · rw [g2 p e e2] at hu; cases hu
      -- what the cells are
      have oldR : ∀ a ∈ old, a.one = true ∧ ∃ y, Rel ρ a y := fun a ha => by
        obtain ⟨j, hj⟩ := List.getElem?_of_mem ha
        obtain ⟨_, _, _, _, _, _, _, k5⟩ := qm4
        obtain ⟨_, k7, y, _, k8⟩ := k5 j a (o2 j a hj)
        exact ⟨k7, y, k8⟩
      have newR : ∀ a ∈ new, a.one = true ∧ ∃ y, Rel ρ a y := fun a ha => by
        obtain ⟨j, hj⟩ := List.getElem?_of_mem ha
        obtain ⟨_, _, _, _, _, _, _, k5⟩ := qb4
        obtain ⟨_, k7, y, _, k8⟩ := k5 _ a (n2 j a hj)
        exact ⟨k7, y, k8⟩
      have hoo : old.all V.one = true := List.all_eq_true.2 fun a ha => (oldR a ha).1
      have hno : new.all V.one = true := List.all_eq_true.2 fun a ha => (newR a ha).1
      obtain ⟨⟨v2, st2'⟩, hF, hR2⟩ := hc wb nt st2 m n i b o k q cap ty r.size ty' sz' tr tr' old new hm hbx d1 d2 d3 d4 d5 hle hcz g2m m2 g2b b2 b3 b4 o1 o2 n1 n2 hoo hno
      obtain ⟨hs2, hsem⟩ := hF'.1 _ _ _ _ _ _ hF hwf2
      have l2 : st.nx ≤ st2'.nx := hR2.le
      have l3 : st2'.nx ≤ st.nx + 2 := hR2.nx
      have hwf2' := hs2.wf hwf2
      have hnone : ∀ p, st.nx ≤ p → p < st.nx + 2 → τ p = none := fun p h1 h2 => by
        cases e : τ p with
        | none => rfl
        | some u =>
          obtain ⟨ru, e1, _⟩ := hre.blk p u e
          rw [hfr p h1 h2] at e1; cases e1
      refine hsem B0 ρ τ2 w _ (RelL.cons (by simp only [Rel]; exact ⟨r, hr, rfl⟩) hxs) hag2 hre2 (fun p h1 h2 => hfr p h1 (Nat.lt_of_lt_of_le h2 l3)) RR fun ρ' v' w' hle' hdom hrel hre' hbel => ?_
      have hfn : ρ st.nx = none := hfr st.nx (Nat.le_refl _) (by show st.nx < st.nx + 2; omega)
      -- the result's place
      have τ'old : ∀ p u, p ≠ m → τ p = some u → ov st2 st2' τ2 p = some u := fun p u hp hu => by
        have hp2 : ¬ (st.nx ≤ p ∧ p < st.nx + 2) := fun hh => by rw [hnone p hh.1 hh.2] at hu; cases hu
        unfold ov
        rw [if_neg (fun hh => hp2 ⟨hh.1, Nat.lt_of_lt_of_le hh.2 l3⟩)]
        have e : st2.h.get p = st2'.h.get p := by
          by_cases hlt : p < st.nx
          · exact (hR2.keep p hlt hp).symm
          · rw [hwf2 p (by show st.nx ≤ p; omega), hwf2' p (by omega)]
        rw [if_pos e]
        show upd τ m _ p = _
        rw [upd_ne _ _ hp]; exact hu
      have place : ∃ (mm : Nat) (r2 : R) (ty2 sz2 : Nat) (t2 : T V), ρ' mm = some r2 ∧ (mm = m ∨ st.nx ≤ mm) ∧ ov st2 st2' τ2 mm = some (.cs ty2 sz2 t2) ∧ ty2 ≠ roT ∧ (n + k) * z' ≤ sz2 ∧ (∀ j a, (insL (i * z') old new)[j]? = some a → t2.get j = some a) ∧ n + k ≤ (r2.size - 0) / z' ∧ v' = .slice (some ⟨r2.block, r2.base + 0, none⟩) (n + k) ((r2.size - 0) / z') ∧ (st.nx ≤ mm → mm < st.nx + 2) := by
        rcases hR2.out with ⟨a1, a2, tr2, a3, a4⟩ | ⟨q2, ty2, sz2, tr2, a1, a2, a3, a4, a5, a6, a7⟩
        · simp only at a2 a3
          subst a2
          simp only [Rel] at hrel
          obtain ⟨r2, hr2, rfl⟩ := hrel
          have := hle' m r hr
          rw [hr2] at this; injection this with this; subst this
          refine ⟨m, r2, ty, r2.size, tr2, hr2, .inl rfl, ?_, m2, Nat.le_trans (Nat.mul_le_mul_right _ a1) hcz, a4, a1, rfl, fun h => by omega⟩
          unfold ov
          rw [if_neg (fun hh => by have : st.nx ≤ m := hh.1; omega)]
          by_cases e : st2.h.get m = st2'.h.get m
          · rw [if_pos e]
            show upd τ m _ m = _
            rw [upd_same, ← g2m, e, a3]
          · rw [if_neg e, a3]
        · simp only at a2 a3 a4
          subst a3
          simp only [Rel] at hrel
          obtain ⟨r2, hr2, _, hle2, rfl⟩ := hrel
          refine ⟨q2, r2, ty2, sz2, tr2, hr2, .inr a1, ?_, a5, a6, a7, hle2, rfl, fun _ => by omega⟩
          unfold ov
          rw [if_pos ⟨a1, a2⟩, a4]
      obtain ⟨mm, r2, ty2, sz2, t2, p1, p2, p3, p4, p5, p6, p7, rfl, p8⟩ := place
      have hle3 : ρ.le (upd ρ st.nx r2) := fun p u e => by
        by_cases hp : p = st.nx
        · subst hp; rw [hfn] at e; cases e
        · rw [upd_ne _ _ hp]; exact e
      obtain ⟨rr, s1, s2, s3, s4⟩ := hre'.blk mm _ p3
      rw [p1] at s1; injection s1 with s1; subst s1
      -- the memory behind it
      have τf : ∀ p, ov st ⟨st.nx + 2, (st.h.set m .gone).set st.nx (.cs unT (insL (i * z') old new).length (sets (insL (i * z') old new) 0 .lf))⟩ τ p = if p = st.nx then some (.cs unT (insL (i * z') old new).length (sets (insL (i * z') old new) 0 .lf)) else if p = m then some .gone else τ p := fun p => by
        unfold ov
        have e0 := get' p
        by_cases h1 : st.nx ≤ p ∧ p < st.nx + 2
        · rw [if_pos h1]
          by_cases h2 : p = st.nx
          · rw [if_pos h2] at e0 ⊢; exact e0
          · have h3 : ¬ p = m := by omega
            rw [if_neg h2, if_neg h3] at e0 ⊢
            exact e0.trans ((hwf p h1.1).trans (hnone p h1.1 h1.2).symm)
        · rw [if_neg h1]
          have h2 : ¬ p = st.nx := by omega
          rw [if_neg h2] at e0 ⊢
          by_cases h3 : p = m
          · rw [if_pos h3] at e0 ⊢
            rw [if_neg (fun hh => by rw [e0, h3, m1] at hh; cases hh)]
            exact e0
          · rw [if_neg h3] at e0 ⊢
            exact if_pos e0.symm
      refine hR (upd ρ st.nx r2) _ w' hle3 (fun p u e => ?_) ?_ ?_ hbel
      · by_cases hp : p = st.nx
        · subst hp; exact .inr ⟨Nat.le_refl _, by show st.nx < st.nx + 2; omega⟩
        · rw [upd_ne _ _ hp] at e; exact .inl e
      · simp only [Rel]
        exact ⟨r2, upd_same _ _ _, d6, p7, rfl⟩
      · refine ⟨hre'.size, fun p u hp => ?_, fun p p' u u' rp rp' hp hp' h1 h2 hne h3 h4 => ?_⟩
        · rw [τf] at hp
          by_cases e1 : p = st.nx
          · rw [if_pos e1] at hp
            injection hp with hp; subst hp e1
            refine ⟨r2, upd_same _ _ _, fun _ => s2 p4, s3, ?_⟩
            obtain ⟨t0, cells, fr, k1, k2, k3, k4, k5⟩ := s4
            refine ⟨t0, cells, fr, k1, k2, by rw [hL]; omega, fun _ => ⟨(k4 p4).1, fun hh => absurd rfl hh⟩, fun j u hu => ?_⟩
            rw [get_sets] at hu
            by_cases hj : 0 ≤ j ∧ j < 0 + (insL (i * z') old new).length
            · rw [if_pos hj, Nat.sub_zero] at hu
              obtain ⟨k6, k7, x, k8, k9⟩ := k5 j u (p6 j u hu)
              obtain ⟨y, hy⟩ : ∃ y, Rel ρ u y := by
                rcases mem_insL (List.mem_of_getElem? hu) with hmem | hmem
                · exact (oldR u hmem).2
                · exact (newR u hmem).2
              exact ⟨by omega, k7, x, k8, Rel.mono hle3 _ _ (Rel.down hle' _ _ _ hy k9)⟩
            · rw [if_neg hj] at hu
              simp at hu
          · rw [if_neg e1] at hp
            by_cases e2 : p = m
            · rw [if_pos e2] at hp
              injection hp with hp; subst hp e2
              refine ⟨r, hle3 _ _ hr, fun hh => hh.elim, Nat.lt_of_lt_of_le qm3 hbel.size, trivial⟩
            · rw [if_neg e2] at hp
              obtain ⟨ru, q1, q2, q3, q4⟩ := hre.blk p u hp
              obtain ⟨ru', q1', q2', q3', q4'⟩ := hre'.blk p u (τ'old p u e2 hp)
              have := hle' p ru q1
              rw [q1'] at this; injection this with this; subst this
              exact ⟨ru', hle3 _ _ q1, q2', q3', (Blk.down hle' q4 q4').mono hle3⟩
        · rw [τf] at hp hp'
          -- the names that they had
          have back : ∀ p u rp, (if p = st.nx then some (B.cs unT (insL (i * z') old new).length (sets (insL (i * z') old new) 0 .lf)) else if p = m then some .gone else τ p) = some u → u.has → upd ρ st.nx r2 p = some rp → ∃ p0 u0, ov st2 st2' τ2 p0 = some u0 ∧ (u.live → u0.live) ∧ u0.has ∧ ρ' p0 = some rp ∧ (p = st.nx ∧ p0 = mm ∨ p ≠ st.nx ∧ p0 = p ∧ p ≠ m ∧ ¬ (st.nx ≤ p ∧ p < st.nx + 2)) := fun p u rp hp hh hrp => by
            by_cases e1 : p = st.nx
            · rw [if_pos e1] at hp
              injection hp with hp; subst hp e1
              rw [upd_same] at hrp; injection hrp with hrp; subst hrp
              exact ⟨mm, _, p3, fun _ => p4, trivial, p1, .inl ⟨rfl, rfl⟩⟩
            · rw [if_neg e1] at hp
              by_cases e2 : p = m
              · rw [if_pos e2] at hp
                injection hp with hp; subst hp
                exact hh.elim
              · rw [if_neg e2] at hp
                rw [upd_ne _ _ e1] at hrp
                exact ⟨p, u, τ'old p u e2 hp, id, hh, hle' _ _ hrp, .inr ⟨e1, rfl, e2, fun hx => by rw [hnone p hx.1 hx.2] at hp; cases hp⟩⟩
          obtain ⟨p0, u0, k1, k2, k3, k4, k5⟩ := back p u rp hp h1.has h3
          obtain ⟨p0', u0', j1, j2, j3, j4, j5⟩ := back p' u' rp' hp' h2 h4
          refine hre'.inj p0 p0' u0 u0' rp rp' k1 j1 (k2 h1) j3 (fun e => ?_) k4 j4
          rcases k5 with ⟨x1, x2⟩ | ⟨x1, x2, x3, x4⟩
          · rcases j5 with ⟨y1, y2⟩ | ⟨y1, y2, y3, y4⟩
            · exact hne (x1.trans y1.symm)
            · rcases p2 with hh | hh
              · exact y3 (by rw [← y2, ← e, x2, hh])
              · exact y4 ⟨by rw [← y2, ← e, x2]; exact hh, by rw [← y2, ← e, x2]; exact p8 hh⟩
          · rcases j5 with ⟨y1, y2⟩ | ⟨y1, y2, y3, y4⟩
            · rcases p2 with hh | hh
              · exact x3 (by rw [← x2, e, y2, hh])
              · exact x4 ⟨by rw [← x2, e, y2]; exact hh, by rw [← x2, e, y2]; exact p8 hh⟩
            · exact hne (by rw [← x2, ← y2, e])
  · intro c g args st r h'
    unfold insF at h'
    split at h'
    case h_2 => exact h.2 _ _ _ _ _ h'
    rename_i hg
    have hg := Nat.eq_of_beq_eq_true hg
    subst hg
    exact hb
end Go.Proofs.YtgcpgidofikcdaaGreatDoor.Ev

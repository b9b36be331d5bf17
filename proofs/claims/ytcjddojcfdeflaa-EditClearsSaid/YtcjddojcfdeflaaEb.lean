/-
  PLAIN: EvM, EvN, EvX, EvY, EvO, EvP, EvR, EvS, EvQ, in one text.
-/
import Derived.Test.YtcjddojcfdeflaaEa
import Derived.Laws.RangeString
import Derived.Lib.OthersKept
import Derived.MapKept
import Derived.Tactics
import Derived.Laws.Externs
import Derived.LoopN
import Derived.Lib.MakeNoZero
import Derived.Scope
namespace Go.Proofs.Ytcjddojcfdeflaa.Ev
open Go.RowKit

section
variable {P : Program} {c : Cx} {st st' : St} {v : V} {e : Env} {o : Oper}
theorem appE_ok {t t' el : TypeId} {i : TypeInfo} {ls lx : Nat} {s : V} {new : List V} (hwf : Wf st) (A : App P c st e o t t' el i ls lx s new) (h : appE c st el i.size ls lx s new = some (v, st')) :
    StepOk c st st' ∧ OpOk P c st st' v e o := by
  have hs := A.size
  have lenS : ∀ {base : Option Addr} {len cap : Nat} {w : World}, (Builtin.lenOf (.slice base len cap)).run P w = .ok len w := by simp [Builtin.lenOf]
  have eqL : ∀ (ρ : Rho) (a : Act) (w : World), (∀ x, x ∈ o.op.operands.toList → TmpRel ρ e a x) → ∀ base len cap, (∀ y, Rel ρ s y → y = .slice base len cap) → len = ls := fun ρ a w hx base len cap hy => by
    obtain ⟨y, y', r1, r2, _⟩ := A.run ρ a w hx
    have := hy y r1
    subst this
    have h1 := r2 w
    rw [lenS] at h1
    injection h1
  unfold appE at h
  rw [fn_eq] at h
  split at h
  · rename_i n o' len cap
    -- the length that is spoken of is the slice's
    by_cases hlen : len = ls
    · subst hlen
      split at h
      · rename_i hle
        have hle' : len + lx ≤ cap := by simpa [Nat.ble_eq] using hle
        cases hst : still c n lx with
        | true =>
          rw [hst] at h
          obtain ⟨rfl, rfl⟩ := some_inv h
          have h0 : lx = 0 := by
            unfold still at hst
            cases hb : Nat.ble c.wb n with
            | true => rw [hb] at hst; cases hst
            | false => rw [hb] at hst; exact Nat.eq_of_beq_eq_true hst
          subst h0
          refine ok_nothing A (fun ρ y hy _ => ?_)
          simp only [Rel] at hy
          obtain ⟨r, hr, rfl⟩ := hy
          exact ⟨_, _, rfl, hle'⟩
        | false =>
        rw [hst] at h
        simp only at h
        rw [fn_eq] at h
        refine ok_room A (fun ρ y r sz hy hr hsz hat => ?_) h
        simp only [Rel] at hy
        obtain ⟨r', hr', rfl⟩ := hy
        rw [hr] at hr'; injection hr' with hr'; subst hr'
        exact ⟨o', cap, rfl, rfl, hle', by simp only [Rel]; exact ⟨r, hr, rfl⟩⟩
      · rename_i hle
        have hle' : ¬ len + lx ≤ cap := by
          intro hh
          have : Nat.ble (len + lx) cap = true := by simpa [Nat.ble_eq] using hh
          rw [this] at hle; cases hle
        refine ok_grow A (fun ρ y hy _ => ?_) h
        simp only [Rel] at hy
        obtain ⟨r, hr, rfl⟩ := hy
        exact ⟨_, _, rfl, by omega⟩
    · have hst : StepOk c st st' := by
        split at h
        · cases hst : still c n lx with
          | true =>
            rw [hst] at h
            obtain ⟨rfl, rfl⟩ := some_inv h
            exact StepOk.refl _ _
          | false =>
          rw [hst] at h
          simp only at h
          rw [fn_eq] at h
          obtain ⟨ty, sz, tr, g1, g2, g3, g4, g5⟩ := putB_inv h
          obtain ⟨_, rfl⟩ := some_inv g5
          exact stepOk_set g1 g2 g4.1 g4.2
        · unfold growE at h
          obtain ⟨old, h1, _, _⟩ := firsts_inv (P := P) h
          rw [newC_eq] at h1
          obtain ⟨_, rfl⟩ := some_inv h1
          exact stepOk_new
      refine ⟨hst, fun B0 ρ τ w a hx hag hre hf K Q hK => ?_⟩
      obtain ⟨y, y', r1, r2, _⟩ := A.run ρ a w hx
      simp only [Rel] at r1
      obtain ⟨r, hr, rfl⟩ := r1
      have h1 := r2 w
      rw [lenS] at h1
      injection h1 with h1
      exact absurd h1 hlen
  · rename_i n o' len z'
    split at h
    · cases h
    · rename_i hz
      have hz' : i.size = z' := by simpa [nbeq] using hz
      subst hz'
      obtain ⟨b, g1, g2, g3⟩ := getB_inv h
      split at g3
      · rename_i ty sz tr
        split at g3
        · cases g3
        rename_i hro
        have hro' : ty ≠ roT := fun e => by subst e; simp at hro
        by_cases hlen : len = ls
        · subst hlen
          split at g3
          · rename_i hle
            have hle' : o' + (len + lx) * i.size ≤ sz := by simpa [Nat.ble_eq] using hle
            rw [fn_eq] at g3
            have hcap : ∀ r : R, sz ≤ r.size → len + lx ≤ (r.size - o') / i.size := fun r hr => by
              rw [Nat.le_div_iff_mul_le (by omega)]; omega
            -- the block is the one that was looked at
            obtain ⟨ty2, sz2, tr2, k1, k2, k3, k4, k5⟩ := putB_inv g3
            rw [g2] at k2
            injection k2 with k2
            injection k2 with e1 e2 e3
            subst e1 e2 e3
            obtain ⟨rfl, rfl⟩ := some_inv k5
            refine opOk_set k1 g2 k3 k4 fun B0 ρ τ w a r hx hag hre hr hsz => ?_
            obtain ⟨y, y', r1, r2, r3, r4⟩ := A.run ρ a w hx
            obtain ⟨news, n1, n2, n3⟩ := r4 B0 τ hag hre
            simp only [Rel] at r1
            obtain ⟨r', hr', _, _, rfl⟩ := r1
            rw [hr] at hr'; injection hr' with hr'; subst hr'
            have hlen := n1.length
            have ht := hre.there (hag n _ g1 g2) hr hro' (i := o' + len * i.size) (m := new.length) (by omega)
            have := run_append_room_x (P := P) w t t' o.type el i A.under A.info r.block (r.base + o') len ((r.size - o') / i.size) y' lx news n3 (hcap r hsz) (fun j hj => by
              have := (ht j (by omega)).1
              rw [← this]; congr 3; omega) (fun j hj => by
              have := (ht j (by omega)).2
              rw [← this]; congr 3; omega)
            refine ⟨_, news, n1, n2, by simp only [Rel]; exact ⟨r, hr, by omega, hcap r hsz, rfl⟩, .inl ?_⟩
            rw [r3, this]
            simp only [Result.andThen_ok]
            congr 1
            rw [Nat.add_assoc]
          · split at g3
            · cases g3
            · rename_i hend
              split at g3
              · exact ok_merge0 hwf A g1 g2 hro' (by simpa [nbeq] using hend) g3
              · exact ok_merge hwf A g1 g2 hro' (by simpa [nbeq] using hend) g3
        · have hst : StepOk c st st' := by
            split at g3
            · rw [fn_eq] at g3
              obtain ⟨ty, sz, tr, q1, q2, q3, q4, q5⟩ := putB_inv g3
              obtain ⟨_, rfl⟩ := some_inv q5
              exact stepOk_set q1 q2 q4.1 q4.2
            · split at g3
              · cases g3
              · split at g3
                · obtain ⟨q4, h4⟩ := setB_inv g3
                  rw [setsK_eq, fn_eq, fn_eq, newB_eq] at h4
                  obtain ⟨_, rfl⟩ := some_inv h4
                  exact (stepOk_set g1 g2 q4 hro').trans (stepOk_new (st := ⟨st.nx, st.h.set n .gone⟩))
                · obtain ⟨old, h1, _, _⟩ := firsts_inv (P := P) g3
                  obtain ⟨q4, h4⟩ := setB_inv h1
                  rw [newC_eq] at h4
                  obtain ⟨_, rfl⟩ := some_inv h4
                  exact (stepOk_set g1 g2 q4 hro').trans (stepOk_new (st := ⟨st.nx, st.h.set n .gone⟩))
          refine ⟨hst, fun B0 ρ τ w a hx hag hre hf K Q hK => ?_⟩
          obtain ⟨y, y', r1, r2, _⟩ := A.run ρ a w hx
          simp only [Rel] at r1
          obtain ⟨r, hr, _, _, rfl⟩ := r1
          have h1 := r2 w
          rw [lenS] at h1
          injection h1 with h1
          exact absurd h1 hlen
      · cases g3
  · have key : ∀ (ρ : Rho) (y : Value), Rel ρ (.c (.slice none 0 0)) y → (∀ w, (Builtin.lenOf y).run P w = .ok ls w) → y = .slice none 0 0 ∧ ls = 0 := fun ρ y hy hl => by
      simp only [Rel] at hy
      obtain ⟨rfl, _⟩ := hy
      have h1 := hl default
      rw [lenS] at h1
      injection h1 with h1
      exact ⟨rfl, h1.symm⟩
    split at h
    · obtain ⟨rfl, rfl⟩ := some_inv h
      refine ok_nothing A fun ρ y hy hl => ?_
      obtain ⟨rfl, rfl⟩ := key ρ y hy hl
      exact ⟨_, _, rfl, Nat.le_refl _⟩
    · rename_i hx
      refine ok_grow A (fun ρ y hy hl => ?_) h
      obtain ⟨rfl, rfl⟩ := key ρ y hy hl
      refine ⟨_, _, rfl, ?_⟩
      have : lx ≠ 0 := fun e => hx e
      omega
  · split at h
    · obtain ⟨rfl, rfl⟩ := some_inv h
      refine ok_nothing A fun ρ y hy hl => ?_
      simp only [Rel] at hy
      obtain ⟨a, cc, rfl⟩ := hy
      have h1 := hl default
      rw [lenS] at h1
      injection h1 with h1
      subst h1
      exact ⟨_, _, rfl, Nat.zero_le _⟩
    · cases h
  · cases h
/-- a row of zeros behind nothing -/
theorem run_append_make (w : World) (t tx ty el : TypeId) (i : TypeInfo) (z : Value) (k : IntKind) (hu : P.underlying t = some (.slice el)) (hk : P.underlying tx = some (.int k)) (hi : P.info? el = some i) (hz : i.zero = some z) (hs : 1 ≤ i.size) (n : Nat) (h1 : 1 ≤ n) (hn : n ≤ 1073741824) (hby : i.bytes ≤ 1024) :
    (Builtin.append_ #[t, tx] ty #[.slice none 0 0, .int .i64 (Int.ofNat n)]).run P w = .ok (.slice (some ⟨w.heap.size, 0, none⟩) n (grownCap w n 0 el)) (w.drew.alloc (.cells (Builtin.zeroCells z.cells n ++ Builtin.zeroCells z.cells (grownCap w n 0 el - n)) el)) := by
  have hw : IntKind.i64.wrap (Int.ofNat n) = (n : Int) := by
    have h1 : (n : Int) % 18446744073709551616 = n := by omega
    have h2 : ¬ ((9223372036854775808 : Int) ≤ n) := by omega
    simp [IntKind.wrap, IntKind.bits, IntKind.signed, h1, h2]
  have hw2 : IntKind.i64.wrap (n : Int) = (n : Int) := hw
  have e1 : ¬ ((n : Int) < 0) := by omega
  have hb : n * i.bytes ≤ 1073741824 * 1024 := Nat.mul_le_mul hn hby
  have e2 : ¬ ((281474976710656 : Int) < (n : Int) * (i.bytes : Int)) := by
    have : ((n * i.bytes : Nat) : Int) ≤ ((1073741824 * 1024 : Nat) : Int) := by exact_mod_cast hb
    simp only [Int.natCast_mul] at this
    omega
  have e4 : ¬ (9223372036854775807 < (n : Int)) := by omega
  have e5 : Builtin.nextslicecap n 0 = n := by unfold Builtin.nextslicecap; rw [if_pos (by omega)]
  have e6 : ¬ (281474976710656 < n * i.bytes) := by omega
  have e7 : ¬ (n * i.size = 0) := by
    intro h
    rcases Nat.mul_eq_zero.1 h with h | h <;> omega
  have e8 : n ≠ 0 := by omega
  simp [Builtin.append_, run_underlying hu, run_underlying hk, sizeOf, typeInfo, zeroValue, hi, hz, Go.asInt, asIntOf, hw2, e1, e2, e4, e5, e6, e7, e8, Question.forced, Builtin.firstCells, newRow, grownCap]
/-- an append, from what the call bears -/
theorem ok_append {cl : Call} {t t' : TypeId} {s x : V} (hwf : Wf st) (ho : o.op = .call cl) (hb : cl.callee = .builtin .append) (ht : cl.argTypes.toList = [t, t'])
    (h : (elemOf P t fun el z => lenA s fun ls => (match P.underlying t' with
      | some (.slice _) => (match x with
        | .s _ => none
        | _ => lenA x fun lx => firsts c st z lx x fun new => (match small P el (ls + lx) with | true => appE c st el z ls lx s new | false => none))
      | some .string => (match x with
        | .s _ => lenA x fun lx => firsts c st z lx x fun new => (match small P el (ls + lx) with | true => appE c st el z ls lx s new | false => none)
        | _ => none)
      | some (.int _) => (match s, x with
        | .c (.slice none 0 0), .c (.int .i64 (.ofNat lx)) => (match Nat.ble 1 lx, small P el lx with | true, true => zero P el fun zs => newC st el (rep zs lx) fun n st => (some (.sg n 0 lx z, st) : Res) | _, _ => none)
        | s, .c (.int .i64 (.ofNat lx)) => (match small P el (ls + lx) with | true => zero P el fun zs => appE c st el z ls lx s (rep zs lx) | _ => none)
        | _, _ => none)
      | _ => none)) = some (v, st'))
    (hx : ∀ (ρ : Rho) (a : Act), (∀ y, y ∈ cl.args.toList → TmpRel ρ e a y) → RelL ρ [s, x] (cl.args.toList.map a.eval)) : StepOk c st st' ∧ OpOk P c st st' v e o := by
  obtain ⟨el, i, hu, hi, h1⟩ := elemOf_inv h
  obtain ⟨ls, h2, h3⟩ := lenA_inv (P := P) h1
  have fin : ((∃ e', P.underlying t' = some (.slice e')) ∨ P.underlying t' = some .string) → (lenA x fun lx => firsts c st i.size lx x fun new => (match small P el (ls + lx) with | true => appE c st el i.size ls lx s new | false => none)) = some (v, st') → StepOk c st st' ∧ OpOk P c st st' v e o := fun hk h4 => by
    obtain ⟨lx, h5, h6⟩ := lenA_inv (P := P) h4
    obtain ⟨new, h7, h8, h9⟩ := firsts_inv (P := P) h5
    split at h7
    · rename_i hsm
      obtain ⟨i', z, s1, s2, s3, s4, s5, s6⟩ := small_inv hsm
      rw [hi] at s1; injection s1 with s1; subst s1
      refine appE_ok (t' := t') hwf ⟨fun ρ a w hxx => ?_, hu, hi, ⟨z, s2, s6⟩, s3, s4, s5, h8⟩ h7
      rw [ho] at hxx
      obtain ⟨y, y', hy, r1, r2⟩ := relL2 (hx ρ a fun y hy => hxx y (call_ops hb y hy))
      have e1 : cl.args.map a.eval = #[y, y'] := arr2 (by rw [Array.toList_map]; exact hy)
      refine ⟨y, y', r1, h3 ρ y r1, ?_, fun B0 τ hag hre => ?_⟩
      · rw [run_builtin ho hb, e1, arr2 ht]
        simp [builtin]
      · obtain ⟨xs, k1, k2, k3⟩ := h9 B0 ρ τ w y' hag hre r2
        exact ⟨xs, k1, k2, .inl (src_of hk (h6 ρ y' r2) h8 k1 k2 k3)⟩
    · cases h7
  split at h2
  · rename_i e' hk
    split at h2
    · cases h2
    · exact fin (.inl ⟨e', hk⟩) h2
  · rename_i hk
    split at h2
    · exact fin (.inr hk) h2
    · cases h2
  · rename_i k hk
    split at h2
    · rename_i lx
      split at h2
      · rename_i h1x hsm
        have h1x' : 1 ≤ lx := by simpa [Nat.ble_eq] using h1x
        obtain ⟨i', z, s1, s2, s3, s4, s5, s6⟩ := small_inv hsm
        rw [hi] at s1; injection s1 with s1; subst s1
        obtain ⟨i2, z2, cs, z1, z2', z3, z4, z5⟩ := zero_inv h2
        rw [hi] at z1; injection z1 with z1; subst z1
        rw [s2] at z2'; injection z2' with z2'; subst z2'
        rw [newC_eq] at z3
        obtain ⟨rfl, rfl⟩ := some_inv z3
        refine opOk_new fun B0 ρ τ w a hxx hag hre => ?_
        rw [ho] at hxx
        obtain ⟨y, y', hy, r1, r2⟩ := relL2 (hx ρ a fun y hy => hxx y (call_ops hb y hy))
        simp only [Rel] at r1 r2
        obtain ⟨rfl, _⟩ := r1
        obtain ⟨rfl, _⟩ := r2
        have e1 : cl.args.map a.eval = #[.slice none 0 0, .int .i64 (Int.ofNat lx)] := arr2 (by rw [Array.toList_map]; exact hy)
        have hz0 := z5 ρ
        have hcl : cs.length = i.size := by rw [← s6]; exact (by simpa using hz0.length.symm)
        have hlen : (Builtin.zeroCells z.cells lx).size = lx * i.size := by rw [zeroCells_size, s6]
        refine ⟨.slice (some ⟨w.heap.size, 0, none⟩) lx (grownCap w lx 0 el), w.drew.alloc (.cells (Builtin.zeroCells z.cells lx ++ Builtin.zeroCells z.cells (grownCap w lx 0 el - lx)) el), (Builtin.zeroCells z.cells lx).toList, Builtin.zeroCells z.cells lx ++ Builtin.zeroCells z.cells (grownCap w lx 0 el - lx), (0, 0), ?_, rep_all z4 lx, ?_, rfl, rfl, rfl, rfl, ?_, ?_, .inl rfl, fun ρ' hρ => ?_⟩
        · exact rep_rel_arr hz0 lx _ rfl
        · rw [run_builtin ho hb, e1, arr2 ht]
          simp only [builtin, Sem.run_bind]
          rw [run_append_make (P := P) w t t' o.type el i z k hu hk hi s2 s5 lx h1x' s3 s4]
          rfl
        · intro j u hj
          have hlt : j < (Builtin.zeroCells z.cells lx).toList.length := by
            rcases Nat.lt_or_ge j (Builtin.zeroCells z.cells lx).toList.length with h | h
            · exact h
            · rw [List.getElem?_eq_none h] at hj; cases hj
          rw [Array.getElem?_append_left (by simpa using hlt)]
          simpa using hj
        · simp only [Array.length_toList, Array.size_append]; omega
        · have hge := grownCap_ge w lx 0 el
          simp only [Rel]
          have hsz : (Builtin.zeroCells z.cells lx ++ Builtin.zeroCells z.cells (grownCap w lx 0 el - lx)).size = grownCap w lx 0 el * i.size := by
            rw [Array.size_append, zeroCells_size, zeroCells_size, s6, ← Nat.add_mul]; congr 1; omega
          have hdiv : ((Builtin.zeroCells z.cells lx ++ Builtin.zeroCells z.cells (grownCap w lx 0 el - lx)).size - 0) / i.size = grownCap w lx 0 el := by rw [Nat.sub_zero, hsz]; exact Nat.mul_div_cancel _ (by omega)
          exact ⟨_, hρ, by omega, by rw [hdiv]; exact hge, by rw [hdiv]⟩
      · cases h2
    · rename_i lx _
      split at h2
      · rename_i hsm
        obtain ⟨i', z, s1, s2, s3, s4, s5, s6⟩ := small_inv hsm
        rw [hi] at s1; injection s1 with s1; subst s1
        obtain ⟨i2, z2, cs, z1, z2', z3, z4, z5⟩ := zero_inv h2
        rw [hi] at z1; injection z1 with z1; subst z1
        rw [s2] at z2'; injection z2' with z2'; subst z2'
        have hcl : cs.length = i.size := by rw [← s6]; exact (by simpa using (z5 (fun _ => none)).length.symm)
        have hrl : (rep cs lx).length = lx * i.size := by rw [← hcl]; exact rep_length cs lx
        refine appE_ok (t' := t') hwf ⟨fun ρ a w hxx => ?_, hu, hi, ⟨z, s2, s6⟩, s3, s4, s5, hrl⟩ z3
        rw [ho] at hxx
        obtain ⟨y, y', hy, r1, r2⟩ := relL2 (hx ρ a fun y hy => hxx y (call_ops hb y hy))
        simp only [Rel] at r2
        obtain ⟨rfl, _⟩ := r2
        have e1 : cl.args.map a.eval = #[y, .int .i64 (Int.ofNat lx)] := arr2 (by rw [Array.toList_map]; exact hy)
        refine ⟨y, .int .i64 (Int.ofNat lx), r1, h3 ρ y r1, ?_, fun B0 τ hag hre => ?_⟩
        · rw [run_builtin ho hb, e1, arr2 ht]
          simp [builtin]
        · have k1 : RelL ρ (rep cs lx) (Builtin.zeroCells z.cells lx).toList := rep_rel_arr (z5 ρ) lx _ rfl
          have k2 : (rep cs lx).all V.one = true := rep_one z4 lx
          exact ⟨_, k1, k2, .inr ⟨⟨k, hk⟩, rfl, by omega, ⟨z, s2, rfl⟩, s4, s5, by rw [k1.length, hrl], k1.oneCell k2⟩⟩
      · cases h2
    · cases h2
  · cases h2
theorem ok_cap {cl : Call} {t : TypeId} {n i l q : Nat} (ho : o.op = .call cl) (hb : cl.callee = .builtin .cap) (ht : cl.argTypes.toList = [t])
    (hx : ∀ (ρ : Rho) (a : Act), (∀ y, y ∈ cl.args.toList → TmpRel ρ e a y) → RelL ρ [.sl n i l q] (cl.args.toList.map a.eval))
    (h : (elemOf P t fun _ _ => (some (.int .i64 (.ofNat q), st) : Res)) = some (v, st')) : StepOk c st st' ∧ OpOk P c st st' v e o := by
  obtain ⟨el, ti, hu, hi, h1⟩ := elemOf_inv h
  obtain ⟨rfl, rfl⟩ := some_inv h1
  refine opOk_val fun B0 ρ τ w a hxx _ _ => ⟨_, rel_int _ _, ?_⟩
  rw [ho] at hxx
  obtain ⟨y, hy, hr⟩ := relL1 (hx ρ a fun y hy => hxx y (call_ops hb y hy))
  have e1 : cl.args.map a.eval = #[y] := arr1 (by rw [Array.toList_map]; exact hy)
  simp only [Rel] at hr
  obtain ⟨r, _, rfl⟩ := hr
  rw [run_builtin ho hb, e1, arr1 ht]
  simp [builtin, Builtin.cap_, run_underlying' hu, goInt]
theorem ok_cap0 {cl : Call} {t : TypeId} (ho : o.op = .call cl) (hb : cl.callee = .builtin .cap) (ht : cl.argTypes.toList = [t])
    (hx : ∀ (ρ : Rho) (a : Act), (∀ y, y ∈ cl.args.toList → TmpRel ρ e a y) → RelL ρ [.c (.slice none 0 0)] (cl.args.toList.map a.eval))
    (h : (elemOf P t fun _ _ => (some (.int .i64 0, st) : Res)) = some (v, st')) : StepOk c st st' ∧ OpOk P c st st' v e o := by
  obtain ⟨el, ti, hu, hi, h1⟩ := elemOf_inv h
  obtain ⟨rfl, rfl⟩ := some_inv h1
  refine opOk_val fun B0 ρ τ w a hxx _ _ => ⟨_, rel_int _ _, ?_⟩
  rw [ho] at hxx
  obtain ⟨y, hy, hr⟩ := relL1 (hx ρ a fun y hy => hxx y (call_ops hb y hy))
  have e1 : cl.args.map a.eval = #[y] := arr1 (by rw [Array.toList_map]; exact hy)
  simp only [Rel] at hr
  obtain ⟨rfl, _⟩ := hr
  rw [run_builtin ho hb, e1, arr1 ht]
  simp [builtin, Builtin.cap_, run_underlying' hu, goInt]
theorem ok_copy {cl : Call} {t t' : TypeId} {d x : V} (ho : o.op = .call cl) (hb : cl.callee = .builtin .copy) (ht : cl.argTypes.toList = [t, t'])
    (hx : ∀ (ρ : Rho) (a : Act), (∀ y, y ∈ cl.args.toList → TmpRel ρ e a y) → RelL ρ [d, x] (cl.args.toList.map a.eval))
    (h : (elemOf P t fun _ z => lenA d fun ld => lenA x fun lx => fn (Nat.min lx ld) fun n => firsts c st z n x fun cs => (match d with
      | .sl m o _ _ => putB c st m o cs fun st => (some (.int .i64 (.ofNat n), st) : Res)
      | .sg m o _ _ => putB c st m o cs fun st => some (.int .i64 (.ofNat n), st)
      | .c (.slice none 0 0) => some (.int .i64 (.ofNat n), st)
      | _ => none)) = some (v, st')) : StepOk c st st' ∧ OpOk P c st st' v e o := by
  obtain ⟨el, ti, hu, hi, h1⟩ := elemOf_inv h
  obtain ⟨ld, h2, h3⟩ := lenA_inv (P := P) h1
  obtain ⟨lx, h4, h5⟩ := lenA_inv (P := P) h2
  rw [fn_eq] at h4
  obtain ⟨cs, h6, h7, h8⟩ := firsts_inv (P := P) h4
  have get : ∀ (ρ : Rho) (a : Act) (w : World) (B0 : Nat) (τ : Mem), (∀ x, x ∈ o.op.operands.toList → TmpRel ρ e a x) → Agree c st τ → Real ρ B0 τ w → ∃ (y y' : Value) (xs : List Value), Rel ρ d y ∧ RelL ρ cs xs ∧ cs.all V.one = true ∧
      (∀ w, (Builtin.lenOf y).run P w = .ok ld w) ∧ (∀ w, (Builtin.lenOf y').run P w = .ok lx w) ∧ (Builtin.firstCells ti.size (Nat.min lx ld) y').run P w = .ok xs.toArray w ∧
      (execOp a.eval o).run P w = ((Builtin.copy_ #[t, t'] o.type #[y, y']).run P w).andThen (fun u w' => .ok (.value u) w') := fun ρ a w B0 τ hxx hag hre => by
    rw [ho] at hxx
    obtain ⟨y, y', hy, r1, r2⟩ := relL2 (hx ρ a fun y hy => hxx y (call_ops hb y hy))
    have e1 : cl.args.map a.eval = #[y, y'] := arr2 (by rw [Array.toList_map]; exact hy)
    obtain ⟨xs, k1, k2, k3⟩ := h8 B0 ρ τ w y' hag hre r2
    refine ⟨y, y', xs, r1, k1, k2, h3 ρ y r1, h5 ρ y' r2, k3 w rfl, ?_⟩
    rw [run_builtin ho hb, e1, arr2 ht]
    simp [builtin]
  have store : ∀ (m i : Nat), (∀ (ρ : Rho) (y : Value) (r : R), Rel ρ d y → ρ m = some r → ∃ cap, y = .slice (some ⟨r.block, r.base + i, none⟩) ld cap) → (putB c st m i cs fun st => (some (.int .i64 (.ofNat (Nat.min lx ld)), st) : Res)) = some (v, st') → StepOk c st st' ∧ OpOk P c st st' v e o := fun m i hy hp => by
    obtain ⟨ty, sz, tr, g1, g2, g3, g4, g5⟩ := putB_inv hp
    obtain ⟨rfl, rfl⟩ := some_inv g5
    refine opOk_set g1 g2 g3 g4 fun B0 ρ τ w a r hxx hag hre hr hsz => ?_
    obtain ⟨y, y', xs, r1, k1, k2, l1, l2, l3, hrun⟩ := get ρ a w B0 τ hxx hag hre
    obtain ⟨cap, rfl⟩ := hy ρ y r r1 hr
    have hlen := k1.length
    have hth := hre.there (hag m _ g1 g2) hr g4.2 (i := i) (m := cs.length) (by omega)
    have hst := run_storeCells_cells (P := P) r.block (r.base + i) xs 0 w (fun j hj => by simpa using (hth j (by omega)).1) (fun j hj => by simpa using (hth j (by omega)).2) (k1.oneCell k2)
    simp only [Nat.add_zero] at hst
    refine ⟨.int .i64 (Int.ofNat (Nat.min lx ld)), xs, k1, k2, rel_int _ _, .inl ?_⟩
    rw [hrun]
    simp only [Builtin.copy_, List.getElem?_toArray, List.getElem?_cons_zero, List.getElem?_cons_succ, Sem.run_bind, run_underlying' hu, Result.andThen_ok, l2 w, run_sizeOf' hi, l3, hst, Sem.run_pure, goInt]
    rfl
  have lenS : ∀ {base : Option Addr} {len cap l : Nat}, (∀ w, (Builtin.lenOf (.slice base len cap)).run P w = .ok l w) → len = l := fun h => by
    have := h default
    simpa [Builtin.lenOf] using this
  have lenD : ∀ (ρ : Rho) (y : Value), Rel ρ d y → ∀ w, (Builtin.lenOf y).run P w = .ok ld w := h3
  split at h6
  · rename_i m i l q
    refine store m i (fun ρ y r hy hr => ?_) h6
    have hl := lenD ρ y hy
    simp only [Rel] at hy
    obtain ⟨r', hr', rfl⟩ := hy
    rw [hr] at hr'; injection hr' with hr'; subst hr'
    have := lenS hl
    subst this
    exact ⟨_, rfl⟩
  · rename_i m i l q
    refine store m i (fun ρ y r hy hr => ?_) h6
    have hl := lenD ρ y hy
    simp only [Rel] at hy
    obtain ⟨r', hr', _, _, rfl⟩ := hy
    rw [hr] at hr'; injection hr' with hr'; subst hr'
    have := lenS hl
    subst this
    exact ⟨_, rfl⟩
  · obtain ⟨rfl, rfl⟩ := some_inv h6
    refine opOk_val fun B0 ρ τ w a hxx hag hre => ⟨.int .i64 (Int.ofNat (Nat.min lx ld)), rel_int _ _, ?_⟩
    obtain ⟨y, y', xs, r1, k1, k2, l1, l2, l3, hrun⟩ := get ρ a w B0 τ hxx hag hre
    simp only [Rel] at r1
    obtain ⟨rfl, _⟩ := r1
    have := lenS l1
    subst this
    rw [hrun]
    simp only [Builtin.copy_, List.getElem?_toArray, List.getElem?_cons_zero, List.getElem?_cons_succ, Sem.run_bind, run_underlying' hu, Result.andThen_ok, l2 w, run_sizeOf' hi, l3, Sem.run_pure, goInt]
    rfl
  · cases h6
end
end Go.Proofs.Ytcjddojcfdeflaa.Ev
namespace Go.Proofs.Ytcjddojcfdeflaa.Ev
open Go.RowKit

section
variable {P : Program} {c : Cx} {st st' : St} {v : V} {e : Env} {o : Oper}
theorem bytesOfAs_inv {β : Type} {q : β} : ∀ {l : List V} {k : List Nat → Option β}, bytesOfAs l k = some q →
    ∃ ns, k ns = some q ∧ (∀ n, n ∈ ns → n < 256) ∧ ∀ (ρ : Rho) (xs : List Value), RelL ρ l xs → xs = (ns.map Int.ofNat).map (Value.int .u8)
  | [], k, h => ⟨[], h, by simp, fun ρ xs hx => by simp only [RelL] at hx; simp [hx]⟩
  | x :: l, k, h => by
    have h' : (match (generalizing := false) x with | .c (.int .u8 (.ofNat n)) => (match Nat.blt n 256 with | true => bytesOfAs l fun r => k (n :: r) | false => none) | _ => none) = some q := h
    split at h'
    · rename_i n
      split at h'
      · rename_i hn
        obtain ⟨ns, h1, h2, h3⟩ := bytesOfAs_inv h'
        refine ⟨n :: ns, h1, fun m hm => ?_, fun ρ xs hx => ?_⟩
        · rcases List.mem_cons.1 hm with rfl | hm
          · simpa [Nat.blt_eq] using hn
          · exact h2 m hm
        · simp only [RelL] at hx
          obtain ⟨y, ys, rfl, k1, k2⟩ := hx
          rw [rel_num k1, h3 ρ ys k2]; rfl
      · cases h'
    · cases h'
theorem foldl_push : ∀ (ns : List Nat) (b : ByteArray), (ns.map Int.ofNat).foldl (fun r n => r.push (UInt8.ofNat n.toNat)) b = ⟨⟨b.data.toList ++ ns.map UInt8.ofNat⟩⟩
  | [], b => by simp only [List.map_nil, List.foldl_nil, List.append_nil]
  | n :: ns, b => by
    simp only [List.map_cons, List.foldl_cons]
    rw [foldl_push ns]
    congr 2
    have : (b.push (UInt8.ofNat (Int.ofNat n).toNat)).data.toList = b.data.toList ++ [UInt8.ofNat n] := by
      show (b.data.push _).toList = _
      simp
    rw [this]; simp
theorem sliceV_rel {ρ : Rho} {x : V} {y : Value} (h : sliceV x = true) (hr : Rel ρ x y) : ∃ a l cp, y = .slice a l cp := by
  unfold sliceV at h
  split at h
  · simp only [Rel] at hr; exact ⟨_, _, _, hr.1⟩
  · simp only [Rel] at hr; obtain ⟨r, _, rfl⟩ := hr; exact ⟨_, _, _, rfl⟩
  · simp only [Rel] at hr; obtain ⟨r, _, _, _, rfl⟩ := hr; exact ⟨_, _, _, rfl⟩
  · simp only [Rel] at hr; obtain ⟨a, cc, rfl⟩ := hr; exact ⟨_, _, _, rfl⟩
  · cases h
/-- a new block of any kind -/
theorem opOk_newB {b : B}
    (h : ∀ (B0 : Nat) (ρ : Rho) (τ : Mem) (w : World) (a : Act), (∀ x, x ∈ o.op.operands.toList → TmpRel ρ e a x) → Agree c st τ → Real ρ B0 τ w →
      ∃ (v' : Value) (w' : World) (sz : Nat), (execOp a.eval o).run P w = .ok (.value v') w' ∧ w'.heap.size = w.heap.size + 1 ∧ (∀ k, k < w.heap.size → w'.heap[k]? = w.heap[k]?) ∧ w'.os = w.os ∧ w'.tape = w.tape ∧ w'.output = w.output ∧
        (∀ ρ' : Rho, ρ.le ρ' → ρ' st.nx = some ⟨w.heap.size, 0, sz⟩ → Blk ρ' b ⟨w.heap.size, 0, sz⟩ w' ∧ Rel ρ' v v')) :
    StepOk c st ⟨st.nx + 1, st.h.set st.nx b⟩ ∧ OpOk P c st ⟨st.nx + 1, st.h.set st.nx b⟩ v e o :=
  ⟨stepOk_new, fun B0 ρ τ w a h1 h2 h3 hf K Q hK => by
    obtain ⟨v', w', sz, k3, k4, hold, k5, k6, k7, k8⟩ := h B0 ρ τ w a h1 h2 h3
    unfold Oper.wp
    rw [k3]
    have hfr : ρ st.nx = none := hf st.nx (Nat.le_refl _) (Nat.lt_succ_self _)
    have hle : ρ.le (upd ρ st.nx ⟨w.heap.size, 0, sz⟩) := fun m q e => by
      by_cases hm : m = st.nx
      · subst hm; rw [hfr] at e; cases e
      · rw [upd_ne _ _ hm]; exact e
    obtain ⟨k9, k10⟩ := k8 _ hle (upd_same _ _ _)
    refine hK (upd ρ st.nx ⟨w.heap.size, 0, sz⟩) v' w' hle (fun m q e => ?_) k10 ?_ ?_
    · by_cases hm : m = st.nx
      · subst hm; exact .inr ⟨Nat.le_refl _, Nat.lt_succ_self _⟩
      · rw [upd_ne _ _ hm] at e; exact .inl e
    · rw [ov_new]
      exact h3.new hfr (Nat.le_refl _) (by rw [k4]; simp) hold k9
    · exact ⟨k5, k6, k7, by rw [k4]; omega, fun k hk => hold k (Nat.lt_of_lt_of_le hk h3.size)⟩⟩
/-- a block of any kind turns -/
theorem opOk_setB {n : Nat} {b b' : B} (g1 : c.ok n = true) (g2 : st.h.get n = some b) (gl : b.live) (g4 : c.wb ≤ n)
    (h : ∀ (B0 : Nat) (ρ : Rho) (τ : Mem) (w : World) (a : Act) (r : R), (∀ x, x ∈ o.op.operands.toList → TmpRel ρ e a x) → Agree c st τ → Real ρ B0 τ w → ρ n = some r → Blk ρ b r w → r.block < w.heap.size →
      ∃ (v' : Value) (w' : World), (execOp a.eval o).run P w = .ok (.value v') w' ∧ w'.heap.size = w.heap.size ∧ (∀ k, k ≠ r.block → w'.heap[k]? = w.heap[k]?) ∧ w'.os = w.os ∧ w'.tape = w.tape ∧ w'.output = w.output ∧ Blk ρ b' r w' ∧ Rel ρ v v') :
    StepOk c st ⟨st.nx, st.h.set n b'⟩ ∧ OpOk P c st ⟨st.nx, st.h.set n b'⟩ v e o :=
  ⟨stepOk_set g1 g2 g4 gl, fun B0 ρ τ w a h1 h2 h3 hf K Q hK => by
    have hτ := h2 n _ g1 g2
    obtain ⟨r, r1, r2, r3, r4⟩ := h3.blk n _ hτ
    obtain ⟨v', w', k1, k2, k3, k4, k5, k6, k7, k8⟩ := h B0 ρ τ w a r h1 h2 h3 r1 r4 r3
    have hreal : Real ρ B0 (ov st ⟨st.nx, st.h.set n b'⟩ τ) w' := by
      rw [ov_set h2 g1 g2]
      exact h3.set hτ gl r1 k2 k3 k7
    unfold Oper.wp
    rw [k1]
    exact hK ρ v' _ (Rho.le_refl _) (Dom.refl _ _ _) k8 hreal ⟨k4, k5, k6, by rw [k2]; exact Nat.le_refl _, fun k hk => k3 k (by have := r2 gl; omega)⟩⟩
theorem run_freeze_end {w : World} {b : Nat} {cells : Array Value} {ty : TypeId} {fr : Nat × Nat} (h : w.heap[b]? = some (.cells cells ty fr)) (hf : FrOk fr cells.size) (off : Nat) :
    ∃ (w' : World) (fr' : Nat × Nat), (markStringish ⟨b, off, none⟩).run P w = .ok () w' ∧ w'.heap.size = w.heap.size ∧ (∀ k, k ≠ b → w'.heap[k]? = w.heap[k]?) ∧ w'.heap[b]? = some (.cells cells ty fr') ∧ FrOk fr' cells.size ∧ w'.os = w.os ∧ w'.tape = w.tape ∧ w'.output = w.output := by
  have hsh : w.shape? b = some (ty, cells.size) := by simp [World.shape?, h]
  have hone : ¬ (1 = 0) := by decide
  refine ⟨w.freeze ⟨b, cells.size, none⟩ 1, (if fr.1 == fr.2 then (cells.size, cells.size + 1) else (min fr.1 cells.size, max fr.2 (cells.size + 1))), ?_, ?_, ?_, ?_, ?_, ?_, ?_, ?_⟩
  · simp only [markStringish, Sem.run_bind, run_shape, hsh, Result.andThen_ok, run_freeze]
  · simp [World.freeze]
  · intro k hk
    simp only [World.freeze, hone, if_false, Array.getElem?_modify]
    rw [if_neg (fun e => hk e.symm)]
  · simp only [World.freeze, hone, if_false, Array.getElem?_modify, if_true, h, Option.map_some]
  · unfold FrOk at hf ⊢
    by_cases he : fr.1 == fr.2
    · rw [if_pos he]; right; simp
    · rw [if_neg he]
      have hne : fr.1 ≠ fr.2 := by simpa using he
      right; simp only; omega
  · simp [World.freeze]
  · simp [World.freeze]
  · simp [World.freeze]
theorem lies_first {e : TypeId} {s count : Nat} (hc : P.cellsOf e = s) (hs : 0 < s) (hn : 1 ≤ count) : liesAt P P.depth e count 0 e 1 = true := by
  have hd : P.depth = (2 * (P.types.size + Made.depth) + 1) + 1 := rfl
  rw [hd]
  simp only [liesAt, Bool.or_eq_true]
  left
  rw [hd]
  have : ¬ s = 0 := by omega
  simp [rowAt, hc, hn, sameLayout, this]
theorem encN_lt {c : Nat} (h : c ≤ 1114111) : ∀ b, b ∈ encN c → b < 256 := by
  intro b hb
  unfold encN at hb
  split at hb
  · rename_i h1; rw [Nat.blt_eq] at h1; simp at hb; omega
  · split at hb
    · rename_i h1; rw [Nat.blt_eq] at h1; simp at hb; omega
    · split at hb
      · rename_i h1; rw [Nat.blt_eq] at h1; simp at hb; omega
      · simp at hb; omega
theorem validN_eq (c : Nat) : validN c = Utf8.valid (Int.ofNat c) := by
  unfold validN Utf8.valid
  rw [Bool.eq_iff_iff]
  simp only [Bool.or_eq_true, Bool.and_eq_true, Nat.blt_eq, Nat.ble_eq, decide_eq_true_eq, Int.ofNat_eq_natCast]
  omega
theorem encL_lt (n : Int) : ∀ b, b ∈ encL n → b < 256 := by
  unfold encL
  split
  · rename_i c
    split
    · rename_i hv
      refine encN_lt ?_
      unfold validN at hv
      simp only [Bool.or_eq_true, Bool.and_eq_true, Nat.blt_eq, Nat.ble_eq] at hv
      omega
    · exact encN_lt (by decide)
  · exact encN_lt (by decide)
theorem encN_eq (c : Nat) : (let b (n : Nat) : UInt8 := UInt8.ofNat n
  if c < 0x80 then (⟨#[b c]⟩ : ByteArray)
  else if c < 0x800 then ⟨#[b (0xC0 + c / 64), b (0x80 + c % 64)]⟩
  else if c < 0x10000 then ⟨#[b (0xE0 + c / 4096), b (0x80 + c / 64 % 64), b (0x80 + c % 64)]⟩
  else ⟨#[b (0xF0 + c / 262144), b (0x80 + c / 4096 % 64), b (0x80 + c / 64 % 64), b (0x80 + c % 64)]⟩) = ⟨⟨(encN c).map UInt8.ofNat⟩⟩ := by
  unfold encN
  have bl : ∀ a b : Nat, Nat.blt a b = decide (a < b) := fun a b => by rw [Bool.eq_iff_iff, Nat.blt_eq]; simp
  by_cases h1 : c < 128
  · simp [h1, bl]
  · by_cases h2 : c < 2048
    · simp [h1, h2, bl]
    · by_cases h3 : c < 65536
      · simp [h1, h2, h3, bl]
      · simp [h1, h2, h3, bl]
theorem encL_eq (n : Int) : Utf8.encode n = ⟨⟨(encL n).map UInt8.ofNat⟩⟩ := by
  unfold Utf8.encode encL
  rcases n with c | c
  · by_cases hv : validN c
    · have h2 : Utf8.valid (Int.ofNat c) = true := by rw [← validN_eq]; exact hv
      simp only [h2, if_true, hv]
      exact encN_eq c
    · have h2 : Utf8.valid (Int.ofNat c) = false := by rw [← validN_eq]; simpa using hv
      simp only [h2, hv]
      exact encN_eq 65533
  · have h2 : Utf8.valid (Int.negSucc c) = false := by
      unfold Utf8.valid
      rw [Bool.eq_false_iff]
      intro h
      simp only [Bool.or_eq_true, Bool.and_eq_true, decide_eq_true_eq] at h
      omega
    simp only [h2]
    exact encN_eq 65533
theorem ok_convert {src dst : TypeId} {x : Operand} (ho : o.op = .convert src dst x) (h : (opd e x fun v => convE P c st src dst v) = some (v, st')) : StepOk c st st' ∧ OpOk P c st st' v e o := by
  obtain ⟨v0, h1, h2⟩ := opd_inv h
  have mx : x ∈ o.op.operands.toList := by simp [ho, Op.operands]
  have hex : ∀ (a : Act) (w w' : World) (u : Value), (convert src dst (a.eval x)).run P w = .ok u w' → (execOp a.eval o).run P w = .ok (.value u) w' := fun a w w' u hu => by
    simp [execOp, ho, hu]
  unfold convE at h1
  split at h1
  · rename_i d1 k _ n hu1 hu2
    rw [fi_eq, wr_eq] at h1
    obtain ⟨rfl, rfl⟩ := some_inv h1
    refine opOk_val fun B0 ρ τ w a hx _ _ => ⟨_, rel_int _ _, hex a w w _ ?_⟩
    rw [rel_num (h2 ρ a (hx x mx))]
    simp only [convert, Sem.run_bind, run_underlying' hu1, run_underlying' hu2, Result.andThen_ok]
    rfl
  · rename_i d1 l hu1 hu2
    obtain ⟨rfl, rfl⟩ := some_inv h1
    refine opOk_val fun B0 ρ τ w a hx _ _ => ?_
    have hr := h2 ρ a (hx x mx)
    refine ⟨_, hr, hex a w w _ ?_⟩
    simp only [Rel] at hr
    rw [hr.1]
    simp only [convert, Sem.run_bind, run_underlying' hu1, run_underlying' hu2, Result.andThen_ok]
    cases d1 <;> rfl
  · rename_i d1 el l hu1 hu2
    split at h1
    · rename_i hel
      split at h1
      · rename_i hsm
        obtain ⟨i', z, s1, s2, s3, s4, s5, s6⟩ := small_inv hsm
        rw [newC_eq, fn_eq] at h1
        obtain ⟨rfl, rfl⟩ := some_inv h1
        refine opOk_newU (ty := el) fun B0 ρ τ w a hx _ _ => ?_
        have hr := h2 ρ a (hx x mx)
        simp only [Rel] at hr
        obtain ⟨hv, hb⟩ := hr
        have hsz : (⟨⟨l.map UInt8.ofNat⟩⟩ : ByteArray).size = l.length := by simp [ByteArray.size]
        have hge := grownCap_ge w l.length 0 el
        let gc := grownCap w l.length 0 el
        let arr : Array Value := ((⟨⟨l.map UInt8.ofNat⟩⟩ : ByteArray).data.map fun b => Value.int .u8 b.toNat) ++ Array.replicate (gc - l.length) (.int .u8 0)
        have harr : arr.size = gc := by
          simp only [arr, Array.size_append, Array.size_map, Array.size_replicate, List.size_toArray, List.length_map]
          omega
        refine ⟨.slice (some ⟨w.heap.size, 0, none⟩) l.length gc, { w with drawn := w.drawn + 1, heap := w.heap.push (.cells arr el (arr.size, arr.size + 1)) }, l.map fun x => .int .u8 (Int.ofNat x), arr, (arr.size, arr.size + 1), ?_, ?_, hex a w _ _ ?_, rfl, rfl, rfl, rfl, ?_, ?_, ?_, ?_⟩
        · refine RelL.of_get (by simp) fun j u hu => ?_
          simp only [List.getElem?_map, Option.map_eq_some_iff] at hu ⊢
          obtain ⟨y, hy, rfl⟩ := hu
          exact ⟨_, ⟨y, hy, rfl⟩, rel_int _ _⟩
        · rw [List.all_eq_true]
          intro u hu
          obtain ⟨y, _, rfl⟩ := List.mem_map.1 hu
          rfl
        · rw [hv]
          have hf : (Question.appendCap l.length 0 el).forced = false := rfl
          have e1 : (Conv.stringToBytes el ⟨⟨l.map UInt8.ofNat⟩⟩).run P w = .ok (.slice (some ⟨w.heap.size, 0, none⟩) l.length gc) { w with drawn := w.drawn + 1, heap := w.heap.push (.cells arr el (arr.size, arr.size + 1)) } := by
            simp only [Conv.stringToBytes, Sem.run_bind, run_choose, hsz, hf, Bool.false_eq_true, if_false, Result.andThen_ok, newRow, run_newObj, Sem.run_pure, markStringish, run_shape]
            have hsh : World.shape? { w with drawn := w.drawn + 1, heap := w.heap.push (.cells arr el) } w.heap.size = some (el, arr.size) := by
              simp [World.shape?]
            have hfr : World.freeze { w with drawn := w.drawn + 1, heap := w.heap.push (.cells arr el) } { block := w.heap.size, off := arr.size } 1 = { w with drawn := w.drawn + 1, heap := w.heap.push (.cells arr el (arr.size, arr.size + 1)) } := by
              unfold World.freeze
              rw [if_neg (by decide)]
              congr 1
              apply Array.ext_getElem?
              intro j
              rw [Array.getElem?_modify]
              by_cases hj : w.heap.size = j
              · subst hj; simp
              · rw [if_neg hj, Array.getElem?_push, Array.getElem?_push, if_neg (by omega), if_neg (by omega)]
            have : (⟨⟨l.map UInt8.ofNat⟩⟩ : ByteArray).data.map (fun b => Value.int .u8 b.toNat) ++ Array.replicate ((Question.appendCap l.length 0 el).cut (w.tape w.drawn (.appendCap l.length 0 el)) - l.length) (.int .u8 0) = arr := rfl
            rw [this, hsh]
            simp only [run_freeze, Result.andThen_ok, hfr]
            rfl
          simp only [convert, Sem.run_bind, run_underlying' hu1, run_underlying' hu2, Result.andThen_ok]
          cases d1 <;> simp only [run_underlying' hel, Result.andThen_ok, e1]
        · intro j u hu
          simp only [List.getElem?_map, Option.map_eq_some_iff] at hu
          obtain ⟨y, hy, rfl⟩ := hu
          have hlt : j < l.length := by
            rcases Nat.lt_or_ge j l.length with h | h
            · exact h
            · rw [List.getElem?_eq_none h] at hy; cases hy
          simp only [arr]
          rw [Array.getElem?_append_left (by simpa using hlt)]
          have h256 := hb y (List.mem_of_getElem? hy)
          simp [hy, Nat.mod_eq_of_lt h256]
        · simp only [List.length_map, harr]; exact hge
        · exact .inr (Nat.le_refl _)
        · intro ρ' hρ
          simp only [Rel]
          exact ⟨_, hρ, by omega, by simp [harr]; exact hge, by simp [harr]⟩
      · cases h1
    · cases h1
  · rename_i el n o' len cap hu1 hu2
    split at h1
    · rename_i hel
      split at h1
      · rename_i hsd
        obtain ⟨b, g1, g2, g3⟩ := getB_inv h1
        split at g3
        · rename_i ty sz t
          split at g3
          · cases g3
          · rename_i hro
            obtain ⟨g4, g5⟩ := setB_inv g3
            obtain ⟨rfl, rfl⟩ := some_inv g5
            have hsd' : src = dst := by simpa [nbeq] using hsd
            refine opOk_setB g1 g2 (show ty ≠ roT from fun e => by subst e; simp at hro) g4 fun B0 ρ τ w a r hx hag hre hr hblk hlt => ?_
            obtain ⟨ty', cells, fr, c1, c2, c3, c4, c5⟩ := hblk
            have hv := h2 ρ a (hx x mx)
            simp only [Rel] at hv
            obtain ⟨r', hr', hv⟩ := hv
            rw [hr] at hr'; injection hr' with hr'; subst hr'
            obtain ⟨w', fr', k1, k2, k3, k4, k5, k6, k7, k8⟩ := run_freeze_end (P := P) c1 (c4 (show ty ≠ roT from fun e => by subst e; simp at hro)).1 (r.base + o')
            refine ⟨.slice (some ⟨r.block, r.base + o', none⟩) len cap, w', hex a w w' _ ?_, k2, k3, k6, k7, k8, ⟨ty', cells, fr', k4, c2, c3, fun _ => ⟨k5, fun h => absurd rfl h⟩, c5⟩, by simp only [Rel]; exact ⟨r, hr, rfl⟩⟩
            rw [hv]
            subst hsd'
            have hee := hu1.symm.trans hu2
            injection hee with hee
            injection hee with hee
            subst hee
            simp only [convert, Sem.run_bind, run_underlying' hu1, run_underlying' hel, Result.andThen_ok, beq_self_eq_true, k1, Sem.run_pure]
        · cases g3
      · cases h1
    · cases h1
  · rename_i el hu1 hu2 hns
    split at h1
    · rename_i hel
      split at h1
      · rename_i hsl
        obtain ⟨len, h3, h4⟩ := lenA_inv (P := P) h1
        obtain ⟨l, h5, h6, h7⟩ := firsts_inv (P := P) h3
        obtain ⟨ns, h8, h9, h10⟩ := bytesOfAs_inv h5
        obtain ⟨rfl, rfl⟩ := some_inv h8
        refine opOk_val fun B0 ρ τ w a hx hag hre => ⟨.string ⟨⟨ns.map UInt8.ofNat⟩⟩, by simp only [Rel]; exact ⟨trivial, h9⟩, hex a w w _ ?_⟩
        have hr := h2 ρ a (hx x mx)
        obtain ⟨xs, k1, k2, k3⟩ := h7 B0 ρ τ w _ hag hre hr
        have hxs := h10 ρ xs k1
        have hl := h4 ρ _ hr w
        have hc := k3 w rfl
        obtain ⟨b, m, cp, hy⟩ := sliceV_rel hsl hr
        rw [hy] at hl hc ⊢
        have hm : m = len := by simpa [Builtin.lenOf] using hl
        subst hm
        cases b with
        | none =>
          have : xs = [] := by
            simp only [Builtin.firstCells, Sem.run_pure] at hc
            injection hc with hc
            have := congrArg Array.toList hc
            simpa using this.symm
          subst this
          have hns : ns = [] := by
            cases ns with
            | nil => rfl
            | cons n ns => simp at hxs
          subst hns
          simp only [convert, Sem.run_bind, run_underlying' hu1, run_underlying' hu2, run_underlying' hel, Result.andThen_ok, Conv.bytesToString, Sem.run_pure]
          rfl
        | some b =>
          have hld : (loadCells b m).run P w = .ok ((ns.map Int.ofNat).map (Value.int .u8)).toArray w := by
            simp only [Builtin.firstCells, Nat.mul_one] at hc
            rw [hc, hxs]
          have := run_bytesToString w b m cp (ns.map Int.ofNat) hld
          rw [foldl_push] at this
          have e1 : (convert src dst (.slice (some b) m cp)).run P w = ((underlying el).run P w).andThen fun d w' => (match d with
              | .int .u8 => Conv.bytesToString (.slice (some b) m cp)
              | .int .i32 => Conv.runesToString (.slice (some b) m cp)
              | _ => stuck "x").run P w' := by
            simp only [convert, Sem.run_bind, run_underlying' hu1, run_underlying' hu2, run_underlying' hel, Result.andThen_ok]
          rw [e1, run_underlying' hel, Result.andThen_ok]
          exact this
      · cases h1
    · cases h1
  · rename_i t0 n o' hu1 hu2
    obtain ⟨i, hi, h3⟩ := szOf_inv h1
    obtain ⟨b, g1, g2, g3⟩ := getB_inv h3
    split at g3
    · rename_i ty sz t
      split at g3
      · rename_i hz ho'
        obtain ⟨rfl, rfl⟩ := some_inv g3
        refine opOk_val fun B0 ρ τ w a hx hag hre => ?_
        have hv := h2 ρ a (hx x mx)
        refine ⟨_, hv, hex a w w _ ?_⟩
        simp only [Rel] at hv
        obtain ⟨r, hr, hv⟩ := hv
        obtain ⟨q, q1, q2, q3, q4⟩ := hre.blk n _ (hag n _ g1 g2)
        rw [hr] at q1; injection q1 with q1; subst q1
        obtain ⟨ty', cells, fr, c1, c2, c3, c4, c5⟩ := q4
        rw [hv]
        have hz' : i.size ≠ 0 := by rw [Nat.blt_eq] at hz; omega
        have ho2 : o' < sz := by rwa [Nat.blt_eq] at ho'
        exact Lib.run_to_unsafe w _ hu1 hu2 hi hz' (show w.shape? r.block = some (ty', cells.size) by simp [World.shape?, c1]) (show r.base + o' < cells.size by omega)
      · cases g3
    · cases g3
  · rename_i u n hu1 hu2
    obtain ⟨i, hi, h3⟩ := szOf_inv h1
    obtain ⟨b, g1, g2, g3⟩ := getB_inv h3
    split at g3
    · rename_i ty sz t
      split at g3
      · rename_i hty hro hz hle
        obtain ⟨rfl, rfl⟩ := some_inv g3
        refine opOk_val fun B0 ρ τ w a hx hag hre => ?_
        have hv := h2 ρ a (hx x mx)
        refine ⟨_, hv, hex a w w _ ?_⟩
        simp only [Rel] at hv
        obtain ⟨r, hr, hv⟩ := hv
        obtain ⟨q, q1, q2, q3, q4⟩ := hre.blk n _ (hag n _ g1 g2)
        rw [hr] at q1; injection q1 with q1; subst q1
        obtain ⟨ty', cells, fr, c1, c2, c3, c4, c5⟩ := q4
        obtain rfl := Nat.eq_of_beq_eq_true hty
        rw [Bool.or_eq_false_iff] at hro
        have n1 : ty ≠ roT := fun e => by rw [e] at hro; simp at hro
        have n2 : ty ≠ unT := fun e => by rw [e] at hro; simp at hro
        obtain ⟨e1, e2, e3⟩ := (c4 n1).2 n2
        subst e1
        rw [Nat.blt_eq] at hz
        have hle' := Nat.le_of_ble_eq_true hle
        rw [hv]
        have hsz : P.cellsOf ty' = i.size := by simp [Program.cellsOf, hi]
        refine Lib.run_from_unsafe w _ hu1 hu2 hi (show w.shape? r.block = some (ty', cells.size) by simp [World.shape?, c1]) ?_
        show liesAt P P.depth ty' (cells.size / P.cellsOf ty') (r.base + 0) ty' 1 = true
        rw [e2, hsz]
        exact lies_first hsz hz (by rw [Nat.le_div_iff_mul_le hz]; omega)
      · cases g3
    · cases g3
  · rename_i k1 k2 n hu1 hu2
    rw [fl_eq] at h1
    obtain ⟨rfl, rfl⟩ := some_inv h1
    refine opOk_val fun B0 ρ τ w a hx hag hre => ?_
    have hv := rel_num (h2 ρ a (hx x mx))
    refine ⟨.string ⟨⟨(encL n).map UInt8.ofNat⟩⟩, by simp only [Rel]; exact ⟨trivial, encL_lt n⟩, hex a w w _ ?_⟩
    rw [hv]
    simp only [convert, Sem.run_bind, run_underlying' hu1, run_underlying' hu2, Result.andThen_ok, Conv.intToString, Sem.run_pure, encL_eq]
  · cases h1
end
end Go.Proofs.Ytcjddojcfdeflaa.Ev
namespace Go.Proofs.Ytcjddojcfdeflaa.Ev
open Go.RowKit

section
variable {P : Program} {c : Cx} {st st' : St} {v : V} {e : Env} {o : Oper}
theorem ok_range {t : TypeId} {x : Operand} (ho : o.op = .range t x) (h : (opd e x fun v => (match P.underlying t, v with
    | some .string, .s l => newB st (.it l 0) fun n st => (some (.p n 0, st) : Res)
    | _, _ => none)) = some (v, st')) : StepOk c st st' ∧ OpOk P c st st' v e o := by
  obtain ⟨v0, h1, h2⟩ := opd_inv h
  have mx : x ∈ o.op.operands.toList := by simp [ho, Op.operands]
  split at h1
  · rename_i l hu
    rw [newB_eq] at h1
    obtain ⟨rfl, rfl⟩ := some_inv h1
    refine opOk_newB fun B0 ρ τ w a hx _ _ => ?_
    have hr := h2 ρ a (hx x mx)
    simp only [Rel] at hr
    refine ⟨.pointer (some ⟨w.heap.size, 0, none⟩), w.alloc (.stringIter ⟨⟨l.map UInt8.ofNat⟩⟩ 0), 0, ?_, by rw [show (w.alloc (.stringIter ⟨⟨l.map UInt8.ofNat⟩⟩ 0)).heap = w.heap.push (.stringIter ⟨⟨l.map UInt8.ofNat⟩⟩ 0) from rfl, Array.size_push], fun k hk => Below.heap_alloc w _ k hk, rfl, rfl, rfl, fun ρ' _ hρ => ⟨⟨?_, rfl, hr.2⟩, ?_⟩⟩
    · simp only [execOp, ho, hr.1, Instr.range, Sem.run_bind, run_underlying' hu, Result.andThen_ok, Sem.run_pure, run_newObj]
      rfl
    · show (w.heap.push (.stringIter ⟨⟨l.map UInt8.ofNat⟩⟩ 0))[w.heap.size]? = _
      simp
    · simp only [Rel]; exact ⟨_, hρ, rfl⟩
  · cases h1
theorem atL_eq {l : List Nat} (h : ∀ b, b ∈ l → b < 256) (k : Nat) : ((⟨⟨l.map UInt8.ofNat⟩⟩ : ByteArray).get! k).toNat = atL l k := by
  unfold atL
  rw [lget_eq]
  show ((⟨l.map UInt8.ofNat⟩ : Array UInt8)[k]!).toNat = _
  rw [getElem!_def]
  simp only [List.getElem?_toArray, List.getElem?_map]
  cases hk : l[k]? with
  | none => rfl
  | some x =>
    have := h x (List.mem_of_getElem? hk)
    simp
    omega
theorem contL_eq {l : List Nat} (h : ∀ b, b ∈ l → b < 256) (i k : Nat) : (decide (i + k < (⟨⟨l.map UInt8.ofNat⟩⟩ : ByteArray).size) && ((⟨⟨l.map UInt8.ofNat⟩⟩ : ByteArray).get! (i + k)).toNat / 64 == 2) = contL l (i + k) := by
  rw [atL_eq h]
  unfold contL atL
  rw [lget_eq]
  have hsz : (⟨⟨l.map UInt8.ofNat⟩⟩ : ByteArray).size = l.length := by simp [ByteArray.size]
  rw [hsz]
  cases hk : l[i + k]? with
  | none =>
    have : l.length ≤ i + k := List.getElem?_eq_none_iff.1 hk
    have h2 : ¬ i + k < l.length := by omega
    simp [h2]
  | some x =>
    have : i + k < l.length := (List.getElem?_eq_some_iff.1 hk).1
    simp only [this, decide_true, Bool.true_and]
    rw [Bool.eq_iff_iff, Nat.beq_eq]; simp
theorem decL_eq {l : List Nat} (h : ∀ b, b ∈ l → b < 256) {pos : Nat} (_hlt : pos < l.length) : Utf8.decode ⟨⟨l.map UInt8.ofNat⟩⟩ pos = decL l pos := by
  have bl : ∀ a b : Nat, Nat.blt a b = decide (a < b) := fun a b => by rw [Bool.eq_iff_iff, Nat.blt_eq]; simp
  have be : ∀ a b : Nat, Nat.ble a b = decide (a ≤ b) := fun a b => by rw [Bool.eq_iff_iff, Nat.ble_eq]; simp
  have bq : ∀ a b : Nat, Nat.beq a b = (a == b) := fun a b => by rw [Bool.eq_iff_iff, Nat.beq_eq]; simp
  have vq : ∀ c : Nat, Utf8.valid (c : Int) = validN c := fun c => (validN_eq c).symm
  unfold Utf8.decode decL
  have e0 := atL_eq h (pos + 0)
  rw [Nat.add_zero] at e0
  simp only [contL_eq h]
  simp only [atL_eq h, Nat.add_zero, bl, be, bq, vq]
  clear e0
  generalize atL l pos = b0
  generalize contL l (pos + 1) = c1
  generalize contL l (pos + 2) = c2
  generalize contL l (pos + 3) = c3
  generalize atL l (pos + 1) = a1
  generalize atL l (pos + 2) = a2
  generalize atL l (pos + 3) = a3
  by_cases h0 : b0 < 128
  · simp [h0]
  · have h0' : ¬ b0 < 0x80 := h0
    simp only [h0, if_false, decide_false]
    cases g1 : (b0 / 32 == 6 && c1) with
    | true =>
      simp only [if_true]
      by_cases h1 : 128 ≤ b0 % 32 * 64 + a1 % 64
      · simp [h1]
      · simp [h1, Utf8.runeError]
    | false =>
      simp only [Bool.false_eq_true, if_false]
      cases g2 : (b0 / 16 == 14 && c1 && c2) with
      | true =>
        simp only [if_true]
        cases g3 : (decide (2048 ≤ b0 % 16 * 4096 + a1 % 64 * 64 + a2 % 64) && validN (b0 % 16 * 4096 + a1 % 64 * 64 + a2 % 64)) with
        | true => simp only [if_true]
        | false => simp only [Bool.false_eq_true, if_false, Utf8.runeError]
      | false =>
        simp only [Bool.false_eq_true, if_false]
        cases g3 : (b0 / 8 == 30 && c1 && c2 && c3) with
        | true =>
          simp only [if_true]
          cases g4 : (decide (65536 ≤ b0 % 8 * 262144 + a1 % 64 * 4096 + a2 % 64 * 64 + a3 % 64) && validN (b0 % 8 * 262144 + a1 % 64 * 4096 + a2 % 64 * 64 + a3 % 64)) with
          | true => simp only [if_true]
          | false => simp only [Bool.false_eq_true, if_false, Utf8.runeError]
        | false => simp only [Bool.false_eq_true, if_false, Utf8.runeError]
theorem ok_next {x : Operand} (ho : o.op = .next x true) (h : (opd e x fun v => (match v with
    | .p n 0 => getB c st n fun b => (match b with
      | .it l pos => (match lget l pos with
        | none => (some (.t [.bool false], st) : Res)
        | some b => (match Nat.blt b 128 with
          | true => fn (pos + 1) fun q => setB c st n (.it l q) fun st => some (.t [.bool true, .int .i64 (.ofNat pos), .int .i32 (.ofNat b)], st)
          | false => fn (decL l pos).1 fun r => fn (pos + (decL l pos).2) fun q => setB c st n (.it l q) fun st => some (.t [.bool true, .int .i64 (.ofNat pos), .int .i32 (.ofNat r)], st)))
      | _ => none)
    | _ => none)) = some (v, st')) : StepOk c st st' ∧ OpOk P c st st' v e o := by
  obtain ⟨v0, h1, h2⟩ := opd_inv h
  have mx : x ∈ o.op.operands.toList := by simp [ho, Op.operands]
  have hat : ∀ (ρ : Rho) (a : Act) (r : R) (n : Nat), (∀ x, x ∈ o.op.operands.toList → TmpRel ρ e a x) → (∀ (ρ : Rho) (a : Act), TmpRel ρ e a x → Rel ρ (.p n 0) (a.eval x)) → ρ n = some r → r.base = 0 → a.eval x = .pointer (some ⟨r.block, 0, none⟩) := fun ρ a r n hx h2 hr hb => by
    have := h2 ρ a (hx x mx)
    simp only [Rel] at this
    obtain ⟨r', e1, e2⟩ := this
    rw [hr] at e1; injection e1 with e1; subst e1
    rw [e2, hb]
  split at h1
  · rename_i n
    obtain ⟨b, g1, g2, g3⟩ := getB_inv h1
    split at g3
    · rename_i l pos
      have hsz : (⟨⟨l.map UInt8.ofNat⟩⟩ : ByteArray).size = l.length := by simp [ByteArray.size]
      rw [lget_eq] at g3
      split at g3
      · rename_i hp
        obtain ⟨rfl, rfl⟩ := some_inv g3
        refine opOk_val fun B0 ρ τ w a hx hag hre => ⟨.tuple #[.bool false], ?_, ?_⟩
        · simp only [Rel]; exact ⟨_, rfl, .cons (rel_bool _) .nil⟩
        · obtain ⟨r, r1, _, _, r4⟩ := hre.blk n _ (hag n _ g1 g2)
          obtain ⟨q1, q2, _⟩ := r4
          simp only [execOp, ho, hat ρ a r n hx h2 r1 q2, Sem.run_bind]
          rw [Lib.run_next_end_at w r.block _ pos o.type q1 (by rw [hsz]; simpa using hp)]
          rfl
      · rename_i b0 hp
        split at g3
        · rename_i hb
          rw [fn_eq] at g3
          obtain ⟨g4, g5⟩ := setB_inv g3
          obtain ⟨rfl, rfl⟩ := some_inv g5
          have hlt : pos < l.length := by
            rcases Nat.lt_or_ge pos l.length with h | h
            · exact h
            · rw [List.getElem?_eq_none h] at hp; cases hp
          have hb' : b0 < 128 := by simpa [Nat.blt_eq] using hb
          refine opOk_setB g1 g2 trivial g4 fun B0 ρ τ w a r hx hag hre hr hblk hlt' => ?_
          obtain ⟨q1, q2, q3⟩ := hblk
          have hby : ((⟨⟨l.map UInt8.ofNat⟩⟩ : ByteArray)[pos]'(by rw [hsz]; exact hlt)).toNat = b0 := by
            have e1 : ((⟨⟨l.map UInt8.ofNat⟩⟩ : ByteArray)[pos]'(by rw [hsz]; exact hlt)) = UInt8.ofNat l[pos] := by
              show (⟨l.map UInt8.ofNat⟩ : Array UInt8)[pos]'_ = _
              simp
            have e2 : l[pos] = b0 := by rw [List.getElem?_eq_getElem hlt] at hp; injection hp
            rw [e1, e2]
            simp; omega
          refine ⟨.tuple #[.bool true, .int .i64 (Int.ofNat pos), .int .i32 (Int.ofNat b0)], w.iterAt r.block ⟨⟨l.map UInt8.ofNat⟩⟩ (pos + 1), ?_, Lib.iterAt_size _ _ _ _, fun k hk => Lib.iterAt_other w r.block k _ _ hk, rfl, rfl, rfl, ⟨Lib.iterAt_heap w r.block _ pos _ q1, q2, q3⟩, ?_⟩
          · simp only [execOp, ho, hat ρ a r n hx h2 hr q2, Sem.run_bind]
            rw [Lib.run_next_ascii_at w r.block _ pos o.type q1 (by rw [hsz]; exact hlt) (by rw [hby]; exact hb'), hby]
            rfl
          · simp only [Rel]; exact ⟨_, rfl, .cons (rel_bool _) (.cons (rel_int _ _) (.cons (rel_int _ _) .nil))⟩
        · rw [fn_eq, fn_eq] at g3
          obtain ⟨g4, g5⟩ := setB_inv g3
          obtain ⟨rfl, rfl⟩ := some_inv g5
          have hlt : pos < l.length := by
            rcases Nat.lt_or_ge pos l.length with h | h
            · exact h
            · rw [List.getElem?_eq_none h] at hp; cases hp
          refine opOk_setB g1 g2 trivial g4 fun B0 ρ τ w a r hx hag hre hr hblk hlt' => ?_
          obtain ⟨q1, q2, q3⟩ := hblk
          refine ⟨.tuple #[.bool true, .int .i64 (Int.ofNat pos), .int .i32 (Int.ofNat (decL l pos).1)], w.iterAt r.block ⟨⟨l.map UInt8.ofNat⟩⟩ (pos + (decL l pos).2), ?_, Lib.iterAt_size _ _ _ _, fun k hk => Lib.iterAt_other w r.block k _ _ hk, rfl, rfl, rfl, ⟨Lib.iterAt_heap w r.block _ pos _ q1, q2, q3⟩, ?_⟩
          · simp only [execOp, ho, hat ρ a r n hx h2 hr q2, Sem.run_bind]
            rw [Lib.run_next_any_at w r.block _ pos o.type q1 (by rw [hsz]; exact hlt), decL_eq q3 hlt]
            rfl
          · simp only [Rel]; exact ⟨_, rfl, .cons (rel_bool _) (.cons (rel_int _ _) (.cons (rel_int _ _) .nil))⟩
    · cases g3
  · cases h1
end
end Go.Proofs.Ytcjddojcfdeflaa.Ev
namespace Go.Proofs.Ytcjddojcfdeflaa.Ev
open Go.RowKit
open Go.MapKept (IsKey run_setObj_map run_checkKey run_findKey run_keyThatStays heap_set bytes_beq)

section
variable {ρ : Rho}
theorem MRel.length : ∀ {l : List MEnt} {es : List MapEntry}, MRel ρ l es → es.length = l.length
  | [], [], _ => rfl
  | _ :: _, _ :: _, h => by simp [MRel.length h.2]
  | [], _ :: _, h => h.elim
  | _ :: _, [], h => h.elim
theorem MRel.modify {f : MEnt → MEnt} {g : MapEntry → MapEntry} (hf : ∀ x y, RelE ρ x y → RelE ρ (f x) (g y)) : ∀ {l : List MEnt} {es : List MapEntry} (i : Nat), MRel ρ l es → MRel ρ (l.modify i f) (es.modify i g)
  | [], [], i, _ => by cases i <;> exact trivial
  | x :: l, y :: es, 0, h => by
    show MRel ρ (f x :: l) (g y :: es)
    exact ⟨hf x y h.1, h.2⟩
  | x :: l, y :: es, i + 1, h => by
    show MRel ρ (x :: l.modify i f) (y :: es.modify i g)
    exact ⟨h.1, MRel.modify hf i h.2⟩
  | [], _ :: _, _, h => h.elim
  | _ :: _, [], _, h => h.elim
theorem MRel.erase : ∀ {l : List MEnt} {es : List MapEntry} (i : Nat), MRel ρ l es → MRel ρ (l.eraseIdx i) (es.eraseIdx i)
  | [], [], _, _ => trivial
  | _ :: _, _ :: _, 0, h => h.2
  | x :: l, y :: es, i + 1, h => by
    show MRel ρ (x :: l.eraseIdx i) (y :: es.eraseIdx i)
    exact ⟨h.1, MRel.erase i h.2⟩
  | [], _ :: _, _, h => h.elim
  | _ :: _, [], _, h => h.elim
theorem MRel.push {x : MEnt} {y : MapEntry} (hx : RelE ρ x y) : ∀ {l : List MEnt} {es : List MapEntry}, MRel ρ l es → MRel ρ (l ++ [x]) (es ++ [y])
  | [], [], _ => ⟨hx, trivial⟩
  | _ :: _, _ :: _, h => ⟨h.1, MRel.push hx h.2⟩
  | [], _ :: _, h => h.elim
  | _ :: _, [], h => h.elim
theorem keyOk_isKey {d : TypeDesc} {k : V} {kv : Value} (h : keyOk d k = true) (hr : Rel ρ k kv) : IsKey d kv := by
  unfold keyOk at h
  split at h
  · simp only [Rel] at hr
    obtain ⟨rfl, _⟩ := hr
    exact (eqKd_eq h).symm
  · simp only [Rel] at hr
    obtain ⟨rfl, _⟩ := hr
    trivial
  · cases h
theorem ba_beq (a b : List UInt8) : ((⟨⟨a⟩⟩ : ByteArray) == ⟨⟨b⟩⟩) = (a == b) := by
  rw [Bool.eq_iff_iff, bytes_beq, beq_iff_eq]
  constructor
  · intro h; injection h with h; injection h
  · rintro rfl; rfl
/-- keys alike? -/
theorem keyEq_ok {d : TypeDesc} {k x : V} {kv xv : Value} {b : Bool} (hk : keyOk d k = true) (h : keyEq k x = some b) (h1 : Rel ρ k kv) (h2 : Rel ρ x xv) : Instr.sameNow d kv xv = some b ∧ (b = true → xv = kv) := by
  unfold keyEq at h
  split at h
  · rename_i k1 a k2 a'
    simp only [Rel] at h1 h2
    obtain ⟨rfl, _⟩ := h1
    obtain ⟨rfl, _⟩ := h2
    split at h
    · rename_i hkd
      injection h with h
      have hkd' : k1 = k2 := eqKd_eq hkd
      subst hkd'
      unfold keyOk at hk
      split at hk
      · rw [eqI_eq] at h
        subst h
        refine ⟨by simp [Instr.sameNow], fun e => ?_⟩
        have : a = a' := by simpa using e
        rw [this]
      · rename_i e; cases e
      · cases hk
    · cases h
  · simp only [Rel] at h1 h2
    obtain ⟨rfl, g1⟩ := h1
    obtain ⟨rfl, g2⟩ := h2
    injection h with h
    unfold keyOk at hk
    split at hk
    · rename_i e; cases e
    · have e1 := map_inj _ _ g1 g2
      rw [eqL_eq] at h
      subst h
      refine ⟨by simp only [Instr.sameNow, ba_beq, e1], fun e => ?_⟩
      rw [decide_eq_true_eq] at e
      rw [e]
    · cases hk
  · cases h
/-- what is found -/
theorem mfind_ok {d : TypeDesc} {k : V} {kv : Value} (hk : keyOk d k = true) (h1 : Rel ρ k kv) : ∀ {l : List MEnt} {es : List MapEntry} {i : Nat} {a : Option (Nat × V × Nat)}, MRel ρ l es → mfind k l i = some a →
    (a = none → Instr.findNow d kv es i = some none) ∧ ∀ y, a = some y → ∃ e, i ≤ y.1 ∧ es[y.1 - i]? = some e ∧ Instr.findNow d kv es i = some (some (y.1, e.val)) ∧ Rel ρ y.2.1 e.val ∧ e.born = y.2.2 ∧ e.key = kv
  | [], [], i, a, _, h => by
    have h' : (some none : Option (Option (Nat × V × Nat))) = some a := h
    injection h' with h'; subst h'
    exact ⟨fun _ => rfl, fun y h => by cases h⟩
  | x :: l, y :: es, i, a, hm, h => by
    have h' : (match keyEq k x.1 with
      | none => none
      | some true => some (some (i, x.2.1, x.2.2))
      | some false => mfind k l (i + 1)) = some a := h
    split at h'
    · cases h'
    · rename_i he
      injection h' with h'
      obtain ⟨s1, s2⟩ := keyEq_ok hk he h1 hm.1.1
      refine ⟨fun h => (by rw [← h'] at h; cases h), fun z hz => ?_⟩
      rw [← h'] at hz
      injection hz with hz; subst hz
      exact ⟨y, Nat.le_refl _, by simp, by simp [Instr.findNow, s1], hm.1.2.1, hm.1.2.2, s2 rfl⟩
    · rename_i he
      obtain ⟨s1, _⟩ := keyEq_ok hk he h1 hm.1.1
      obtain ⟨k1, k2⟩ := mfind_ok hk h1 hm.2 h'
      have e1 : Instr.findNow d kv (y :: es) i = Instr.findNow d kv es (i + 1) := by simp [Instr.findNow, s1]
      refine ⟨fun h => by rw [e1]; exact k1 h, fun z hz => ?_⟩
      obtain ⟨e, q1, q2, q3, q4⟩ := k2 z hz
      refine ⟨e, by omega, ?_, by rw [e1]; exact q3, q4⟩
      rw [show z.1 - i = (z.1 - (i + 1)) + 1 by omega]
      simpa using q2
  | [], _ :: _, _, _, h, _ => h.elim
  | _ :: _, [], _, _, h, _ => h.elim
end
section
variable {P : Program} {c : Cx} {st st' : St} {v : V} {e : Env} {o : Oper}
/-- a block turns; no value -/
theorem opOk_setS {n : Nat} {b b' : B} (g1 : c.ok n = true) (g2 : st.h.get n = some b) (gl : b.live) (g4 : c.wb ≤ n)
    (h : ∀ (B0 : Nat) (ρ : Rho) (τ : Mem) (w : World) (a : Act) (r : R), (∀ x, x ∈ o.op.operands.toList → TmpRel ρ e a x) → Agree c st τ → Real ρ B0 τ w → ρ n = some r → Blk ρ b r w → r.block < w.heap.size →
      ∃ (w' : World), (execOp a.eval o).run P w = .ok .skip w' ∧ w'.heap.size = w.heap.size ∧ (∀ k, k ≠ r.block → w'.heap[k]? = w.heap[k]?) ∧ w'.os = w.os ∧ w'.tape = w.tape ∧ w'.output = w.output ∧ Blk ρ b' r w') :
    StepOk c st ⟨st.nx, st.h.set n b'⟩ ∧ OpOk P c st ⟨st.nx, st.h.set n b'⟩ .u e o :=
  ⟨stepOk_set g1 g2 g4 gl, fun B0 ρ τ w a h1 h2 h3 hf K Q hK => by
    have hτ := h2 n _ g1 g2
    obtain ⟨r, r1, r2, r3, r4⟩ := h3.blk n _ hτ
    obtain ⟨w', k1, k2, k3, k4, k5, k6, k7⟩ := h B0 ρ τ w a r h1 h2 h3 r1 r4 r3
    have hreal : Real ρ B0 (ov st ⟨st.nx, st.h.set n b'⟩ τ) w' := by
      rw [ov_set h2 g1 g2]
      exact h3.set hτ gl r1 k2 k3 k7
    have hfin := hK ρ undef w' (Rho.le_refl _) (Dom.refl _ _ _) rel_u hreal ⟨k4, k5, k6, by rw [k2]; exact Nat.le_refl _, fun k hk => k3 k (by have := r2 gl; omega)⟩
    unfold Oper.wp
    rw [k1]
    exact hfin⟩
theorem mapT_inv {β : Type} {q : β} {t : TypeId} {x : V} {k : TypeId → Option β} (h : mapT P t x k = some q) : ∃ kt el d, P.underlying t = some (.map kt el) ∧ P.underlying kt = some d ∧ keyOk d x = true ∧ k el = some q := by
  unfold mapT at h
  split at h
  · rename_i kt el hu
    split at h
    · rename_i d hd
      split at h
      · rename_i hk; exact ⟨kt, el, d, hu, hd, by simpa using hk, h⟩
      · cases h
    · cases h
  · cases h
theorem getM_inv {β : Type} {q : β} {m : V} {k : Nat → List MEnt → Nat → Option β} (h : getM c st m k = some q) : ∃ n l clock, m = .m n ∧ c.ok n = true ∧ st.h.get n = some (.mp l clock) ∧ k n l clock = some q := by
  unfold getM at h
  split at h
  · obtain ⟨b, h1, h2, h3⟩ := getB_inv h
    split at h3
    · exact ⟨_, _, _, rfl, h1, h2, h3⟩
    · cases h3
  · cases h
theorem zeroV_inv {t : TypeId} {k : V → Res} {q : V × St} (h : zeroV P t k = some q) : ∃ z y, k z = some q ∧ (∀ ρ, Rel ρ z y) ∧ ∀ w, (zeroValue t).run P w = .ok y w := by
  unfold zeroV at h
  split at h
  · cases h
  · rename_i i hi
    split at h
    · cases h
    · rename_i y hy
      obtain ⟨z, h1, h2⟩ := ofV_inv h
      exact ⟨z, y, h1, h2, fun w => by simp [zeroValue, typeInfo, hi, hy]⟩
theorem rel_m {ρ : Rho} {n : Nat} {x : Value} {r : R} (h : Rel ρ (.m n) x) (hr : ρ n = some r) : x = .map (some r.block) := by
  simp only [Rel] at h
  obtain ⟨r', h1, rfl⟩ := h
  rw [hr] at h1; injection h1 with h1; subst h1; rfl
theorem ok_makeMap {t : TypeId} (ho : o.op = .makeMap t none) (h : (match P.underlying t with | some (.map _ _) => newB st (.mp [] 0) fun n st => (some (.m n, st) : Res) | _ => none) = some (v, st')) : StepOk c st st' ∧ OpOk P c st st' v e o := by
  split at h
  · rw [newB_eq] at h
    obtain ⟨rfl, rfl⟩ := some_inv h
    refine opOk_newB fun B0 ρ τ w a _ _ _ => ⟨.map (some w.heap.size), w.alloc (.map #[] 0), 0, ?_, by rw [show (w.alloc (.map #[] 0)).heap = w.heap.push (.map #[] 0) from rfl, Array.size_push], fun k hk => Below.heap_alloc w _ k hk, rfl, rfl, rfl, fun ρ' _ hρ => ⟨⟨#[], ?_, trivial⟩, ?_⟩⟩
    · simp [execOp, ho, Instr.makeMap, Result.andThen]
    · show (w.heap.push (.map #[] 0))[w.heap.size]? = _
      simp
    · simp only [Rel]; exact ⟨_, hρ, rfl⟩
  · cases h
theorem ok_lookup {t : TypeId} {x ix : Operand} {ok : Bool} (ho : o.op = .lookup t x ix ok) (h : (opd e x fun m => opd e ix fun k => lookE P c st t m k ok) = some (v, st')) : StepOk c st st' ∧ OpOk P c st st' v e o := by
  obtain ⟨vm, h1, h2⟩ := opd_inv h
  obtain ⟨vk, h3, h4⟩ := opd_inv h1
  have mx : x ∈ o.op.operands.toList := by simp [ho, Op.operands]
  have mi : ix ∈ o.op.operands.toList := by simp [ho, Op.operands]
  unfold lookE at h3
  obtain ⟨kt, el, d, hu, hd, hk, h5⟩ := mapT_inv h3
  have fin : ∀ (y : V) (b : Bool), lookV ok st y b = some (v, st') → st' = st ∧ ∀ ρ yv, Rel ρ y yv → Rel ρ v (if ok then .tuple #[yv, .bool b] else yv) := fun y b hl => by
    unfold lookV at hl
    split at hl
    · obtain ⟨rfl, rfl⟩ := some_inv hl
      refine ⟨rfl, fun ρ yv hy => ?_⟩
      simp only [Rel, if_true]
      exact ⟨_, rfl, .cons hy (.cons (rel_bool _) .nil)⟩
    · obtain ⟨rfl, rfl⟩ := some_inv hl
      exact ⟨rfl, fun ρ yv hy => by simpa using hy⟩
  split at h5
  · obtain ⟨z, y, k1, k2, k3⟩ := zeroV_inv h5
    obtain ⟨rfl, k4⟩ := fin z false k1
    refine opOk_val fun B0 ρ τ w a hx _ _ => ⟨_, k4 ρ y (k2 ρ), ?_⟩
    have hm := h2 ρ a (hx x mx)
    have hkv := h4 ρ a (hx ix mi)
    simp only [Rel] at hm
    obtain ⟨hm, _⟩ := hm
    have hik := keyOk_isKey hk hkv
    simp only [execOp, ho, hm, Instr.lookup, Sem.run_bind, run_underlying' hu, Result.andThen_ok, Sem.run_pure, run_checkKey hd hik _ 9999, run_findKey hd (show Instr.findNow d (a.eval ix) (#[] : Array MapEntry).toList 0 = some none from rfl), k3 w]
  · rename_i hnm
    obtain ⟨n, l, clock, rfl, g1, g2, g3⟩ := getM_inv h5
    split at g3
    · cases g3
    · rename_i hf
      obtain ⟨z, y, k1, k2, k3⟩ := zeroV_inv g3
      obtain ⟨rfl, k4⟩ := fin z false k1
      refine opOk_val fun B0 ρ τ w a hx hag hre => ⟨_, k4 ρ y (k2 ρ), ?_⟩
      obtain ⟨r, r1, _, _, es, r2, r3⟩ := hre.blk n _ (hag n _ g1 g2)
      have hm := rel_m (h2 ρ a (hx x mx)) r1
      have hkv := h4 ρ a (hx ix mi)
      have hik := keyOk_isKey hk hkv
      have hfn := (mfind_ok hk hkv r3 hf).1 rfl
      simp only [execOp, ho, hm, Instr.lookup, Sem.run_bind, run_underlying' hu, Result.andThen_ok, Sem.run_pure, MapKept.run_getObj_map r2, run_checkKey hd hik _ 9999, run_findKey hd hfn, k3 w]
    · rename_i y hf
      obtain ⟨rfl, k4⟩ := fin _ true g3
      refine opOk_val fun B0 ρ τ w a hx hag hre => ?_
      obtain ⟨r, r1, _, _, es, r2, r3⟩ := hre.blk n _ (hag n _ g1 g2)
      have hm := rel_m (h2 ρ a (hx x mx)) r1
      have hkv := h4 ρ a (hx ix mi)
      have hik := keyOk_isKey hk hkv
      obtain ⟨en, _, _, hfn, q4, _⟩ := (mfind_ok hk hkv r3 hf).2 y rfl
      refine ⟨_, k4 ρ _ q4, ?_⟩
      simp only [execOp, ho, hm, Instr.lookup, Sem.run_bind, run_underlying' hu, Result.andThen_ok, Sem.run_pure, MapKept.run_getObj_map r2, run_checkKey hd hik _ 9999, run_findKey hd hfn]
/-- what a map is behind a write -/
theorem map_set {ρ : Rho} {w : World} {r : R} {es es' : Array MapEntry} {l' : List MEnt} {clock clock' : Nat} (hb : w.heap[r.block]? = some (.map es clock)) (hm : MRel ρ l' es'.toList) :
    ({ w with heap := w.heap.setIfInBounds r.block (.map es' clock') } : World).heap.size = w.heap.size ∧ (∀ k, k ≠ r.block → ({ w with heap := w.heap.setIfInBounds r.block (.map es' clock') } : World).heap[k]? = w.heap[k]?) ∧
      Blk ρ (.mp l' clock') r { w with heap := w.heap.setIfInBounds r.block (.map es' clock') } :=
  ⟨by simp, fun k hk => (heap_set hb).2 k hk, es', (heap_set hb).1, hm⟩
theorem ok_mput {t : TypeId} {m k x : Operand} (ho : o.op = .mapUpdate t m k x ∨ o.op = .insert t m k x) (h : (opd e m fun m => opd e k fun k => opd e x fun x => mputE P c st t m k x) = some (v, st')) : StepOk c st st' ∧ OpOk P c st st' v e o := by
  obtain ⟨vm, h1, h2⟩ := opd_inv h
  obtain ⟨vk, h3, h4⟩ := opd_inv h1
  obtain ⟨vx, h5, h6⟩ := opd_inv h3
  have mm : m ∈ o.op.operands.toList := by rcases ho with ho | ho <;> simp [ho, Op.operands]
  have mk : k ∈ o.op.operands.toList := by rcases ho with ho | ho <;> simp [ho, Op.operands]
  have mx : x ∈ o.op.operands.toList := by rcases ho with ho | ho <;> simp [ho, Op.operands]
  unfold mputE at h5
  obtain ⟨kt, el, d, hu, hd, hk, h7⟩ := mapT_inv h5
  obtain ⟨n, l, clock, rfl, g1, g2, g3⟩ := getM_inv h7
  have hex : ∀ (a : Act) (w w' : World), (Instr.mapUpdate t (a.eval m) (a.eval k) (a.eval x)).run P w = .ok () w' → (execOp a.eval o).run P w = .ok .skip w' := fun a w w' hu => by
    rcases ho with ho | ho <;> simp [execOp, ho, hu]
  split at g3
  · cases g3
  · rename_i hf
    rw [fn_eq] at g3
    obtain ⟨g4, g5⟩ := setB_inv g3
    obtain ⟨rfl, rfl⟩ := some_inv g5
    refine opOk_setS g1 g2 trivial g4 fun B0 ρ τ w a r hx hag hre hr hblk hlt => ?_
    obtain ⟨es, r2, r3⟩ := hblk
    have hm := rel_m (h2 ρ a (hx m mm)) hr
    have hkv := h4 ρ a (hx k mk)
    have hxv := h6 ρ a (hx x mx)
    have hik := keyOk_isKey hk hkv
    have hfn := (mfind_ok hk hkv r3 hf).1 rfl
    obtain ⟨s1, s2, s3⟩ := map_set (ρ := ρ) (r := r) (l' := l ++ [(vk, vx, clock)]) (es' := es.push { key := a.eval k, val := a.eval x, born := clock }) (clock' := clock + 1) r2 (by
      rw [Array.toList_push]; exact MRel.push ⟨hkv, hxv, rfl⟩ r3)
    refine ⟨_, hex a w _ ?_, s1, s2, rfl, rfl, rfl, s3⟩
    rw [hm]
    simp only [Instr.mapUpdate, Sem.run_bind, run_underlying' hu, Result.andThen_ok, MapKept.run_getObj_map r2, run_checkKey hd hik _ 9999, run_findKey hd hfn, run_setObj_map _ r2]
  · rename_i y hf
    obtain ⟨g4, g5⟩ := setB_inv g3
    obtain ⟨rfl, rfl⟩ := some_inv g5
    refine opOk_setS g1 g2 trivial g4 fun B0 ρ τ w a r hx hag hre hr hblk hlt => ?_
    obtain ⟨es, r2, r3⟩ := hblk
    have hm := rel_m (h2 ρ a (hx m mm)) hr
    have hkv := h4 ρ a (hx k mk)
    have hxv := h6 ρ a (hx x mx)
    have hik := keyOk_isKey hk hkv
    obtain ⟨en, _, q2, hfn, q4, q5, q6⟩ := (mfind_ok hk hkv r3 hf).2 y rfl
    have q2' : es[y.1]? = some en := by simpa using q2
    obtain ⟨s1, s2, s3⟩ := map_set (ρ := ρ) (r := r) (l' := l.modify y.1 fun e => (vk, vx, e.2.2)) (es' := es.modify y.1 fun e => { e with key := a.eval k, val := a.eval x }) (clock' := clock) r2 (by
      rw [Array.toList_modify]; exact MRel.modify (f := fun e => (vk, vx, e.2.2)) (g := fun e => { e with key := a.eval k, val := a.eval x }) (fun _ _ h => ⟨hkv, hxv, h.2.2⟩) _ r3)
    refine ⟨_, hex a w _ ?_, s1, s2, rfl, rfl, rfl, s3⟩
    rw [hm]
    simp only [Instr.mapUpdate, Sem.run_bind, run_underlying' hu, Result.andThen_ok, MapKept.run_getObj_map r2, run_checkKey hd hik _ 9999, run_findKey hd hfn, q2', Option.map_some, Option.getD_some, q6, run_keyThatStays hik, run_setObj_map _ r2]
theorem ok_ment {t : TypeId} {m k : Operand} (ho : o.op = .mapEntry t m k) (h : (opd e m fun m => opd e k fun k => mentE P c st t m k) = some (v, st')) : StepOk c st st' ∧ OpOk P c st st' v e o := by
  obtain ⟨vm, h1, h2⟩ := opd_inv h
  obtain ⟨vk, h3, h4⟩ := opd_inv h1
  have mm : m ∈ o.op.operands.toList := by simp [ho, Op.operands]
  have mk : k ∈ o.op.operands.toList := by simp [ho, Op.operands]
  unfold mentE at h3
  obtain ⟨kt, el, d, hu, hd, hk, h7⟩ := mapT_inv h3
  obtain ⟨n, l, clock, rfl, g1, g2, g3⟩ := getM_inv h7
  have hex : ∀ (a : Act) (w w' : World) (u : Value), (Instr.mapEntry t (a.eval m) (a.eval k)).run P w = .ok u w' → (execOp a.eval o).run P w = .ok (.value u) w' := fun a w w' u hu => by
    simp [execOp, ho, hu]
  split at g3
  · cases g3
  · rename_i hf
    obtain ⟨z, zy, z1, z2, z3⟩ := zeroV_inv g3
    rw [fn_eq] at z1
    obtain ⟨g4, g5⟩ := setB_inv z1
    obtain ⟨rfl, rfl⟩ := some_inv g5
    refine opOk_setB g1 g2 trivial g4 fun B0 ρ τ w a r hx hag hre hr hblk hlt => ?_
    obtain ⟨es, r2, r3⟩ := hblk
    have hm := rel_m (h2 ρ a (hx m mm)) hr
    have hkv := h4 ρ a (hx k mk)
    have hik := keyOk_isKey hk hkv
    have hfn := (mfind_ok hk hkv r3 hf).1 rfl
    obtain ⟨s1, s2, s3⟩ := map_set (ρ := ρ) (r := r) (l' := l ++ [(vk, z, clock)]) (es' := es.push { key := a.eval k, val := zy, born := clock }) (clock' := clock + 1) r2 (by
      rw [Array.toList_push]; exact MRel.push ⟨hkv, z2 ρ, rfl⟩ r3)
    refine ⟨.tuple #[zy, goInt clock], _, hex a w _ _ ?_, s1, s2, rfl, rfl, rfl, s3, ?_⟩
    · rw [hm]
      simp only [Instr.mapEntry, Sem.run_bind, run_underlying' hu, Result.andThen_ok, MapKept.run_getObj_map r2, run_checkKey hd hik _ 9999, run_findKey hd hfn, z3 w, run_setObj_map _ r2, Sem.run_pure]
    · simp only [Rel]
      exact ⟨_, rfl, .cons (z2 ρ) (.cons (rel_int _ _) .nil)⟩
  · rename_i y hf
    obtain ⟨g4, g5⟩ := setB_inv g3
    obtain ⟨rfl, rfl⟩ := some_inv g5
    refine opOk_setB g1 g2 trivial g4 fun B0 ρ τ w a r hx hag hre hr hblk hlt => ?_
    obtain ⟨es, r2, r3⟩ := hblk
    have hm := rel_m (h2 ρ a (hx m mm)) hr
    have hkv := h4 ρ a (hx k mk)
    have hik := keyOk_isKey hk hkv
    obtain ⟨en, _, q2, hfn, q4, q5, q6⟩ := (mfind_ok hk hkv r3 hf).2 y rfl
    have q2' : es[y.1]? = some en := by simpa using q2
    obtain ⟨s1, s2, s3⟩ := map_set (ρ := ρ) (r := r) (l' := l.modify y.1 fun e => (vk, e.2.1, e.2.2)) (es' := es.modify y.1 fun e => { e with key := a.eval k }) (clock' := clock) r2 (by
      rw [Array.toList_modify]; exact MRel.modify (f := fun e => (vk, e.2.1, e.2.2)) (g := fun e => { e with key := a.eval k }) (fun _ _ h => ⟨hkv, h.2.1, h.2.2⟩) _ r3)
    refine ⟨.tuple #[en.val, goInt y.2.2], _, hex a w _ _ ?_, s1, s2, rfl, rfl, rfl, s3, ?_⟩
    · rw [hm]
      simp only [Instr.mapEntry, Sem.run_bind, run_underlying' hu, Result.andThen_ok, MapKept.run_getObj_map r2, run_checkKey hd hik _ 9999, run_findKey hd hfn, q2', Option.map_some, Option.getD_some, q5, q6, run_keyThatStays hik, run_setObj_map _ r2, Sem.run_pure]
    · simp only [Rel]
      exact ⟨_, rfl, .cons q4 (.cons (rel_int _ _) .nil)⟩
theorem mborn_ok {ρ : Rho} {n : Nat} : ∀ {l : List MEnt} {es : List MapEntry} {i j : Nat}, MRel ρ l es → mborn n l i = some j → ∃ q, i ≤ j ∧ es.findIdx? (fun e => (e.born : Int) == (n : Int)) = some q ∧ j = i + q
  | [], [], i, j, _, h => by
    have h' : (none : Option Nat) = some j := h
    cases h'
  | x :: l, y :: es, i, j, hm, h => by
    have h' : (match Nat.beq x.2.2 n with | true => some i | false => mborn n l (i + 1)) = some j := h
    have hb := hm.1.2.2
    split at h'
    · rename_i he
      injection h' with h'; subst h'
      refine ⟨0, Nat.le_refl _, ?_, by simp⟩
      have : x.2.2 = n := by simpa [nbeq] using he
      rw [List.findIdx?_cons]
      simp [hb, this]
    · rename_i he
      obtain ⟨q, k1, k2, k3⟩ := mborn_ok hm.2 h'
      refine ⟨q + 1, by omega, ?_, by omega⟩
      have : ¬ x.2.2 = n := by
        intro e
        rw [nbeq] at he
        simp [e] at he
      rw [List.findIdx?_cons]
      have hne : ¬ ((y.born : Int) = (n : Int)) := by rw [hb]; omega
      simp [hne, k2]
  | [], _ :: _, _, _, h, _ => h.elim
  | _ :: _, [], _, _, h, _ => h.elim
theorem ok_msto {t : TypeId} {m s x : Operand} (ho : o.op = .entryStore t m s x) (h : (opd e m fun m => opd e s fun s => opd e x fun x => mstoE c st m s x) = some (v, st')) : StepOk c st st' ∧ OpOk P c st st' v e o := by
  obtain ⟨vm, h1, h2⟩ := opd_inv h
  obtain ⟨vs, h3, h4⟩ := opd_inv h1
  obtain ⟨vx, h5, h6⟩ := opd_inv h3
  have mm : m ∈ o.op.operands.toList := by simp [ho, Op.operands]
  have ms : s ∈ o.op.operands.toList := by simp [ho, Op.operands]
  have mx : x ∈ o.op.operands.toList := by simp [ho, Op.operands]
  unfold mstoE at h5
  obtain ⟨ik, b, rfl, h7⟩ := asNat_inv h5
  obtain ⟨n, l, clock, rfl, g1, g2, g3⟩ := getM_inv h7
  split at g3
  · cases g3
  · rename_i i hf
    obtain ⟨g4, g5⟩ := setB_inv g3
    obtain ⟨rfl, rfl⟩ := some_inv g5
    refine opOk_setS g1 g2 trivial g4 fun B0 ρ τ w a r hx hag hre hr hblk hlt => ?_
    obtain ⟨es, r2, r3⟩ := hblk
    have hm := rel_m (h2 ρ a (hx m mm)) hr
    have hsv := h4 ρ a (hx s ms)
    simp only [Rel] at hsv
    have hxv := h6 ρ a (hx x mx)
    obtain ⟨q, _, q2, q3⟩ := mborn_ok r3 hf
    have hq : i = q := by omega
    subst hq
    have q2' : es.findIdx? (fun e => (e.born : Int) == (b : Int)) = some i := by rw [← Array.toArray_toList (xs := es), List.findIdx?_toArray]; exact q2
    obtain ⟨s1, s2, s3⟩ := map_set (ρ := ρ) (r := r) (l' := l.modify i fun e => (e.1, vx, e.2.2)) (es' := es.modify i fun e => { e with val := a.eval x }) (clock' := clock) r2 (by
      rw [Array.toList_modify]; exact MRel.modify (f := fun e => (e.1, vx, e.2.2)) (g := fun e => { e with val := a.eval x }) (fun _ _ h => ⟨h.1, hxv, h.2.2⟩) _ r3)
    refine ⟨_, ?_, s1, s2, rfl, rfl, rfl, s3⟩
    simp only [execOp, ho, hm, hsv.1, Instr.entryStore, Sem.run_bind, Result.andThen_ok, MapKept.run_getObj_map r2, Go.asInt, asIntOf, Sem.run_pure]
    show (Sem.run P (match es.findIdx? (fun e => (e.born : Int) == (b : Int)) with
      | some i => setObj r.block (.map (es.modify i fun e => { e with val := a.eval x }) clock)
      | none => unsupported (.noEntry "instr/MapEntry.the entry is gone")) w).andThen _ = _
    rw [q2']
    simp only [run_setObj_map _ r2, Result.andThen_ok]
theorem ok_mdel {cl : Call} {t t' : TypeId} {m x : V} (ho : o.op = .call cl) (hb : cl.callee = .builtin .delete) (ht : cl.argTypes.toList = [t, t'])
    (hx : ∀ (ρ : Rho) (a : Act), (∀ y, y ∈ cl.args.toList → TmpRel ρ e a y) → RelL ρ [m, x] (cl.args.toList.map a.eval))
    (h : mdelE P c st t m x = some (v, st')) : StepOk c st st' ∧ OpOk P c st st' v e o := by
  unfold mdelE at h
  obtain ⟨kt, el, d, hu, hd, hk, h5⟩ := mapT_inv h
  have args : ∀ (ρ : Rho) (a : Act) (w : World), (∀ x, x ∈ o.op.operands.toList → TmpRel ρ e a x) → ∃ y y', Rel ρ m y ∧ Rel ρ x y' ∧ (execOp a.eval o).run P w = ((Builtin.delete_ #[t, t'] o.type #[y, y']).run P w).andThen (fun u w' => .ok (.value u) w') := fun ρ a w hxx => by
    rw [ho] at hxx
    obtain ⟨y, y', hy, r1, r2⟩ := relL2 (hx ρ a fun y hy => hxx y (call_ops hb y hy))
    have e1 : cl.args.map a.eval = #[y, y'] := arr2 (by rw [Array.toList_map]; exact hy)
    refine ⟨y, y', r1, r2, ?_⟩
    rw [run_builtin ho hb, e1, arr2 ht]
    simp [builtin]
  split at h5
  · obtain ⟨rfl, rfl⟩ := some_inv h5
    refine opOk_val fun B0 ρ τ w a hxx _ _ => ⟨undef, rel_u, ?_⟩
    obtain ⟨y, y', r1, r2, hrun⟩ := args ρ a w hxx
    simp only [Rel] at r1
    obtain ⟨rfl, _⟩ := r1
    have hik := keyOk_isKey hk r2
    rw [hrun]
    simp only [Builtin.delete_, List.getElem?_toArray, List.getElem?_cons_zero, List.getElem?_cons_succ, Sem.run_bind, run_underlying' hu, Result.andThen_ok, Sem.run_pure, run_checkKey hd hik _ 9999]
    rfl
  · obtain ⟨n, l, clock, rfl, g1, g2, g3⟩ := getM_inv h5
    split at g3
    · cases g3
    · rename_i hf
      obtain ⟨rfl, rfl⟩ := some_inv g3
      refine opOk_val fun B0 ρ τ w a hxx hag hre => ⟨undef, rel_u, ?_⟩
      obtain ⟨y, y', r1, r2, hrun⟩ := args ρ a w hxx
      obtain ⟨r, k1, _, _, es, k2, k3⟩ := hre.blk n _ (hag n _ g1 g2)
      have hm := rel_m r1 k1
      subst hm
      have hik := keyOk_isKey hk r2
      have hfn := (mfind_ok hk r2 k3 hf).1 rfl
      have hsame : ({ w with heap := w.heap.setIfInBounds r.block (.map es clock) } : World) = w := by
        have : w.heap.setIfInBounds r.block (.map es clock) = w.heap := by
          apply Array.ext_getElem?
          intro j
          by_cases hj : j = r.block
          · subst hj; rw [(heap_set k2).1, k2]
          · rw [(heap_set k2).2 j hj]
        rw [this]
      rw [hrun]
      simp only [Builtin.delete_, List.getElem?_toArray, List.getElem?_cons_zero, List.getElem?_cons_succ, Sem.run_bind, run_underlying' hu, Result.andThen_ok, Sem.run_pure, MapKept.run_getObj_map k2, run_checkKey hd hik _ 9999, run_findKey hd hfn, run_setObj_map _ k2, hsame]
      rfl
    · rename_i y0 hf
      obtain ⟨g4, g5⟩ := setB_inv g3
      obtain ⟨rfl, rfl⟩ := some_inv g5
      refine opOk_setB g1 g2 trivial g4 fun B0 ρ τ w a r hxx hag hre hr hblk hlt => ?_
      obtain ⟨es, k2, k3⟩ := hblk
      obtain ⟨y, y', r1, r2, hrun⟩ := args ρ a w hxx
      have hm := rel_m r1 hr
      subst hm
      have hik := keyOk_isKey hk r2
      obtain ⟨en, _, q2, hfn, q4, q5, q6⟩ := (mfind_ok hk r2 k3 hf).2 y0 rfl
      obtain ⟨s1, s2, s3⟩ := map_set (ρ := ρ) (r := r) (l' := l.eraseIdx y0.1) (es' := es.eraseIdxIfInBounds y0.1) (clock' := clock) k2 (by
        rw [Array.toList_eraseIdxIfInBounds]; exact MRel.erase _ k3)
      refine ⟨undef, _, ?_, s1, s2, rfl, rfl, rfl, s3, rel_u⟩
      rw [hrun]
      simp only [Builtin.delete_, List.getElem?_toArray, List.getElem?_cons_zero, List.getElem?_cons_succ, Sem.run_bind, run_underlying' hu, Result.andThen_ok, Sem.run_pure, MapKept.run_getObj_map k2, run_checkKey hd hik _ 9999, run_findKey hd hfn, run_setObj_map _ k2]
      rfl
theorem sliceBounds3_ok {len cap l h m : Nat} {lo hi mx : Option Value} (h0 : ∃ i, mx = some (.int i (Int.ofNat m))) (h1 : ∃ i, hi = some (.int i (Int.ofNat h))) (h2 : Bd 0 l lo) (h3 : l ≤ h) (h4 : h ≤ m) (h5 : m ≤ cap) (w : World) :
    (Instr.sliceBounds true len cap lo hi mx).run P w = .ok (l, h, m) w := by
  obtain ⟨i, rfl⟩ := h0
  obtain ⟨i', rfl⟩ := h1
  rcases h2 with ⟨rfl, rfl⟩ | ⟨j, rfl⟩ <;>
    simp [Instr.sliceBounds, Instr.sliceBound, asIntOf, h3, h4, h5]
theorem ok_slice3 {t : TypeId} {x mx : Operand} {lo hi : Option Operand} (ho : o.op = .slice t x lo hi (some mx)) (h : (opd e x fun v => slice3E P e t v lo hi mx fun a => (some (a, st) : Res)) = some (v, st')) :
    StepOk c st st' ∧ OpOk P c st st' v e o := by
  obtain ⟨v0, h1, h2⟩ := opd_inv h
  have m1 : x ∈ (Op.slice t x lo hi (some mx)).operands.toList := by simp [Op.operands]
  have m2 : ∀ y, lo = some y → y ∈ (Op.slice t x lo hi (some mx)).operands.toList := fun y h => by subst h; simp [Op.operands]
  have m3 : ∀ y, hi = some y → y ∈ (Op.slice t x lo hi (some mx)).operands.toList := fun y h => by subst h; simp [Op.operands]
  have m4 : mx ∈ (Op.slice t x lo hi (some mx)).operands.toList := by simp [Op.operands]
  have one : ∀ {n : Nat} {y : Option Value}, Bd 0 n y → y ≠ none → ∃ i, y = some (.int i (Int.ofNat n)) := fun hb hn => by
    rcases hb with ⟨e, _⟩ | h
    · exact absurd e hn
    · exact h
  unfold slice3E at h1
  split at h1
  · rename_i el n o' _ cap hi' hu
    obtain ⟨ti, h7, h8⟩ := szOf_inv h1
    obtain ⟨m, b1, b2⟩ := bnd_bd h8
    obtain ⟨hh, b3, b4⟩ := bnd_bd b1
    obtain ⟨l, b5, b6⟩ := bnd_bd b3
    split at b5
    · rename_i g1 g2 g3
      simp only [fn_eq] at b5
      obtain ⟨rfl, rfl⟩ := some_inv b5
      refine opOk_val fun B0 ρ τ w a hx _ _ => ?_
      rw [ho] at hx
      have hv := h2 ρ a (hx x m1)
      simp only [Rel] at hv
      obtain ⟨r, hr, hv⟩ := hv
      have k0 := one (b2 ρ a fun y hy => by injection hy with hy; subst hy; exact hx _ m4) (by simp)
      have k1 := one (b4 ρ a fun y hy => hx y (m3 y hy)) (by simp)
      have k2 := b6 ρ a fun y hy => hx y (m2 y hy)
      have q1 : l ≤ hh := by simpa [Nat.ble_eq] using g1
      have q2 : hh ≤ m := by simpa [Nat.ble_eq] using g2
      have q3 : m ≤ cap := by simpa [Nat.ble_eq] using g3
      have := fun len => sliceBounds3_ok (P := P) (len := len) k0 k1 k2 q1 q2 q3 w
      refine ⟨.slice (if m = l then some ⟨r.block, r.base + o', none⟩ else some ⟨r.block, r.base + o' + l * ti.size, none⟩) (hh - l) (m - l), ?_, ?_⟩
      · simp only [Rel]
        refine ⟨r, hr, ?_⟩
        by_cases hc : m = l
        · have : Nat.beq m l = true := by simpa [Nat.beq_eq] using hc
          rw [if_pos hc, this]
        · have : Nat.beq m l = false := by rw [Bool.eq_false_iff]; simpa [Nat.beq_eq] using hc
          rw [if_neg hc, this]; simp [Nat.add_assoc]
      · simp only [execOp, ho, Sem.run_bind, Instr.sliceAt, run_underlying' hu, Result.andThen_ok, hv, Instr.slice, this, run_sizeOf' h7]
        simp [add_off]
    · cases b5
  · rename_i el n o' len z' hi' hu
    obtain ⟨ti, h7, h8⟩ := szOf_inv h1
    obtain ⟨m, b1, b2⟩ := bnd_bd h8
    obtain ⟨hh, b3, b4⟩ := bnd_bd b1
    obtain ⟨l, b5, b6⟩ := bnd_bd b3
    split at b5
    · rename_i g1 g2 g3 g4
      simp only [fn_eq] at b5
      obtain ⟨rfl, rfl⟩ := some_inv b5
      refine opOk_val fun B0 ρ τ w a hx _ _ => ?_
      rw [ho] at hx
      have hv := h2 ρ a (hx x m1)
      simp only [Rel] at hv
      obtain ⟨r, hr, hz0, hle, hv⟩ := hv
      have k0 := one (b2 ρ a fun y hy => by injection hy with hy; subst hy; exact hx _ m4) (by simp)
      have k1 := one (b4 ρ a fun y hy => hx y (m3 y hy)) (by simp)
      have k2 := b6 ρ a fun y hy => hx y (m2 y hy)
      have q1 : l ≤ hh := by simpa [Nat.ble_eq] using g1
      have q2 : hh ≤ m := by simpa [Nat.ble_eq] using g2
      have q3 : m ≤ len := by simpa [Nat.ble_eq] using g3
      have := fun len => sliceBounds3_ok (P := P) (len := len) k0 k1 k2 q1 q2 (Nat.le_trans q3 hle) w
      refine ⟨.slice (if m = l then some ⟨r.block, r.base + o', none⟩ else some ⟨r.block, r.base + o' + l * ti.size, none⟩) (hh - l) (m - l), ?_, ?_⟩
      · simp only [Rel]
        refine ⟨r, hr, ?_⟩
        by_cases hc : m = l
        · have : Nat.beq m l = true := by simpa [Nat.beq_eq] using hc
          rw [if_pos hc, this]
        · have : Nat.beq m l = false := by rw [Bool.eq_false_iff]; simpa [Nat.beq_eq] using hc
          rw [if_neg hc, this]; simp [Nat.add_assoc]
      · simp only [execOp, ho, Sem.run_bind, Instr.sliceAt, run_underlying' hu, Result.andThen_ok, hv, Instr.slice, this, run_sizeOf' h7]
        simp [add_off]
    · cases b5
  · rename_i el hi' hu
    obtain ⟨ti, h7, h8⟩ := szOf_inv h1
    obtain ⟨m, b1, b2⟩ := bnd_bd h8
    obtain ⟨hh, b3, b4⟩ := bnd_bd b1
    obtain ⟨l, b5, b6⟩ := bnd_bd b3
    split at b5
    · obtain ⟨rfl, rfl⟩ := some_inv b5
      refine opOk_val fun B0 ρ τ w a hx _ _ => ?_
      rw [ho] at hx
      have hv := h2 ρ a (hx x m1)
      refine ⟨_, hv, ?_⟩
      simp only [Rel] at hv
      obtain ⟨hv, _⟩ := hv
      have k0 := one (b2 ρ a fun y hy => by injection hy with hy; subst hy; exact hx _ m4) (by simp)
      have k1 := one (b4 ρ a fun y hy => hx y (m3 y hy)) (by simp)
      have k2 := b6 ρ a fun y hy => hx y (m2 y hy)
      have := sliceBounds3_ok (P := P) (len := 0) k0 k1 k2 (Nat.le_refl _) (Nat.le_refl _) (Nat.le_refl _) w
      simp only [execOp, ho, Sem.run_bind, Instr.sliceAt, run_underlying' hu, Result.andThen_ok, hv, Instr.slice, this, run_sizeOf' h7]
      simp
    · cases b5
  · cases h1
theorem ok_clear {cl : Call} {t : TypeId} {x : V} (ho : o.op = .call cl) (hb : cl.callee = .builtin .clear) (ht : cl.argTypes.toList = [t])
    (hx : ∀ (ρ : Rho) (a : Act), (∀ y, y ∈ cl.args.toList → TmpRel ρ e a y) → RelL ρ [x] (cl.args.toList.map a.eval))
    (h : clearE P c st t x = some (v, st')) : StepOk c st st' ∧ OpOk P c st st' v e o := by
  have args : ∀ (ρ : Rho) (a : Act) (w : World), (∀ x, x ∈ o.op.operands.toList → TmpRel ρ e a x) → ∃ y, Rel ρ x y ∧ (execOp a.eval o).run P w = ((Builtin.clear_ #[t] o.type #[y]).run P w).andThen (fun u w' => .ok (.value u) w') := fun ρ a w hxx => by
    rw [ho] at hxx
    obtain ⟨y, hy, r1⟩ := relL1 (hx ρ a fun y hy => hxx y (call_ops hb y hy))
    have e1 : cl.args.map a.eval = #[y] := arr1 (by rw [Array.toList_map]; exact hy)
    refine ⟨y, r1, ?_⟩
    rw [run_builtin ho hb, e1, arr1 ht]
    simp [builtin]
  have main : ∀ (n o' len : Nat), (∀ (ρ : Rho) (y : Value) (r : R), Rel ρ x y → ρ n = some r → ∃ cap, y = .slice (some ⟨r.block, r.base + o', none⟩) len cap) → (elemOf P t fun el _ => zero P el fun zs => putB c st n o' (rep zs len) fun st => (some (.t [], st) : Res)) = some (v, st') → StepOk c st st' ∧ OpOk P c st st' v e o := fun n o' len hy h => by
    obtain ⟨el, i, hu, hi, h1⟩ := elemOf_inv h
    obtain ⟨i2, z, cs, z1, z2, z3, z4, z5⟩ := zero_inv h1
    rw [hi] at z1; injection z1 with z1; subst z1
    obtain ⟨ty, sz, tr, g1, g2, g3, g4, g5⟩ := putB_inv z3
    obtain ⟨rfl, rfl⟩ := some_inv g5
    refine opOk_set g1 g2 g3 g4 fun B0 ρ τ w a r hxx hag hre hr hsz => ?_
    obtain ⟨y, r1, hrun⟩ := args ρ a w hxx
    obtain ⟨cap, rfl⟩ := hy ρ y r r1 hr
    have k1 : RelL ρ (rep cs len) (Builtin.zeroCells z.cells len).toList := rep_rel_arr (z5 ρ) len _ rfl
    have k2 := rep_all z4 len
    have hlen := k1.length
    have hth := hre.there (hag n _ g1 g2) hr g4.2 (i := o') (m := (rep cs len).length) (by omega)
    have hst := run_storeCells_cells (P := P) r.block (r.base + o') (Builtin.zeroCells z.cells len).toList 0 w (fun j hj => by simpa using (hth j (by omega)).1) (fun j hj => by simpa using (hth j (by omega)).2) (k1.oneCell k2)
    simp only [Nat.add_zero] at hst
    refine ⟨undef, _, k1, k2, rel_u, .inl ?_⟩
    rw [hrun]
    have hz : (zeroValue el).run P w = .ok z w := by simp [zeroValue, typeInfo, hi, z2]
    cases len with
    | zero =>
      simp only [Builtin.clear_, List.getElem?_toArray, List.getElem?_cons_zero, Sem.run_bind, run_underlying' hu, Result.andThen_ok, Sem.run_pure]
      simp [Builtin.zeroCells]
      exact ⟨rfl, rfl⟩
    | succ len =>
      simp only [Builtin.clear_, List.getElem?_toArray, List.getElem?_cons_zero, Sem.run_bind, run_underlying' hu, Result.andThen_ok, Sem.run_pure, hz, hst]
      rfl
  unfold clearE at h
  split at h
  · obtain ⟨el, i, hu, hi, h1⟩ := elemOf_inv h
    obtain ⟨rfl, rfl⟩ := some_inv h1
    refine opOk_val fun B0 ρ τ w a hxx _ _ => ⟨undef, rel_u, ?_⟩
    obtain ⟨y, r1, hrun⟩ := args ρ a w hxx
    simp only [Rel] at r1
    obtain ⟨rfl, _⟩ := r1
    rw [hrun]
    simp only [Builtin.clear_, List.getElem?_toArray, List.getElem?_cons_zero, Sem.run_bind, run_underlying' hu, Result.andThen_ok, Sem.run_pure]
    rfl
  · rename_i n o' len cap
    refine main n o' len (fun ρ y r h1 h2 => ?_) h
    simp only [Rel] at h1
    obtain ⟨r', h3, rfl⟩ := h1
    rw [h2] at h3; injection h3 with h3; subst h3
    exact ⟨_, rfl⟩
  · rename_i n o' len z'
    refine main n o' len (fun ρ y r h1 h2 => ?_) h
    simp only [Rel] at h1
    obtain ⟨r', h3, _, _, rfl⟩ := h1
    rw [h2] at h3; injection h3 with h3; subst h3
    exact ⟨_, rfl⟩
  · cases h
theorem ok_slice {t : TypeId} {x : Operand} {lo hi : Option Operand} (ho : o.op = .slice t x lo hi none) (h : (opd e x fun v => (match sliceE P e t v lo hi (fun a => (some (a, st) : Res)) with
    | some r => some r
    | none => sliceG P c st e t v lo hi)) = some (v, st')) : StepOk c st st' ∧ OpOk P c st st' v e o := by
  obtain ⟨v0, h1, h2⟩ := opd_inv h
  split at h1
  · rename_i q hq
    rw [h1] at hq
    exact ok_slice0 ho h2 hq
  · unfold sliceG at h1
    obtain ⟨m1, m2, m3⟩ := slice_ops (t := t) (x := x) (lo := lo) (hi := hi)
    split at h1
    · rename_i el n o' len z' hu _
      obtain ⟨ti, h7, h8⟩ := szOf_inv h1
      obtain ⟨b, g1, g2, g3⟩ := getB_inv h8
      split at g3
      · rename_i ty sz tr
        obtain ⟨hh, h3, h4⟩ := bnd_bd g3
        obtain ⟨l, h5, h6⟩ := bnd_bd h3
        split at h5
        · rename_i q1 q2 q3 q4
          simp only [fn_eq] at h5
          obtain ⟨rfl, rfl⟩ := some_inv h5
          have hlh : l ≤ hh := by simpa [Nat.ble_eq] using q1
          have hsz : o' + hh * ti.size ≤ sz := by simpa [Nat.ble_eq] using q2
          have hz : ti.size = z' := by simpa [Nat.beq_eq] using q3
          refine opOk_val fun B0 ρ τ w a hx hag hre => ?_
          obtain ⟨r0, e1, _, _, _, _, _, _, _, e2, _⟩ := hre.blk n _ (hag n _ g1 g2)
          rw [ho] at hx
          have hv := h2 ρ a (hx x m1)
          simp only [Rel] at hv
          obtain ⟨r, hr, hz0, hle, hv⟩ := hv
          rw [hr] at e1; injection e1 with e1; subst e1
          have hcap : hh ≤ (r.size - o') / z' := by
            rw [Nat.le_div_iff_mul_le hz0, ← hz]; omega
          have k1 := h4 ρ a fun y hy => hx y (m3 y hy)
          have k2 := h6 ρ a fun y hy => hx y (m2 y hy)
          have := sliceBounds_ok (P := P) (b := true) k1 k2 hlh hcap w
          refine ⟨.slice (some (if (r.size - o') / z' = l then ⟨r.block, r.base + o', none⟩ else ⟨r.block, r.base + o' + l * z', none⟩)) (hh - l) ((r.size - o') / z' - l), ?_, ?_⟩
          · simp only [Rel]
            rw [hz]
            have hdiv : (r.size - (o' + l * z')) / z' = (r.size - o') / z' - l := by
              rw [Nat.sub_add_eq, Nat.mul_comm, Nat.sub_mul_div]
            refine ⟨r, hr, hz0, by rw [hdiv]; omega, ?_⟩
            rw [hdiv]
            by_cases hl0 : l = 0
            · subst hl0; simp
            · have hne : l ≠ hh := fun e => by
                have : l = hh → l = 0 := by simpa [nbeq] using q4
                exact hl0 (this e)
              rw [if_neg (by omega)]
              simp [Nat.add_assoc]
          · simp only [execOp, ho, Sem.run_bind, Instr.sliceAt, run_underlying' hu, Result.andThen_ok, hv, Instr.slice, Option.map_none, this, run_sizeOf' h7, hz]
            simp only [Option.map_some, add_off, Sem.run_pure, Result.andThen_ok]
            congr 3
            split <;> rfl
        · cases h5
      · cases g3
    · rename_i el hu _
      obtain ⟨ti, h7, h8⟩ := szOf_inv h1
      obtain ⟨hh, h3, h4⟩ := bnd_bd h8
      obtain ⟨l, h5, h6⟩ := bnd_bd h3
      split at h5
      · obtain ⟨rfl, rfl⟩ := some_inv h5
        refine opOk_val fun B0 ρ τ w a hx _ _ => ?_
        rw [ho] at hx
        have hv := h2 ρ a (hx x m1)
        simp only [Rel] at hv
        obtain ⟨ad, c0, hv⟩ := hv
        have k1 := h4 ρ a fun y hy => hx y (m3 y hy)
        have k2 := h6 ρ a fun y hy => hx y (m2 y hy)
        have := sliceBounds_ok (P := P) (b := true) k1 k2 (Nat.le_refl 0) (Nat.zero_le c0) w
        refine ⟨.slice (some (if c0 = 0 then ad else ad.add (0 * ti.size))) (0 - 0) (c0 - 0), ?_, ?_⟩
        · simp only [Rel]; exact ⟨_, _, rfl⟩
        · simp only [execOp, ho, Sem.run_bind, Instr.sliceAt, run_underlying' hu, Result.andThen_ok, hv, Instr.slice, Option.map_none, this, run_sizeOf' h7]
          simp only [Option.map_some, Sem.run_pure, Result.andThen_ok]
          congr 3
          split <;> rfl
      · cases h5
    · cases h1
end
end Go.Proofs.Ytcjddojcfdeflaa.Ev
namespace Go.Proofs.Ytcjddojcfdeflaa.Ev
open Go.RowKit

def EnvRel (ρ : Rho) (e : Env) (a : Act) : Prop := ∀ t, Rel ρ ((e.get t).getD .u) (a.tmps.getD t undef)
def CallSound (P : Program) (call : CallF) : Prop := ∀ (c : Cx) (f : Nat) (args : List V) (st : St) (v : V) (st' : St), call c f args st = some (v, st') → Wf st →
  StepOk c st st' ∧ ∀ (B0 : Nat) (ρ : Rho) (τ : Mem) (w : World) (vs : List Value), RelL ρ args vs → Agree c st τ → Real ρ B0 τ w → Fresh ρ st st' → ∀ R : Ending → World → Prop,
    (∀ (ρ' : Rho) (v' : Value) (w' : World), ρ.le ρ' → Dom ρ ρ' st st' → Rel ρ' v v' → Real ρ' B0 (ov st st' τ) w' → Below B0 w w' → R (.returned v') w') → Calls P f ⟨vs⟩ w R
def Named (P : Program) : Prop := ∀ (f : Nat) (fn : Func), P.funcs[f]? = some fn → fn.name ≠ "runtime.NumGoroutine"
section
variable {P : Program} {c : Cx} {st st' : St} {v : V} {e : Env} {o : Oper}
theorem ext_inv {f : Nat} {g : Array Value → Sem Value} (h : ext? P f = some g) : ∃ fn, P.funcs[f]? = some fn ∧ fn.body = none ∧ Extern.findNext fn = none ∧ Extern.find fn = some g := by
  unfold ext? at h
  split at h
  · cases h
  · rename_i fn hf
    split at h
    · cases h
    · rename_i hb
      split at h
      · cases h
      · rename_i hn
        rw [lget_eq] at hf
        exact ⟨fn, by simpa using hf, hb, hn, h⟩
theorem ok_sliceData {cl : Call} {t : TypeId} {x : V} (h : (match x with
      | .c (.slice none 0 0) => (some (.c (.pointer none), st) : Res)
      | .sg n o l _ => (match Nat.blt 0 l with | true => some (.p n o, st) | false => none)
      | .sl n o _ q => (match Nat.blt 0 q with | true => some (.p n o, st) | false => none)
      | _ => none) = some (v, st'))
    (ho : o.op = .call cl) (hb : cl.callee = .builtin .unsafeSliceData) (ht : cl.argTypes.toList = [t])
    (hx : ∀ (ρ : Rho) (a : Act), (∀ y, y ∈ cl.args.toList → TmpRel ρ e a y) → RelL ρ [x] (cl.args.toList.map a.eval)) : StepOk c st st' ∧ OpOk P c st st' v e o := by
  have two : ∀ (ρ : Rho) (a : Act), (∀ x, x ∈ o.op.operands.toList → TmpRel ρ e a x) → ∃ y, Rel ρ x y ∧ ∀ w, (execOp a.eval o).run P w = ((Builtin.unsafeSliceData_ #[t] o.type #[y]).run P w).andThen (fun u w' => .ok (.value u) w') := fun ρ a hxx => by
    rw [ho] at hxx
    obtain ⟨y, hy, hr⟩ := relL1 (hx ρ a fun y hy => hxx y (call_ops hb y hy))
    have e1 : cl.args.map a.eval = #[y] := arr1 (by rw [Array.toList_map]; exact hy)
    refine ⟨y, hr, fun w => ?_⟩
    rw [run_builtin ho hb, e1, arr1 ht]
    simp only [builtin, Sem.run_bind]
    rfl
  clear hx
  split at h
  · obtain ⟨rfl, rfl⟩ := some_inv h
    refine opOk_val fun B0 ρ τ w a hxx _ _ => ⟨.pointer none, by simp [Rel, Value.oneCell'], ?_⟩
    obtain ⟨y, hr, hrun⟩ := two ρ a hxx
    simp only [Rel] at hr
    obtain ⟨rfl, _⟩ := hr
    rw [hrun]
    rfl
  · rename_i n o' l z
    split at h
    · rename_i hl
      obtain ⟨rfl, rfl⟩ := some_inv h
      refine opOk_val fun B0 ρ τ w a hxx _ _ => ?_
      obtain ⟨y, hr, hrun⟩ := two ρ a hxx
      simp only [Rel] at hr
      obtain ⟨r, hr1, hz, hle, rfl⟩ := hr
      rw [Nat.blt_eq] at hl
      refine ⟨.pointer (some ⟨r.block, r.base + o', none⟩), by simp only [Rel]; exact ⟨r, hr1, rfl⟩, ?_⟩
      rw [hrun]
      have := Lib.run_unsafeSliceData_row (P := P) w #[t] o.type ⟨r.block, r.base + o', none⟩ l ((r.size - o') / z) (by omega)
      rw [this]; rfl
    · cases h
  · rename_i n o' l q
    split at h
    · rename_i hl
      obtain ⟨rfl, rfl⟩ := some_inv h
      refine opOk_val fun B0 ρ τ w a hxx _ _ => ?_
      obtain ⟨y, hr, hrun⟩ := two ρ a hxx
      simp only [Rel] at hr
      obtain ⟨r, hr1, rfl⟩ := hr
      rw [Nat.blt_eq] at hl
      refine ⟨.pointer (some ⟨r.block, r.base + o', none⟩), by simp only [Rel]; exact ⟨r, hr1, rfl⟩, ?_⟩
      rw [hrun]
      have := Lib.run_unsafeSliceData_row (P := P) w #[t] o.type ⟨r.block, r.base + o', none⟩ l q (by omega)
      rw [this]; rfl
    · cases h
  · cases h
theorem ok_unsafeString {cl : Call} {t t' : TypeId} {x : V} {len : Nat} (h : (match Nat.beq len 0, x with
      | true, .c (.pointer none) => (some (.s [], st) : Res)
      | true, .p _ _ => some (.s [], st)
      | false, .p n 0 => (match P.underlying t with
        | some (.pointer el) => szOf P el fun z => getB c st n fun b => (match b with
          | .cs ty sz tr => (match Nat.beq ty el, Nat.beq ty roT || Nat.beq ty unT, Nat.beq z 1, Nat.ble len sz && Nat.ble len 9223372036854775807 with
            | true, false, true, true => getsB tr len 0 fun l => bytesOfAs l fun l => setB c st n .gone fun st => some (.s l, st)
            | _, _, _, _ => none)
          | _ => none)
        | _ => none)
      | _, _ => none) = some (v, st'))
    (ho : o.op = .call cl) (hb : cl.callee = .builtin .unsafeString) (ht : cl.argTypes.toList = [t, t'])
    (hx : ∀ (ρ : Rho) (a : Act), (∀ y, y ∈ cl.args.toList → TmpRel ρ e a y) → RelL ρ [x, .c (.int .i64 (.ofNat len))] (cl.args.toList.map a.eval)) : StepOk c st st' ∧ OpOk P c st st' v e o := by
  have two : ∀ (ρ : Rho) (a : Act), (∀ x, x ∈ o.op.operands.toList → TmpRel ρ e a x) → ∃ y, Rel ρ x y ∧ ∀ w, (execOp a.eval o).run P w = ((Builtin.unsafeString_ #[t, t'] o.type #[y, .int .i64 len]).run P w).andThen (fun u w' => .ok (.value u) w') := fun ρ a hxx => by
    rw [ho] at hxx
    obtain ⟨y, y', hy, hr, hr'⟩ := relL2 (hx ρ a fun y hy => hxx y (call_ops hb y hy))
    have e1 : cl.args.map a.eval = #[y, y'] := arr2 (by rw [Array.toList_map]; exact hy)
    simp only [Rel] at hr'
    obtain ⟨rfl, _⟩ := hr'
    refine ⟨y, hr, fun w => ?_⟩
    rw [run_builtin ho hb, e1, arr2 ht]
    simp only [builtin, Sem.run_bind]
    rfl
  clear hx
  split at h
  · rename_i h0
    obtain rfl := Nat.eq_of_beq_eq_true h0
    obtain ⟨rfl, rfl⟩ := some_inv h
    refine opOk_val fun B0 ρ τ w a hxx _ _ => ⟨.string .empty, by simp only [Rel]; exact ⟨rfl, fun _ h => by simp at h⟩, ?_⟩
    obtain ⟨y, hy, hr⟩ := two ρ a hxx
    simp only [Rel] at hy
    obtain ⟨rfl, _⟩ := hy
    have := Lib.run_unsafeString_none (P := P) w t t' o.type none
    rw [hr w]
    exact (congrArg (fun r => Result.andThen r (fun u w' => (Result.ok (Next.value u) w'))) this)
  · rename_i h0
    obtain rfl := Nat.eq_of_beq_eq_true h0
    obtain ⟨rfl, rfl⟩ := some_inv h
    refine opOk_val fun B0 ρ τ w a hxx _ _ => ⟨.string .empty, by simp only [Rel]; exact ⟨rfl, fun _ h => by simp at h⟩, ?_⟩
    obtain ⟨y, hy, hr⟩ := two ρ a hxx
    simp only [Rel] at hy
    obtain ⟨r, _, rfl⟩ := hy
    rw [hr w]
    exact (congrArg (fun r => Result.andThen r (fun u w' => (Result.ok (Next.value u) w'))) (Lib.run_unsafeString_none (P := P) w t t' o.type _))
  · rename_i n h0
    split at h
    · rename_i el hu
      obtain ⟨i, hi, h3⟩ := szOf_inv h
      obtain ⟨b, g1, g2, g3⟩ := getB_inv h3
      split at g3
      · rename_i ty sz tr
        split at g3
        · rename_i hty hro hz hle
          obtain ⟨l, h4, h5, h6⟩ := getsB_inv g3
          obtain ⟨ns, h8, h9, h10⟩ := bytesOfAs_inv h4
          obtain ⟨g4, h11⟩ := setB_inv h8
          obtain ⟨rfl, rfl⟩ := some_inv h11
          obtain rfl := Nat.eq_of_beq_eq_true hty
          rw [Bool.or_eq_false_iff] at hro
          have n1 : ty ≠ roT := fun e => by rw [e] at hro; simp at hro
          have n2 : ty ≠ unT := fun e => by rw [e] at hro; simp at hro
          have hz1 : i.size = 1 := Nat.eq_of_beq_eq_true hz
          rw [Bool.and_eq_true] at hle
          have hle1 := Nat.le_of_ble_eq_true hle.1
          have hle2 := Nat.le_of_ble_eq_true hle.2
          have hpos : len ≠ 0 := fun e => by subst e; simp at h0
          refine opOk_setB g1 g2 n1 g4 fun B0 ρ τ w a r hxx hag hre hr hblk hlt => ?_
          obtain ⟨y, hy, hrun⟩ := two ρ a hxx
          simp only [Rel] at hy
          obtain ⟨r', hr', rfl⟩ := hy
          rw [hr] at hr'; injection hr' with hr'; subst hr'
          obtain ⟨_, _, xs, k1, k2⟩ := hre.read (hag n _ g1 g2) hr (i := 0) (l := l) (fun j a e => by have := h6 j a e; simpa using this)
          have hxs := h10 ρ xs k1
          obtain ⟨ty', cells, fr, c1, c2, c3, c4, c5⟩ := hblk
          obtain ⟨e1, e2, e3⟩ := (c4 n1).2 n2
          subst e1
          have hlen2 : (ns.map UInt8.ofNat).length = len := by
            have := congrArg List.length hxs
            rw [k1.length, h5] at this
            simpa using this.symm
          have hsh : w.shape? r.block = some (ty', cells.size) := by simp [World.shape?, c1]
          have hcof : P.cellsOf ty' = 1 := by simp [Program.cellsOf, hi, hz1]
          have hus := Lib.run_unsafeString_row (P := P) w t t' o.type ty' hu hcof r.block cells.size hsh (ns.map UInt8.ofNat) (fun e => by rw [e] at hlen2; simp at hlen2; exact hpos hlen2.symm) (by omega) (by omega) (fun j x hj => by
            simp only [List.getElem?_map, Option.map_eq_some_iff] at hj
            obtain ⟨n0, hn0, rfl⟩ := hj
            have hb0 := h9 n0 (List.mem_of_getElem? hn0)
            have hx : xs[j]? = some (.int .u8 (Int.ofNat n0)) := by rw [hxs]; simp [hn0]
            have := k2 j _ hx
            rw [e2] at this
            have ha : (⟨r.block, 0, none⟩ : Addr).add j = ⟨r.block, 0 + 0 + j, none⟩ := by rw [add_off]
            rw [ha, this]
            simp [Nat.mod_eq_of_lt hb0])
          rw [hlen2] at hus
          have hfz := hrun w
          rw [e2] at hfz
          simp only [Nat.add_zero] at hfz
          rw [hus] at hfz
          refine ⟨_, _, hfz, by unfold World.freeze; rw [if_neg hpos]; simp, fun k hk => ?_, by unfold World.freeze; rw [if_neg hpos], by unfold World.freeze; rw [if_neg hpos], by unfold World.freeze; rw [if_neg hpos], trivial, by simp only [Rel]; exact ⟨trivial, h9⟩⟩
          unfold World.freeze
          rw [if_neg hpos]
          simp only [Array.getElem?_modify]
          rw [if_neg (fun e => hk e.symm)]
        · cases g3
      · cases g3
    · cases h
  · cases h
theorem slBlk_rel {ρ : Rho} {v : V} {n l : Nat} {y : Value} (h : slBlk v = some (n, l)) (hr : Rel ρ v y) : ∃ (r : R) (k q : Nat), ρ n = some r ∧ y = .slice (some ⟨r.block, k, none⟩) l q := by
  unfold slBlk at h
  split at h
  · injection h with h; injection h with h1 h2; subst h1 h2
    simp only [Rel] at hr
    obtain ⟨r, h1, h2⟩ := hr
    exact ⟨r, _, _, h1, h2⟩
  · injection h with h; injection h with h1 h2; subst h1 h2
    simp only [Rel] at hr
    obtain ⟨r, h1, _, _, h2⟩ := hr
    exact ⟨r, _, _, h1, h2⟩
  · cases h
theorem find_noEscape {f : Nat} {fn : Func} {g : Array Value → Sem Value} (hf : P.funcs[f]? = some fn) (hk : xKind P f = 1) (hfd : Extern.find fn = some g) : g = Extern.AbiNoEscape.same := by
  unfold xKind at hk
  rw [lget_eq] at hk
  simp only [Array.getElem?_toList, hf] at hk
  split at hk
  · rename_i hn
    have hn' : fn.name = "internal/abi.NoEscape" := by simpa using hn
    unfold Extern.find at hfd
    simp only [hn'] at hfd
    have h1 : Extern.allGenericRows.lookup "internal/abi.NoEscape" = none := by kernel_rfl
    have h2 : Extern.allTypedRows.lookup "internal/abi.NoEscape" = none := by kernel_rfl
    have h3 : Extern.allRows.lookup "internal/abi.NoEscape" = some Extern.AbiNoEscape.same := by kernel_rfl
    rw [h1, h2, h3] at hfd
    simp at hfd
    exact hfd.symm
  · split at hk
    · cases hk
    · split at hk <;> cases hk
theorem find_overlaps {f : Nat} {fn : Func} {g : Array Value → Sem Value} (hf : P.funcs[f]? = some fn) (hk : xKind P f = 2) (ho : ovArg P f = true) (hfd : Extern.find fn = some g) :
    ∃ (tS tR el : TypeId) (i : TypeInfo), P.underlying tS = some (.slice el) ∧ P.info? el = some i ∧ g = Extern.SlicesOverlaps.overlaps #[tS, tS] #[tR] := by
  unfold ovArg at ho
  rw [lget_eq] at ho
  simp only [Array.getElem?_toList, hf] at ho
  split at ho
  case h_2 => cases ho
  rename_i t t' hp
  split at ho
  case h_2 => cases ho
  rename_i el htt hu
  obtain rfl := Nat.eq_of_beq_eq_true htt
  obtain ⟨i, hi⟩ := Option.isSome_iff_exists.1 ho
  refine ⟨t, 0, el, i, hu, hi, ?_⟩
  have hp' : fn.params = #[t, t] := by apply Array.ext'; rw [hp]
  unfold xKind at hk
  rw [lget_eq] at hk
  simp only [Array.getElem?_toList, hf] at hk
  split at hk
  · cases hk
  · split at hk
    · rename_i hn
      simp only [Bool.and_eq_true, Option.isNone_iff_eq_none] at hn
      obtain ⟨⟨⟨n1, n2⟩, n3⟩, n4⟩ := hn
      have n1' : fn.origin = "slices.overlaps" := by simpa using n1
      unfold Extern.find at hfd
      simp only [n1', n2, n3, n4, hp'] at hfd
      have h1 : Extern.allGenericRows.lookup "slices.overlaps" = none := by kernel_rfl
      have h2 : Extern.allTypedRows.lookup "slices.overlaps" = some Extern.SlicesOverlaps.overlaps := by kernel_rfl
      rw [h1, h2] at hfd
      simp at hfd
      rw [← hfd]
      rfl
    · split at hk <;> cases hk
theorem find_makeNoZero {f : Nat} {fn : Func} {g : Array Value → Sem Value} {el : TypeId} (hf : P.funcs[f]? = some fn) (hk : xKind P f = 3) (he : mkEl P f = some el) (hfd : Extern.find fn = some g) :
    ∃ (ps : Array TypeId) (t : TypeId), P.underlying t = some (.slice el) ∧ g = Extern.BytealgMakeNoZero.makeNoZero ps #[t] := by
  unfold mkEl at he
  rw [lget_eq] at he
  simp only [Array.getElem?_toList, hf] at he
  split at he
  case h_2 => cases he
  rename_i t hp
  split at he
  case h_2 => cases he
  rename_i el' hu
  injection he with he
  subst he
  refine ⟨fn.params, t, hu, ?_⟩
  have hp' : fn.resultTypes = #[t] := by apply Array.ext'; rw [hp]
  unfold xKind at hk
  rw [lget_eq] at hk
  simp only [Array.getElem?_toList, hf] at hk
  split at hk
  · cases hk
  · split at hk
    · cases hk
    · split at hk
      · rename_i hn
        have hn' : fn.name = "internal/bytealg.MakeNoZero" := by simpa using hn
        unfold Extern.find at hfd
        simp only [hn', hp'] at hfd
        have h1 : Extern.allGenericRows.lookup "internal/bytealg.MakeNoZero" = none := by kernel_rfl
        have h2 : Extern.allTypedRows.lookup "internal/bytealg.MakeNoZero" = some Extern.BytealgMakeNoZero.makeNoZero := by kernel_rfl
        rw [h1, h2] at hfd
        simp at hfd
        exact hfd.symm
      · cases hk
theorem ok_call {call : CallF} (hs : CallSound P call) (hn : Named P) (hb : ∀ c f args st r, call c f args st = some r → ∃ fn b, P.funcs[f]? = some fn ∧ fn.body = some b) (hwf : Wf st) {cl : Call} {f : Operand} {args : List V} (ho : o.op = .call cl) (hc : cl.callee = .value f)
    (hx : ∀ (ρ : Rho) (a : Act), (∀ y, y ∈ cl.args.toList → TmpRel ρ e a y) → RelL ρ args (cl.args.toList.map a.eval))
    (h : (opd e f fun f => (match f with
      | .f (.func f) first caps => (match ext? P f with
        | some g => (match extE P g (first ++ args ++ caps) st with | some r => some r | none => extS P c f (first ++ args ++ caps) st)
        | none => call c f (first ++ args ++ caps) st)
      | _ => none)) = some (v, st')) : StepOk c st st' ∧ OpOk P c st st' v e o := by
  have hnm0 := hn
  obtain ⟨vf, h1, h2⟩ := opd_inv h
  split at h1
  · rename_i fid first caps
    have mf : f ∈ (Op.call cl).operands.toList := by simp [Op.operands, Call.operands, hc]
    have ma : ∀ y, y ∈ cl.args.toList → y ∈ (Op.call cl).operands.toList := fun y hy => by
      simp only [Op.operands, Call.operands, hc]; simp at hy ⊢; exact .inr hy
    split at h1
    · rename_i g hext
      obtain ⟨fn, hf, hbn, hfn, hfd⟩ := ext_inv hext
      split at h1
      case h_2 =>
        have key : ∀ {v2 : V}, st = st' → v = v2 → (∀ (B0 : Nat) (ρ : Rho) (τ : Mem) (w : World) (xs : List Value), RelL ρ (first ++ args ++ caps) xs → Agree c st τ → Real ρ B0 τ w → ∃ u, Rel ρ v2 u ∧ (g ⟨xs⟩).run P w = .ok u w) → StepOk c st st' ∧ OpOk P c st st' v e o := by
          rintro v2 rfl rfl hk
          refine opOk_val fun B0 ρ τ w a hxx hag hre => ?_
          rw [ho] at hxx
          have hv := h2 ρ a (hxx f mf)
          simp only [Rel] at hv
          obtain ⟨fa, ca, hv, k1, k2⟩ := hv
          have ka := hx ρ a fun y hy => hxx y (ma y hy)
          have hargs : (⟨fa⟩ ++ cl.args.map a.eval ++ ⟨ca⟩ : Array Value) = ⟨fa ++ cl.args.toList.map a.eval ++ ca⟩ := by
            apply Array.ext'; simp
          obtain ⟨u, hu1, hu2⟩ := hk B0 ρ τ w _ (RelL.append (RelL.append k1 ka) k2) hag hre
          have hne : ¬ fn.name = "runtime.NumGoroutine" := hn fid fn hf
          have hrun := run_callFunc_extern (P := P) hf (by simpa using hne) (by simp [hbn]) hfn hfd ⟨fa ++ cl.args.toList.map a.eval ++ ca⟩ w
          refine ⟨u, hu1, ?_⟩
          simp only [execOp, ho, resolve, hc, Sem.run_bind, hv, Deferred.ofValue, Sem.run_pure, Result.andThen_ok, invoke, hargs, hrun, hu2]
        unfold extS at h1
        split at h1
        · rename_i n o' hk hargs0
          obtain ⟨rfl, rfl⟩ := some_inv h1
          refine key rfl rfl fun B0 ρ τ w xs hrel hag hre => ?_
          rw [hargs0] at hrel
          obtain ⟨y, rfl, hy⟩ := relL1 hrel
          obtain rfl := find_noEscape hf hk hfd
          exact ⟨y, hy, rfl⟩
        · rename_i va vb hk hargs0
          split at h1
          · rename_i n la m lb hsa hsb
            split at h1
            · rename_i hnm hov hla hlb
              obtain ⟨b1, g1, g2, g3⟩ := getB_inv h1
              obtain ⟨b2, g4, g5, g6⟩ := getB_inv g3
              split at g6
              · rename_i ty sz t ty' sz' t'
                split at g6
                · rename_i hro hro' hz hz'
                  obtain ⟨rfl, rfl⟩ := some_inv g6
                  refine key rfl rfl fun B0 ρ τ w xs hrel hag hre => ?_
                  rw [hargs0] at hrel
                  obtain ⟨y, y', rfl, hy, hy'⟩ := relL2 hrel
                  obtain ⟨r1, o1, p1, c1, d1⟩ := slBlk_rel hsa hy
                  obtain ⟨r2, o2, p2, c2, d2⟩ := slBlk_rel hsb hy'
                  obtain ⟨q1, k1, k2, k3, k4⟩ := hre.blk n _ (hag n _ g1 g2)
                  obtain ⟨q2, k5, k6, k7, k8⟩ := hre.blk m _ (hag m _ g4 g5)
                  obtain ⟨tS, tR, el, i, h5, h6, h7⟩ := find_overlaps hf hk hov hfd
                  rw [Bool.or_eq_false_iff] at hro
                  have n1 : ty ≠ roT := fun e => by rw [e] at hro; simp at hro
                  have n2 : ty ≠ unT := fun e => by rw [e] at hro; simp at hro
                  have n3 : ty' ≠ roT := fun e => by rw [e] at hro'; simp at hro'
                  have hne : n ≠ m := fun e => by subst e; simp at hnm
                  have hbl := hre.inj n m _ _ r1 r2 (hag n _ g1 g2) (hag m _ g4 g5) n1 trivial hne c1 c2
                  rw [c1] at k1; injection k1 with k1; subst k1
                  rw [c2] at k5; injection k5 with k5; subst k5
                  obtain ⟨t1, cells, fr, s1, s2, s3, s4, s5⟩ := k4
                  obtain ⟨t2, cells2, fr2, u1, u2, u3, u4, u5⟩ := k8
                  obtain ⟨f1, f2⟩ := s4 n1
                  obtain ⟨_, _, f3⟩ := f2 n2
                  rw [Nat.blt_eq] at hz hz'
                  refine ⟨.bool false, rel_bool _, ?_⟩
                  rw [d1, d2, h7]
                  have hfz : ∀ k, w.frozen? ⟨r1.block, k, none⟩ = false := fun k => by
                    unfold World.frozen?
                    simp only [s1]
                    rw [Bool.eq_false_iff]
                    intro hh
                    simp at hh
                    omega
                  exact Lib.run_overlaps_apart w tS tR el h5 i.size (fun w => by simp [sizeOf, typeInfo, h6]) _ _ _ _ _ _ hbl t1 t2 cells.size cells2.size (by simp [World.shape?, s1]) (by simp [World.shape?, u1]) (by omega) (hfz _) (hfz _)
                · cases g6
              · cases g6
            · cases h1
          · cases h1
        · rename_i n hk hargs0
          split at h1
          · rename_i el hel hn
            rw [newB_eq] at h1
            obtain ⟨rfl, rfl⟩ := some_inv h1
            refine opOk_newB fun B0 ρ τ w a hxx hag hre => ?_
            rw [ho] at hxx
            have hv := h2 ρ a (hxx f mf)
            simp only [Rel] at hv
            obtain ⟨fa, ca, hv, k1, k2⟩ := hv
            have ka := hx ρ a fun y hy => hxx y (ma y hy)
            have hargs : (⟨fa⟩ ++ cl.args.map a.eval ++ ⟨ca⟩ : Array Value) = ⟨fa ++ cl.args.toList.map a.eval ++ ca⟩ := by
              apply Array.ext'; simp
            have hrel := RelL.append (RelL.append k1 ka) k2
            rw [hargs0] at hrel
            obtain ⟨y, hy, hr⟩ := relL1 hrel
            simp only [Rel] at hr
            obtain ⟨rfl, _⟩ := hr
            obtain ⟨ps, t, hu, rfl⟩ := find_makeNoZero hf hk hel hfd
            have hn' := Nat.le_of_ble_eq_true hn
            obtain ⟨cs, q1, q2, q3⟩ := Lib.run_makeNoZero (P := P) w ps t el hu n (by omega)
            have hne : ¬ fn.name = "runtime.NumGoroutine" := hnm0 fid fn hf
            have hrun := run_callFunc_extern (P := P) hf (by simpa using hne) (by simp [hbn]) hfn hfd ⟨fa ++ cl.args.toList.map a.eval ++ ca⟩ w
            refine ⟨.slice (some ⟨w.heap.size, 0, none⟩) n cs.size, w.drew.drew.alloc (.cells cs el), cs.size, ?_, by show (w.heap.push _).size = _; simp, fun k hk => Below.heap_alloc w.drew.drew _ k hk, rfl, rfl, rfl, fun ρ' hle' hρ' => ⟨⟨el, cs, (0, 0), by show (w.heap.push (.cells cs el))[w.heap.size]? = _; rw [Array.getElem?_push, if_pos rfl], by simp, q2, fun _ => ⟨.inl rfl, fun _ => ⟨rfl, rfl, rfl⟩⟩, fun i v hv => by simp at hv⟩, ?_⟩⟩
            · simp only [execOp, ho, resolve, hc, Sem.run_bind, hv, Deferred.ofValue, Sem.run_pure, Result.andThen_ok, invoke, hargs]
              rw [hrun, hy]
              show (((Extern.BytealgMakeNoZero.makeNoZero ps #[t]) #[.int .i64 n]).run P w).andThen _ = _
              rw [q1]
              rfl
            · simp only [Rel]
              exact ⟨_, hρ', by omega, by simpa using q2, by simp⟩
          · cases h1
        · cases h1
      rename_i r1 h1'
      obtain rfl : r1 = (v, st') := by injection h1
      replace h1 := h1'
      unfold extE at h1
      split at h1
      · cases h1
      · rename_i xs hxs
        obtain ⟨u, z, h3, h4, h5⟩ := pu_inv h1
        obtain ⟨rfl, rfl⟩ := ret_inv h3
        refine opOk_val fun B0 ρ τ w a hxx hag hre => ⟨z, h4 ρ, ?_⟩
        rw [ho] at hxx
        have hv := h2 ρ a (hxx f mf)
        simp only [Rel] at hv
        obtain ⟨fa, ca, hv, k1, k2⟩ := hv
        have ka := hx ρ a fun y hy => hxx y (ma y hy)
        have hargs : (⟨fa⟩ ++ cl.args.map a.eval ++ ⟨ca⟩ : Array Value) = ⟨fa ++ cl.args.toList.map a.eval ++ ca⟩ := by
          apply Array.ext'; simp
        have hval := valsA_rel hxs (RelL.append (RelL.append k1 ka) k2)
        have hne : ¬ fn.name = "runtime.NumGoroutine" := hn fid fn hf
        have hrun := run_callFunc_extern (P := P) hf (by simpa using hne) (by simp [hbn]) hfn hfd ⟨xs⟩ w
        simp only [execOp, ho, resolve, hc, Sem.run_bind, hv, Deferred.ofValue, Sem.run_pure, Result.andThen_ok, invoke, hargs, hval, hrun, h5 w]
    obtain ⟨s1, s2⟩ := hs _ _ _ _ _ _ h1 hwf
    obtain ⟨fn, b, hf, hbody⟩ := hb _ _ _ _ _ h1
    refine ⟨s1, fun B0 ρ τ w a hxx hag hre hfr K Q hK => ?_⟩
    rw [ho] at hxx
    have hv := h2 ρ a (hxx f mf)
    simp only [Rel] at hv
    obtain ⟨fa, ca, hv, k1, k2⟩ := hv
    have ka := hx ρ a fun y hy => hxx y (ma y hy)
    have hargs : (⟨fa⟩ ++ cl.args.map a.eval ++ ⟨ca⟩ : Array Value) = ⟨fa ++ cl.args.toList.map a.eval ++ ca⟩ := by
      apply Array.ext'; simp
    have hne : ¬ fn.name = "runtime.NumGoroutine" := hn fid fn hf
    have hrun : (execOp a.eval o).run P w = .ok (.enter fid ⟨fa ++ cl.args.toList.map a.eval ++ ca⟩) w := by
      simp only [execOp, ho, resolve, hc, Sem.run_bind, hv, Deferred.ofValue, Sem.run_pure, Result.andThen_ok, invoke, callFunc, run_program, hf, hargs]
      rw [if_neg (by simpa using hne)]
      simp [hbody]
    unfold Oper.wp
    rw [hrun, Oper.upon_enter]
    exact s2 B0 ρ τ w _ (RelL.append (RelL.append k1 ka) k2) hag hre hfr _ fun ρ' v' w' q1 q2 q3 q4 q5 => hK ρ' v' w' q1 q2 q3 q4 q5
  · cases h1
theorem evOp_ok {call : CallF} (hs : CallSound P call) (hn : Named P) (hb : ∀ c f args st r, call c f args st = some r → ∃ fn b, P.funcs[f]? = some fn ∧ fn.body = some b) (hwf : Wf st) (h : evOp P call c e st o = some (v, st')) :
    StepOk c st st' ∧ OpOk P c st st' v e o := by
  unfold evOp at h
  split at h
  · rename_i ho; exact ok_move (.inl ho) h
  · rename_i ho; exact ok_move (.inr ho) h
  · rename_i ho; exact ok_pick ho h
  · rename_i ho; exact ok_nilCheck ho h
  · rename_i ho; exact ok_extract ho h
  · rename_i ho; exact ok_alloc ho h
  · rename_i ho; exact ok_box ho h
  · rename_i ho; exact ok_load ho h
  · rename_i ho; exact ok_store ho h
  · rename_i ho; exact ok_fieldAddr ho h
  · rename_i ho; exact ok_indexAddr ho h
  · rename_i ho; exact ok_buildSlice ho h
  · rename_i ho; exact ok_build ho h
  · rename_i ho; exact ok_makeSlice ho h
  · rename_i ho; exact ok_slice ho h
  · rename_i ho; exact ok_binOp ho h
  · rename_i ho; exact ok_unOp ho h
  · rename_i ho; exact ok_convert ho h
  · rename_i ho; exact ok_field ho h
  · rename_i ho; exact ok_index ho h
  · rename_i ho; exact ok_range ho h
  · rename_i ho; exact ok_next ho h
  · rename_i ho; exact ok_makeMap ho h
  · rename_i ho; exact ok_lookup ho h
  · rename_i ho; exact ok_mput (.inl ho) h
  · rename_i ho; exact ok_mput (.inr ho) h
  · rename_i ho; exact ok_ment ho h
  · rename_i ho; exact ok_msto ho h
  · rename_i ho; exact ok_slice3 ho h
  · rename_i ho; exact ok_makeFunc ho h
  · rename_i cl ho
    obtain ⟨args, h1, h2⟩ := opds_inv h
    split at h1
    · rename_i hc; exact ok_pick1 ho hc h2 h1
    · rename_i hc; exact ok_pick1 ho hc h2 h1
    · rename_i b _ _ hc
      unfold builtinE at h1
      split at h1
      · rename_i t x ht _ _; exact ok_len ho hc ht h1 h2
      · rename_i t t' s x ht _ _; exact ok_append hwf ho hc ht h1 h2
      · rename_i t t' m x ht _ _; exact ok_mdel ho hc ht h2 h1
      · rename_i t x ht _ _; exact ok_clear ho hc ht h2 h1
      · rename_i t n i l q ht _ _; exact ok_cap ho hc ht h2 h1
      · rename_i t ht _ _; exact ok_cap0 ho hc ht h2 h1
      · rename_i t t' d x ht _ _; exact ok_copy ho hc ht h2 h1
      · rename_i t x ht _ _; exact ok_sliceData h1 ho hc ht h2
      · rename_i t t' x len ht _ _; exact ok_unsafeString h1 ho hc ht h2
      · cases h1
    · rename_i f hc; exact ok_call hs hn hb hwf ho hc h2 h1
    · cases h1
  · cases h
end
end Go.Proofs.Ytcjddojcfdeflaa.Ev
namespace Go.Proofs.Ytcjddojcfdeflaa.Ev
open Go.RowKit

section
variable {P : Program} {c : Cx} {st st' : St} {e e' : Env} {o : Oper}
/-- a slot's value in what is to come -/
noncomputable def putE (e : Env) (d : Option Nat) (v : V) : Env := match d with | none => e | some t => e.set t v
theorem putK_inv {β : Type} {q : β} {d : Option Nat} {v : V} {k : Env → Option β} (h : putK c e d v k = some q) :
    (∀ t, d = some t → t < c.nt) ∧ k (putE e d v) = some q := by
  cases d with
  | none => exact ⟨(fun _ h => by cases h), h⟩
  | some t =>
    simp only [putK] at h
    split at h
    · rename_i hlt
      rw [T.setK_eq] at h
      exact ⟨fun u hu => by injection hu with hu; subst hu; simpa [Nat.blt_eq] using hlt, h⟩
    · cases h
theorem put_tmps (a : Act) (d : Option Nat) (x : Value) (t : Nat) (hd : ∀ u, d = some u → u < a.tmps.size) : (a.put d x).tmps.getD t undef = if d = some t then x else a.tmps.getD t undef := by
  cases d with
  | none => simp [Act.put]
  | some u =>
    have hu := hd u rfl
    simp only [Act.put, Option.some.injEq]
    by_cases h : u = t
    · subst h
      rw [if_pos rfl]
      simp [Array.getD, hu]
    · rw [if_neg h]
      simp only [Array.getD_eq_getD_getElem?]
      rw [Array.getElem?_setIfInBounds_ne h]
theorem put_size (a : Act) (d : Option Nat) (x : Value) : (a.put d x).tmps.size = a.tmps.size := by
  cases d <;> simp [Act.put]
theorem put_defers (a : Act) (d : Option Nat) (x : Value) : (a.put d x).defers = a.defers := by
  cases d <;> rfl
theorem putE_get (e : Env) (d : Option Nat) (v : V) (t : Nat) : ((putE e d v).get t).getD .u = if d = some t then v else (e.get t).getD .u := by
  cases d with
  | none => simp [putE]
  | some u =>
    simp only [putE, Option.some.injEq, T.get_set]
    by_cases h : u = t
    · simp [h]
    · simp [h]
theorem EnvRel.put {ρ : Rho} {a : Act} {d : Option Nat} {v : V} {x : Value} (h : EnvRel ρ e a) (hv : Rel ρ v x) (hd : ∀ u, d = some u → u < a.tmps.size) : EnvRel ρ (putE e d v) (a.put d x) := fun t => by
  rw [putE_get, put_tmps _ _ _ _ hd]
  split
  · exact hv
  · exact h t
theorem EnvRel.mono {ρ ρ' : Rho} {a : Act} (h : EnvRel ρ e a) (hρ : ρ.le ρ') : EnvRel ρ' e a := fun t => (h t).mono hρ
theorem EnvRel.tmp {ρ : Rho} {a : Act} (h : EnvRel ρ e a) (x : Operand) : TmpRel ρ e a x := fun t _ => h t
def boolV : Option Value → Option Bool
  | some (.bool b) => some b
  | _ => none
def boolE : Option V → Option Bool
  | some (.c (.bool b)) => some b
  | _ => none
theorem bool_rel {ρ : Rho} {x : Option V} {y : Option Value} (h : Rel ρ (x.getD .u) (y.getD undef)) : boolV y = boolE x := by
  cases x with
  | none => cases y with
    | none => rfl
    | some y =>
      simp only [Option.getD_none, Option.getD_some, Rel] at h
      obtain ⟨l, h, _⟩ := h
      subst h; rfl
  | some u => cases y with
    | none =>
      cases u with
      | c w =>
        simp only [Option.getD_none, Option.getD_some, Rel] at h
        obtain ⟨h, _⟩ := h
        subst h; rfl
      | _ => rfl
    | some y =>
      simp only [Option.getD_some] at h
      cases u with
      | c w =>
        simp only [Rel] at h
        obtain ⟨h, _⟩ := h
        subst h
        cases y <;> rfl
      | s l => simp only [Rel] at h; obtain ⟨h, _⟩ := h; subst h; rfl
      | p n o => simp only [Rel] at h; obtain ⟨_, _, h⟩ := h; subst h; rfl
      | sl n o l q => simp only [Rel] at h; obtain ⟨_, _, h⟩ := h; subst h; rfl
      | sg n o l q => simp only [Rel] at h; obtain ⟨_, _, _, _, h⟩ := h; subst h; rfl
      | e => simp only [Rel] at h; obtain ⟨_, _, h⟩ := h; subst h; rfl
      | m n => simp only [Rel] at h; obtain ⟨_, _, h⟩ := h; subst h; rfl
      | f a b d => simp only [Rel] at h; obtain ⟨_, _, h, _⟩ := h; subst h; rfl
      | g l => simp only [Rel] at h; obtain ⟨_, h, _⟩ := h; subst h; rfl
      | t l => simp only [Rel] at h; obtain ⟨_, h, _⟩ := h; subst h; rfl
/-- is it wanted? -/
theorem wants_eq {ρ : Rho} {a : Act} {ops : Array Oper} (h : ∀ j w oj t, o.guard = some (j, w) → ops[j]? = some oj → oj.dst = some t → Rel ρ ((e.get t).getD .u) (a.tmps.getD t undef)) :
    Region.wanted o (yielded ops a.tmps) = wants e ops.toList o := by
  unfold wants Region.wanted
  cases hg : o.guard with
  | none => rfl
  | some jw =>
    obtain ⟨j, w⟩ := jw
    simp only [lget_eq, Array.getElem?_toList]
    cases hj : ops[j]? with
    | none => simp [yielded, hj]
    | some oj =>
      cases hd : oj.dst with
      | none => simp [yielded, hj, hd]
      | some t =>
        have hr := h j w oj t hg hj hd
        have hy : yielded ops a.tmps j = boolV (a.tmps[t]?) := by
          simp only [yielded, hj, hd, Option.bind_some]
          rfl
        have hget : a.tmps.getD t undef = (a.tmps[t]?).getD undef := Array.getD_eq_getD_getElem? ..
        rw [hget] at hr
        rw [hy, bool_rel hr]
        simp only [hd]
        cases he : e.get t with
        | none => rfl
        | some u =>
          cases u with
          | c val =>
            cases val with
            | bool b => cases b <;> cases w <;> rfl
            | _ => rfl
          | _ => rfl
/-- the loop's, the block's, the body's way on -/
def Cont (c : Cx) (st st' : St) (e' : Env) (B0 : Nat) (ρ : Rho) (τ : Mem) (w : World) (a : Act) (K : Act → World → Prop) : Prop :=
  ∀ (ρ' : Rho) (a' : Act) (w' : World), ρ.le ρ' → Dom ρ ρ' st st' → EnvRel ρ' e' a' → c.nt ≤ a'.tmps.size → a'.defers = a.defers → Real ρ' B0 (ov st st' τ) w' → Below B0 w w' → K a' w'
theorem evOps_ok {call : CallF} (hs : CallSound P call) (hn : Named P) (hb : ∀ c f args st r, call c f args st = some r → ∃ fn b, P.funcs[f]? = some fn ∧ fn.body = some b) {ops : Array Oper} :
    ∀ {l : List Oper} {e : Env} {st : St}, evOps P call c ops.toList l e st = some (e', st') → Wf st → StepOk c st st' ∧
      ∀ (B0 : Nat) (ρ : Rho) (τ : Mem) (w : World) (a : Act), EnvRel ρ e a → c.nt ≤ a.tmps.size → Agree c st τ → Real ρ B0 τ w → Fresh ρ st st' → ∀ Q : Exit → Act → World → Prop, Cont c st st' e' B0 ρ τ w a (Q .normal) → wpList P ops Q l a w
  | [], e, st, h, _ => by
    have h' : (some (e, st) : Option (Env × St)) = some (e', st') := h
    injection h' with h'; injection h' with h1 h2; subst h1 h2
    exact ⟨.refl _ _, fun B0 ρ τ w a he ht hag hre _ Q hQ => hQ ρ a w (Rho.le_refl _) (Dom.refl _ _ _) he ht rfl (by rw [ov_self]; exact hre) (Below.refl _ _)⟩
  | o :: l, e, st, h, hwf => by
    have h' : (match wants e ops.toList o with
      | true => match evOp P call c e st o with
        | none => none
        | some (v, st) => putK c e o.dst v fun e => evOps P call c ops.toList l e st
      | false => putK c e o.dst .u fun e => evOps P call c ops.toList l e st) = some (e', st') := h
    split at h'
    · rename_i hw
      split at h'
      · cases h'
      · rename_i v st1 hop
        obtain ⟨hd, h2⟩ := putK_inv h'
        obtain ⟨s1, k1⟩ := evOp_ok hs hn hb hwf hop
        obtain ⟨s2, k2⟩ := evOps_ok hs hn hb h2 (s1.wf hwf)
        refine ⟨s1.trans s2, fun B0 ρ τ w a he ht hag hre hf Q hQ => ?_⟩
        simp only [wpList]
        rw [wants_eq (ρ := ρ) (e := e) fun j w oj t _ _ _ => he t, hw, if_pos rfl]
        refine .inl (k1 B0 ρ τ w a (fun x _ => he.tmp x) hag hre (hf.left s2.le) _ _ fun ρ1 v1 w1 l1 d1 r1 m1 b1 => ?_)
        refine k2 B0 ρ1 _ w1 _ ((he.mono l1).put r1 fun u hu => Nat.lt_of_lt_of_le (hd u hu) ht) (by rw [put_size]; exact ht) (hag.step s1 hwf) m1 (hf.right s1.le d1) Q ?_
        intro ρ2 a2 w2 l2 d2 he2 ht2 hd2 m2 b2
        exact hQ ρ2 a2 w2 (l1.trans l2) (d1.trans d2 s1.le s2.le) he2 ht2 (hd2.trans (put_defers _ _ _)) (by rw [ov_trans s1 s2 hwf hag] at m2; exact m2) (b1.trans b2)
    · rename_i hw
      obtain ⟨hd, h2⟩ := putK_inv h'
      obtain ⟨s2, k2⟩ := evOps_ok hs hn hb h2 hwf
      refine ⟨s2, fun B0 ρ τ w a he ht hag hre hf Q hQ => ?_⟩
      simp only [wpList]
      rw [wants_eq (ρ := ρ) (e := e) fun j w oj t _ _ _ => he t, hw, if_neg (by simp)]
      refine k2 B0 ρ τ w _ (he.put rel_u fun u hu => Nat.lt_of_lt_of_le (hd u hu) ht) (by rw [put_size]; exact ht) hag hre hf Q ?_
      intro ρ2 a2 w2 l2 d2 he2 ht2 hd2 m2 b2
      exact hQ ρ2 a2 w2 l2 d2 he2 ht2 (hd2.trans (put_defers _ _ _)) m2 b2
end
end Go.Proofs.Ytcjddojcfdeflaa.Ev
namespace Go.Proofs.Ytcjddojcfdeflaa.Ev
open Go.RowKit

def HasBody (P : Program) (call : CallF) : Prop := ∀ c f args st r, call c f args st = some r → ∃ fn b, P.funcs[f]? = some fn ∧ fn.body = some b
/-- what is asked of regions that draw -/
def DrawSound (P : Program) : Prop := ∀ (call : CallF), CallSound P call → HasBody P call → ∀ (c : Cx) (ops : Array Oper) (id : Nat) (e e' : Env) (st st' : St), regOk ops.toList = true → evDraw P call c ops.toList ops.toList 0 [] e st = some (e', st') → Wf st → StepOk c st st' ∧
  ∀ (B0 : Nat) (ρ : Rho) (τ : Mem) (w : World) (a : Act), EnvRel ρ e a → c.nt ≤ a.tmps.size → Agree c st τ → Real ρ B0 τ w → Fresh ρ st st' → ∀ Q : Exit → Act → World → Prop, Cont c st st' e' B0 ρ τ w a (Q .normal) → (Code.region id ops true).wp P Q a w
def X.exit : X → Exit
  | .n => .normal
  | .ex i => .exit i
  | .ret => .ret
def CodeSound (P : Program) (F : CodeF) : Prop := ∀ (c : Cx) (code : Code) (e : Env) (st : St) (x : X) (e' : Env) (st' : St), F c code e st = some (x, e', st') → Wf st → StepOk c st st' ∧
  ∀ (B0 : Nat) (ρ : Rho) (τ : Mem) (w : World) (a : Act), EnvRel ρ e a → c.nt ≤ a.tmps.size → Agree c st τ → Real ρ B0 τ w → Fresh ρ st st' → ∀ Q : Exit → Act → World → Prop, Cont c st st' e' B0 ρ τ w a (Q x.exit) → code.wp P Q a w
section
variable {P : Program}
theorem cont_refl {c : Cx} {st : St} {e : Env} {B0 : Nat} {ρ : Rho} {τ : Mem} {w : World} {a : Act} {K : Act → World → Prop} (h : Cont c st st e B0 ρ τ w a K) (he : EnvRel ρ e a) (ht : c.nt ≤ a.tmps.size) (hre : Real ρ B0 τ w) : K a w :=
  h ρ a w (Rho.le_refl _) (Dom.refl _ _ _) he ht rfl (by rw [ov_self]; exact hre) (Below.refl _ _)
theorem cont_step {c : Cx} {s1 s2 s3 : St} {e2 e3 : Env} {B0 : Nat} {ρ : Rho} {τ : Mem} {w : World} {a : Act} {K K' : Act → World → Prop} (k1 : StepOk c s1 s2) (k2 : StepOk c s2 s3) (hw : Wf s1) (hag : Agree c s1 τ) (hf : Fresh ρ s1 s3)
    (h : Cont c s1 s3 e3 B0 ρ τ w a K) (hk : ∀ (ρ' : Rho) (a' : Act) (w' : World), EnvRel ρ' e2 a' → c.nt ≤ a'.tmps.size → Agree c s2 (ov s1 s2 τ) → Real ρ' B0 (ov s1 s2 τ) w' → Fresh ρ' s2 s3 → Cont c s2 s3 e3 B0 ρ' (ov s1 s2 τ) w' a' K → K' a' w') : Cont c s1 s2 e2 B0 ρ τ w a K' := by
  intro ρ1 a1 w1 l1 d1 he1 ht1 hd1 m1 b1
  refine hk ρ1 a1 w1 he1 ht1 (hag.step k1 hw) m1 (hf.right k1.le d1) ?_
  intro ρ2 a2 w2 l2 d2 he2 ht2 hd2 m2 b2
  exact h ρ2 a2 w2 (l1.trans l2) (d1.trans d2 k1.le k2.le) he2 ht2 (hd2.trans hd1) (by rw [ov_trans k1 k2 hw hag] at m2; exact m2) (b1.trans b2)
/-! ### calls -/
theorem initE_eq {β : Type} : ∀ (l : List V) (i : Nat) (e : Env) (k : Env → β), initE l i e k = k (sets l i e)
  | [], _, _, _ => rfl
  | v :: l, i, e, k => by
    have h : initE (v :: l) i e k = e.setK i v fun e => fn (i + 1) fun i => initE l i e k := rfl
    rw [h, T.setK_eq, fn_eq, initE_eq]
    rfl
theorem env_init {ρ : Rho} {args : List V} {vs : List Value} (h : RelL ρ args vs) (n : Nat) : EnvRel ρ (sets args 0 .lf) { tmps := (⟨vs⟩ : Array Value) ++ Array.replicate (n - vs.length) undef, defers := [] } := fun t => by
  rw [get_sets]
  have hl := h.length
  simp only [Array.getD_eq_getD_getElem?]
  by_cases ht : t < args.length
  · rw [if_pos (by omega), Array.getElem?_append_left (by simpa using (by omega : t < vs.length))]
    simp only [Nat.sub_zero]
    obtain ⟨y, h1, h2⟩ := h.get (List.getElem?_eq_getElem ht)
    rw [List.getElem?_eq_getElem ht]
    simp only [List.getElem?_toArray, h1, Option.getD_some]
    exact h2
  · rw [if_neg (by omega)]
    simp only [T.get_lf, Option.getD_none]
    rw [Array.getElem?_append_right (by simpa using (by omega : vs.length ≤ t))]
    by_cases hr : t - vs.length < n - vs.length
    · rw [Array.getElem?_replicate, if_pos (by simpa using hr)]; exact rel_u
    · rw [Array.getElem?_replicate, if_neg (by simpa using hr)]; exact rel_u
/-- results -/
theorem resOf_ok {c : Cx} {e : Env} {st st' : St} {v : V} : ∀ {l : List ResultVar} {k : List V → Option (V × St)}, resOf P c e st l k = some (v, st') →
    ∃ vs, k vs = some (v, st') ∧ ∀ (B0 : Nat) (ρ : Rho) (τ : Mem) (w : World) (a : Act), EnvRel ρ e a → Agree c st τ → Real ρ B0 τ w →
      ∃ xs, RelL ρ vs xs ∧ (l.mapM fun x => (match x with | .tmp t => pure (a.tmps.getD t undef) | .cell q t => do loadVar t (← asAddr (a.tmps.getD q undef)) : Sem Value)).run P w = .ok xs w
  | [], k, h => ⟨[], h, fun B0 ρ τ w a _ _ _ => ⟨[], .nil, by simp⟩⟩
  | .tmp t :: l, k, h => by
    have h' : (match e.get t with
      | some x => resOf P c e st l fun r => k (x :: r)
      | _ => none) = some (v, st') := h
    split at h'
    · rename_i x hx
      obtain ⟨vs, h1, h2⟩ := resOf_ok h'
      refine ⟨x :: vs, h1, fun B0 ρ τ w a he hag hre => ?_⟩
      obtain ⟨xs, k1, k2⟩ := h2 B0 ρ τ w a he hag hre
      have := he t
      rw [hx] at this
      refine ⟨a.tmps.getD t undef :: xs, .cons this k1, ?_⟩
      rw [List.mapM_cons]
      simp only [Sem.run_bind, Sem.run_pure, Result.andThen_ok, k2]
    · cases h'
  | .cell t ty :: l, k, h => by
    have h' : (match e.get t with
      | some (.p n i) => loadE P c st ty n i fun w => resOf P c e st l fun r => k (w :: r)
      | _ => none) = some (v, st') := h
    split at h'
    · rename_i n i hx
      obtain ⟨x, h3, h4⟩ := load_ok h'
      obtain ⟨vs, h1, h2⟩ := resOf_ok h3
      refine ⟨x :: vs, h1, fun B0 ρ τ w a he hag hre => ?_⟩
      obtain ⟨xs, k1, k2⟩ := h2 B0 ρ τ w a he hag hre
      have hp := he t
      rw [hx] at hp
      simp only [Option.getD_some, Rel] at hp
      obtain ⟨r, hr, hp⟩ := hp
      obtain ⟨y, k3, k4⟩ := h4 B0 ρ τ w r hag hre hr
      refine ⟨y :: xs, .cons k3 k1, ?_⟩
      have e1 : (do loadVar ty (← asAddr (a.tmps.getD t undef)) : Sem Value).run P w = .ok y w := by
        rw [hp, Sem.run_bind]
        exact k4
      rw [List.mapM_cons, Sem.run_bind]
      show ((do loadVar ty (← asAddr (a.tmps.getD t undef)) : Sem Value).run P w).andThen _ = _
      rw [e1]
      simp only [Sem.run_bind, Sem.run_pure, Result.andThen_ok, k2]
    · cases h'
theorem callOf_body {F : CodeF} : HasBody P (callOf P F) := fun c f args st r h => by
  unfold callOf at h
  split at h
  · cases h
  · rename_i fn hf
    rw [lget_eq] at hf
    split at h
    · cases h
    · rename_i b hb
      exact ⟨fn, b, by simpa using hf, hb⟩
theorem callOf_sound {F : CodeF} (hF : CodeSound P F) : CallSound P (callOf P F) := by
  intro cx f args st v st' h hwf
  unfold callOf at h
  split at h
  · cases h
  · rename_i fn hf
    rw [lget_eq] at hf
    have hf' : P.funcs[f]? = some fn := by simpa using hf
    split at h
    · cases h
    · rename_i b hb
      rw [initE_eq] at h
      have main : ∀ (x : X) (e1 : Env) (st1 : St), F ⟨cx.all, cx.l, cx.wb, fn.ntmps⟩ b (sets args 0 .lf) st = some (x, e1, st1) → (x = .n ∨ x = .ret) → (resOf P cx e1 st1 fn.results.toList fun l => (match l with
          | [x] => (some (x, st1) : Res)
          | l => some (.t l, st1))) = some (v, st') → StepOk cx st st' ∧ ∀ (B0 : Nat) (ρ : Rho) (τ : Mem) (w : World) (vs : List Value), RelL ρ args vs → Agree cx st τ → Real ρ B0 τ w → Fresh ρ st st' → ∀ R : Ending → World → Prop,
          (∀ (ρ' : Rho) (v' : Value) (w' : World), ρ.le ρ' → Dom ρ ρ' st st' → Rel ρ' v v' → Real ρ' B0 (ov st st' τ) w' → Below B0 w w' → R (.returned v') w') → Calls P f ⟨vs⟩ w R := fun x e1 st1 hx hxx hr => by
        obtain ⟨s1, k1⟩ := hF _ _ _ _ _ _ _ hx hwf
        have s1' : StepOk cx st st1 := ⟨s1.le, s1.chg, s1.wf, s1.live⟩
        obtain ⟨rs, h3, h4⟩ := resOf_ok hr
        have hst : st1 = st' := by
          split at h3
          · exact (some_inv h3).2
          · exact (some_inv h3).2
        subst hst
        refine ⟨s1', fun B0 ρ τ w vs hvs hag hre hfr R hR => ?_⟩
        refine calls_of_wp hf' hb ?_
        refine k1 B0 ρ τ w _ (env_init hvs fn.ntmps) ?_ hag hre hfr _ fun ρ1 a1 w1 l1 d1 he1 ht1 hd1 m1 b1 => ?_
        · simp only [Array.size_append, List.size_toArray, Array.size_replicate]; omega
        · obtain ⟨xs, g1, g2⟩ := h4 B0 ρ1 _ w1 a1 he1 (hag.step s1' hwf) m1
          have hres : ∃ v', Rel ρ1 v v' ∧ (results fn a1.tmps).run P w1 = .ok v' w1 := by
            have hmap : (fn.results.mapM fun x => (match x with | .tmp t => pure (a1.tmps.getD t undef) | .cell q t => do loadVar t (← asAddr (a1.tmps.getD q undef)) : Sem Value)).run P w1 = .ok xs.toArray w1 := by
              rw [Array.mapM_eq_mapM_toList]
              simp only [Sem.run_map, g2, Result.andThen_ok]
            have hgen : (results fn a1.tmps).run P w1 = .ok (if h : xs.toArray.size = 1 then xs.toArray[0] else .tuple xs.toArray) w1 := by
              unfold results
              rw [Sem.run_bind]
              exact congrArg (fun r : Result (Array Value) => r.andThen fun vs w' => (pure (if h : vs.size = 1 then vs[0] else .tuple vs) : Sem Value).run P w') hmap
            rw [hgen]
            split at h3
            · obtain ⟨rfl, _⟩ := some_inv h3
              obtain ⟨y, rfl, hy⟩ := relL1 g1
              exact ⟨y, hy, by simp⟩
            · rename_i hne
              obtain ⟨rfl, _⟩ := some_inv h3
              have hlen := g1.length
              have hn1 : ¬ xs.length = 1 := fun e => by
                rw [e] at hlen
                obtain ⟨q, rfl⟩ := List.length_eq_one_iff.1 hlen.symm
                exact hne q rfl
              refine ⟨.tuple xs.toArray, ?_, by simp [hn1]⟩
              simp only [Rel]
              exact ⟨xs, rfl, g1⟩
          obtain ⟨v', hv, hres⟩ := hres
          have hfin := hR ρ1 v' w1 l1 d1 hv m1 b1
          rcases hxx with rfl | rfl
          · exact ⟨hd1, v', hres, hfin⟩
          · exact ⟨hd1, v', hres, hfin⟩
      split at h
      · rename_i e1 st1 hx; exact main _ _ _ hx (.inl rfl) h
      · rename_i e1 st1 hx; exact main _ _ _ hx (.inr rfl) h
      · cases h
/-! ### code -/
def LoopSound (P : Program) (F : CodeF) : Prop := ∀ (c : Cx) (b : Code) (e : Env) (st : St) (x : X) (e' : Env) (st' : St), F c (.loop b) e st = some (x, e', st') → Wf st → ∃ n, StepOk c st st' ∧
  ∀ (B0 : Nat) (ρ : Rho) (τ : Mem) (w : World) (a : Act), EnvRel ρ e a → c.nt ≤ a.tmps.size → Agree c st τ → Real ρ B0 τ w → Fresh ρ st st' → ∀ Q : Exit → Act → World → Prop, Cont c st st' e' B0 ρ τ w a (Q x.exit) → Code.rounds P b Q n a w
theorem ev_ok (hd : DrawSound P) (hn : Named P) : ∀ n, CodeSound P (ev P n) ∧ LoopSound P (ev P n)
  | 0 => ⟨fun _ _ _ _ _ _ _ h _ => (by cases h), fun _ _ _ _ _ _ _ h _ => (by cases h)⟩
  | n + 1 => by
    obtain ⟨ihc, ihl⟩ := ev_ok hd hn n
    have hcall := callOf_sound ihc
    have hbody : HasBody P (callOf P (ev P n)) := callOf_body
    have loop : LoopSound P (ev P (n + 1)) := by
      intro c b e st x e' st' h hwf
      have h' : (match ev P n c b e st with
        | some (.n, e, st) => ev P n c (.loop b) e st
        | r => r) = some (x, e', st') := h
      split at h'
      · rename_i e1 st1 hb
        obtain ⟨s1, k1⟩ := ihc _ _ _ _ _ _ _ hb hwf
        obtain ⟨m, s2, k2⟩ := ihl _ _ _ _ _ _ _ h' (s1.wf hwf)
        refine ⟨m + 1, s1.trans s2, fun B0 ρ τ w a he ht hag hre hf Q hQ => ?_⟩
        rw [rounds_succ]
        refine k1 B0 ρ τ w a he ht hag hre (hf.left s2.le) _ ?_
        exact cont_step s1 s2 hwf hag hf hQ fun ρ' a' w' he' ht' hag' hre' hf' hc' => k2 B0 ρ' _ w' a' he' ht' hag' hre' hf' Q hc'
      · rename_i hne
        obtain ⟨s1, k1⟩ := ihc _ _ _ _ _ _ _ h' hwf
        refine ⟨1, s1, fun B0 ρ τ w a he ht hag hre hf Q hQ => ?_⟩
        rw [rounds_succ]
        refine k1 B0 ρ τ w a he ht hag hre hf _ fun ρ' a' w' q1 q2 q3 q4 q5 q6 q7 => ?_
        have := hQ ρ' a' w' q1 q2 q3 q4 q5 q6 q7
        cases x with
        | n => exact (hne e' st' h').elim
        | ex i => exact this
        | ret => exact this
    refine ⟨fun c code e st x e' st' h hwf => ?_, loop⟩
    cases code with
    | skip =>
      have h' : (some (X.n, e, st) : Option (X × Env × St)) = some (x, e', st') := h
      injection h' with h'; injection h' with h1 h'; injection h' with h2 h3; subst h1 h2 h3
      exact ⟨.refl _ _, fun B0 ρ τ w a he ht hag hre hf Q hQ => wp_skip (cont_refl hQ he ht hre)⟩
    | label l =>
      have h' : (some (X.n, e, st) : Option (X × Env × St)) = some (x, e', st') := h
      injection h' with h'; injection h' with h1 h'; injection h' with h2 h3; subst h1 h2 h3
      exact ⟨.refl _ _, fun B0 ρ τ w a he ht hag hre hf Q hQ => wp_label (cont_refl hQ he ht hre)⟩
    | exit i =>
      have h' : (some (X.ex i, e, st) : Option (X × Env × St)) = some (x, e', st') := h
      injection h' with h'; injection h' with h1 h'; injection h' with h2 h3; subst h1 h2 h3
      exact ⟨.refl _ _, fun B0 ρ τ w a he ht hag hre hf Q hQ => wp_exit (cont_refl hQ he ht hre)⟩
    | ret =>
      have h' : (some (X.ret, e, st) : Option (X × Env × St)) = some (x, e', st') := h
      injection h' with h'; injection h' with h1 h'; injection h' with h2 h3; subst h1 h2 h3
      exact ⟨.refl _ _, fun B0 ρ τ w a he ht hag hre hf Q hQ => wp_ret (cont_refl hQ he ht hre)⟩
    | region id ops d =>
      cases d with
      | false =>
        have h' : (match evOps P (callOf P (ev P n)) c ops.toList ops.toList e st with
          | none => none
          | some (e, st) => some (X.n, e, st)) = some (x, e', st') := h
        split at h'
        · cases h'
        · rename_i e1 st1 hop
          injection h' with h'; injection h' with h1 h'; injection h' with h2 h3; subst h1 h2 h3
          obtain ⟨s1, k1⟩ := evOps_ok hcall hn hbody hop hwf
          exact ⟨s1, fun B0 ρ τ w a he ht hag hre hf Q hQ => wp_region_list (k1 B0 ρ τ w a he ht hag hre hf Q hQ)⟩
      | true =>
        have h' : (match regOk ops.toList with
          | true => (match evDraw P (callOf P (ev P n)) c ops.toList ops.toList 0 [] e st with
            | none => none
            | some (e, st) => some (X.n, e, st))
          | false => none) = some (x, e', st') := h
        split at h'
        · rename_i hreg
          split at h'
          · cases h'
          · rename_i e1 st1 hop
            injection h' with h'; injection h' with h1 h'; injection h' with h2 h3; subst h1 h2 h3
            exact hd _ hcall hbody c ops id e e1 st st1 hreg hop hwf
        · cases h'
    | seq a b =>
      have h' : (match ev P n c a e st with
        | some (.n, e, st) => ev P n c b e st
        | r => r) = some (x, e', st') := h
      split at h'
      · rename_i e1 st1 hb
        obtain ⟨s1, k1⟩ := ihc _ _ _ _ _ _ _ hb hwf
        obtain ⟨s2, k2⟩ := ihc _ _ _ _ _ _ _ h' (s1.wf hwf)
        refine ⟨s1.trans s2, fun B0 ρ τ w a he ht hag hre hf Q hQ => wp_seq ?_⟩
        refine k1 B0 ρ τ w a he ht hag hre (hf.left s2.le) _ ?_
        exact cont_step s1 s2 hwf hag hf hQ fun ρ' a' w' he' ht' hag' hre' hf' hc' => k2 B0 ρ' _ w' a' he' ht' hag' hre' hf' Q hc'
      · rename_i hne
        obtain ⟨s1, k1⟩ := ihc _ _ _ _ _ _ _ h' hwf
        refine ⟨s1, fun B0 ρ τ w a he ht hag hre hf Q hQ => wp_seq ?_⟩
        refine k1 B0 ρ τ w a he ht hag hre hf _ fun ρ' a' w' q1 q2 q3 q4 q5 q6 q7 => ?_
        have := hQ ρ' a' w' q1 q2 q3 q4 q5 q6 q7
        cases x with
        | n => exact (hne e' st' h').elim
        | ex i => exact this
        | ret => exact this
    | cond y a b =>
      have h' : (opd e y fun v => (match v with
        | .c (.bool true) => ev P n c a e st
        | .c (.bool false) => ev P n c b e st
        | _ => none)) = some (x, e', st') := h
      obtain ⟨v, h1, h2⟩ := opd_inv h'
      split at h1
      · obtain ⟨s1, k1⟩ := ihc _ _ _ _ _ _ _ h1 hwf
        refine ⟨s1, fun B0 ρ τ w a he ht hag hre hf Q hQ => wp_cond_true ?_ (k1 B0 ρ τ w a he ht hag hre hf Q hQ)⟩
        exact rel_true (h2 ρ a (he.tmp y))
      · obtain ⟨s1, k1⟩ := ihc _ _ _ _ _ _ _ h1 hwf
        refine ⟨s1, fun B0 ρ τ w a he ht hag hre hf Q hQ => wp_cond_false ?_ (k1 B0 ρ τ w a he ht hag hre hf Q hQ)⟩
        exact rel_true (h2 ρ a (he.tmp y))
      · cases h1
    | block i b =>
      have h' : (match ev P n c b e st with
        | some (.ex j, e, st) => (match Nat.beq j i with | true => some (X.n, e, st) | false => some (.ex j, e, st))
        | r => r) = some (x, e', st') := h
      split at h'
      · rename_i j e1 st1 hb
        obtain ⟨s1, k1⟩ := ihc _ _ _ _ _ _ _ hb hwf
        split at h'
        · rename_i hj
          injection h' with h'; injection h' with h1 h'; injection h' with h2 h3; subst h1 h2 h3
          have hj' : j = i := by simpa [nbeq] using hj
          refine ⟨s1, fun B0 ρ τ w a he ht hag hre hf Q hQ => wp_block (k1 B0 ρ τ w a he ht hag hre hf _ fun ρ' a' w' q1 q2 q3 q4 q5 q6 q7 => ?_)⟩
          show Exit.inBlock i Q (.exit j) a' w'
          simp only [Exit.inBlock, hj', if_true]
          exact hQ ρ' a' w' q1 q2 q3 q4 q5 q6 q7
        · rename_i hj
          injection h' with h'; injection h' with h1 h'; injection h' with h2 h3; subst h1 h2 h3
          have hj' : ¬ j = i := by simpa [nbeq] using hj
          refine ⟨s1, fun B0 ρ τ w a he ht hag hre hf Q hQ => wp_block (k1 B0 ρ τ w a he ht hag hre hf _ fun ρ' a' w' q1 q2 q3 q4 q5 q6 q7 => ?_)⟩
          show Exit.inBlock i Q (.exit j) a' w'
          simp only [Exit.inBlock, hj', if_false]
          exact hQ ρ' a' w' q1 q2 q3 q4 q5 q6 q7
      · rename_i hne
        obtain ⟨s1, k1⟩ := ihc _ _ _ _ _ _ _ h' hwf
        refine ⟨s1, fun B0 ρ τ w a he ht hag hre hf Q hQ => wp_block (k1 B0 ρ τ w a he ht hag hre hf _ fun ρ' a' w' q1 q2 q3 q4 q5 q6 q7 => ?_)⟩
        have := hQ ρ' a' w' q1 q2 q3 q4 q5 q6 q7
        cases x with
        | n => exact this
        | ex i => exact (hne _ e' st' h').elim
        | ret => exact this
    | loop b =>
      obtain ⟨m, s1, k1⟩ := loop _ _ _ _ _ _ _ h hwf
      exact ⟨s1, fun B0 ρ τ w a he ht hag hre hf Q hQ => wp_loop_rounds m (k1 B0 ρ τ w a he ht hag hre hf Q hQ)⟩
    | rangeFunc f ps as b => cases h
    | scope b =>
      obtain ⟨s1, k1⟩ := ihc _ _ _ _ _ _ _ h hwf
      refine ⟨s1, fun B0 ρ τ w a he ht hag hre hf Q hQ => wp_scope_straight (k1 B0 ρ τ w a he ht hag hre hf _ fun ρ' a' w' q1 q2 q3 q4 q5 q6 q7 => ?_)⟩
      have := hQ ρ' a' w' q1 q2 q3 q4 q5 q6 q7
      cases x with
      | n => exact this
      | ex i => exact this
      | ret => exact this
    | goto l => cases h
    | refuse y => cases h
end
end Go.Proofs.Ytcjddojcfdeflaa.Ev
namespace Go.Proofs.Ytcjddojcfdeflaa.Ev
open Go.RowKit

/-! ### what must come before -/
noncomputable def edgeMask (acc : List Nat) (l : List Edge) : Nat := lr 0 (fun (x : Edge) _ r => match Region.binds .any x with | true => Nat.lor (Nat.lor r (Nat.shiftLeft 1 x.on)) ((lget acc x.on).getD 0) | false => r) l
theorem edgeMask_bit (acc : List Nat) : ∀ (l : List Edge) (j : Nat), Nat.testBit (edgeMask acc l) j = true ↔ ∃ x, x ∈ l ∧ Region.binds .any x = true ∧ (x.on = j ∨ Nat.testBit ((acc[x.on]?).getD 0) j = true)
  | [], j => by simp [edgeMask]
  | x :: l, j => by
    have h : edgeMask acc (x :: l) = (match Region.binds .any x with | true => Nat.lor (Nat.lor (edgeMask acc l) (Nat.shiftLeft 1 x.on)) ((lget acc x.on).getD 0) | false => edgeMask acc l) := rfl
    have ih := edgeMask_bit acc l j
    rw [h]
    split
    · rename_i hb
      show Nat.testBit ((edgeMask acc l ||| (1 <<< x.on)) ||| ((lget acc x.on).getD 0)) j = true ↔ _
      rw [Nat.testBit_or, Nat.testBit_or, lget_eq, Nat.testBit_shiftLeft, Bool.or_eq_true, Bool.or_eq_true, ih]
      constructor
      · rintro ((⟨y, h1, h2, h3⟩ | h) | h)
        · exact ⟨y, List.mem_cons_of_mem _ h1, h2, h3⟩
        · refine ⟨x, List.mem_cons_self, hb, .inl ?_⟩
          simp [Nat.testBit_one_eq_true_iff_self_eq_zero] at h
          omega
        · exact ⟨x, List.mem_cons_self, hb, .inr h⟩
      · rintro ⟨y, h1, h2, h3⟩
        rcases List.mem_cons.1 h1 with rfl | h1
        · rcases h3 with rfl | h3
          · exact .inl (.inr (by simp))
          · exact .inr h3
        · exact .inl (.inl ⟨y, h1, h2, h3⟩)
    · rename_i hb
      rw [ih]
      constructor
      · rintro ⟨y, h1, h2, h3⟩; exact ⟨y, List.mem_cons_of_mem _ h1, h2, h3⟩
      · rintro ⟨y, h1, h2, h3⟩
        rcases List.mem_cons.1 h1 with rfl | h1
        · rw [hb] at h2; cases h2
        · exact ⟨y, h1, h2, h3⟩
theorem befs_cons (o : Oper) (l : List Oper) (acc : List Nat) : befs (o :: l) acc = befs l (acc ++ [edgeMask acc o.after.toList]) := rfl
theorem befs_prefix : ∀ (l : List Oper) (acc : List Nat) (i : Nat), i < acc.length → (befs l acc)[i]? = acc[i]?
  | [], _, _, _ => rfl
  | o :: l, acc, i, h => by
    rw [befs_cons, befs_prefix l _ i (by simp; omega), List.getElem?_append_left h]
theorem befs_get : ∀ (l : List Oper) (acc : List Nat) (i : Nat) (o : Oper), l[i]? = some o → ∃ acc', (befs l acc)[acc.length + i]? = some (edgeMask acc' o.after.toList) ∧ acc'.length = acc.length + i ∧ ∀ j, j < acc.length + i → acc'[j]? = (befs l acc)[j]?
  | [], _, _, _, h => by simp at h
  | o :: l, acc, 0, o', h => by
    simp at h; subst h
    refine ⟨acc, ?_, by simp, fun j hj => ?_⟩
    · rw [befs_cons, befs_prefix l _ _ (by simp)]; simp
    · rw [befs_cons, befs_prefix l _ j (by simp; omega), List.getElem?_append_left (by omega)]
  | o :: l, acc, i + 1, o', h => by
    obtain ⟨acc', h1, h2, h3⟩ := befs_get l (acc ++ [edgeMask acc o.after.toList]) i o' (by simpa using h)
    refine ⟨acc', ?_, by simp at h2; omega, fun j hj => ?_⟩
    · rw [befs_cons, ← h1]; congr 1; simp; omega
    · rw [befs_cons]; exact h3 j (by simp; omega)
/-- the mask of number i -/
theorem befOf_bit {L : List Oper} {i : Nat} {o : Oper} (ho : L[i]? = some o) (hlt : ∀ x, x ∈ o.after.toList → Region.binds .any x = true → x.on < i) (j : Nat) :
    Nat.testBit (befOf L i) j = true ↔ ∃ x, x ∈ o.after.toList ∧ Region.binds .any x = true ∧ (x.on = j ∨ Nat.testBit (befOf L x.on) j = true) := by
  obtain ⟨acc', h1, h2, h3⟩ := befs_get L [] i o ho
  simp only [List.length_nil, Nat.zero_add] at h1 h2 h3
  have e : befOf L i = edgeMask acc' o.after.toList := by
    unfold befOf; rw [lget_eq, h1]; rfl
  rw [e, edgeMask_bit]
  constructor
  · rintro ⟨x, k1, k2, k3⟩
    refine ⟨x, k1, k2, k3.imp id fun k => ?_⟩
    unfold befOf
    rw [lget_eq, ← h3 x.on (hlt x k1 k2)]; exact k
  · rintro ⟨x, k1, k2, k3⟩
    refine ⟨x, k1, k2, k3.imp id fun k => ?_⟩
    unfold befOf at k
    rw [lget_eq, ← h3 x.on (hlt x k1 k2)] at k; exact k
/-! ### what regOk says -/
structure RegFacts (L : List Oper) : Prop where
  edge : ∀ (i : Nat) (o : Oper), L[i]? = some o → ∀ x, x ∈ o.after.toList → Region.binds .any x = true → x.on < i
  uniq : ∀ (i j : Nat) (o o' : Oper) (t : Nat), L[i]? = some o → L[j]? = some o' → i ≠ j → o.dst = some t → o'.dst ≠ some t
  look : ∀ (i j : Nat) (o o' : Oper) (t : Nat), L[i]? = some o → L[j]? = some o' → o'.dst = some t → t ∈ looks L o → Nat.testBit (befOf L i) j = true ∨ Nat.testBit (befOf L j) i = true
noncomputable def rowOk (L : List Oper) (o : Oper) (i : Nat) (l : List Oper) : Nat → Bool := lr (β := Nat → Bool) (fun _ => true) (fun (oj : Oper) _ ihj j => match oj.dst with
      | none => ihj (j + 1)
      | some t => (match (match Nat.beq i j with | true => true | false => (match o.dst with | none => true | some u => !Nat.beq t u)) with
        | false => false
        | true => (match (looks L o).any (Nat.beq t) with
          | false => ihj (j + 1)
          | true => (match Nat.testBit (befOf L i) j with | true => ihj (j + 1) | false => (match Nat.testBit (befOf L j) i with | true => ihj (j + 1) | false => false))))) l
theorem rowOk_spec (L : List Oper) (o : Oper) (i : Nat) : ∀ (l : List Oper) (j : Nat), rowOk L o i l j = true → ∀ m o' t, l[m]? = some o' → o'.dst = some t → (i ≠ j + m → ∀ u, o.dst = some u → t ≠ u) ∧ (t ∈ looks L o → Nat.testBit (befOf L i) (j + m) = true ∨ Nat.testBit (befOf L (j + m)) i = true)
  | [], _, _, _, _, _, h, _ => by simp at h
  | oj :: l, j, hr, m, o', t, hm, hd => by
    have hr' : (match oj.dst with
      | none => rowOk L o i l (j + 1)
      | some t => (match (match Nat.beq i j with | true => true | false => (match o.dst with | none => true | some u => !Nat.beq t u)) with
        | false => false
        | true => (match (looks L o).any (Nat.beq t) with
          | false => rowOk L o i l (j + 1)
          | true => (match Nat.testBit (befOf L i) j with | true => rowOk L o i l (j + 1) | false => (match Nat.testBit (befOf L j) i with | true => rowOk L o i l (j + 1) | false => false))))) = true := hr
    cases m with
    | zero =>
      simp at hm; subst hm
      rw [hd] at hr'
      simp only at hr'
      split at hr'
      · cases hr'
      · rename_i h1
        refine ⟨fun hij u hu e => ?_, fun hl => ?_⟩
        · subst e
          have hb : Nat.beq i j = false := by
            rw [nbeq]; simpa using hij
          rw [hb, hu] at h1
          simp at h1
        · split at hr'
          · rename_i h2
            rw [List.any_eq_false] at h2
            exact absurd (by simp) (h2 t hl)
          · split at hr'
            · rename_i h3; exact .inl (by simpa using h3)
            · split at hr'
              · rename_i h4; exact .inr (by simpa using h4)
              · cases hr'
    | succ m =>
      have hrest : rowOk L o i l (j + 1) = true := by
        split at hr'
        · exact hr'
        · split at hr'
          · cases hr'
          · split at hr'
            · exact hr'
            · split at hr'
              · exact hr'
              · split at hr'
                · exact hr'
                · cases hr'
      have := rowOk_spec L o i l (j + 1) hrest m o' t (by simpa using hm) hd
      rw [show j + (m + 1) = j + 1 + m by omega]
      exact this
noncomputable def regOkAt (L : List Oper) (l : List Oper) : Nat → Bool := lr (β := Nat → Bool) (fun _ => true) (fun o _ ih i =>
  match rowOk L o i L 0 with
  | false => false
  | true => (match o.after.toList.all fun (x : Edge) => match Region.binds .any x with | true => Nat.blt x.on i | false => true with
    | false => false
    | true => (match o.op with | .select .. => false | _ => ih (i + 1)))) l
theorem regOkAt_spec (L : List Oper) : ∀ (l : List Oper) (i : Nat), regOkAt L l i = true → ∀ m o, l[m]? = some o → rowOk L o (i + m) L 0 = true ∧ (∀ x, x ∈ o.after.toList → Region.binds .any x = true → x.on < i + m)
  | [], _, _, _, _, h => by simp at h
  | o :: l, i, hr, m, o', hm => by
    have hr' : (match rowOk L o i L 0 with
      | false => false
      | true => (match o.after.toList.all fun (x : Edge) => match Region.binds .any x with | true => Nat.blt x.on i | false => true with
        | false => false
        | true => (match o.op with | .select .. => false | _ => regOkAt L l (i + 1)))) = true := hr
    split at hr'
    · cases hr'
    · rename_i h1
      split at hr'
      · cases hr'
      · rename_i h2
        cases m with
        | zero =>
          simp at hm; subst hm
          refine ⟨h1, fun x hx hb => ?_⟩
          have := (List.all_eq_true.1 h2) x hx
          rw [hb] at this
          simpa [Nat.blt_eq] using this
        | succ m =>
          have hrest : regOkAt L l (i + 1) = true := by
            split at hr'
            · cases hr'
            · exact hr'
          have := regOkAt_spec L l (i + 1) hrest m o' (by simpa using hm)
          rw [show i + (m + 1) = i + 1 + m by omega]
          exact this
theorem regOk_facts {L : List Oper} (h : regOk L = true) : RegFacts L := by
  have h' : regOkAt L L 0 = true := h
  have key := regOkAt_spec L L 0 h'
  simp only [Nat.zero_add] at key
  refine ⟨fun i o ho => (key i o ho).2, fun i j o o' t ho ho' hij hd hd' => ?_, fun i j o o' t ho ho' hd hl => ?_⟩
  · have := (rowOk_spec L o i L 0 (key i o ho).1 j o' t ho' hd').1
    simp only [Nat.zero_add] at this
    exact this hij t hd rfl
  · have := (rowOk_spec L o i L 0 (key i o ho).1 j o' t ho' hd).2 hl
    simpa using this
theorem RegFacts.lt {L : List Oper} (R : RegFacts L) : ∀ (i j : Nat) (o : Oper), L[i]? = some o → Nat.testBit (befOf L i) j = true → j < i := by
  intro i
  induction i using Nat.strongRecOn with
  | _ i ih =>
    intro j o ho hb
    obtain ⟨x, h1, h2, h3⟩ := (befOf_bit ho (R.edge i o ho) j).1 hb
    have hx := R.edge i o ho x h1 h2
    rcases h3 with rfl | h3
    · exact hx
    · have hlen : i < L.length := by
        rcases Nat.lt_or_ge i L.length with h | h
        · exact h
        · rw [List.getElem?_eq_none h] at ho; cases ho
      have := ih x.on hx j L[x.on] (List.getElem?_eq_getElem (by omega)) h3
      omega
theorem mayW_spec {L : List Oper} {i : Nat} (h : mayW L i = true) : ∀ j o, L[j]? = some o → j ≠ i → touches o.op = true → Nat.testBit (befOf L i) j = true ∨ Nat.testBit (befOf L j) i = true := by
  have key : ∀ (l : List Oper) (j : Nat), (lr (β := Nat → Bool) (fun _ => true) (fun o _ ih j => match Nat.beq i j with
      | true => ih (j + 1)
      | false => match touches o.op with
        | false => ih (j + 1)
        | true => match ordered L i j with
          | true => ih (j + 1)
          | false => false) l j) = true → ∀ m o, l[m]? = some o → j + m ≠ i → touches o.op = true → ordered L i (j + m) = true := by
    intro l
    induction l with
    | nil => intro j _ m o hm; simp at hm
    | cons o l ih =>
      intro j hj m o' hm hne ht
      rw [lr_cons] at hj
      cases m with
      | zero =>
        simp at hm; subst hm
        have hb : Nat.beq i j = false := by rw [nbeq]; simp; omega
        rw [hb, ht] at hj
        simp only at hj
        split at hj
        · rename_i ho; simpa using ho
        · cases hj
      | succ m =>
        have hrest := ih (j + 1)
        have hj' : (lr (β := Nat → Bool) (fun _ => true) (fun o _ ih j => match Nat.beq i j with
            | true => ih (j + 1)
            | false => match touches o.op with
              | false => ih (j + 1)
              | true => match ordered L i j with
                | true => ih (j + 1)
                | false => false) l (j + 1)) = true := by
          split at hj
          · exact hj
          · split at hj
            · exact hj
            · split at hj
              · exact hj
              · cases hj
        have := hrest hj' m o' (by simpa using hm) (by omega) ht
        rw [show j + (m + 1) = j + 1 + m by omega]; exact this
  intro j o ho hne ht
  have := key L 0 h j o ho (by omega) ht
  rw [Nat.zero_add] at this
  unfold ordered at this
  split at this
  · rename_i h1; exact .inl h1
  · exact .inr this
end Go.Proofs.Ytcjddojcfdeflaa.Ev
namespace Go.Proofs.Ytcjddojcfdeflaa.Ev
open Go.RowKit

/-! ### the run in the text's order -/
def StepAt (P : Program) (call : CallF) (c : Cx) (L : List Oper) (E : Nat → Env) (S : Nat → St) (Vv : Nat → V) (RS : Nat → List (Nat × Nat × Nat)) (i : Nat) (o : Oper) : Prop :=
  ((wants (E i) L o = true ∧ evOp P call (cxOf c L o i (RS i) (S i) (E i)) (E i) (S i) o = some (Vv i, S (i + 1))) ∨ (wants (E i) L o = false ∧ Vv i = .u ∧ S (i + 1) = S i)) ∧
  E (i + 1) = putE (E i) o.dst (Vv i) ∧ (∀ t, o.dst = some t → t < c.nt) ∧ RS (i + 1) = (match Nat.beq (S i).nx (S (i + 1)).nx with | true => RS i | false => (i, (S i).nx, (S (i + 1)).nx) :: RS i)
theorem trace_of {P : Program} {call : CallF} {c : Cx} {L : List Oper} {e' : Env} {st' : St} : ∀ {l : List Oper} {i : Nat} {rs : List (Nat × Nat × Nat)} {e : Env} {st : St}, evDraw P call c L l i rs e st = some (e', st') →
    ∃ (E : Nat → Env) (S : Nat → St) (Vv : Nat → V) (RS : Nat → List (Nat × Nat × Nat)), E i = e ∧ S i = st ∧ RS i = rs ∧ E (i + l.length) = e' ∧ S (i + l.length) = st' ∧ ∀ m o, l[m]? = some o → StepAt P call c L E S Vv RS (i + m) o
  | [], i, rs, e, st, h => by
    have h' : (some (e, st) : Option (Env × St)) = some (e', st') := h
    injection h' with h'; injection h' with h1 h2; subst h1 h2
    exact ⟨fun _ => e, fun _ => st, fun _ => .u, fun _ => rs, rfl, rfl, rfl, rfl, rfl, fun m o hm => by simp at hm⟩
  | o :: l, i, rs, e, st, h => by
    have h' : (match wants e L o with
      | true => match evOp P call (cxOf c L o i rs st e) e st o with
        | none => none
        | some (v, st2) => putK c e o.dst v fun e => fn (i + 1) fun i' => evDraw P call c L l i' (match Nat.beq st.nx st2.nx with | true => rs | false => (i, st.nx, st2.nx) :: rs) e st2
      | false => putK c e o.dst .u fun e => fn (i + 1) fun i' => evDraw P call c L l i' rs e st) = some (e', st') := h
    have fin : ∀ (v : V) (st1 : St) (rs1 : List (Nat × Nat × Nat)), (∀ t, o.dst = some t → t < c.nt) → evDraw P call c L l (i + 1) rs1 (putE e o.dst v) st1 = some (e', st') →
        ((wants e L o = true ∧ evOp P call (cxOf c L o i rs st e) e st o = some (v, st1)) ∨ (wants e L o = false ∧ v = .u ∧ st1 = st)) → rs1 = (match Nat.beq st.nx st1.nx with | true => rs | false => (i, st.nx, st1.nx) :: rs) →
        ∃ (E : Nat → Env) (S : Nat → St) (Vv : Nat → V) (RS : Nat → List (Nat × Nat × Nat)), E i = e ∧ S i = st ∧ RS i = rs ∧ E (i + (o :: l).length) = e' ∧ S (i + (o :: l).length) = st' ∧ ∀ m o', (o :: l)[m]? = some o' → StepAt P call c L E S Vv RS (i + m) o' := fun v st1 rs1 hd h2 hop hrs => by
      obtain ⟨E, S, Vv, RS, k1, k2, k3, k4, k5, k6⟩ := trace_of h2
      have ne : ∀ m, i + 1 + m ≠ i := fun m => by omega
      refine ⟨fun n => if n = i then e else E n, fun n => if n = i then st else S n, fun n => if n = i then v else Vv n, fun n => if n = i then rs else RS n, by simp, by simp, by simp, ?_, ?_, ?_⟩
      · simp only [List.length_cons]
        rw [if_neg (by omega), show i + (l.length + 1) = i + 1 + l.length by omega]; exact k4
      · simp only [List.length_cons]
        rw [if_neg (by omega), show i + (l.length + 1) = i + 1 + l.length by omega]; exact k5
      · intro m o' hm
        cases m with
        | zero =>
          simp at hm; subst hm
          unfold StepAt
          simp only [Nat.add_zero, if_true]
          rw [if_neg (by omega), if_neg (by omega), if_neg (by omega), k1, k2, k3]
          exact ⟨hop, rfl, hd, hrs⟩
        | succ m =>
          have := k6 m o' (by simpa using hm)
          unfold StepAt at this ⊢
          rw [show i + (m + 1) = i + 1 + m by omega]
          simp only
          rw [if_neg (ne m), if_neg (ne m), if_neg (ne m), if_neg (ne m), if_neg (by omega), if_neg (by omega), if_neg (by omega)]
          exact this
    split at h'
    · rename_i hw
      split at h'
      · cases h'
      · rename_i v st1 hop
        obtain ⟨hd, h2⟩ := putK_inv h'
        rw [fn_eq] at h2
        exact fin v st1 _ hd h2 (.inl ⟨hw, hop⟩) rfl
    · rename_i hw
      obtain ⟨hd, h2⟩ := putK_inv h'
      rw [fn_eq] at h2
      exact fin .u st rs hd h2 (.inr ⟨hw, rfl, rfl⟩) (by simp)
theorem inF_spec : ∀ (l : List (Nat × Nat)) (n : Nat), inF l n = true ↔ ∃ x, x ∈ l ∧ x.1 ≤ n ∧ n < x.2
  | [], n => by simp [inF]
  | x :: l, n => by
    have h : inF (x :: l) n = (match Nat.ble x.1 n with | true => (match Nat.blt n x.2 with | true => true | false => inF l n) | false => inF l n) := rfl
    have ih := inF_spec l n
    rw [h]
    cases h1 : Nat.ble x.1 n with
    | true =>
      have h1' : x.1 ≤ n := by simpa [Nat.ble_eq] using h1
      cases h2 : Nat.blt n x.2 with
      | true =>
        have h2' : n < x.2 := by simpa [Nat.blt_eq] using h2
        simp only [true_iff]
        exact ⟨x, List.mem_cons_self, h1', h2'⟩
      | false =>
        have h2' : ¬ n < x.2 := fun hh => by
          have : Nat.blt n x.2 = true := by simpa [Nat.blt_eq] using hh
          rw [this] at h2; cases h2
        simp only [ih]
        constructor
        · rintro ⟨y, k1, k2⟩; exact ⟨y, List.mem_cons_of_mem _ k1, k2⟩
        · rintro ⟨y, k1, k2, k3⟩
          rcases List.mem_cons.1 k1 with rfl | k1
          · exact absurd k3 h2'
          · exact ⟨y, k1, k2, k3⟩
    | false =>
      have h1' : ¬ x.1 ≤ n := fun hh => by
        have : Nat.ble x.1 n = true := by simpa [Nat.ble_eq] using hh
        rw [this] at h1; cases h1
      simp only [ih]
      constructor
      · rintro ⟨y, k1, k2⟩; exact ⟨y, List.mem_cons_of_mem _ k1, k2⟩
      · rintro ⟨y, k1, k2, k3⟩
        rcases List.mem_cons.1 k1 with rfl | k1
        · exact absurd k2 h1'
        · exact ⟨y, k1, k2, k3⟩
theorem forb_mem (b : Nat) (f : List (Nat × Nat)) : ∀ (l : List (Nat × Nat × Nat)) (x : Nat × Nat), x ∈ forb b l f ↔ x ∈ f ∨ ∃ y, y ∈ l ∧ Nat.testBit b y.1 = false ∧ y.2 = x
  | [], x => by simp [forb]
  | y :: l, x => by
    have h : forb b (y :: l) f = (match Nat.testBit b y.1 with | true => forb b l f | false => y.2 :: forb b l f) := rfl
    have ih := forb_mem b f l x
    rw [h]
    cases hb : Nat.testBit b y.1 with
    | true =>
      simp only [ih]
      constructor
      · rintro (k | ⟨z, k1, k2⟩)
        · exact .inl k
        · exact .inr ⟨z, List.mem_cons_of_mem _ k1, k2⟩
      · rintro (k | ⟨z, k1, k2, k3⟩)
        · exact .inl k
        · rcases List.mem_cons.1 k1 with rfl | k1
          · rw [hb] at k2; cases k2
          · exact .inr ⟨z, k1, k2, k3⟩
    | false =>
      simp only [List.mem_cons, ih]
      constructor
      · rintro (rfl | k | ⟨z, k1, k2⟩)
        · exact .inr ⟨y, .inl rfl, hb, rfl⟩
        · exact .inl k
        · exact .inr ⟨z, .inr k1, k2⟩
      · rintro (k | ⟨z, k1 | k1, k2, k3⟩)
        · exact .inr (.inl k)
        · subst k1; exact .inl k3.symm
        · exact .inr (.inr ⟨z, k1, k2, k3⟩)
/-- the run, and what is known of it -/
structure Run (P : Program) (call : CallF) (c : Cx) (L : List Oper) (E : Nat → Env) (S : Nat → St) (Vv : Nat → V) (RS : Nat → List (Nat × Nat × Nat)) : Prop where
  fact : RegFacts L
  step : ∀ i o, L[i]? = some o → StepAt P call c L E S Vv RS i o
  rs0 : RS 0 = []
  wf0 : Wf (S 0)
  op : ∀ i o, L[i]? = some o → Wf (S i) → wants (E i) L o = true → StepOk (cxOf c L o i (RS i) (S i) (E i)) (S i) (S (i + 1)) ∧ OpOk P (cxOf c L o i (RS i) (S i) (E i)) (S i) (S (i + 1)) (Vv i) (E i) o
section
variable {P : Program} {call : CallF} {c : Cx} {L : List Oper} {E : Nat → Env} {S : Nat → St} {Vv : Nat → V} {RS : Nat → List (Nat × Nat × Nat)}
theorem Run.stepOk (T : Run P call c L E S Vv RS) {i : Nat} {o : Oper} (ho : L[i]? = some o) (hw : Wf (S i)) : StepOk (cxOf c L o i (RS i) (S i) (E i)) (S i) (S (i + 1)) := by
  obtain ⟨h, _⟩ := T.step i o ho
  rcases h with ⟨h1, _⟩ | ⟨_, _, h3⟩
  · exact (T.op i o ho hw h1).1
  · rw [h3]; exact .refl _ _
theorem Run.wf (T : Run P call c L E S Vv RS) : ∀ i, i ≤ L.length → Wf (S i)
  | 0, _ => T.wf0
  | i + 1, h => (T.stepOk (List.getElem?_eq_getElem (by omega)) (T.wf i (by omega))).wf (T.wf i (by omega))
theorem Run.nx (T : Run P call c L E S Vv RS) {i : Nat} : ∀ {j : Nat}, i ≤ j → j ≤ L.length → (S i).nx ≤ (S j).nx
  | 0, h, _ => by
    have : i = 0 := by omega
    subst this; exact Nat.le_refl _
  | j + 1, h, hl => by
    by_cases hij : i = j + 1
    · subst hij; exact Nat.le_refl _
    · exact Nat.le_trans (T.nx (by omega) (by omega)) (T.stepOk (List.getElem?_eq_getElem (by omega)) (T.wf j (by omega))).le
theorem Run.rs (T : Run P call c L E S Vv RS) : ∀ i, i ≤ L.length → ∀ j, j < i → (S j).nx < (S (j + 1)).nx → (j, (S j).nx, (S (j + 1)).nx) ∈ RS i
  | 0, _, j, h, _ => by omega
  | i + 1, hl, j, h, hlt => by
    obtain ⟨_, _, _, h4⟩ := T.step i L[i] (List.getElem?_eq_getElem (by omega))
    rw [h4]
    by_cases hj : j = i
    · subst hj
      have : Nat.beq (S j).nx (S (j + 1)).nx = false := by rw [nbeq]; simp; omega
      rw [this]
      exact List.mem_cons_self
    · have := T.rs i (by omega) j (by omega) hlt
      split
      · exact this
      · exact List.mem_cons_of_mem _ this
/-- what an operation may touch -/
theorem Run.ok (T : Run P call c L E S Vv RS) {i : Nat} {o : Oper} (hi : i ≤ L.length) {n : Nat} (hlt : n < (S i).nx) (h : (cxOf c L o i (RS i) (S i) (E i)).ok n = true) :
    touches o.op = true ∧ c.ok n = true ∧ (∀ j, j < i → (S j).nx ≤ n → n < (S (j + 1)).nx → Nat.testBit (befOf L i) j = true) ∧ (∀ q, plainLd o.op = some q → ∃ v, (E i).get q = some v ∧ blkOf v = some n) := by
  have base : ∀ (l : List (Nat × Nat)) (wb nt : Nat), Cx.ok ⟨c.all, l, wb, nt⟩ n = true → (∀ x, x ∈ forb (befOf L i) (RS i) c.l → x ∈ l) → c.ok n = true ∧ (∀ j, j < i → (S j).nx ≤ n → n < (S (j + 1)).nx → Nat.testBit (befOf L i) j = true) ∧ ∀ x, x ∈ l → ¬ (x.1 ≤ n ∧ n < x.2) := by
    intro l wb nt h hl
    unfold Cx.ok at h
    simp only at h
    split at h
    · cases h
    · rename_i ha
      simp only [Bool.not_eq_true'] at h
      rw [Bool.eq_false_iff] at h
      refine ⟨?_, fun j hj h1 h2 => ?_, fun x hx hh => h ((inF_spec _ _).2 ⟨x, hx, hh⟩)⟩
      · unfold Cx.ok
        rw [ha]
        simp only [Bool.not_eq_true']
        rw [Bool.eq_false_iff]
        intro hh
        apply h
        obtain ⟨x, h1, h2⟩ := (inF_spec _ _).1 hh
        exact (inF_spec _ _).2 ⟨x, hl _ ((forb_mem _ _ _ _).2 (.inl h1)), h2⟩
      · cases hb : Nat.testBit (befOf L i) j with
        | true => rfl
        | false => exact absurd ((inF_spec _ _).2 ⟨((S j).nx, (S (j + 1)).nx), hl _ ((forb_mem _ _ _ _).2 (.inr ⟨_, T.rs i hi j hj (by omega), hb, rfl⟩)), h1, h2⟩) h
  unfold cxOf at h
  split at h
  · cases h
  · rename_i ht
    split at h
    · rename_i q hq
      split at h
      · rename_i v he
        split at h
        · rename_i m hm
          obtain ⟨k1, k2, k3⟩ := base _ _ _ h (fun x hx => List.mem_cons_of_mem _ (List.mem_cons_of_mem _ hx))
          refine ⟨ht, k1, k2, fun q' h1 => ?_⟩
          rw [hq] at h1; injection h1 with h1; subst h1
          refine ⟨v, he, ?_⟩
          have a1 := k3 _ (List.mem_cons_self (a := (0, m)))
          have a2 := k3 _ (List.mem_cons_of_mem _ (List.mem_cons_self (a := (m + 1, (S i).nx))))
          simp only at a1 a2
          rw [hm]; congr 1; omega
        · cases h
      · cases h
    · rename_i hq
      have no : ∀ q, plainLd o.op = some q → ∃ v, (E i).get q = some v ∧ blkOf v = some n := fun q h1 => by rw [hq] at h1; cases h1
      split at h
      · obtain ⟨k1, k2, _⟩ := base _ _ _ h (fun x hx => hx)
        exact ⟨ht, k1, k2, no⟩
      · split at h
        · obtain ⟨k1, k2, _⟩ := base _ _ _ h (fun x hx => List.mem_append_right _ hx)
          exact ⟨ht, k1, k2, no⟩
        · obtain ⟨k1, k2, _⟩ := base _ _ _ h (fun x hx => hx)
          exact ⟨ht, k1, k2, no⟩
/-- slots in the run -/
theorem Run.slot (T : Run P call c L E S Vv RS) : ∀ i, i ≤ L.length → (∀ j o t, j < i → L[j]? = some o → o.dst = some t → (E i).get t = some (Vv j)) ∧ (∀ t, (∀ j o, j < i → L[j]? = some o → o.dst ≠ some t) → (E i).get t = (E 0).get t)
  | 0, _ => ⟨fun j o t h => by omega, fun _ _ => rfl⟩
  | i + 1, h => by
    obtain ⟨ih1, ih2⟩ := T.slot i (by omega)
    have ho : L[i]? = some L[i] := List.getElem?_eq_getElem (by omega)
    obtain ⟨_, h2, _, _⟩ := T.step i _ ho
    have pg : ∀ t, (putE (E i) L[i].dst (Vv i)).get t = if L[i].dst = some t then some (Vv i) else (E i).get t := fun t => by
      cases hd : L[i].dst with
      | none => simp [putE]
      | some u =>
        simp only [putE, Option.some.injEq, Ev.T.get_set]
    rw [h2]
    refine ⟨fun j o t hj hjo hd => ?_, fun t ht => ?_⟩
    · rw [pg]
      by_cases hji : j = i
      · subst hji
        rw [ho] at hjo; injection hjo with hjo; subst hjo
        rw [if_pos hd]
      · rw [if_neg (T.fact.uniq j i o L[i] t hjo ho hji hd)]
        exact ih1 j o t (by omega) hjo hd
    · rw [pg, if_neg (ht i _ (by omega) ho)]
      exact ih2 t fun j o hj => ht j o (by omega)
theorem firm_spec {L : List Oper} {j q : Nat} (h : firm L j q = true) : ∀ k o, L[k]? = some o → o.dst = some q → Nat.testBit (befOf L j) k = true := by
  have key : ∀ (l : List Oper) (a : Nat), (lr (β := Nat → Bool) (fun _ => true) (fun o _ ih k => match o.dst with
  | none => ih (k + 1)
  | some t => (match Nat.beq t q with
    | false => ih (k + 1)
    | true => (match Nat.testBit (befOf L j) k with
      | true => ih (k + 1)
      | false => false))) l a) = true → ∀ k o, l[k]? = some o → o.dst = some q → Nat.testBit (befOf L j) (a + k) = true := by
    intro l
    induction l with
    | nil => intro a _ k o hk; simp at hk
    | cons o l ih =>
      intro a ha k o' hk hd
      rw [lr_cons] at ha
      cases k with
      | zero =>
        simp at hk; subst hk
        rw [hd] at ha
        have hb : Nat.beq q q = true := by rw [nbeq]; simp
        simp only [hb] at ha
        split at ha
        · rename_i h1; exact h1
        · cases ha
      | succ k =>
        rw [show a + (k + 1) = a + 1 + k by omega]
        refine ih (a + 1) ?_ k o' (by simpa using hk) hd
        split at ha
        · exact ha
        · split at ha
          · exact ha
          · split at ha
            · exact ha
            · cases ha
  intro k o hk hd
  have := key L 0 h k o hk hd
  rwa [Nat.zero_add] at this
theorem looseW_spec {L : List Oper} {e : Env} {i : Nat} {r : List (Nat × Nat)} (h : looseW L e i = some r) : ∀ j o, L[j]? = some o → j ≠ i → touches o.op = true → ordered L i j = true ∨ (∃ q v, plainLd o.op = some q ∧ firm L j q = true ∧ seenAt L e i j q = some v ∧ ∀ m, blkOf v = some m → (m, m + 1) ∈ r) := by
  have key : ∀ (l : List Oper) (a : Nat) (r : List (Nat × Nat)), (lr (β := Nat → Option (List (Nat × Nat))) (fun _ => some []) (fun o _ ih j => match Nat.beq i j with
  | true => ih (j + 1)
  | false => (match touches o.op with
    | false => ih (j + 1)
    | true => (match ordered L i j with
      | true => ih (j + 1)
      | false => (match plainLd o.op with
        | some q => (match firm L j q, seenAt L e i j q with
          | true, some v => (match ih (j + 1) with
            | some l => (match blkOf v with
              | some m => some ((m, m + 1) :: l)
              | none => some l)
            | none => none)
          | _, _ => none)
        | none => none)))) l a) = some r → ∀ k o, l[k]? = some o → a + k ≠ i → touches o.op = true → ordered L i (a + k) = true ∨ (∃ q v, plainLd o.op = some q ∧ firm L (a + k) q = true ∧ seenAt L e i (a + k) q = some v ∧ ∀ m, blkOf v = some m → (m, m + 1) ∈ r) := by
    intro l
    induction l with
    | nil => intro a r _ k o hk; simp at hk
    | cons o l ih =>
      intro a r ha k o' hk hne ht
      rw [lr_cons] at ha
      cases k with
      | zero =>
        simp at hk; subst hk
        have hb : Nat.beq i a = false := by rw [nbeq]; simp; omega
        rw [hb, ht] at ha
        simp only at ha
        split at ha
        · rename_i h1; exact .inl (by simpa using h1)
        · split at ha
          · rename_i q hq
            split at ha
            · rename_i v hf he
              split at ha
              · split at ha
                · rename_i m hm
                  injection ha with ha; subst ha
                  exact .inr ⟨q, v, hq, by simpa using hf, by simpa using he, fun m' h => by rw [hm] at h; injection h with h; subst h; exact List.mem_cons_self⟩
                · rename_i hm
                  injection ha with ha; subst ha
                  exact .inr ⟨q, v, hq, by simpa using hf, by simpa using he, fun m' h => by rw [hm] at h; cases h⟩
              · cases ha
            · cases ha
          · cases ha
      | succ k =>
        rw [show a + (k + 1) = a + 1 + k by omega]
        have hk' : l[k]? = some o' := by simpa using hk
        have hne' : a + 1 + k ≠ i := by omega
        split at ha
        · exact ih (a + 1) r ha k o' hk' hne' ht
        · split at ha
          · exact ih (a + 1) r ha k o' hk' hne' ht
          · split at ha
            · exact ih (a + 1) r ha k o' hk' hne' ht
            · split at ha
              · split at ha
                · split at ha
                  · rename_i r' hr
                    split at ha
                    · injection ha with ha; subst ha
                      exact (ih (a + 1) r' hr k o' hk' hne' ht).imp id fun ⟨q, v, h2, h3, h4, h5⟩ => ⟨q, v, h2, h3, h4, fun m hm => List.mem_cons_of_mem _ (h5 m hm)⟩
                    · injection ha with ha; subst ha
                      exact ih (a + 1) r' hr k o' hk' hne' ht
                  · cases ha
                · cases ha
              · cases ha
  intro j o hj hne ht
  have := key L 0 r h j o hj (by omega) ht
  rwa [Nat.zero_add] at this
theorem writer_none {q : Nat} : ∀ {L : List Oper}, writer L q = none → ∀ (k : Nat) (o : Oper), L[k]? = some o → o.dst ≠ some q
  | [], _, k, o, h => by simp at h
  | o :: L, hw, k, o', h => by
    have hw' : (match o.dst with
      | none => writer L q
      | some t => (match Nat.beq t q with | true => some o | false => writer L q)) = none := hw
    have rest : writer L q = none ∧ o.dst ≠ some q := by
      split at hw'
      · rename_i hd; exact ⟨hw', by rw [hd]; simp⟩
      · rename_i t hd
        split at hw'
        · cases hw'
        · rename_i hb
          refine ⟨hw', ?_⟩
          rw [hd]
          intro e
          injection e with e
          subst e
          rw [nbeq] at hb
          simp at hb
    cases k with
    | zero => simp at h; subst h; exact rest.2
    | succ k => exact writer_none rest.1 k o' (by simpa using h)
theorem writer_some {q : Nat} {ok : Oper} : ∀ {L : List Oper}, writer L q = some ok → ∃ k : Nat, L[k]? = some ok ∧ ok.dst = some q
  | [], hw => by
    have hw' : (none : Option Oper) = some ok := hw
    cases hw'
  | o :: L, hw => by
    have hw' : (match o.dst with
      | none => writer L q
      | some t => (match Nat.beq t q with | true => some o | false => writer L q)) = some ok := hw
    split at hw'
    · obtain ⟨k, k1, k2⟩ := writer_some hw'
      exact ⟨k + 1, by simpa using k1, k2⟩
    · rename_i t hd
      split at hw'
      · rename_i hb
        injection hw' with hw'; subst hw'
        have : t = q := by simpa [nbeq] using hb
        exact ⟨0, by simp, by rw [hd, this]⟩
      · obtain ⟨k, k1, k2⟩ := writer_some hw'
        exact ⟨k + 1, by simpa using k1, k2⟩
theorem fieldAddr_blk {P : Program} {call : CallF} {c : Cx} {e : Env} {st st' : St} {o : Oper} {t r f : Nat} {v : V} (ho : o.op = .fieldAddr t (.tmp r) f) (h : evOp P call c e st o = some (v, st')) : ∃ n a b, e.get r = some (.p n a) ∧ v = .p n b := by
  unfold evOp at h
  rw [ho] at h
  simp only [opd] at h
  split at h
  · rename_i v0 hv0
    split at h
    · rename_i n a
      split at h
      · split at h
        · obtain ⟨ti, _, h3⟩ := szOf_inv h
          split at h3
          · cases h3
          · rw [fn_eq] at h3
            obtain ⟨rfl, _⟩ := some_inv h3
            exact ⟨n, a, _, hv0, rfl⟩
        · cases h
      · cases h
    · cases h
  · rename_i hv0
    cases h
def WrSpec (L : List Oper) (a q : Nat) : Option (Nat × Oper) → Prop
  | none => ∀ (k : Nat) (o : Oper), L[k]? = some o → o.dst ≠ some q
  | some (k, o) => a ≤ k ∧ L[k - a]? = some o ∧ o.dst = some q
theorem WrSpec.cons {L : List Oper} {o : Oper} {a q : Nat} {r : Option (Nat × Oper)} (h : WrSpec L (a + 1) q r) (hd : o.dst ≠ some q) : WrSpec (o :: L) a q r := by
  cases r with
  | none =>
    intro k o' h'
    cases k with
    | zero => simp at h'; subst h'; exact hd
    | succ k => exact h k o' (by simpa using h')
  | some p =>
    obtain ⟨k, o'⟩ := p
    obtain ⟨h1, h2, h3⟩ := h
    refine ⟨by omega, ?_, h3⟩
    rw [show k - a = (k - (a + 1)) + 1 by omega]
    simpa using h2
theorem writerF_spec {q : Nat} : ∀ (L : List Oper) (a : Nat), WrSpec L a q (writerF q L a)
  | [], a => fun k o h => by simp at h
  | o :: L, a => by
    have ih := writerF_spec (q := q) L (a + 1)
    have e : writerF q (o :: L) a = (match o.dst with
      | none => writerF q L (a + 1)
      | some t => (match Nat.beq t q with | true => some (a, o) | false => writerF q L (a + 1))) := rfl
    rw [e]
    split
    · rename_i hd
      exact ih.cons (by rw [hd]; simp)
    · rename_i t hd
      split
      · rename_i hb
        have : t = q := by simpa [nbeq] using hb
        exact ⟨Nat.le_refl _, by simp, by rw [hd, this]⟩
      · rename_i hb
        refine ih.cons ?_
        rw [hd]
        intro e
        injection e with e
        subst e
        rw [nbeq] at hb
        simp at hb
theorem writerI_none {L : List Oper} {q : Nat} (h : writerI L q = none) : ∀ (k : Nat) (o : Oper), L[k]? = some o → o.dst ≠ some q := by
  have := writerF_spec (q := q) L 0
  unfold writerI at h
  rw [h] at this
  exact this
theorem writerI_some {L : List Oper} {q k : Nat} {o : Oper} (h : writerI L q = some (k, o)) : L[k]? = some o ∧ o.dst = some q := by
  have := writerF_spec (q := q) L 0
  unfold writerI at h
  rw [h] at this
  exact ⟨by simpa using this.2.1, this.2.2⟩
theorem opd_tmp_eq {β : Type} {e : Env} {r : Nat} {k : V → Option β} : opd e (.tmp r) k = k ((e.get r).getD .u) := by
  show (match e.get r with | some v => k v | none => k .u) = _
  cases e.get r <;> rfl
theorem blk_get {e : Env} {r m : Nat} (h : blkOf ((e.get r).getD .u) = some m) : ∃ v0, e.get r = some v0 ∧ blkOf v0 = some m := by
  cases hr : e.get r with
  | none => rw [hr] at h; cases h
  | some v => rw [hr] at h; exact ⟨v, rfl, h⟩
theorem indexAddr_blk {P : Program} {call : CallF} {c : Cx} {e : Env} {st st' : St} {o : Oper} {t r m : Nat} {ix : Operand} {v : V} (ho : o.op = .indexAddr t (.tmp r) ix) (h : evOp P call c e st o = some (v, st')) (hm : blkOf v = some m) : ∃ v0, e.get r = some v0 ∧ blkOf v0 = some m := by
  unfold evOp at h
  rw [ho] at h
  simp only at h
  rw [opd_tmp_eq] at h
  refine blk_get ?_
  generalize (e.get r).getD .u = v0 at h
  obtain ⟨y, hy, _⟩ := opd_inv h
  obtain ⟨_, n, _, hi⟩ := asNat_inv hy
  unfold idxE at hi
  split at hi
  · split at hi
    · obtain ⟨_, _, h3⟩ := szOf_inv hi
      rw [fn_eq] at h3
      obtain ⟨rfl, _⟩ := some_inv h3
      exact hm
    · cases hi
  · split at hi
    · obtain ⟨_, _, h3⟩ := szOf_inv hi
      rw [fn_eq] at h3
      obtain ⟨rfl, _⟩ := some_inv h3
      exact hm
    · cases hi
  · split at hi
    · obtain ⟨_, _, h3⟩ := szOf_inv hi
      rw [fn_eq] at h3
      obtain ⟨rfl, _⟩ := some_inv h3
      exact hm
    · cases hi
  · cases hi
theorem move_blk {P : Program} {call : CallF} {c : Cx} {e : Env} {st st' : St} {o : Oper} {r m : Nat} {v : V} (ho : o.op = .move (.tmp r)) (h : evOp P call c e st o = some (v, st')) (hm : blkOf v = some m) : ∃ v0, e.get r = some v0 ∧ blkOf v0 = some m := by
  unfold evOp at h
  rw [ho] at h
  simp only at h
  rw [opd_tmp_eq] at h
  refine blk_get ?_
  have h' : some ((e.get r).getD .u, st) = some (v, st') := h
  injection h' with h'
  injection h' with h1 h2
  rw [h1]; exact hm
theorem nilCheck_blk {P : Program} {call : CallF} {c : Cx} {e : Env} {st st' : St} {o : Oper} {r m : Nat} {v : V} (ho : o.op = .nilCheck (.tmp r)) (h : evOp P call c e st o = some (v, st')) (hm : blkOf v = some m) : ∃ v0, e.get r = some v0 ∧ blkOf v0 = some m := by
  unfold evOp at h
  rw [ho] at h
  simp only at h
  rw [opd_tmp_eq] at h
  refine blk_get ?_
  generalize (e.get r).getD .u = v0 at h
  split at h
  · injection h with h'
    injection h' with h1 h2
    rw [h1]; exact hm
  · cases h
theorem alive_mem {h : T B} {p : Nat × Nat} : ∀ {l : List (Nat × Nat)}, p ∈ l → isRo h p.1 = false → p ∈ alive h l
  | [], hp, _ => hp
  | q :: l, hp, hr => by
    have e : alive h (q :: l) = (match isRo h q.1 with | true => alive h l | false => q :: alive h l) := rfl
    rw [e]
    rcases List.mem_cons.1 hp with rfl | hp
    · rw [hr]; exact List.mem_cons_self ..
    · have ih := alive_mem hp hr
      split
      · exact ih
      · exact List.mem_cons_of_mem _ ih
theorem looseFor_some {L : List Oper} {hp : T B} {e : Env} {i : Nat} {o : Oper} {r : List (Nat × Nat)} (h : looseFor L hp e i o = some r) : ∃ r0, looseW L e i = some r0 ∧ r = alive hp r0 := by
  unfold looseFor at h
  split at h
  · split at h
    · cases h
    · rename_i l hl
      injection h with h
      exact ⟨l, hl, h.symm⟩
  · split at h
    · cases h
    · rename_i l hl
      split at h
      · cases h
      · injection h with h
        exact ⟨l, hl, h.symm⟩
  · cases h
theorem ordered_spec {L : List Oper} {i j : Nat} (h : ordered L i j = true) : Nat.testBit (befOf L i) j = true ∨ Nat.testBit (befOf L j) i = true := by
  unfold ordered at h
  split at h
  · rename_i h1; exact .inl h1
  · exact .inr h
theorem Run.seen (T : Run P call c L E S Vv RS) {i : Nat} (hi : i ≤ L.length) : ∀ (f q j : Nat) (v v' : V) (m : Nat), j ≤ L.length → (∀ (k : Nat) (o : Oper), L[k]? = some o → o.dst = some q → k < j) → seenR L (fun t => (E i).get t) f q = some v → (E j).get q = some v' → blkOf v' = some m → blkOf v = some m := by
  obtain ⟨_, s2⟩ := T.slot i hi
  have base : ∀ (q j : Nat) (v v' : V) (m : Nat), j ≤ L.length → writerI L q = none → (E i).get q = some v → (E j).get q = some v' → blkOf v' = some m → blkOf v = some m := fun q j v v' m hj hw hv hv' hm => by
    have hno := writerI_none hw
    obtain ⟨_, s4⟩ := T.slot j hj
    rw [s2 q fun k o2 _ a => hno k o2 a, ← s4 q fun k o2 _ a => hno k o2 a, hv'] at hv
    injection hv with hv; subst hv
    exact hm
  intro f
  induction f with
  | zero =>
    intro q j v v' m hj hlt hv hv' hm
    have hv0 : (match writerI L q with | none => (E i).get q | some _ => none) = some v := hv
    split at hv0
    · rename_i hw; exact base q j v v' m hj hw hv0 hv' hm
    · cases hv0
  | succ f ih =>
    intro q j v v' m hj hlt hv hv' hm
    have hv0 : (match writerI L q with
      | none => (E i).get q
      | some (k, ok) => (match ok.op with
        | .fieldAddr _ (.tmp r) _ => (match firm L k r with | true => seenR L (fun t => (E i).get t) f r | false => none)
        | .indexAddr _ (.tmp r) _ => (match firm L k r with | true => seenR L (fun t => (E i).get t) f r | false => none)
        | .move (.tmp r) => (match firm L k r with | true => seenR L (fun t => (E i).get t) f r | false => none)
        | .nilCheck (.tmp r) => (match firm L k r with | true => seenR L (fun t => (E i).get t) f r | false => none)
        | _ => none)) = some v := hv
    split at hv0
    · rename_i hw; exact base q j v v' m hj hw hv0 hv' hm
    · rename_i k ok hw
      obtain ⟨x1, x2⟩ := writerI_some hw
      have hkj := hlt k ok x1 x2
      obtain ⟨s3, _⟩ := T.slot j hj
      rw [s3 k ok q hkj x1 x2] at hv'
      injection hv' with hv'; subst hv'
      obtain ⟨hstep, _⟩ := T.step k ok x1
      rcases hstep with ⟨_, hev⟩ | ⟨_, hu, _⟩
      · have go : ∀ (r : Nat), firm L k r = true → seenR L (fun t => (E i).get t) f r = some v → (∃ v0, (E k).get r = some v0 ∧ blkOf v0 = some m) → blkOf v = some m := fun r hf hs ⟨v0, h0, hb⟩ =>
          ih r k v v0 m (by omega) (fun k' o' y1 y2 => T.fact.lt k k' ok x1 (firm_spec hf k' o' y1 y2)) hs h0 hb
        split at hv0
        · rename_i t r fl hop
          split at hv0
          · rename_i hf
            obtain ⟨n, a, b, y1, y2⟩ := fieldAddr_blk hop hev
            exact go r hf hv0 ⟨_, y1, by rw [y2] at hm; exact hm⟩
          · cases hv0
        · rename_i t r ix hop
          split at hv0
          · rename_i hf
            exact go r hf hv0 (indexAddr_blk hop hev hm)
          · cases hv0
        · rename_i r hop
          split at hv0
          · rename_i hf
            exact go r hf hv0 (move_blk hop hev hm)
          · cases hv0
        · rename_i r hop
          split at hv0
          · rename_i hf
            exact go r hf hv0 (nilCheck_blk hop hev hm)
          · cases hv0
        · cases hv0
      · rw [hu] at hm; cases hm
/-- which operations write what stood ahead of them -/
def Wr (S : Nat → St) (k j : Nat) : Prop := j < k ∧ ∃ n, n < (S j).nx ∧ (S j).h.get n ≠ (S (j + 1)).h.get n
theorem Run.wr (T : Run P call c L E S Vv RS) {i : Nat} {o : Oper} (ho : L[i]? = some o) (hw : Wr S L.length i) : touches o.op = true ∧ plainLd o.op = none ∧ ∀ j o', L[j]? = some o' → j ≠ i → touches o'.op = true → (Nat.testBit (befOf L i) j = true ∨ Nat.testBit (befOf L j) i = true) ∨
    (∃ q, plainLd o'.op = some q ∧ ∀ v m, (E j).get q = some v → blkOf v = some m → m < (S i).nx → (S i).h.get m = (S (i + 1)).h.get m) := by
  obtain ⟨hi, n, hn, hne⟩ := hw
  have hst := T.stepOk ho (T.wf i (by omega))
  have hs := hst.chg n hn hne
  have hok := T.ok (by omega) hn hs.1
  refine ⟨hok.1, ?_⟩
  have hwb := hs.2.2.2
  have hch := hst.chg
  unfold cxOf at hwb hch
  rw [hok.1] at hwb hch
  simp only at hwb hch
  cases hq : plainLd o.op with
  | some q =>
    rw [hq] at hwb
    simp only at hwb
    split at hwb
    · split at hwb
      · simp only at hwb; omega
      · simp only at hwb; omega
    · simp only at hwb; omega
  | none =>
    refine ⟨rfl, ?_⟩
    rw [hq] at hwb hch
    simp only at hwb hch
    split at hwb
    · rename_i hm
      exact fun j o' h1 h2 h3 => .inl (mayW_spec hm j o' h1 h2 h3)
    · rename_i hm
      rw [hm] at hch
      simp only at hch
      split at hwb
      · rename_i r hr
        rw [hr] at hch
        simp only at hch
        obtain ⟨r0, hr0, hra⟩ := looseFor_some hr
        subst hra
        intro j o' h1 h2 h3
        refine (looseW_spec hr0 j o' h1 h2 h3).imp ordered_spec fun ⟨q, v, k2, k3, k4, k5⟩ => ⟨q, k2, fun v' m hv' hm' hm2 => ?_⟩
        have hjl : j < L.length := by
          rcases Nat.lt_or_ge j L.length with h | h
          · exact h
          · rw [List.getElem?_eq_none h] at h1; cases h1
        have hmv : blkOf v = some m := by
          obtain ⟨s1, s2⟩ := T.slot i (by omega)
          obtain ⟨s3, s4⟩ := T.slot j (by omega)
          unfold seenAt at k4
          split at k4
          · rename_i hlt
            have hlt' : j < i := by simpa [Nat.blt_eq] using hlt
            have : (E i).get q = (E j).get q := by
              by_cases hx : ∃ (k : Nat) (o2 : Oper), L[k]? = some o2 ∧ o2.dst = some q
              · obtain ⟨k, o2, x1, x2⟩ := hx
                have hb := firm_spec k3 k o2 x1 x2
                have hkj := T.fact.lt j k o' h1 hb
                rw [s3 k o2 q hkj x1 x2, s1 k o2 q (by omega) x1 x2]
              · rw [s4 q fun k o2 _ a b => hx ⟨k, o2, a, b⟩, s2 q fun k o2 _ a b => hx ⟨k, o2, a, b⟩]
            rw [this, hv'] at k4
            injection k4 with k4; subst k4
            exact hm'
          · exact T.seen (by omega) 8 q j v v' m (by omega) (fun k o2 x1 x2 => T.fact.lt j k o' h1 (firm_spec k3 k o2 x1 x2)) k4 hv' hm'
        by_cases he : (S i).h.get m = (S (i + 1)).h.get m
        · exact he
        · exfalso
          have hro : isRo (S i).h m = false := by
            cases hx : isRo (S i).h m with
            | false => rfl
            | true =>
              unfold isRo at hx
              split at hx
              · rename_i ty sz tr hb
                have hlv := hst.live m hm2 he _ hb
                exact absurd (by simpa [nbeq] using hx) hlv
              · cases hx
          have hz := (hch m hm2 he).1
          unfold Cx.ok at hz
          simp only at hz
          split at hz
          · cases hz
          · simp only [Bool.not_eq_true'] at hz
            rw [Bool.eq_false_iff] at hz
            exact hz ((inF_spec _ _).2 ⟨_, List.mem_append_left _ (alive_mem (k5 m hmv) hro), by simp, by simp⟩)
      · simp only at hwb; omega
theorem Run.same (T : Run P call c L E S Vv RS) {n a : Nat} (hn : n < (S a).nx) : ∀ {b : Nat}, a ≤ b → b ≤ L.length → (∀ j, a ≤ j → j < b → Wr S L.length j → (S j).h.get n = (S (j + 1)).h.get n) → (S a).h.get n = (S b).h.get n
  | 0, h, _, _ => by
    have : a = 0 := by omega
    subst this; rfl
  | b + 1, h, hl, hj => by
    by_cases hab : a = b + 1
    · subst hab; rfl
    · have ih := T.same hn (b := b) (by omega) (by omega) (fun j h1 h2 h3 => hj j h1 (by omega) h3)
      rw [ih]
      by_cases hw : (S b).h.get n = (S (b + 1)).h.get n
      · exact hw
      · exact hj b (by omega) (by omega) ⟨by omega, n, Nat.lt_of_lt_of_le hn (T.nx (by omega) (by omega)), hw⟩
/-- the whole run is a step. -/
theorem Run.stepC (T : Run P call c L E S Vv RS) {i : Nat} (hi : i < L.length) : StepOk c (S i) (S (i + 1)) := by
  have ho : L[i]? = some L[i] := List.getElem?_eq_getElem hi
  have hs := T.stepOk ho (T.wf i (by omega))
  refine ⟨hs.le, fun n hn hne => ?_, hs.wf, hs.live⟩
  obtain ⟨h1, h2, h3, h4⟩ := hs.chg n hn hne
  have hok := T.ok (by omega) hn h1
  refine ⟨hok.2.1, h2, h3, ?_⟩
  unfold cxOf at h4
  rw [hok.1] at h4
  simp only at h4
  split at h4
  · split at h4
    · split at h4
      · simp only at h4; omega
      · simp only at h4; omega
    · simp only at h4; omega
  · split at h4
    · exact h4
    · split at h4
      · exact h4
      · simp only at h4; omega
theorem Run.all (T : Run P call c L E S Vv RS) : ∀ i, i ≤ L.length → StepOk c (S 0) (S i)
  | 0, _ => .refl _ _
  | i + 1, h => (T.all i (by omega)).trans (T.stepC (by omega))
end
end Go.Proofs.Ytcjddojcfdeflaa.Ev

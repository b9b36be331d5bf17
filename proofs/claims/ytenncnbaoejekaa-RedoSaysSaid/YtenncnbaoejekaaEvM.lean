/-
  PLAIN: each operation of the evaluator is the model's: append, copy, cap, conversions.
-/
import Derived.Test.YtenncnbaoejekaaEvL
namespace Go.Proofs.Ytenncnbaoejekaa.Ev
open Go.RowKit

section
variable {P : Program} {c : Cx} {st st' : St} {v : V} {e : Env} {o : Oper}
theorem appE_ok {t t' el : TypeId} {i : TypeInfo} {ls lx : Nat} {s : V} {new : List V} (hwf : Wf st) (A : App P c st e o t t' el i ls lx s new) (h : appE c st el i.size ls lx s new = some (v, st')) :
    StepOk c st st' ∧ OpOk P c st st' v e o := by
  have hs := A.size
  have lenS : ∀ {base : Option Addr} {len cap : Nat} {w : World}, (Builtin.lenOf (.slice base len cap)).run P w = .ok len w := by simp [Builtin.lenOf]
  have eqL : ∀ (ρ : Rho) (a : Act) (w : World), (∀ x, x ∈ o.op.operands.toList → TmpRel ρ e a x) → ∀ base len cap, (∀ y, Rel ρ s y → y = .slice base len cap) → len = ls := fun ρ a w hx base len cap hy => by
    obtain ⟨y, y', r1, r2, _⟩ := A.run ρ a w hx
    have := hy y r1
    subst this
    have h1 := r2 w
    rw [lenS] at h1
    injection h1
  unfold appE at h
  rw [fn_eq] at h
  split at h
  · rename_i n o' len cap
    -- the length that is spoken of is the slice's
    by_cases hlen : len = ls
    · subst hlen
      split at h
      · rename_i hle
        have hle' : len + lx ≤ cap := by simpa [Nat.ble_eq] using hle
        rw [fn_eq] at h
        refine ok_room A (fun ρ y r sz hy hr hsz hat => ?_) h
        simp only [Rel] at hy
        obtain ⟨r', hr', rfl⟩ := hy
        rw [hr] at hr'; injection hr' with hr'; subst hr'
        exact ⟨o', cap, rfl, rfl, hle', by simp only [Rel]; exact ⟨r, hr, rfl⟩⟩
      · rename_i hle
        have hle' : ¬ len + lx ≤ cap := by
          intro hh
          have : Nat.ble (len + lx) cap = true := by simpa [Nat.ble_eq] using hh
          rw [this] at hle; cases hle
        refine ok_grow A (fun ρ y hy _ => ?_) h
        simp only [Rel] at hy
        obtain ⟨r, hr, rfl⟩ := hy
        exact ⟨_, _, rfl, by omega⟩
    · have hst : StepOk c st st' := by
        split at h
        · rw [fn_eq] at h
          obtain ⟨ty, sz, tr, g1, g2, g3, g4, g5⟩ := putB_inv h
          obtain ⟨_, rfl⟩ := some_inv g5
          exact stepOk_set g1 g2 g4.1
        · unfold growE at h
          obtain ⟨old, h1, _, _⟩ := firsts_inv (P := P) h
          rw [newC_eq] at h1
          obtain ⟨_, rfl⟩ := some_inv h1
          exact stepOk_new
      refine ⟨hst, fun B0 ρ τ w a hx hag hre hf K Q hK => ?_⟩
      obtain ⟨y, y', r1, r2, _⟩ := A.run ρ a w hx
      simp only [Rel] at r1
      obtain ⟨r, hr, rfl⟩ := r1
      have h1 := r2 w
      rw [lenS] at h1
      injection h1 with h1
      exact absurd h1 hlen
  · rename_i n o' len z'
    split at h
    · cases h
    · rename_i hz
      have hz' : i.size = z' := by simpa [nbeq] using hz
      subst hz'
      obtain ⟨b, g1, g2, g3⟩ := getB_inv h
      split at g3
      · rename_i ty sz tr
        split at g3
        · cases g3
        rename_i hro
        have hro' : ty ≠ roT := fun e => by subst e; simp at hro
        by_cases hlen : len = ls
        · subst hlen
          split at g3
          · rename_i hle
            have hle' : o' + (len + lx) * i.size ≤ sz := by simpa [Nat.ble_eq] using hle
            rw [fn_eq] at g3
            have hcap : ∀ r : R, sz ≤ r.size → len + lx ≤ (r.size - o') / i.size := fun r hr => by
              rw [Nat.le_div_iff_mul_le (by omega)]; omega
            -- the block is the one that was looked at
            obtain ⟨ty2, sz2, tr2, k1, k2, k3, k4, k5⟩ := putB_inv g3
            rw [g2] at k2
            injection k2 with k2
            injection k2 with e1 e2 e3
            subst e1 e2 e3
            obtain ⟨rfl, rfl⟩ := some_inv k5
            refine opOk_set k1 g2 k3 k4 fun B0 ρ τ w a r hx hag hre hr hsz => ?_
            obtain ⟨y, y', r1, r2, r3, r4⟩ := A.run ρ a w hx
            obtain ⟨news, n1, n2, n3⟩ := r4 B0 τ hag hre
            simp only [Rel] at r1
            obtain ⟨r', hr', _, _, rfl⟩ := r1
            rw [hr] at hr'; injection hr' with hr'; subst hr'
            have hlen := n1.length
            have ht := hre.there (hag n _ g1 g2) hr hro' (i := o' + len * i.size) (m := new.length) (by omega)
            have := run_append_room_src (P := P) w t t' o.type el i A.under A.info r.block (r.base + o') len ((r.size - o') / i.size) y' lx news n3 (hcap r hsz) (fun j hj => by
              have := (ht j (by omega)).1
              rw [← this]; congr 3; omega) (fun j hj => by
              have := (ht j (by omega)).2
              rw [← this]; congr 3; omega)
            refine ⟨_, news, n1, n2, by simp only [Rel]; exact ⟨r, hr, by omega, hcap r hsz, rfl⟩, .inl ?_⟩
            rw [r3, this]
            simp only [Result.andThen_ok]
            congr 1
            rw [Nat.add_assoc]
          · split at g3
            · cases g3
            · rename_i hend
              split at g3
              · exact ok_merge0 hwf A g1 g2 hro' (by simpa [nbeq] using hend) g3
              · exact ok_merge hwf A g1 g2 hro' (by simpa [nbeq] using hend) g3
        · have hst : StepOk c st st' := by
            split at g3
            · rw [fn_eq] at g3
              obtain ⟨ty, sz, tr, q1, q2, q3, q4, q5⟩ := putB_inv g3
              obtain ⟨_, rfl⟩ := some_inv q5
              exact stepOk_set q1 q2 q4.1
            · split at g3
              · cases g3
              · split at g3
                · obtain ⟨q4, h4⟩ := setB_inv g3
                  rw [setsK_eq, fn_eq, newB_eq] at h4
                  obtain ⟨_, rfl⟩ := some_inv h4
                  exact (stepOk_set g1 g2 q4).trans (stepOk_new (st := ⟨st.nx, st.h.set n .gone⟩))
                · obtain ⟨old, h1, _, _⟩ := firsts_inv (P := P) g3
                  obtain ⟨q4, h4⟩ := setB_inv h1
                  rw [newC_eq] at h4
                  obtain ⟨_, rfl⟩ := some_inv h4
                  exact (stepOk_set g1 g2 q4).trans (stepOk_new (st := ⟨st.nx, st.h.set n .gone⟩))
          refine ⟨hst, fun B0 ρ τ w a hx hag hre hf K Q hK => ?_⟩
          obtain ⟨y, y', r1, r2, _⟩ := A.run ρ a w hx
          simp only [Rel] at r1
          obtain ⟨r, hr, _, _, rfl⟩ := r1
          have h1 := r2 w
          rw [lenS] at h1
          injection h1 with h1
          exact absurd h1 hlen
      · cases g3
  · have key : ∀ (ρ : Rho) (y : Value), Rel ρ (.c (.slice none 0 0)) y → (∀ w, (Builtin.lenOf y).run P w = .ok ls w) → y = .slice none 0 0 ∧ ls = 0 := fun ρ y hy hl => by
      simp only [Rel] at hy
      obtain ⟨rfl, _⟩ := hy
      have h1 := hl default
      rw [lenS] at h1
      injection h1 with h1
      exact ⟨rfl, h1.symm⟩
    split at h
    · obtain ⟨rfl, rfl⟩ := some_inv h
      refine ok_nothing A fun ρ y hy hl => ?_
      obtain ⟨rfl, rfl⟩ := key ρ y hy hl
      exact ⟨_, _, rfl, Nat.le_refl _⟩
    · rename_i hx
      refine ok_grow A (fun ρ y hy hl => ?_) h
      obtain ⟨rfl, rfl⟩ := key ρ y hy hl
      refine ⟨_, _, rfl, ?_⟩
      have : lx ≠ 0 := fun e => hx e
      omega
  · split at h
    · obtain ⟨rfl, rfl⟩ := some_inv h
      refine ok_nothing A fun ρ y hy hl => ?_
      simp only [Rel] at hy
      obtain ⟨a, cc, rfl⟩ := hy
      have h1 := hl default
      rw [lenS] at h1
      injection h1 with h1
      subst h1
      exact ⟨_, _, rfl, Nat.zero_le _⟩
    · cases h
  · cases h
/-- a row of zeros behind nothing -/
theorem run_append_make (w : World) (t tx ty el : TypeId) (i : TypeInfo) (z : Value) (k : IntKind) (hu : P.underlying t = some (.slice el)) (hk : P.underlying tx = some (.int k)) (hi : P.info? el = some i) (hz : i.zero = some z) (hs : 1 ≤ i.size) (n : Nat) (h1 : 1 ≤ n) (hn : n ≤ 1073741824) (hby : i.bytes ≤ 1024) :
    (Builtin.append_ #[t, tx] ty #[.slice none 0 0, .int .i64 (Int.ofNat n)]).run P w = .ok (.slice (some ⟨w.heap.size, 0, none⟩) n (grownCap w n 0 el)) (w.drew.alloc (.cells (Builtin.zeroCells z.cells n ++ Builtin.zeroCells z.cells (grownCap w n 0 el - n)) el)) := by
  have hw : IntKind.i64.wrap (Int.ofNat n) = (n : Int) := by
    have h1 : (n : Int) % 18446744073709551616 = n := by omega
    have h2 : ¬ ((9223372036854775808 : Int) ≤ n) := by omega
    simp [IntKind.wrap, IntKind.bits, IntKind.signed, h1, h2]
  have hw2 : IntKind.i64.wrap (n : Int) = (n : Int) := hw
  have e1 : ¬ ((n : Int) < 0) := by omega
  have hb : n * i.bytes ≤ 1073741824 * 1024 := Nat.mul_le_mul hn hby
  have e2 : ¬ ((281474976710656 : Int) < (n : Int) * (i.bytes : Int)) := by
    have : ((n * i.bytes : Nat) : Int) ≤ ((1073741824 * 1024 : Nat) : Int) := by exact_mod_cast hb
    simp only [Int.natCast_mul] at this
    omega
  have e4 : ¬ (9223372036854775807 < (n : Int)) := by omega
  have e5 : Builtin.nextslicecap n 0 = n := by unfold Builtin.nextslicecap; rw [if_pos (by omega)]
  have e6 : ¬ (281474976710656 < n * i.bytes) := by omega
  have e7 : ¬ (n * i.size = 0) := by
    intro h
    rcases Nat.mul_eq_zero.1 h with h | h <;> omega
  have e8 : n ≠ 0 := by omega
  simp [Builtin.append_, run_underlying hu, run_underlying hk, sizeOf, typeInfo, zeroValue, hi, hz, Go.asInt, asIntOf, hw2, e1, e2, e4, e5, e6, e7, e8, Question.forced, Builtin.firstCells, newRow, grownCap]
/-- an append, from what the call bears -/
theorem ok_append {cl : Call} {t t' : TypeId} {s x : V} (hwf : Wf st) (ho : o.op = .call cl) (hb : cl.callee = .builtin .append) (ht : cl.argTypes.toList = [t, t'])
    (h : (elemOf P t fun el z => lenA s fun ls => (match P.underlying t' with
      | some (.slice _) => (match x with
        | .s _ => none
        | _ => lenA x fun lx => firsts c st z lx x fun new => (match small P el (ls + lx) with | true => appE c st el z ls lx s new | false => none))
      | some .string => (match x with
        | .s _ => lenA x fun lx => firsts c st z lx x fun new => (match small P el (ls + lx) with | true => appE c st el z ls lx s new | false => none)
        | _ => none)
      | some (.int _) => (match s, x with
        | .c (.slice none 0 0), .c (.int .i64 (.ofNat lx)) => (match Nat.ble 1 lx, small P el lx with | true, true => zero P el fun zs => newC st el (rep zs lx) fun n st => (some (.sg n 0 lx z, st) : Res) | _, _ => none)
        | _, _ => none)
      | _ => none)) = some (v, st'))
    (hx : ∀ (ρ : Rho) (a : Act), (∀ y, y ∈ cl.args.toList → TmpRel ρ e a y) → RelL ρ [s, x] (cl.args.toList.map a.eval)) : StepOk c st st' ∧ OpOk P c st st' v e o := by
  obtain ⟨el, i, hu, hi, h1⟩ := elemOf_inv h
  obtain ⟨ls, h2, h3⟩ := lenA_inv (P := P) h1
  have fin : ((∃ e', P.underlying t' = some (.slice e')) ∨ P.underlying t' = some .string) → (lenA x fun lx => firsts c st i.size lx x fun new => (match small P el (ls + lx) with | true => appE c st el i.size ls lx s new | false => none)) = some (v, st') → StepOk c st st' ∧ OpOk P c st st' v e o := fun hk h4 => by
    obtain ⟨lx, h5, h6⟩ := lenA_inv (P := P) h4
    obtain ⟨new, h7, h8, h9⟩ := firsts_inv (P := P) h5
    split at h7
    · rename_i hsm
      obtain ⟨i', z, s1, s2, s3, s4, s5, s6⟩ := small_inv hsm
      rw [hi] at s1; injection s1 with s1; subst s1
      refine appE_ok (t' := t') hwf ⟨fun ρ a w hxx => ?_, hu, hi, ⟨z, s2, s6⟩, s3, s4, s5, h8⟩ h7
      rw [ho] at hxx
      obtain ⟨y, y', hy, r1, r2⟩ := relL2 (hx ρ a fun y hy => hxx y (call_ops hb y hy))
      have e1 : cl.args.map a.eval = #[y, y'] := arr2 (by rw [Array.toList_map]; exact hy)
      refine ⟨y, y', r1, h3 ρ y r1, ?_, fun B0 τ hag hre => ?_⟩
      · rw [run_builtin ho hb, e1, arr2 ht]
        simp [builtin]
      · obtain ⟨xs, k1, k2, k3⟩ := h9 B0 ρ τ w y' hag hre r2
        exact ⟨xs, k1, k2, src_of hk (h6 ρ y' r2) h8 k1 k2 k3⟩
    · cases h7
  split at h2
  · rename_i e' hk
    split at h2
    · cases h2
    · exact fin (.inl ⟨e', hk⟩) h2
  · rename_i hk
    split at h2
    · exact fin (.inr hk) h2
    · cases h2
  · rename_i k hk
    split at h2
    · rename_i lx
      split at h2
      · rename_i h1x hsm
        have h1x' : 1 ≤ lx := by simpa [Nat.ble_eq] using h1x
        obtain ⟨i', z, s1, s2, s3, s4, s5, s6⟩ := small_inv hsm
        rw [hi] at s1; injection s1 with s1; subst s1
        obtain ⟨i2, z2, cs, z1, z2', z3, z4, z5⟩ := zero_inv h2
        rw [hi] at z1; injection z1 with z1; subst z1
        rw [s2] at z2'; injection z2' with z2'; subst z2'
        rw [newC_eq] at z3
        obtain ⟨rfl, rfl⟩ := some_inv z3
        refine opOk_new fun B0 ρ τ w a hxx hag hre => ?_
        rw [ho] at hxx
        obtain ⟨y, y', hy, r1, r2⟩ := relL2 (hx ρ a fun y hy => hxx y (call_ops hb y hy))
        simp only [Rel] at r1 r2
        obtain ⟨rfl, _⟩ := r1
        obtain ⟨rfl, _⟩ := r2
        have e1 : cl.args.map a.eval = #[.slice none 0 0, .int .i64 (Int.ofNat lx)] := arr2 (by rw [Array.toList_map]; exact hy)
        have hz0 := z5 ρ
        have hcl : cs.length = i.size := by rw [← s6]; exact (by simpa using hz0.length.symm)
        have hlen : (Builtin.zeroCells z.cells lx).size = lx * i.size := by rw [zeroCells_size, s6]
        refine ⟨.slice (some ⟨w.heap.size, 0, none⟩) lx (grownCap w lx 0 el), w.drew.alloc (.cells (Builtin.zeroCells z.cells lx ++ Builtin.zeroCells z.cells (grownCap w lx 0 el - lx)) el), (Builtin.zeroCells z.cells lx).toList, Builtin.zeroCells z.cells lx ++ Builtin.zeroCells z.cells (grownCap w lx 0 el - lx), (0, 0), ?_, rep_all z4 lx, ?_, rfl, rfl, rfl, rfl, ?_, ?_, .inl rfl, fun ρ' hρ => ?_⟩
        · exact rep_rel_arr hz0 lx _ rfl
        · rw [run_builtin ho hb, e1, arr2 ht]
          simp only [builtin, Sem.run_bind]
          rw [run_append_make (P := P) w t t' o.type el i z k hu hk hi s2 s5 lx h1x' s3 s4]
          rfl
        · intro j u hj
          have hlt : j < (Builtin.zeroCells z.cells lx).toList.length := by
            rcases Nat.lt_or_ge j (Builtin.zeroCells z.cells lx).toList.length with h | h
            · exact h
            · rw [List.getElem?_eq_none h] at hj; cases hj
          rw [Array.getElem?_append_left (by simpa using hlt)]
          simpa using hj
        · simp only [Array.length_toList, Array.size_append]; omega
        · have hge := grownCap_ge w lx 0 el
          simp only [Rel]
          have hsz : (Builtin.zeroCells z.cells lx ++ Builtin.zeroCells z.cells (grownCap w lx 0 el - lx)).size = grownCap w lx 0 el * i.size := by
            rw [Array.size_append, zeroCells_size, zeroCells_size, s6, ← Nat.add_mul]; congr 1; omega
          have hdiv : ((Builtin.zeroCells z.cells lx ++ Builtin.zeroCells z.cells (grownCap w lx 0 el - lx)).size - 0) / i.size = grownCap w lx 0 el := by rw [Nat.sub_zero, hsz]; exact Nat.mul_div_cancel _ (by omega)
          exact ⟨_, hρ, by omega, by rw [hdiv]; exact hge, by rw [hdiv]⟩
      · cases h2
    · cases h2
  · cases h2
theorem ok_cap {cl : Call} {t : TypeId} {n i l q : Nat} (ho : o.op = .call cl) (hb : cl.callee = .builtin .cap) (ht : cl.argTypes.toList = [t])
    (hx : ∀ (ρ : Rho) (a : Act), (∀ y, y ∈ cl.args.toList → TmpRel ρ e a y) → RelL ρ [.sl n i l q] (cl.args.toList.map a.eval))
    (h : (elemOf P t fun _ _ => (some (.int .i64 (.ofNat q), st) : Res)) = some (v, st')) : StepOk c st st' ∧ OpOk P c st st' v e o := by
  obtain ⟨el, ti, hu, hi, h1⟩ := elemOf_inv h
  obtain ⟨rfl, rfl⟩ := some_inv h1
  refine opOk_val fun B0 ρ τ w a hxx _ _ => ⟨_, rel_int _ _, ?_⟩
  rw [ho] at hxx
  obtain ⟨y, hy, hr⟩ := relL1 (hx ρ a fun y hy => hxx y (call_ops hb y hy))
  have e1 : cl.args.map a.eval = #[y] := arr1 (by rw [Array.toList_map]; exact hy)
  simp only [Rel] at hr
  obtain ⟨r, _, rfl⟩ := hr
  rw [run_builtin ho hb, e1, arr1 ht]
  simp [builtin, Builtin.cap_, run_underlying' hu, goInt]
theorem ok_cap0 {cl : Call} {t : TypeId} (ho : o.op = .call cl) (hb : cl.callee = .builtin .cap) (ht : cl.argTypes.toList = [t])
    (hx : ∀ (ρ : Rho) (a : Act), (∀ y, y ∈ cl.args.toList → TmpRel ρ e a y) → RelL ρ [.c (.slice none 0 0)] (cl.args.toList.map a.eval))
    (h : (elemOf P t fun _ _ => (some (.int .i64 0, st) : Res)) = some (v, st')) : StepOk c st st' ∧ OpOk P c st st' v e o := by
  obtain ⟨el, ti, hu, hi, h1⟩ := elemOf_inv h
  obtain ⟨rfl, rfl⟩ := some_inv h1
  refine opOk_val fun B0 ρ τ w a hxx _ _ => ⟨_, rel_int _ _, ?_⟩
  rw [ho] at hxx
  obtain ⟨y, hy, hr⟩ := relL1 (hx ρ a fun y hy => hxx y (call_ops hb y hy))
  have e1 : cl.args.map a.eval = #[y] := arr1 (by rw [Array.toList_map]; exact hy)
  simp only [Rel] at hr
  obtain ⟨rfl, _⟩ := hr
  rw [run_builtin ho hb, e1, arr1 ht]
  simp [builtin, Builtin.cap_, run_underlying' hu, goInt]
theorem ok_copy {cl : Call} {t t' : TypeId} {d x : V} (ho : o.op = .call cl) (hb : cl.callee = .builtin .copy) (ht : cl.argTypes.toList = [t, t'])
    (hx : ∀ (ρ : Rho) (a : Act), (∀ y, y ∈ cl.args.toList → TmpRel ρ e a y) → RelL ρ [d, x] (cl.args.toList.map a.eval))
    (h : (elemOf P t fun _ z => lenA d fun ld => lenA x fun lx => fn (Nat.min lx ld) fun n => firsts c st z n x fun cs => (match d with
      | .sl m o _ _ => putB c st m o cs fun st => (some (.int .i64 (.ofNat n), st) : Res)
      | .sg m o _ _ => putB c st m o cs fun st => some (.int .i64 (.ofNat n), st)
      | .c (.slice none 0 0) => some (.int .i64 (.ofNat n), st)
      | _ => none)) = some (v, st')) : StepOk c st st' ∧ OpOk P c st st' v e o := by
  obtain ⟨el, ti, hu, hi, h1⟩ := elemOf_inv h
  obtain ⟨ld, h2, h3⟩ := lenA_inv (P := P) h1
  obtain ⟨lx, h4, h5⟩ := lenA_inv (P := P) h2
  rw [fn_eq] at h4
  obtain ⟨cs, h6, h7, h8⟩ := firsts_inv (P := P) h4
  have get : ∀ (ρ : Rho) (a : Act) (w : World) (B0 : Nat) (τ : Mem), (∀ x, x ∈ o.op.operands.toList → TmpRel ρ e a x) → Agree c st τ → Real ρ B0 τ w → ∃ (y y' : Value) (xs : List Value), Rel ρ d y ∧ RelL ρ cs xs ∧ cs.all V.one = true ∧
      (∀ w, (Builtin.lenOf y).run P w = .ok ld w) ∧ (∀ w, (Builtin.lenOf y').run P w = .ok lx w) ∧ (Builtin.firstCells ti.size (Nat.min lx ld) y').run P w = .ok xs.toArray w ∧
      (execOp a.eval o).run P w = ((Builtin.copy_ #[t, t'] o.type #[y, y']).run P w).andThen (fun u w' => .ok (.value u) w') := fun ρ a w B0 τ hxx hag hre => by
    rw [ho] at hxx
    obtain ⟨y, y', hy, r1, r2⟩ := relL2 (hx ρ a fun y hy => hxx y (call_ops hb y hy))
    have e1 : cl.args.map a.eval = #[y, y'] := arr2 (by rw [Array.toList_map]; exact hy)
    obtain ⟨xs, k1, k2, k3⟩ := h8 B0 ρ τ w y' hag hre r2
    refine ⟨y, y', xs, r1, k1, k2, h3 ρ y r1, h5 ρ y' r2, k3 w rfl, ?_⟩
    rw [run_builtin ho hb, e1, arr2 ht]
    simp [builtin]
  have store : ∀ (m i : Nat), (∀ (ρ : Rho) (y : Value) (r : R), Rel ρ d y → ρ m = some r → ∃ cap, y = .slice (some ⟨r.block, r.base + i, none⟩) ld cap) → (putB c st m i cs fun st => (some (.int .i64 (.ofNat (Nat.min lx ld)), st) : Res)) = some (v, st') → StepOk c st st' ∧ OpOk P c st st' v e o := fun m i hy hp => by
    obtain ⟨ty, sz, tr, g1, g2, g3, g4, g5⟩ := putB_inv hp
    obtain ⟨rfl, rfl⟩ := some_inv g5
    refine opOk_set g1 g2 g3 g4 fun B0 ρ τ w a r hxx hag hre hr hsz => ?_
    obtain ⟨y, y', xs, r1, k1, k2, l1, l2, l3, hrun⟩ := get ρ a w B0 τ hxx hag hre
    obtain ⟨cap, rfl⟩ := hy ρ y r r1 hr
    have hlen := k1.length
    have hth := hre.there (hag m _ g1 g2) hr g4.2 (i := i) (m := cs.length) (by omega)
    have hst := run_storeCells_cells (P := P) r.block (r.base + i) xs 0 w (fun j hj => by simpa using (hth j (by omega)).1) (fun j hj => by simpa using (hth j (by omega)).2) (k1.oneCell k2)
    simp only [Nat.add_zero] at hst
    refine ⟨.int .i64 (Int.ofNat (Nat.min lx ld)), xs, k1, k2, rel_int _ _, .inl ?_⟩
    rw [hrun]
    simp only [Builtin.copy_, List.getElem?_toArray, List.getElem?_cons_zero, List.getElem?_cons_succ, Sem.run_bind, run_underlying' hu, Result.andThen_ok, l2 w, run_sizeOf' hi, l3, hst, Sem.run_pure, goInt]
    rfl
  have lenS : ∀ {base : Option Addr} {len cap l : Nat}, (∀ w, (Builtin.lenOf (.slice base len cap)).run P w = .ok l w) → len = l := fun h => by
    have := h default
    simpa [Builtin.lenOf] using this
  have lenD : ∀ (ρ : Rho) (y : Value), Rel ρ d y → ∀ w, (Builtin.lenOf y).run P w = .ok ld w := h3
  split at h6
  · rename_i m i l q
    refine store m i (fun ρ y r hy hr => ?_) h6
    have hl := lenD ρ y hy
    simp only [Rel] at hy
    obtain ⟨r', hr', rfl⟩ := hy
    rw [hr] at hr'; injection hr' with hr'; subst hr'
    have := lenS hl
    subst this
    exact ⟨_, rfl⟩
  · rename_i m i l q
    refine store m i (fun ρ y r hy hr => ?_) h6
    have hl := lenD ρ y hy
    simp only [Rel] at hy
    obtain ⟨r', hr', _, _, rfl⟩ := hy
    rw [hr] at hr'; injection hr' with hr'; subst hr'
    have := lenS hl
    subst this
    exact ⟨_, rfl⟩
  · obtain ⟨rfl, rfl⟩ := some_inv h6
    refine opOk_val fun B0 ρ τ w a hxx hag hre => ⟨.int .i64 (Int.ofNat (Nat.min lx ld)), rel_int _ _, ?_⟩
    obtain ⟨y, y', xs, r1, k1, k2, l1, l2, l3, hrun⟩ := get ρ a w B0 τ hxx hag hre
    simp only [Rel] at r1
    obtain ⟨rfl, _⟩ := r1
    have := lenS l1
    subst this
    rw [hrun]
    simp only [Builtin.copy_, List.getElem?_toArray, List.getElem?_cons_zero, List.getElem?_cons_succ, Sem.run_bind, run_underlying' hu, Result.andThen_ok, l2 w, run_sizeOf' hi, l3, Sem.run_pure, goInt]
    rfl
  · cases h6
end
end Go.Proofs.Ytenncnbaoejekaa.Ev

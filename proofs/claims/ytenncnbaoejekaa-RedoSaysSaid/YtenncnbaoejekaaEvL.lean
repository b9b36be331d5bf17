/-
  PLAIN: each operation of the evaluator is the model's: append.
-/
import Derived.Test.YtenncnbaoejekaaEvK
import Derived.Laws.AppendOwn
import Derived.Deep.Upon
namespace Go.Proofs.Ytenncnbaoejekaa.Ev
open Go.RowKit

section
variable {P : Program} {c : Cx} {st st' : St} {v : V} {e : Env} {o : Oper}
/-- what an append is handed -/
structure App (P : Program) (c : Cx) (st : St) (e : Env) (o : Oper) (t t' : TypeId) (el : TypeId) (i : TypeInfo) (ls lx : Nat) (s : V) (new : List V) : Prop where
  run : ∀ (ρ : Rho) (a : Act) (w : World), (∀ x, x ∈ o.op.operands.toList → TmpRel ρ e a x) → ∃ y y', Rel ρ s y ∧ (∀ w, (Builtin.lenOf y).run P w = .ok ls w) ∧
    (execOp a.eval o).run P w = ((Builtin.append_ #[t, t'] o.type #[y, y']).run P w).andThen (fun u w' => .ok (.value u) w') ∧
    ∀ (B0 : Nat) (τ : Mem), Agree c st τ → Real ρ B0 τ w → ∃ xs, RelL ρ new xs ∧ new.all V.one = true ∧ Src P i.size t' y' lx xs w
  under : P.underlying t = some (.slice el)
  info : P.info? el = some i
  zero : ∃ z, i.zero = some z ∧ z.cells.size = i.size
  len : ls + lx ≤ 1073741824
  bytes : i.bytes ≤ 1024
  size : 1 ≤ i.size
  newLen : new.length = lx * i.size
theorem zeroCells_size (z : Array Value) (n : Nat) : (Builtin.zeroCells z n).size = n * z.size := by simp [Builtin.zeroCells]
theorem grow_run {t t' el : TypeId} {i : TypeInfo} {z : Value} {ls lx : Nat} (w : World) (ty : TypeId) (hu : P.underlying t = some (.slice el)) (hi : P.info? el = some i) (hz : i.zero = some z) (hzs : z.cells.size = i.size) (hlen : ls + lx ≤ 1073741824) (hby : i.bytes ≤ 1024)
    (base : Option Addr) (cap : Nat) (olds news : List Value) (hol : olds.length = ls * i.size) (hold : ∀ w' : World, w'.heap = w.heap → (Builtin.firstCells i.size ls (.slice base ls cap)).run P w' = .ok olds.toArray w') (y' : Value) (hs : Src P i.size t' y' lx news w) (hg : cap < ls + lx) :
    ∃ (gc : Nat) (arr : Array Value), ls + lx ≤ gc ∧ arr.size = gc * i.size ∧ (∀ (j : Nat) (u : Value), (olds ++ news)[j]? = some u → arr[j]? = some u) ∧
      (Builtin.append_ #[t, t'] ty #[.slice base ls cap, y']).run P w = .ok (.slice (some ⟨w.heap.size, 0, none⟩) (ls + lx) gc) (w.drew.alloc (.cells arr el)) := by
  have hfit : Builtin.nextslicecap (ls + lx) cap * i.bytes ≤ 281474976710656 := by
    have h1 := nextslicecap_le hg
    have h2 : Builtin.nextslicecap (ls + lx) cap * i.bytes ≤ (2 * 1073741824) * 1024 := Nat.mul_le_mul (by omega) hby
    omega
  have hge := grownCap_ge w (ls + lx) cap el
  refine ⟨grownCap w (ls + lx) cap el, (olds ++ news).toArray ++ Builtin.zeroCells z.cells (grownCap w (ls + lx) cap el - (ls + lx)), hge, ?_, fun j u hj => ?_, ?_⟩
  · rw [Array.size_append, zeroCells_size, hzs]
    simp only [List.size_toArray, List.length_append, hol, hs.newsLen]
    rw [← Nat.add_mul, ← Nat.add_mul]
    congr 1; omega
  · have hlt : j < (olds ++ news).length := by
      rcases Nat.lt_or_ge j (olds ++ news).length with h | h
      · exact h
      · rw [List.getElem?_eq_none h] at hj; cases hj
    rw [Array.getElem?_append_left (by simpa using hlt)]
    simpa using hj
  · exact run_append_grow_src w t t' ty el i z hu hi hz base ls cap olds (hold w.drew rfl) y' lx news hs hg (by omega) hfit
theorem ok_grow {t t' el : TypeId} {i : TypeInfo} {ls lx : Nat} {s : V} {new : List V} (A : App P c st e o t t' el i ls lx s new)
    (hcap : ∀ (ρ : Rho) (y : Value), Rel ρ s y → (∀ w, (Builtin.lenOf y).run P w = .ok ls w) → ∃ base cap, y = .slice base ls cap ∧ cap < ls + lx) (h : growE c st el i.size ls (ls + lx) s new = some (v, st')) :
    StepOk c st st' ∧ OpOk P c st st' v e o := by
  unfold growE at h
  obtain ⟨old, h1, h2, h3⟩ := firsts_inv (P := P) h
  rw [newC_eq] at h1
  obtain ⟨rfl, rfl⟩ := some_inv h1
  refine opOk_new fun B0 ρ τ w a hx hag hre => ?_
  obtain ⟨y, y', r1, r2, r3, r4⟩ := A.run ρ a w hx
  obtain ⟨news, n1, n2, n3⟩ := r4 B0 τ hag hre
  obtain ⟨base, cap, rfl, hg⟩ := hcap ρ y r1 r2
  obtain ⟨olds, o1, o2, o3⟩ := h3 B0 ρ τ w _ hag hre r1
  obtain ⟨z, hz, hzs⟩ := A.zero
  obtain ⟨gc, arr, g1, g2, g3, g4⟩ := grow_run w o.type A.under A.info hz hzs A.len A.bytes base cap olds news (by rw [o1.length, h2]) o3 y' n3 hg
  have hs := A.size
  refine ⟨.slice (some ⟨w.heap.size, 0, none⟩) (ls + lx) gc, w.drew.alloc (.cells arr el), olds ++ news, arr, (0, 0), RelL.append o1 n1, by rw [List.all_append, o2, n2]; rfl, by rw [r3, g4]; rfl, rfl, rfl, rfl, rfl, g3, ?_, .inl rfl, fun ρ' hρ => ?_⟩
  · have h5 := o1.length
    have h6 := n1.length
    have h7 := A.newLen
    have : (ls + lx) * i.size ≤ gc * i.size := Nat.mul_le_mul_right _ g1
    rw [List.length_append, h5, h6, h2, h7, ← Nat.add_mul, g2]; exact this
  · simp only [Rel]
    have hdiv : (arr.size - 0) / i.size = gc := by rw [Nat.sub_zero, g2]; exact Nat.mul_div_cancel _ (by omega)
    exact ⟨_, hρ, by omega, by rw [hdiv]; exact g1, by rw [hdiv]⟩
theorem ok_room {t t' el : TypeId} {i : TypeInfo} {ls lx : Nat} {s v1 : V} {new : List V} {n at_ : Nat} (A : App P c st e o t t' el i ls lx s new)
    (hy : ∀ (ρ : Rho) (y : Value) (r : R) (sz : Nat), Rel ρ s y → ρ n = some r → sz ≤ r.size → at_ + new.length ≤ sz → ∃ off cap, at_ = off + ls * i.size ∧ y = .slice (some ⟨r.block, r.base + off, none⟩) ls cap ∧ ls + lx ≤ cap ∧ Rel ρ v1 (.slice (some ⟨r.block, r.base + off, none⟩) (ls + lx) cap))
    (h : (putB c st n at_ new fun st => some (v1, st)) = some (v, st')) : StepOk c st st' ∧ OpOk P c st st' v e o := by
  obtain ⟨ty, sz, tr, g1, g2, g3, g4, g5⟩ := putB_inv h
  obtain ⟨rfl, rfl⟩ := some_inv g5
  refine opOk_set g1 g2 g3 g4 fun B0 ρ τ w a r hx hag hre hr hsz => ?_
  obtain ⟨y, y', r1, r2, r3, r4⟩ := A.run ρ a w hx
  obtain ⟨news, n1, n2, n3⟩ := r4 B0 τ hag hre
  obtain ⟨off, cap, e1, rfl, e2, e3⟩ := hy ρ y r sz r1 hr hsz g3
  have hlen := n1.length
  have ht := hre.there (hag n _ g1 g2) hr g4.2 (i := at_) (m := new.length) (by omega)
  have := run_append_room_src (P := P) w t t' o.type el i A.under A.info r.block (r.base + off) ls cap y' lx news n3 e2 (fun j hj => by
    have := (ht j (by omega)).1
    rw [e1] at this
    rw [← this]; congr 3; omega) (fun j hj => by
    have := (ht j (by omega)).2
    rw [e1] at this
    rw [← this]; congr 3; omega)
  refine ⟨_, news, n1, n2, e3, .inl ?_⟩
  rw [r3, this]
  simp only [Result.andThen_ok]
  congr 1
  rw [e1, Nat.add_assoc]
theorem ok_nothing {t t' el : TypeId} {i : TypeInfo} {ls : Nat} {s : V} {new : List V} (A : App P c st e o t t' el i ls 0 s new)
    (hy : ∀ (ρ : Rho) (y : Value), Rel ρ s y → (∀ w, (Builtin.lenOf y).run P w = .ok ls w) → ∃ base cap, y = .slice base ls cap ∧ ls ≤ cap) : StepOk c st st ∧ OpOk P c st st s e o := by
  refine opOk_val fun B0 ρ τ w a hx hag hre => ?_
  obtain ⟨y, y', r1, r2, r3, r4⟩ := A.run ρ a w hx
  obtain ⟨news, n1, n2, n3⟩ := r4 B0 τ hag hre
  obtain ⟨base, cap, rfl, hle⟩ := hy ρ y r1 r2
  have hn : news = [] := by
    have h1 := n1.length
    have h2 := A.newLen
    rw [Nat.zero_mul] at h2
    rw [h2] at h1
    exact List.eq_nil_of_length_eq_zero h1
  subst hn
  refine ⟨_, r1, ?_⟩
  rw [r3, run_append_nothing (P := P) w t t' o.type el i A.under A.info base ls cap hle y' n3]
  rfl
/-- the row is known to its end: what stands there, or a new one, is the same from now on. -/
theorem ok_merge {t t' el : TypeId} {i : TypeInfo} {ls lx : Nat} {new : List V} {n o' sz : Nat} {ty : TypeId} {tr : T V} (hwf : Wf st) (A : App P c st e o t t' el i ls lx (.sg n o' ls i.size) new)
    (g1 : c.ok n = true) (g2 : st.h.get n = some (.cs ty sz tr)) (hro : ty ≠ roT) (hend : o' + ls * i.size = sz)
    (h : (firsts c st i.size ls (.sg n o' ls i.size) fun old => setB c st n .gone fun st => newC st el (old ++ new) fun m st => (some (.sg m 0 (ls + lx) i.size, st) : Res)) = some (v, st')) :
    StepOk c st st' ∧ OpOk P c st st' v e o := by
  obtain ⟨old0, _, _, h3⟩ := firsts_inv (P := P) h
  simp only [firsts] at h
  split at h
  case h_2 => cases h
  obtain ⟨ty2, sz2, tr2, k1, k2, k3⟩ := getC_inv h
  rw [g2] at k2
  injection k2 with k2
  injection k2 with e1 e2 e3
  subst e1 e2 e3
  obtain ⟨old, h1, h2, hg⟩ := getsB_inv k3
  obtain ⟨g4, h4⟩ := setB_inv h1
  rw [newC_eq] at h4
  obtain ⟨rfl, rfl⟩ := some_inv h4
  have hs := A.size
  have s1 : StepOk c st ⟨st.nx, st.h.set n .gone⟩ := stepOk_set g1 g2 g4
  have s2 : StepOk c ⟨st.nx, st.h.set n .gone⟩ ⟨st.nx + 1, (st.h.set n .gone).set st.nx (.cs el (old ++ new).length (sets (old ++ new) 0 .lf))⟩ := stepOk_new (st := ⟨st.nx, st.h.set n .gone⟩)
  refine ⟨s1.trans s2, fun B0 ρ τ w a hx hag hre hf K Q hK => ?_⟩
  have hov : ov st ⟨st.nx + 1, (st.h.set n .gone).set st.nx (.cs el (old ++ new).length (sets (old ++ new) 0 .lf))⟩ τ = upd (upd τ n .gone) st.nx (.cs el (old ++ new).length (sets (old ++ new) 0 .lf)) := by
    rw [← ov_trans s1 s2 hwf hag, ov_set hag g1 g2]
    exact ov_new (st := ⟨st.nx, st.h.set n .gone⟩)
  have hτ := hag n _ g1 g2
  obtain ⟨y, y', r1, r2, r3, r4⟩ := A.run ρ a w hx
  obtain ⟨news, n1, n2, n3⟩ := r4 B0 τ hag hre
  have r1' := r1
  simp only [Rel] at r1'
  obtain ⟨r, hr, _, hle, rfl⟩ := r1'
  have hfm : ρ st.nx = none := hf st.nx (Nat.le_refl _) (Nat.lt_succ_self _)
  obtain ⟨q, q1, q2, q3, q4⟩ := hre.blk n _ hτ
  rw [hr] at q1; injection q1 with q1; subst q1
  obtain ⟨ty', cells, fr, c1, c2, c3, c4, c5⟩ := q4
  have hk := hre.kill hτ
  have hone : (old ++ new).all V.one = true := by
    rw [List.all_append, n2, Bool.and_true, List.all_eq_true]
    intro u hu
    obtain ⟨j, hj⟩ := List.getElem?_of_mem hu
    exact (c5 _ _ (hg j u hj)).2.1
  have hnl := A.newLen
  have hol : (old ++ new).length = (ls + lx) * i.size := by rw [List.length_append, h2, hnl, Nat.add_mul]
  have hle' : ∀ q : R, ρ.le (upd ρ st.nx q) := fun q m u e => by
    by_cases hm : m = st.nx
    · subst hm; rw [hfm] at e; cases e
    · rw [upd_ne _ _ hm]; exact e
  have hdom : ∀ q : R, Dom ρ (upd ρ st.nx q) st ⟨st.nx + 1, (st.h.set n .gone).set st.nx (.cs el (old ++ new).length (sets (old ++ new) 0 .lf))⟩ := fun q m u e => by
    by_cases hm : m = st.nx
    · subst hm; exact .inr ⟨Nat.le_refl _, Nat.lt_succ_self _⟩
    · rw [upd_ne _ _ hm] at e; exact .inl e
  unfold Oper.wp
  rw [r3]
  by_cases hroom : ls + lx ≤ (r.size - o') / i.size
  · have hsz : (ls + lx) * i.size ≤ r.size - o' := by
      have := Nat.mul_le_mul_right i.size hroom
      exact Nat.le_trans this (Nat.div_mul_le_self _ _)
    have hadd : (ls + lx) * i.size = ls * i.size + new.length := by rw [Nat.add_mul, hnl]
    have hnews := n1.length
    have ht := hre.there hτ hr hro (i := o' + ls * i.size) (m := new.length) (by omega)
    have hrun := run_append_room_src (P := P) w t t' o.type el i A.under A.info r.block (r.base + o') ls ((r.size - o') / i.size) y' lx news n3 hroom (fun j hj => by
      have := (ht j (by omega)).1
      rw [← this]; congr 3; omega) (fun j hj => by
      have := (ht j (by omega)).2
      rw [← this]; congr 3; omega)
    rw [hrun]
    obtain ⟨arr', a1, a2, a3⟩ := heap_setCells_at r.block ty' fr news (r.base + o' + ls * i.size) w cells c1 (by omega)
    refine hK (upd ρ st.nx ⟨r.block, r.base + o', r.size - o'⟩) _ _ (hle' _) (hdom _) ?_ ?_ (below_setCells' (q2 hro) _ _ _)
    · simp only [Rel]
      exact ⟨_, upd_same _ _ _, by omega, by simpa using hroom, by simp⟩
    · rw [hov]
      refine hk.add hfm (q2 hro) (by rw [size_setCells']; exact q3) (by rw [size_setCells']; exact Nat.le_refl _) (fun m b q e1 e2 e3 => ?_) (fun k _ hk' => heap_setCells_ne _ _ _ _ _ hk') ?_
      · by_cases hm : m = n
        · subst hm; rw [upd_same] at e1; injection e1 with e1; subst e1; exact e2.elim
        · rw [upd_ne _ _ hm] at e1
          exact fun e => hre.inj n m _ b r q hτ e1 hro e2 (fun e => hm e.symm) hr e3 e.symm
      · refine ⟨ty', arr', fr, a1, by simp only; omega, by simp only; omega, by rw [a2]; exact (fun _ => c4 hro), fun j u hu => ?_⟩
        rw [get_sets] at hu
        by_cases hj : 0 ≤ j ∧ j < 0 + (old ++ new).length
        · rw [if_pos hj] at hu
          simp only [Nat.sub_zero] at hu
          refine ⟨by omega, (List.all_eq_true.1 hone) u (List.mem_of_getElem? hu), ?_⟩
          rw [a3]
          simp only
          by_cases hjo : j < old.length
          · rw [if_neg (by omega)]
            rw [List.getElem?_append_left hjo] at hu
            obtain ⟨_, _, x, x1, x2⟩ := c5 _ _ (hg j u hu)
            exact ⟨x, by rw [← x1]; congr 1; omega, Rel.mono (hle' _) _ _ x2⟩
          · rw [if_pos (by omega)]
            rw [List.getElem?_append_right (by omega)] at hu
            obtain ⟨x, x1, x2⟩ := n1.get hu
            exact ⟨x, by rw [← x1]; congr 1; omega, Rel.mono (hle' _) _ _ x2⟩
        · rw [if_neg hj] at hu
          simp at hu
  · obtain ⟨olds, o1, o2, o3⟩ := (show ∃ olds, RelL ρ old olds ∧ old.all V.one = true ∧ ∀ w' : World, w'.heap = w.heap → (Builtin.firstCells i.size ls (.slice (some ⟨r.block, r.base + o', none⟩) ls ((r.size - o') / i.size))).run P w' = .ok olds.toArray w' from by
      obtain ⟨x1, _, xs, x2, x3⟩ := hre.read hτ hr hg
      refine ⟨xs, x2, x1, fun w' hw' => ?_⟩
      exact run_firstCells_some w' i.size ls ⟨r.block, r.base + o', none⟩ ls _ xs (by rw [x2.length, h2]) (fun j u hu => by
        rw [add_off]
        have := x3 j u hu
        unfold World.cell? at this ⊢
        rw [hw']; exact this))
    obtain ⟨z, hz, hzs⟩ := A.zero
    obtain ⟨gc, arr, b1, b2, b3, b4⟩ := grow_run w o.type A.under A.info hz hzs A.len A.bytes _ _ olds news (by rw [o1.length, h2]) o3 y' n3 (by omega)
    rw [b4]
    have hold : ∀ k, k < w.heap.size → (w.drew.alloc (.cells arr el)).heap[k]? = w.heap[k]? := fun k hk => Below.heap_alloc w.drew _ k hk
    refine hK (upd ρ st.nx ⟨w.heap.size, 0, arr.size⟩) _ _ (hle' _) (hdom _) ?_ ?_ ?_
    · simp only [Rel]
      have hdiv : (arr.size - 0) / i.size = gc := by rw [Nat.sub_zero, b2]; exact Nat.mul_div_cancel _ (by omega)
      exact ⟨_, upd_same _ _ _, by omega, by rw [hdiv]; exact b1, by rw [hdiv]⟩
    · rw [hov]
      refine hk.new hfm (Nat.le_refl _) (by simp) hold ?_
      refine Blk.made (RelL.mono (hle' _) _ _ (RelL.append o1 n1)) hone arr (0, 0) (by show (w.heap.push (.cells arr el))[w.heap.size]? = _; rw [Array.getElem?_push, if_pos rfl]) b3 ?_ (.inl rfl)
      have h5 := o1.length
      have h6 := n1.length
      have : (ls + lx) * i.size ≤ gc * i.size := Nat.mul_le_mul_right _ b1
      rw [List.length_append, h5, h6, b2, ← List.length_append, hol]; exact this
    · exact ⟨rfl, rfl, rfl, by simp, fun k hk => hold k (Nat.lt_of_lt_of_le hk hre.size)⟩
/-- the same where the row begins its block: the cells stay as they lie -/
theorem ok_merge0 {t t' el : TypeId} {i : TypeInfo} {ls lx : Nat} {new : List V} {n sz : Nat} {ty : TypeId} {tr : T V} (hwf : Wf st) (A : App P c st e o t t' el i ls lx (.sg n 0 ls i.size) new)
    (g1 : c.ok n = true) (g2 : st.h.get n = some (.cs ty sz tr)) (hro : ty ≠ roT) (hend : ls * i.size = sz)
    (h : (setB c st n .gone fun st => setsK new sz tr fun t => fn (sz + new.length) fun sz' => newB st (.cs el sz' t) fun m st => (some (.sg m 0 (ls + lx) i.size, st) : Res)) = some (v, st')) :
    StepOk c st st' ∧ OpOk P c st st' v e o := by
  obtain ⟨g4, h4⟩ := setB_inv h
  rw [setsK_eq, fn_eq, newB_eq] at h4
  obtain ⟨rfl, rfl⟩ := some_inv h4
  have hs := A.size
  have s1 : StepOk c st ⟨st.nx, st.h.set n .gone⟩ := stepOk_set g1 g2 g4
  have s2 : StepOk c ⟨st.nx, st.h.set n .gone⟩ ⟨st.nx + 1, (st.h.set n .gone).set st.nx (.cs el (sz + new.length) (sets new sz tr))⟩ := stepOk_new (st := ⟨st.nx, st.h.set n .gone⟩)
  refine ⟨s1.trans s2, fun B0 ρ τ w a hx hag hre hf K Q hK => ?_⟩
  have hov : ov st ⟨st.nx + 1, (st.h.set n .gone).set st.nx (.cs el (sz + new.length) (sets new sz tr))⟩ τ = upd (upd τ n .gone) st.nx (.cs el (sz + new.length) (sets new sz tr)) := by
    rw [← ov_trans s1 s2 hwf hag, ov_set hag g1 g2]
    exact ov_new (st := ⟨st.nx, st.h.set n .gone⟩)
  have hτ := hag n _ g1 g2
  obtain ⟨y, y', r1, r2, r3, r4⟩ := A.run ρ a w hx
  obtain ⟨news, n1, n2, n3⟩ := r4 B0 τ hag hre
  have r1' := r1
  simp only [Rel] at r1'
  obtain ⟨r, hr, _, hle, rfl⟩ := r1'
  have hfm : ρ st.nx = none := hf st.nx (Nat.le_refl _) (Nat.lt_succ_self _)
  obtain ⟨q, q1, q2, q3, q4⟩ := hre.blk n _ hτ
  rw [hr] at q1; injection q1 with q1; subst q1
  obtain ⟨ty', cells, fr, c1, c2, c3, c4, c5⟩ := q4
  have hk := hre.kill hτ
  have hnl := A.newLen
  have hle' : ∀ q : R, ρ.le (upd ρ st.nx q) := fun q m u e => by
    by_cases hm : m = st.nx
    · subst hm; rw [hfm] at e; cases e
    · rw [upd_ne _ _ hm]; exact e
  have hdom : ∀ q : R, Dom ρ (upd ρ st.nx q) st ⟨st.nx + 1, (st.h.set n .gone).set st.nx (.cs el (sz + new.length) (sets new sz tr))⟩ := fun q m u e => by
    by_cases hm : m = st.nx
    · subst hm; exact .inr ⟨Nat.le_refl _, Nat.lt_succ_self _⟩
    · rw [upd_ne _ _ hm] at e; exact .inl e
  have hnews := n1.length
  -- what a cell of the new block is
  have cell : ∀ (q : R) (arr : Array Value) (base : Nat), (∀ j x, j < sz → cells[r.base + j]? = some x → arr[base + j]? = some x) → (∀ j x, news[j]? = some x → arr[base + sz + j]? = some x) →
      ∀ j u, (sets new sz tr).get j = some u → j < sz + new.length ∧ u.one = true ∧ ∃ x, arr[base + j]? = some x ∧ Rel (upd ρ st.nx q) u x := fun q arr base h1 h2 j u hu => by
    rw [get_sets] at hu
    by_cases hj : sz ≤ j ∧ j < sz + new.length
    · rw [if_pos hj] at hu
      obtain ⟨x, x1, x2⟩ := n1.get hu
      refine ⟨hj.2, (List.all_eq_true.1 n2) u (List.mem_of_getElem? hu), x, ?_, Rel.mono (hle' _) _ _ x2⟩
      rw [← h2 _ x x1]; congr 1; omega
    · rw [if_neg hj] at hu
      obtain ⟨x1, x2, x, x3, x4⟩ := c5 _ _ hu
      exact ⟨by omega, x2, x, h1 j x x1 x3, Rel.mono (hle' _) _ _ x4⟩
  unfold Oper.wp
  rw [r3]
  by_cases hroom : ls + lx ≤ (r.size - 0) / i.size
  · have hsz : (ls + lx) * i.size ≤ r.size - 0 := by
      have := Nat.mul_le_mul_right i.size hroom
      exact Nat.le_trans this (Nat.div_mul_le_self _ _)
    have hadd : (ls + lx) * i.size = ls * i.size + new.length := by rw [Nat.add_mul, hnl]
    have ht := hre.there hτ hr hro (i := 0 + ls * i.size) (m := new.length) (by omega)
    have hrun := run_append_room_src (P := P) w t t' o.type el i A.under A.info r.block (r.base + 0) ls ((r.size - 0) / i.size) y' lx news n3 hroom (fun j hj => by
      have := (ht j (by omega)).1
      rw [← this]; congr 3; omega) (fun j hj => by
      have := (ht j (by omega)).2
      rw [← this]; congr 3; omega)
    rw [hrun]
    obtain ⟨arr', a1, a2, a3⟩ := heap_setCells_at r.block ty' fr news (r.base + 0 + ls * i.size) w cells c1 (by omega)
    refine hK (upd ρ st.nx ⟨r.block, r.base + 0, r.size - 0⟩) _ _ (hle' _) (hdom _) ?_ ?_ (below_setCells' (q2 hro) _ _ _)
    · simp only [Rel]
      exact ⟨_, upd_same _ _ _, by omega, by simpa using hroom, by simp⟩
    · rw [hov]
      refine hk.add hfm (q2 hro) (by rw [size_setCells']; exact q3) (by rw [size_setCells']; exact Nat.le_refl _) (fun m b q e1 e2 e3 => ?_) (fun k _ hk' => heap_setCells_ne _ _ _ _ _ hk') ?_
      · by_cases hm : m = n
        · subst hm; rw [upd_same] at e1; injection e1 with e1; subst e1; exact e2.elim
        · rw [upd_ne _ _ hm] at e1
          exact fun e => hre.inj n m _ b r q hτ e1 hro e2 (fun e => hm e.symm) hr e3 e.symm
      · refine ⟨ty', arr', fr, a1, by simp only; omega, by simp only; omega, by rw [a2]; exact (fun _ => c4 hro), cell _ arr' (r.base + 0) (fun j x hj hx' => ?_) fun j x hx' => ?_⟩
        · rw [a3, if_neg (by omega)]; exact hx'
        · have hlt : j < news.length := by
            rcases Nat.lt_or_ge j news.length with h | h
            · exact h
            · rw [List.getElem?_eq_none h] at hx'; cases hx'
          rw [a3, if_pos (by omega), ← hx']; congr 1; omega
  · -- the old cells, as they lie
    have hlen0 : ls * i.size = sz := hend
    let olds : List Value := (cells.toList.drop r.base).take sz
    have hol : olds.length = sz := by simp only [olds, List.length_take, List.length_drop, Array.length_toList]; omega
    have oget : ∀ j, j < sz → olds[j]? = cells[r.base + j]? := fun j hj => by
      simp only [olds]
      rw [List.getElem?_take, if_pos hj, List.getElem?_drop]; simp
    have o3 : ∀ w' : World, w'.heap = w.heap → (Builtin.firstCells i.size ls (.slice (some ⟨r.block, r.base + 0, none⟩) ls ((r.size - 0) / i.size))).run P w' = .ok olds.toArray w' := fun w' hw' =>
      run_firstCells_some w' i.size ls ⟨r.block, r.base + 0, none⟩ ls _ olds (by rw [hol, hlen0]) (fun j u hu => by
        have hlt : j < olds.length := by
          rcases Nat.lt_or_ge j olds.length with h | h
          · exact h
          · rw [List.getElem?_eq_none h] at hu; cases hu
        rw [oget j (by omega)] at hu
        have : w.cell? ⟨r.block, r.base + j, none⟩ = some u := by
          unfold World.cell?
          simp [c1, hu]
        rw [add_off]
        unfold World.cell? at this ⊢
        rw [hw']
        exact this)
    obtain ⟨z, hz, hzs⟩ := A.zero
    obtain ⟨gc, arr, b1, b2, b3, b4⟩ := grow_run w o.type A.under A.info hz hzs A.len A.bytes _ _ olds news (by rw [hol, hlen0]) o3 y' n3 (by omega)
    rw [b4]
    have hold : ∀ k, k < w.heap.size → (w.drew.alloc (.cells arr el)).heap[k]? = w.heap[k]? := fun k hk => Below.heap_alloc w.drew _ k hk
    refine hK (upd ρ st.nx ⟨w.heap.size, 0, arr.size⟩) _ _ (hle' _) (hdom _) ?_ ?_ ?_
    · simp only [Rel]
      have hdiv : (arr.size - 0) / i.size = gc := by rw [Nat.sub_zero, b2]; exact Nat.mul_div_cancel _ (by omega)
      exact ⟨_, upd_same _ _ _, by omega, by rw [hdiv]; exact b1, by rw [hdiv]⟩
    · rw [hov]
      refine hk.new hfm (Nat.le_refl _) (by simp) hold ?_
      have : (ls + lx) * i.size ≤ gc * i.size := Nat.mul_le_mul_right _ b1
      have hadd : (ls + lx) * i.size = ls * i.size + new.length := by rw [Nat.add_mul, hnl]
      refine ⟨el, arr, (0, 0), by show (w.heap.push (.cells arr el))[w.heap.size]? = _; rw [Array.getElem?_push, if_pos rfl], by simp, by simp only; omega, fun _ => .inl rfl, cell _ arr 0 (fun j x hj hx' => ?_) fun j x hx' => ?_⟩
      · rw [Nat.zero_add]
        exact b3 j x (by rw [List.getElem?_append_left (by omega), oget j hj]; exact hx')
      · rw [Nat.zero_add]
        exact b3 (sz + j) x (by rw [List.getElem?_append_right (by omega), ← hx']; congr 1; omega)
    · exact ⟨rfl, rfl, rfl, by simp, fun k hk => hold k (Nat.lt_of_lt_of_le hk hre.size)⟩
end
end Go.Proofs.Ytenncnbaoejekaa.Ev

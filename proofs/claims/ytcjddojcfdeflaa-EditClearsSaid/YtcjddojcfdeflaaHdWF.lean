/-
  PLAIN: HdW, HdB, HdI, HdF, in one text.
-/
import Derived.Test.YtcjddojcfdeflaaHd
import Derived.Test.YtcjddojcfdeflaaSb
import Derived.Test.YtcjddojcfdeflaaEc
import Derived.Test.YtcjddojcfdeflaaEqS
import Derived.Test.YtcjddojcfdeflaaGmA
import Derived.Test.YtcjddojcfdeflaaSc
set_option linter.unusedSimpArgs false
namespace Go.Proofs.Ytcjddojcfdeflaa
open Go.RowKit Ev
theorem namesOkH : Ev.namesOk Try.prog = true := by kernel_rfl
theorem mixesH : Try.prog.follows .mixedOrders = true := by kernel_rfl
@[simp] theorem bool_eqlH (st : St) (x y : Operand) (a b : Bool) : binE Try.prog st .eql 4 x y (.bool a) (.bool b) = some (.bool (a == b), st) := by cases a <;> cases b <;> kernel_rfl
theorem rel_hdV (ρ : Rho) (a b c d : Int) {n : Int} (h1 : 0 ≤ n) (h2 : n < 18446744073709551616) : Rel ρ (hdV ⟨a, b, c, d⟩ (BitVec.ofInt 64 n)) (.agg #[.int .i64 a, .int .i64 b, .int .i64 c, .int .i64 d, .int .u64 n]) := by
  unfold hdV
  rw [← wd_lit h1 h2]
  simp only [Rel]
  exact ⟨_, rfl, .cons (rel_int _ _) (.cons (rel_int _ _) (.cons (rel_int _ _) (.cons (rel_int _ _) (.cons (rel_int _ _) .nil)))), by simp⟩
end Go.Proofs.Ytcjddojcfdeflaa
set_option linter.unusedSimpArgs false
namespace Go.Proofs.Ytcjddojcfdeflaa
open Go.RowKit Ev
theorem sameGm (d : Nat) (g h : Gm) : pureRun Try.prog (Op.equalIn (d + 2) 45 (.agg #[.int .i64 g.b, .int .i64 g.n, .int .i64 g.c, .int .i64 g.k]) (.agg #[.int .i64 h.b, .int .i64 h.n, .int .i64 h.c, .int .i64 h.k])) = some ([g.b == h.b, g.n == h.n, g.c == h.c, g.k == h.k].all id) :=
  pr_struct (d + 1) Try.underlying45 (by kernel_rfl) (.cons (.int (by decide) Try.underlying3 rfl rfl) (.cons (.int (by decide) Try.underlying3 rfl rfl) (.cons (.int (by decide) Try.underlying3 rfl rfl) (.cons (.int (by decide) Try.underlying3 rfl rfl) .nil))))
theorem allGm (g h : Gm) : [g.b == h.b, g.n == h.n, g.c == h.c, g.k == h.k].all id = decide (g = h) := by
  obtain ⟨a, b, c, d⟩ := g
  obtain ⟨a', b', c', d'⟩ := h
  by_cases e : (⟨a, b, c, d⟩ : Gm) = ⟨a', b', c', d'⟩
  · injection e with e1 e2 e3 e4
    subst e1 e2 e3 e4
    simp
  · have : ¬ (a = a' ∧ b = b' ∧ c = c' ∧ d = d') := fun ⟨h1, h2, h3, h4⟩ => e (by rw [h1, h2, h3, h4])
    simp [e]
    intro h1 h2 h3 h4
    exact this ⟨h1, h2, h3, h4⟩
theorem eqlGm (st : St) (x y : Operand) (g h : Gm) : binE Try.prog st .eql 45 x y (gV g) (gV h) = some (.bool (decide (g = h)), st) := by
  have := eql_struct (st := st) (x := x) (y := y) (l := [.int .i64 g.b, .int .i64 g.n, .int .i64 g.c, .int .i64 g.k]) (l' := [.int .i64 h.b, .int .i64 h.n, .int .i64 h.c, .int .i64 h.k]) Try.underlying45 (by kernel_rfl) (by kernel_rfl) rfl rfl
    (.cons (.int (d := 9998) (by decide) Try.underlying3 rfl rfl) (.cons (.int (d := 9998) (by decide) Try.underlying3 rfl rfl) (.cons (.int (d := 9998) (by decide) Try.underlying3 rfl rfl) (.cons (.int (d := 9998) (by decide) Try.underlying3 rfl rfl) .nil))))
  rw [allGm] at this
  exact this
theorem eqlHd (st : St) (x y : Operand) (g h : Gm) (p q : BitVec 64) : binE Try.prog st .eql 80 x y (hdV g p) (hdV h q) = some (.bool (decide (g = h ∧ p = q)), st) := by
  have := eql_struct (st := st) (x := x) (y := y) (l := [.int .i64 g.b, .int .i64 g.n, .int .i64 g.c, .int .i64 g.k, wd p]) (l' := [.int .i64 h.b, .int .i64 h.n, .int .i64 h.c, .int .i64 h.k, wd q]) (xs := [.int .i64 g.b, .int .i64 g.n, .int .i64 g.c, .int .i64 g.k, .int .u64 (p.toNat : Int)]) (ys := [.int .i64 h.b, .int .i64 h.n, .int .i64 h.c, .int .i64 h.k, .int .u64 (q.toNat : Int)]) Try.underlying80 (by kernel_rfl) (by kernel_rfl) rfl rfl
    (.cons (.agg (n := 4) (by decide) Try.underlying45 (by kernel_rfl) (sameGm 9997 g h)) (.cons (.int (d := 9998) (by decide) Try.underlying39 rfl rfl) .nil))
  rw [allGm] at this
  have hp : ((p.toNat : Int) == q.toNat) = decide (p = q) := by
    by_cases e : p = q
    · subst e; simp
    · have : ¬ (p.toNat : Int) = q.toNat := fun h => e (BitVec.eq_of_toNat_eq (by omega))
      simp [e, this]
  rw [hp] at this
  have he : ([decide (g = h), decide (p = q)].all id) = decide (g = h ∧ p = q) := by simp
  rw [he] at this
  exact this
end Go.Proofs.Ytcjddojcfdeflaa
set_option linter.unusedSimpArgs false
namespace Go.Proofs.Ytcjddojcfdeflaa
open Go.RowKit Ev
def imgA (A l : List (BitVec 64)) (i : Nat) : List (BitVec 64) := if A.length = 8 then l.set i (wat A i) else l
def imgB (n : Nat) (B l : List (BitVec 64)) (i : Nat) : List (BitVec 64) := if B.length = 8 then l.set (n - 8 + i) (wat B i) else l
def imgF (n : Nat) (A B : List (BitVec 64)) : Nat → List (BitVec 64)
  | 0 => List.replicate n 0#64
  | i + 1 => imgB n B (imgA A (imgF n A B i) i) i
theorem imgA_get (A l : List (BitVec 64)) (i j : Nat) (v : BitVec 64) (h : l[j]? = some v) : (imgA A l i)[j]? = some (if i = j ∧ A.length = 8 then wat A j else v) := by
  have hl := lt_of_get h
  unfold imgA
  by_cases hA : A.length = 8
  · rw [if_pos hA]
    by_cases hij : i = j
    · subst hij; rw [List.getElem?_set_self hl, if_pos ⟨rfl, hA⟩]
    · rw [List.getElem?_set_ne hij, if_neg (fun h => hij h.1)]; exact h
  · rw [if_neg hA, if_neg (fun h => hA h.2)]; exact h
theorem imgB_get (n : Nat) (B l : List (BitVec 64)) (i j : Nat) (v : BitVec 64) (h : l[j]? = some v) : (imgB n B l i)[j]? = some (if n - 8 + i = j ∧ B.length = 8 then wat B i else v) := by
  have hl := lt_of_get h
  unfold imgB
  by_cases hA : B.length = 8
  · rw [if_pos hA]
    by_cases hij : n - 8 + i = j
    · subst hij; rw [List.getElem?_set_self hl, if_pos ⟨rfl, hA⟩]
    · rw [List.getElem?_set_ne hij, if_neg (fun h => hij h.1)]; exact h
  · rw [if_neg hA, if_neg (fun h => hA h.2)]; exact h
theorem imgF_get {n : Nat} (A B : List (BitVec 64)) (hn : 16 ≤ n) : ∀ (i j : Nat), i ≤ 8 → j < n → (imgF n A B i)[j]? = some (if j < i ∧ A.length = 8 then wat A j else if (n - 8 ≤ j ∧ j < n - 8 + i) ∧ B.length = 8 then wat B (j - (n - 8)) else 0#64)
  | 0, j, _, hj => by
    rw [if_neg (fun h => by omega), if_neg (fun h => by omega)]
    show (List.replicate n 0#64)[j]? = _
    rw [List.getElem?_replicate, if_pos hj]
  | i + 1, j, hi, hj => by
    have h1 := imgF_get A B hn i j (by omega) hj
    have h2 := imgB_get n B _ i j _ (imgA_get A _ i j _ h1)
    show (imgB n B (imgA A (imgF n A B i) i) i)[j]? = _
    rw [h2]
    congr 1
    by_cases hA : A.length = 8 <;> by_cases hB : B.length = 8
    · simp only [hA, hB, and_true]
      by_cases c1 : n - 8 + i = j
      · rw [if_pos c1, if_neg (by omega), if_pos (by omega)]; congr 1; omega
      · rw [if_neg c1]
        by_cases c2 : i = j
        · rw [if_pos c2, if_pos (by omega)]
        · rw [if_neg c2]
          by_cases c3 : j < i
          · rw [if_pos c3, if_pos (by omega)]
          · rw [if_neg c3, if_neg (show ¬ j < i + 1 by omega)]
            by_cases c4 : n - 8 ≤ j ∧ j < n - 8 + i
            · rw [if_pos c4, if_pos (by omega)]
            · rw [if_neg c4, if_neg (by omega)]
    · simp only [hA, hB, and_true, and_false, if_false]
      by_cases c2 : i = j
      · rw [if_pos c2, if_pos (by omega)]
      · rw [if_neg c2]
        by_cases c3 : j < i
        · rw [if_pos c3, if_pos (by omega)]
        · rw [if_neg c3, if_neg (show ¬ j < i + 1 by omega)]
    · simp only [hA, hB, and_true, and_false, if_false]
      by_cases c1 : n - 8 + i = j
      · rw [if_pos c1, if_pos (by omega)]; congr 1; omega
      · rw [if_neg c1]
        by_cases c4 : n - 8 ≤ j ∧ j < n - 8 + i
        · rw [if_pos c4, if_pos (by omega)]
        · rw [if_neg c4, if_neg (by omega)]
    · simp only [hA, hB, and_false, if_false]
theorem imgF_length (n : Nat) (A B : List (BitVec 64)) : ∀ i, (imgF n A B i).length = n
  | 0 => by simp [imgF]
  | i + 1 => by
    have := imgF_length n A B i
    show (imgB n B (imgA A (imgF n A B i) i) i).length = n
    unfold imgB imgA
    split <;> split <;> simp [this]
def orNo (A : List (BitVec 64)) : List (BitVec 64) := if A.length = 8 then A else List.replicate 8 0#64
theorem orNo_length (A : List (BitVec 64)) : (orNo A).length = 8 := by unfold orNo; split <;> simp [*]
theorem img_head {n : Nat} (A B : List (BitVec 64)) (hn : 16 ≤ n) : (imgF n A B 8).take 8 = orNo A := by
  apply List.ext_getElem?
  intro j
  rw [List.getElem?_take]
  by_cases hj : j < 8
  · rw [if_pos hj, imgF_get A B hn 8 j (Nat.le_refl _) (by omega)]
    unfold orNo
    by_cases hA : A.length = 8
    · rw [if_pos ⟨hj, hA⟩, if_pos hA, wat_get (by omega)]
    · rw [if_neg (fun h => hA h.2), if_neg (by omega), if_neg hA, List.getElem?_replicate, if_pos hj]
  · rw [if_neg hj, List.getElem?_eq_none (by rw [orNo_length]; omega)]
theorem img_tail {n : Nat} (A B : List (BitVec 64)) (hn : 16 ≤ n) : (imgF n A B 8).drop (n - 8) = orNo B := by
  apply List.ext_getElem?
  intro j
  rw [List.getElem?_drop]
  by_cases hj : j < 8
  · rw [imgF_get A B hn 8 _ (Nat.le_refl _) (by omega), if_neg (by omega)]
    unfold orNo
    by_cases hB : B.length = 8
    · rw [if_pos ⟨by omega, hB⟩, if_pos hB, show n - 8 + j - (n - 8) = j by omega, wat_get (by omega)]
    · rw [if_neg (fun h => hB h.2), if_neg hB, List.getElem?_replicate, if_pos hj]
  · rw [List.getElem?_eq_none (by rw [imgF_length]; omega), List.getElem?_eq_none (by rw [orNo_length]; omega)]
theorem getH_zero : getH (List.replicate 8 0#64) = none := by decide +kernel
def imI (st : St) (bl n : Nat) (x y z : V) (A B : List (BitVec 64)) (e : Env) (s : St) : Prop := ∃ i : Nat, i ≤ 8 ∧ e.get 0 = some (.int .i64 (bl : Int)) ∧ e.get 1 = some x ∧ e.get 2 = some y ∧ e.get 7 = some z ∧ e.get 8 = some (.int .i64 (i : Int)) ∧ SlRow st.nx s z n (imgF n A B i) ∧ Ext st.nx st s
def imJ (st : St) (bl n : Nat) (x y z : V) (l : List (BitVec 64)) (i : Nat) (r : X × Env × St) : Prop := ∃ (e : Env) (s : St), r = (.n, e, s) ∧ e.get 0 = some (.int .i64 (bl : Int)) ∧ e.get 1 = some x ∧ e.get 2 = some y ∧ e.get 7 = some z ∧ e.get 8 = some (.int .i64 (i : Int)) ∧ SlRow st.nx s z n l ∧ Ext st.nx st s
end Go.Proofs.Ytcjddojcfdeflaa
set_option linter.unusedSimpArgs false
namespace Go.Proofs.Ytcjddojcfdeflaa
open Go.RowKit Ev
def ofH (b : Int) (L : List (BitVec 64)) : Option (Gm × BitVec 64) := match getH L with
  | some (g, p) => if g.b = b then some (g, p) else none
  | none => none
set_option maxRecDepth 20000 in
set_option maxHeartbeats 4000000 in
theorem hof_any (st : St) (b : Int) (x : V) (L : List (BitVec 64)) (hx : RdRow st x 1 L.length (wv L)) (nt : Nat) :
    Gd (callL Try.prog ⟨false, [], 0, nt⟩ 55 [.int .i64 b, x] st) fun r => r.1 = getHV (ofH b L) ∧ Ext st.nx st r.2 := by
  rw [Gd_callL Try.func55 rfl]
  simp [evOp_call, sets, T.get_set, newC_is]
  refine Gd.mono (hget_any _ x L (hx.ext (hbox_ext st _)) _) ?_
  rintro ⟨r, s1⟩ ⟨hr, x1⟩
  simp only at hr x1
  subst hr
  have l1 : st.nx < s1.nx := x1.le
  have k0 : s1.h.get st.nx = _ := (x1.keep _ (Nat.lt_succ_self _)).trans (T.get_set_same _ _ _)
  have n1 : ¬ s1.nx = st.nx := by omega
  have hs1 : Ext st.nx st s1 := (hbox_ext st _).trans (x1.mono (Nat.le_succ _))
  have hfin : ∀ v w, Ext st.nx st ⟨s1.nx + 1, (s1.h.set s1.nx v).set st.nx w⟩ := fun v w => (hs1.new (by omega) v).set (m := st.nx) (Nat.le_refl _) (by show st.nx < s1.nx + 1; omega) w
  cases hg : getH L with
  | none =>
    have ho : ofH b L = none := by unfold ofH; rw [hg]
    simp [getHV, hdV, evOp_call, sets, T.get_set, newC_is, storeK_g, putB_eq, roT, loadE_eq, getC_eq, getsB_succ, getsB_zero, k0, n1, ho]
    exact ⟨rfl, hfin _ _⟩
  | some gp =>
    obtain ⟨g, p⟩ := gp
    by_cases hb : g.b = b
    · have ho : ofH b L = some (g, p) := by unfold ofH; rw [hg]; exact if_pos hb
      simp [getHV, hdV, evOp_call, sets, T.get_set, newC_is, storeK_g, putB_eq, roT, loadE_eq, getC_eq, getsB_succ, getsB_zero, k0, n1, ho, hb]
      exact hfin _ _
    · have ho : ofH b L = none := by unfold ofH; rw [hg]; exact if_neg hb
      simp [getHV, hdV, evOp_call, sets, T.get_set, newC_is, storeK_g, putB_eq, roT, loadE_eq, getC_eq, getsB_succ, getsB_zero, k0, n1, ho, hb]
      exact ⟨rfl, hfin _ _⟩
def hdO (a b : Option (Gm × BitVec 64)) : V := match a with
  | some (g, p) => hdV g p
  | none => (match b with
    | some (g, p) => hdV g p
    | none => hdV ⟨0, 0, 0, 0⟩ 0#64)
def findHV (a b : Option (Gm × BitVec 64)) : V := .t [hdO a b, .bool a.isSome, .bool b.isSome]
def hdG (a : Option (Gm × BitVec 64)) : V := match a with
  | some (g, p) => hdV g p
  | none => hdV ⟨0, 0, 0, 0⟩ 0#64
theorem getHV_eq (a : Option (Gm × BitVec 64)) : ∃ g p, getHV a = .t [hdV g p, .bool a.isSome] ∧ hdG a = hdV g p := by
  cases a with
  | none => exact ⟨_, _, rfl, rfl⟩
  | some q => exact ⟨_, _, rfl, rfl⟩
theorem hdO_t {a : Option (Gm × BitVec 64)} (b : Option (Gm × BitVec 64)) (h : a.isSome = true) : hdO a b = hdG a := by
  cases a with
  | none => cases h
  | some q => rfl
theorem hdO_f {a : Option (Gm × BitVec 64)} (b : Option (Gm × BitVec 64)) (h : a.isSome = false) : hdO a b = hdG b := by
  cases a with
  | none => cases b <;> rfl
  | some q => cases h
set_option maxRecDepth 20000 in
set_option maxHeartbeats 8000000 in
theorem hfind_any (st : St) (b0 : Nat) (y : V) (bl : Nat) (hb : 64 ≤ bl ∧ bl ≤ 1024) (L : List (BitVec 64)) (hy : SlRow b0 st y (8 * bl) L) (nt : Nat) :
    Gd (callL Try.prog ⟨false, [], 0, nt⟩ 33 [y] st) fun r => r.1 = findHV (ofH bl (L.take 8)) (ofH bl (L.drop (8 * bl - 8))) ∧ Ext st.nx st r.2 := by
  rw [Gd_callL Try.func33 rfl]
  have hL := hy.1
  have hrd := hy.rd
  obtain ⟨n, hn⟩ : ∃ n, n = 8 * bl := ⟨_, rfl⟩
  rw [← hn] at hy hrd hL ⊢
  obtain ⟨m0, hm0⟩ : ∃ m0, m0 = n - 8 := ⟨_, rfl⟩
  rw [← hm0]
  have w0 : (n : Int).tdiv 8 = (bl : Int) := by rw [Int.tdiv_eq_ediv_of_nonneg (by omega)]; omega
  have w1 : IntKind.i64.wrap (bl : Int) = (bl : Int) := wrap_in (by omega) (by omega)
  have w2 : IntKind.i64.wrap ((bl : Int) * 8) = (n : Int) := by rw [show (bl : Int) * 8 = (n : Int) by omega]; exact wrap_in (by omega) (by omega)
  have w3 : IntKind.i64.wrap ((n : Int) - 8) = (m0 : Int) := by rw [show (n : Int) - 8 = (m0 : Int) by omega]; exact wrap_in (by omega) (by omega)
  have c1 : ¬ bl < 64 := by omega
  have c2 : ¬ 1024 < bl := by omega
  have c1' : ¬ (bl : Int) < 64 := by omega
  have c2' : ¬ (1024 : Int) < bl := by omega
  simp [evOp_call, sets, T.get_set, newC_is, hrd.lenS, w0, w1, w2, c1, c2, c1', c2']
  refine Gd_headS (i := .i64) (k := 8) un28 io39 (hy.ext (hbox_ext st _)) (by simp) (by omega) fun v hv => ?_
  simp [evOp_call, T.get_set]
  refine Gd.mono (hof_any _ bl v (L.take 8) (by rw [List.length_take, hL, show min 8 n = 8 by omega]; exact hv) _) ?_
  rintro ⟨r, s1⟩ ⟨hr, x1⟩
  simp only at hr x1
  obtain ⟨ga, pa, ha, hga⟩ := getHV_eq (ofH bl (L.take 8))
  rw [ha] at hr
  subst hr
  have l1 : st.nx < s1.nx := x1.le
  have k0 : s1.h.get st.nx = _ := (x1.keep _ (Nat.lt_succ_self _)).trans (T.get_set_same _ _ _)
  have hs1 : Ext st.nx st s1 := (hbox_ext st _).trans (x1.mono (Nat.le_succ _))
  simp [hdV, evOp_call, sets, T.get_set, newC_is, storeK_g, putB_eq, roT, k0, hrd.lenS, w3]
  have e2 : ∀ v, Ext st.nx st ⟨s1.nx, s1.h.set st.nx v⟩ := fun v => hs1.set (m := st.nx) (Nat.le_refl _) l1 v
  refine Gd_tailS (i := .i64) (k := m0) un28 io39 (hy.ext (e2 _)) (by simp [T.get_set]) (by omega) fun v hv => ?_
  simp [evOp_call, T.get_set]
  refine Gd.mono (hof_any _ bl v (L.drop m0) (by rw [List.length_drop, hL]; exact hv) _) ?_
  rintro ⟨r, s2⟩ ⟨hr, x2⟩
  simp only at hr x2
  obtain ⟨gb, pb, hb', hgb⟩ := getHV_eq (ofH bl (L.drop m0))
  rw [hb'] at hr
  subst hr
  have l2 : s1.nx ≤ s2.nx := x2.le
  have k1 : s2.h.get st.nx = _ := (x2.keep _ l1).trans (T.get_set_same _ _ _)
  have hs2 : Ext st.nx st s2 := (e2 _).trans (x2.mono (by show st.nx ≤ s1.nx; omega))
  have n2 : ¬ s2.nx = st.nx := by omega
  have hfin : ∀ v w, Ext st.nx st ⟨s2.nx + 1, (s2.h.set s2.nx v).set st.nx w⟩ := fun v w => (hs2.new (by omega) v).set (m := st.nx) (Nat.le_refl _) (by show st.nx < s2.nx + 1; omega) w
  cases hs : (ofH bl (L.take 8)).isSome with
  | true =>
    have ho := hdO_t (ofH bl (L.drop m0)) hs
    simp [hdV, evOp_call, sets, T.get_set, newC_is, storeK_g, putB_eq, roT, loadE_eq, getC_eq, getsB_succ, getsB_zero, k1, n2]
    unfold findHV
    rw [ho, hga, hs]
    exact ⟨rfl, hfin _ _⟩
  | false =>
    have ho := hdO_f (ofH bl (L.drop m0)) hs
    simp [hdV, evOp_call, sets, T.get_set, newC_is, storeK_g, putB_eq, roT, loadE_eq, getC_eq, getsB_succ, getsB_zero, k1, n2]
    unfold findHV
    rw [ho, hgb, hs]
    exact ⟨rfl, hfin _ _⟩
end Go.Proofs.Ytcjddojcfdeflaa

/-
  PLAIN: one element appended to a row of the call's own; cells that read as words and bytes; small facts on worlds.
-/
import Derived.Test.YtpbooljmkplnhaaBv
import Derived.ProofKit
import Derived.Laws.AppendOwnNone
import Derived.Laws.OwnMore
namespace Go.Proofs.Ytpbooljmkplnhaa
open Go.RowKit

theorem app1 {P : Program} {t e : TypeId} {i : TypeInfo} {z : Value} {bytes : Nat} (ht : P.underlying t = some (.slice e)) (hi : P.info? e = some i) (hz : i.zero = some z) (hsize : i.size = 1) (hby : i.bytes = bytes) (hzs : z.cells.size = 1)
    {ops : Array Oper} {rest : List Oper} {o : Oper} {a : Act} {Q : Exit → Act → World → Prop} {s x : Operand} {base : Nat} {v : Value} {n : Nat} {xs : List Value} {w0 : World} {y : Value}
    (hown : w0.ownsRow base e 1 v n xs) (hgd : Region.wanted o (yielded ops a.tmps) = true)
    (ho : o.op = .call { callee := .builtin .append, args := #[s, x], argTypes := #[t, t] })
    (hs : a.eval s = v) (hx : a.eval x = .slice (some ⟨w0.heap.size, 0, none⟩) 1 1) (hy : y.oneCell' = true) (hn : (n + 1) * bytes ≤ 140737488355328) (hn2 : n + 1 ≤ 140737488355328) (hbase : base ≤ w0.heap.size)
    (h : ∀ v' w', w'.ownsRow base e 1 v' (n + 1) (xs ++ [y]) → Below base w0 w' → wpList P ops Q rest (a.put o.dst v') w') :
    wpList P ops Q (o :: rest) a (w0.alloc (.cells #[y] e)) := by
  refine wpList_want hgd fun K hK => wp_append_own (w0.alloc (.cells #[y] e)) s x t ho base e i z 1 bytes ht hi hz hsize hby hzs (by decide) v n xs hs (hown.alloc _) ⟨w0.heap.size, 0, none⟩ 1 1 [y] hx (by simp) ?_ ?_ (by unfold maxLen; omega) hn (by simp; omega) ?_
  · intro j u hj
    match j, hj with
    | 0, hj => simp at hj; subst hj; simp [Addr.add]
  · intro u hu; simp at hu; subst hu; exact hy
  · intro v' w' h1 hg _
    refine hK _ _ (h v' w' h1 ?_)
    have hr : ∀ k, v.ownBlock = some k → base ≤ k := fun k hk => (hown.lt k hk).1
    exact ((Below.refl base w0).alloc hbase _).grown hg (by simp; omega) hr

theorem addr_add0 (g j : Nat) : (⟨g, 0, none⟩ : Addr).add j = ⟨g, j, none⟩ := by
  simp only [Addr.add]
  split <;> simp_all
theorem take_snocU (l : List (BitVec 64)) (j : Nat) (h : j < l.length) : l.take (j + 1) = l.take j ++ [l[j]?.getD 0#64] := by
  rw [List.take_succ_eq_append_getElem h]; simp [h]
/-- a list that is made element by element. -/
def mk3 (f : Nat → BitVec 64) (n j : Nat) : List (BitVec 64) := (List.range n).map fun i => if i < j then f i else 0#64
theorem mk3_zero (f : Nat → BitVec 64) (n : Nat) : mk3 f n 0 = List.replicate n 0#64 := by
  apply List.ext_getElem <;> simp [mk3]
theorem mk3_succ (f : Nat → BitVec 64) (n j : Nat) : (mk3 f n j).set j (f j) = mk3 f n (j + 1) := by
  apply List.ext_getElem
  · simp [mk3]
  · intro i h1 h2
    simp [mk3] at h2
    rw [List.getElem_set]
    simp only [mk3, List.getElem_map, List.getElem_range]
    by_cases hij : j = i
    · subst hij; simp
    · have : (i < j + 1) = (i < j) := by apply propext; omega
      simp [hij, this]
theorem mk3_all (f : Nat → BitVec 64) (n : Nat) : mk3 f n n = (List.range n).map f := by
  apply List.ext_getElem
  · simp [mk3]
  · intro i h1 h2
    simp [mk3] at h1
    simp [mk3, h1]
theorem mk3_len (f : Nat → BitVec 64) (n j : Nat) : (mk3 f n j).length = n := by simp [mk3]

/-- a slice's cells hold words. -/
def CellsU (w : World) (b off : Nat) (l : List (BitVec 64)) : Prop := ∀ i, i < l.length → w.cell? ⟨b, off + i, none⟩ = some (.int .u64 (u (l[i]?.getD 0#64)))
/-- a slice's cells hold bytes. -/
def CellsB (w : World) (b off : Nat) (l : List (BitVec 8)) : Prop := ∀ i, i < l.length → w.cell? ⟨b, off + i, none⟩ = some (.int .u8 (ub (l[i]?.getD 0#8)))
/-- a slice's address and capacity, at which words, bytes are read, in a block below B. -/
def IsU (B : Nat) (w : World) (a : Option Addr) (c : Nat) (l : List (BitVec 64)) : Prop := (l = [] ∧ c ≤ maxLen ∧ (a = none → c = 0)) ∨ ∃ b off, a = some ⟨b, off, none⟩ ∧ l.length ≤ c ∧ c ≤ maxLen ∧ b < B ∧ CellsU w b off l
def IsB (B : Nat) (w : World) (a : Option Addr) (c : Nat) (l : List (BitVec 8)) : Prop := (l = [] ∧ c ≤ maxLen ∧ (a = none → c = 0)) ∨ ∃ b off, a = some ⟨b, off, none⟩ ∧ l.length ≤ c ∧ c ≤ maxLen ∧ b < B ∧ CellsB w b off l
def vU (x : BitVec 64) : Value := .int .u64 (u x)
def vB (x : BitVec 8) : Value := .int .u8 (ub x)

theorem CellsU.below {B : Nat} {w w' : World} {b off : Nat} {l : List (BitVec 64)} (h : CellsU w b off l) (hb : b < B) (k : Below B w w') : CellsU w' b off l :=
  fun i hi => (k.cell (p := ⟨b, off + i, none⟩) hb).trans (h i hi)
theorem CellsB.below {B : Nat} {w w' : World} {b off : Nat} {l : List (BitVec 8)} (h : CellsB w b off l) (hb : b < B) (k : Below B w w') : CellsB w' b off l :=
  fun i hi => (k.cell (p := ⟨b, off + i, none⟩) hb).trans (h i hi)
theorem IsU.below {B B' : Nat} {w w' : World} {a : Option Addr} {c : Nat} {l : List (BitVec 64)} (h : IsU B w a c l) (k : Below B' w w') (hB : B ≤ B') : IsU B w' a c l := by
  rcases h with h | ⟨b, off, e, h1, h2, hb, hc⟩
  · exact .inl h
  · exact .inr ⟨b, off, e, h1, h2, hb, hc.below (Nat.lt_of_lt_of_le hb hB) k⟩
theorem IsB.below {B B' : Nat} {w w' : World} {a : Option Addr} {c : Nat} {l : List (BitVec 8)} (h : IsB B w a c l) (k : Below B' w w') (hB : B ≤ B') : IsB B w' a c l := by
  rcases h with h | ⟨b, off, e, h1, h2, hb, hc⟩
  · exact .inl h
  · exact .inr ⟨b, off, e, h1, h2, hb, hc.below (Nat.lt_of_lt_of_le hb hB) k⟩
theorem IsU.mono {B B' : Nat} {w : World} {a : Option Addr} {c : Nat} {l : List (BitVec 64)} (h : IsU B w a c l) (hB : B ≤ B') : IsU B' w a c l := by
  rcases h with h | ⟨b, off, e, h1, h2, hb, hc⟩
  · exact .inl h
  · exact .inr ⟨b, off, e, h1, h2, Nat.lt_of_lt_of_le hb hB, hc⟩
theorem IsB.mono {B B' : Nat} {w : World} {a : Option Addr} {c : Nat} {l : List (BitVec 8)} (h : IsB B w a c l) (hB : B ≤ B') : IsB B' w a c l := by
  rcases h with h | ⟨b, off, e, h1, h2, hb, hc⟩
  · exact .inl h
  · exact .inr ⟨b, off, e, h1, h2, Nat.lt_of_lt_of_le hb hB, hc⟩
theorem IsU.quiet {B : Nat} {w w' : World} {a : Option Addr} {c : Nat} {l : List (BitVec 64)} (h : IsU B w a c l) (k : Quiet w w') : IsU B w' a c l := h.below (k.below B) (Nat.le_refl _)
theorem IsB.quiet {B : Nat} {w w' : World} {a : Option Addr} {c : Nat} {l : List (BitVec 8)} (h : IsB B w a c l) (k : Quiet w w') : IsB B w' a c l := h.below (k.below B) (Nat.le_refl _)
theorem getD_lt {α : Type} (l : List α) (i : Nat) (d : α) (h : i < l.length) : l.getD i d = l[i] := by simp [h]
theorem isU_nil (B : Nat) (w : World) : IsU B w none 0 [] := .inl ⟨rfl, by simp, fun _ => rfl⟩
theorem isB_nil (B : Nat) (w : World) : IsB B w none 0 [] := .inl ⟨rfl, by simp, fun _ => rfl⟩
theorem lt_of_cell {w : World} {a : Addr} {v : Value} (h : w.cell? a = some v) : a.block < w.heap.size := by
  unfold World.cell? at h
  split at h
  · rename_i hx
    exact (Array.getElem?_eq_some_iff.1 hx).1
  · cases h
theorem rowOf_cells {k : IntKind} {w : World} {x : Addr} {len cap : Nat} {zs : List Int} (h0 : 0 < len) (hl : len ≤ cap) (hz : zs.length = cap) (hc : ∀ i, i < zs.length → w.cell? (x.add i) = some (.int k (zs.getD i 0))) :
    ∃ b off, x = ⟨b, off, none⟩ ∧ b < w.heap.size ∧ ∀ i, i < len → w.cell? ⟨b, off + i, none⟩ = some (.int k (zs.getD i 0)) := by
  obtain ⟨b, off, spot⟩ := x
  have h := hc 0 (by omega)
  have hspot : spot = none := by simpa [Addr.add] using World.cell?_spot h
  subst hspot
  refine ⟨b, off, rfl, lt_of_cell (by simpa [Addr.add] using h), fun i hi => ?_⟩
  have := hc i (by omega)
  simp only [Addr.add] at this
  by_cases hi0 : i = 0
  · subst hi0; simpa using this
  · simpa [hi0] using this
/-- what came in reads as words. -/
theorem isU_of {w : World} {a : Option Addr} {len cap : Nat} {zs : List Int} (h : (a = none ∧ len = 0 ∧ cap = 0 ∧ zs = []) ∨
    ∃ x, a = some x ∧ len ≤ cap ∧ cap ≤ maxLen ∧ zs.length = cap ∧ (∀ i, i < zs.length → w.cell? (x.add i) = some (.int .u64 (zs.getD i 0))) ∧ ∀ n ∈ zs, (Lit.int .u64 n).wf = true) :
    ∃ l : List (BitVec 64), l.length = len ∧ IsU w.heap.size w a cap l := by
  rcases h with ⟨rfl, rfl, rfl, rfl⟩ | ⟨x, rfl, h1, h2, h3, h4, h5⟩
  · exact ⟨[], rfl, isU_nil _ _⟩
  · by_cases h0 : len = 0
    · exact ⟨[], by simp [h0], .inl ⟨rfl, h2, fun h => by cases h⟩⟩
    · obtain ⟨b, off, rfl, hb, hc⟩ := rowOf_cells (by omega) h1 h3 h4
      refine ⟨(zs.take len).map (BitVec.ofInt 64), by simp; omega, .inr ⟨b, off, rfl, by simp; omega, h2, hb, fun i hi => ?_⟩⟩
      simp at hi
      rw [hc i (by omega)]
      have hm : zs.getD i 0 ∈ zs := by
        rw [getD_lt _ _ _ (by omega)]; exact List.getElem_mem _
      obtain ⟨y, hy⟩ := u_of_wf (h5 _ hm)
      have e : ((zs.take len).map (BitVec.ofInt 64))[i]? = some (BitVec.ofInt 64 (zs.getD i 0)) := by
        rw [List.getElem?_map, List.getElem?_take_of_lt (by omega), List.getElem?_eq_getElem (by omega), getD_lt _ _ _ (by omega)]
        rfl
      rw [e, hy]
      simp [ofInt_u]
/-- what came in reads as bytes. -/
theorem isB_of {w : World} {a : Option Addr} {len cap : Nat} {zs : List Int} (h : (a = none ∧ len = 0 ∧ cap = 0 ∧ zs = []) ∨
    ∃ x, a = some x ∧ len ≤ cap ∧ cap ≤ maxLen ∧ zs.length = cap ∧ (∀ i, i < zs.length → w.cell? (x.add i) = some (.int .u8 (zs.getD i 0))) ∧ ∀ n ∈ zs, (Lit.int .u8 n).wf = true) :
    ∃ l : List (BitVec 8), l.length = len ∧ IsB w.heap.size w a cap l := by
  rcases h with ⟨rfl, rfl, rfl, rfl⟩ | ⟨x, rfl, h1, h2, h3, h4, h5⟩
  · exact ⟨[], rfl, isB_nil _ _⟩
  · by_cases h0 : len = 0
    · exact ⟨[], by simp [h0], .inl ⟨rfl, h2, fun h => by cases h⟩⟩
    · obtain ⟨b, off, rfl, hb, hc⟩ := rowOf_cells (by omega) h1 h3 h4
      refine ⟨(zs.take len).map (BitVec.ofInt 8), by simp; omega, .inr ⟨b, off, rfl, by simp; omega, h2, hb, fun i hi => ?_⟩⟩
      simp at hi
      rw [hc i (by omega)]
      have hm : zs.getD i 0 ∈ zs := by
        rw [getD_lt _ _ _ (by omega)]; exact List.getElem_mem _
      obtain ⟨y, hy⟩ := ub_of_wf (h5 _ hm)
      have e : ((zs.take len).map (BitVec.ofInt 8))[i]? = some (BitVec.ofInt 8 (zs.getD i 0)) := by
        rw [List.getElem?_map, List.getElem?_take_of_lt (by omega), List.getElem?_eq_getElem (by omega), getD_lt _ _ _ (by omega)]
        rfl
      rw [e, hy]
      simp [ofInt_ub]
theorem bd_i64 {n : Int} (h : (Lit.int .i64 n).wf = true) : -9223372036854775808 ≤ n ∧ n ≤ 9223372036854775807 := by
  simpa [Lit.wf, IntKind.bits, IntKind.signed, IntKind.min, IntKind.max] using h
theorem IsU.max {B : Nat} {w : World} {a : Option Addr} {c : Nat} {l : List (BitVec 64)} (h : IsU B w a c l) : l.length ≤ c ∧ c ≤ 9223372036854775807 := by
  rcases h with ⟨rfl, h2, _⟩ | ⟨b, off, e, h1, h2, hb, hc⟩
  · unfold maxLen at h2; exact ⟨by simp, by omega⟩
  · unfold maxLen at h2; exact ⟨h1, by omega⟩
theorem IsB.max {B : Nat} {w : World} {a : Option Addr} {c : Nat} {l : List (BitVec 8)} (h : IsB B w a c l) : l.length ≤ c ∧ c ≤ 9223372036854775807 := by
  rcases h with ⟨rfl, h2, _⟩ | ⟨b, off, e, h1, h2, hb, hc⟩
  · unfold maxLen at h2; exact ⟨by simp, by omega⟩
  · unfold maxLen at h2; exact ⟨h1, by omega⟩
/-- one cell of it. -/
theorem IsU.cell {B : Nat} {w : World} {a : Option Addr} {c : Nat} {l : List (BitVec 64)} (h : IsU B w a c l) {j : Nat} (hj : j < l.length) : ∃ b off, a = some ⟨b, off, none⟩ ∧ w.cell? ⟨b, off + j, none⟩ = some (.int .u64 (u (l[j]?.getD 0#64))) := by
  rcases h with ⟨rfl, _, _⟩ | ⟨b, off, e, h1, h2, hb, hc⟩
  · simp at hj
  · exact ⟨b, off, e, hc j hj⟩
theorem IsB.cell {B : Nat} {w : World} {a : Option Addr} {c : Nat} {l : List (BitVec 8)} (h : IsB B w a c l) {j : Nat} (hj : j < l.length) : ∃ b off, a = some ⟨b, off, none⟩ ∧ w.cell? ⟨b, off + j, none⟩ = some (.int .u8 (ub (l[j]?.getD 0#8))) := by
  rcases h with ⟨rfl, _, _⟩ | ⟨b, off, e, h1, h2, hb, hc⟩
  · simp at hj
  · exact ⟨b, off, e, hc j hj⟩
/-- a row of the call's own, read as words. -/
theorem ownsU_read {w : World} {base : Nat} {e : TypeId} {v : Value} {n : Nat} {l : List (BitVec 64)} (h : w.ownsRow base e 1 v n (l.map vU)) :
    ∃ a c, v = .slice a l.length c ∧ IsU w.heap.size w a c l := by
  have hc := fun g => h.cells (g := g)
  have hlt := h.lt
  obtain ⟨hlen, h | ⟨g, cap, cur, rfl, hg, hb, h1, h2, h3, h4⟩⟩ := h
  · obtain ⟨rfl, h0⟩ := h
    have : l = [] := by cases l with
      | nil => rfl
      | cons a r => simp at hlen; omega
    subst this
    exact ⟨none, 0, rfl, .inl ⟨rfl, by simp, fun _ => rfl⟩⟩
  · have hl : n = l.length := by simp at hlen; omega
    subst hl
    refine ⟨_, cap, rfl, .inr ⟨g, 0, rfl, h1, h2, (hlt g rfl).2, fun i hi => ?_⟩⟩
    have := hc g rfl i (vU (l[i]?.getD 0#64)) (by simp [hi])
    rw [Nat.zero_add]
    rw [addr_add0] at this
    exact this
theorem ownsB_read {w : World} {base : Nat} {e : TypeId} {v : Value} {n : Nat} {l : List (BitVec 8)} (h : w.ownsRow base e 1 v n (l.map vB)) :
    ∃ a c, v = .slice a l.length c ∧ IsB w.heap.size w a c l := by
  have hc := fun g => h.cells (g := g)
  have hlt := h.lt
  obtain ⟨hlen, h | ⟨g, cap, cur, rfl, hg, hb, h1, h2, h3, h4⟩⟩ := h
  · obtain ⟨rfl, h0⟩ := h
    have : l = [] := by cases l with
      | nil => rfl
      | cons a r => simp at hlen; omega
    subst this
    exact ⟨none, 0, rfl, .inl ⟨rfl, by simp, fun _ => rfl⟩⟩
  · have hl : n = l.length := by simp at hlen; omega
    subst hl
    refine ⟨_, cap, rfl, .inr ⟨g, 0, rfl, h1, h2, (hlt g rfl).2, fun i hi => ?_⟩⟩
    have := hc g rfl i (vB (l[i]?.getD 0#8)) (by simp [hi])
    rw [Nat.zero_add]
    rw [addr_add0] at this
    exact this
/-- where a slice of a slice begins: c its capacity, n elements of s cells left out. -/
def subA (a : Option Addr) (c n s : Nat) : Option Addr := if c = n then a else a.map (·.add (n * s))
theorem sliced_sub (a : Option Addr) (l h m s : Nat) : sliced a l h m s = .slice (subA a m l s) (h - l) (m - l) := rfl
theorem ite_sub1 (a : Option Addr) (c n : Nat) : (if c = n then a else Option.map (fun x => x.add n) a) = subA a c n 1 := by
  unfold subA; simp
theorem ite_subS (a : Option Addr) (c n s : Nat) : (if c = n then a else Option.map (fun x => x.add (n * s)) a) = subA a c n s := rfl
theorem subA_zero (a : Option Addr) (c s : Nat) : subA a c 0 s = a := by
  unfold subA
  split
  · rfl
  · cases a <;> simp [Addr.add]
theorem IsU.part {B : Nat} {w : World} {a : Option Addr} {c : Nat} {l : List (BitVec 64)} (h : IsU B w a c l) (i n : Nat) (hi : i ≤ n) (hn : n ≤ l.length) : IsU B w (subA a c i 1) (c - i) ((l.take n).drop i) := by
  rcases h with ⟨rfl, h1, h2⟩ | ⟨b, off, rfl, h1, h2, hb, hc⟩
  · refine .inl ⟨by simp, by omega, fun h => ?_⟩
    simp at hn
    have hi0 : i = 0 := by omega
    subst hi0
    rw [subA_zero] at h
    have := h2 h
    omega
  · by_cases hic : c = i
    · refine .inl ⟨by simp; omega, by omega, fun h => ?_⟩
      simp [subA, hic] at h
    · refine .inr ⟨b, off + i, ?_, by simp; omega, by omega, hb, fun j hj => ?_⟩
      · simp only [subA, hic, if_false, Option.map_some, Addr.add, Nat.mul_one]
        split
        · subst i; rfl
        · rfl
      · simp at hj
        have := hc (i + j) (by omega)
        rw [← Nat.add_assoc] at this
        rw [this, List.getElem?_drop, List.getElem?_take_of_lt (by omega)]
theorem IsB.part {B : Nat} {w : World} {a : Option Addr} {c : Nat} {l : List (BitVec 8)} (h : IsB B w a c l) (i n : Nat) (hi : i ≤ n) (hn : n ≤ l.length) : IsB B w (subA a c i 1) (c - i) ((l.take n).drop i) := by
  rcases h with ⟨rfl, h1, h2⟩ | ⟨b, off, rfl, h1, h2, hb, hc⟩
  · refine .inl ⟨by simp, by omega, fun h => ?_⟩
    simp at hn
    have hi0 : i = 0 := by omega
    subst hi0
    rw [subA_zero] at h
    have := h2 h
    omega
  · by_cases hic : c = i
    · refine .inl ⟨by simp; omega, by omega, fun h => ?_⟩
      simp [subA, hic] at h
    · refine .inr ⟨b, off + i, ?_, by simp; omega, by omega, hb, fun j hj => ?_⟩
      · simp only [subA, hic, if_false, Option.map_some, Addr.add, Nat.mul_one]
        split
        · subst i; rfl
        · rfl
      · simp at hj
        have := hc (i + j) (by omega)
        rw [← Nat.add_assoc] at this
        rw [this, List.getElem?_drop, List.getElem?_take_of_lt (by omega)]
theorem IsU.drop {B : Nat} {w : World} {a : Option Addr} {c : Nat} {l : List (BitVec 64)} (h : IsU B w a c l) (i : Nat) (hi : i ≤ l.length) : IsU B w (subA a c i 1) (c - i) (l.drop i) := by
  have := h.part i l.length hi (Nat.le_refl _)
  rwa [List.take_length] at this
theorem IsU.take {B : Nat} {w : World} {a : Option Addr} {c : Nat} {l : List (BitVec 64)} (h : IsU B w a c l) (n : Nat) (hn : n ≤ l.length) : IsU B w a c (l.take n) := by
  have := h.part 0 n (Nat.zero_le _) hn
  rwa [subA_zero, Nat.sub_zero, List.drop_zero] at this
theorem IsB.drop {B : Nat} {w : World} {a : Option Addr} {c : Nat} {l : List (BitVec 8)} (h : IsB B w a c l) (i : Nat) (hi : i ≤ l.length) : IsB B w (subA a c i 1) (c - i) (l.drop i) := by
  have := h.part i l.length hi (Nat.le_refl _)
  rwa [List.take_length] at this
theorem IsB.take {B : Nat} {w : World} {a : Option Addr} {c : Nat} {l : List (BitVec 8)} (h : IsB B w a c l) (n : Nat) (hn : n ≤ l.length) : IsB B w a c (l.take n) := by
  have := h.part 0 n (Nat.zero_le _) hn
  rwa [subA_zero, Nat.sub_zero, List.drop_zero] at this
/-- a literal's block. -/
theorem isU_lit (w : World) (e : TypeId) (l : List (BitVec 64)) (cs : Array Value) (hcs : cs.toList = l.map vU) (hl : l.length ≤ 1000000) : IsU (w.heap.size + 1) (w.alloc (.cells cs e)) (some ⟨w.heap.size, 0, none⟩) l.length l := by
  refine .inr ⟨_, 0, rfl, Nat.le_refl _, by unfold maxLen; omega, by omega, fun i hi => ?_⟩
  have hsz : i < cs.size := by rw [← Array.length_toList, hcs]; simpa using hi
  rw [World.cell?_alloc_at _ _ _ _ rfl, Nat.zero_add]
  have e1 : cs[i]? = cs.toList[i]? := by simp
  rw [e1, hcs]
  simp [hi, vU]
theorem lit1 (w : World) (x : BitVec 64) (e : TypeId) : IsU (w.heap.size + 1) (w.alloc (.cells #[.int .u64 (u x)] e)) (some ⟨w.heap.size, 0, none⟩) 1 [x] :=
  isU_lit w e [x] _ rfl (by simp)
theorem cells_of {α : Type} {l : List α} {news : List Value} {f : α → Value} {w : World} {b off : Nat} (hn : news = l.map f) (hc : ∀ i (h : i < l.length), w.cell? ⟨b, off + i, none⟩ = some (f l[i])) :
    ∀ j v, news[j]? = some v → w.cell? ((⟨b, off, none⟩ : Addr).add j) = some v := by
  subst hn
  intro j v hj
  rw [List.getElem?_map] at hj
  cases h : l[j]? with
  | none => rw [h] at hj; simp at hj
  | some x =>
    rw [h] at hj
    simp at hj
    subst hj
    obtain ⟨hlt, rfl⟩ := List.getElem?_eq_some_iff.1 h
    have := hc j hlt
    simp only [Addr.add]
    by_cases h0 : j = 0
    · subst h0; simpa using this
    · simpa [h0] using this
theorem CellsU.news {w : World} {b off : Nat} {l : List (BitVec 64)} (h : CellsU w b off l) : ∀ j v, (l.map vU)[j]? = some v → w.cell? ((⟨b, off, none⟩ : Addr).add j) = some v :=
  cells_of rfl fun i hi => by have := h i hi; simpa [hi, vU] using this
theorem CellsB.news {w : World} {b off : Nat} {l : List (BitVec 8)} (h : CellsB w b off l) : ∀ j v, (l.map vB)[j]? = some v → w.cell? ((⟨b, off, none⟩ : Addr).add j) = some v :=
  cells_of rfl fun i hi => by have := h i hi; simpa [hi, vB] using this
theorem one_vU (l : List (BitVec 64)) : ∀ y ∈ l.map vU, y.oneCell' = true := by
  intro y hy; simp only [List.mem_map] at hy; obtain ⟨x, _, rfl⟩ := hy; rfl
theorem one_vB (l : List (BitVec 8)) : ∀ y ∈ l.map vB, y.oneCell' = true := by
  intro y hy; simp only [List.mem_map] at hy; obtain ⟨x, _, rfl⟩ := hy; rfl

/-- a literal's block as a row of the call's own. -/
theorem own_lit (W : World) (e : TypeId) (cs : Array Value) (B : Nat) (hB : B ≤ W.heap.size) (hs : cs.size ≤ 1000000) :
    (W.alloc (.cells cs e)).ownsRow B e 1 (.slice (some ⟨W.heap.size, 0, none⟩) cs.size cs.size) cs.size cs.toList :=
  World.ownsRow_lit (base := B) (e := e) (size := 1) W cs cs.size hB (by unfold maxLen; omega) (by omega)
/-- a whole slice appended to a row of the call's own: what it holds is given as values. -/
theorem appN {P : Program} {t e : TypeId} {i : TypeInfo} {z : Value} {bytes : Nat} (ht : P.underlying t = some (.slice e)) (hi : P.info? e = some i) (hz : i.zero = some z) (hsize : i.size = 1) (hby : i.bytes = bytes) (hzs : z.cells.size = 1)
    {ops : Array Oper} {rest : List Oper} {o : Oper} {a : Act} {Q : Exit → Act → World → Prop} {s x : Operand} {base : Nat} {v : Value} {n : Nat} {xs : List Value} {w0 : World} {ad : Option Addr} {m c : Nat} {news : List Value}
    (hown : w0.ownsRow base e 1 v n xs) (hl : news.length = m) (hnews : (ad = none ∧ c = 0 ∧ news = []) ∨ ∃ q, ad = some q ∧ ∀ j u, news[j]? = some u → w0.cell? (q.add j) = some u) (h1 : ∀ u ∈ news, u.oneCell' = true)
    (hgd : Region.wanted o (yielded ops a.tmps) = true) (ho : o.op = .call { callee := .builtin .append, args := #[s, x], argTypes := #[t, t] })
    (hs : a.eval s = v) (hx : a.eval x = .slice ad m c) (hn : (n + m) * bytes ≤ 140737488355328) (hn2 : n + m ≤ 140737488355328) (hbase : base ≤ w0.heap.size)
    (h : ∀ v' w', w'.ownsRow base e 1 v' (n + m) (xs ++ news) → Below base w0 w' → wpList P ops Q rest (a.put o.dst v') w') :
    wpList P ops Q (o :: rest) a w0 := by
  rcases hnews with ⟨rfl, rfl, rfl⟩ | ⟨q, rfl, hq⟩
  · simp at hl
    subst hl
    refine wpList_want hgd fun K hK => ?_
    have hrun := run_append_owned_none (P := P) (w := w0) base t o.type e i 1 ht hi v n xs hown
    unfold Oper.wp
    simp [execOp, ho, resolve, invoke, builtin, hs, hx, hrun, Result.andThen]
    exact hK _ _ (h v w0 (by simpa using hown) (Below.refl _ _))
  · refine wpList_want hgd fun K hK => wp_append_own w0 s x t ho base e i z 1 bytes ht hi hz hsize hby hzs (by decide) v n xs hs hown q m c news hx (by omega) hq h1 (by unfold maxLen; omega) hn hbase ?_
    intro v' w' h1 hg _
    exact hK _ _ (h v' w' h1 ((Below.refl base w0).grown hg hbase fun k hk => (hown.lt k hk).1))
theorem IsU.news {B : Nat} {w : World} {a : Option Addr} {c : Nat} {l : List (BitVec 64)} (h : IsU B w a c l) : (a = none ∧ c = 0 ∧ l.map vU = []) ∨ ∃ q, a = some q ∧ ∀ j u, (l.map vU)[j]? = some u → w.cell? (q.add j) = some u := by
  rcases h with ⟨rfl, _, h2⟩ | ⟨b, off, e, h1, h2, hb, hc⟩
  · cases a with
    | none => exact .inl ⟨rfl, h2 rfl, rfl⟩
    | some q => exact .inr ⟨q, rfl, fun j u hj => by simp at hj⟩
  · exact .inr ⟨_, e, hc.news⟩
theorem IsB.news {B : Nat} {w : World} {a : Option Addr} {c : Nat} {l : List (BitVec 8)} (h : IsB B w a c l) : (a = none ∧ c = 0 ∧ l.map vB = []) ∨ ∃ q, a = some q ∧ ∀ j u, (l.map vB)[j]? = some u → w.cell? (q.add j) = some u := by
  rcases h with ⟨rfl, _, h2⟩ | ⟨b, off, e, h1, h2, hb, hc⟩
  · cases a with
    | none => exact .inl ⟨rfl, h2 rfl, rfl⟩
    | some q => exact .inr ⟨q, rfl, fun j u hj => by simp at hj⟩
  · exact .inr ⟨_, e, hc.news⟩
/-- a row of the call's own that holds these words, bytes. -/
def OwnU (w : World) (B : Nat) (e : TypeId) (v : Value) (l : List (BitVec 64)) : Prop := w.ownsRow B e 1 v l.length (l.map vU)
def OwnB (w : World) (B : Nat) (e : TypeId) (v : Value) (l : List (BitVec 8)) : Prop := w.ownsRow B e 1 v l.length (l.map vB)
theorem OwnU.read {w : World} {B : Nat} {e : TypeId} {v : Value} {l : List (BitVec 64)} (h : OwnU w B e v l) : ∃ a c, v = .slice a l.length c ∧ IsU w.heap.size w a c l := ownsU_read h
theorem OwnB.read {w : World} {B : Nat} {e : TypeId} {v : Value} {l : List (BitVec 8)} (h : OwnB w B e v l) : ∃ a c, v = .slice a l.length c ∧ IsB w.heap.size w a c l := ownsB_read h
theorem OwnU.isU {w : World} {B : Nat} {e : TypeId} {a : Option Addr} {n c : Nat} {l : List (BitVec 64)} (h : OwnU w B e (.slice a n c) l) : l.length = n ∧ IsU w.heap.size w a c l := by
  obtain ⟨a', c', he, hr⟩ := h.read
  simp only [Value.slice.injEq] at he
  obtain ⟨rfl, rfl, rfl⟩ := he
  exact ⟨rfl, hr⟩
theorem OwnB.isB {w : World} {B : Nat} {e : TypeId} {a : Option Addr} {n c : Nat} {l : List (BitVec 8)} (h : OwnB w B e (.slice a n c) l) : l.length = n ∧ IsB w.heap.size w a c l := by
  obtain ⟨a', c', he, hr⟩ := h.read
  simp only [Value.slice.injEq] at he
  obtain ⟨rfl, rfl, rfl⟩ := he
  exact ⟨rfl, hr⟩
theorem ownsRow_below {w w' : World} {B : Nat} {e : TypeId} {size : Nat} {v : Value} {n : Nat} {xs : List Value} (h : w.ownsRow B e size v n xs) (k : Below w.heap.size w w') : w'.ownsRow B e size v n xs := by
  have hlt := h.lt
  obtain ⟨h0, h | ⟨g, cap, cur, rfl, hg, hb, h1, h2, h3, h4⟩⟩ := h
  · exact ⟨h0, .inl h⟩
  · refine ⟨h0, .inr ⟨g, cap, cur, rfl, hg, ?_, h1, h2, h3, h4⟩⟩
    rw [k.block g (hlt g rfl).2]; exact hb
theorem OwnU.below {w w' : World} {B : Nat} {e : TypeId} {v : Value} {l : List (BitVec 64)} (h : OwnU w B e v l) (k : Below w.heap.size w w') : OwnU w' B e v l := ownsRow_below h k
theorem OwnB.below {w w' : World} {B : Nat} {e : TypeId} {v : Value} {l : List (BitVec 8)} (h : OwnB w B e v l) (k : Below w.heap.size w w') : OwnB w' B e v l := ownsRow_below h k
theorem OwnU.quiet {w w' : World} {B : Nat} {e : TypeId} {v : Value} {l : List (BitVec 64)} (h : OwnU w B e v l) (k : Quiet w w') : OwnU w' B e v l := ownsRow_below h (k.below _)
theorem OwnB.quiet {w w' : World} {B : Nat} {e : TypeId} {v : Value} {l : List (BitVec 8)} (h : OwnB w B e v l) (k : Quiet w w') : OwnB w' B e v l := ownsRow_below h (k.below _)
theorem set_map {α : Type} (f : α → Value) (l : List α) (i : Nat) (x : α) : (l.map f).set i (f x) = (l.set i x).map f := by rw [List.map_set]
/-- a row of the call's own that is not empty: where it lies; its cells; a store into it. -/
theorem OwnU.row {w : World} {B : Nat} {e : TypeId} {v : Value} {l : List (BitVec 64)} (h : OwnU w B e v l) (h0 : 0 < l.length) :
    ∃ g cap, v = .slice (some ⟨g, 0, none⟩) l.length cap ∧ B ≤ g ∧ g < w.heap.size ∧ l.length ≤ cap ∧ cap ≤ maxLen ∧ (∀ i, i < l.length → w.cell? ⟨g, i, none⟩ = some (.int .u64 (u (l[i]?.getD 0#64)))) ∧ (∀ i, w.frozen? ⟨g, i, none⟩ = false) ∧
      ∀ i x, OwnU (w.setCell ⟨g, i, none⟩ (.int .u64 (u x))) B e v (l.set i x) ∧ Below B w (w.setCell ⟨g, i, none⟩ (.int .u64 (u x))) := by
  have hr := h
  have hlt := World.ownsRow.lt h
  obtain ⟨hlen, h' | ⟨g, cap, cur, rfl, hg, hb, h1, h2, h3, h4⟩⟩ := hr
  · omega
  · refine ⟨g, cap, rfl, hg, (hlt g rfl).2, h1, h2, fun i hi => ?_, fun i => World.ownsRow.frozenAt h i, fun i x => ⟨?_, ?_⟩⟩
    · have := World.ownsRow.cellAt h i (by omega)
      rw [this]
      simp [hi, vU]
    · have := (World.ownsRow.stored h i (vU x)).1
      rw [set_map] at this
      unfold OwnU
      rw [List.length_set]
      exact this
    · exact (Below.refl B w).setCell hg _
theorem OwnB.row {w : World} {B : Nat} {e : TypeId} {v : Value} {l : List (BitVec 8)} (h : OwnB w B e v l) (h0 : 0 < l.length) :
    ∃ g cap, v = .slice (some ⟨g, 0, none⟩) l.length cap ∧ B ≤ g ∧ g < w.heap.size ∧ l.length ≤ cap ∧ cap ≤ maxLen ∧ (∀ i, i < l.length → w.cell? ⟨g, i, none⟩ = some (.int .u8 (ub (l[i]?.getD 0#8)))) ∧ (∀ i, w.frozen? ⟨g, i, none⟩ = false) ∧
      ∀ i x, OwnB (w.setCell ⟨g, i, none⟩ (.int .u8 (ub x))) B e v (l.set i x) ∧ Below B w (w.setCell ⟨g, i, none⟩ (.int .u8 (ub x))) := by
  have hr := h
  have hlt := World.ownsRow.lt h
  obtain ⟨hlen, h' | ⟨g, cap, cur, rfl, hg, hb, h1, h2, h3, h4⟩⟩ := hr
  · omega
  · refine ⟨g, cap, rfl, hg, (hlt g rfl).2, h1, h2, fun i hi => ?_, fun i => World.ownsRow.frozenAt h i, fun i x => ⟨?_, ?_⟩⟩
    · have := World.ownsRow.cellAt h i (by omega)
      rw [this]
      simp [hi, vB]
    · have := (World.ownsRow.stored h i (vB x)).1
      rw [set_map] at this
      unfold OwnB
      rw [List.length_set]
      exact this
    · exact (Below.refl B w).setCell hg _
theorem own_made (W : World) (e : TypeId) (n B : Nat) (hB : B ≤ W.heap.size) (hn : n ≤ 1000000) :
    OwnU (W.alloc (.cells (madeCells #[.int .u64 0] n) e)) B e (.slice (some ⟨W.heap.size, 0, none⟩) n n) (List.replicate n 0#64) := by
  have h := own_lit W e (madeCells #[.int .u64 0] n) B hB (by rw [size_madeCells]; simpa using hn)
  rw [toList_madeCells_one] at h
  simp only [size_madeCells] at h
  have e1 : List.replicate n (Value.int .u64 0) = (List.replicate n 0#64).map vU := by rw [List.map_replicate]; rfl
  unfold OwnU
  rw [List.length_replicate, ← e1]
  simpa using h
/-- 'append(row, x)': one word more on a row of the call's own. -/
theorem app1U {P : Program} {t e : TypeId} {i : TypeInfo} {z : Value} (ht : P.underlying t = some (.slice e)) (hi : P.info? e = some i) (hz : i.zero = some z) (hsize : i.size = 1) (hby : i.bytes = 8) (hzs : z.cells.size = 1)
    {ops : Array Oper} {rest : List Oper} {o : Oper} {a : Act} {Q : Exit → Act → World → Prop} {s x : Operand} {B : Nat} {v : Value} {l : List (BitVec 64)} {w0 : World} {y : BitVec 64}
    (hown : OwnU w0 B e v l) (hm : l.length ≤ 1000000) (hB : B ≤ w0.heap.size) (hgd : Region.wanted o (yielded ops a.tmps) = true)
    (ho : o.op = .call { callee := .builtin .append, args := #[s, x], argTypes := #[t, t] })
    (hs : a.eval s = v) (hx : a.eval x = .slice (some ⟨w0.heap.size, 0, none⟩) 1 1)
    (h : ∀ v' w' l', Hid (l' = l ++ [y]) → OwnU w' B e v' l' → Below B w0 w' → wpList P ops Q rest (a.put o.dst v') w') :
    wpList P ops Q (o :: rest) a (w0.alloc (.cells #[.int .u64 (u y)] e)) := by
  refine app1 ht hi hz hsize hby hzs hown hgd ho hs hx rfl (by omega) (by omega) hB ?_
  intro v' w' h1 h2
  refine h v' w' _ (hid rfl) ?_ h2
  show w'.ownsRow B e 1 v' (l ++ [y]).length ((l ++ [y]).map vU)
  rw [List.length_append, List.map_append]
  exact h1
/-- 'append(row, x)': one byte more on a row of the call's own. -/
theorem app1B {P : Program} {t e : TypeId} {i : TypeInfo} {z : Value} (ht : P.underlying t = some (.slice e)) (hi : P.info? e = some i) (hz : i.zero = some z) (hsize : i.size = 1) (hby : i.bytes = 1) (hzs : z.cells.size = 1)
    {ops : Array Oper} {rest : List Oper} {o : Oper} {a : Act} {Q : Exit → Act → World → Prop} {s x : Operand} {B : Nat} {v : Value} {l : List (BitVec 8)} {w0 : World} {y : BitVec 8}
    (hown : OwnB w0 B e v l) (hm : l.length ≤ 100000000) (hB : B ≤ w0.heap.size) (hgd : Region.wanted o (yielded ops a.tmps) = true)
    (ho : o.op = .call { callee := .builtin .append, args := #[s, x], argTypes := #[t, t] })
    (hs : a.eval s = v) (hx : a.eval x = .slice (some ⟨w0.heap.size, 0, none⟩) 1 1)
    (h : ∀ v' w' l', Hid (l' = l ++ [y]) → OwnB w' B e v' l' → Below B w0 w' → wpList P ops Q rest (a.put o.dst v') w') :
    wpList P ops Q (o :: rest) a (w0.alloc (.cells #[.int .u8 (ub y)] e)) := by
  refine app1 ht hi hz hsize hby hzs hown hgd ho hs hx rfl (by omega) (by omega) hB ?_
  intro v' w' h1 h2
  refine h v' w' _ (hid rfl) ?_ h2
  show w'.ownsRow B e 1 v' (l ++ [y]).length ((l ++ [y]).map vB)
  rw [List.length_append, List.map_append]
  exact h1
/-- 'append(literal, l...)': a new row; B: where the call's own memory begins. -/
theorem appLitU {P : Program} {t e : TypeId} {i : TypeInfo} {z : Value} (ht : P.underlying t = some (.slice e)) (hi : P.info? e = some i) (hz : i.zero = some z) (hsize : i.size = 1) (hby : i.bytes = 8) (hzs : z.cells.size = 1)
    {ops : Array Oper} {rest : List Oper} {o : Oper} {a : Act} {Q : Exit → Act → World → Prop} {s x : Operand} {W : World} {cs : Array Value} {ad : Option Addr} {n c B0 : Nat} {l : List (BitVec 64)}
    (B : Nat) (hB : B ≤ W.heap.size) (hcs : cs.size ≤ 1000) (hl : IsU B0 W ad c l) (hB0 : B0 ≤ W.heap.size) (hn : l.length = n) (hm : n ≤ 1000000) (pre : List (BitVec 64)) (hpre : cs.toList = pre.map vU)
    (hgd : Region.wanted o (yielded ops a.tmps) = true) (ho : o.op = .call { callee := .builtin .append, args := #[s, x], argTypes := #[t, t] })
    (hs : a.eval s = .slice (some ⟨W.heap.size, 0, none⟩) cs.size cs.size) (hx : a.eval x = .slice ad n c)
    (h : ∀ v' w' l', Hid (l' = pre ++ l) → OwnU w' B e v' l' → Below B W w' → wpList P ops Q rest (a.put o.dst v') w') :
    wpList P ops Q (o :: rest) a (W.alloc (.cells cs e)) := by
  have hl' : IsU B0 (W.alloc (.cells cs e)) ad c l := hl.below ((Below.refl _ _).alloc (Nat.le_refl _) _) hB0
  have hbase : B ≤ (W.alloc (.cells cs e)).heap.size := by simp; omega
  refine appN ht hi hz hsize hby hzs (own_lit W e cs B hB (by omega)) (by simpa using hn) hl'.news (one_vU l) hgd ho hs hx (by omega) (by omega) hbase ?_
  intro v' w' h1 h2
  have hp : cs.size = pre.length := by rw [← Array.length_toList, hpre]; simp
  refine h v' w' _ (hid rfl) ?_ (((Below.refl B W).alloc hB _).trans h2)
  show w'.ownsRow B e 1 v' (pre ++ l).length ((pre ++ l).map vU)
  rw [List.length_append, List.map_append, ← hpre, ← hp, hn]
  exact h1
/-- 'append(literal, l...)': a new row; B: where the call's own memory begins. -/
theorem appLitB {P : Program} {t e : TypeId} {i : TypeInfo} {z : Value} (ht : P.underlying t = some (.slice e)) (hi : P.info? e = some i) (hz : i.zero = some z) (hsize : i.size = 1) (hby : i.bytes = 1) (hzs : z.cells.size = 1)
    {ops : Array Oper} {rest : List Oper} {o : Oper} {a : Act} {Q : Exit → Act → World → Prop} {s x : Operand} {W : World} {cs : Array Value} {ad : Option Addr} {n c B0 : Nat} {l : List (BitVec 8)}
    (B : Nat) (hB : B ≤ W.heap.size) (hcs : cs.size ≤ 1000) (hl : IsB B0 W ad c l) (hB0 : B0 ≤ W.heap.size) (hn : l.length = n) (hm : n ≤ 1000000) (pre : List (BitVec 8)) (hpre : cs.toList = pre.map vB)
    (hgd : Region.wanted o (yielded ops a.tmps) = true) (ho : o.op = .call { callee := .builtin .append, args := #[s, x], argTypes := #[t, t] })
    (hs : a.eval s = .slice (some ⟨W.heap.size, 0, none⟩) cs.size cs.size) (hx : a.eval x = .slice ad n c)
    (h : ∀ v' w' l', Hid (l' = pre ++ l) → OwnB w' B e v' l' → Below B W w' → wpList P ops Q rest (a.put o.dst v') w') :
    wpList P ops Q (o :: rest) a (W.alloc (.cells cs e)) := by
  have hl' : IsB B0 (W.alloc (.cells cs e)) ad c l := hl.below ((Below.refl _ _).alloc (Nat.le_refl _) _) hB0
  have hbase : B ≤ (W.alloc (.cells cs e)).heap.size := by simp; omega
  refine appN ht hi hz hsize hby hzs (own_lit W e cs B hB (by omega)) (by simpa using hn) hl'.news (one_vB l) hgd ho hs hx (by omega) (by omega) hbase ?_
  intro v' w' h1 h2
  have hp : cs.size = pre.length := by rw [← Array.length_toList, hpre]; simp
  refine h v' w' _ (hid rfl) ?_ (((Below.refl B W).alloc hB _).trans h2)
  show w'.ownsRow B e 1 v' (pre ++ l).length ((pre ++ l).map vB)
  rw [List.length_append, List.map_append, ← hpre, ← hp, hn]
  exact h1
end Go.Proofs.Ytpbooljmkplnhaa

/-
  PLAIN: whatever comes in: numbers, words, bools, texts, structs and rows of them, in one another.
-/
import Derived.Test.YtcjddojcfdeflaaLnN
set_option linter.unusedSimpArgs false
namespace Go.Proofs.Ytcjddojcfdeflaa
open Go.RowKit Ev Go.ChangeShapes Go.WideShapes Go.Deep
/-- the memory that a law begins with, a row more -/
theorem begin_row {w : World} {st : St} {ρ : Rho} (hb : Begin w st ρ) {b off z n c : Nat} {cells : Array Value} {ty : TypeId} {fr : Nat × Nat} {xs : List V} (hl : xs.length = n * z) (hw : w.heap[b]? = some (.cells cells ty fr)) (ho : off + n * z ≤ cells.size)
    (hc : ∀ j v, xs[j]? = some v → v.one = true ∧ ∃ y, cells[off + j]? = some y ∧ Rel ρ v y) :
    ∃ st' ρ', Begin w st' ρ' ∧ ρ.le ρ' ∧ Rel ρ' (.sl st.nx 0 n c) (.slice (some ⟨b, off, none⟩) n c) ∧ Ext st.nx st st' ∧ RdRow st' (.sl st.nx 0 n c) z n xs ∧ ∃ sz t, st'.h.get st.nx = some (.cs roT sz t) := by
  have hfr : ρ st.nx = none := hb.fresh _ (Nat.le_refl _)
  have hle : ρ.le (upd ρ st.nx ⟨b, off, cells.size - off⟩) := fun m q e => by
    by_cases hm : m = st.nx
    · subst hm; rw [hfr] at e; cases e
    · rw [upd_ne _ _ hm]; exact e
  have hext := (Ext.refl st.nx st).new (Nat.le_refl _) (.cs roT (n * z) (sets xs 0 .lf))
  have hlt : b < w.heap.size := by
    rcases Nat.lt_or_ge b w.heap.size with h | h
    · exact h
    · rw [Array.getElem?_eq_none h] at hw; cases hw
  have hcell : ∀ j v, (sets xs 0 (.lf : T V)).get j = some v → xs[j]? = some v ∧ j < n * z := fun j v hv => by
    rw [get_sets] at hv
    by_cases hj : 0 ≤ j ∧ j < 0 + xs.length
    · rw [if_pos hj] at hv; exact ⟨hv, by omega⟩
    · rw [if_neg hj] at hv; simp at hv
  refine ⟨⟨st.nx + 1, st.h.set st.nx (.cs roT (n * z) (sets xs 0 .lf))⟩, upd ρ st.nx ⟨b, off, cells.size - off⟩, ⟨hext.wf hb.wf, fun m b' hm => ?_, ⟨Nat.le_refl _, fun m b' hm => ?_, fun m m' b' b'' r r' hm _ hl => ?_, hb.real.kept⟩, fun m hm => ?_⟩, hle, ?_, hext, ⟨hl, .inr (.inl ⟨st.nx, 0, c, roT, n * z, sets xs 0 .lf, rfl, Nat.lt_succ_self _, T.get_set_same _ _ _, by omega, fun j v hj => ?_⟩)⟩, _, _, T.get_set_same _ _ _⟩
  · have hm' : (st.h.set st.nx (.cs roT (n * z) (sets xs 0 .lf))).get m = some b' := hm
    rw [T.get_set] at hm'
    split at hm'
    · injection hm' with hm'; subst hm'; exact fun h => h rfl
    · exact hb.still m b' hm'
  · have hm' : (st.h.set st.nx (.cs roT (n * z) (sets xs 0 .lf))).get m = some b' := hm
    rw [T.get_set] at hm'
    split at hm'
    · rename_i e
      injection hm' with hm'; subst hm' e
      refine ⟨_, upd_same _ _ _, fun h => absurd rfl h, hlt, ty, cells, fr, hw, by simp only; omega, by simp only; omega, fun h => absurd rfl h, fun j v hv => ?_⟩
      obtain ⟨h1, h2⟩ := hcell j v hv
      obtain ⟨h3, y, h4, h5⟩ := hc j v h1
      exact ⟨by omega, h3, y, h4, Rel.mono hle _ _ h5⟩
    · obtain ⟨r, h1, h2, h3, h4⟩ := hb.real.blk m b' hm'
      exact ⟨r, hle _ _ h1, h2, h3, Blk.mono hle h4⟩
  · have hm' : (st.h.set st.nx (.cs roT (n * z) (sets xs 0 .lf))).get m = some b' := hm
    rw [T.get_set] at hm'
    split at hm'
    · injection hm' with hm'; subst hm'; exact absurd rfl hl
    · exact absurd hl (hb.still m b' hm')
  · have h1 : st.nx + 1 ≤ m := hm
    rw [upd_ne _ _ (by omega)]
    exact hb.fresh m (by omega)
  · simp only [Rel]
    exact ⟨_, upd_same _ _ _, by simp⟩
  · show (sets xs 0 (.lf : T V)).get (0 + j) = some v
    rw [get_sets, if_pos ⟨by omega, by have := (List.getElem?_eq_some_iff.1 hj).1; omega⟩]
    simpa using hj
/-- what comes in: how it stands in the world, how it stands in the evaluator's memory -/
structure Codec (α : Type) where
  z : Nat
  rel : World → (Nat → Value) → α → Prop
  at' : St → (Nat → V) → α → Prop
  enter : ∀ {w st ρ y a}, Begin w st ρ → rel w y a → ∃ (st' : St) (ρ' : Rho) (x : Nat → V), Begin w st' ρ' ∧ ρ.le ρ' ∧ (∀ j, j < z → (x j).one = true ∧ Rel ρ' (x j) (y j)) ∧ Ext st.nx st st' ∧ at' st' x a
  ext : ∀ {st st' x a}, at' st x a → Ext st.nx st st' → at' st' x a
  loc : ∀ {w y y' a}, (∀ j, j < z → y j = y' j) → rel w y a → rel w y' a
  locA : ∀ {st x x' a}, (∀ j, j < z → x j = x' j) → at' st x a → at' st x' a
/-- a cell that names nothing -/
def konst {α : Type} (f : α → V) (g : α → Value) (ok : α → Prop) (h : ∀ a, ok a → (f a).one = true ∧ ∀ ρ, Rel ρ (f a) (g a)) : Codec α where
  z := 1
  rel := fun _ y a => y 0 = g a ∧ ok a
  at' := fun _ x a => x 0 = f a ∧ ok a
  enter := fun {w st ρ y a} hb hr => ⟨st, ρ, fun _ => f a, hb, Rho.le_refl _, fun j hj => by
    obtain rfl : j = 0 := by omega
    rw [hr.1]; exact ⟨(h a hr.2).1, (h a hr.2).2 ρ⟩, Ext.refl _ _, rfl, hr.2⟩
  ext := fun h _ => h
  loc := fun e h => ⟨by rw [← e 0 (by omega)]; exact h.1, h.2⟩
  locA := fun e h => ⟨by rw [← e 0 (by omega)]; exact h.1, h.2⟩
def intC (k : IntKind) : Codec Int := konst (fun n => .int k n) (fun n => .int k n) (fun n => (Lit.int k n).wf = true) fun a _ => ⟨rfl, fun ρ => by simp [Rel, Value.oneCell']⟩
def iC : Codec Int := konst (fun n => .int .i64 n) (fun n => .int .i64 n) (fun n => -9223372036854775808 ≤ n ∧ n ≤ 9223372036854775807) fun a _ => ⟨rfl, fun ρ => by simp [Rel, Value.oneCell']⟩
def wC : Codec (BitVec 64) := konst wd (fun b => .int .u64 (b.toNat : Int)) (fun _ => True) fun a _ => ⟨rfl, fun ρ => by simp [wd, Rel, Value.oneCell']⟩
def bC : Codec Bool := konst (fun b => .bool b) (fun b => .bool b) (fun _ => True) fun a _ => ⟨rfl, fun ρ => by simp [Rel, Value.oneCell']⟩
def sC : Codec (List Nat) := konst (fun l => .s l) (fun l => .string ⟨⟨l.map UInt8.ofNat⟩⟩) (fun l => (∀ b, b ∈ l → b < 256) ∧ l.length ≤ maxLen) fun a h => ⟨rfl, fun ρ => by simp only [Rel]; exact ⟨trivial, h.1⟩⟩
/-- nothing -/
def unitC : Codec Unit where
  z := 0
  rel := fun _ _ _ => True
  at' := fun _ _ _ => True
  enter := fun {w st ρ y a} hb _ => ⟨st, ρ, fun _ => V.u, hb, Rho.le_refl _, fun j hj => by omega, Ext.refl _ _, trivial⟩
  ext := fun _ _ => trivial
  loc := fun _ _ => trivial
  locA := fun _ _ => trivial
/-- side by side -/
def pairC {α β : Type} (c : Codec α) (d : Codec β) : Codec (α × β) where
  z := c.z + d.z
  rel := fun w y a => c.rel w y a.1 ∧ d.rel w (fun j => y (c.z + j)) a.2
  at' := fun st x a => c.at' st x a.1 ∧ d.at' st (fun j => x (c.z + j)) a.2
  enter := fun {w st ρ y a} hb hr => by
    obtain ⟨s1, r1, x1, b1, l1, q1, e1, a1⟩ := c.enter hb hr.1
    obtain ⟨s2, r2, x2, b2, l2, q2, e2, a2⟩ := d.enter b1 hr.2
    refine ⟨s2, r2, fun j => if j < c.z then x1 j else x2 (j - c.z), b2, fun n r h => l2 n r (l1 n r h), fun j hj => ?_, e1.trans (e2.mono e1.le), c.locA (fun j hj => by show x1 j = if j < c.z then x1 j else _; rw [if_pos hj]) (c.ext a1 e2), d.locA (fun j hj => by simp only; rw [if_neg (by omega), Nat.add_sub_cancel_left]) a2⟩
    by_cases hc : j < c.z
    · simp only [if_pos hc]
      exact ⟨(q1 j hc).1, Rel.mono l2 _ _ (q1 j hc).2⟩
    · simp only [if_neg hc]
      have := q2 (j - c.z) (by omega)
      rw [show c.z + (j - c.z) = j by omega] at this
      exact this
  ext := fun h k => ⟨c.ext h.1 k, d.ext h.2 k⟩
  loc := fun e h => ⟨c.loc (fun j hj => e j (by omega)) h.1, d.loc (fun j hj => e _ (by omega)) h.2⟩
  locA := fun e h => ⟨c.locA (fun j hj => e j (by omega)) h.1, d.locA (fun j hj => e _ (by omega)) h.2⟩
theorem enterN {α : Type} (c : Codec α) {w : World} (l : List α) (y : Nat → Value) : ∀ {st : St} {ρ : Rho}, Begin w st ρ → (∀ i a, l[i]? = some a → c.rel w (fun j => y (i * c.z + j)) a) →
    ∃ (st' : St) (ρ' : Rho) (x : Nat → V), Begin w st' ρ' ∧ ρ.le ρ' ∧ (∀ j, j < l.length * c.z → (x j).one = true ∧ Rel ρ' (x j) (y j)) ∧ Ext st.nx st st' ∧ ∀ i a, l[i]? = some a → c.at' st' (fun j => x (i * c.z + j)) a := by
  induction l generalizing y with
  | nil => intro st ρ hb _; exact ⟨st, ρ, fun _ => V.u, hb, Rho.le_refl _, fun j hj => by simp at hj, Ext.refl _ _, fun i a h => by simp at h⟩
  | cons a l ih =>
    intro st ρ hb hr
    obtain ⟨s1, r1, x1, b1, l1, q1, e1, a1⟩ := c.enter hb (hr 0 a rfl)
    obtain ⟨s2, r2, x2, b2, l2, q2, e2, a2⟩ := ih (fun j => y (c.z + j)) b1 (fun i b h => c.loc (fun j _ => by show _ = y (c.z + (i * c.z + j)); congr 1; rw [Nat.add_mul]; omega) (hr (i + 1) b h))
    refine ⟨s2, r2, fun j => if j < c.z then x1 j else x2 (j - c.z), b2, fun n r h => l2 n r (l1 n r h), fun j hj => ?_, e1.trans (e2.mono e1.le), fun i b h => ?_⟩
    · by_cases hc : j < c.z
      · simp only [if_pos hc]
        have := q1 j hc
        simp only [Nat.zero_mul, Nat.zero_add] at this
        exact ⟨this.1, Rel.mono l2 _ _ this.2⟩
      · simp only [if_neg hc]
        have hj' : j < (l.length + 1) * c.z := hj
        rw [Nat.add_mul] at hj'
        have := q2 (j - c.z) (by omega)
        rw [show c.z + (j - c.z) = j by omega] at this
        exact this
    · cases i with
      | zero =>
        injection h with h
        subst h
        exact c.locA (fun j hj => by simp [hj]) (c.ext a1 e2)
      | succ i =>
        refine c.locA (fun j hj => ?_) (a2 i b h)
        have : (i + 1) * c.z + j = c.z + (i * c.z + j) := by rw [Nat.add_mul]; omega
        simp only [this]
        rw [if_neg (by omega), Nat.add_sub_cancel_left]
/-- a row -/
def rowC {α : Type} (c : Codec α) : Codec (List α) where
  z := 1
  rel := fun w y l => (l.length ≤ maxLen) ∧ ((y 0 = .slice none 0 0 ∧ l = []) ∨ (l = [] ∧ ∃ a q, y 0 = .slice (some a) 0 q) ∨ ∃ (b off q : Nat) (cells : Array Value) (ty : TypeId) (fr : Nat × Nat), y 0 = .slice (some ⟨b, off, none⟩) l.length q ∧ l.length ≤ q ∧ w.heap[b]? = some (.cells cells ty fr) ∧ off + l.length * c.z ≤ cells.size ∧ ∀ i a, l[i]? = some a → c.rel w (fun j => cells[off + (i * c.z + j)]?.getD default) a)
  at' := fun st x l => (l.length ≤ maxLen) ∧ CapOk (x 0) ∧ ((∀ m o n z, x 0 ≠ .sg m o n z) ∧ ∀ m o n q, x 0 = .sl m o n q → ∃ sz t, st.h.get m = some (.cs roT sz t)) ∧ ∃ xs : Nat → V, RdRow st (x 0) c.z l.length ((List.range (l.length * c.z)).map xs) ∧ ∀ i a, l[i]? = some a → c.at' st (fun j => xs (i * c.z + j)) a
  enter := fun {w st ρ y l} hb hr => by
    obtain ⟨hmax, hr⟩ := hr
    rcases hr with ⟨h1, rfl⟩ | ⟨rfl, a, q, h1⟩ | ⟨b, off, q, cells, ty, fr, h1, hq, h2, h2', h3⟩
    · refine ⟨st, ρ, fun _ => .c (.slice none 0 0), hb, Rho.le_refl _, fun j hj => ?_, Ext.refl _ _, hmax, ?_, ⟨?_, ?_⟩, fun _ => V.u, ⟨by simp, .inl ⟨.inl rfl, rfl⟩⟩, fun i a h => by simp at h⟩
      · obtain rfl : j = 0 := by omega
        rw [h1]; exact ⟨rfl, by simp [Rel, Value.oneCell']⟩
      · intro m o n q e; cases e
      · intro m o n q e; cases e
      · intro m o n q e; cases e
    · refine ⟨st, ρ, fun _ => .e, hb, Rho.le_refl _, fun j hj => ?_, Ext.refl _ _, hmax, ?_, ⟨?_, ?_⟩, fun _ => V.u, ⟨by simp, .inl ⟨.inr rfl, rfl⟩⟩, fun i a h => by simp at h⟩
      · obtain rfl : j = 0 := by omega
        rw [h1]; exact ⟨rfl, by simp only [Rel]; exact ⟨_, _, rfl⟩⟩
      · intro m o n q e; cases e
      · intro m o n q e; cases e
      · intro m o n q e; cases e
    · obtain ⟨s1, r1, x1, b1, l1, q1, e1, a1⟩ := enterN c l (fun j => cells[off + j]?.getD default) hb h3
      obtain ⟨s2, r2, b2, l2, q2, e2, a2, ro2⟩ := begin_row b1 (xs := (List.range (l.length * c.z)).map x1) (c := q) (by simp) h2 h2' (fun j v hj => by
        have hlt := lt_of_get hj
        simp at hlt
        rw [List.getElem?_map, List.getElem?_range hlt] at hj
        injection hj with hj
        subst hj
        refine ⟨(q1 j hlt).1, cells[off + j]?.getD default, ?_, (q1 j hlt).2⟩
        rw [Array.getElem?_eq_getElem (by omega)]; rfl)
      refine ⟨s2, r2, fun _ => .sl s1.nx 0 l.length q, b2, fun n r h => l2 n r (l1 n r h), fun j hj => ?_, e1.trans (e2.mono e1.le), hmax, ?_, ⟨?_, ?_⟩, x1, a2, fun i a h => c.ext (a1 i a h) e2⟩
      · obtain rfl : j = 0 := by omega
        rw [h1]; exact ⟨rfl, q2⟩
      · intro m o n k e; injection e with e1 e2 e3 e4; omega
      · intro m o n k e; cases e
      · intro m o n k e; injection e with e1 e2 e3 e4; subst e1; exact ro2
  ext := fun h k => ⟨h.1, h.2.1, ⟨h.2.2.1.1, fun m o n q e => by
    obtain ⟨sz, t, g⟩ := h.2.2.1.2 m o n q e
    obtain ⟨xs, h1, _⟩ := h.2.2.2
    have hlt := h1.nm_lt (.inr ⟨o, n, q, e⟩)
    exact ⟨sz, t, (k.keep m hlt).trans g⟩⟩, by obtain ⟨xs, h1, h2⟩ := h.2.2.2; exact ⟨xs, h1.ext k, fun i a e => c.ext (h2 i a e) k⟩⟩
  loc := fun {w y y' l} e h => by have := e 0 (by omega); rw [this] at h; exact h
  locA := fun {st x x' l} e h => by have := e 0 (by omega); rw [this] at h; exact h
/-! ### what a type's values are -/
def Fits {α : Type} (P : Program) (c : Codec α) (t : TypeId) : Prop := ∀ {H : Type} {enc : TypeId × Value → H} {w : World} {spare : Nat → Bool} {held : Bool} {fuel : Nat} {cs : List Value} {x : DataW H × List MemPlace}, DataW.trod enc P w 0 spare held fuel t cs = some x → cs.length = c.z ∧ ∃ a, c.rel w (fun j => cs[j]?.getD default) a
section
variable {P : Program}
theorem fits_i {t : TypeId} (h : P.underlying t = some (.int .i64)) : Fits P iC t := fun hx => by
  obtain ⟨n, rfl, _, hw⟩ := DataW.trod_int h hx
  exact ⟨rfl, n, rfl, i64_bd hw⟩
theorem fits_int {t : TypeId} {k : IntKind} (h : P.underlying t = some (.int k)) : Fits P (intC k) t := fun hx => by
  obtain ⟨n, rfl, _, hw⟩ := DataW.trod_int h hx
  exact ⟨rfl, n, rfl, hw⟩
theorem fits_w {t : TypeId} (h : P.underlying t = some (.int .u64)) : Fits P wC t := fun hx => by
  obtain ⟨n, rfl, _, hw⟩ := DataW.trod_int h hx
  obtain ⟨q, rfl, hq⟩ := u64_nat hw
  refine ⟨rfl, BitVec.ofInt 64 q, ?_, trivial⟩
  show Value.int .u64 q = Value.int .u64 ((BitVec.ofInt 64 q).toNat : Int)
  rw [BitVec.toNat_ofInt]
  congr 1
  omega
theorem fits_b {t : TypeId} (h : P.underlying t = some .bool) : Fits P bC t := fun hx => by
  obtain ⟨n, rfl, _⟩ := DataW.trod_bool h hx
  exact ⟨rfl, n, rfl, trivial⟩
theorem fits_s {t : TypeId} (h : P.underlying t = some .string) : Fits P sC t := fun hx => by
  obtain ⟨s, rfl, _, hs⟩ := DataW.trod_string h hx
  refine ⟨rfl, s.data.toList.map UInt8.toNat, ?_, fun b hb => ?_, ?_⟩
  · obtain ⟨⟨l⟩⟩ := s
    show Value.string ⟨⟨l⟩⟩ = Value.string ⟨⟨(l.map UInt8.toNat).map UInt8.ofNat⟩⟩
    rw [List.map_map]
    congr 3
    exact (List.map_id l).symm.trans (List.map_congr_left fun x _ => by simp)
  · obtain ⟨x, _, rfl⟩ := List.mem_map.1 hb
    exact x.toNat_lt
  · rw [List.length_map]; exact hs
/-- fields, from a place on -/
def FitsF {α : Type} (P : Program) (c : Codec α) (fs : List Field) (off : Nat) : Prop := ∀ {H : Type} {enc : TypeId × Value → H} {w : World} {spare : Nat → Bool} {held : Bool} {fuel : Nat} {cs : List Value}, (∀ f ∈ fs, ∃ x, DataW.trod enc P w 0 spare held fuel f.type ((cs.drop f.offset).take (P.cellsOf f.type)) = some x) → ∃ a, c.rel w (fun j => cs[off + j]?.getD default) a
theorem FitsF.one {α : Type} {c : Codec α} {f : Field} {off : Nat} (ho : f.offset = off) (hz : P.cellsOf f.type = c.z) (h : Fits P c f.type) : FitsF P c [f] off := fun {H enc w spare held fuel cs} hx => by
  obtain ⟨x, hx⟩ := hx f (List.mem_cons_self ..)
  obtain ⟨_, a, ha⟩ := h hx
  refine ⟨a, c.loc (fun j hj => ?_) ha⟩
  rw [List.getElem?_take, if_pos (by omega), List.getElem?_drop, ho]
theorem FitsF.cons {α β : Type} {c : Codec α} {d : Codec β} {f : Field} {fs : List Field} {off : Nat} (ho : f.offset = off) (hz : P.cellsOf f.type = c.z) (h : Fits P c f.type) (k : FitsF P d fs (off + c.z)) : FitsF P (pairC c d) (f :: fs) off := fun {H enc w spare held fuel cs} hx => by
  obtain ⟨a, ha⟩ := FitsF.one ho hz h (fun g hg => hx g (by simp at hg; subst hg; exact List.mem_cons_self ..))
  obtain ⟨b, hb⟩ := k fun g hg => hx g (List.mem_cons_of_mem _ hg)
  exact ⟨(a, b), ha, d.loc (fun j _ => by rw [Nat.add_assoc]) hb⟩
theorem fits_struct {α : Type} {c : Codec α} {t : TypeId} {fs : Array Field} (hs : P.underlying t = some (.struct fs)) (hz : P.cellsOf t = c.z) (h : FitsF P c fs.toList 0) : Fits P c t := fun hx => by
  obtain ⟨xs, n, _, _, hl, hlen, hf⟩ := DataW.trod_struct hs hx
  refine ⟨hl.trans hz, ?_⟩
  obtain ⟨a, ha⟩ := h (fun f hm => by
    obtain ⟨i, hi⟩ := List.getElem?_of_mem hm
    have hi' : fs[i]? = some f := by simpa using hi
    have hlt : i < xs.length := by rw [hlen]; exact (Array.getElem?_eq_some_iff.1 hi').1
    exact ⟨xs[i], by rw [hf i f hi', List.getElem?_eq_getElem hlt]⟩)
  exact ⟨a, c.loc (fun j _ => by rw [Nat.zero_add]) ha⟩
theorem fits_row {α : Type} {c : Codec α} {t e : TypeId} (ht : P.underlying t = some (.slice e)) (hz : P.cellsOf e = c.z) (hpos : 0 < c.z) (h : Fits P c e) : Fits P (rowC c) t := fun {H enc w spare held fuel cs x} hx => by
  rcases open_slice ht hx with ⟨rfl, _⟩ | ⟨a, len, cap, m, n, D, Pl, rfl, _, hl, hcap, hm, _, hx⟩
  · exact ⟨rfl, [], Nat.zero_le _, .inl ⟨rfl, rfl⟩⟩
  · refine ⟨rfl, ?_⟩
    have hlm : len ≤ m := by rw [hm]; split <;> omega
    have each : ∀ i, i < len → ∃ r : α, ∃ cs', w.cells? 0 (a.add (i * c.z)) c.z = some cs' ∧ c.rel w (fun j => cs'[j]?.getD default) r := fun i hi => by
      obtain ⟨cs', h1, h2⟩ := hx i (by omega)
      rw [hz] at h1
      obtain ⟨_, r, hr⟩ := h h2
      exact ⟨r, cs', h1, hr⟩
    by_cases h0 : len = 0
    · subst h0
      exact ⟨[], Nat.zero_le _, .inr (.inl ⟨rfl, a, cap, rfl⟩)⟩
    · haveI : Inhabited α := ⟨(each 0 (by omega)).choose⟩
      obtain ⟨q, hq⟩ := choose_lt each
      have hL : ((List.range len).map q).length = len := by simp
      have hget : ∀ i r, ((List.range len).map q)[i]? = some r → i < len ∧ r = q i := fun i r hi => by
        have hlt := lt_of_get hi
        rw [hL] at hlt
        rw [List.getElem?_map, List.getElem?_range hlt] at hi
        injection hi with hi
        exact ⟨hlt, hi.symm⟩
      obtain ⟨b, off, spot⟩ := a
      have cell : ∀ i j, i < len → j < c.z → ∃ y, w.cell? ((⟨b, off, spot⟩ : Addr).add (i * c.z + j)) = some y := fun i j hi hj => by
        obtain ⟨cs', h1, _⟩ := hq i hi
        obtain ⟨_, h2, h3⟩ := World.cells?_some h1
        have := h3 j hj
        rw [add_add] at this
        rw [this, List.getElem?_eq_getElem (by omega)]
        exact ⟨_, rfl⟩
      have hspot : spot = none := by
        obtain ⟨y, hy⟩ := cell 0 0 (by omega) hpos
        simpa [Addr.add] using World.cell?_spot hy
      subst hspot
      have hcell : ∀ j, (⟨b, off, none⟩ : Addr).add j = ⟨b, off + j, none⟩ := fun j => by
        by_cases hj : j = 0
        · subst hj; simp [Addr.add]
        · simp [Addr.add, hj]
      have hh : ∃ cells ty fr, w.heap[b]? = some (.cells cells ty fr) := by
        obtain ⟨y, hy⟩ := cell 0 0 (by omega) hpos
        rw [hcell] at hy
        unfold World.cell? at hy
        simp only at hy
        split at hy
        · rename_i cells ty fr hb; exact ⟨cells, ty, fr, hb⟩
        · cases hy
      obtain ⟨cells, ty, fr, hb⟩ := hh
      have hget2 : ∀ j, w.cell? (⟨b, off + j, none⟩ : Addr) = cells[off + j]? := fun j => by
        unfold World.cell?
        simp [hb]
      refine ⟨(List.range len).map q, by rw [hL]; omega, .inr (.inr ⟨b, off, cap, cells, ty, fr, by rw [hL]; rfl, by rw [hL]; exact hl, hb, ?_, fun i r hi => ?_⟩)⟩
      · rw [hL]
        obtain ⟨y, hy⟩ := cell (len - 1) (c.z - 1) (by omega) (by omega)
        rw [hcell, hget2] at hy
        have h1 := (Array.getElem?_eq_some_iff.1 hy).1
        have h2 : (len - 1) * c.z + (c.z - 1) + 1 = len * c.z := by
          obtain ⟨k, rfl⟩ : ∃ k, len = k + 1 := ⟨len - 1, by omega⟩
          rw [Nat.add_sub_cancel, Nat.add_mul]; omega
        omega
      · obtain ⟨hi2, rfl⟩ := hget i r hi
        obtain ⟨cs', h1, h2⟩ := hq i hi2
        obtain ⟨_, h3, h4⟩ := World.cells?_some h1
        refine c.loc (fun j hj => ?_) h2
        have := h4 j hj
        rw [add_add, hcell, hget2] at this
        rw [← this]
end
/-! ### the evaluator's side -/
section
variable {P : Program} {st : St}
/-- an element of a row that came in -/
theorem rowC_idx {α : Type} {c : Codec α} {x : Nat → V} {l : List α} {t el i : Nat} {a : α} (hu : P.underlying t = some (.slice el)) (hi : infoOk P el c.z = true) (h : (rowC c).at' st x l) (hl : l[i]? = some a) :
    ∃ m o ty sz tr y, (∀ k : V → Res, idxE P t (x 0) i k = k (.p m o)) ∧ m < st.nx ∧ st.h.get m = some (.cs ty sz tr) ∧ (∀ j, j < c.z → tr.get (o + j) = some (y j)) ∧ c.at' st y a := by
  obtain ⟨_, _, _, xs, h1, h2⟩ := h
  have hlt := lt_of_get hl
  obtain ⟨m, o, ty, sz, tr, e1, e2, e3, e4, e5⟩ := h1.idx (st := st) hu hi hlt
  refine ⟨m, o, ty, sz, tr, fun j => xs (i * c.z + j), e1, e2, e3, fun j hj => e5 j _ hj ?_, h2 i a hl⟩
  have : i * c.z + c.z ≤ l.length * c.z := by rw [← Nat.succ_mul]; exact Nat.mul_le_mul_right _ hlt
  rw [List.getElem?_map, List.getElem?_range (by omega)]; rfl
/-- the same, and it stays -/
theorem rowC_old {α : Type} {c : Codec α} {x : Nat → V} {l : List α} {t el i : Nat} {a : α} (hu : P.underlying t = some (.slice el)) (hi : infoOk P el c.z = true) (h : (rowC c).at' st x l) (hl : l[i]? = some a) :
    ∃ m o ty sz tr y, (∀ k : V → Res, idxE P t (x 0) i k = k (.p m o)) ∧ m < st.nx ∧ (∀ s, Ext st.nx st s → s.h.get m = some (.cs ty sz tr)) ∧ (∀ j, j < c.z → tr.get (o + j) = some (y j)) ∧ c.at' st y a := by
  obtain ⟨m, o, ty, sz, tr, y, h1, h2, h3, h4, h5⟩ := rowC_idx hu hi h hl
  exact ⟨m, o, ty, sz, tr, y, h1, h2, fun s k => (k.keep m h2).trans h3, h4, h5⟩
theorem rowC_row {α : Type} {c : Codec α} {x : Nat → V} {l : List α} (h : (rowC c).at' st x l) : ∃ xs, RdRow st (x 0) c.z l.length xs := by
  obtain ⟨_, _, _, xs, h1, _⟩ := h
  exact ⟨_, h1⟩
/-- where a row that came in stands: what it is, and that it can't change -/
theorem rowC_sl {α : Type} {c : Codec α} {x : Nat → V} {l : List α} {i : Nat} {a : α} (h : (rowC c).at' st x l) (hl : l[i]? = some a) : ∃ m o q, x 0 = .sl m o l.length q ∧ m < st.nx ∧ ∀ s, Ext st.nx st s → isRo s.h m = true := by
  obtain ⟨_, _, ⟨h1, h2⟩, xs, h3, _⟩ := h
  have hlt := lt_of_get hl
  rcases h3.2 with ⟨_, e⟩ | ⟨m, o, q, ty, sz, t, e, h4, _⟩ | ⟨m, o, ty, sz, t, e, _⟩
  · omega
  · refine ⟨m, o, q, e, h4, fun s k => ?_⟩
    obtain ⟨sz', t', g⟩ := h2 m o _ q e
    rw [isRo_cs ((k.keep m h4).trans g)]; simp
  · exact absurd e (h1 _ _ _ _)
theorem rowC_cap {α : Type} {c : Codec α} {x : Nat → V} {l : List α} (h : (rowC c).at' st x l) : CapOk (x 0) := h.2.1
theorem konst_row {α : Type} {f : α → V} {g : α → Value} {ok : α → Prop} {hc : ∀ a, ok a → (f a).one = true ∧ ∀ ρ, Rel ρ (f a) (g a)} {x : Nat → V} {l : List α} (h : (rowC (konst f g ok hc)).at' st x l) : RdRow st (x 0) 1 l.length (l.map f) ∧ ∀ a ∈ l, ok a := by
  obtain ⟨_, _, _, xs, h1, h2⟩ := h
  have hz : (konst f g ok hc).z = 1 := rfl
  have e : (List.range (l.length * (konst f g ok hc).z)).map xs = l.map f := by
    apply List.ext_getElem?
    intro i
    rw [hz, Nat.mul_one, List.getElem?_map, List.getElem?_map]
    cases hi : l[i]? with
    | none =>
      have := List.getElem?_eq_none_iff.1 hi
      rw [List.getElem?_eq_none (by simpa using this)]; rfl
    | some a =>
      have hlt := lt_of_get hi
      rw [List.getElem?_range hlt]
      have := (h2 i a hi).1
      simp only [hz, Nat.mul_one, Nat.add_zero] at this
      simp only [Option.map_some, this]
  rw [e, hz] at h1
  refine ⟨h1, fun a ha => ?_⟩
  obtain ⟨i, hi⟩ := List.getElem?_of_mem ha
  exact (h2 i a hi).2
theorem rowC_words {x : Nat → V} {l : List (BitVec 64)} (h : (rowC wC).at' st x l) : RdRow st (x 0) 1 l.length (wv l) := (konst_row h).1
theorem rowC_ints {x : Nat → V} {l : List Int} (h : (rowC iC).at' st x l) : RdRow st (x 0) 1 l.length (l.map fun v => .int .i64 v) ∧ ∀ a ∈ l, -9223372036854775808 ≤ a ∧ a ≤ 9223372036854775807 := konst_row h
theorem rowC_len {α : Type} {c : Codec α} {x : Nat → V} {l : List α} (h : (rowC c).at' st x l) (s : St) : lenS s (x 0) = some (.int .i64 (l.length : Int), s) := by
  obtain ⟨xs, h1⟩ := rowC_row h
  exact h1.lenS s
theorem rowC_max {α : Type} {c : Codec α} {x : Nat → V} {l : List α} (h : (rowC c).at' st x l) : l.length ≤ maxLen := h.1
theorem relL_map {ρ : Rho} {cs : List Value} : ∀ {xs : List V}, xs.length = cs.length → (∀ (j : Nat) (v : V), xs[j]? = some v → Rel ρ v (cs[j]?.getD default)) → RelL ρ xs cs := by
  induction cs with
  | nil => intro xs h _; rw [List.length_eq_zero_iff.1 h]; simp [RelL]
  | cons y cs ih =>
    intro xs h hr
    match xs, h with
    | v :: xs, h =>
      simp only [RelL]
      exact ⟨y, cs, rfl, hr 0 v rfl, ih (by simpa using h) fun j v hj => hr (j + 1) v hj⟩
/-- a struct that came in -/
theorem rel_agg {ρ : Rho} {z : Nat} {x : Nat → V} {cs : Array Value} (hz : cs.toList.length = z) (h : ∀ j, j < z → (x j).one = true ∧ Rel ρ (x j) (cs.toList[j]?.getD default)) : Rel ρ (.g ((List.range z).map x)) (.agg cs) := by
  have hget : ∀ j v, ((List.range z).map x)[j]? = some v → j < z ∧ v = x j := fun j v hj => by
    have hlt := lt_of_get hj
    simp at hlt
    rw [List.getElem?_map, List.getElem?_range hlt] at hj
    injection hj with hj
    exact ⟨hlt, hj.symm⟩
  simp only [Rel]
  refine ⟨cs.toList, rfl, relL_map (by simp [hz]) fun j v hj => ?_, ?_⟩
  · obtain ⟨h1, rfl⟩ := hget j v hj
    exact (h j h1).2
  · rw [List.all_eq_true]
    intro v hv
    obtain ⟨j, hj⟩ := List.getElem?_of_mem hv
    obtain ⟨h1, rfl⟩ := hget j v hj
    exact (h j h1).1
end
@[simp] theorem wantK_u (w : Bool) : wantK w (some V.u) = false := rfl
end Go.Proofs.Ytcjddojcfdeflaa

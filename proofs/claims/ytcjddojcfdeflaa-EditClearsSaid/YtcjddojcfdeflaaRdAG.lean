/-
  PLAIN: RdAB, RdC, RdG, in one text.
-/
import Derived.Test.YtcjddojcfdeflaaTyRedo
import Derived.Test.YtcjddojcfdeflaaRb
import Derived.Test.YtcjddojcfdeflaaSb
import Derived.Test.YtcjddojcfdeflaaEc
import Derived.Test.YtcjddojcfdeflaaHdP
import Derived.Test.YtcjddojcfdeflaaSc
import Derived.Test.YtcjddojcfdeflaaMid
set_option linter.unusedSimpArgs false
namespace Go.Proofs.Ytcjddojcfdeflaa
open Go.RowKit Ev
def doI (st : St) (y : V) (L : List (BitVec 64)) (K : List (Int × BitVec 64)) (e : Env) (s : St) : Prop := ∃ (k : Nat) (z : V), k ≤ K.length ∧ e.get 5 = some z ∧ e.get 10 = some y ∧ e.get 11 = some (.int .i64 (K.length : Int)) ∧ e.get 12 = some (.int .i64 (k : Int)) ∧
  RdRow s z 1 L.length (wv (doW L (K.take k))) ∧ (0 < L.length → OwnRow st.nx s z 1 L.length (wv (doW L (K.take k)))) ∧ RowFrom st.nx z ∧ Ext st.nx st s
def fitI (st : St) (y : V) (K : List (Int × BitVec 64)) (e : Env) (s : St) : Prop := ∃ k : Nat, k ≤ K.length ∧ e.get 15 = some y ∧ e.get 16 = some (.int .i64 (K.length : Int)) ∧ e.get 17 = some (.int .i64 (k : Int)) ∧ (∀ r ∈ K.take k, okAt r) ∧ Ext st.nx st s
end Go.Proofs.Ytcjddojcfdeflaa
set_option linter.unusedSimpArgs false
namespace Go.Proofs.Ytcjddojcfdeflaa
open Go.RowKit Ev
theorem wv_cons (a : BitVec 64) (l : List (BitVec 64)) : wv (a :: l) = wd a :: wv l := rfl
def headR (n : BitVec 64) (K : List (Int × BitVec 64)) (k : Nat) : List (BitVec 64) := n :: BitVec.ofInt 64 K.length :: bodyR (K.take k)
theorem headR_length (n : BitVec 64) {K : List (Int × BitVec 64)} {k : Nat} (h : k ≤ K.length) : (headR n K k).length = 2 + 2 * k := by
  unfold headR; simp [bodyR_length]; omega
theorem headR_take (n : BitVec 64) {K : List (Int × BitVec 64)} {k : Nat} {r : Int × BitVec 64} (h : K[k]? = some r) : headR n K (k + 1) = headR n K k ++ [BitVec.ofInt 64 r.1, r.2] := by
  unfold headR; rw [bodyR_take h]; rfl
theorem headR_all (n : BitVec 64) (K : List (Int × BitVec 64)) : headR n K K.length = preR n K := by unfold headR preR; rw [List.take_length]
def putI (st : St) (n : BitVec 64) (y : V) (K : List (Int × BitVec 64)) (e : Env) (s : St) : Prop := ∃ (k : Nat) (z : V), k ≤ K.length ∧ e.get 3 = some z ∧ e.get 17 = some y ∧ e.get 18 = some (.int .i64 (K.length : Int)) ∧ e.get 19 = some (.int .i64 (k : Int)) ∧
  AppRow st.nx s z 1 (2 + 2 * k) (wv (headR n K k)) ∧ Ext st.nx st s
end Go.Proofs.Ytcjddojcfdeflaa
set_option linter.unusedSimpArgs false
namespace Go.Proofs.Ytcjddojcfdeflaa
open Go.RowKit Ev
/-- the first k of a row -/
theorem Gd_headR {P : Program} {c : Cx} {e : Env} {st : St} {t el n k : Nat} {i : IntKind} {y : V} {L : List (BitVec 64)} {x : Operand} {Q : V × St → Prop} (hu : P.underlying t = some (.slice el)) (hi : infoOk P el 1 = true) (h : RdRow st y 1 n (wv L)) (hcap : CapOk y) (hv : opv e x = some (.int i (k : Int))) (hk : k ≤ n) (hpos : 0 < k)
    (hQ : ∀ v, RdRow st v 1 k (wv (L.take k)) → CapOk v → (∀ m, rowIn v m → rowIn y m) → blkOf v = blkOf y → (blkOf y).isSome = true → Q (v, st)) : Gd (sliceK P c e st t y none (some x)) Q := by
  have hwt : wv (L.take k) = (wv L).take k := by unfold wv; rw [List.map_take]
  obtain ⟨h1, h2⟩ := h
  have hL : L.length = n := by simpa using h1
  have get : ∀ j v, (wv (L.take k))[j]? = some v → (wv L)[j]? = some v ∧ j < k := fun j v hj => by
    have hjk : j < k := by have := lt_of_get hj; simp at this; omega
    rw [hwt, List.getElem?_take, if_pos hjk] at hj
    exact ⟨hj, hjk⟩
  unfold sliceK
  rcases h2 with ⟨_, rfl⟩ | ⟨m, o, q, ty, sz, tr, rfl, h3, h4, h5, h6⟩ | ⟨m, o, ty, sz, tr, rfl, h3, h4, h5, h6⟩
  · omega
  · have hq := hcap m o n q rfl
    rw [sliceE_hiS hu hi hv m o n q (by omega) (fun a => some (a, st))]
    refine ⟨_, rfl, hQ _ ⟨by simp [hL]; omega, .inr (.inl ⟨m, o, q, ty, sz, tr, rfl, h3, h4, by omega, fun j v hj => h6 j v (get j v hj).1⟩)⟩ (fun m' o' l' q' e => by injection e with _ _ e3 e4; omega) ?_ rfl rfl⟩
    rintro m' (⟨_, _, _, e⟩ | ⟨_, _, _, e⟩)
    · injection e with e; subst e; exact .inl ⟨_, _, _, rfl⟩
    · cases e
  · rw [sliceE_hi hu hi hv m o n (by omega) (fun a => some (a, st))]
    refine ⟨_, rfl, hQ _ ⟨by simp [hL]; omega, .inr (.inr ⟨m, o, ty, sz, tr, rfl, h3, h4, by omega, fun j v hj => h6 j v (get j v hj).1⟩)⟩ (fun m' o' l' q' e => by cases e) ?_ rfl rfl⟩
    rintro m' (⟨_, _, _, e⟩ | ⟨_, _, _, e⟩)
    · cases e
    · injection e with e; subst e; exact .inr ⟨_, _, _, rfl⟩
theorem yesClash {e : Env} {l : List (Nat × Nat)} {x : Operand} (h : clashes e l x = true) : lr false (fun x _ r => match clashes e l x with | true => true | false => r) [x] = true := by
  show (match clashes e l x with | true => true | false => lr false (fun x _ r => match clashes e l x with | true => true | false => r) []) = true
  rw [h]
theorem rowIn_blk {x : V} {m : Nat} (h : rowIn x m) : blkOf x = some m := by
  rcases h with ⟨_, _, _, rfl⟩ | ⟨_, _, _, rfl⟩ <;> rfl
theorem cxOf_callC {c : Cx} {e : Env} {d : Option Nat} {cl : Call} {ty : TypeId} {p : String} {af : Array Edge} {g : Option (Nat × Bool)} {ops : List Oper} {i m : Nat} {s0 : St} {rs : List (Nat × Nat × Nat)} {x : Operand} (ht : touches (.call cl) = true) (hm : mayW ops i = false) (hl : looseW ops e i = some [(m, m + 1)]) (ha : cl.args.toList = [x]) (hc : clashes e [(m, m + 1)] x = true) :
    ∃ wb, cxOf c ops ⟨d, .call cl, ty, p, af, g⟩ i rs s0 e = ⟨c.all, forb (befOf ops i) rs c.l, wb, c.nt⟩ := by
  have h0 : cxOf c ops ⟨d, .call cl, ty, p, af, g⟩ i rs s0 e = (match touches (.call cl) with
      | false => ⟨true, [], c.wb, c.nt⟩
      | true => (match mayW ops i with
        | true => ⟨c.all, forb (befOf ops i) rs c.l, c.wb, c.nt⟩
        | false => (match (match looseW ops e i with
            | none => none
            | some l => (match lr false (fun x _ r => match clashes e (alive s0.h l) x with | true => true | false => r) cl.args.toList with
              | true => none
              | false => some (alive s0.h l))) with
          | some l => ⟨c.all, l ++ forb (befOf ops i) rs c.l, c.wb, c.nt⟩
          | none => ⟨c.all, forb (befOf ops i) rs c.l, s0.nx, c.nt⟩))) := rfl
  cases hro : isRo s0.h m with
  | true => exact ⟨_, cxOf_callRo [(m, m + 1)] ht hm hl (fun p hp => by simp at hp; subst hp; exact hro)⟩
  | false =>
    refine ⟨s0.nx, ?_⟩
    rw [h0, ht, hm, hl, ha]
    have e1 : alive s0.h [(m, m + 1)] = [(m, m + 1)] := alive_own fun p hp => by simp at hp; subst hp; exact hro
    simp only [e1, yesClash hc]
theorem Gd_cxE {P : Program} {c : Cx} {l : List (Nat × Nat)} {nt : Nat} {al : Bool} {f : Nat} {args : List V} {st : St} {R : V × St → Prop} (h : ∃ wb, c = ⟨al, l, wb, nt⟩) (k : ∀ wb, Gd (callL P ⟨al, l, wb, nt⟩ f args st) R) : Gd (callL P c f args st) R := by
  obtain ⟨wb, rfl⟩ := h
  exact k wb
def fitsL (L : List (BitVec 64)) : Prop := 0 < L.length ∧ wat L (L.length - 1) = slOf (L.take (L.length - 1))
instance (L : List (BitVec 64)) : Decidable (fitsL L) := by unfold fitsL; infer_instance
end Go.Proofs.Ytcjddojcfdeflaa
set_option linter.unusedSimpArgs false
namespace Go.Proofs.Ytcjddojcfdeflaa
open Go.RowKit Ev
def pairR (L : List (BitVec 64)) (i : Nat) : Int × BitVec 64 := ((wat L (2 + 2 * i)).toInt, wat L (3 + 2 * i))
def pairsR (L : List (BitVec 64)) (c : Nat) : List (Int × BitVec 64) := (List.range c).map (pairR L)
theorem pairsR_succ (L : List (BitVec 64)) (c : Nat) : pairsR L (c + 1) = pairsR L c ++ [pairR L c] := by unfold pairsR; rw [List.range_succ]; simp
theorem pairsR_length (L : List (BitVec 64)) (c : Nat) : (pairsR L c).length = c := by simp [pairsR]
def cntR (L : List (BitVec 64)) : Nat := (wat L 1).toNat
def getOk (L : List (BitVec 64)) : Prop := 2 ≤ L.length ∧ cntR L ≤ 400 ∧ 2 + 2 * cntR L < L.length ∧ fitsL (L.take (3 + 2 * cntR L)) ∧ fitsR (wat L 0) (pairsR L (cntR L))
instance (L : List (BitVec 64)) : Decidable (getOk L) := by unfold getOk; infer_instance
/-- what is read: number, writes, or none -/
def getN (L : List (BitVec 64)) : BitVec 64 := if getOk L then wat L 0 else 0#64
def getK (L : List (BitVec 64)) : List (Int × BitVec 64) := if getOk L then pairsR L (cntR L) else []
theorem nilFrom (b : Nat) : RowFrom b (.c (.slice none 0 0)) := ⟨fun _ _ _ _ e => (by cases e), fun _ _ _ _ e => by cases e⟩
def rgV (L : List (BitVec 64)) (st : St) (b : Nat) (r : V × St) : Prop := ∃ v, r.1 = .t [.g [wd (getN L), v], .bool (decide (getOk L))] ∧ RdRow r.2 v 2 (getK L).length (iw (getK L)) ∧ RowFrom b v ∧ Ext b st r.2
theorem forb_oneR {b i x y : Nat} {l : List (Nat × Nat)} (h : Nat.testBit b i = true) : forb b [(i, x, y)] l = l := by
  show (match Nat.testBit b i with | true => l | false => (x, y) :: l) = l
  rw [h]
theorem bx_ext (st : St) (v : B) : Ext st.nx st ⟨st.nx + 1, st.h.set st.nx v⟩ := (Ext.refl _ _).new (Nat.le_refl _) _
theorem forb_on1 {b i j x y u v : Nat} {l : List (Nat × Nat)} (h : Nat.testBit b i = true) (h2 : Nat.testBit b j = true) : forb b (rsOf [(i, x, y)] j u v) l = l := by
  unfold rsOf
  cases Nat.beq u v
  · show (match Nat.testBit b j with | true => forb b [(i, x, y)] l | false => (u, v) :: forb b [(i, x, y)] l) = l
    rw [h2]
    exact forb_oneR h
  · exact forb_oneR h
end Go.Proofs.Ytcjddojcfdeflaa

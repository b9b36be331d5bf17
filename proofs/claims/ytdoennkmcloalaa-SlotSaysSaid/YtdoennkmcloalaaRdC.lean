/-
  Contracts: sums that fit; records read.
-/
import Derived.Test.YtdoennkmcloalaaRdAB
import Derived.Test.YtdoennkmcloalaaHdP
import Derived.Test.YtdoennkmcloalaaSc
import Derived.Test.YtdoennkmcloalaaMid
set_option linter.unusedSimpArgs false
namespace Go.Proofs.Ytdoennkmcloalaa
open Go.RowKit Ev
/-- the first k of a row -/
theorem Gd_headR {P : Program} {c : Cx} {e : Env} {st : St} {t el n k : Nat} {i : IntKind} {y : V} {L : List (BitVec 64)} {x : Operand} {Q : V × St → Prop} (hu : P.underlying t = some (.slice el)) (hi : infoOk P el 1 = true) (h : RdRow st y 1 n (wv L)) (hcap : CapOk y) (hv : opv e x = some (.int i (k : Int))) (hk : k ≤ n) (hpos : 0 < k)
    (hQ : ∀ v, RdRow st v 1 k (wv (L.take k)) → CapOk v → (∀ m, rowIn v m → rowIn y m) → blkOf v = blkOf y → (blkOf y).isSome = true → Q (v, st)) : Gd (sliceK P c e st t y none (some x)) Q := by
  have hwt : wv (L.take k) = (wv L).take k := by unfold wv; rw [List.map_take]
  obtain ⟨h1, h2⟩ := h
  have hL : L.length = n := by simpa using h1
  have get : ∀ j v, (wv (L.take k))[j]? = some v → (wv L)[j]? = some v ∧ j < k := fun j v hj => by
    have hjk : j < k := by have := lt_of_get hj; simp at this; omega
    rw [hwt, List.getElem?_take, if_pos hjk] at hj
    exact ⟨hj, hjk⟩
  unfold sliceK
  rcases h2 with ⟨_, rfl⟩ | ⟨m, o, q, ty, sz, tr, rfl, h3, h4, h5, h6⟩ | ⟨m, o, ty, sz, tr, rfl, h3, h4, h5, h6⟩
  · omega
  · have hq := hcap m o n q rfl
    rw [sliceE_hiS hu hi hv m o n q (by omega) (fun a => some (a, st))]
    refine ⟨_, rfl, hQ _ ⟨by simp [hL]; omega, .inr (.inl ⟨m, o, q, ty, sz, tr, rfl, h3, h4, by omega, fun j v hj => h6 j v (get j v hj).1⟩)⟩ (fun m' o' l' q' e => by injection e with _ _ e3 e4; omega) ?_ rfl rfl⟩
    rintro m' (⟨_, _, _, e⟩ | ⟨_, _, _, e⟩)
    · injection e with e; subst e; exact .inl ⟨_, _, _, rfl⟩
    · cases e
  · rw [sliceE_hi hu hi hv m o n (by omega) (fun a => some (a, st))]
    refine ⟨_, rfl, hQ _ ⟨by simp [hL]; omega, .inr (.inr ⟨m, o, ty, sz, tr, rfl, h3, h4, by omega, fun j v hj => h6 j v (get j v hj).1⟩)⟩ (fun m' o' l' q' e => by cases e) ?_ rfl rfl⟩
    rintro m' (⟨_, _, _, e⟩ | ⟨_, _, _, e⟩)
    · cases e
    · injection e with e; subst e; exact .inr ⟨_, _, _, rfl⟩
theorem yesClash {e : Env} {l : List (Nat × Nat)} {x : Operand} (h : clashes e l x = true) : lr false (fun x _ r => match clashes e l x with | true => true | false => r) [x] = true := by
  show (match clashes e l x with | true => true | false => lr false (fun x _ r => match clashes e l x with | true => true | false => r) []) = true
  rw [h]
theorem rowIn_blk {x : V} {m : Nat} (h : rowIn x m) : blkOf x = some m := by
  rcases h with ⟨_, _, _, rfl⟩ | ⟨_, _, _, rfl⟩ <;> rfl
theorem cxOf_callC {c : Cx} {e : Env} {d : Option Nat} {cl : Call} {ty : TypeId} {p : String} {af : Array Edge} {g : Option (Nat × Bool)} {ops : List Oper} {i m : Nat} {s0 : St} {rs : List (Nat × Nat × Nat)} {x : Operand} (ht : touches (.call cl) = true) (hm : mayW ops i = false) (hl : looseW ops e i = some [(m, m + 1)]) (ha : cl.args.toList = [x]) (hc : clashes e [(m, m + 1)] x = true) :
    ∃ wb, cxOf c ops ⟨d, .call cl, ty, p, af, g⟩ i rs s0 e = ⟨c.all, forb (befOf ops i) rs c.l, wb, c.nt⟩ := by
  have h0 : cxOf c ops ⟨d, .call cl, ty, p, af, g⟩ i rs s0 e = (match touches (.call cl) with
      | false => ⟨true, [], c.wb, c.nt⟩
      | true => (match mayW ops i with
        | true => ⟨c.all, forb (befOf ops i) rs c.l, c.wb, c.nt⟩
        | false => (match (match looseW ops e i with
            | none => none
            | some l => (match lr false (fun x _ r => match clashes e (alive s0.h l) x with | true => true | false => r) cl.args.toList with
              | true => none
              | false => some (alive s0.h l))) with
          | some l => ⟨c.all, l ++ forb (befOf ops i) rs c.l, c.wb, c.nt⟩
          | none => ⟨c.all, forb (befOf ops i) rs c.l, s0.nx, c.nt⟩))) := rfl
  cases hro : isRo s0.h m with
  | true => exact ⟨_, cxOf_callRo [(m, m + 1)] ht hm hl (fun p hp => by simp at hp; subst hp; exact hro)⟩
  | false =>
    refine ⟨s0.nx, ?_⟩
    rw [h0, ht, hm, hl, ha]
    have e1 : alive s0.h [(m, m + 1)] = [(m, m + 1)] := alive_own fun p hp => by simp at hp; subst hp; exact hro
    simp only [e1, yesClash hc]
theorem Gd_cxE {P : Program} {c : Cx} {l : List (Nat × Nat)} {nt : Nat} {al : Bool} {f : Nat} {args : List V} {st : St} {R : V × St → Prop} (h : ∃ wb, c = ⟨al, l, wb, nt⟩) (k : ∀ wb, Gd (callL P ⟨al, l, wb, nt⟩ f args st) R) : Gd (callL P c f args st) R := by
  obtain ⟨wb, rfl⟩ := h
  exact k wb
def fitsL (L : List (BitVec 64)) : Prop := 0 < L.length ∧ wat L (L.length - 1) = slOf (L.take (L.length - 1))
instance (L : List (BitVec 64)) : Decidable (fitsL L) := by unfold fitsL; infer_instance
set_option maxRecDepth 20000 in
set_option maxHeartbeats 4000000 in
theorem sfits_any (st : St) (x : V) (L : List (BitVec 64)) (hx : RdRow st x 1 L.length (wv L)) (hcap : CapOk x) (hL : 2 ≤ L.length) (hL2 : L.length ≤ 1000000) (nt : Nat) :
    Gd (callL Try.prog ⟨false, [], 0, nt⟩ 206 [x] st) fun r => r = (.bool (decide (fitsL L)), st) := by
  rw [Gd_callL Try.func206 rfl]
  obtain ⟨n, hn⟩ : ∃ n, L.length = n + 1 := ⟨L.length - 1, by omega⟩
  have w1 : IntKind.i64.wrap ((L.length : Int) - 1) = (n : Int) := by rw [show (L.length : Int) - 1 = (n : Int) by omega]; exact wrap_in (by omega) (by omega)
  obtain ⟨m1, o1, ty1, sz1, t1, i1, b1, k1, l1, c1, r1⟩ := hx.idxB (st := st) un23 io24 (i := n) (by omega)
  have d1 : t1.get o1 = some (wd (wat L n)) := c1 0 _ (by omega) (by simpa using wv_get (wat_get (L := L) (i := n) (by omega)))
  have hn0 : (0 : Int) ≤ (n : Int) := by omega
  simp [evOp_call, sets, T.get_set, hx.lenS, w1, hn0]
  refine ⟨by kernel_rfl, ?_⟩
  simp [evOp_call, sets, T.get_set, i1, loadE_eq, getC_eq, k1, d1]
  refine Gd_headR (i := .i64) (k := n) un23 io24 hx hcap (by simp [T.get_set]) (by omega) (by omega) fun v hv hvc hvr hb1 hb2 => ?_
  simp [evOp_call, sets, T.get_set]
  refine Gd_cxE (cxOf_callC (x := .tmp 16) (m := m1) (by kernel_rfl) (by kernel_rfl) (looseW_at 12 (.p m1 o1) (by simp [T.get_set]) (by kernel_rfl)) rfl (by rw [clashes_tmp]; simp [T.get_set, hb1, rowIn_blk r1, inF_cons])) fun wb => ?_
  simp only [forb_nil]
  refine Gd.mono (slOf_any st wb v (L.take n) (by rw [List.length_take, show min n L.length = n by omega]; exact hv) (by simp; omega) _) ?_
  rintro _ rfl
  have hd : decide (fitsL L) = decide (wat L n = slOf (L.take n)) := by
    rw [decide_eq_decide]; unfold fitsL
    rw [show L.length - 1 = n by omega]
    exact ⟨fun h => h.2, fun h => ⟨by omega, h⟩⟩
  simp [evOp_call, sets, T.get_set, hd]
end Go.Proofs.Ytdoennkmcloalaa

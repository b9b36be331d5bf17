/-
  Rows of words alike; bytes as a text; the law WordSays, walked.
-/
import Derived.Test.YtdoennkmcloalaaWdH
set_option linter.unusedSimpArgs false
namespace Go.Proofs.Ytdoennkmcloalaa
open Go.RowKit Ev
theorem inF_own {fl : List (Nat × Nat)} {m : Nat} (h : inF fl m = false) (nx : Nat) : inF ((0, m) :: (m + 1, nx) :: fl) m = false := by
  rw [inF_cons, if_neg (by omega), inF_cons, if_neg (by omega)]
  exact h
def saI (st : St) (x y : V) (L K : List (BitVec 64)) (e : Env) (s : St) : Prop := ∃ i : Nat, i ≤ L.length ∧ e.get 0 = some x ∧ e.get 1 = some y ∧ e.get 5 = some (.int .i64 (i : Int)) ∧ L.take i = K.take i ∧ s = st
set_option maxRecDepth 20000 in
set_option maxHeartbeats 2000000 in
theorem same_fl (st : St) (fl : List (Nat × Nat)) (x y : V) (L K : List (BitVec 64)) (hx : RdRow st x 1 L.length (wv L)) (hy : RdRow st y 1 K.length (wv K)) (hL : L.length ≤ 1000000) (hfx : ∀ m, rowAt x m → inF fl m = false) (hfy : ∀ m, rowAt y m → inF fl m = false) (nt : Nat) :
    Gd (callL Try.prog ⟨false, fl, 0, nt⟩ 26 [x, y] st) fun r => r = (.bool (decide (L = K)), st) := by
  rw [Gd_callL Try.func26 rfl]
  by_cases hn : (L.length : Int) = (K.length : Int)
  · have hn' : L.length = K.length := by omega
    simp [evOp_call, sets, T.get_set, hx.lenS, hy.lenS, hn']
    refine Gd_loop (saI st x y L K) (fun en _ => muAt 5 L.length en) ?_ ?_
    · exact ⟨0, Nat.zero_le _, by simp [T.get_set], by simp [T.get_set], by simp [T.get_set], rfl, rfl⟩
    · rintro en sx ⟨i, hi, g0, g1, g5, ht, rfl⟩
      by_cases hlt : i < L.length
      · have hlt' : (i : Int) < (L.length : Int) := by omega
        have w1 : IntKind.i64.wrap ((i : Int) + 1) = ((i + 1 : Nat) : Int) := by rw [show ((i : Int) + 1) = ((i + 1 : Nat) : Int) by omega]; exact wrap_in (by omega) (by omega)
        obtain ⟨p, hp⟩ : ∃ p, L[i]? = some p := ⟨_, List.getElem?_eq_getElem hlt⟩
        obtain ⟨q, hq⟩ : ∃ q, K[i]? = some q := ⟨_, List.getElem?_eq_getElem (by omega)⟩
        obtain ⟨m, o, ty, sz, tr, hid, hm, hg, ho, hc, hr⟩ := hx.idxB (st := sx) un23 io24 hlt
        obtain ⟨m2, o2, ty2, sz2, tr2, hid2, hm2, hg2, ho2, hc2, hr2⟩ := hy.idxB (st := sx) un23 io24 (i := i) (by omega)
        have t0 : tr.get o = some (wd p) := hc 0 _ (by omega) (by simpa using wv_get hp)
        have t2 : tr2.get o2 = some (wd q) := hc2 0 _ (by omega) (by simpa using wv_get hq)
        have f1 := hfx m hr
        have f2 := hfy m2 hr2
        have o1 : ∀ nx, inF ((0, m) :: (m + 1, nx) :: fl) m = false := inF_own f1
        have o2' : ∀ nx, inF ((0, m2) :: (m2 + 1, nx) :: fl) m2 = false := inF_own f2
        simp [evOp_call, T.get_set, g0, g1, g5, hx.lenS, hlt']
        refine ⟨by kernel_rfl, ?_⟩
        by_cases hpq : p = q
        · simp [evOp_call, T.get_set, g0, g1, g5, hid, hid2, loadE_eq, getC_eq, hg, hg2, t0, t2, f1, f2, o1, o2', hpq, w1]
          refine ⟨⟨i + 1, hlt, by simp [T.get_set, g0], by simp [T.get_set, g1], by simp [T.get_set], ?_, rfl⟩, muAt_lt g5 (by simp [T.get_set]) hlt⟩
          rw [List.take_add_one, List.take_add_one, hp, hq, ht, hpq]
        · have hne : ¬ L = K := fun e => by rw [e, hq] at hp; injection hp with hp; exact hpq hp.symm
          simp [evOp_call, T.get_set, g0, g1, g5, hid, hid2, loadE_eq, getC_eq, hg, hg2, t0, t2, f1, f2, o1, o2', hpq, hne]
      · obtain rfl : i = L.length := by omega
        rw [List.take_length, hn', List.take_length] at ht
        simp [evOp_call, T.get_set, g0, g1, g5, hx.lenS, ht]
  · have hne : ¬ L = K := fun e => hn (by rw [e])
    have hn' : ¬ L.length = K.length := by omega
    simp [evOp_call, sets, T.get_set, hx.lenS, hy.lenS, hn, hn', hne]
theorem cxOf_conv {c : Cx} {e : Env} (d : Option Nat) (t u ty : TypeId) (q : Nat) (p : String) (af : Array Edge) (g : Option (Nat × Bool)) (ops : List Oper) (i : Nat) (s0 : St) (rs : List (Nat × Nat × Nat)) : cxOf c ops ⟨d, .convert t u (.tmp q), ty, p, af, g⟩ i rs s0 e = ldC (e.get q) c (forb (befOf ops i) rs c.l) s0.nx := by
  have h : cxOf c ops ⟨d, .convert t u (.tmp q), ty, p, af, g⟩ i rs s0 e = (match e.get q with
      | some v => (match blkOf v with
        | some m => ⟨c.all, (0, m) :: (m + 1, s0.nx) :: forb (befOf ops i) rs c.l, s0.nx, c.nt⟩
        | none => ⟨true, [], s0.nx, c.nt⟩)
      | none => ⟨true, [], s0.nx, c.nt⟩) := rfl
  rw [h]
  cases e.get q <;> rfl
def txtB (B : List Int) : List Nat := B.map Int.toNat
theorem bytesOf_bv {β : Type} : ∀ (B : List Int) (k : List Nat → Option β), (∀ b ∈ B, 0 ≤ b ∧ b < 256) → bytesOfAs (bv B) k = k (txtB B)
  | [], k, _ => rfl
  | b :: B, k, h => by
    obtain ⟨n, rfl⟩ : ∃ n : Nat, b = (n : Int) := ⟨b.toNat, by have := h b (by simp); omega⟩
    have hn : Nat.blt n 256 = true := by
      have := h (n : Int) (by simp)
      rw [Nat.blt_eq]; omega
    have e : bytesOfAs (bv ((n : Int) :: B)) k = (match Nat.blt n 256 with | true => bytesOfAs (bv B) fun r => k (n :: r) | false => none) := rfl
    rw [e, hn]
    exact bytesOf_bv B _ fun b hb => h b (by simp [hb])
theorem first_c {β : Type} {c : Cx} {st : St} {z n : Nat} {x : V} {l : List V} (h : RdRow st x z n l) (hok : ∀ m, rowAt x m → c.ok m = true) (k : List V → Option β) : firsts c st z n x k = k l := by
  obtain ⟨h1, h2⟩ := h
  rcases h2 with ⟨hx, rfl⟩ | ⟨m, o, q, ty, sz, t, rfl, _, h4, _, h6⟩ | ⟨m, o, ty, sz, t, rfl, _, h4, _, h6⟩
  · have hl : l = [] := List.eq_nil_of_length_eq_zero (by rw [h1]; simp)
    subst hl
    rcases hx with rfl | rfl <;> rfl
  · rw [firsts_sl, if_pos (Nat.le_refl _), getC_eq, h4]
    simp only [hok m (.inl ⟨_, _, _, rfl⟩), cond_true, Option.bind_some, csK_cs]
    rw [← h1]
    exact getsB_list h6 k
  · have e1 : Ev.firsts c st z n (.sg m o n z) k = (match Nat.ble n n with | true => getC c st m fun t => getsB t (n * z) o k | false => none) := rfl
    have e2 : Nat.ble n n = true := by rw [Nat.ble_eq]; exact Nat.le_refl _
    rw [e1, e2]
    simp only
    rw [getC_eq, h4]
    simp only [hok m (.inr ⟨_, _, _, rfl⟩), cond_true, Option.bind_some, csK_cs]
    rw [← h1]
    exact getsB_list h6 k
theorem conv_text {c : Cx} {st : St} {x : V} {B : List Int} (hx : RdRow st x 1 B.length (bv B)) (hb : ∀ b ∈ B, 0 ≤ b ∧ b < 256) (hok : ∀ m, rowAt x m → c.ok m = true) : convE Try.prog c st 22 9 x = some (.s (txtB B), st) := by
  have h2 := hx.2
  have e : convE Try.prog c st 22 9 x = lenA x fun len => firsts c st 1 len x fun l => bytesOfAs l fun l => some (.s l, st) := by
    unfold convE
    rw [un22, un9]
    rcases h2 with ⟨rfl | rfl, _⟩ | ⟨m, o, q, ty, sz, t, rfl, _⟩ | ⟨m, o, ty, sz, t, rfl, _⟩ <;> (simp only [un5]; rfl)
  rw [e, hx.len, first_c hx hok, bytesOf_bv B _ hb]
theorem conv_ld {c : Cx} {l : List (Nat × Nat)} {nx : Nat} {st : St} {x : V} {B : List Int} (hc : c.all = false) (hx : RdRow st x 1 B.length (bv B)) (hb : ∀ b ∈ B, 0 ≤ b ∧ b < 256) (hl : ∀ m, rowAt x m → inF l m = false) : convE Try.prog (ldC (some x) c l nx) st 22 9 x = some (.s (txtB B), st) := by
  refine conv_text hx hb fun m hm => ?_
  have hbk : blkOf x = some m := by rcases hm with ⟨_, _, _, rfl⟩ | ⟨_, _, _, rfl⟩ <;> rfl
  have e : ldC (some x) c l nx = ⟨c.all, (0, m) :: (m + 1, nx) :: l, nx, c.nt⟩ := by
    show (match blkOf x with | some m => (⟨c.all, (0, m) :: (m + 1, nx) :: l, nx, c.nt⟩ : Cx) | none => ⟨true, [], nx, c.nt⟩) = _
    rw [hbk]
  rw [e, hc]
  show (!inF _ m) = true
  rw [inF_own (hl m hm)]
  rfl
end Go.Proofs.Ytdoennkmcloalaa

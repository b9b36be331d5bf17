/-
  Contracts: a book on a new memory; the law of chapter 14's test of itself runs to true.
-/
import Derived.Test.YtdoennkmcloalaaBkB
import Derived.Test.YtdoennkmcloalaaBkD
set_option linter.unusedSimpArgs false
namespace Go.Proofs.Ytdoennkmcloalaa
open Go.RowKit Ev
theorem cxOf_storeL {c : Cx} {e : Env} {d : Option Nat} {t ty : TypeId} {x y : Operand} {p : String} {af : Array Edge} {g : Option (Nat × Bool)} {ops : List Oper} {i : Nat} {s0 : St} {rs : List (Nat × Nat × Nat)} (l : List (Nat × Nat)) (h : mayW ops i = false) (hl : looseW ops e i = some l) (ha : ∀ p ∈ l, isRo s0.h p.1 = false) : cxOf c ops ⟨d, .store t x y, ty, p, af, g⟩ i rs s0 e = ⟨c.all, l ++ forb (befOf ops i) rs c.l, c.wb, c.nt⟩ := by
  have h0 : cxOf c ops ⟨d, .store t x y, ty, p, af, g⟩ i rs s0 e = (match mayW ops i with
      | true => ⟨c.all, forb (befOf ops i) rs c.l, c.wb, c.nt⟩
      | false => (match (match looseW ops e i with
          | none => none
          | some l => some (alive s0.h l)) with
        | some l => ⟨c.all, l ++ forb (befOf ops i) rs c.l, c.wb, c.nt⟩
        | none => ⟨c.all, forb (befOf ops i) rs c.l, s0.nx, c.nt⟩)) := rfl
  rw [h0, h, hl]
  simp only [alive_own ha]
theorem namesOkB : Ev.namesOk Try.prog = true := by kernel_rfl
theorem mixesB : Try.prog.follows .mixedOrders = true := by kernel_rfl
theorem zero_calm (n : Nat) : calm (zeroA n) n 0 := by
  obtain ⟨h1, h2, _⟩ := atom_zero n (fun _ _ => True) (fun _ => trivial)
  exact ⟨h1, h2⟩
theorem zero_allO (n : Nat) : allO (zeroA n).L := fun m hm => by
  have hm' : m ∈ (List.range n).map (lineM (List.replicate (n * 8) 0#64)) := hm
  obtain ⟨i, _, rfl⟩ := List.mem_map.1 hm'
  rfl
theorem zero_get {n p : Nat} (hp : p < 8 * n) : (allN (zeroA n).L)[p]? = some 0#64 := by
  have hl := (zero_calm n).ok.ls
  have h := (zero_As n (fun _ w => w = 0#64) fun _ => rfl).all hl (zero_allO n)
  obtain ⟨v, hv⟩ : ∃ v, (allN (zeroA n).L)[p]? = some v := ⟨_, List.getElem?_eq_getElem (by rw [hl.nlen]; omega)⟩
  rw [hv, h p v hv]
@[simp] theorem mem_eqlnil (st : St) (x y : Operand) (n : Nat) : binE Try.prog st .eql 118 x y (.p n 0) (.c (.pointer none)) = some (.bool false, st) := by kernel_rfl
@[simp] theorem mem_neqnil (st : St) (x y : Operand) (n : Nat) : binE Try.prog st .neq 118 x y (.p n 0) (.c (.pointer none)) = some (.bool true, st) := by kernel_rfl
set_option maxRecDepth 20000 in
set_option maxHeartbeats 8000000 in
theorem begun_any (st : St) (n : Nat) (hn : 1 ≤ n ∧ n ≤ 1000) (nt : Nat) :
    Gd (callL Try.prog ⟨false, [], 0, nt⟩ 85 [.int .i64 (n : Int)] st) fun r => ∃ q v, r.1 = .t [bkV q 1 n 3, .p q 0, .bool true] ∧ MLive st r.2 q v ∧ absV v = zeroA (n + 2) := by
  rw [Gd_callL Try.func85 rfl]
  have w1 : IntKind.i64.wrap ((n : Int) + 2) = ((n + 2 : Nat) : Int) := by rw [show (n : Int) + 2 = ((n + 2 : Nat) : Int) by omega]; exact wrap_in (by omega) (by omega)
  have hx0 := fun b => (Ext.refl st.nx st).new (Nat.le_refl _) b
  simp [evOp_call, sets, T.get_set, newC_is, w1]
  refine Gd.mono (mnew_any _ (n + 2) (by omega) _) ?_
  rintro ⟨r, s0⟩ ⟨q, v, hr, hv, ha⟩
  simp only at hr hv
  subst hr
  have hv0 := hv.from (hx0 _)
  have hok : okS (absV v) (n + 2) 0 := by rw [ha]; exact (zero_calm _).ok
  obtain ⟨hR, hO⟩ := hok.R
  have hq : ¬ MOw q v st.nx := fun e => by have := hv.own _ e; exact absurd this (by show ¬ st.nx + 1 ≤ st.nx; omega)
  have hle0 : st.nx + 1 ≤ s0.nx := hv.ext.le
  have k0 : s0.h.get st.nx = _ := (hv.ext.keep st.nx (Nat.lt_succ_self _)).trans (T.get_set_same _ _ _)
  simp [evOp_call, sets, T.get_set, tupK]
  refine Gd.mono (sof_any s0 q v hv.at' (by omega) 1 n _) ?_
  rintro ⟨r, s1⟩ ⟨hr, e1⟩
  simp only at hr e1
  have hw : winB 1 (n : Int) v.R.length := ⟨by omega, by omega, by omega, by omega⟩
  unfold ofV' at hr
  rw [if_pos hw] at hr
  subst hr
  have hv1 := hv0.more e1
  have hle1 := e1.le
  have k1 := (e1.keep st.nx (by omega)).trans k0
  have hsp : V.g [V.p q 0, V.int .i64 1, V.int .i64 n] = spV q 1 n := rfl
  simp [spV, evOp_call, sets, T.get_set, tupK, newC_is, cellsOf, storeK_g, putB_eq, roT, loadE_eq, getC_eq, getsB_succ, getsB_zero]
  rw [hsp]
  have hx2 := fun b => (Ext.refl s1.nx s1).new (Nat.le_refl _) b
  refine Gd.mono (bnewB_any _ q 1 n 3 _) ?_
  rintro ⟨r, s2⟩ ⟨hr, e2⟩
  simp only at hr e2
  subst hr
  have hv2 := (hv1.more (hx2 _)).more e2
  have hle2 : s1.nx + 1 ≤ s2.nx := e2.le
  have k2 := (e2.keep st.nx (by show st.nx < s1.nx + 1; omega)).trans ((hx2 _).keep st.nx (by omega) |>.trans k1)
  have hne : ¬ s2.nx = st.nx := by omega
  have hne' : ¬ st.nx = s2.nx := by omega
  simp [bkV, evOp_call, sets, T.get_set, newC_is, cellsOf, storeK_g, putB_eq, roT, loadE_eq, getC_eq, getsB_succ, getsB_zero, hne, hne', k2]
  refine ⟨by kernel_rfl, ?_⟩
  rw [cxOf_storeL [(s2.nx, s2.nx + 1)] (by kernel_rfl) (looseW_at 37 (.p s2.nx 0) (by simp [T.get_set]) (by kernel_rfl)) (fun p hp => by simp at hp; subst hp; rw [isRo_cs (T.get_set_same _ _ _)]; decide)]
  simp [evOp_call, sets, T.get_set, newC_is, cellsOf, storeK_g, putB_eq, roT, loadE_eq, getC_eq, getsB_succ, getsB_zero, hne, hne', k2]
  exact ⟨fun _ => ⟨v, (hv2.more ((Ext.refl s2.nx s2).new (Nat.le_refl _) _)).poke hq (Nat.le_refl _) (by show st.nx < s2.nx + 1; omega) _, ha⟩, by rw [inF_cons, if_neg (by omega)]; rfl⟩
end Go.Proofs.Ytdoennkmcloalaa

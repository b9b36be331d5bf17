/-
  Contracts of package pool: New, Group; of the law's empty bits.
-/
import Derived.Test.YtgcpgidofikcdaaGreatDoorPlU
import Derived.Test.YtgcpgidofikcdaaGreatDoorGmA
import Derived.Test.YtgcpgidofikcdaaGreatDoorSc
set_option linter.unusedSimpArgs false
namespace Go.Proofs.YtgcpgidofikcdaaGreatDoor
open Go.RowKit Ev
theorem rep_zero (n : Nat) : rep [V.int .u64 0] n = wv (List.replicate n 0#64) := by
  induction n with
  | zero => rfl
  | succ n ih => show [V.int .u64 0] ++ rep [V.int .u64 0] n = _; rw [ih]; rfl
theorem builtR {st : St} {el n : Nat} {vs : List V} (hel : el ≠ roT) (hn : vs.length = n) : RdRow ⟨st.nx + 1, st.h.set st.nx (.cs el n (sets vs 0 .lf))⟩ (.sl st.nx 0 n n) 1 n vs := (AppRow.built (b := st.nx) (Nat.le_refl _) hel hn).rd
set_option maxRecDepth 20000 in
set_option maxHeartbeats 4000000 in
theorem bnew_any (st : St) (n : Nat) (hn : n ≤ 65536) (nt : Nat) :
    Gd (callL Tryz.prog ⟨false, [], 0, nt⟩ 143 [.int .i64 (n : Int)] st) fun r => ∃ y, r.1 = .g [y] ∧ RdRow r.2 y 1 ((n + 63) / 64) (wv (List.replicate ((n + 63) / 64) 0#64)) ∧ RowFrom st.nx y ∧ Ext st.nx st r.2 := by
  rw [Gd_callL Tryz.func143 rfl]
  have c1 : ¬ (65536 : Int) < (n : Int) := by omega
  have c2 : (if (0 : Int) < (n : Int) then (n : Int) else 0) = (n : Int) := by split <;> omega
  have c3 : (if 0 < n then (n : Int) else 0) = (n : Int) := by split <;> omega
  have w1 : IntKind.i64.wrap ((n : Int) + 64) = (n : Int) + 64 := wrap_in (by omega) (by omega)
  have w2 : IntKind.i64.wrap ((n : Int) + 64 - 1) = (n : Int) + 64 - 1 := wrap_in (by omega) (by omega)
  have w3 : ((n : Int) + 64 - 1).tdiv 64 = (((n + 63) / 64 : Nat) : Int) := by rw [Int.tdiv_eq_ediv_of_nonneg (by omega)]; omega
  have w4 : IntKind.i64.wrap (((n + 63) / 64 : Nat) : Int) = (((n + 63) / 64 : Nat) : Int) := wrap_in (by omega) (by omega)
  have w5 : IntKind.i64.wrap (((n : Int) + 63) / 64) = ((n : Int) + 63) / 64 := wrap_in (by omega) (by omega)
  have he : Ext st.nx st ⟨st.nx + 1, st.h.set st.nx (.cs 76 1 (sets [.c (.slice none 0 0)] 0 .lf))⟩ := (Ext.refl _ _).new (Nat.le_refl _) _
  simp [evOp_call, sets, T.get_set, cellsOf, newC_is, loadE_eq, getC_eq, evOp_min, evOp_max, min_i64, max_i64, c1, c2, c3, w1, w2, w3, w4]
  refine Gd_make (n := (n + 63) / 64) (q := (n + 63) / 64) (i := .i64) (i' := .i64) (zs := [.int .u64 0]) (fun k => el60 k) io78 (fun k => ze78 k) (by simp [T.get_set, w1, w2, w3, w4, w5]) (by simp [T.get_set, w1, w2, w3, w4, w5]) (Nat.le_refl _) (by omega) ?_
  rw [rep_zero]
  have hb := builtR (st := ⟨st.nx + 1, st.h.set st.nx (.cs 76 1 (sets [.c (.slice none 0 0)] 0 .lf))⟩) (el := 78) (vs := wv (List.replicate ((n + 63) / 64) 0#64)) (n := (n + 63) / 64) (by decide) (by simp [wv])
  have q1 : ¬ st.nx + 1 = st.nx := by omega
  simp [evOp_call, sets, T.get_set, cellsOf, newC_is, loadE_eq, getC_eq, storeK_g, putB_eq, roT, q1, getsB_1]
  refine ⟨hb.setOther (k := st.nx) (fun o l z e => by cases e) (fun o l q e => by injection e with e; exact q1 e) _, ⟨fun _ _ _ _ e => (by cases e), fun _ _ _ _ e => (by injection e with e; omega)⟩, (he.new (Nat.le_succ _) _).set (Nat.le_refl _) (by show st.nx < st.nx + 1 + 1; omega) _⟩
end Go.Proofs.YtgcpgidofikcdaaGreatDoor

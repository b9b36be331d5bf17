/-
  Package lock: Holds, Who, May.
-/
import Derived.Test.YtdoennkmcloalaaLpD
import Derived.Test.YtdoennkmcloalaaLkG
set_option linter.unusedSimpArgs false
set_option linter.unusedVariables false
namespace Go.Proofs.Ytdoennkmcloalaa
open Go.RowKit Ev
set_option maxRecDepth 20000 in
set_option maxHeartbeats 4000000 in
theorem holds_G (st : St) (q a b pb : Nat) (KB : Nat → Prop) (hv : Int → List Wn) (ky : Int → List Int × Bool) (TL : LkAt st q a b pb KB hv ky) (who : Int) (nt : Nat) :
    Gd (callL Try.prog ⟨false, [], 0, nt⟩ 113 [.p q 0, .int .i64 who] st) fun r => RdRow r.2 r.1 2 (hv who).length (cellsK (hv who)) ∧ Ext st.nx st r.2 := by
  rw [Gd_callL Try.func113 rfl]
  obtain ⟨A, B, ca, cb, TT, TM⟩ := TL
  obtain ⟨hq, ha, hb, hab, haq, hbq, ⟨t, ht, t0, t1⟩, gA, gB⟩ := TT
  obtain ⟨x, hlook, hx⟩ : ∃ x, (∀ nt, lookE Try.prog ⟨false, [], 0, nt⟩ st 237 (.m a) (.int .i64 who) false = some (x, st)) ∧ RdRow st x 2 (hv who).length (cellsK (hv who)) := by
    by_cases hw : hv who = []
    · have hA : ∀ e ∈ A, e.1 ≠ who := fun e he h => (TM.aOk e he).1 (h ▸ hw)
      exact ⟨.c (.slice none 0 0), fun nt => by rw [look_no map_w rfl gA hA zv_w]; rfl, by rw [hw]; exact ⟨rfl, .inl ⟨.inl rfl, rfl⟩⟩⟩
    · obtain ⟨j, v, cj, hj, hjn⟩ := mfirst (TM.aAll who hw)
      obtain ⟨_, hr⟩ := TM.aOk _ (List.mem_of_getElem? hj)
      exact ⟨v, fun nt => by rw [look_yes map_w rfl gA hj hjn]; rfl, hr.rd⟩
  simp [evOp_call, sets, T.get_set, loadE_eq, getC_eq, ht, t0, hlook]
  refine Gd.mono (cloneW_any st x _ _ hx (by have := TM.big.1 who; omega) _) ?_
  rintro ⟨r, s1⟩ ⟨h1, _, _, x1⟩
  simp only at h1 x1
  simp [evOp_call, sets, T.get_set]
  exact ⟨h1, x1⟩
set_option maxRecDepth 20000 in
set_option maxHeartbeats 4000000 in
theorem who_G (st : St) (q a b pb : Nat) (KB : Nat → Prop) (hv : Int → List Wn) (ky : Int → List Int × Bool) (TL : LkAt st q a b pb KB hv ky) (k : Int) (nt : Nat) :
    Gd (callL Try.prog ⟨false, [], 0, nt⟩ 114 [.p q 0, .int .i64 k] st) fun r => RdRow r.2 r.1 1 (ky k).1.length (iv1 (ky k).1) ∧ Ext st.nx st r.2 := by
  rw [Gd_callL Try.func114 rfl]
  obtain ⟨A, B, ca, cb, TT, TM⟩ := TL
  obtain ⟨hq, ha, hb, hab, haq, hbq, ⟨t, ht, t0, t1⟩, gA, gB⟩ := TT
  obtain ⟨x, al, hlook, hx⟩ : ∃ x al, (∀ nt, lookE Try.prog ⟨false, [], 0, nt⟩ st 238 (.m b) (.int .i64 k) false = some (.g [x, .bool al], st)) ∧ RdRow st x 1 (ky k).1.length (iv1 (ky k).1) := by
    by_cases hw : (ky k).1 = []
    · have hB : ∀ e ∈ B, e.1 ≠ k := fun e he h => (TM.bOk e he).1 (h ▸ hw)
      exact ⟨.c (.slice none 0 0), false, fun nt => by rw [look_no map_h rfl gB hB zv_h]; rfl, by rw [hw]; exact ⟨rfl, .inl ⟨.inl rfl, rfl⟩⟩⟩
    · obtain ⟨j, v, cj, hj, hjn⟩ := mfirst (TM.bAll k hw)
      obtain ⟨_, m, ty, sz, tm, hv1, hm1, hm2, hm3, hm4, hm5, hm6⟩ := TM.bOk _ (List.mem_of_getElem? hj)
      simp only at hv1 hm5
      subst hv1
      refine ⟨_, _, fun nt => by rw [look_yes map_h rfl gB hj hjn]; rfl, by simp [iv1], .inr (.inr ⟨m, 0, ty, sz, tm, rfl, hm1, hm3, by omega, fun j v hj => by rw [Nat.zero_add]; exact hm6 j v hj⟩)⟩
  simp [evOp_call, sets, T.get_set, loadE_eq, getC_eq, ht, t1, hlook, fdHeld]
  refine Gd.mono (cloneI_any st x _ _ hx (by have := TM.big.2 k; omega) _) ?_
  rintro ⟨r, s1⟩ ⟨h1, _, _, x1⟩
  simp only at h1 x1
  simp [evOp_call, sets, T.get_set]
  exact ⟨h1, x1⟩
set_option maxRecDepth 20000 in
set_option maxHeartbeats 4000000 in
theorem may_G (st : St) (q a b pb : Nat) (KB : Nat → Prop) (hv : Int → List Wn) (ky : Int → List Int × Bool) (TL : LkAt st q a b pb KB hv ky) (who : Int) (x : V) (K : List Wn) (hx : RdRow st x 2 K.length (cellsK K)) (h2 : K.length ≤ 1000) (nt : Nat) :
    Gd (callL Try.prog ⟨false, [], 0, nt⟩ 111 [.p q 0, .int .i64 who, x] st) fun r => ∃ c : Int, RefC hv ky who K c ∧ r.1 = .bool (decide (c = 0)) ∧ Ext st.nx st r.2 := by
  rw [Gd_callL Try.func111 rfl]
  simp [evOp_call, sets, T.get_set]
  refine Gd.mono (ref_G st q a b pb KB hv ky TL who x K hx h2 _) ?_
  rintro ⟨r, s1⟩ ⟨c, hr, hc, x1⟩
  simp only at hr x1
  subst hr
  simp [evOp_call, sets, T.get_set]
  exact ⟨c, hc, Iff.rfl, x1⟩
end Go.Proofs.Ytdoennkmcloalaa

/-
  PLAIN: HdW, HdB, HdI, HdF, in one text.
-/
import Derived.Test.YtgcpgidofikcdaaGreatDoorHd
import Derived.Test.YtgcpgidofikcdaaGreatDoorSb
import Derived.Test.YtgcpgidofikcdaaGreatDoorEc
import Derived.Test.YtgcpgidofikcdaaGreatDoorEqS
import Derived.Test.YtgcpgidofikcdaaGreatDoorGmA
import Derived.Test.YtgcpgidofikcdaaGreatDoorSc
set_option linter.unusedSimpArgs false
namespace Go.Proofs.YtgcpgidofikcdaaGreatDoor
open Go.RowKit Ev
end Go.Proofs.YtgcpgidofikcdaaGreatDoor
set_option linter.unusedSimpArgs false
namespace Go.Proofs.YtgcpgidofikcdaaGreatDoor
open Go.RowKit Ev
end Go.Proofs.YtgcpgidofikcdaaGreatDoor
set_option linter.unusedSimpArgs false
namespace Go.Proofs.YtgcpgidofikcdaaGreatDoor
open Go.RowKit Ev
end Go.Proofs.YtgcpgidofikcdaaGreatDoor
set_option linter.unusedSimpArgs false
namespace Go.Proofs.YtgcpgidofikcdaaGreatDoor
open Go.RowKit Ev
def ofH (b : Int) (L : List (BitVec 64)) : Option (Gm × BitVec 64) := match getH L with
  | some (g, p) => if g.b = b then some (g, p) else none
  | none => none
set_option maxRecDepth 20000 in
set_option maxHeartbeats 4000000 in
theorem hof_any (st : St) (b : Int) (x : V) (L : List (BitVec 64)) (hx : RdRow st x 1 L.length (wv L)) (nt : Nat) :
    Gd (callL Tryz.prog ⟨false, [], 0, nt⟩ 145 [.int .i64 b, x] st) fun r => r.1 = getHV (ofH b L) ∧ Ext st.nx st r.2 := by
  rw [Gd_callL Tryz.func145 rfl]
  simp [evOp_call, sets, T.get_set, newC_is]
  refine Gd.mono (hget_any _ x L (hx.ext (hbox_ext st _)) _) ?_
  rintro ⟨r, s1⟩ ⟨hr, x1⟩
  simp only at hr x1
  subst hr
  have l1 : st.nx < s1.nx := x1.le
  have k0 : s1.h.get st.nx = _ := (x1.keep _ (Nat.lt_succ_self _)).trans (T.get_set_same _ _ _)
  have n1 : ¬ s1.nx = st.nx := by omega
  have hs1 : Ext st.nx st s1 := (hbox_ext st _).trans (x1.mono (Nat.le_succ _))
  have hfin : ∀ v w, Ext st.nx st ⟨s1.nx + 1, (s1.h.set s1.nx v).set st.nx w⟩ := fun v w => (hs1.new (by omega) v).set (m := st.nx) (Nat.le_refl _) (by show st.nx < s1.nx + 1; omega) w
  cases hg : getH L with
  | none =>
    have ho : ofH b L = none := by unfold ofH; rw [hg]
    simp [getHV, hdV, evOp_call, sets, T.get_set, newC_is, storeK_g, putB_eq, roT, loadE_eq, getC_eq, getsB_succ, getsB_zero, k0, n1, ho]
    exact ⟨rfl, hfin _ _⟩
  | some gp =>
    obtain ⟨g, p⟩ := gp
    by_cases hb : g.b = b
    · have ho : ofH b L = some (g, p) := by unfold ofH; rw [hg]; exact if_pos hb
      simp [getHV, hdV, evOp_call, sets, T.get_set, newC_is, storeK_g, putB_eq, roT, loadE_eq, getC_eq, getsB_succ, getsB_zero, k0, n1, ho, hb]
      exact hfin _ _
    · have ho : ofH b L = none := by unfold ofH; rw [hg]; exact if_neg hb
      simp [getHV, hdV, evOp_call, sets, T.get_set, newC_is, storeK_g, putB_eq, roT, loadE_eq, getC_eq, getsB_succ, getsB_zero, k0, n1, ho, hb]
      exact ⟨rfl, hfin _ _⟩
def hdO (a b : Option (Gm × BitVec 64)) : V := match a with
  | some (g, p) => hdV g p
  | none => (match b with
    | some (g, p) => hdV g p
    | none => hdV ⟨0, 0, 0, 0⟩ 0#64)
def findHV (a b : Option (Gm × BitVec 64)) : V := .t [hdO a b, .bool a.isSome, .bool b.isSome]
def hdG (a : Option (Gm × BitVec 64)) : V := match a with
  | some (g, p) => hdV g p
  | none => hdV ⟨0, 0, 0, 0⟩ 0#64
theorem getHV_eq (a : Option (Gm × BitVec 64)) : ∃ g p, getHV a = .t [hdV g p, .bool a.isSome] ∧ hdG a = hdV g p := by
  cases a with
  | none => exact ⟨_, _, rfl, rfl⟩
  | some q => exact ⟨_, _, rfl, rfl⟩
theorem hdO_t {a : Option (Gm × BitVec 64)} (b : Option (Gm × BitVec 64)) (h : a.isSome = true) : hdO a b = hdG a := by
  cases a with
  | none => cases h
  | some q => rfl
theorem hdO_f {a : Option (Gm × BitVec 64)} (b : Option (Gm × BitVec 64)) (h : a.isSome = false) : hdO a b = hdG b := by
  cases a with
  | none => cases b <;> rfl
  | some q => cases h
end Go.Proofs.YtgcpgidofikcdaaGreatDoor

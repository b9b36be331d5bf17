/-
  TreeKnown: for every input the Go function returns true, and what came in reads behind the call as before. No condition. (The walk stands in KnTreeKnown.)
-/
import Derived.Test.YtgcpgidofikcdaaGreatDoorKnTreeKnown
import Derived.Test.YtgcpgidofikcdaaGreatDoorRows
import Derived.Test.YtgcpgidofikcdaaGreatDoorJTreeKnown1
import Derived.Test.YtgcpgidofikcdaaGreatDoorJTreeKnown2
import Derived.Test.YtgcpgidofikcdaaGreatDoorJTreeKnown3
import Derived.Test.YtgcpgidofikcdaaGreatDoorJTreeKnown4
import Derived.Test.YtgcpgidofikcdaaGreatDoorJTreeKnown5
import Derived.OpenShut
import Derived.ShutString
import Derived.ChangeOld
import Derived.Below
import Derived.Lay
import Derived.MakeChecks
import Derived.LaidMore
import Derived.Stop.Joined
import Derived.ProofKit
namespace Go.Proofs.YtgcpgidofikcdaaGreatDoor.treeKnown
open Go.ChangeShapes Go.WideShapes Go.ChangeAt Go.RowKit
open Go.ChangeMaps (open_string shut_string)
set_option linter.unusedVariables false

theorem own : ownKnob Tryz.prog.godebug = none := by kernel_rfl
theorem laidOut : laidOutB Tryz.prog = true := by kernel_rfl

theorem met (os : Os) (args : Array Value) : laidMetH Tryz.prog Rows.treeKnownRow.laid ((World.laidAll Tryz.prog os Rows.treeKnownRow.laid).forCall (fun _ _ => 0) ⟨#[], args, []⟩).memory := by
  rw [MakeChecks.laidMetH_plain _ _ _ (by kernel_rfl)]
  exact laidMet_laidAll args (by kernel_rfl) (by kernel_rfl)
set_option maxRecDepth 100000 in
theorem lifted (os : Os) (started : os.Started) (H : Type) (enc : TypeId × Value → H) :
    ReturnsInHanded {} Tryz.checked os 3 .any (fun w args => (Rows.treeKnownSpec.pre enc Tryz.prog Tryz.f3 [] false w args ∧ laidMetH Tryz.prog Rows.treeKnownRow.laid w) ∧ sizedMet enc Tryz.prog Tryz.f3 (OpenSpec.ofChange Rows.treeKnownSpec) false w args)
      (Rows.treeKnownSpec.post enc Tryz.prog Tryz.f3 false true false false) := by
  refine returnsInHanded_of_change_and (C := Tryz.checked) (X := fun w _ => laidMetH Tryz.prog Rows.treeKnownRow.laid w) (fun _ _ _ hh h => h.of_heap hh) own started (by kernel_rfl) Tryz.func3
    (ChangeSpec.witness_shaped (enc := enc) (C := Tryz.checked) (os := os) (X := fun w _ => laidMetH Tryz.prog Rows.treeKnownRow.laid w) false (World.laidAll Tryz.prog os Rows.treeKnownRow.laid) #[] 8 rfl (World.shaped_of_RefB (by kernel_rfl) (by kernel_rfl)) (by kernel_rfl) (by kernel_rfl) (by kernel_rfl) (met os _)) ?_
  intro W base args ds gs before hval0 hW _ _ _ _
  have hval : ∀ (j : Nat) t v, Tryz.f3.params[j]? = some t → args[j]? = some v → Value.okWide Tryz.prog W .any base t v := hval0
  have hW' := hW
  obtain ⟨p, q, hA0, hV, rfl, hfz, hnd⟩ := hW
  have hA : DataW.TrodAll enc Tryz.prog W 0 (fun _ => true) true Tryz.f3.params.toList args.toList ds p := hA0
  rw [Tryz.params3] at hA hval
  obtain ⟨rfl, rfl, rfl⟩ := trodAll_none hA
  obtain ⟨rfl, rfl⟩ := trodVars_none hV
  clear hA0 hval0
  refine (w_TreeKnown  W).mono fun e W' ⟨he, bel⟩ => ?_
  subst he
  exact ⟨_, rfl, _, _, _, [], _, [], hW', trodAll_mk1 (shut_bool Tryz.underlying4 _), trodAll_mk0, rfl, bel.frame _, fun h => by cases h⟩

theorem an {a b : Bool} (h : a = true) (k : b = true) : (a && b) = true := by rw [h, k]; rfl
set_option maxRecDepth 100000 in
open treeKnownJ in
theorem closedF : joinedFacts Tryz.pinned.checked.prog 3 Tryz.f3 Rows.treeKnownSpec Rows.treeKnownRow = true := by
  unfold joinedFacts
  exact an (an (an (an (an (an (an (an (an (an (an (an (an (an (an (an (an (an (an (an (an (an (an (an (an (an (an (an (an (an (an (ta1) ta2) ta3) ta4) ta5) ta6) ta7) ta8) ta9) tb1) tb2) tb3) tb4) tc1) tc2) tc3) tc4) tc5) td1) td2) td3) td4) td5) td6) td7) td8) td9) te1) te2) te3) te4) te5
theorem named : Tryz.pinned.checked.prog.funcNamed Rows.treeKnownRow.func = some 3 := by kernel_rfl
theorem over : Rows.treeKnownRow.holds Tryz.pinned (OpenSpec.ofChange Rows.treeKnownSpec) :=
  OpenClaim.holds_of_wide 3 Tryz.f3 rfl rfl rfl rfl rfl rfl rfl ⟨rfl, rfl, rfl, rfl, rfl⟩ rfl rfl rfl rfl rfl named Tryz.func3 closedF
    (of_decide_eq_true (by kernel_rfl)) (by unfold Func.isWrapper; first | (rw [if_pos (by decide +kernel)]; kernel_rfl) | (rw [if_neg (by decide +kernel)]; exact ⟨rfl, rfl⟩))
    (fun os started H enc _ => lifted os started H enc)
end Go.Proofs.YtgcpgidofikcdaaGreatDoor.treeKnown
namespace Go.Proofs.YtgcpgidofikcdaaGreatDoor
/-- THE STATEMENT. -/
theorem treeKnown_holds : Rows.TreeKnownSaid := treeKnown.over
#print axioms treeKnown_holds
end Go.Proofs.YtgcpgidofikcdaaGreatDoor

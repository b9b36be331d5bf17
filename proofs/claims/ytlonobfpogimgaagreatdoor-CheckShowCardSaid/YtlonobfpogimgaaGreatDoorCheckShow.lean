/-
  CheckShow: for every input the Go function returns true, and what came in reads behind the call as before. No condition. (The walk stands in CsL.)
-/
import Derived.Test.YtlonobfpogimgaaGreatDoorCsL
import Derived.Test.YtlonobfpogimgaaGreatDoorRows
import Derived.OpenShut
import Derived.ShutString
import Derived.ChangeOld
import Derived.Below
import Derived.Lay
import Derived.MakeChecks
import Derived.LaidMore
import Derived.Stop.Joined
import Derived.ProofKit
import Derived.Lib.SmallJoins
namespace Go.Proofs.YtlonobfpogimgaaGreatDoor.checkShow
open Go.ChangeShapes Go.WideShapes Go.ChangeAt Go.RowKit
open Go.ChangeMaps (open_string shut_string)
set_option linter.unusedVariables false

theorem own : ownKnob Tryz.prog.godebug = none := by kernel_rfl
theorem laidOut : laidOutB Tryz.prog = true := by kernel_rfl

theorem met (os : Os) (args : Array Value) : laidMetH Tryz.prog Rows.checkShowRow.laid ((World.laidAll Tryz.prog os Rows.checkShowRow.laid).forCall (fun _ _ => 0) ⟨#[], args, []⟩).memory := by
  rw [MakeChecks.laidMetH_plain _ _ _ (by kernel_rfl)]
  exact laidMet_laidAll args (by kernel_rfl) (by kernel_rfl)
set_option maxRecDepth 100000 in
theorem lifted (os : Os) (started : os.Started) (H : Type) (enc : TypeId × Value → H) :
    ReturnsInHanded {} Tryz.checked os 3 .any (fun w args => (Rows.checkShowSpec.pre enc Tryz.prog Tryz.f3 [] false w args ∧ laidMetH Tryz.prog Rows.checkShowRow.laid w) ∧ sizedMet enc Tryz.prog Tryz.f3 (OpenSpec.ofChange Rows.checkShowSpec) false w args)
      (Rows.checkShowSpec.post enc Tryz.prog Tryz.f3 false true false false) := by
  refine returnsInHanded_of_change_and (C := Tryz.checked) (X := fun w _ => laidMetH Tryz.prog Rows.checkShowRow.laid w) (fun _ _ _ hh h => h.of_heap hh) own started (by kernel_rfl) Tryz.func3
    (ChangeSpec.witness_shaped (enc := enc) (C := Tryz.checked) (os := os) (X := fun w _ => laidMetH Tryz.prog Rows.checkShowRow.laid w) false (World.laidAll Tryz.prog os Rows.checkShowRow.laid) #[.agg #[.int .i64 0, .int .i64 0, .int .i64 0, .int .i64 0], .agg #[.int .i64 0, .int .i64 0, .int .i64 0, .int .i64 0]] 8 rfl (World.shaped_of_RefB (by kernel_rfl) (by kernel_rfl)) (by kernel_rfl) (by kernel_rfl) (by kernel_rfl) (met os _)) ?_
  intro W base args ds gs before hval0 hW hX1 hX2 hX3 hX4
  have hval : ∀ (j : Nat) t v, Tryz.f3.params[j]? = some t → args[j]? = some v → Value.okWide Tryz.prog W .any base t v := hval0
  have hW' := hW
  obtain ⟨p, q, hA0, hV, rfl, hfz, hnd⟩ := hW
  have hA : DataW.TrodAll enc Tryz.prog W 0 (fun _ => true) true Tryz.f3.params.toList args.toList ds p := hA0
  rw [Tryz.params3] at hA hval
  obtain ⟨v0, vs0, d0, ds0, p0, q0, hargs, rfl, rfl, h0, r0⟩ := trodAll_cons hA
  obtain ⟨v1, vs1, d1, ds1, p1, q1, rfl, rfl, rfl, h1, r1⟩ := trodAll_cons r0
  obtain ⟨rfl, rfl, rfl⟩ := trodAll_nil r1
  obtain rfl : args = #[v0, v1] := by cases args; simp_all
  obtain ⟨rfl, rfl⟩ := trodVars_none hV
  have k0 := h0
  have lt0 : ∀ x ∈ p0, x.block < W.heap.size := by obtain ⟨m, hm⟩ := k0; exact DataW.trod_lt m _ _ _ hm
  obtain ⟨c0a, c0b, c0c, c0d, y0a, y0b, y0c, y0d, fu0, rfl, _, _, t0a, t0b, t0c, t0d⟩ := Go.Joins.open_agg4 Tryz.underlying23 (by kernel_rfl) (by kernel_rfl) (hval 0 23 v0 rfl rfl) h0
  obtain ⟨n0a, e0a, _, w0a⟩ := DataW.trod_int Tryz.underlying3 t0a
  injection e0a with e0a
  subst e0a
  obtain ⟨n0b, e0b, _, w0b⟩ := DataW.trod_int Tryz.underlying3 t0b
  injection e0b with e0b
  subst e0b
  obtain ⟨n0c, e0c, _, w0c⟩ := DataW.trod_int Tryz.underlying3 t0c
  injection e0c with e0c
  subst e0c
  obtain ⟨n0d, e0d, _, w0d⟩ := DataW.trod_int Tryz.underlying3 t0d
  injection e0d with e0d
  subst e0d
  have k1 := h1
  have lt1 : ∀ x ∈ p1, x.block < W.heap.size := by obtain ⟨m, hm⟩ := k1; exact DataW.trod_lt m _ _ _ hm
  obtain ⟨c1a, c1b, c1c, c1d, y1a, y1b, y1c, y1d, fu1, rfl, _, _, t1a, t1b, t1c, t1d⟩ := Go.Joins.open_agg4 Tryz.underlying23 (by kernel_rfl) (by kernel_rfl) (hval 1 23 v1 rfl rfl) h1
  obtain ⟨n1a, e1a, _, w1a⟩ := DataW.trod_int Tryz.underlying3 t1a
  injection e1a with e1a
  subst e1a
  obtain ⟨n1b, e1b, _, w1b⟩ := DataW.trod_int Tryz.underlying3 t1b
  injection e1b with e1b
  subst e1b
  obtain ⟨n1c, e1c, _, w1c⟩ := DataW.trod_int Tryz.underlying3 t1c
  injection e1c with e1c
  subst e1c
  obtain ⟨n1d, e1d, _, w1d⟩ := DataW.trod_int Tryz.underlying3 t1d
  injection e1d with e1d
  subst e1d
  clear hA0 hval0
  refine (w_CheckShow n0a n0b n0c n0d n1a n1b n1c n1d W (kept_of_laid (by first | exact hX1 | exact hX2 | exact hX3 | exact hX4)) (Ev.i64_bd w0a) (Ev.i64_bd w0b) (Ev.i64_bd w0c) (Ev.i64_bd w0d) (Ev.i64_bd w1a) (Ev.i64_bd w1b) (Ev.i64_bd w1c) (Ev.i64_bd w1d)).mono fun e W' ⟨he, bel⟩ => ?_
  subst he
  exact ⟨_, rfl, _, _, _, [], _, [], hW', trodAll_mk1 (shut_bool Tryz.underlying4 _), (trodAll_cons_mk (Below.trod laidOut (by kernel_rfl) (of_decide_eq_true (by kernel_rfl)) k0 bel lt0) (trodAll_cons_mk (Below.trod laidOut (by kernel_rfl) (of_decide_eq_true (by kernel_rfl)) k1 bel lt1) trodAll_mk0)), rfl, bel.frame _, fun h => by cases h⟩

theorem closed : joinedFacts Tryz.pinned.checked.prog 3 Tryz.f3 Rows.checkShowSpec Rows.checkShowRow = true := by kernel_rfl
theorem over : Rows.checkShowRow.holds Tryz.pinned (OpenSpec.ofChange Rows.checkShowSpec) :=
  OpenClaim.holds_of_wide 3 Tryz.f3 rfl rfl rfl rfl rfl rfl rfl ⟨rfl, rfl, rfl, rfl, rfl⟩ rfl rfl rfl rfl rfl (by kernel_rfl) Tryz.func3 closed
    (of_decide_eq_true (by kernel_rfl)) (by unfold Func.isWrapper; first | (rw [if_pos (by decide +kernel)]; kernel_rfl) | (rw [if_neg (by decide +kernel)]; exact ⟨rfl, rfl⟩))
    (fun os started H enc _ => lifted os started H enc)
end Go.Proofs.YtlonobfpogimgaaGreatDoor.checkShow
namespace Go.Proofs.YtlonobfpogimgaaGreatDoor
/-- THE STATEMENT. -/
theorem checkShow_holds : Rows.CheckShowSaid := checkShow.over
#print axioms checkShow_holds
end Go.Proofs.YtlonobfpogimgaaGreatDoor

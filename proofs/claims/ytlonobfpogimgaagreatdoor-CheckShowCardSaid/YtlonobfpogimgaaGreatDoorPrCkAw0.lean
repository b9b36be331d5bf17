/-
  PLAIN: the Go function lintel/lintellaw19.awake, called in one state of a run: run in pieces by the evaluator, which is sound.
-/
import Derived.Test.YtlonobfpogimgaaGreatDoorChecked
import Derived.Test.YtlonobfpogimgaaGreatDoorPrCkAw0T0
namespace Go.Proofs.YtlonobfpogimgaaGreatDoor.rCkAw0
open Go.RowKit Ev
open cCkAw
theorem g5 : GoodM Tryz.prog Tryz.f4 s0 v1 s1 S5 n5 L5 e3 t3 := GoodM.done c5
theorem g4 : GoodM Tryz.prog Tryz.f4 s0 v1 s1 S4 n4 L4 e3 t3 := GoodM.nav3 (n := 2) g5
theorem g3 : GoodM Tryz.prog Tryz.f4 s0 v1 s1 S3 n3 L3 e2 t2 := by rw [z3]; exact GoodM.ops (named_of namesOk) hF0 c3 g4
theorem g2 : GoodM Tryz.prog Tryz.f4 s0 v1 s1 S2 n2 L2 e1 t1 := by rw [z2]; exact GoodM.ops (named_of namesOk) hF0 c2 g3
theorem g1 : GoodM Tryz.prog Tryz.f4 s0 v1 s1 S1 n1 L1 e1 t1 := GoodM.nav3 (n := 1) g2
theorem g0 : GoodM Tryz.prog Tryz.f4 s0 v1 s1 S0 n0 L0 e0 s0 := GoodM.step hG c0 g1
theorem good : Ev.Good Tryz.prog Tryz.f4 B0 e0 ⟨0, .lf⟩ := GoodM.good g0
end Go.Proofs.YtlonobfpogimgaaGreatDoor.rCkAw0
namespace Go.Proofs.YtlonobfpogimgaaGreatDoor
open Go.RowKit
theorem pr_CkAw (W : World) (hk : Ev.Kept W.heap.size W) : Calls Tryz.prog 4 #[] W fun e W' => e = .returned (.bool true) ∧ Below W.heap.size W W' := Ev.Good.calls Tryz.func4 rCkAw0.body rCkAw0.good W
end Go.Proofs.YtlonobfpogimgaaGreatDoor

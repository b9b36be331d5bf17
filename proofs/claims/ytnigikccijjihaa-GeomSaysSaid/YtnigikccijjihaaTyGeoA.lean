/-
  PLAIN: what the program's own tables say, as rules for rewriting.
-/
import Derived.Test.YtnigikccijjihaaChecked
import Derived.Test.YtnigikccijjihaaGn
namespace Go.Proofs.Ytnigikccijjihaa
open Go.RowKit Ev
-- lintel/lintelref6.Bits
@[simp] theorem nt61 : Try.f61.ntmps = 15 := rfl
@[simp] theorem rs61 : Try.f61.results.toList = [.tmp 2, .tmp 3] := rfl
@[simp] theorem xt61 : ext? Try.prog 61 = none := by kernel_rfl
-- lintel/geom.Lost
@[simp] theorem nt62 : Try.f62.ntmps = 12 := rfl
@[simp] theorem rs62 : Try.f62.results.toList = [.tmp 2, .tmp 3] := rfl
@[simp] theorem xt62 : ext? Try.prog 62 = none := by kernel_rfl
-- lintel/lintelref6.Lost
@[simp] theorem nt63 : Try.f63.ntmps = 14 := rfl
@[simp] theorem rs63 : Try.f63.results.toList = [.tmp 2, .tmp 3] := rfl
@[simp] theorem xt63 : ext? Try.prog 63 = none := by kernel_rfl
-- lintel/geom.Data
@[simp] theorem nt64 : Try.f64.ntmps = 12 := rfl
@[simp] theorem rs64 : Try.f64.results.toList = [.tmp 2, .tmp 3] := rfl
@[simp] theorem xt64 : ext? Try.prog 64 = none := by kernel_rfl
-- lintel/lintelref6.Data
@[simp] theorem nt65 : Try.f65.ntmps = 24 := rfl
@[simp] theorem rs65 : Try.f65.results.toList = [.tmp 2, .tmp 3] := rfl
@[simp] theorem xt65 : ext? Try.prog 65 = none := by kernel_rfl
-- lintel/lintelref6.Good
@[simp] theorem nt66 : Try.f66.ntmps = 57 := rfl
@[simp] theorem rs66 : Try.f66.results.toList = [.tmp 2] := rfl
@[simp] theorem xt66 : ext? Try.prog 66 = none := by kernel_rfl
-- lintel/geom.Good
@[simp] theorem nt67 : Try.f67.ntmps = 28 := rfl
@[simp] theorem rs67 : Try.f67.results.toList = [.tmp 2] := rfl
@[simp] theorem xt67 : ext? Try.prog 67 = none := by kernel_rfl
-- lintel/lintelref6.Node
@[simp] theorem nt69 : Try.f69.ntmps = 31 := rfl
@[simp] theorem rs69 : Try.f69.results.toList = [.tmp 4] := rfl
@[simp] theorem xt69 : ext? Try.prog 69 = none := by kernel_rfl
-- lintel/geom.Plain
@[simp] theorem nt127 : Try.f127.ntmps = 5 := rfl
@[simp] theorem rs127 : Try.f127.results.toList = [.cell 2 56] := rfl
@[simp] theorem xt127 : ext? Try.prog 127 = none := by kernel_rfl
-- lintel/geom.between
@[simp] theorem nt128 : Try.f128.ntmps = 15 := rfl
@[simp] theorem rs128 : Try.f128.results.toList = [.tmp 6] := rfl
@[simp] theorem xt128 : ext? Try.prog 128 = none := by kernel_rfl
-- lintel/geom.lay
@[simp] theorem nt129 : Try.f129.ntmps = 48 := rfl
@[simp] theorem rs129 : Try.f129.results.toList = [.cell 2 168] := rfl
@[simp] theorem xt129 : ext? Try.prog 129 = none := by kernel_rfl
-- lintel/geom.whole
@[simp] theorem nt130 : Try.f130.ntmps = 9 := rfl
@[simp] theorem rs130 : Try.f130.results.toList = [.cell 2 168] := rfl
@[simp] theorem xt130 : ext? Try.prog 130 = none := by kernel_rfl
-- lintel/lintelref6.bitBlocks
@[simp] theorem nt131 : Try.f131.ntmps = 7 := rfl
@[simp] theorem rs131 : Try.f131.results.toList = [.tmp 2] := rfl
@[simp] theorem xt131 : ext? Try.prog 131 = none := by kernel_rfl
-- (lintel/geom.part).end
@[simp] theorem nt156 : Try.f156.ntmps = 8 := rfl
@[simp] theorem rs156 : Try.f156.results.toList = [.tmp 2] := rfl
@[simp] theorem xt156 : ext? Try.prog 156 = none := by kernel_rfl
@[simp] theorem ag3 : agg? Try.prog 3 = some false := by kernel_rfl
@[simp] theorem sz3 {β : Type} (k : Nat → Option β) : szOf Try.prog 3 k = k 1 := by kernel_rfl
@[simp] theorem ze3 {β : Type} (k : List V → Option β) : zero Try.prog 3 k = k [.int .i64 0] := by kernel_rfl
theorem io3 : infoOk Try.prog 3 1 = true := by kernel_rfl
@[simp] theorem ag4 : agg? Try.prog 4 = some false := by kernel_rfl
@[simp] theorem sz4 {β : Type} (k : Nat → Option β) : szOf Try.prog 4 k = k 1 := by kernel_rfl
@[simp] theorem ze4 {β : Type} (k : List V → Option β) : zero Try.prog 4 k = k [.bool false] := by kernel_rfl
theorem io4 : infoOk Try.prog 4 1 = true := by kernel_rfl
@[simp] theorem ag56 : agg? Try.prog 56 = some true := by kernel_rfl
@[simp] theorem sz56 {β : Type} (k : Nat → Option β) : szOf Try.prog 56 k = k 4 := by kernel_rfl
@[simp] theorem ze56 {β : Type} (k : List V → Option β) : zero Try.prog 56 k = k [.int .i64 0, .int .i64 0, .int .i64 0, .int .i64 0] := by kernel_rfl
theorem io56 : infoOk Try.prog 56 4 = true := by kernel_rfl
@[simp] theorem ag57 : agg? Try.prog 57 = some true := by kernel_rfl
@[simp] theorem sz57 {β : Type} (k : Nat → Option β) : szOf Try.prog 57 k = k 4 := by kernel_rfl
@[simp] theorem ze57 {β : Type} (k : List V → Option β) : zero Try.prog 57 k = k [.int .i64 0, .int .i64 0, .int .i64 0, .int .i64 0] := by kernel_rfl
theorem io57 : infoOk Try.prog 57 4 = true := by kernel_rfl
@[simp] theorem ag166 : agg? Try.prog 166 = some true := by kernel_rfl
@[simp] theorem sz166 {β : Type} (k : Nat → Option β) : szOf Try.prog 166 k = k 2 := by kernel_rfl
@[simp] theorem ze166 {β : Type} (k : List V → Option β) : zero Try.prog 166 k = k [.int .i64 0, .int .i64 0] := by kernel_rfl
theorem io166 : infoOk Try.prog 166 2 = true := by kernel_rfl
@[simp] theorem ag168 : agg? Try.prog 168 = some true := by kernel_rfl
@[simp] theorem sz168 {β : Type} (k : Nat → Option β) : szOf Try.prog 168 k = k 10 := by kernel_rfl
@[simp] theorem ze168 {β : Type} (k : List V → Option β) : zero Try.prog 168 k = k [.int .i64 0, .int .i64 0, .int .i64 0, .int .i64 0, .int .i64 0, .int .i64 0, .int .i64 0, .int .i64 0, .int .i64 0, .int .i64 0] := by kernel_rfl
theorem io168 : infoOk Try.prog 168 10 = true := by kernel_rfl
@[simp] theorem un3 : Try.prog.underlying 3 = some (.int .i64) := by kernel_rfl
@[simp] theorem bz56 (st : St) : bldK Try.prog 56 [] [] [.int .i64 0, .int .i64 0, .int .i64 0, .int .i64 0] st = some (.g [.int .i64 0, .int .i64 0, .int .i64 0, .int .i64 0], st) := by kernel_rfl
theorem so56 : structOk Try.prog 56 [(0, 1), (1, 1), (2, 1), (3, 1)] = true := by kernel_rfl
@[simp] theorem bl56 (x0 x1 x2 x3 : Operand) (a0 a1 a2 a3 : V) (st : St) (h0 : a0.one = true) (h1 : a1.one = true) (h2 : a2.one = true) (h3 : a3.one = true) : bldK Try.prog 56 [(0, x0), (1, x1), (2, x2), (3, x3)] [a0, a1, a2, a3] [.int .i64 0, .int .i64 0, .int .i64 0, .int .i64 0] st = some (.g [a0, a1, a2, a3], st) := by
  rw [bldK_ok so56, partsK_one rfl h0 (by simp), partsK_one rfl h1 (by simp), partsK_one rfl h2 (by simp), partsK_one rfl h3 (by simp)]; rfl
@[simp] theorem fk56_0 (k : Nat → Nat → Res) : fieldK Try.prog 56 0 k = k 1 0 := by kernel_rfl
@[simp] theorem fk56_1 (k : Nat → Nat → Res) : fieldK Try.prog 56 1 k = k 1 1 := by kernel_rfl
@[simp] theorem fk56_2 (k : Nat → Nat → Res) : fieldK Try.prog 56 2 k = k 1 2 := by kernel_rfl
@[simp] theorem fk56_3 (k : Nat → Nat → Res) : fieldK Try.prog 56 3 k = k 1 3 := by kernel_rfl
@[simp] theorem bz57 (st : St) : bldK Try.prog 57 [] [] [.int .i64 0, .int .i64 0, .int .i64 0, .int .i64 0] st = some (.g [.int .i64 0, .int .i64 0, .int .i64 0, .int .i64 0], st) := by kernel_rfl
theorem so57 : structOk Try.prog 57 [(0, 1), (1, 1), (2, 1), (3, 1)] = true := by kernel_rfl
@[simp] theorem bl57 (x0 x1 x2 x3 : Operand) (a0 a1 a2 a3 : V) (st : St) (h0 : a0.one = true) (h1 : a1.one = true) (h2 : a2.one = true) (h3 : a3.one = true) : bldK Try.prog 57 [(0, x0), (1, x1), (2, x2), (3, x3)] [a0, a1, a2, a3] [.int .i64 0, .int .i64 0, .int .i64 0, .int .i64 0] st = some (.g [a0, a1, a2, a3], st) := by
  rw [bldK_ok so57, partsK_one rfl h0 (by simp), partsK_one rfl h1 (by simp), partsK_one rfl h2 (by simp), partsK_one rfl h3 (by simp)]; rfl
@[simp] theorem fk57_0 (k : Nat → Nat → Res) : fieldK Try.prog 57 0 k = k 1 0 := by kernel_rfl
@[simp] theorem fk57_1 (k : Nat → Nat → Res) : fieldK Try.prog 57 1 k = k 1 1 := by kernel_rfl
@[simp] theorem fk57_2 (k : Nat → Nat → Res) : fieldK Try.prog 57 2 k = k 1 2 := by kernel_rfl
@[simp] theorem fk57_3 (k : Nat → Nat → Res) : fieldK Try.prog 57 3 k = k 1 3 := by kernel_rfl
@[simp] theorem bz166 (st : St) : bldK Try.prog 166 [] [] [.int .i64 0, .int .i64 0] st = some (.g [.int .i64 0, .int .i64 0], st) := by kernel_rfl
theorem so166 : structOk Try.prog 166 [(0, 1), (1, 1)] = true := by kernel_rfl
@[simp] theorem bl166 (x0 x1 : Operand) (a0 a1 : V) (st : St) (h0 : a0.one = true) (h1 : a1.one = true) : bldK Try.prog 166 [(0, x0), (1, x1)] [a0, a1] [.int .i64 0, .int .i64 0] st = some (.g [a0, a1], st) := by
  rw [bldK_ok so166, partsK_one rfl h0 (by simp), partsK_one rfl h1 (by simp)]; rfl
@[simp] theorem fk166_0 (k : Nat → Nat → Res) : fieldK Try.prog 166 0 k = k 1 0 := by kernel_rfl
@[simp] theorem fk166_1 (k : Nat → Nat → Res) : fieldK Try.prog 166 1 k = k 1 1 := by kernel_rfl
@[simp] theorem bz168 (st : St) : bldK Try.prog 168 [] [] [.int .i64 0, .int .i64 0, .int .i64 0, .int .i64 0, .int .i64 0, .int .i64 0, .int .i64 0, .int .i64 0, .int .i64 0, .int .i64 0] st = some (.g [.int .i64 0, .int .i64 0, .int .i64 0, .int .i64 0, .int .i64 0, .int .i64 0, .int .i64 0, .int .i64 0, .int .i64 0, .int .i64 0], st) := by kernel_rfl
theorem so168 : structOk Try.prog 168 [(0, 2), (2, 2), (4, 2), (6, 2), (8, 2)] = true := by kernel_rfl
@[simp] theorem fk168_0 (k : Nat → Nat → Res) : fieldK Try.prog 168 0 k = k 2 0 := by kernel_rfl
@[simp] theorem fk168_1 (k : Nat → Nat → Res) : fieldK Try.prog 168 1 k = k 2 2 := by kernel_rfl
@[simp] theorem fk168_2 (k : Nat → Nat → Res) : fieldK Try.prog 168 2 k = k 2 4 := by kernel_rfl
@[simp] theorem fk168_3 (k : Nat → Nat → Res) : fieldK Try.prog 168 3 k = k 2 6 := by kernel_rfl
@[simp] theorem fk168_4 (k : Nat → Nat → Res) : fieldK Try.prog 168 4 k = k 2 8 := by kernel_rfl
end Go.Proofs.Ytnigikccijjihaa

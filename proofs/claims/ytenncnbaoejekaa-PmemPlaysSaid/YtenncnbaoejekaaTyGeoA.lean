/-
  PLAIN: what the program's own tables say, as rules for rewriting.
-/
import Derived.Test.YtenncnbaoejekaaChecked
import Derived.Test.YtenncnbaoejekaaSb
namespace Go.Proofs.Ytenncnbaoejekaa
open Go.RowKit Ev
-- lintel/lintelref6.Bits
@[simp] theorem nt191 : Try.f191.ntmps = 15 := rfl
@[simp] theorem rs191 : Try.f191.results.toList = [.tmp 2, .tmp 3] := rfl
@[simp] theorem xt191 : ext? Try.prog 191 = none := by kernel_rfl
-- lintel/geom.Lost
@[simp] theorem nt183 : Try.f183.ntmps = 12 := rfl
@[simp] theorem rs183 : Try.f183.results.toList = [.tmp 2, .tmp 3] := rfl
@[simp] theorem xt183 : ext? Try.prog 183 = none := by kernel_rfl
-- lintel/lintelref6.Lost
@[simp] theorem nt169 : Try.f169.ntmps = 14 := rfl
@[simp] theorem rs169 : Try.f169.results.toList = [.tmp 2, .tmp 3] := rfl
@[simp] theorem xt169 : ext? Try.prog 169 = none := by kernel_rfl
-- lintel/geom.Data
@[simp] theorem nt66 : Try.f66.ntmps = 12 := rfl
@[simp] theorem rs66 : Try.f66.results.toList = [.tmp 2, .tmp 3] := rfl
@[simp] theorem xt66 : ext? Try.prog 66 = none := by kernel_rfl
-- lintel/lintelref6.Data
@[simp] theorem nt141 : Try.f141.ntmps = 24 := rfl
@[simp] theorem rs141 : Try.f141.results.toList = [.tmp 2, .tmp 3] := rfl
@[simp] theorem xt141 : ext? Try.prog 141 = none := by kernel_rfl
-- lintel/lintelref6.Good
@[simp] theorem nt126 : Try.f126.ntmps = 57 := rfl
@[simp] theorem rs126 : Try.f126.results.toList = [.tmp 2] := rfl
@[simp] theorem xt126 : ext? Try.prog 126 = none := by kernel_rfl
-- lintel/geom.Good
@[simp] theorem nt65 : Try.f65.ntmps = 28 := rfl
@[simp] theorem rs65 : Try.f65.results.toList = [.tmp 2] := rfl
@[simp] theorem xt65 : ext? Try.prog 65 = none := by kernel_rfl
-- lintel/lintelref6.Node
@[simp] theorem nt184 : Try.f184.ntmps = 31 := rfl
@[simp] theorem rs184 : Try.f184.results.toList = [.tmp 4] := rfl
@[simp] theorem xt184 : ext? Try.prog 184 = none := by kernel_rfl
-- lintel/geom.Plain
@[simp] theorem nt86 : Try.f86.ntmps = 5 := rfl
@[simp] theorem rs86 : Try.f86.results.toList = [.cell 2 71] := rfl
@[simp] theorem xt86 : ext? Try.prog 86 = none := by kernel_rfl
-- lintel/geom.between
@[simp] theorem nt133 : Try.f133.ntmps = 15 := rfl
@[simp] theorem rs133 : Try.f133.results.toList = [.tmp 6] := rfl
@[simp] theorem xt133 : ext? Try.prog 133 = none := by kernel_rfl
-- lintel/geom.lay
@[simp] theorem nt134 : Try.f134.ntmps = 48 := rfl
@[simp] theorem rs134 : Try.f134.results.toList = [.cell 2 182] := rfl
@[simp] theorem xt134 : ext? Try.prog 134 = none := by kernel_rfl
-- lintel/geom.whole
@[simp] theorem nt135 : Try.f135.ntmps = 9 := rfl
@[simp] theorem rs135 : Try.f135.results.toList = [.cell 2 182] := rfl
@[simp] theorem xt135 : ext? Try.prog 135 = none := by kernel_rfl
-- lintel/lintelref6.bitBlocks
@[simp] theorem nt165 : Try.f165.ntmps = 7 := rfl
@[simp] theorem rs165 : Try.f165.results.toList = [.tmp 2] := rfl
@[simp] theorem xt165 : ext? Try.prog 165 = none := by kernel_rfl
-- (lintel/geom.part).end
@[simp] theorem nt167 : Try.f167.ntmps = 8 := rfl
@[simp] theorem rs167 : Try.f167.results.toList = [.tmp 2] := rfl
@[simp] theorem xt167 : ext? Try.prog 167 = none := by kernel_rfl
@[simp] theorem ag3 : agg? Try.prog 3 = some false := by kernel_rfl
@[simp] theorem sz3 {β : Type} (k : Nat → Option β) : szOf Try.prog 3 k = k 1 := by kernel_rfl
@[simp] theorem ze3 {β : Type} (k : List V → Option β) : zero Try.prog 3 k = k [.int .i64 0] := by kernel_rfl
theorem io3 : infoOk Try.prog 3 1 = true := by kernel_rfl
@[simp] theorem ag4 : agg? Try.prog 4 = some false := by kernel_rfl
@[simp] theorem sz4 {β : Type} (k : Nat → Option β) : szOf Try.prog 4 k = k 1 := by kernel_rfl
@[simp] theorem ze4 {β : Type} (k : List V → Option β) : zero Try.prog 4 k = k [.bool false] := by kernel_rfl
theorem io4 : infoOk Try.prog 4 1 = true := by kernel_rfl
@[simp] theorem ag71 : agg? Try.prog 71 = some true := by kernel_rfl
@[simp] theorem sz71 {β : Type} (k : Nat → Option β) : szOf Try.prog 71 k = k 4 := by kernel_rfl
@[simp] theorem ze71 {β : Type} (k : List V → Option β) : zero Try.prog 71 k = k [.int .i64 0, .int .i64 0, .int .i64 0, .int .i64 0] := by kernel_rfl
theorem io71 : infoOk Try.prog 71 4 = true := by kernel_rfl
@[simp] theorem ag76 : agg? Try.prog 76 = some true := by kernel_rfl
@[simp] theorem sz76 {β : Type} (k : Nat → Option β) : szOf Try.prog 76 k = k 4 := by kernel_rfl
@[simp] theorem ze76 {β : Type} (k : List V → Option β) : zero Try.prog 76 k = k [.int .i64 0, .int .i64 0, .int .i64 0, .int .i64 0] := by kernel_rfl
theorem io76 : infoOk Try.prog 76 4 = true := by kernel_rfl
@[simp] theorem ag180 : agg? Try.prog 180 = some true := by kernel_rfl
@[simp] theorem sz180 {β : Type} (k : Nat → Option β) : szOf Try.prog 180 k = k 2 := by kernel_rfl
@[simp] theorem ze180 {β : Type} (k : List V → Option β) : zero Try.prog 180 k = k [.int .i64 0, .int .i64 0] := by kernel_rfl
theorem io180 : infoOk Try.prog 180 2 = true := by kernel_rfl
@[simp] theorem ag182 : agg? Try.prog 182 = some true := by kernel_rfl
@[simp] theorem sz182 {β : Type} (k : Nat → Option β) : szOf Try.prog 182 k = k 10 := by kernel_rfl
@[simp] theorem ze182 {β : Type} (k : List V → Option β) : zero Try.prog 182 k = k [.int .i64 0, .int .i64 0, .int .i64 0, .int .i64 0, .int .i64 0, .int .i64 0, .int .i64 0, .int .i64 0, .int .i64 0, .int .i64 0] := by kernel_rfl
theorem io182 : infoOk Try.prog 182 10 = true := by kernel_rfl
@[simp] theorem un3 : Try.prog.underlying 3 = some (.int .i64) := by kernel_rfl
@[simp] theorem bz71 (st : St) : bldK Try.prog 71 [] [] [.int .i64 0, .int .i64 0, .int .i64 0, .int .i64 0] st = some (.g [.int .i64 0, .int .i64 0, .int .i64 0, .int .i64 0], st) := by kernel_rfl
theorem so71 : structOk Try.prog 71 [(0, 1), (1, 1), (2, 1), (3, 1)] = true := by kernel_rfl
@[simp] theorem bl71 (x0 x1 x2 x3 : Operand) (a0 a1 a2 a3 : V) (st : St) (h0 : a0.one = true) (h1 : a1.one = true) (h2 : a2.one = true) (h3 : a3.one = true) : bldK Try.prog 71 [(0, x0), (1, x1), (2, x2), (3, x3)] [a0, a1, a2, a3] [.int .i64 0, .int .i64 0, .int .i64 0, .int .i64 0] st = some (.g [a0, a1, a2, a3], st) := by
  rw [bldK_ok so71, partsK_one rfl h0 (by simp), partsK_one rfl h1 (by simp), partsK_one rfl h2 (by simp), partsK_one rfl h3 (by simp)]; rfl
@[simp] theorem fk71_0 (k : Nat → Nat → Res) : fieldK Try.prog 71 0 k = k 1 0 := by kernel_rfl
@[simp] theorem fk71_1 (k : Nat → Nat → Res) : fieldK Try.prog 71 1 k = k 1 1 := by kernel_rfl
@[simp] theorem fk71_2 (k : Nat → Nat → Res) : fieldK Try.prog 71 2 k = k 1 2 := by kernel_rfl
@[simp] theorem fk71_3 (k : Nat → Nat → Res) : fieldK Try.prog 71 3 k = k 1 3 := by kernel_rfl
@[simp] theorem bz76 (st : St) : bldK Try.prog 76 [] [] [.int .i64 0, .int .i64 0, .int .i64 0, .int .i64 0] st = some (.g [.int .i64 0, .int .i64 0, .int .i64 0, .int .i64 0], st) := by kernel_rfl
theorem so76 : structOk Try.prog 76 [(0, 1), (1, 1), (2, 1), (3, 1)] = true := by kernel_rfl
@[simp] theorem bl76 (x0 x1 x2 x3 : Operand) (a0 a1 a2 a3 : V) (st : St) (h0 : a0.one = true) (h1 : a1.one = true) (h2 : a2.one = true) (h3 : a3.one = true) : bldK Try.prog 76 [(0, x0), (1, x1), (2, x2), (3, x3)] [a0, a1, a2, a3] [.int .i64 0, .int .i64 0, .int .i64 0, .int .i64 0] st = some (.g [a0, a1, a2, a3], st) := by
  rw [bldK_ok so76, partsK_one rfl h0 (by simp), partsK_one rfl h1 (by simp), partsK_one rfl h2 (by simp), partsK_one rfl h3 (by simp)]; rfl
@[simp] theorem fk76_0 (k : Nat → Nat → Res) : fieldK Try.prog 76 0 k = k 1 0 := by kernel_rfl
@[simp] theorem fk76_1 (k : Nat → Nat → Res) : fieldK Try.prog 76 1 k = k 1 1 := by kernel_rfl
@[simp] theorem fk76_2 (k : Nat → Nat → Res) : fieldK Try.prog 76 2 k = k 1 2 := by kernel_rfl
@[simp] theorem fk76_3 (k : Nat → Nat → Res) : fieldK Try.prog 76 3 k = k 1 3 := by kernel_rfl
@[simp] theorem bz180 (st : St) : bldK Try.prog 180 [] [] [.int .i64 0, .int .i64 0] st = some (.g [.int .i64 0, .int .i64 0], st) := by kernel_rfl
theorem so180 : structOk Try.prog 180 [(0, 1), (1, 1)] = true := by kernel_rfl
@[simp] theorem bl180 (x0 x1 : Operand) (a0 a1 : V) (st : St) (h0 : a0.one = true) (h1 : a1.one = true) : bldK Try.prog 180 [(0, x0), (1, x1)] [a0, a1] [.int .i64 0, .int .i64 0] st = some (.g [a0, a1], st) := by
  rw [bldK_ok so180, partsK_one rfl h0 (by simp), partsK_one rfl h1 (by simp)]; rfl
@[simp] theorem fk180_0 (k : Nat → Nat → Res) : fieldK Try.prog 180 0 k = k 1 0 := by kernel_rfl
@[simp] theorem fk180_1 (k : Nat → Nat → Res) : fieldK Try.prog 180 1 k = k 1 1 := by kernel_rfl
@[simp] theorem bz182 (st : St) : bldK Try.prog 182 [] [] [.int .i64 0, .int .i64 0, .int .i64 0, .int .i64 0, .int .i64 0, .int .i64 0, .int .i64 0, .int .i64 0, .int .i64 0, .int .i64 0] st = some (.g [.int .i64 0, .int .i64 0, .int .i64 0, .int .i64 0, .int .i64 0, .int .i64 0, .int .i64 0, .int .i64 0, .int .i64 0, .int .i64 0], st) := by kernel_rfl
theorem so182 : structOk Try.prog 182 [(0, 2), (2, 2), (4, 2), (6, 2), (8, 2)] = true := by kernel_rfl
@[simp] theorem fk182_0 (k : Nat → Nat → Res) : fieldK Try.prog 182 0 k = k 2 0 := by kernel_rfl
@[simp] theorem fk182_1 (k : Nat → Nat → Res) : fieldK Try.prog 182 1 k = k 2 2 := by kernel_rfl
@[simp] theorem fk182_2 (k : Nat → Nat → Res) : fieldK Try.prog 182 2 k = k 2 4 := by kernel_rfl
@[simp] theorem fk182_3 (k : Nat → Nat → Res) : fieldK Try.prog 182 3 k = k 2 6 := by kernel_rfl
@[simp] theorem fk182_4 (k : Nat → Nat → Res) : fieldK Try.prog 182 4 k = k 2 8 := by kernel_rfl
end Go.Proofs.Ytenncnbaoejekaa

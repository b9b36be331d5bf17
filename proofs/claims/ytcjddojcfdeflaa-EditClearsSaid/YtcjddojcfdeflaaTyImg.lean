/-
  PLAIN: what the program's own tables say, as rules for rewriting.
-/
import Derived.Test.YtcjddojcfdeflaaChecked
import Derived.Test.YtcjddojcfdeflaaTyAll
namespace Go.Proofs.Ytcjddojcfdeflaa
open Go.RowKit Ev
-- lintel/lintellaw18.ImageMakes
@[simp] theorem nt15 : Try.f15.ntmps = 62 := rfl
@[simp] theorem rs15 : Try.f15.results.toList = [.tmp 2, .tmp 3] := rfl
@[simp] theorem xt15 : ext? Try.prog 15 = none := by kernel_rfl
-- lintel/geom.Good
-- lintel/image.Open
@[simp] theorem nt12 : Try.f12.ntmps = 25 := rfl
@[simp] theorem rs12 : Try.f12.results.toList = [.cell 2 47, .tmp 3] := rfl
@[simp] theorem xt12 : ext? Try.prog 12 = none := by kernel_rfl
-- lintel/lintellaw18.same
@[simp] theorem nt14 : Try.f14.ntmps = 27 := rfl
@[simp] theorem rs14 : Try.f14.results.toList = [.cell 2 49] := rfl
@[simp] theorem xt14 : ext? Try.prog 14 = none := by kernel_rfl
-- lintel/lintelref18.Open
@[simp] theorem nt35 : Try.f35.ntmps = 11 := rfl
@[simp] theorem rs35 : Try.f35.results.toList = [] := rfl
@[simp] theorem xt35 : ext? Try.prog 35 = none := by kernel_rfl
-- lintel/head.Put
@[simp] theorem nt36 : Try.f36.ntmps = 32 := rfl
@[simp] theorem rs36 : Try.f36.results.toList = [.tmp 2] := rfl
@[simp] theorem xt36 : ext? Try.prog 36 = none := by kernel_rfl
-- lintel/geom.Back
@[simp] theorem nt37 : Try.f37.ntmps = 9 := rfl
@[simp] theorem rs37 : Try.f37.results.toList = [.tmp 2] := rfl
@[simp] theorem xt37 : ext? Try.prog 37 = none := by kernel_rfl
-- lintel/geom.Node
@[simp] theorem nt17 : Try.f17.ntmps = 22 := rfl
@[simp] theorem rs17 : Try.f17.results.toList = [.tmp 4] := rfl
@[simp] theorem xt17 : ext? Try.prog 17 = none := by kernel_rfl
-- lintel/node.Put
-- lintel/geom.Lost
-- lintel/geom.Bits
@[simp] theorem nt22 : Try.f22.ntmps = 12 := rfl
@[simp] theorem rs22 : Try.f22.results.toList = [.tmp 2, .tmp 3] := rfl
@[simp] theorem xt22 : ext? Try.prog 22 = none := by kernel_rfl
-- lintel/image.taken
@[simp] theorem nt39 : Try.f39.ntmps = 37 := rfl
@[simp] theorem rs39 : Try.f39.results.toList = [.cell 2 49] := rfl
@[simp] theorem xt39 : ext? Try.prog 39 = none := by kernel_rfl
-- lintel/geom.between
-- lintel/geom.lay
-- lintel/head.Find
@[simp] theorem nt33 : Try.f33.ntmps = 47 := rfl
@[simp] theorem rs33 : Try.f33.results.toList = [.cell 2 80, .tmp 3, .tmp 4] := rfl
@[simp] theorem xt33 : ext? Try.prog 33 = none := by kernel_rfl
-- slices.Clone[[]uint64,uint64]
-- lintel/lintelref6.Good
-- (*lintel/lintelref18.Image).put
@[simp] theorem nt11 : Try.f11.ntmps = 34 := rfl
@[simp] theorem rs11 : Try.f11.results.toList = [.cell 4 33, .tmp 5] := rfl
@[simp] theorem xt11 : ext? Try.prog 11 = none := by kernel_rfl
-- (lintel/image.Image).Content
@[simp] theorem nt32 : Try.f32.ntmps = 23 := rfl
@[simp] theorem rs32 : Try.f32.results.toList = [.tmp 4] := rfl
@[simp] theorem xt32 : ext? Try.prog 32 = none := by kernel_rfl
-- lintel/lintelref6.Find
@[simp] theorem nt55 : Try.f55.ntmps = 24 := rfl
@[simp] theorem rs55 : Try.f55.results.toList = [.cell 4 80, .tmp 5] := rfl
@[simp] theorem xt55 : ext? Try.prog 55 = none := by kernel_rfl
-- lintel/lintelref6.bitBlocks
-- lintel/lintelref6.magic
@[simp] theorem nt66 : Try.f66.ntmps = 39 := rfl
@[simp] theorem rs66 : Try.f66.results.toList = [.cell 2 80, .tmp 3] := rfl
@[simp] theorem xt66 : ext? Try.prog 66 = none := by kernel_rfl
-- lintel/lintelref1.Seal
-- slices.Equal[[]uint64,uint64]
-- lintel/node.sized
-- lintel/node.placed
-- lintel/node.Blocks
-- lintel/node.Needs
-- lintel/slot.Get
-- lintel/lintelref6.Same
-- lintel/geom.Books
@[simp] theorem ag47 : agg? Try.prog 47 = some true := by kernel_rfl
@[simp] theorem sz47 {β : Type} (k : Nat → Option β) : szOf Try.prog 47 k = k 5 := by kernel_rfl
@[simp] theorem ze47 {β : Type} (k : List V → Option β) : zero Try.prog 47 k = k [.int .i64 0, .int .i64 0, .int .i64 0, .int .i64 0, .c (.slice none 0 0)] := by kernel_rfl
theorem io47 : infoOk Try.prog 47 5 = true := by kernel_rfl
@[simp] theorem ag80 : agg? Try.prog 80 = some true := by kernel_rfl
@[simp] theorem sz80 {β : Type} (k : Nat → Option β) : szOf Try.prog 80 k = k 5 := by kernel_rfl
@[simp] theorem ze80 {β : Type} (k : List V → Option β) : zero Try.prog 80 k = k [.int .i64 0, .int .i64 0, .int .i64 0, .int .i64 0, .int .u64 0] := by kernel_rfl
theorem io80 : infoOk Try.prog 80 5 = true := by kernel_rfl
@[simp] theorem bz47 (st : St) : bldK Try.prog 47 [] [] [.int .i64 0, .int .i64 0, .int .i64 0, .int .i64 0, .c (.slice none 0 0)] st = some (.g [.int .i64 0, .int .i64 0, .int .i64 0, .int .i64 0, .c (.slice none 0 0)], st) := by kernel_rfl
theorem so47 : structOk Try.prog 47 [(0, 4), (4, 1)] = true := by kernel_rfl
@[simp] theorem fk47_0 (k : Nat → Nat → Res) : fieldK Try.prog 47 0 k = k 4 0 := by kernel_rfl
@[simp] theorem fk47_1 (k : Nat → Nat → Res) : fieldK Try.prog 47 1 k = k 1 4 := by kernel_rfl
@[simp] theorem bz80 (st : St) : bldK Try.prog 80 [] [] [.int .i64 0, .int .i64 0, .int .i64 0, .int .i64 0, .int .u64 0] st = some (.g [.int .i64 0, .int .i64 0, .int .i64 0, .int .i64 0, .int .u64 0], st) := by kernel_rfl
theorem so80 : structOk Try.prog 80 [(0, 4), (4, 1)] = true := by kernel_rfl
@[simp] theorem fk80_0 (k : Nat → Nat → Res) : fieldK Try.prog 80 0 k = k 4 0 := by kernel_rfl
@[simp] theorem fk80_1 (k : Nat → Nat → Res) : fieldK Try.prog 80 1 k = k 1 4 := by kernel_rfl
end Go.Proofs.Ytcjddojcfdeflaa

/-
  PLAIN: what the program's own tables say, as rules for rewriting.
-/
import Derived.Test.YtenncnbaoejekaaChecked
import Derived.Test.YtenncnbaoejekaaSl
namespace Go.Proofs.Ytenncnbaoejekaa
open Go.RowKit Ev
-- lintel/lintellaw7.HeadSays
@[simp] theorem nt10 : Try.f10.ntmps = 130 := rfl
@[simp] theorem rs10 : Try.f10.results.toList = [.tmp 8] := rfl
@[simp] theorem xt10 : ext? Try.prog 10 = none := by kernel_rfl
-- lintel/lintellaw7.HeadOne
@[simp] theorem nt11 : Try.f11.ntmps = 69 := rfl
@[simp] theorem rs11 : Try.f11.results.toList = [.tmp 6] := rfl
@[simp] theorem xt11 : ext? Try.prog 11 = none := by kernel_rfl
-- lintel/lintellaw7.HeadTwo
@[simp] theorem nt12 : Try.f12.ntmps = 76 := rfl
@[simp] theorem rs12 : Try.f12.results.toList = [.tmp 8] := rfl
@[simp] theorem xt12 : ext? Try.prog 12 = none := by kernel_rfl
-- lintel/lintellaw7.HeadBack
@[simp] theorem nt13 : Try.f13.ntmps = 55 := rfl
@[simp] theorem rs13 : Try.f13.results.toList = [.tmp 2] := rfl
@[simp] theorem xt13 : ext? Try.prog 13 = none := by kernel_rfl
-- lintel/lintellaw7.awake
@[simp] theorem nt55 : Try.f55.ntmps = 46 := rfl
@[simp] theorem rs55 : Try.f55.results.toList = [.tmp 0] := rfl
@[simp] theorem xt55 : ext? Try.prog 55 = none := by kernel_rfl
-- lintel/head.Put
@[simp] theorem nt56 : Try.f56.ntmps = 32 := rfl
@[simp] theorem rs56 : Try.f56.results.toList = [.tmp 2] := rfl
@[simp] theorem xt56 : ext? Try.prog 56 = none := by kernel_rfl
-- lintel/lintellaw7.same
@[simp] theorem nt57 : Try.f57.ntmps = 26 := rfl
@[simp] theorem rs57 : Try.f57.results.toList = [.tmp 4] := rfl
@[simp] theorem xt57 : ext? Try.prog 57 = none := by kernel_rfl
-- lintel/lintelref6.PutHead
@[simp] theorem nt58 : Try.f58.ntmps = 29 := rfl
@[simp] theorem rs58 : Try.f58.results.toList = [.tmp 4] := rfl
@[simp] theorem xt58 : ext? Try.prog 58 = none := by kernel_rfl
-- lintel/lintellaw7.own
@[simp] theorem nt59 : Try.f59.ntmps = 12 := rfl
@[simp] theorem rs59 : Try.f59.results.toList = [.cell 2 76] := rfl
@[simp] theorem xt59 : ext? Try.prog 59 = none := by kernel_rfl
-- lintel/head.Get
@[simp] theorem nt60 : Try.f60.ntmps = 39 := rfl
@[simp] theorem rs60 : Try.f60.results.toList = [.cell 2 73, .tmp 3] := rfl
@[simp] theorem xt60 : ext? Try.prog 60 = none := by kernel_rfl
-- lintel/lintelref6.GetHead
@[simp] theorem nt61 : Try.f61.ntmps = 51 := rfl
@[simp] theorem rs61 : Try.f61.results.toList = [.cell 2 76, .tmp 3, .tmp 4] := rfl
@[simp] theorem xt61 : ext? Try.prog 61 = none := by kernel_rfl
-- lintel/lintellaw7.image
@[simp] theorem nt62 : Try.f62.ntmps = 41 := rfl
@[simp] theorem rs62 : Try.f62.results.toList = [.tmp 6] := rfl
@[simp] theorem xt62 : ext? Try.prog 62 = none := by kernel_rfl
-- lintel/head.Find
@[simp] theorem nt63 : Try.f63.ntmps = 47 := rfl
@[simp] theorem rs63 : Try.f63.results.toList = [.cell 2 73, .tmp 3, .tmp 4] := rfl
@[simp] theorem xt63 : ext? Try.prog 63 = none := by kernel_rfl
-- lintel/lintelref6.Find
@[simp] theorem nt64 : Try.f64.ntmps = 61 := rfl
@[simp] theorem rs64 : Try.f64.results.toList = [.cell 2 76, .tmp 3, .tmp 4, .tmp 5] := rfl
@[simp] theorem xt64 : ext? Try.prog 64 = none := by kernel_rfl
-- lintel/geom.Good
-- lintel/geom.Data
-- lintel/geom.Plain
-- lintel/seal.Of
-- lintel/lintelref6.Good
-- lintel/lintelref6.magic
@[simp] theorem nt127 : Try.f127.ntmps = 1 := rfl
@[simp] theorem rs127 : Try.f127.results.toList = [.tmp 0] := rfl
@[simp] theorem xt127 : ext? Try.prog 127 = none := by kernel_rfl
-- lintel/lintelref1.Of
-- slices.Equal[[]uint64,uint64]
-- lintel/lintelref6.Same
@[simp] theorem nt130 : Try.f130.ntmps = 26 := rfl
@[simp] theorem rs130 : Try.f130.results.toList = [.tmp 4] := rfl
@[simp] theorem xt130 : ext? Try.prog 130 = none := by kernel_rfl
-- lintel/head.of
@[simp] theorem nt131 : Try.f131.ntmps = 24 := rfl
@[simp] theorem rs131 : Try.f131.results.toList = [.cell 4 73, .tmp 5] := rfl
@[simp] theorem xt131 : ext? Try.prog 131 = none := by kernel_rfl
-- lintel/lintelref6.Whole
@[simp] theorem nt132 : Try.f132.ntmps = 19 := rfl
@[simp] theorem rs132 : Try.f132.results.toList = [.tmp 2] := rfl
@[simp] theorem xt132 : ext? Try.prog 132 = none := by kernel_rfl
-- lintel/geom.between
-- lintel/geom.lay
-- lintel/geom.whole
-- lintel/seal.On
-- lintel/lintelref6.bitBlocks
-- lintel/lintelref1.Seal
-- (lintel/geom.part).end
-- math/bits.RotateLeft64
-- lintel/lintelref1.Turn
@[simp] theorem ag73 : agg? Try.prog 73 = some true := by kernel_rfl
@[simp] theorem sz73 {β : Type} (k : Nat → Option β) : szOf Try.prog 73 k = k 5 := by kernel_rfl
@[simp] theorem ze73 {β : Type} (k : List V → Option β) : zero Try.prog 73 k = k [.int .i64 0, .int .i64 0, .int .i64 0, .int .i64 0, .int .u64 0] := by kernel_rfl
theorem io73 : infoOk Try.prog 73 5 = true := by kernel_rfl
@[simp] theorem bz73 (st : St) : bldK Try.prog 73 [] [] [.int .i64 0, .int .i64 0, .int .i64 0, .int .i64 0, .int .u64 0] st = some (.g [.int .i64 0, .int .i64 0, .int .i64 0, .int .i64 0, .int .u64 0], st) := by kernel_rfl
theorem so73 : structOk Try.prog 73 [(0, 4), (4, 1)] = true := by kernel_rfl
@[simp] theorem fk73_0 (k : Nat → Nat → Res) : fieldK Try.prog 73 0 k = k 4 0 := by kernel_rfl
@[simp] theorem fk73_1 (k : Nat → Nat → Res) : fieldK Try.prog 73 1 k = k 1 4 := by kernel_rfl
end Go.Proofs.Ytenncnbaoejekaa

/-
  PLAIN: what the program's own tables say, as rules for rewriting.
-/
import Derived.Test.YtlonobfpogimgaaChecked
import Derived.Test.YtlonobfpogimgaaSb
namespace Go.Proofs.Ytlonobfpogimgaa
open Go.RowKit Ev
-- lintel/lintellaw1.WordSays
@[simp] theorem nt3 : Try.f3.ntmps = 354 := rfl
@[simp] theorem rs3 : Try.f3.results.toList = [.tmp 4] := rfl
@[simp] theorem xt3 : ext? Try.prog 3 = none := by kernel_rfl
-- lintel/lintellaw12.PoolGroups
@[simp] theorem nt32 : Try.f32.ntmps = 21 := rfl
@[simp] theorem rs32 : Try.f32.results.toList = [.tmp 2] := rfl
@[simp] theorem xt32 : ext? Try.prog 32 = none := by kernel_rfl
-- lintel/node.Needs
@[simp] theorem nt54 : Try.f54.ntmps = 51 := rfl
@[simp] theorem rs54 : Try.f54.results.toList = [.tmp 2] := rfl
@[simp] theorem xt54 : ext? Try.prog 54 = none := by kernel_rfl
-- lintel/runs.Apart
@[simp] theorem nt38 : Try.f38.ntmps = 34 := rfl
@[simp] theorem rs38 : Try.f38.results.toList = [.tmp 2] := rfl
@[simp] theorem xt38 : ext? Try.prog 38 = none := by kernel_rfl
-- lintel/lintellaw10.alike
@[simp] theorem nt30 : Try.f30.ntmps = 19 := rfl
@[simp] theorem rs30 : Try.f30.results.toList = [.tmp 2] := rfl
@[simp] theorem xt30 : ext? Try.prog 30 = none := by kernel_rfl
-- lintel/lintellaw12.awake
@[simp] theorem nt4 : Try.f4.ntmps = 42 := rfl
@[simp] theorem rs4 : Try.f4.results.toList = [.tmp 0] := rfl
@[simp] theorem xt4 : ext? Try.prog 4 = none := by kernel_rfl
-- lintel/geom.Good
@[simp] theorem nt5 : Try.f5.ntmps = 28 := rfl
@[simp] theorem rs5 : Try.f5.results.toList = [.tmp 2] := rfl
@[simp] theorem xt5 : ext? Try.prog 5 = none := by kernel_rfl
-- lintel/pool.New
@[simp] theorem nt6 : Try.f6.ntmps = 25 := rfl
@[simp] theorem rs6 : Try.f6.results.toList = [.tmp 4, .tmp 5] := rfl
@[simp] theorem xt6 : ext? Try.prog 6 = none := by kernel_rfl
-- lintel/lintellaw12.empty
@[simp] theorem nt7 : Try.f7.ntmps = 36 := rfl
@[simp] theorem rs7 : Try.f7.results.toList = [.cell 2 33] := rfl
@[simp] theorem xt7 : ext? Try.prog 7 = none := by kernel_rfl
-- lintel/geom.Data
@[simp] theorem nt8 : Try.f8.ntmps = 12 := rfl
@[simp] theorem rs8 : Try.f8.results.toList = [.tmp 2, .tmp 3] := rfl
@[simp] theorem xt8 : ext? Try.prog 8 = none := by kernel_rfl
-- (*lintel/pool.Pool).Take
@[simp] theorem nt9 : Try.f9.ntmps = 58 := rfl
@[simp] theorem rs9 : Try.f9.results.toList = [.tmp 8, .tmp 9] := rfl
@[simp] theorem xt9 : ext? Try.prog 9 = none := by kernel_rfl
-- lintel/lintellaw12.longest
@[simp] theorem nt10 : Try.f10.ntmps = 92 := rfl
@[simp] theorem rs10 : Try.f10.results.toList = [.tmp 10, .tmp 11] := rfl
@[simp] theorem xt10 : ext? Try.prog 10 = none := by kernel_rfl
-- lintel/lintelref6.Total
@[simp] theorem nt11 : Try.f11.ntmps = 7 := rfl
@[simp] theorem rs11 : Try.f11.results.toList = [.tmp 2] := rfl
@[simp] theorem xt11 : ext? Try.prog 11 = none := by kernel_rfl
-- lintel/lintellaw12.own
@[simp] theorem nt12 : Try.f12.ntmps = 26 := rfl
@[simp] theorem rs12 : Try.f12.results.toList = [.tmp 2] := rfl
@[simp] theorem xt12 : ext? Try.prog 12 = none := by kernel_rfl
-- lintel/lintellaw12.alike
@[simp] theorem nt13 : Try.f13.ntmps = 26 := rfl
@[simp] theorem rs13 : Try.f13.results.toList = [.tmp 4] := rfl
@[simp] theorem xt13 : ext? Try.prog 13 = none := by kernel_rfl
-- lintel/lintelref6.Merge
@[simp] theorem nt14 : Try.f14.ntmps = 64 := rfl
@[simp] theorem rs14 : Try.f14.results.toList = [.tmp 2] := rfl
@[simp] theorem xt14 : ext? Try.prog 14 = none := by kernel_rfl
-- lintel/lintelref6.Apart
@[simp] theorem nt15 : Try.f15.ntmps = 52 := rfl
@[simp] theorem rs15 : Try.f15.results.toList = [.tmp 2] := rfl
@[simp] theorem xt15 : ext? Try.prog 15 = none := by kernel_rfl
-- lintel/bits.Has
@[simp] theorem nt16 : Try.f16.ntmps = 21 := rfl
@[simp] theorem rs16 : Try.f16.results.toList = [.tmp 4] := rfl
@[simp] theorem xt16 : ext? Try.prog 16 = none := by kernel_rfl
-- lintel/bits.Set
@[simp] theorem nt17 : Try.f17.ntmps = 49 := rfl
@[simp] theorem rs17 : Try.f17.results.toList = [.cell 6 33] := rfl
@[simp] theorem xt17 : ext? Try.prog 17 = none := by kernel_rfl
-- (*lintel/pool.Pool).Give
@[simp] theorem nt18 : Try.f18.ntmps = 67 := rfl
@[simp] theorem rs18 : Try.f18.results.toList = [.tmp 4] := rfl
@[simp] theorem xt18 : ext? Try.prog 18 = none := by kernel_rfl
-- (*lintel/pool.Pool).Free
@[simp] theorem nt19 : Try.f19.ntmps = 6 := rfl
@[simp] theorem rs19 : Try.f19.results.toList = [.tmp 2] := rfl
@[simp] theorem xt19 : ext? Try.prog 19 = none := by kernel_rfl
-- (*lintel/pool.Pool).Bits
@[simp] theorem nt20 : Try.f20.ntmps = 8 := rfl
@[simp] theorem rs20 : Try.f20.results.toList = [.cell 2 33] := rfl
@[simp] theorem xt20 : ext? Try.prog 20 = none := by kernel_rfl
-- lintel/bits.Count
@[simp] theorem nt21 : Try.f21.ntmps = 19 := rfl
@[simp] theorem rs21 : Try.f21.results.toList = [.tmp 2] := rfl
@[simp] theorem xt21 : ext? Try.prog 21 = none := by kernel_rfl
-- (*lintel/pool.Pool).Group
@[simp] theorem nt42 : Try.f42.ntmps = 53 := rfl
@[simp] theorem rs42 : Try.f42.results.toList = [.tmp 4, .tmp 5] := rfl
@[simp] theorem xt42 : ext? Try.prog 42 = none := by kernel_rfl
-- lintel/geom.Plain
@[simp] theorem nt22 : Try.f22.ntmps = 5 := rfl
@[simp] theorem rs22 : Try.f22.results.toList = [.cell 2 23] := rfl
@[simp] theorem xt22 : ext? Try.prog 22 = none := by kernel_rfl
-- lintel/lintellaw14.awake
@[simp] theorem nt47 : Try.f47.ntmps = 36 := rfl
@[simp] theorem rs47 : Try.f47.results.toList = [.tmp 2] := rfl
@[simp] theorem xt47 : ext? Try.prog 47 = none := by kernel_rfl
-- slices.SortFunc[[]lintel/node.Run,lintel/node.Run]
@[simp] theorem nt49 : Try.f49.ntmps = 14 := rfl
@[simp] theorem rs49 : Try.f49.results.toList = [] := rfl
@[simp] theorem xt49 : ext? Try.prog 49 = none := by kernel_rfl
-- lintel/runs.Apart$1
@[simp] theorem nt50 : Try.f50.ntmps = 10 := rfl
@[simp] theorem rs50 : Try.f50.results.toList = [.tmp 4] := rfl
@[simp] theorem xt50 : ext? Try.prog 50 = none := by kernel_rfl
-- cmp.Compare[int]
@[simp] theorem nt51 : Try.f51.ntmps = 20 := rfl
@[simp] theorem rs51 : Try.f51.results.toList = [.tmp 4] := rfl
@[simp] theorem xt51 : ext? Try.prog 51 = none := by kernel_rfl
-- lintel/geom.between
@[simp] theorem nt23 : Try.f23.ntmps = 15 := rfl
@[simp] theorem rs23 : Try.f23.results.toList = [.tmp 6] := rfl
@[simp] theorem xt23 : ext? Try.prog 23 = none := by kernel_rfl
-- lintel/geom.lay
@[simp] theorem nt24 : Try.f24.ntmps = 48 := rfl
@[simp] theorem rs24 : Try.f24.results.toList = [.cell 2 66] := rfl
@[simp] theorem xt24 : ext? Try.prog 24 = none := by kernel_rfl
-- lintel/pool.copied
@[simp] theorem nt25 : Try.f25.ntmps = 7 := rfl
@[simp] theorem rs25 : Try.f25.results.toList = [.cell 2 33] := rfl
@[simp] theorem xt25 : ext? Try.prog 25 = none := by kernel_rfl
-- lintel/bits.New
@[simp] theorem nt26 : Try.f26.ntmps = 12 := rfl
@[simp] theorem rs26 : Try.f26.results.toList = [.cell 2 33] := rfl
@[simp] theorem xt26 : ext? Try.prog 26 = none := by kernel_rfl
-- lintel/geom.whole
@[simp] theorem nt27 : Try.f27.ntmps = 9 := rfl
@[simp] theorem rs27 : Try.f27.results.toList = [.cell 2 66] := rfl
@[simp] theorem xt27 : ext? Try.prog 27 = none := by kernel_rfl
-- (*lintel/pool.Pool).one
@[simp] theorem nt28 : Try.f28.ntmps = 56 := rfl
@[simp] theorem rs28 : Try.f28.results.toList = [.tmp 6] := rfl
@[simp] theorem xt28 : ext? Try.prog 28 = none := by kernel_rfl
-- (*lintel/pool.Pool).fewest
@[simp] theorem nt29 : Try.f29.ntmps = 17 := rfl
@[simp] theorem rs29 : Try.f29.results.toList = [.tmp 4] := rfl
@[simp] theorem xt29 : ext? Try.prog 29 = none := by kernel_rfl
-- (*lintel/pool.Pool).mark
@[simp] theorem nt31 : Try.f31.ntmps = 40 := rfl
@[simp] theorem rs31 : Try.f31.results.toList = [] := rfl
@[simp] theorem xt31 : ext? Try.prog 31 = none := by kernel_rfl
-- lintel/lintelref6.counts
@[simp] theorem nt33 : Try.f33.ntmps = 49 := rfl
@[simp] theorem rs33 : Try.f33.results.toList = [.tmp 2] := rfl
@[simp] theorem xt33 : ext? Try.prog 33 = none := by kernel_rfl
-- lintel/bits.there
@[simp] theorem nt34 : Try.f34.ntmps = 15 := rfl
@[simp] theorem rs34 : Try.f34.results.toList = [.tmp 4] := rfl
@[simp] theorem xt34 : ext? Try.prog 34 = none := by kernel_rfl
-- slices.Clone[[]uint64,uint64]
@[simp] theorem nt35 : Try.f35.ntmps = 8 := rfl
@[simp] theorem rs35 : Try.f35.results.toList = [.tmp 2] := rfl
@[simp] theorem xt35 : ext? Try.prog 35 = none := by kernel_rfl
-- (*lintel/pool.Pool).data
@[simp] theorem nt36 : Try.f36.ntmps = 17 := rfl
@[simp] theorem rs36 : Try.f36.results.toList = [.tmp 2, .tmp 3] := rfl
@[simp] theorem xt36 : ext? Try.prog 36 = none := by kernel_rfl
-- lintel/bits.Next
@[simp] theorem nt37 : Try.f37.ntmps = 30 := rfl
@[simp] theorem rs37 : Try.f37.results.toList = [.tmp 8, .tmp 9] := rfl
@[simp] theorem xt37 : ext? Try.prog 37 = none := by kernel_rfl
-- (*lintel/pool.Pool).gaps
@[simp] theorem nt39 : Try.f39.ntmps = 47 := rfl
@[simp] theorem rs39 : Try.f39.results.toList = [.tmp 2] := rfl
@[simp] theorem xt39 : ext? Try.prog 39 = none := by kernel_rfl
-- math/bits.OnesCount64
@[simp] theorem nt40 : Try.f40.ntmps = 35 := rfl
@[simp] theorem rs40 : Try.f40.results.toList = [.tmp 2] := rfl
@[simp] theorem xt40 : ext? Try.prog 40 = none := by kernel_rfl
-- lintel/pmem.New
@[simp] theorem nt55 : Try.f55.ntmps = 148 := rfl
@[simp] theorem rs55 : Try.f55.results.toList = [] := rfl
@[simp] theorem xt55 : ext? Try.prog 55 = none := by kernel_rfl
-- math/bits.Len
@[simp] theorem nt56 : Try.f56.ntmps = 8 := rfl
@[simp] theorem rs56 : Try.f56.results.toList = [.tmp 2] := rfl
@[simp] theorem xt56 : ext? Try.prog 56 = none := by kernel_rfl
-- cmp.isNaN[int]
@[simp] theorem nt57 : Try.f57.ntmps = 6 := rfl
@[simp] theorem rs57 : Try.f57.results.toList = [.tmp 2] := rfl
@[simp] theorem xt57 : ext? Try.prog 57 = none := by kernel_rfl
-- (lintel/geom.part).end
@[simp] theorem nt41 : Try.f41.ntmps = 8 := rfl
@[simp] theorem rs41 : Try.f41.results.toList = [.tmp 2] := rfl
@[simp] theorem xt41 : ext? Try.prog 41 = none := by kernel_rfl
-- lintel/bits.Free
@[simp] theorem nt43 : Try.f43.ntmps = 39 := rfl
@[simp] theorem rs43 : Try.f43.results.toList = [.tmp 8, .tmp 9] := rfl
@[simp] theorem xt43 : ext? Try.prog 43 = none := by kernel_rfl
-- slices.SortStableFunc[[]lintel/node.Run,lintel/node.Run]
@[simp] theorem nt44 : Try.f44.ntmps = 9 := rfl
@[simp] theorem rs44 : Try.f44.results.toList = [] := rfl
@[simp] theorem xt44 : ext? Try.prog 44 = none := by kernel_rfl
-- (*lintel/pool.Pool).fewest$1
@[simp] theorem nt45 : Try.f45.ntmps = 10 := rfl
@[simp] theorem rs45 : Try.f45.results.toList = [.tmp 4] := rfl
@[simp] theorem xt45 : ext? Try.prog 45 = none := by kernel_rfl
-- lintel/runs.Cut
@[simp] theorem nt46 : Try.f46.ntmps = 18 := rfl
@[simp] theorem rs46 : Try.f46.results.toList = [.tmp 4, .tmp 5] := rfl
@[simp] theorem xt46 : ext? Try.prog 46 = none := by kernel_rfl
-- lintel/bits.within
@[simp] theorem nt48 : Try.f48.ntmps = 16 := rfl
@[simp] theorem rs48 : Try.f48.results.toList = [.tmp 6, .tmp 7] := rfl
@[simp] theorem xt48 : ext? Try.prog 48 = none := by kernel_rfl
-- lintel/pmem.From
@[simp] theorem nt58 : Try.f58.ntmps = 53 := rfl
@[simp] theorem rs58 : Try.f58.results.toList = [] := rfl
@[simp] theorem xt58 : ext? Try.prog 58 = none := by kernel_rfl
-- slices.heapSortCmpFunc[lintel/node.Run]
@[simp] theorem nt60 : Try.f60.ntmps = 60 := rfl
@[simp] theorem rs60 : Try.f60.results.toList = [] := rfl
@[simp] theorem xt60 : ext? Try.prog 60 = none := by kernel_rfl
-- slices.breakPatternsCmpFunc[lintel/node.Run]
@[simp] theorem nt61 : Try.f61.ntmps = 67 := rfl
@[simp] theorem rs61 : Try.f61.results.toList = [] := rfl
@[simp] theorem xt61 : ext? Try.prog 61 = none := by kernel_rfl
-- slices.choosePivotCmpFunc[lintel/node.Run]
@[simp] theorem nt62 : Try.f62.ntmps = 63 := rfl
@[simp] theorem rs62 : Try.f62.results.toList = [.tmp 8, .tmp 9] := rfl
@[simp] theorem xt62 : ext? Try.prog 62 = none := by kernel_rfl
-- slices.reverseRangeCmpFunc[lintel/node.Run]
@[simp] theorem nt63 : Try.f63.ntmps = 34 := rfl
@[simp] theorem rs63 : Try.f63.results.toList = [] := rfl
@[simp] theorem xt63 : ext? Try.prog 63 = none := by kernel_rfl
-- slices.partialInsertionSortCmpFunc[lintel/node.Run]
@[simp] theorem nt64 : Try.f64.ntmps = 141 := rfl
@[simp] theorem rs64 : Try.f64.results.toList = [.tmp 8] := rfl
@[simp] theorem xt64 : ext? Try.prog 64 = none := by kernel_rfl
-- slices.partitionEqualCmpFunc[lintel/node.Run]
@[simp] theorem nt65 : Try.f65.ntmps = 90 := rfl
@[simp] theorem rs65 : Try.f65.results.toList = [.tmp 10] := rfl
@[simp] theorem xt65 : ext? Try.prog 65 = none := by kernel_rfl
-- slices.partitionCmpFunc[lintel/node.Run]
@[simp] theorem nt66 : Try.f66.ntmps = 178 := rfl
@[simp] theorem rs66 : Try.f66.results.toList = [.tmp 10, .tmp 11] := rfl
@[simp] theorem xt66 : ext? Try.prog 66 = none := by kernel_rfl
-- math/bits.Len32
@[simp] theorem nt67 : Try.f67.ntmps = 19 := rfl
@[simp] theorem rs67 : Try.f67.results.toList = [.tmp 2] := rfl
@[simp] theorem xt67 : ext? Try.prog 67 = none := by kernel_rfl
-- math/bits.Len64
@[simp] theorem nt68 : Try.f68.ntmps = 25 := rfl
@[simp] theorem rs68 : Try.f68.results.toList = [.tmp 2] := rfl
@[simp] theorem xt68 : ext? Try.prog 68 = none := by kernel_rfl
-- slices.stableCmpFunc[lintel/node.Run]
@[simp] theorem nt52 : Try.f52.ntmps = 63 := rfl
@[simp] theorem rs52 : Try.f52.results.toList = [] := rfl
@[simp] theorem xt52 : ext? Try.prog 52 = none := by kernel_rfl
-- lintel/runs.Split
@[simp] theorem nt53 : Try.f53.ntmps = 52 := rfl
@[simp] theorem rs53 : Try.f53.results.toList = [.tmp 4, .tmp 5] := rfl
@[simp] theorem xt53 : ext? Try.prog 53 = none := by kernel_rfl
-- lintel/line.New
@[simp] theorem nt70 : Try.f70.ntmps = 82 := rfl
@[simp] theorem rs70 : Try.f70.results.toList = [] := rfl
@[simp] theorem xt70 : ext? Try.prog 70 = none := by kernel_rfl
-- slices.nextPowerOfTwo
@[simp] theorem nt71 : Try.f71.ntmps = 7 := rfl
@[simp] theorem rs71 : Try.f71.results.toList = [.tmp 2] := rfl
@[simp] theorem xt71 : ext? Try.prog 71 = none := by kernel_rfl
-- (*slices.xorshift).Next
@[simp] theorem nt72 : Try.f72.ntmps = 33 := rfl
@[simp] theorem rs72 : Try.f72.results.toList = [.tmp 2] := rfl
@[simp] theorem xt72 : ext? Try.prog 72 = none := by kernel_rfl
-- slices.medianAdjacentCmpFunc[lintel/node.Run]
@[simp] theorem nt73 : Try.f73.ntmps = 18 := rfl
@[simp] theorem rs73 : Try.f73.results.toList = [.tmp 8] := rfl
@[simp] theorem xt73 : ext? Try.prog 73 = none := by kernel_rfl
-- slices.medianCmpFunc[lintel/node.Run]
@[simp] theorem nt74 : Try.f74.ntmps = 41 := rfl
@[simp] theorem rs74 : Try.f74.results.toList = [.tmp 12] := rfl
@[simp] theorem xt74 : ext? Try.prog 74 = none := by kernel_rfl
-- slices.symMergeCmpFunc[lintel/node.Run]
@[simp] theorem nt59 : Try.f59.ntmps = 220 := rfl
@[simp] theorem rs59 : Try.f59.results.toList = [] := rfl
@[simp] theorem xt59 : ext? Try.prog 59 = none := by kernel_rfl
-- lintel/line.there
@[simp] theorem nt76 : Try.f76.ntmps = 32 := rfl
@[simp] theorem rs76 : Try.f76.results.toList = [.tmp 10, .tmp 11] := rfl
@[simp] theorem xt76 : ext? Try.prog 76 = none := by kernel_rfl
-- slices.rotateCmpFunc[lintel/node.Run]
@[simp] theorem nt69 : Try.f69.ntmps = 58 := rfl
@[simp] theorem rs69 : Try.f69.results.toList = [] := rfl
@[simp] theorem xt69 : ext? Try.prog 69 = none := by kernel_rfl
-- slices.swapRangeCmpFunc[lintel/redo.Rec]
@[simp] theorem nt75 : Try.f75.ntmps = 38 := rfl
@[simp] theorem rs75 : Try.f75.results.toList = [] := rfl
@[simp] theorem xt75 : ext? Try.prog 75 = none := by kernel_rfl
@[simp] theorem ag2 : agg? Try.prog 2 = some false := by kernel_rfl
@[simp] theorem sz2 {β : Type} (k : Nat → Option β) : szOf Try.prog 2 k = k 1 := by kernel_rfl
@[simp] theorem ze2 {β : Type} (k : List V → Option β) : zero Try.prog 2 k = k [.int .i64 0] := by kernel_rfl
theorem io2 : infoOk Try.prog 2 1 = true := by kernel_rfl
@[simp] theorem ag3 : agg? Try.prog 3 = some false := by kernel_rfl
@[simp] theorem sz3 {β : Type} (k : Nat → Option β) : szOf Try.prog 3 k = k 1 := by kernel_rfl
@[simp] theorem ze3 {β : Type} (k : List V → Option β) : zero Try.prog 3 k = k [.int .i64 0] := by kernel_rfl
theorem io3 : infoOk Try.prog 3 1 = true := by kernel_rfl
@[simp] theorem ag4 : agg? Try.prog 4 = some false := by kernel_rfl
@[simp] theorem sz4 {β : Type} (k : Nat → Option β) : szOf Try.prog 4 k = k 1 := by kernel_rfl
@[simp] theorem ze4 {β : Type} (k : List V → Option β) : zero Try.prog 4 k = k [.bool false] := by kernel_rfl
theorem io4 : infoOk Try.prog 4 1 = true := by kernel_rfl
@[simp] theorem ag5 : agg? Try.prog 5 = some false := by kernel_rfl
@[simp] theorem sz5 {β : Type} (k : Nat → Option β) : szOf Try.prog 5 k = k 1 := by kernel_rfl
@[simp] theorem ze5 {β : Type} (k : List V → Option β) : zero Try.prog 5 k = k [.int .u8 0] := by kernel_rfl
theorem io5 : infoOk Try.prog 5 1 = true := by kernel_rfl
@[simp] theorem ag9 : agg? Try.prog 9 = some false := by kernel_rfl
@[simp] theorem sz9 {β : Type} (k : Nat → Option β) : szOf Try.prog 9 k = k 1 := by kernel_rfl
@[simp] theorem ze9 {β : Type} (k : List V → Option β) : zero Try.prog 9 k = k [.s []] := by kernel_rfl
theorem io9 : infoOk Try.prog 9 1 = true := by kernel_rfl
@[simp] theorem ag21 : agg? Try.prog 21 = some false := by kernel_rfl
@[simp] theorem sz21 {β : Type} (k : Nat → Option β) : szOf Try.prog 21 k = k 1 := by kernel_rfl
@[simp] theorem ze21 {β : Type} (k : List V → Option β) : zero Try.prog 21 k = k [.int .i32 0] := by kernel_rfl
theorem io21 : infoOk Try.prog 21 1 = true := by kernel_rfl
@[simp] theorem ag31 : agg? Try.prog 31 = some false := by kernel_rfl
@[simp] theorem sz31 {β : Type} (k : Nat → Option β) : szOf Try.prog 31 k = k 1 := by kernel_rfl
@[simp] theorem ze31 {β : Type} (k : List V → Option β) : zero Try.prog 31 k = k [.c (.slice none 0 0)] := by kernel_rfl
theorem io31 : infoOk Try.prog 31 1 = true := by kernel_rfl
@[simp] theorem ag58 : agg? Try.prog 58 = some false := by kernel_rfl
@[simp] theorem sz58 {β : Type} (k : Nat → Option β) : szOf Try.prog 58 k = k 1 := by kernel_rfl
@[simp] theorem ze58 {β : Type} (k : List V → Option β) : zero Try.prog 58 k = k [.int .u64 0] := by kernel_rfl
theorem io58 : infoOk Try.prog 58 1 = true := by kernel_rfl
@[simp] theorem ag23 : agg? Try.prog 23 = some true := by kernel_rfl
@[simp] theorem sz23 {β : Type} (k : Nat → Option β) : szOf Try.prog 23 k = k 4 := by kernel_rfl
@[simp] theorem ze23 {β : Type} (k : List V → Option β) : zero Try.prog 23 k = k [.int .i64 0, .int .i64 0, .int .i64 0, .int .i64 0] := by kernel_rfl
theorem io23 : infoOk Try.prog 23 4 = true := by kernel_rfl
@[simp] theorem ag38 : agg? Try.prog 38 = some false := by kernel_rfl
@[simp] theorem sz38 {β : Type} (k : Nat → Option β) : szOf Try.prog 38 k = k 1 := by kernel_rfl
@[simp] theorem ze38 {β : Type} (k : List V → Option β) : zero Try.prog 38 k = k [.c (.slice none 0 0)] := by kernel_rfl
theorem io38 : infoOk Try.prog 38 1 = true := by kernel_rfl
@[simp] theorem ag46 : agg? Try.prog 46 = some false := by kernel_rfl
@[simp] theorem sz46 {β : Type} (k : Nat → Option β) : szOf Try.prog 46 k = k 1 := by kernel_rfl
@[simp] theorem ze46 {β : Type} (k : List V → Option β) : zero Try.prog 46 k = k [.c (.slice none 0 0)] := by kernel_rfl
theorem io46 : infoOk Try.prog 46 1 = true := by kernel_rfl
@[simp] theorem ag79 : agg? Try.prog 79 = some true := by kernel_rfl
@[simp] theorem sz79 {β : Type} (k : Nat → Option β) : szOf Try.prog 79 k = k 4 := by kernel_rfl
@[simp] theorem ze79 {β : Type} (k : List V → Option β) : zero Try.prog 79 k = k [.int .i64 0, .int .i64 0, .int .i64 0, .c (.slice none 0 0)] := by kernel_rfl
theorem io79 : infoOk Try.prog 79 4 = true := by kernel_rfl
@[simp] theorem ag52 : agg? Try.prog 52 = some true := by kernel_rfl
@[simp] theorem sz52 {β : Type} (k : Nat → Option β) : szOf Try.prog 52 k = k 2 := by kernel_rfl
@[simp] theorem ze52 {β : Type} (k : List V → Option β) : zero Try.prog 52 k = k [.int .i64 0, .int .i64 0] := by kernel_rfl
theorem io52 : infoOk Try.prog 52 2 = true := by kernel_rfl
@[simp] theorem ag76 : agg? Try.prog 76 = some false := by kernel_rfl
@[simp] theorem sz76 {β : Type} (k : Nat → Option β) : szOf Try.prog 76 k = k 1 := by kernel_rfl
@[simp] theorem ze76 {β : Type} (k : List V → Option β) : zero Try.prog 76 k = k [.c (.slice none 0 0)] := by kernel_rfl
theorem io76 : infoOk Try.prog 76 1 = true := by kernel_rfl
@[simp] theorem ag24 : agg? Try.prog 24 = some false := by kernel_rfl
@[simp] theorem sz24 {β : Type} (k : Nat → Option β) : szOf Try.prog 24 k = k 1 := by kernel_rfl
@[simp] theorem ze24 {β : Type} (k : List V → Option β) : zero Try.prog 24 k = k [.c (.slice none 0 0)] := by kernel_rfl
theorem io24 : infoOk Try.prog 24 1 = true := by kernel_rfl
@[simp] theorem ag27 : agg? Try.prog 27 = some false := by kernel_rfl
@[simp] theorem sz27 {β : Type} (k : Nat → Option β) : szOf Try.prog 27 k = k 1 := by kernel_rfl
@[simp] theorem ze27 {β : Type} (k : List V → Option β) : zero Try.prog 27 k = k [.c (.pointer none)] := by kernel_rfl
theorem io27 : infoOk Try.prog 27 1 = true := by kernel_rfl
@[simp] theorem ag28 : agg? Try.prog 28 = some false := by kernel_rfl
@[simp] theorem sz28 {β : Type} (k : Nat → Option β) : szOf Try.prog 28 k = k 1 := by kernel_rfl
@[simp] theorem ze28 {β : Type} (k : List V → Option β) : zero Try.prog 28 k = k [.int .i64 0] := by kernel_rfl
theorem io28 : infoOk Try.prog 28 1 = true := by kernel_rfl
@[simp] theorem ag33 : agg? Try.prog 33 = some true := by kernel_rfl
@[simp] theorem sz33 {β : Type} (k : Nat → Option β) : szOf Try.prog 33 k = k 1 := by kernel_rfl
@[simp] theorem ze33 {β : Type} (k : List V → Option β) : zero Try.prog 33 k = k [.c (.slice none 0 0)] := by kernel_rfl
theorem io33 : infoOk Try.prog 33 1 = true := by kernel_rfl
@[simp] theorem ag37 : agg? Try.prog 37 = some false := by kernel_rfl
@[simp] theorem sz37 {β : Type} (k : Nat → Option β) : szOf Try.prog 37 k = k 1 := by kernel_rfl
@[simp] theorem ze37 {β : Type} (k : List V → Option β) : zero Try.prog 37 k = k [.c (.slice none 0 0)] := by kernel_rfl
theorem io37 : infoOk Try.prog 37 1 = true := by kernel_rfl
@[simp] theorem ag40 : agg? Try.prog 40 = some true := by kernel_rfl
@[simp] theorem sz40 {β : Type} (k : Nat → Option β) : szOf Try.prog 40 k = k 5 := by kernel_rfl
@[simp] theorem ze40 {β : Type} (k : List V → Option β) : zero Try.prog 40 k = k [.int .i64 0, .int .i64 0, .int .i64 0, .int .i64 0, .c (.slice none 0 0)] := by kernel_rfl
theorem io40 : infoOk Try.prog 40 5 = true := by kernel_rfl
@[simp] theorem ag96 : agg? Try.prog 96 = some false := by kernel_rfl
@[simp] theorem sz96 {β : Type} (k : Nat → Option β) : szOf Try.prog 96 k = k 1 := by kernel_rfl
@[simp] theorem ze96 {β : Type} (k : List V → Option β) : zero Try.prog 96 k = k [.int .u64 0] := by kernel_rfl
theorem io96 : infoOk Try.prog 96 1 = true := by kernel_rfl
@[simp] theorem ag80 : agg? Try.prog 80 = some true := by kernel_rfl
@[simp] theorem sz80 {β : Type} (k : Nat → Option β) : szOf Try.prog 80 k = k 2 := by kernel_rfl
@[simp] theorem ze80 {β : Type} (k : List V → Option β) : zero Try.prog 80 k = k [.int .i64 0, .int .i64 0] := by kernel_rfl
theorem io80 : infoOk Try.prog 80 2 = true := by kernel_rfl
@[simp] theorem ag90 : agg? Try.prog 90 = some false := by kernel_rfl
@[simp] theorem sz90 {β : Type} (k : Nat → Option β) : szOf Try.prog 90 k = k 1 := by kernel_rfl
@[simp] theorem ze90 {β : Type} (k : List V → Option β) : zero Try.prog 90 k = k [.c .nilFunc] := by kernel_rfl
theorem io90 : infoOk Try.prog 90 1 = true := by kernel_rfl
@[simp] theorem ag64 : agg? Try.prog 64 = some true := by kernel_rfl
@[simp] theorem sz64 {β : Type} (k : Nat → Option β) : szOf Try.prog 64 k = k 2 := by kernel_rfl
@[simp] theorem ze64 {β : Type} (k : List V → Option β) : zero Try.prog 64 k = k [.int .i64 0, .int .i64 0] := by kernel_rfl
theorem io64 : infoOk Try.prog 64 2 = true := by kernel_rfl
@[simp] theorem ag66 : agg? Try.prog 66 = some true := by kernel_rfl
@[simp] theorem sz66 {β : Type} (k : Nat → Option β) : szOf Try.prog 66 k = k 10 := by kernel_rfl
@[simp] theorem ze66 {β : Type} (k : List V → Option β) : zero Try.prog 66 k = k [.int .i64 0, .int .i64 0, .int .i64 0, .int .i64 0, .int .i64 0, .int .i64 0, .int .i64 0, .int .i64 0, .int .i64 0, .int .i64 0] := by kernel_rfl
theorem io66 : infoOk Try.prog 66 10 = true := by kernel_rfl
@[simp] theorem ag70 : agg? Try.prog 70 = some true := by kernel_rfl
@[simp] theorem sz70 {β : Type} (k : Nat → Option β) : szOf Try.prog 70 k = k 5 := by kernel_rfl
@[simp] theorem ze70 {β : Type} (k : List V → Option β) : zero Try.prog 70 k = k [.int .i64 0, .int .i64 0, .int .i64 0, .int .i64 0, .c (.slice none 0 0)] := by kernel_rfl
theorem io70 : infoOk Try.prog 70 5 = true := by kernel_rfl
@[simp] theorem ag102 : agg? Try.prog 102 = some false := by kernel_rfl
@[simp] theorem sz102 {β : Type} (k : Nat → Option β) : szOf Try.prog 102 k = k 1 := by kernel_rfl
@[simp] theorem ze102 {β : Type} (k : List V → Option β) : zero Try.prog 102 k = k [.int .i64 0] := by kernel_rfl
theorem io102 : infoOk Try.prog 102 1 = true := by kernel_rfl
@[simp] theorem ag109 : agg? Try.prog 109 = some false := by kernel_rfl
@[simp] theorem sz109 {β : Type} (k : Nat → Option β) : szOf Try.prog 109 k = k 1 := by kernel_rfl
@[simp] theorem ze109 {β : Type} (k : List V → Option β) : zero Try.prog 109 k = k [.int .u32 0] := by kernel_rfl
theorem io109 : infoOk Try.prog 109 1 = true := by kernel_rfl
@[simp] theorem ag110 : agg? Try.prog 110 = some false := by kernel_rfl
@[simp] theorem sz110 {β : Type} (k : Nat → Option β) : szOf Try.prog 110 k = k 1 := by kernel_rfl
@[simp] theorem ze110 {β : Type} (k : List V → Option β) : zero Try.prog 110 k = k [.int .u64 0] := by kernel_rfl
theorem io110 : infoOk Try.prog 110 1 = true := by kernel_rfl
@[simp] theorem ag114 : agg? Try.prog 114 = some false := by kernel_rfl
@[simp] theorem sz114 {β : Type} (k : Nat → Option β) : szOf Try.prog 114 k = k 1 := by kernel_rfl
@[simp] theorem ze114 {β : Type} (k : List V → Option β) : zero Try.prog 114 k = k [.c (.pointer none)] := by kernel_rfl
theorem io114 : infoOk Try.prog 114 1 = true := by kernel_rfl
@[simp] theorem ag116 : agg? Try.prog 116 = some false := by kernel_rfl
@[simp] theorem sz116 {β : Type} (k : Nat → Option β) : szOf Try.prog 116 k = k 1 := by kernel_rfl
@[simp] theorem ze116 {β : Type} (k : List V → Option β) : zero Try.prog 116 k = k [.c (.pointer none)] := by kernel_rfl
theorem io116 : infoOk Try.prog 116 1 = true := by kernel_rfl
@[simp] theorem un2 : Try.prog.underlying 2 = some (.int .i64) := by kernel_rfl
@[simp] theorem un3 : Try.prog.underlying 3 = some (.int .i64) := by kernel_rfl
@[simp] theorem un5 : Try.prog.underlying 5 = some (.int .u8) := by kernel_rfl
@[simp] theorem un9 : Try.prog.underlying 9 = some .string := by kernel_rfl
@[simp] theorem un21 : Try.prog.underlying 21 = some (.int .i32) := by kernel_rfl
@[simp] theorem un31 : Try.prog.underlying 31 = some (.slice 58) := by kernel_rfl
@[simp] theorem ln31 (c : Cx) (st : St) (x : V) : builtinE Try.prog c .len [31] [x] st = lenS st x := len_slice un31 x
@[simp] theorem ix31 {β : Type} (m o len cap i : Nat) (k : V → Option β) : idxE Try.prog 31 (.sl m o len cap) i k = if i < len then k (.p m (o + i * 1)) else none := idxE_sl un31 (fun k => sz58 k) m o len cap i k
@[simp] theorem iy31 {β : Type} (m o len w i : Nat) (k : V → Option β) : idxE Try.prog 31 (.sg m o len w) i k = if i < len then k (.p m (o + i * 1)) else none := idxE_sg un31 (fun k => sz58 k) m o len w i k
@[simp] theorem el31 {β : Type} (k : TypeId → Nat → Option β) : Ev.elemOf Try.prog 31 k = k 58 1 := by kernel_rfl
@[simp] theorem un58 : Try.prog.underlying 58 = some (.int .u64) := by kernel_rfl
@[simp] theorem bz23 (st : St) : bldK Try.prog 23 [] [] [.int .i64 0, .int .i64 0, .int .i64 0, .int .i64 0] st = some (.g [.int .i64 0, .int .i64 0, .int .i64 0, .int .i64 0], st) := by kernel_rfl
theorem so23 : structOk Try.prog 23 [(0, 1), (1, 1), (2, 1), (3, 1)] = true := by kernel_rfl
@[simp] theorem bl23 (x0 x1 x2 x3 : Operand) (a0 a1 a2 a3 : V) (st : St) (h0 : a0.one = true) (h1 : a1.one = true) (h2 : a2.one = true) (h3 : a3.one = true) : bldK Try.prog 23 [(0, x0), (1, x1), (2, x2), (3, x3)] [a0, a1, a2, a3] [.int .i64 0, .int .i64 0, .int .i64 0, .int .i64 0] st = some (.g [a0, a1, a2, a3], st) := by
  rw [bldK_ok so23, partsK_one rfl h0 (by simp), partsK_one rfl h1 (by simp), partsK_one rfl h2 (by simp), partsK_one rfl h3 (by simp)]; rfl
@[simp] theorem fk23_0 (k : Nat → Nat → Res) : fieldK Try.prog 23 0 k = k 1 0 := by kernel_rfl
@[simp] theorem fk23_1 (k : Nat → Nat → Res) : fieldK Try.prog 23 1 k = k 1 1 := by kernel_rfl
@[simp] theorem fk23_2 (k : Nat → Nat → Res) : fieldK Try.prog 23 2 k = k 1 2 := by kernel_rfl
@[simp] theorem fk23_3 (k : Nat → Nat → Res) : fieldK Try.prog 23 3 k = k 1 3 := by kernel_rfl
@[simp] theorem un38 : Try.prog.underlying 38 = some (.slice 52) := by kernel_rfl
@[simp] theorem ln38 (c : Cx) (st : St) (x : V) : builtinE Try.prog c .len [38] [x] st = lenS st x := len_slice un38 x
@[simp] theorem ix38 {β : Type} (m o len cap i : Nat) (k : V → Option β) : idxE Try.prog 38 (.sl m o len cap) i k = if i < len then k (.p m (o + i * 2)) else none := idxE_sl un38 (fun k => sz52 k) m o len cap i k
@[simp] theorem iy38 {β : Type} (m o len w i : Nat) (k : V → Option β) : idxE Try.prog 38 (.sg m o len w) i k = if i < len then k (.p m (o + i * 2)) else none := idxE_sg un38 (fun k => sz52 k) m o len w i k
@[simp] theorem el38 {β : Type} (k : TypeId → Nat → Option β) : Ev.elemOf Try.prog 38 k = k 52 2 := by kernel_rfl
@[simp] theorem un46 : Try.prog.underlying 46 = some (.slice 80) := by kernel_rfl
@[simp] theorem ln46 (c : Cx) (st : St) (x : V) : builtinE Try.prog c .len [46] [x] st = lenS st x := len_slice un46 x
@[simp] theorem ix46 {β : Type} (m o len cap i : Nat) (k : V → Option β) : idxE Try.prog 46 (.sl m o len cap) i k = if i < len then k (.p m (o + i * 2)) else none := idxE_sl un46 (fun k => sz80 k) m o len cap i k
@[simp] theorem iy46 {β : Type} (m o len w i : Nat) (k : V → Option β) : idxE Try.prog 46 (.sg m o len w) i k = if i < len then k (.p m (o + i * 2)) else none := idxE_sg un46 (fun k => sz80 k) m o len w i k
@[simp] theorem el46 {β : Type} (k : TypeId → Nat → Option β) : Ev.elemOf Try.prog 46 k = k 80 2 := by kernel_rfl
@[simp] theorem bz79 (st : St) : bldK Try.prog 79 [] [] [.int .i64 0, .int .i64 0, .int .i64 0, .c (.slice none 0 0)] st = some (.g [.int .i64 0, .int .i64 0, .int .i64 0, .c (.slice none 0 0)], st) := by kernel_rfl
theorem so79 : structOk Try.prog 79 [(0, 1), (1, 1), (2, 1), (3, 1)] = true := by kernel_rfl
@[simp] theorem bl79 (x0 x1 x2 x3 : Operand) (a0 a1 a2 a3 : V) (st : St) (h0 : a0.one = true) (h1 : a1.one = true) (h2 : a2.one = true) (h3 : a3.one = true) : bldK Try.prog 79 [(0, x0), (1, x1), (2, x2), (3, x3)] [a0, a1, a2, a3] [.int .i64 0, .int .i64 0, .int .i64 0, .c (.slice none 0 0)] st = some (.g [a0, a1, a2, a3], st) := by
  rw [bldK_ok so79, partsK_one rfl h0 (by simp), partsK_one rfl h1 (by simp), partsK_one rfl h2 (by simp), partsK_one rfl h3 (by simp)]; rfl
@[simp] theorem fk79_0 (k : Nat → Nat → Res) : fieldK Try.prog 79 0 k = k 1 0 := by kernel_rfl
@[simp] theorem fk79_1 (k : Nat → Nat → Res) : fieldK Try.prog 79 1 k = k 1 1 := by kernel_rfl
@[simp] theorem fk79_2 (k : Nat → Nat → Res) : fieldK Try.prog 79 2 k = k 1 2 := by kernel_rfl
@[simp] theorem fk79_3 (k : Nat → Nat → Res) : fieldK Try.prog 79 3 k = k 1 3 := by kernel_rfl
@[simp] theorem bz52 (st : St) : bldK Try.prog 52 [] [] [.int .i64 0, .int .i64 0] st = some (.g [.int .i64 0, .int .i64 0], st) := by kernel_rfl
theorem so52 : structOk Try.prog 52 [(0, 1), (1, 1)] = true := by kernel_rfl
@[simp] theorem bl52 (x0 x1 : Operand) (a0 a1 : V) (st : St) (h0 : a0.one = true) (h1 : a1.one = true) : bldK Try.prog 52 [(0, x0), (1, x1)] [a0, a1] [.int .i64 0, .int .i64 0] st = some (.g [a0, a1], st) := by
  rw [bldK_ok so52, partsK_one rfl h0 (by simp), partsK_one rfl h1 (by simp)]; rfl
@[simp] theorem fk52_0 (k : Nat → Nat → Res) : fieldK Try.prog 52 0 k = k 1 0 := by kernel_rfl
@[simp] theorem fk52_1 (k : Nat → Nat → Res) : fieldK Try.prog 52 1 k = k 1 1 := by kernel_rfl
@[simp] theorem un76 : Try.prog.underlying 76 = some (.slice 3) := by kernel_rfl
@[simp] theorem ln76 (c : Cx) (st : St) (x : V) : builtinE Try.prog c .len [76] [x] st = lenS st x := len_slice un76 x
@[simp] theorem ix76 {β : Type} (m o len cap i : Nat) (k : V → Option β) : idxE Try.prog 76 (.sl m o len cap) i k = if i < len then k (.p m (o + i * 1)) else none := idxE_sl un76 (fun k => sz3 k) m o len cap i k
@[simp] theorem iy76 {β : Type} (m o len w i : Nat) (k : V → Option β) : idxE Try.prog 76 (.sg m o len w) i k = if i < len then k (.p m (o + i * 1)) else none := idxE_sg un76 (fun k => sz3 k) m o len w i k
@[simp] theorem el76 {β : Type} (k : TypeId → Nat → Option β) : Ev.elemOf Try.prog 76 k = k 3 1 := by kernel_rfl
@[simp] theorem un24 : Try.prog.underlying 24 = some (.slice 40) := by kernel_rfl
@[simp] theorem ln24 (c : Cx) (st : St) (x : V) : builtinE Try.prog c .len [24] [x] st = lenS st x := len_slice un24 x
@[simp] theorem ix24 {β : Type} (m o len cap i : Nat) (k : V → Option β) : idxE Try.prog 24 (.sl m o len cap) i k = if i < len then k (.p m (o + i * 5)) else none := idxE_sl un24 (fun k => sz40 k) m o len cap i k
@[simp] theorem iy24 {β : Type} (m o len w i : Nat) (k : V → Option β) : idxE Try.prog 24 (.sg m o len w) i k = if i < len then k (.p m (o + i * 5)) else none := idxE_sg un24 (fun k => sz40 k) m o len w i k
@[simp] theorem el24 {β : Type} (k : TypeId → Nat → Option β) : Ev.elemOf Try.prog 24 k = k 40 5 := by kernel_rfl
@[simp] theorem un28 : Try.prog.underlying 28 = some (.int .i64) := by kernel_rfl
@[simp] theorem bz33 (st : St) : bldK Try.prog 33 [] [] [.c (.slice none 0 0)] st = some (.g [.c (.slice none 0 0)], st) := by kernel_rfl
theorem so33 : structOk Try.prog 33 [(0, 1)] = true := by kernel_rfl
@[simp] theorem bl33 (x0 : Operand) (a0 : V) (st : St) (h0 : a0.one = true) : bldK Try.prog 33 [(0, x0)] [a0] [.c (.slice none 0 0)] st = some (.g [a0], st) := by
  rw [bldK_ok so33, partsK_one rfl h0 (by simp)]; rfl
@[simp] theorem fk33_0 (k : Nat → Nat → Res) : fieldK Try.prog 33 0 k = k 1 0 := by kernel_rfl
@[simp] theorem un37 : Try.prog.underlying 37 = some (.slice 38) := by kernel_rfl
@[simp] theorem ln37 (c : Cx) (st : St) (x : V) : builtinE Try.prog c .len [37] [x] st = lenS st x := len_slice un37 x
@[simp] theorem ix37 {β : Type} (m o len cap i : Nat) (k : V → Option β) : idxE Try.prog 37 (.sl m o len cap) i k = if i < len then k (.p m (o + i * 1)) else none := idxE_sl un37 (fun k => sz38 k) m o len cap i k
@[simp] theorem iy37 {β : Type} (m o len w i : Nat) (k : V → Option β) : idxE Try.prog 37 (.sg m o len w) i k = if i < len then k (.p m (o + i * 1)) else none := idxE_sg un37 (fun k => sz38 k) m o len w i k
@[simp] theorem el37 {β : Type} (k : TypeId → Nat → Option β) : Ev.elemOf Try.prog 37 k = k 38 1 := by kernel_rfl
@[simp] theorem bz40 (st : St) : bldK Try.prog 40 [] [] [.int .i64 0, .int .i64 0, .int .i64 0, .int .i64 0, .c (.slice none 0 0)] st = some (.g [.int .i64 0, .int .i64 0, .int .i64 0, .int .i64 0, .c (.slice none 0 0)], st) := by kernel_rfl
theorem so40 : structOk Try.prog 40 [(0, 1), (1, 1), (2, 1), (3, 1), (4, 1)] = true := by kernel_rfl
@[simp] theorem bl40 (x0 x1 x2 x3 x4 : Operand) (a0 a1 a2 a3 a4 : V) (st : St) (h0 : a0.one = true) (h1 : a1.one = true) (h2 : a2.one = true) (h3 : a3.one = true) (h4 : a4.one = true) : bldK Try.prog 40 [(0, x0), (1, x1), (2, x2), (3, x3), (4, x4)] [a0, a1, a2, a3, a4] [.int .i64 0, .int .i64 0, .int .i64 0, .int .i64 0, .c (.slice none 0 0)] st = some (.g [a0, a1, a2, a3, a4], st) := by
  rw [bldK_ok so40, partsK_one rfl h0 (by simp), partsK_one rfl h1 (by simp), partsK_one rfl h2 (by simp), partsK_one rfl h3 (by simp), partsK_one rfl h4 (by simp)]; rfl
@[simp] theorem fk40_0 (k : Nat → Nat → Res) : fieldK Try.prog 40 0 k = k 1 0 := by kernel_rfl
@[simp] theorem fk40_1 (k : Nat → Nat → Res) : fieldK Try.prog 40 1 k = k 1 1 := by kernel_rfl
@[simp] theorem fk40_2 (k : Nat → Nat → Res) : fieldK Try.prog 40 2 k = k 1 2 := by kernel_rfl
@[simp] theorem fk40_3 (k : Nat → Nat → Res) : fieldK Try.prog 40 3 k = k 1 3 := by kernel_rfl
@[simp] theorem fk40_4 (k : Nat → Nat → Res) : fieldK Try.prog 40 4 k = k 1 4 := by kernel_rfl
@[simp] theorem un96 : Try.prog.underlying 96 = some (.int .u64) := by kernel_rfl
@[simp] theorem bz80 (st : St) : bldK Try.prog 80 [] [] [.int .i64 0, .int .i64 0] st = some (.g [.int .i64 0, .int .i64 0], st) := by kernel_rfl
theorem so80 : structOk Try.prog 80 [(0, 1), (1, 1)] = true := by kernel_rfl
@[simp] theorem bl80 (x0 x1 : Operand) (a0 a1 : V) (st : St) (h0 : a0.one = true) (h1 : a1.one = true) : bldK Try.prog 80 [(0, x0), (1, x1)] [a0, a1] [.int .i64 0, .int .i64 0] st = some (.g [a0, a1], st) := by
  rw [bldK_ok so80, partsK_one rfl h0 (by simp), partsK_one rfl h1 (by simp)]; rfl
@[simp] theorem fk80_0 (k : Nat → Nat → Res) : fieldK Try.prog 80 0 k = k 1 0 := by kernel_rfl
@[simp] theorem fk80_1 (k : Nat → Nat → Res) : fieldK Try.prog 80 1 k = k 1 1 := by kernel_rfl
@[simp] theorem bz64 (st : St) : bldK Try.prog 64 [] [] [.int .i64 0, .int .i64 0] st = some (.g [.int .i64 0, .int .i64 0], st) := by kernel_rfl
theorem so64 : structOk Try.prog 64 [(0, 1), (1, 1)] = true := by kernel_rfl
@[simp] theorem bl64 (x0 x1 : Operand) (a0 a1 : V) (st : St) (h0 : a0.one = true) (h1 : a1.one = true) : bldK Try.prog 64 [(0, x0), (1, x1)] [a0, a1] [.int .i64 0, .int .i64 0] st = some (.g [a0, a1], st) := by
  rw [bldK_ok so64, partsK_one rfl h0 (by simp), partsK_one rfl h1 (by simp)]; rfl
@[simp] theorem fk64_0 (k : Nat → Nat → Res) : fieldK Try.prog 64 0 k = k 1 0 := by kernel_rfl
@[simp] theorem fk64_1 (k : Nat → Nat → Res) : fieldK Try.prog 64 1 k = k 1 1 := by kernel_rfl
@[simp] theorem bz66 (st : St) : bldK Try.prog 66 [] [] [.int .i64 0, .int .i64 0, .int .i64 0, .int .i64 0, .int .i64 0, .int .i64 0, .int .i64 0, .int .i64 0, .int .i64 0, .int .i64 0] st = some (.g [.int .i64 0, .int .i64 0, .int .i64 0, .int .i64 0, .int .i64 0, .int .i64 0, .int .i64 0, .int .i64 0, .int .i64 0, .int .i64 0], st) := by kernel_rfl
theorem so66 : structOk Try.prog 66 [(0, 2), (2, 2), (4, 2), (6, 2), (8, 2)] = true := by kernel_rfl
@[simp] theorem fk66_0 (k : Nat → Nat → Res) : fieldK Try.prog 66 0 k = k 2 0 := by kernel_rfl
@[simp] theorem fk66_1 (k : Nat → Nat → Res) : fieldK Try.prog 66 1 k = k 2 2 := by kernel_rfl
@[simp] theorem fk66_2 (k : Nat → Nat → Res) : fieldK Try.prog 66 2 k = k 2 4 := by kernel_rfl
@[simp] theorem fk66_3 (k : Nat → Nat → Res) : fieldK Try.prog 66 3 k = k 2 6 := by kernel_rfl
@[simp] theorem fk66_4 (k : Nat → Nat → Res) : fieldK Try.prog 66 4 k = k 2 8 := by kernel_rfl
@[simp] theorem bz70 (st : St) : bldK Try.prog 70 [] [] [.int .i64 0, .int .i64 0, .int .i64 0, .int .i64 0, .c (.slice none 0 0)] st = some (.g [.int .i64 0, .int .i64 0, .int .i64 0, .int .i64 0, .c (.slice none 0 0)], st) := by kernel_rfl
theorem so70 : structOk Try.prog 70 [(0, 4), (4, 1)] = true := by kernel_rfl
@[simp] theorem fk70_0 (k : Nat → Nat → Res) : fieldK Try.prog 70 0 k = k 4 0 := by kernel_rfl
@[simp] theorem fk70_1 (k : Nat → Nat → Res) : fieldK Try.prog 70 1 k = k 1 4 := by kernel_rfl
@[simp] theorem un102 : Try.prog.underlying 102 = some (.int .i64) := by kernel_rfl
@[simp] theorem un109 : Try.prog.underlying 109 = some (.int .u32) := by kernel_rfl
@[simp] theorem un110 : Try.prog.underlying 110 = some (.int .u64) := by kernel_rfl
end Go.Proofs.Ytlonobfpogimgaa

/-
  PLAIN: what the program's own tables say, as rules for rewriting.
-/
import Derived.Test.YtcjddojcfdeflaaChecked
import Derived.Test.YtcjddojcfdeflaaSb
namespace Go.Proofs.Ytcjddojcfdeflaa
open Go.RowKit Ev
-- lintel/lintellaw1.WordSays
@[simp] theorem nt31 : Try.f31.ntmps = 55 := rfl
@[simp] theorem rs31 : Try.f31.results.toList = [.cell 2 33, .tmp 3] := rfl
@[simp] theorem xt31 : ext? Try.prog 31 = none := by kernel_rfl
-- lintel/lintelref6.GetNode
@[simp] theorem nt18 : Try.f18.ntmps = 38 := rfl
@[simp] theorem rs18 : Try.f18.results.toList = [.tmp 4] := rfl
@[simp] theorem xt18 : ext? Try.prog 18 = none := by kernel_rfl
-- lintel/lintelref6.GoodNode
@[simp] theorem nt24 : Try.f24.ntmps = 56 := rfl
@[simp] theorem rs24 : Try.f24.results.toList = [.tmp 2] := rfl
@[simp] theorem xt24 : ext? Try.prog 24 = none := by kernel_rfl
-- lintel/lintelref6.PutNode
@[simp] theorem nt46 : Try.f46.ntmps = 19 := rfl
@[simp] theorem rs46 : Try.f46.results.toList = [.tmp 2] := rfl
@[simp] theorem xt46 : ext? Try.prog 46 = none := by kernel_rfl
-- lintel/lintelref6.Blocks
@[simp] theorem nt28 : Try.f28.ntmps = 26 := rfl
@[simp] theorem rs28 : Try.f28.results.toList = [.tmp 2] := rfl
@[simp] theorem xt28 : ext? Try.prog 28 = none := by kernel_rfl
-- lintel/lintelref6.Needs
@[simp] theorem nt80 : Try.f80.ntmps = 51 := rfl
@[simp] theorem rs80 : Try.f80.results.toList = [.tmp 2] := rfl
@[simp] theorem xt80 : ext? Try.prog 80 = none := by kernel_rfl
-- lintel/runs.Apart
@[simp] theorem nt64 : Try.f64.ntmps = 19 := rfl
@[simp] theorem rs64 : Try.f64.results.toList = [.tmp 2] := rfl
@[simp] theorem xt64 : ext? Try.prog 64 = none := by kernel_rfl
-- lintel/lintellaw12.awake
@[simp] theorem nt34 : Try.f34.ntmps = 28 := rfl
@[simp] theorem rs34 : Try.f34.results.toList = [.tmp 2] := rfl
@[simp] theorem xt34 : ext? Try.prog 34 = none := by kernel_rfl
-- lintel/pool.New
@[simp] theorem nt51 : Try.f51.ntmps = 25 := rfl
@[simp] theorem rs51 : Try.f51.results.toList = [.tmp 4, .tmp 5] := rfl
@[simp] theorem xt51 : ext? Try.prog 51 = none := by kernel_rfl
-- lintel/lintellaw12.empty
@[simp] theorem nt56 : Try.f56.ntmps = 12 := rfl
@[simp] theorem rs56 : Try.f56.results.toList = [.tmp 2, .tmp 3] := rfl
@[simp] theorem xt56 : ext? Try.prog 56 = none := by kernel_rfl
-- (*lintel/pool.Pool).Take
@[simp] theorem nt53 : Try.f53.ntmps = 58 := rfl
@[simp] theorem rs53 : Try.f53.results.toList = [.tmp 8, .tmp 9] := rfl
@[simp] theorem xt53 : ext? Try.prog 53 = none := by kernel_rfl
-- lintel/lintellaw12.longest
@[simp] theorem nt30 : Try.f30.ntmps = 21 := rfl
@[simp] theorem rs30 : Try.f30.results.toList = [.tmp 4] := rfl
@[simp] theorem xt30 : ext? Try.prog 30 = none := by kernel_rfl
-- lintel/bits.Set
@[simp] theorem nt19 : Try.f19.ntmps = 49 := rfl
@[simp] theorem rs19 : Try.f19.results.toList = [.cell 6 49] := rfl
@[simp] theorem xt19 : ext? Try.prog 19 = none := by kernel_rfl
-- (*lintel/pool.Pool).Give
@[simp] theorem nt68 : Try.f68.ntmps = 53 := rfl
@[simp] theorem rs68 : Try.f68.results.toList = [.tmp 4, .tmp 5] := rfl
@[simp] theorem xt68 : ext? Try.prog 68 = none := by kernel_rfl
-- lintel/geom.Plain
@[simp] theorem nt16 : Try.f16.ntmps = 5 := rfl
@[simp] theorem rs16 : Try.f16.results.toList = [.cell 2 45] := rfl
@[simp] theorem xt16 : ext? Try.prog 16 = none := by kernel_rfl
-- lintel/lintellaw14.awake
@[simp] theorem nt67 : Try.f67.ntmps = 17 := rfl
@[simp] theorem rs67 : Try.f67.results.toList = [.tmp 4] := rfl
@[simp] theorem xt67 : ext? Try.prog 67 = none := by kernel_rfl
-- slices.Equal[[]uint64,uint64]
@[simp] theorem nt54 : Try.f54.ntmps = 26 := rfl
@[simp] theorem rs54 : Try.f54.results.toList = [.tmp 4] := rfl
@[simp] theorem xt54 : ext? Try.prog 54 = none := by kernel_rfl
-- lintel/lintelref6.Same
@[simp] theorem nt42 : Try.f42.ntmps = 17 := rfl
@[simp] theorem rs42 : Try.f42.results.toList = [.tmp 2] := rfl
@[simp] theorem xt42 : ext? Try.prog 42 = none := by kernel_rfl
-- lintel/node.between
@[simp] theorem nt43 : Try.f43.ntmps = 15 := rfl
@[simp] theorem rs43 : Try.f43.results.toList = [.tmp 6] := rfl
@[simp] theorem xt43 : ext? Try.prog 43 = none := by kernel_rfl
-- lintel/node.sized
@[simp] theorem nt44 : Try.f44.ntmps = 23 := rfl
@[simp] theorem rs44 : Try.f44.results.toList = [.tmp 4] := rfl
@[simp] theorem xt44 : ext? Try.prog 44 = none := by kernel_rfl
-- lintel/node.placed
@[simp] theorem nt45 : Try.f45.ntmps = 101 := rfl
@[simp] theorem rs45 : Try.f45.results.toList = [.tmp 4] := rfl
@[simp] theorem xt45 : ext? Try.prog 45 = none := by kernel_rfl
-- lintel/lintelref6.Good
@[simp] theorem nt49 : Try.f49.ntmps = 50 := rfl
@[simp] theorem rs49 : Try.f49.results.toList = [.tmp 2] := rfl
@[simp] theorem xt49 : ext? Try.prog 49 = none := by kernel_rfl
-- lintel/seal.Of
@[simp] theorem nt50 : Try.f50.ntmps = 5 := rfl
@[simp] theorem rs50 : Try.f50.results.toList = [.tmp 2] := rfl
@[simp] theorem xt50 : ext? Try.prog 50 = none := by kernel_rfl
-- lintel/lintelref1.Of
@[simp] theorem nt75 : Try.f75.ntmps = 36 := rfl
@[simp] theorem rs75 : Try.f75.results.toList = [.tmp 2] := rfl
@[simp] theorem xt75 : ext? Try.prog 75 = none := by kernel_rfl
-- slices.SortFunc[[]lintel/node.Run,lintel/node.Run]
@[simp] theorem nt40 : Try.f40.ntmps = 15 := rfl
@[simp] theorem rs40 : Try.f40.results.toList = [.tmp 6] := rfl
@[simp] theorem xt40 : ext? Try.prog 40 = none := by kernel_rfl
-- lintel/geom.lay
@[simp] theorem nt41 : Try.f41.ntmps = 48 := rfl
@[simp] theorem rs41 : Try.f41.results.toList = [.cell 2 93] := rfl
@[simp] theorem xt41 : ext? Try.prog 41 = none := by kernel_rfl
-- lintel/pool.copied
@[simp] theorem nt61 : Try.f61.ntmps = 7 := rfl
@[simp] theorem rs61 : Try.f61.results.toList = [.cell 2 49] := rfl
@[simp] theorem xt61 : ext? Try.prog 61 = none := by kernel_rfl
-- lintel/bits.New
@[simp] theorem nt57 : Try.f57.ntmps = 12 := rfl
@[simp] theorem rs57 : Try.f57.results.toList = [.cell 2 49] := rfl
@[simp] theorem xt57 : ext? Try.prog 57 = none := by kernel_rfl
-- lintel/geom.whole
@[simp] theorem nt48 : Try.f48.ntmps = 9 := rfl
@[simp] theorem rs48 : Try.f48.results.toList = [.cell 2 93] := rfl
@[simp] theorem xt48 : ext? Try.prog 48 = none := by kernel_rfl
-- (*lintel/pool.Pool).one
@[simp] theorem nt62 : Try.f62.ntmps = 56 := rfl
@[simp] theorem rs62 : Try.f62.results.toList = [.tmp 6] := rfl
@[simp] theorem xt62 : ext? Try.prog 62 = none := by kernel_rfl
-- (*lintel/pool.Pool).fewest
@[simp] theorem nt63 : Try.f63.ntmps = 17 := rfl
@[simp] theorem rs63 : Try.f63.results.toList = [.tmp 4] := rfl
@[simp] theorem xt63 : ext? Try.prog 63 = none := by kernel_rfl
-- (*lintel/pool.Pool).mark
@[simp] theorem nt65 : Try.f65.ntmps = 40 := rfl
@[simp] theorem rs65 : Try.f65.results.toList = [] := rfl
@[simp] theorem xt65 : ext? Try.prog 65 = none := by kernel_rfl
-- lintel/lintelref6.counts
@[simp] theorem nt47 : Try.f47.ntmps = 15 := rfl
@[simp] theorem rs47 : Try.f47.results.toList = [.tmp 4] := rfl
@[simp] theorem xt47 : ext? Try.prog 47 = none := by kernel_rfl
-- slices.Clone[[]uint64,uint64]
@[simp] theorem nt13 : Try.f13.ntmps = 8 := rfl
@[simp] theorem rs13 : Try.f13.results.toList = [.tmp 2] := rfl
@[simp] theorem xt13 : ext? Try.prog 13 = none := by kernel_rfl
-- (*lintel/pool.Pool).data
@[simp] theorem nt70 : Try.f70.ntmps = 17 := rfl
@[simp] theorem rs70 : Try.f70.results.toList = [.tmp 2, .tmp 3] := rfl
@[simp] theorem xt70 : ext? Try.prog 70 = none := by kernel_rfl
-- lintel/bits.Next
@[simp] theorem nt77 : Try.f77.ntmps = 30 := rfl
@[simp] theorem rs77 : Try.f77.results.toList = [.tmp 8, .tmp 9] := rfl
@[simp] theorem xt77 : ext? Try.prog 77 = none := by kernel_rfl
-- (*lintel/pool.Pool).gaps
@[simp] theorem nt71 : Try.f71.ntmps = 47 := rfl
@[simp] theorem rs71 : Try.f71.results.toList = [.tmp 2] := rfl
@[simp] theorem xt71 : ext? Try.prog 71 = none := by kernel_rfl
-- math/bits.OnesCount64
@[simp] theorem nt59 : Try.f59.ntmps = 13 := rfl
@[simp] theorem rs59 : Try.f59.results.toList = [.cell 2 87] := rfl
@[simp] theorem xt59 : ext? Try.prog 59 = none := by kernel_rfl
-- lintel/lintelref6.bitBlocks
@[simp] theorem nt60 : Try.f60.ntmps = 19 := rfl
@[simp] theorem rs60 : Try.f60.results.toList = [.tmp 4] := rfl
@[simp] theorem xt60 : ext? Try.prog 60 = none := by kernel_rfl
-- lintel/lintelref1.Seal
@[simp] theorem nt58 : Try.f58.ntmps = 8 := rfl
@[simp] theorem rs58 : Try.f58.results.toList = [.tmp 2] := rfl
@[simp] theorem xt58 : ext? Try.prog 58 = none := by kernel_rfl
-- lintel/bits.Free
@[simp] theorem nt69 : Try.f69.ntmps = 39 := rfl
@[simp] theorem rs69 : Try.f69.results.toList = [.tmp 8, .tmp 9] := rfl
@[simp] theorem xt69 : ext? Try.prog 69 = none := by kernel_rfl
-- slices.SortStableFunc[[]lintel/node.Run,lintel/node.Run]
@[simp] theorem nt72 : Try.f72.ntmps = 9 := rfl
@[simp] theorem rs72 : Try.f72.results.toList = [] := rfl
@[simp] theorem xt72 : ext? Try.prog 72 = none := by kernel_rfl
-- (*lintel/pool.Pool).fewest$1
@[simp] theorem nt73 : Try.f73.ntmps = 10 := rfl
@[simp] theorem rs73 : Try.f73.results.toList = [.tmp 4] := rfl
@[simp] theorem xt73 : ext? Try.prog 73 = none := by kernel_rfl
-- lintel/runs.Cut
@[simp] theorem nt74 : Try.f74.ntmps = 18 := rfl
@[simp] theorem rs74 : Try.f74.results.toList = [.tmp 4, .tmp 5] := rfl
@[simp] theorem xt74 : ext? Try.prog 74 = none := by kernel_rfl
-- lintel/bits.within
@[simp] theorem nt76 : Try.f76.ntmps = 16 := rfl
@[simp] theorem rs76 : Try.f76.results.toList = [.tmp 6, .tmp 7] := rfl
@[simp] theorem xt76 : ext? Try.prog 76 = none := by kernel_rfl
-- lintel/pmem.From
@[simp] theorem nt38 : Try.f38.ntmps = 12 := rfl
@[simp] theorem rs38 : Try.f38.results.toList = [.tmp 2, .tmp 3] := rfl
@[simp] theorem xt38 : ext? Try.prog 38 = none := by kernel_rfl
-- lintel/lintelref6.Node
@[simp] theorem nt81 : Try.f81.ntmps = 53 := rfl
@[simp] theorem rs81 : Try.f81.results.toList = [] := rfl
@[simp] theorem xt81 : ext? Try.prog 81 = none := by kernel_rfl
-- slices.heapSortCmpFunc[lintel/node.Run]
@[simp] theorem nt78 : Try.f78.ntmps = 63 := rfl
@[simp] theorem rs78 : Try.f78.results.toList = [] := rfl
@[simp] theorem xt78 : ext? Try.prog 78 = none := by kernel_rfl
-- lintel/runs.Split
@[simp] theorem nt79 : Try.f79.ntmps = 52 := rfl
@[simp] theorem rs79 : Try.f79.results.toList = [.tmp 4, .tmp 5] := rfl
@[simp] theorem xt79 : ext? Try.prog 79 = none := by kernel_rfl
-- lintel/line.New
@[simp] theorem nt82 : Try.f82.ntmps = 220 := rfl
@[simp] theorem rs82 : Try.f82.results.toList = [] := rfl
@[simp] theorem xt82 : ext? Try.prog 82 = none := by kernel_rfl
-- lintel/line.there
@[simp] theorem nt83 : Try.f83.ntmps = 58 := rfl
@[simp] theorem rs83 : Try.f83.results.toList = [] := rfl
@[simp] theorem xt83 : ext? Try.prog 83 = none := by kernel_rfl
-- slices.swapRangeCmpFunc[lintel/redo.Rec]
@[simp] theorem nt84 : Try.f84.ntmps = 38 := rfl
@[simp] theorem rs84 : Try.f84.results.toList = [] := rfl
@[simp] theorem xt84 : ext? Try.prog 84 = none := by kernel_rfl
@[simp] theorem ag2 : agg? Try.prog 2 = some false := by kernel_rfl
@[simp] theorem sz2 {β : Type} (k : Nat → Option β) : szOf Try.prog 2 k = k 1 := by kernel_rfl
@[simp] theorem ze2 {β : Type} (k : List V → Option β) : zero Try.prog 2 k = k [.int .i64 0] := by kernel_rfl
theorem io2 : infoOk Try.prog 2 1 = true := by kernel_rfl
@[simp] theorem ag3 : agg? Try.prog 3 = some false := by kernel_rfl
@[simp] theorem sz3 {β : Type} (k : Nat → Option β) : szOf Try.prog 3 k = k 1 := by kernel_rfl
@[simp] theorem ze3 {β : Type} (k : List V → Option β) : zero Try.prog 3 k = k [.int .i64 0] := by kernel_rfl
theorem io3 : infoOk Try.prog 3 1 = true := by kernel_rfl
@[simp] theorem ag4 : agg? Try.prog 4 = some false := by kernel_rfl
@[simp] theorem sz4 {β : Type} (k : Nat → Option β) : szOf Try.prog 4 k = k 1 := by kernel_rfl
@[simp] theorem ze4 {β : Type} (k : List V → Option β) : zero Try.prog 4 k = k [.bool false] := by kernel_rfl
theorem io4 : infoOk Try.prog 4 1 = true := by kernel_rfl
@[simp] theorem ag5 : agg? Try.prog 5 = some false := by kernel_rfl
@[simp] theorem sz5 {β : Type} (k : Nat → Option β) : szOf Try.prog 5 k = k 1 := by kernel_rfl
@[simp] theorem ze5 {β : Type} (k : List V → Option β) : zero Try.prog 5 k = k [.int .u8 0] := by kernel_rfl
theorem io5 : infoOk Try.prog 5 1 = true := by kernel_rfl
@[simp] theorem ag9 : agg? Try.prog 9 = some false := by kernel_rfl
@[simp] theorem sz9 {β : Type} (k : Nat → Option β) : szOf Try.prog 9 k = k 1 := by kernel_rfl
@[simp] theorem ze9 {β : Type} (k : List V → Option β) : zero Try.prog 9 k = k [.s []] := by kernel_rfl
theorem io9 : infoOk Try.prog 9 1 = true := by kernel_rfl
@[simp] theorem ag21 : agg? Try.prog 21 = some false := by kernel_rfl
@[simp] theorem sz21 {β : Type} (k : Nat → Option β) : szOf Try.prog 21 k = k 1 := by kernel_rfl
@[simp] theorem ze21 {β : Type} (k : List V → Option β) : zero Try.prog 21 k = k [.int .i32 0] := by kernel_rfl
theorem io21 : infoOk Try.prog 21 1 = true := by kernel_rfl
@[simp] theorem ag22 : agg? Try.prog 22 = some false := by kernel_rfl
@[simp] theorem sz22 {β : Type} (k : Nat → Option β) : szOf Try.prog 22 k = k 1 := by kernel_rfl
@[simp] theorem ze22 {β : Type} (k : List V → Option β) : zero Try.prog 22 k = k [.c (.slice none 0 0)] := by kernel_rfl
theorem io22 : infoOk Try.prog 22 1 = true := by kernel_rfl
@[simp] theorem ag28 : agg? Try.prog 28 = some false := by kernel_rfl
@[simp] theorem sz28 {β : Type} (k : Nat → Option β) : szOf Try.prog 28 k = k 1 := by kernel_rfl
@[simp] theorem ze28 {β : Type} (k : List V → Option β) : zero Try.prog 28 k = k [.c (.slice none 0 0)] := by kernel_rfl
theorem io28 : infoOk Try.prog 28 1 = true := by kernel_rfl
@[simp] theorem ag39 : agg? Try.prog 39 = some false := by kernel_rfl
@[simp] theorem sz39 {β : Type} (k : Nat → Option β) : szOf Try.prog 39 k = k 1 := by kernel_rfl
@[simp] theorem ze39 {β : Type} (k : List V → Option β) : zero Try.prog 39 k = k [.int .u64 0] := by kernel_rfl
theorem io39 : infoOk Try.prog 39 1 = true := by kernel_rfl
@[simp] theorem ag45 : agg? Try.prog 45 = some true := by kernel_rfl
@[simp] theorem sz45 {β : Type} (k : Nat → Option β) : szOf Try.prog 45 k = k 4 := by kernel_rfl
@[simp] theorem ze45 {β : Type} (k : List V → Option β) : zero Try.prog 45 k = k [.int .i64 0, .int .i64 0, .int .i64 0, .int .i64 0] := by kernel_rfl
theorem io45 : infoOk Try.prog 45 4 = true := by kernel_rfl
@[simp] theorem ag31 : agg? Try.prog 31 = some false := by kernel_rfl
@[simp] theorem sz31 {β : Type} (k : Nat → Option β) : szOf Try.prog 31 k = k 1 := by kernel_rfl
@[simp] theorem ze31 {β : Type} (k : List V → Option β) : zero Try.prog 31 k = k [.c (.slice none 0 0)] := by kernel_rfl
theorem io31 : infoOk Try.prog 31 1 = true := by kernel_rfl
@[simp] theorem ag33 : agg? Try.prog 33 = some true := by kernel_rfl
@[simp] theorem sz33 {β : Type} (k : Nat → Option β) : szOf Try.prog 33 k = k 4 := by kernel_rfl
@[simp] theorem ze33 {β : Type} (k : List V → Option β) : zero Try.prog 33 k = k [.int .i64 0, .int .i64 0, .int .i64 0, .c (.slice none 0 0)] := by kernel_rfl
theorem io33 : infoOk Try.prog 33 4 = true := by kernel_rfl
@[simp] theorem ag87 : agg? Try.prog 87 = some true := by kernel_rfl
@[simp] theorem sz87 {β : Type} (k : Nat → Option β) : szOf Try.prog 87 k = k 2 := by kernel_rfl
@[simp] theorem ze87 {β : Type} (k : List V → Option β) : zero Try.prog 87 k = k [.int .i64 0, .int .i64 0] := by kernel_rfl
theorem io87 : infoOk Try.prog 87 2 = true := by kernel_rfl
@[simp] theorem ag63 : agg? Try.prog 63 = some false := by kernel_rfl
@[simp] theorem sz63 {β : Type} (k : Nat → Option β) : szOf Try.prog 63 k = k 1 := by kernel_rfl
@[simp] theorem ze63 {β : Type} (k : List V → Option β) : zero Try.prog 63 k = k [.c (.slice none 0 0)] := by kernel_rfl
theorem io63 : infoOk Try.prog 63 1 = true := by kernel_rfl
@[simp] theorem ag98 : agg? Try.prog 98 = some false := by kernel_rfl
@[simp] theorem sz98 {β : Type} (k : Nat → Option β) : szOf Try.prog 98 k = k 1 := by kernel_rfl
@[simp] theorem ze98 {β : Type} (k : List V → Option β) : zero Try.prog 98 k = k [.c (.pointer none)] := by kernel_rfl
theorem io98 : infoOk Try.prog 98 1 = true := by kernel_rfl
@[simp] theorem ag25 : agg? Try.prog 25 = some false := by kernel_rfl
@[simp] theorem sz25 {β : Type} (k : Nat → Option β) : szOf Try.prog 25 k = k 1 := by kernel_rfl
@[simp] theorem ze25 {β : Type} (k : List V → Option β) : zero Try.prog 25 k = k [.int .i64 0] := by kernel_rfl
theorem io25 : infoOk Try.prog 25 1 = true := by kernel_rfl
@[simp] theorem ag49 : agg? Try.prog 49 = some true := by kernel_rfl
@[simp] theorem sz49 {β : Type} (k : Nat → Option β) : szOf Try.prog 49 k = k 1 := by kernel_rfl
@[simp] theorem ze49 {β : Type} (k : List V → Option β) : zero Try.prog 49 k = k [.c (.slice none 0 0)] := by kernel_rfl
theorem io49 : infoOk Try.prog 49 1 = true := by kernel_rfl
@[simp] theorem ag36 : agg? Try.prog 36 = some false := by kernel_rfl
@[simp] theorem sz36 {β : Type} (k : Nat → Option β) : szOf Try.prog 36 k = k 1 := by kernel_rfl
@[simp] theorem ze36 {β : Type} (k : List V → Option β) : zero Try.prog 36 k = k [.c (.slice none 0 0)] := by kernel_rfl
theorem io36 : infoOk Try.prog 36 1 = true := by kernel_rfl
@[simp] theorem ag41 : agg? Try.prog 41 = some true := by kernel_rfl
@[simp] theorem sz41 {β : Type} (k : Nat → Option β) : szOf Try.prog 41 k = k 2 := by kernel_rfl
@[simp] theorem ze41 {β : Type} (k : List V → Option β) : zero Try.prog 41 k = k [.int .i64 0, .int .u64 0] := by kernel_rfl
theorem io41 : infoOk Try.prog 41 2 = true := by kernel_rfl
@[simp] theorem ag96 : agg? Try.prog 96 = some false := by kernel_rfl
@[simp] theorem sz96 {β : Type} (k : Nat → Option β) : szOf Try.prog 96 k = k 1 := by kernel_rfl
@[simp] theorem ze96 {β : Type} (k : List V → Option β) : zero Try.prog 96 k = k [.int .u64 0] := by kernel_rfl
theorem io96 : infoOk Try.prog 96 1 = true := by kernel_rfl
@[simp] theorem ag124 : agg? Try.prog 124 = some false := by kernel_rfl
@[simp] theorem sz124 {β : Type} (k : Nat → Option β) : szOf Try.prog 124 k = k 1 := by kernel_rfl
@[simp] theorem ze124 {β : Type} (k : List V → Option β) : zero Try.prog 124 k = k [.c .nilFunc] := by kernel_rfl
theorem io124 : infoOk Try.prog 124 1 = true := by kernel_rfl
@[simp] theorem ag91 : agg? Try.prog 91 = some true := by kernel_rfl
@[simp] theorem sz91 {β : Type} (k : Nat → Option β) : szOf Try.prog 91 k = k 2 := by kernel_rfl
@[simp] theorem ze91 {β : Type} (k : List V → Option β) : zero Try.prog 91 k = k [.int .i64 0, .int .i64 0] := by kernel_rfl
theorem io91 : infoOk Try.prog 91 2 = true := by kernel_rfl
@[simp] theorem ag93 : agg? Try.prog 93 = some true := by kernel_rfl
@[simp] theorem sz93 {β : Type} (k : Nat → Option β) : szOf Try.prog 93 k = k 10 := by kernel_rfl
@[simp] theorem ze93 {β : Type} (k : List V → Option β) : zero Try.prog 93 k = k [.int .i64 0, .int .i64 0, .int .i64 0, .int .i64 0, .int .i64 0, .int .i64 0, .int .i64 0, .int .i64 0, .int .i64 0, .int .i64 0] := by kernel_rfl
theorem io93 : infoOk Try.prog 93 10 = true := by kernel_rfl
@[simp] theorem ag112 : agg? Try.prog 112 = some true := by kernel_rfl
@[simp] theorem sz112 {β : Type} (k : Nat → Option β) : szOf Try.prog 112 k = k 5 := by kernel_rfl
@[simp] theorem ze112 {β : Type} (k : List V → Option β) : zero Try.prog 112 k = k [.int .i64 0, .int .i64 0, .int .i64 0, .int .i64 0, .c (.slice none 0 0)] := by kernel_rfl
theorem io112 : infoOk Try.prog 112 5 = true := by kernel_rfl
@[simp] theorem ag139 : agg? Try.prog 139 = some false := by kernel_rfl
@[simp] theorem sz139 {β : Type} (k : Nat → Option β) : szOf Try.prog 139 k = k 1 := by kernel_rfl
@[simp] theorem ze139 {β : Type} (k : List V → Option β) : zero Try.prog 139 k = k [.int .u32 0] := by kernel_rfl
theorem io139 : infoOk Try.prog 139 1 = true := by kernel_rfl
@[simp] theorem un2 : Try.prog.underlying 2 = some (.int .i64) := by kernel_rfl
@[simp] theorem un3 : Try.prog.underlying 3 = some (.int .i64) := by kernel_rfl
@[simp] theorem un5 : Try.prog.underlying 5 = some (.int .u8) := by kernel_rfl
@[simp] theorem un9 : Try.prog.underlying 9 = some .string := by kernel_rfl
@[simp] theorem un21 : Try.prog.underlying 21 = some (.int .i32) := by kernel_rfl
@[simp] theorem un22 : Try.prog.underlying 22 = some (.slice 5) := by kernel_rfl
@[simp] theorem ln22 (c : Cx) (st : St) (x : V) : builtinE Try.prog c .len [22] [x] st = lenS st x := len_slice un22 x
@[simp] theorem ix22 {β : Type} (m o len cap i : Nat) (k : V → Option β) : idxE Try.prog 22 (.sl m o len cap) i k = if i < len then k (.p m (o + i * 1)) else none := idxE_sl un22 (fun k => sz5 k) m o len cap i k
@[simp] theorem iy22 {β : Type} (m o len w i : Nat) (k : V → Option β) : idxE Try.prog 22 (.sg m o len w) i k = if i < len then k (.p m (o + i * 1)) else none := idxE_sg un22 (fun k => sz5 k) m o len w i k
@[simp] theorem el22 {β : Type} (k : TypeId → Nat → Option β) : Ev.elemOf Try.prog 22 k = k 5 1 := by kernel_rfl
@[simp] theorem un28 : Try.prog.underlying 28 = some (.slice 39) := by kernel_rfl
@[simp] theorem ln28 (c : Cx) (st : St) (x : V) : builtinE Try.prog c .len [28] [x] st = lenS st x := len_slice un28 x
@[simp] theorem ix28 {β : Type} (m o len cap i : Nat) (k : V → Option β) : idxE Try.prog 28 (.sl m o len cap) i k = if i < len then k (.p m (o + i * 1)) else none := idxE_sl un28 (fun k => sz39 k) m o len cap i k
@[simp] theorem iy28 {β : Type} (m o len w i : Nat) (k : V → Option β) : idxE Try.prog 28 (.sg m o len w) i k = if i < len then k (.p m (o + i * 1)) else none := idxE_sg un28 (fun k => sz39 k) m o len w i k
@[simp] theorem el28 {β : Type} (k : TypeId → Nat → Option β) : Ev.elemOf Try.prog 28 k = k 39 1 := by kernel_rfl
@[simp] theorem un39 : Try.prog.underlying 39 = some (.int .u64) := by kernel_rfl
@[simp] theorem bz45 (st : St) : bldK Try.prog 45 [] [] [.int .i64 0, .int .i64 0, .int .i64 0, .int .i64 0] st = some (.g [.int .i64 0, .int .i64 0, .int .i64 0, .int .i64 0], st) := by kernel_rfl
theorem so45 : structOk Try.prog 45 [(0, 1), (1, 1), (2, 1), (3, 1)] = true := by kernel_rfl
@[simp] theorem bl45 (x0 x1 x2 x3 : Operand) (a0 a1 a2 a3 : V) (st : St) (h0 : a0.one = true) (h1 : a1.one = true) (h2 : a2.one = true) (h3 : a3.one = true) : bldK Try.prog 45 [(0, x0), (1, x1), (2, x2), (3, x3)] [a0, a1, a2, a3] [.int .i64 0, .int .i64 0, .int .i64 0, .int .i64 0] st = some (.g [a0, a1, a2, a3], st) := by
  rw [bldK_ok so45, partsK_one rfl h0 (by simp), partsK_one rfl h1 (by simp), partsK_one rfl h2 (by simp), partsK_one rfl h3 (by simp)]; rfl
@[simp] theorem fk45_0 (k : Nat → Nat → Res) : fieldK Try.prog 45 0 k = k 1 0 := by kernel_rfl
@[simp] theorem fk45_1 (k : Nat → Nat → Res) : fieldK Try.prog 45 1 k = k 1 1 := by kernel_rfl
@[simp] theorem fk45_2 (k : Nat → Nat → Res) : fieldK Try.prog 45 2 k = k 1 2 := by kernel_rfl
@[simp] theorem fk45_3 (k : Nat → Nat → Res) : fieldK Try.prog 45 3 k = k 1 3 := by kernel_rfl
@[simp] theorem un31 : Try.prog.underlying 31 = some (.slice 87) := by kernel_rfl
@[simp] theorem ln31 (c : Cx) (st : St) (x : V) : builtinE Try.prog c .len [31] [x] st = lenS st x := len_slice un31 x
@[simp] theorem ix31 {β : Type} (m o len cap i : Nat) (k : V → Option β) : idxE Try.prog 31 (.sl m o len cap) i k = if i < len then k (.p m (o + i * 2)) else none := idxE_sl un31 (fun k => sz87 k) m o len cap i k
@[simp] theorem iy31 {β : Type} (m o len w i : Nat) (k : V → Option β) : idxE Try.prog 31 (.sg m o len w) i k = if i < len then k (.p m (o + i * 2)) else none := idxE_sg un31 (fun k => sz87 k) m o len w i k
@[simp] theorem el31 {β : Type} (k : TypeId → Nat → Option β) : Ev.elemOf Try.prog 31 k = k 87 2 := by kernel_rfl
@[simp] theorem bz33 (st : St) : bldK Try.prog 33 [] [] [.int .i64 0, .int .i64 0, .int .i64 0, .c (.slice none 0 0)] st = some (.g [.int .i64 0, .int .i64 0, .int .i64 0, .c (.slice none 0 0)], st) := by kernel_rfl
theorem so33 : structOk Try.prog 33 [(0, 1), (1, 1), (2, 1), (3, 1)] = true := by kernel_rfl
@[simp] theorem bl33 (x0 x1 x2 x3 : Operand) (a0 a1 a2 a3 : V) (st : St) (h0 : a0.one = true) (h1 : a1.one = true) (h2 : a2.one = true) (h3 : a3.one = true) : bldK Try.prog 33 [(0, x0), (1, x1), (2, x2), (3, x3)] [a0, a1, a2, a3] [.int .i64 0, .int .i64 0, .int .i64 0, .c (.slice none 0 0)] st = some (.g [a0, a1, a2, a3], st) := by
  rw [bldK_ok so33, partsK_one rfl h0 (by simp), partsK_one rfl h1 (by simp), partsK_one rfl h2 (by simp), partsK_one rfl h3 (by simp)]; rfl
@[simp] theorem fk33_0 (k : Nat → Nat → Res) : fieldK Try.prog 33 0 k = k 1 0 := by kernel_rfl
@[simp] theorem fk33_1 (k : Nat → Nat → Res) : fieldK Try.prog 33 1 k = k 1 1 := by kernel_rfl
@[simp] theorem fk33_2 (k : Nat → Nat → Res) : fieldK Try.prog 33 2 k = k 1 2 := by kernel_rfl
@[simp] theorem fk33_3 (k : Nat → Nat → Res) : fieldK Try.prog 33 3 k = k 1 3 := by kernel_rfl
@[simp] theorem bz87 (st : St) : bldK Try.prog 87 [] [] [.int .i64 0, .int .i64 0] st = some (.g [.int .i64 0, .int .i64 0], st) := by kernel_rfl
theorem so87 : structOk Try.prog 87 [(0, 1), (1, 1)] = true := by kernel_rfl
@[simp] theorem bl87 (x0 x1 : Operand) (a0 a1 : V) (st : St) (h0 : a0.one = true) (h1 : a1.one = true) : bldK Try.prog 87 [(0, x0), (1, x1)] [a0, a1] [.int .i64 0, .int .i64 0] st = some (.g [a0, a1], st) := by
  rw [bldK_ok so87, partsK_one rfl h0 (by simp), partsK_one rfl h1 (by simp)]; rfl
@[simp] theorem fk87_0 (k : Nat → Nat → Res) : fieldK Try.prog 87 0 k = k 1 0 := by kernel_rfl
@[simp] theorem fk87_1 (k : Nat → Nat → Res) : fieldK Try.prog 87 1 k = k 1 1 := by kernel_rfl
@[simp] theorem un63 : Try.prog.underlying 63 = some (.slice 3) := by kernel_rfl
@[simp] theorem ln63 (c : Cx) (st : St) (x : V) : builtinE Try.prog c .len [63] [x] st = lenS st x := len_slice un63 x
@[simp] theorem ix63 {β : Type} (m o len cap i : Nat) (k : V → Option β) : idxE Try.prog 63 (.sl m o len cap) i k = if i < len then k (.p m (o + i * 1)) else none := idxE_sl un63 (fun k => sz3 k) m o len cap i k
@[simp] theorem iy63 {β : Type} (m o len w i : Nat) (k : V → Option β) : idxE Try.prog 63 (.sg m o len w) i k = if i < len then k (.p m (o + i * 1)) else none := idxE_sg un63 (fun k => sz3 k) m o len w i k
@[simp] theorem el63 {β : Type} (k : TypeId → Nat → Option β) : Ev.elemOf Try.prog 63 k = k 3 1 := by kernel_rfl
@[simp] theorem un25 : Try.prog.underlying 25 = some (.int .i64) := by kernel_rfl
@[simp] theorem bz49 (st : St) : bldK Try.prog 49 [] [] [.c (.slice none 0 0)] st = some (.g [.c (.slice none 0 0)], st) := by kernel_rfl
theorem so49 : structOk Try.prog 49 [(0, 1)] = true := by kernel_rfl
@[simp] theorem bl49 (x0 : Operand) (a0 : V) (st : St) (h0 : a0.one = true) : bldK Try.prog 49 [(0, x0)] [a0] [.c (.slice none 0 0)] st = some (.g [a0], st) := by
  rw [bldK_ok so49, partsK_one rfl h0 (by simp)]; rfl
@[simp] theorem fk49_0 (k : Nat → Nat → Res) : fieldK Try.prog 49 0 k = k 1 0 := by kernel_rfl
@[simp] theorem un36 : Try.prog.underlying 36 = some (.slice 41) := by kernel_rfl
@[simp] theorem ln36 (c : Cx) (st : St) (x : V) : builtinE Try.prog c .len [36] [x] st = lenS st x := len_slice un36 x
@[simp] theorem ix36 {β : Type} (m o len cap i : Nat) (k : V → Option β) : idxE Try.prog 36 (.sl m o len cap) i k = if i < len then k (.p m (o + i * 2)) else none := idxE_sl un36 (fun k => sz41 k) m o len cap i k
@[simp] theorem iy36 {β : Type} (m o len w i : Nat) (k : V → Option β) : idxE Try.prog 36 (.sg m o len w) i k = if i < len then k (.p m (o + i * 2)) else none := idxE_sg un36 (fun k => sz41 k) m o len w i k
@[simp] theorem el36 {β : Type} (k : TypeId → Nat → Option β) : Ev.elemOf Try.prog 36 k = k 41 2 := by kernel_rfl
@[simp] theorem bz41 (st : St) : bldK Try.prog 41 [] [] [.int .i64 0, .int .u64 0] st = some (.g [.int .i64 0, .int .u64 0], st) := by kernel_rfl
theorem so41 : structOk Try.prog 41 [(0, 1), (1, 1)] = true := by kernel_rfl
@[simp] theorem bl41 (x0 x1 : Operand) (a0 a1 : V) (st : St) (h0 : a0.one = true) (h1 : a1.one = true) : bldK Try.prog 41 [(0, x0), (1, x1)] [a0, a1] [.int .i64 0, .int .u64 0] st = some (.g [a0, a1], st) := by
  rw [bldK_ok so41, partsK_one rfl h0 (by simp), partsK_one rfl h1 (by simp)]; rfl
@[simp] theorem fk41_0 (k : Nat → Nat → Res) : fieldK Try.prog 41 0 k = k 1 0 := by kernel_rfl
@[simp] theorem fk41_1 (k : Nat → Nat → Res) : fieldK Try.prog 41 1 k = k 1 1 := by kernel_rfl
@[simp] theorem un96 : Try.prog.underlying 96 = some (.int .u64) := by kernel_rfl
@[simp] theorem bz91 (st : St) : bldK Try.prog 91 [] [] [.int .i64 0, .int .i64 0] st = some (.g [.int .i64 0, .int .i64 0], st) := by kernel_rfl
theorem so91 : structOk Try.prog 91 [(0, 1), (1, 1)] = true := by kernel_rfl
@[simp] theorem bl91 (x0 x1 : Operand) (a0 a1 : V) (st : St) (h0 : a0.one = true) (h1 : a1.one = true) : bldK Try.prog 91 [(0, x0), (1, x1)] [a0, a1] [.int .i64 0, .int .i64 0] st = some (.g [a0, a1], st) := by
  rw [bldK_ok so91, partsK_one rfl h0 (by simp), partsK_one rfl h1 (by simp)]; rfl
@[simp] theorem fk91_0 (k : Nat → Nat → Res) : fieldK Try.prog 91 0 k = k 1 0 := by kernel_rfl
@[simp] theorem fk91_1 (k : Nat → Nat → Res) : fieldK Try.prog 91 1 k = k 1 1 := by kernel_rfl
@[simp] theorem bz93 (st : St) : bldK Try.prog 93 [] [] [.int .i64 0, .int .i64 0, .int .i64 0, .int .i64 0, .int .i64 0, .int .i64 0, .int .i64 0, .int .i64 0, .int .i64 0, .int .i64 0] st = some (.g [.int .i64 0, .int .i64 0, .int .i64 0, .int .i64 0, .int .i64 0, .int .i64 0, .int .i64 0, .int .i64 0, .int .i64 0, .int .i64 0], st) := by kernel_rfl
theorem so93 : structOk Try.prog 93 [(0, 2), (2, 2), (4, 2), (6, 2), (8, 2)] = true := by kernel_rfl
@[simp] theorem fk93_0 (k : Nat → Nat → Res) : fieldK Try.prog 93 0 k = k 2 0 := by kernel_rfl
@[simp] theorem fk93_1 (k : Nat → Nat → Res) : fieldK Try.prog 93 1 k = k 2 2 := by kernel_rfl
@[simp] theorem fk93_2 (k : Nat → Nat → Res) : fieldK Try.prog 93 2 k = k 2 4 := by kernel_rfl
@[simp] theorem fk93_3 (k : Nat → Nat → Res) : fieldK Try.prog 93 3 k = k 2 6 := by kernel_rfl
@[simp] theorem fk93_4 (k : Nat → Nat → Res) : fieldK Try.prog 93 4 k = k 2 8 := by kernel_rfl
@[simp] theorem bz112 (st : St) : bldK Try.prog 112 [] [] [.int .i64 0, .int .i64 0, .int .i64 0, .int .i64 0, .c (.slice none 0 0)] st = some (.g [.int .i64 0, .int .i64 0, .int .i64 0, .int .i64 0, .c (.slice none 0 0)], st) := by kernel_rfl
theorem so112 : structOk Try.prog 112 [(0, 4), (4, 1)] = true := by kernel_rfl
@[simp] theorem fk112_0 (k : Nat → Nat → Res) : fieldK Try.prog 112 0 k = k 4 0 := by kernel_rfl
@[simp] theorem fk112_1 (k : Nat → Nat → Res) : fieldK Try.prog 112 1 k = k 1 4 := by kernel_rfl
@[simp] theorem un139 : Try.prog.underlying 139 = some (.int .u32) := by kernel_rfl
end Go.Proofs.Ytcjddojcfdeflaa

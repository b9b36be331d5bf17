/-
  PLAIN: what the program's own tables say, as rules for rewriting.
-/
import Derived.Test.YtdoennkmcloalaaChecked
import Derived.Test.YtdoennkmcloalaaTyGeoA
namespace Go.Proofs.Ytdoennkmcloalaa
open Go.RowKit Ev
-- lintel/lintellaw12.PoolGroups
@[simp] theorem nt10 : Try.f10.ntmps = 109 := rfl
@[simp] theorem rs10 : Try.f10.results.toList = [.tmp 4] := rfl
@[simp] theorem xt10 : ext? Try.prog 10 = none := by kernel_rfl
-- lintel/lintellaw12.PoolBack
@[simp] theorem nt11 : Try.f11.ntmps = 90 := rfl
@[simp] theorem rs11 : Try.f11.results.toList = [.tmp 2] := rfl
@[simp] theorem xt11 : ext? Try.prog 11 = none := by kernel_rfl
-- lintel/runs.Merge
@[simp] theorem nt59 : Try.f59.ntmps = 51 := rfl
@[simp] theorem rs59 : Try.f59.results.toList = [.tmp 2] := rfl
@[simp] theorem xt59 : ext? Try.prog 59 = none := by kernel_rfl
-- lintel/runs.Apart
@[simp] theorem nt60 : Try.f60.ntmps = 34 := rfl
@[simp] theorem rs60 : Try.f60.results.toList = [.tmp 2] := rfl
@[simp] theorem xt60 : ext? Try.prog 60 = none := by kernel_rfl
-- lintel/runs.Total
@[simp] theorem nt63 : Try.f63.ntmps = 19 := rfl
@[simp] theorem rs63 : Try.f63.results.toList = [.tmp 2] := rfl
@[simp] theorem xt63 : ext? Try.prog 63 = none := by kernel_rfl
-- lintel/lintellaw12.awake
@[simp] theorem nt64 : Try.f64.ntmps = 42 := rfl
@[simp] theorem rs64 : Try.f64.results.toList = [.tmp 0] := rfl
@[simp] theorem xt64 : ext? Try.prog 64 = none := by kernel_rfl
-- lintel/geom.Good
-- lintel/pool.New
@[simp] theorem nt66 : Try.f66.ntmps = 25 := rfl
@[simp] theorem rs66 : Try.f66.results.toList = [.tmp 4, .tmp 5] := rfl
@[simp] theorem xt66 : ext? Try.prog 66 = none := by kernel_rfl
-- lintel/lintellaw12.empty
@[simp] theorem nt67 : Try.f67.ntmps = 36 := rfl
@[simp] theorem rs67 : Try.f67.results.toList = [.cell 2 90] := rfl
@[simp] theorem xt67 : ext? Try.prog 67 = none := by kernel_rfl
-- lintel/geom.Data
-- (*lintel/pool.Pool).Take
@[simp] theorem nt69 : Try.f69.ntmps = 58 := rfl
@[simp] theorem rs69 : Try.f69.results.toList = [.tmp 8, .tmp 9] := rfl
@[simp] theorem xt69 : ext? Try.prog 69 = none := by kernel_rfl
-- lintel/bits.Has
@[simp] theorem nt76 : Try.f76.ntmps = 21 := rfl
@[simp] theorem rs76 : Try.f76.results.toList = [.tmp 4] := rfl
@[simp] theorem xt76 : ext? Try.prog 76 = none := by kernel_rfl
-- lintel/bits.Set
@[simp] theorem nt77 : Try.f77.ntmps = 49 := rfl
@[simp] theorem rs77 : Try.f77.results.toList = [.cell 6 90] := rfl
@[simp] theorem xt77 : ext? Try.prog 77 = none := by kernel_rfl
-- (*lintel/pool.Pool).Give
@[simp] theorem nt78 : Try.f78.ntmps = 67 := rfl
@[simp] theorem rs78 : Try.f78.results.toList = [.tmp 4] := rfl
@[simp] theorem xt78 : ext? Try.prog 78 = none := by kernel_rfl
-- (*lintel/pool.Pool).Free
@[simp] theorem nt79 : Try.f79.ntmps = 6 := rfl
@[simp] theorem rs79 : Try.f79.results.toList = [.tmp 2] := rfl
@[simp] theorem xt79 : ext? Try.prog 79 = none := by kernel_rfl
-- (*lintel/pool.Pool).Bits
@[simp] theorem nt80 : Try.f80.ntmps = 8 := rfl
@[simp] theorem rs80 : Try.f80.results.toList = [.cell 2 90] := rfl
@[simp] theorem xt80 : ext? Try.prog 80 = none := by kernel_rfl
-- lintel/bits.Count
@[simp] theorem nt81 : Try.f81.ntmps = 19 := rfl
@[simp] theorem rs81 : Try.f81.results.toList = [.tmp 2] := rfl
@[simp] theorem xt81 : ext? Try.prog 81 = none := by kernel_rfl
-- (*lintel/pool.Pool).Group
@[simp] theorem nt82 : Try.f82.ntmps = 53 := rfl
@[simp] theorem rs82 : Try.f82.results.toList = [.tmp 4, .tmp 5] := rfl
@[simp] theorem xt82 : ext? Try.prog 82 = none := by kernel_rfl
-- lintel/geom.Plain
-- lintel/runs.counted
@[simp] theorem nt138 : Try.f138.ntmps = 36 := rfl
@[simp] theorem rs138 : Try.f138.results.toList = [.tmp 2] := rfl
@[simp] theorem xt138 : ext? Try.prog 138 = none := by kernel_rfl
-- slices.SortFunc[[]lintel/node.Run,lintel/node.Run]
@[simp] theorem nt139 : Try.f139.ntmps = 14 := rfl
@[simp] theorem rs139 : Try.f139.results.toList = [] := rfl
@[simp] theorem xt139 : ext? Try.prog 139 = none := by kernel_rfl
-- lintel/geom.between
-- lintel/geom.lay
-- lintel/pool.copied
@[simp] theorem nt144 : Try.f144.ntmps = 7 := rfl
@[simp] theorem rs144 : Try.f144.results.toList = [.cell 2 90] := rfl
@[simp] theorem xt144 : ext? Try.prog 144 = none := by kernel_rfl
-- lintel/bits.New
@[simp] theorem nt145 : Try.f145.ntmps = 12 := rfl
@[simp] theorem rs145 : Try.f145.results.toList = [.cell 2 90] := rfl
@[simp] theorem xt145 : ext? Try.prog 145 = none := by kernel_rfl
-- lintel/geom.whole
-- (*lintel/pool.Pool).one
@[simp] theorem nt147 : Try.f147.ntmps = 56 := rfl
@[simp] theorem rs147 : Try.f147.results.toList = [.tmp 6] := rfl
@[simp] theorem xt147 : ext? Try.prog 147 = none := by kernel_rfl
-- (*lintel/pool.Pool).fewest
@[simp] theorem nt148 : Try.f148.ntmps = 17 := rfl
@[simp] theorem rs148 : Try.f148.results.toList = [.tmp 4] := rfl
@[simp] theorem xt148 : ext? Try.prog 148 = none := by kernel_rfl
-- (*lintel/pool.Pool).mark
@[simp] theorem nt149 : Try.f149.ntmps = 40 := rfl
@[simp] theorem rs149 : Try.f149.results.toList = [] := rfl
@[simp] theorem xt149 : ext? Try.prog 149 = none := by kernel_rfl
-- lintel/bits.there
@[simp] theorem nt151 : Try.f151.ntmps = 15 := rfl
@[simp] theorem rs151 : Try.f151.results.toList = [.tmp 4] := rfl
@[simp] theorem xt151 : ext? Try.prog 151 = none := by kernel_rfl
-- slices.Clone[[]uint64,uint64]
@[simp] theorem nt152 : Try.f152.ntmps = 8 := rfl
@[simp] theorem rs152 : Try.f152.results.toList = [.tmp 2] := rfl
@[simp] theorem xt152 : ext? Try.prog 152 = none := by kernel_rfl
-- (*lintel/pool.Pool).data
@[simp] theorem nt153 : Try.f153.ntmps = 17 := rfl
@[simp] theorem rs153 : Try.f153.results.toList = [.tmp 2, .tmp 3] := rfl
@[simp] theorem xt153 : ext? Try.prog 153 = none := by kernel_rfl
-- lintel/bits.Next
@[simp] theorem nt154 : Try.f154.ntmps = 30 := rfl
@[simp] theorem rs154 : Try.f154.results.toList = [.tmp 8, .tmp 9] := rfl
@[simp] theorem xt154 : ext? Try.prog 154 = none := by kernel_rfl
-- (*lintel/pool.Pool).gaps
@[simp] theorem nt155 : Try.f155.ntmps = 47 := rfl
@[simp] theorem rs155 : Try.f155.results.toList = [.tmp 2] := rfl
@[simp] theorem xt155 : ext? Try.prog 155 = none := by kernel_rfl
-- math/bits.OnesCount64
@[simp] theorem nt156 : Try.f156.ntmps = 35 := rfl
@[simp] theorem rs156 : Try.f156.results.toList = [.tmp 2] := rfl
@[simp] theorem xt156 : ext? Try.prog 156 = none := by kernel_rfl
-- slices.pdqsortCmpFunc[lintel/node.Run]
@[simp] theorem nt186 : Try.f186.ntmps = 148 := rfl
@[simp] theorem rs186 : Try.f186.results.toList = [] := rfl
@[simp] theorem xt186 : ext? Try.prog 186 = none := by kernel_rfl
-- math/bits.Len
@[simp] theorem nt187 : Try.f187.ntmps = 8 := rfl
@[simp] theorem rs187 : Try.f187.results.toList = [.tmp 2] := rfl
@[simp] theorem xt187 : ext? Try.prog 187 = none := by kernel_rfl
-- (lintel/geom.part).end
-- lintel/bits.Free
@[simp] theorem nt190 : Try.f190.ntmps = 39 := rfl
@[simp] theorem rs190 : Try.f190.results.toList = [.tmp 8, .tmp 9] := rfl
@[simp] theorem xt190 : ext? Try.prog 190 = none := by kernel_rfl
-- slices.SortStableFunc[[]lintel/node.Run,lintel/node.Run]
@[simp] theorem nt191 : Try.f191.ntmps = 9 := rfl
@[simp] theorem rs191 : Try.f191.results.toList = [] := rfl
@[simp] theorem xt191 : ext? Try.prog 191 = none := by kernel_rfl
-- lintel/runs.Cut
@[simp] theorem nt193 : Try.f193.ntmps = 18 := rfl
@[simp] theorem rs193 : Try.f193.results.toList = [.tmp 4, .tmp 5] := rfl
@[simp] theorem xt193 : ext? Try.prog 193 = none := by kernel_rfl
-- lintel/bits.within
@[simp] theorem nt194 : Try.f194.ntmps = 16 := rfl
@[simp] theorem rs194 : Try.f194.results.toList = [.tmp 6, .tmp 7] := rfl
@[simp] theorem xt194 : ext? Try.prog 194 = none := by kernel_rfl
-- slices.insertionSortCmpFunc[lintel/node.Run]
@[simp] theorem nt220 : Try.f220.ntmps = 53 := rfl
@[simp] theorem rs220 : Try.f220.results.toList = [] := rfl
@[simp] theorem xt220 : ext? Try.prog 220 = none := by kernel_rfl
-- slices.heapSortCmpFunc[lintel/node.Run]
@[simp] theorem nt221 : Try.f221.ntmps = 60 := rfl
@[simp] theorem rs221 : Try.f221.results.toList = [] := rfl
@[simp] theorem xt221 : ext? Try.prog 221 = none := by kernel_rfl
-- slices.breakPatternsCmpFunc[lintel/node.Run]
@[simp] theorem nt222 : Try.f222.ntmps = 67 := rfl
@[simp] theorem rs222 : Try.f222.results.toList = [] := rfl
@[simp] theorem xt222 : ext? Try.prog 222 = none := by kernel_rfl
-- slices.choosePivotCmpFunc[lintel/node.Run]
@[simp] theorem nt223 : Try.f223.ntmps = 63 := rfl
@[simp] theorem rs223 : Try.f223.results.toList = [.tmp 8, .tmp 9] := rfl
@[simp] theorem xt223 : ext? Try.prog 223 = none := by kernel_rfl
-- slices.reverseRangeCmpFunc[lintel/node.Run]
@[simp] theorem nt224 : Try.f224.ntmps = 34 := rfl
@[simp] theorem rs224 : Try.f224.results.toList = [] := rfl
@[simp] theorem xt224 : ext? Try.prog 224 = none := by kernel_rfl
-- slices.partialInsertionSortCmpFunc[lintel/node.Run]
@[simp] theorem nt225 : Try.f225.ntmps = 141 := rfl
@[simp] theorem rs225 : Try.f225.results.toList = [.tmp 8] := rfl
@[simp] theorem xt225 : ext? Try.prog 225 = none := by kernel_rfl
-- slices.partitionEqualCmpFunc[lintel/node.Run]
@[simp] theorem nt226 : Try.f226.ntmps = 90 := rfl
@[simp] theorem rs226 : Try.f226.results.toList = [.tmp 10] := rfl
@[simp] theorem xt226 : ext? Try.prog 226 = none := by kernel_rfl
-- slices.partitionCmpFunc[lintel/node.Run]
@[simp] theorem nt227 : Try.f227.ntmps = 178 := rfl
@[simp] theorem rs227 : Try.f227.results.toList = [.tmp 10, .tmp 11] := rfl
@[simp] theorem xt227 : ext? Try.prog 227 = none := by kernel_rfl
-- math/bits.Len32
@[simp] theorem nt228 : Try.f228.ntmps = 19 := rfl
@[simp] theorem rs228 : Try.f228.results.toList = [.tmp 2] := rfl
@[simp] theorem xt228 : ext? Try.prog 228 = none := by kernel_rfl
-- math/bits.Len64
@[simp] theorem nt229 : Try.f229.ntmps = 25 := rfl
@[simp] theorem rs229 : Try.f229.results.toList = [.tmp 2] := rfl
@[simp] theorem xt229 : ext? Try.prog 229 = none := by kernel_rfl
-- slices.stableCmpFunc[lintel/node.Run]
@[simp] theorem nt230 : Try.f230.ntmps = 63 := rfl
@[simp] theorem rs230 : Try.f230.results.toList = [] := rfl
@[simp] theorem xt230 : ext? Try.prog 230 = none := by kernel_rfl
-- lintel/runs.Split
@[simp] theorem nt231 : Try.f231.ntmps = 52 := rfl
@[simp] theorem rs231 : Try.f231.results.toList = [.tmp 4, .tmp 5] := rfl
@[simp] theorem xt231 : ext? Try.prog 231 = none := by kernel_rfl
-- slices.siftDownCmpFunc[lintel/node.Run]
@[simp] theorem nt247 : Try.f247.ntmps = 82 := rfl
@[simp] theorem rs247 : Try.f247.results.toList = [] := rfl
@[simp] theorem xt247 : ext? Try.prog 247 = none := by kernel_rfl
-- slices.nextPowerOfTwo
@[simp] theorem nt248 : Try.f248.ntmps = 7 := rfl
@[simp] theorem rs248 : Try.f248.results.toList = [.tmp 2] := rfl
@[simp] theorem xt248 : ext? Try.prog 248 = none := by kernel_rfl
-- (*slices.xorshift).Next
@[simp] theorem nt249 : Try.f249.ntmps = 33 := rfl
@[simp] theorem rs249 : Try.f249.results.toList = [.tmp 2] := rfl
@[simp] theorem xt249 : ext? Try.prog 249 = none := by kernel_rfl
-- slices.medianAdjacentCmpFunc[lintel/node.Run]
@[simp] theorem nt250 : Try.f250.ntmps = 18 := rfl
@[simp] theorem rs250 : Try.f250.results.toList = [.tmp 8] := rfl
@[simp] theorem xt250 : ext? Try.prog 250 = none := by kernel_rfl
-- slices.medianCmpFunc[lintel/node.Run]
@[simp] theorem nt251 : Try.f251.ntmps = 41 := rfl
@[simp] theorem rs251 : Try.f251.results.toList = [.tmp 12] := rfl
@[simp] theorem xt251 : ext? Try.prog 251 = none := by kernel_rfl
-- slices.symMergeCmpFunc[lintel/node.Run]
@[simp] theorem nt252 : Try.f252.ntmps = 220 := rfl
@[simp] theorem rs252 : Try.f252.results.toList = [] := rfl
@[simp] theorem xt252 : ext? Try.prog 252 = none := by kernel_rfl
-- slices.order2CmpFunc[lintel/node.Run]
@[simp] theorem nt258 : Try.f258.ntmps = 32 := rfl
@[simp] theorem rs258 : Try.f258.results.toList = [.tmp 10, .tmp 11] := rfl
@[simp] theorem xt258 : ext? Try.prog 258 = none := by kernel_rfl
-- slices.rotateCmpFunc[lintel/node.Run]
@[simp] theorem nt259 : Try.f259.ntmps = 58 := rfl
@[simp] theorem rs259 : Try.f259.results.toList = [] := rfl
@[simp] theorem xt259 : ext? Try.prog 259 = none := by kernel_rfl
-- slices.swapRangeCmpFunc[lintel/node.Run]
@[simp] theorem nt262 : Try.f262.ntmps = 38 := rfl
@[simp] theorem rs262 : Try.f262.results.toList = [] := rfl
@[simp] theorem xt262 : ext? Try.prog 262 = none := by kernel_rfl
@[simp] theorem ag5 : agg? Try.prog 5 = some false := by kernel_rfl
@[simp] theorem sz5 {β : Type} (k : Nat → Option β) : szOf Try.prog 5 k = k 1 := by kernel_rfl
@[simp] theorem ze5 {β : Type} (k : List V → Option β) : zero Try.prog 5 k = k [.int .u8 0] := by kernel_rfl
theorem io5 : infoOk Try.prog 5 1 = true := by kernel_rfl
@[simp] theorem ag9 : agg? Try.prog 9 = some false := by kernel_rfl
@[simp] theorem sz9 {β : Type} (k : Nat → Option β) : szOf Try.prog 9 k = k 1 := by kernel_rfl
@[simp] theorem ze9 {β : Type} (k : List V → Option β) : zero Try.prog 9 k = k [.s []] := by kernel_rfl
theorem io9 : infoOk Try.prog 9 1 = true := by kernel_rfl
@[simp] theorem ag23 : agg? Try.prog 23 = some false := by kernel_rfl
@[simp] theorem sz23 {β : Type} (k : Nat → Option β) : szOf Try.prog 23 k = k 1 := by kernel_rfl
@[simp] theorem ze23 {β : Type} (k : List V → Option β) : zero Try.prog 23 k = k [.c (.slice none 0 0)] := by kernel_rfl
theorem io23 : infoOk Try.prog 23 1 = true := by kernel_rfl
@[simp] theorem ag24 : agg? Try.prog 24 = some false := by kernel_rfl
@[simp] theorem sz24 {β : Type} (k : Nat → Option β) : szOf Try.prog 24 k = k 1 := by kernel_rfl
@[simp] theorem ze24 {β : Type} (k : List V → Option β) : zero Try.prog 24 k = k [.int .u64 0] := by kernel_rfl
theorem io24 : infoOk Try.prog 24 1 = true := by kernel_rfl
@[simp] theorem ag39 : agg? Try.prog 39 = some false := by kernel_rfl
@[simp] theorem sz39 {β : Type} (k : Nat → Option β) : szOf Try.prog 39 k = k 1 := by kernel_rfl
@[simp] theorem ze39 {β : Type} (k : List V → Option β) : zero Try.prog 39 k = k [.c (.slice none 0 0)] := by kernel_rfl
theorem io39 : infoOk Try.prog 39 1 = true := by kernel_rfl
@[simp] theorem ag47 : agg? Try.prog 47 = some true := by kernel_rfl
@[simp] theorem sz47 {β : Type} (k : Nat → Option β) : szOf Try.prog 47 k = k 2 := by kernel_rfl
@[simp] theorem ze47 {β : Type} (k : List V → Option β) : zero Try.prog 47 k = k [.int .i64 0, .int .i64 0] := by kernel_rfl
theorem io47 : infoOk Try.prog 47 2 = true := by kernel_rfl
@[simp] theorem ag76 : agg? Try.prog 76 = some false := by kernel_rfl
@[simp] theorem sz76 {β : Type} (k : Nat → Option β) : szOf Try.prog 76 k = k 1 := by kernel_rfl
@[simp] theorem ze76 {β : Type} (k : List V → Option β) : zero Try.prog 76 k = k [.c (.slice none 0 0)] := by kernel_rfl
theorem io76 : infoOk Try.prog 76 1 = true := by kernel_rfl
@[simp] theorem ag85 : agg? Try.prog 85 = some false := by kernel_rfl
@[simp] theorem sz85 {β : Type} (k : Nat → Option β) : szOf Try.prog 85 k = k 1 := by kernel_rfl
@[simp] theorem ze85 {β : Type} (k : List V → Option β) : zero Try.prog 85 k = k [.c (.pointer none)] := by kernel_rfl
theorem io85 : infoOk Try.prog 85 1 = true := by kernel_rfl
@[simp] theorem ag86 : agg? Try.prog 86 = some false := by kernel_rfl
@[simp] theorem sz86 {β : Type} (k : Nat → Option β) : szOf Try.prog 86 k = k 1 := by kernel_rfl
@[simp] theorem ze86 {β : Type} (k : List V → Option β) : zero Try.prog 86 k = k [.int .i64 0] := by kernel_rfl
theorem io86 : infoOk Try.prog 86 1 = true := by kernel_rfl
@[simp] theorem ag90 : agg? Try.prog 90 = some true := by kernel_rfl
@[simp] theorem sz90 {β : Type} (k : Nat → Option β) : szOf Try.prog 90 k = k 1 := by kernel_rfl
@[simp] theorem ze90 {β : Type} (k : List V → Option β) : zero Try.prog 90 k = k [.c (.slice none 0 0)] := by kernel_rfl
theorem io90 : infoOk Try.prog 90 1 = true := by kernel_rfl
@[simp] theorem ag179 : agg? Try.prog 179 = some false := by kernel_rfl
@[simp] theorem sz179 {β : Type} (k : Nat → Option β) : szOf Try.prog 179 k = k 1 := by kernel_rfl
@[simp] theorem ze179 {β : Type} (k : List V → Option β) : zero Try.prog 179 k = k [.int .u64 0] := by kernel_rfl
theorem io179 : infoOk Try.prog 179 1 = true := by kernel_rfl
@[simp] theorem ag196 : agg? Try.prog 196 = some false := by kernel_rfl
@[simp] theorem sz196 {β : Type} (k : Nat → Option β) : szOf Try.prog 196 k = k 1 := by kernel_rfl
@[simp] theorem ze196 {β : Type} (k : List V → Option β) : zero Try.prog 196 k = k [.c .nilFunc] := by kernel_rfl
theorem io196 : infoOk Try.prog 196 1 = true := by kernel_rfl
@[simp] theorem ag204 : agg? Try.prog 204 = some true := by kernel_rfl
@[simp] theorem sz204 {β : Type} (k : Nat → Option β) : szOf Try.prog 204 k = k 5 := by kernel_rfl
@[simp] theorem ze204 {β : Type} (k : List V → Option β) : zero Try.prog 204 k = k [.int .i64 0, .int .i64 0, .int .i64 0, .int .i64 0, .c (.slice none 0 0)] := by kernel_rfl
theorem io204 : infoOk Try.prog 204 5 = true := by kernel_rfl
@[simp] theorem ag285 : agg? Try.prog 285 = some false := by kernel_rfl
@[simp] theorem sz285 {β : Type} (k : Nat → Option β) : szOf Try.prog 285 k = k 1 := by kernel_rfl
@[simp] theorem ze285 {β : Type} (k : List V → Option β) : zero Try.prog 285 k = k [.int .i64 0] := by kernel_rfl
theorem io285 : infoOk Try.prog 285 1 = true := by kernel_rfl
@[simp] theorem ag292 : agg? Try.prog 292 = some false := by kernel_rfl
@[simp] theorem sz292 {β : Type} (k : Nat → Option β) : szOf Try.prog 292 k = k 1 := by kernel_rfl
@[simp] theorem ze292 {β : Type} (k : List V → Option β) : zero Try.prog 292 k = k [.int .u32 0] := by kernel_rfl
theorem io292 : infoOk Try.prog 292 1 = true := by kernel_rfl
@[simp] theorem ag304 : agg? Try.prog 304 = some false := by kernel_rfl
@[simp] theorem sz304 {β : Type} (k : Nat → Option β) : szOf Try.prog 304 k = k 1 := by kernel_rfl
@[simp] theorem ze304 {β : Type} (k : List V → Option β) : zero Try.prog 304 k = k [.int .u64 0] := by kernel_rfl
theorem io304 : infoOk Try.prog 304 1 = true := by kernel_rfl
@[simp] theorem ag307 : agg? Try.prog 307 = some false := by kernel_rfl
@[simp] theorem sz307 {β : Type} (k : Nat → Option β) : szOf Try.prog 307 k = k 1 := by kernel_rfl
@[simp] theorem ze307 {β : Type} (k : List V → Option β) : zero Try.prog 307 k = k [.c (.pointer none)] := by kernel_rfl
theorem io307 : infoOk Try.prog 307 1 = true := by kernel_rfl
@[simp] theorem ag311 : agg? Try.prog 311 = some false := by kernel_rfl
@[simp] theorem sz311 {β : Type} (k : Nat → Option β) : szOf Try.prog 311 k = k 1 := by kernel_rfl
@[simp] theorem ze311 {β : Type} (k : List V → Option β) : zero Try.prog 311 k = k [.c (.pointer none)] := by kernel_rfl
theorem io311 : infoOk Try.prog 311 1 = true := by kernel_rfl
@[simp] theorem un5 : Try.prog.underlying 5 = some (.int .u8) := by kernel_rfl
@[simp] theorem un9 : Try.prog.underlying 9 = some .string := by kernel_rfl
@[simp] theorem un23 : Try.prog.underlying 23 = some (.slice 24) := by kernel_rfl
@[simp] theorem ln23 (c : Cx) (st : St) (x : V) : builtinE Try.prog c .len [23] [x] st = lenS st x := len_slice un23 x
@[simp] theorem ix23 {β : Type} (m o len cap i : Nat) (k : V → Option β) : idxE Try.prog 23 (.sl m o len cap) i k = if i < len then k (.p m (o + i * 1)) else none := idxE_sl un23 (fun k => sz24 k) m o len cap i k
@[simp] theorem iy23 {β : Type} (m o len w i : Nat) (k : V → Option β) : idxE Try.prog 23 (.sg m o len w) i k = if i < len then k (.p m (o + i * 1)) else none := idxE_sg un23 (fun k => sz24 k) m o len w i k
@[simp] theorem el23 {β : Type} (k : TypeId → Nat → Option β) : Ev.elemOf Try.prog 23 k = k 24 1 := by kernel_rfl
@[simp] theorem un24 : Try.prog.underlying 24 = some (.int .u64) := by kernel_rfl
@[simp] theorem un39 : Try.prog.underlying 39 = some (.slice 47) := by kernel_rfl
@[simp] theorem ln39 (c : Cx) (st : St) (x : V) : builtinE Try.prog c .len [39] [x] st = lenS st x := len_slice un39 x
@[simp] theorem ix39 {β : Type} (m o len cap i : Nat) (k : V → Option β) : idxE Try.prog 39 (.sl m o len cap) i k = if i < len then k (.p m (o + i * 2)) else none := idxE_sl un39 (fun k => sz47 k) m o len cap i k
@[simp] theorem iy39 {β : Type} (m o len w i : Nat) (k : V → Option β) : idxE Try.prog 39 (.sg m o len w) i k = if i < len then k (.p m (o + i * 2)) else none := idxE_sg un39 (fun k => sz47 k) m o len w i k
@[simp] theorem el39 {β : Type} (k : TypeId → Nat → Option β) : Ev.elemOf Try.prog 39 k = k 47 2 := by kernel_rfl
@[simp] theorem bz47 (st : St) : bldK Try.prog 47 [] [] [.int .i64 0, .int .i64 0] st = some (.g [.int .i64 0, .int .i64 0], st) := by kernel_rfl
theorem so47 : structOk Try.prog 47 [(0, 1), (1, 1)] = true := by kernel_rfl
@[simp] theorem bl47 (x0 x1 : Operand) (a0 a1 : V) (st : St) (h0 : a0.one = true) (h1 : a1.one = true) : bldK Try.prog 47 [(0, x0), (1, x1)] [a0, a1] [.int .i64 0, .int .i64 0] st = some (.g [a0, a1], st) := by
  rw [bldK_ok so47, partsK_one rfl h0 (by simp), partsK_one rfl h1 (by simp)]; rfl
@[simp] theorem fk47_0 (k : Nat → Nat → Res) : fieldK Try.prog 47 0 k = k 1 0 := by kernel_rfl
@[simp] theorem fk47_1 (k : Nat → Nat → Res) : fieldK Try.prog 47 1 k = k 1 1 := by kernel_rfl
@[simp] theorem un76 : Try.prog.underlying 76 = some (.slice 3) := by kernel_rfl
@[simp] theorem ln76 (c : Cx) (st : St) (x : V) : builtinE Try.prog c .len [76] [x] st = lenS st x := len_slice un76 x
@[simp] theorem ix76 {β : Type} (m o len cap i : Nat) (k : V → Option β) : idxE Try.prog 76 (.sl m o len cap) i k = if i < len then k (.p m (o + i * 1)) else none := idxE_sl un76 (fun k => sz3 k) m o len cap i k
@[simp] theorem iy76 {β : Type} (m o len w i : Nat) (k : V → Option β) : idxE Try.prog 76 (.sg m o len w) i k = if i < len then k (.p m (o + i * 1)) else none := idxE_sg un76 (fun k => sz3 k) m o len w i k
@[simp] theorem el76 {β : Type} (k : TypeId → Nat → Option β) : Ev.elemOf Try.prog 76 k = k 3 1 := by kernel_rfl
@[simp] theorem un86 : Try.prog.underlying 86 = some (.int .i64) := by kernel_rfl
@[simp] theorem bz90 (st : St) : bldK Try.prog 90 [] [] [.c (.slice none 0 0)] st = some (.g [.c (.slice none 0 0)], st) := by kernel_rfl
theorem so90 : structOk Try.prog 90 [(0, 1)] = true := by kernel_rfl
@[simp] theorem bl90 (x0 : Operand) (a0 : V) (st : St) (h0 : a0.one = true) : bldK Try.prog 90 [(0, x0)] [a0] [.c (.slice none 0 0)] st = some (.g [a0], st) := by
  rw [bldK_ok so90, partsK_one rfl h0 (by simp)]; rfl
@[simp] theorem fk90_0 (k : Nat → Nat → Res) : fieldK Try.prog 90 0 k = k 1 0 := by kernel_rfl
@[simp] theorem un179 : Try.prog.underlying 179 = some (.int .u64) := by kernel_rfl
@[simp] theorem bz204 (st : St) : bldK Try.prog 204 [] [] [.int .i64 0, .int .i64 0, .int .i64 0, .int .i64 0, .c (.slice none 0 0)] st = some (.g [.int .i64 0, .int .i64 0, .int .i64 0, .int .i64 0, .c (.slice none 0 0)], st) := by kernel_rfl
theorem so204 : structOk Try.prog 204 [(0, 4), (4, 1)] = true := by kernel_rfl
@[simp] theorem fk204_0 (k : Nat → Nat → Res) : fieldK Try.prog 204 0 k = k 4 0 := by kernel_rfl
@[simp] theorem fk204_1 (k : Nat → Nat → Res) : fieldK Try.prog 204 1 k = k 1 4 := by kernel_rfl
@[simp] theorem un285 : Try.prog.underlying 285 = some (.int .i64) := by kernel_rfl
@[simp] theorem un292 : Try.prog.underlying 292 = some (.int .u32) := by kernel_rfl
@[simp] theorem un304 : Try.prog.underlying 304 = some (.int .u64) := by kernel_rfl
end Go.Proofs.Ytdoennkmcloalaa

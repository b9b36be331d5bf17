/-
  PLAIN: what the program's own tables say, as rules for rewriting.
-/
import Derived.Test.YtgcpgidofikcdaaGreatDoorChecked
import Derived.Test.YtgcpgidofikcdaaGreatDoorSb
namespace Go.Proofs.YtgcpgidofikcdaaGreatDoor
open Go.RowKit Ev
-- lintel/lintellaw1.WordSays
@[simp] theorem nt247 : Tryz.f247.ntmps = 25 := rfl
@[simp] theorem rs247 : Tryz.f247.results.toList = [.tmp 4] := rfl
@[simp] theorem xt247 : ext? Tryz.prog 247 = none := by kernel_rfl
-- lintel/lintellaw8.awake
@[simp] theorem nt154 : Tryz.f154.ntmps = 55 := rfl
@[simp] theorem rs154 : Tryz.f154.results.toList = [.cell 2 138, .tmp 3] := rfl
@[simp] theorem xt154 : ext? Tryz.prog 154 = none := by kernel_rfl
-- lintel/lintelref6.GetNode
@[simp] theorem nt155 : Tryz.f155.ntmps = 38 := rfl
@[simp] theorem rs155 : Tryz.f155.results.toList = [.tmp 4] := rfl
@[simp] theorem xt155 : ext? Tryz.prog 155 = none := by kernel_rfl
-- lintel/lintelref6.GoodNode
@[simp] theorem nt79 : Tryz.f79.ntmps = 56 := rfl
@[simp] theorem rs79 : Tryz.f79.results.toList = [.tmp 2] := rfl
@[simp] theorem xt79 : ext? Tryz.prog 79 = none := by kernel_rfl
-- lintel/lintelref6.PutNode
@[simp] theorem nt91 : Tryz.f91.ntmps = 113 := rfl
@[simp] theorem rs91 : Tryz.f91.results.toList = [.tmp 2] := rfl
@[simp] theorem xt91 : ext? Tryz.prog 91 = none := by kernel_rfl
-- lintel/lintellaw8.nodes
@[simp] theorem nt203 : Tryz.f203.ntmps = 19 := rfl
@[simp] theorem rs203 : Tryz.f203.results.toList = [.tmp 2] := rfl
@[simp] theorem xt203 : ext? Tryz.prog 203 = none := by kernel_rfl
-- lintel/lintelref6.Blocks
@[simp] theorem nt204 : Tryz.f204.ntmps = 26 := rfl
@[simp] theorem rs204 : Tryz.f204.results.toList = [.tmp 2] := rfl
@[simp] theorem xt204 : ext? Tryz.prog 204 = none := by kernel_rfl
-- lintel/lintelref6.Needs
@[simp] theorem nt205 : Tryz.f205.ntmps = 55 := rfl
@[simp] theorem rs205 : Tryz.f205.results.toList = [.cell 2 229, .tmp 3] := rfl
@[simp] theorem xt205 : ext? Tryz.prog 205 = none := by kernel_rfl
-- lintel/lintelref6.GetSlot
@[simp] theorem nt277 : Tryz.f277.ntmps = 40 := rfl
@[simp] theorem rs277 : Tryz.f277.results.toList = [.tmp 2] := rfl
@[simp] theorem xt277 : ext? Tryz.prog 277 = none := by kernel_rfl
-- lintel/lintelref6.GoodSlot
@[simp] theorem nt249 : Tryz.f249.ntmps = 54 := rfl
@[simp] theorem rs249 : Tryz.f249.results.toList = [.tmp 2] := rfl
@[simp] theorem xt249 : ext? Tryz.prog 249 = none := by kernel_rfl
-- lintel/lintelref6.PutSlot
@[simp] theorem nt29 : Tryz.f29.ntmps = 28 := rfl
@[simp] theorem rs29 : Tryz.f29.results.toList = [.tmp 2] := rfl
@[simp] theorem xt29 : ext? Tryz.prog 29 = none := by kernel_rfl
-- lintel/pool.New
@[simp] theorem nt35 : Tryz.f35.ntmps = 12 := rfl
@[simp] theorem rs35 : Tryz.f35.results.toList = [.tmp 2, .tmp 3] := rfl
@[simp] theorem xt35 : ext? Tryz.prog 35 = none := by kernel_rfl
-- (*lintel/pool.Pool).Take
@[simp] theorem nt219 : Tryz.f219.ntmps = 21 := rfl
@[simp] theorem rs219 : Tryz.f219.results.toList = [.tmp 4] := rfl
@[simp] theorem nt142 : Tryz.f142.ntmps = 49 := rfl
@[simp] theorem rs142 : Tryz.f142.results.toList = [.cell 6 76] := rfl
@[simp] theorem xt142 : ext? Tryz.prog 142 = none := by kernel_rfl
-- (*lintel/pool.Pool).Give
@[simp] theorem nt74 : Tryz.f74.ntmps = 5 := rfl
@[simp] theorem rs74 : Tryz.f74.results.toList = [.cell 2 59] := rfl
@[simp] theorem nt57 : Tryz.f57.ntmps = 8 := rfl
@[simp] theorem rs57 : Tryz.f57.results.toList = [.tmp 2] := rfl
@[simp] theorem xt57 : ext? Tryz.prog 57 = none := by kernel_rfl
-- lintel/word.has
@[simp] theorem nt246 : Tryz.f246.ntmps = 17 := rfl
@[simp] theorem rs246 : Tryz.f246.results.toList = [.tmp 4] := rfl
@[simp] theorem xt246 : ext? Tryz.prog 246 = none := by kernel_rfl
-- slices.Equal[[]uint64,uint64]
@[simp] theorem nt200 : Tryz.f200.ntmps = 26 := rfl
@[simp] theorem rs200 : Tryz.f200.results.toList = [.tmp 4] := rfl
@[simp] theorem xt200 : ext? Tryz.prog 200 = none := by kernel_rfl
-- lintel/lintelref6.Same
@[simp] theorem nt206 : Tryz.f206.ntmps = 26 := rfl
@[simp] theorem rs206 : Tryz.f206.results.toList = [.tmp 4] := rfl
@[simp] theorem nt195 : Tryz.f195.ntmps = 17 := rfl
@[simp] theorem rs195 : Tryz.f195.results.toList = [.tmp 2] := rfl
@[simp] theorem xt195 : ext? Tryz.prog 195 = none := by kernel_rfl
-- lintel/node.between
@[simp] theorem nt196 : Tryz.f196.ntmps = 15 := rfl
@[simp] theorem rs196 : Tryz.f196.results.toList = [.tmp 6] := rfl
@[simp] theorem xt196 : ext? Tryz.prog 196 = none := by kernel_rfl
-- lintel/node.sized
@[simp] theorem nt201 : Tryz.f201.ntmps = 23 := rfl
@[simp] theorem rs201 : Tryz.f201.results.toList = [.tmp 4] := rfl
@[simp] theorem xt201 : ext? Tryz.prog 201 = none := by kernel_rfl
-- lintel/node.placed
@[simp] theorem nt202 : Tryz.f202.ntmps = 101 := rfl
@[simp] theorem rs202 : Tryz.f202.results.toList = [.tmp 4] := rfl
@[simp] theorem xt202 : ext? Tryz.prog 202 = none := by kernel_rfl
-- lintel/lintelref6.Good
@[simp] theorem nt87 : Tryz.f87.ntmps = 57 := rfl
@[simp] theorem rs87 : Tryz.f87.results.toList = [.tmp 2] := rfl
@[simp] theorem xt87 : ext? Tryz.prog 87 = none := by kernel_rfl
-- lintel/lintelref6.zero
@[simp] theorem nt150 : Tryz.f150.ntmps = 22 := rfl
@[simp] theorem rs150 : Tryz.f150.results.toList = [.tmp 2] := rfl
@[simp] theorem xt150 : ext? Tryz.prog 150 = none := by kernel_rfl
-- lintel/lintelref6.Data
@[simp] theorem nt152 : Tryz.f152.ntmps = 24 := rfl
@[simp] theorem rs152 : Tryz.f152.results.toList = [.tmp 2, .tmp 3] := rfl
@[simp] theorem xt152 : ext? Tryz.prog 152 = none := by kernel_rfl
-- lintel/lintelref6.IsLost
@[simp] theorem nt141 : Tryz.f141.ntmps = 50 := rfl
@[simp] theorem rs141 : Tryz.f141.results.toList = [.tmp 2] := rfl
@[simp] theorem xt141 : ext? Tryz.prog 141 = none := by kernel_rfl
-- lintel/seal.Of
@[simp] theorem nt140 : Tryz.f140.ntmps = 5 := rfl
@[simp] theorem rs140 : Tryz.f140.results.toList = [.tmp 2] := rfl
@[simp] theorem xt140 : ext? Tryz.prog 140 = none := by kernel_rfl
-- lintel/lintelref1.Of
@[simp] theorem nt148 : Tryz.f148.ntmps = 5 := rfl
@[simp] theorem rs148 : Tryz.f148.results.toList = [.tmp 2] := rfl
@[simp] theorem xt148 : ext? Tryz.prog 148 = none := by kernel_rfl
-- strings.ContainsAny
@[simp] theorem nt290 : Tryz.f290.ntmps = 9 := rfl
@[simp] theorem rs290 : Tryz.f290.results.toList = [.tmp 4] := rfl
@[simp] theorem xt290 : ext? Tryz.prog 290 = none := by kernel_rfl
-- lintel/lintelref6.Name
@[simp] theorem nt223 : Tryz.f223.ntmps = 20 := rfl
@[simp] theorem rs223 : Tryz.f223.results.toList = [.tmp 4] := rfl
@[simp] theorem nt83 : Tryz.f83.ntmps = 15 := rfl
@[simp] theorem rs83 : Tryz.f83.results.toList = [.tmp 6] := rfl
@[simp] theorem xt83 : ext? Tryz.prog 83 = none := by kernel_rfl
-- lintel/geom.lay
@[simp] theorem nt84 : Tryz.f84.ntmps = 48 := rfl
@[simp] theorem rs84 : Tryz.f84.results.toList = [.cell 2 146] := rfl
@[simp] theorem xt84 : ext? Tryz.prog 84 = none := by kernel_rfl
-- lintel/pool.copied
@[simp] theorem nt143 : Tryz.f143.ntmps = 12 := rfl
@[simp] theorem rs143 : Tryz.f143.results.toList = [.cell 2 76] := rfl
@[simp] theorem xt143 : ext? Tryz.prog 143 = none := by kernel_rfl
-- lintel/geom.whole
@[simp] theorem nt98 : Tryz.f98.ntmps = 9 := rfl
@[simp] theorem rs98 : Tryz.f98.results.toList = [.cell 2 146] := rfl
@[simp] theorem xt98 : ext? Tryz.prog 98 = none := by kernel_rfl
-- (*lintel/pool.Pool).one
@[simp] theorem nt197 : Tryz.f197.ntmps = 15 := rfl
@[simp] theorem rs197 : Tryz.f197.results.toList = [.tmp 4] := rfl
@[simp] theorem xt197 : ext? Tryz.prog 197 = none := by kernel_rfl
-- slices.Clone[[]uint64,uint64]
@[simp] theorem nt86 : Tryz.f86.ntmps = 8 := rfl
@[simp] theorem rs86 : Tryz.f86.results.toList = [.tmp 2] := rfl
@[simp] theorem xt86 : ext? Tryz.prog 86 = none := by kernel_rfl
-- (*lintel/pool.Pool).data
@[simp] theorem nt220 : Tryz.f220.ntmps = 30 := rfl
@[simp] theorem rs220 : Tryz.f220.results.toList = [.tmp 8, .tmp 9] := rfl
@[simp] theorem nt248 : Tryz.f248.ntmps = 13 := rfl
@[simp] theorem rs248 : Tryz.f248.results.toList = [.cell 2 140] := rfl
@[simp] theorem xt248 : ext? Tryz.prog 248 = none := by kernel_rfl
-- lintel/lintelref6.bitBlocks
@[simp] theorem nt146 : Tryz.f146.ntmps = 7 := rfl
@[simp] theorem rs146 : Tryz.f146.results.toList = [.tmp 2] := rfl
@[simp] theorem xt146 : ext? Tryz.prog 146 = none := by kernel_rfl
-- lintel/lintelref6.Lost
@[simp] theorem nt151 : Tryz.f151.ntmps = 14 := rfl
@[simp] theorem rs151 : Tryz.f151.results.toList = [.tmp 2, .tmp 3] := rfl
@[simp] theorem xt151 : ext? Tryz.prog 151 = none := by kernel_rfl
-- lintel/seal.On
@[simp] theorem nt194 : Tryz.f194.ntmps = 19 := rfl
@[simp] theorem rs194 : Tryz.f194.results.toList = [.tmp 4] := rfl
@[simp] theorem xt194 : ext? Tryz.prog 194 = none := by kernel_rfl
-- lintel/lintelref1.Seal
@[simp] theorem nt199 : Tryz.f199.ntmps = 20 := rfl
@[simp] theorem rs199 : Tryz.f199.results.toList = [.tmp 4] := rfl
@[simp] theorem xt199 : ext? Tryz.prog 199 = none := by kernel_rfl
-- strings.IndexAny
@[simp] theorem nt301 : Tryz.f301.ntmps = 55 := rfl
@[simp] theorem rs301 : Tryz.f301.results.toList = [.tmp 4] := rfl
@[simp] theorem xt301 : ext? Tryz.prog 301 = none := by kernel_rfl
-- slices.Concat[[]lintel/node.Run,lintel/node.Run]
@[simp] theorem nt187 : Tryz.f187.ntmps = 8 := rfl
@[simp] theorem rs187 : Tryz.f187.results.toList = [.tmp 2] := rfl
@[simp] theorem xt187 : ext? Tryz.prog 187 = none := by kernel_rfl
-- cmp.isNaN[int]
@[simp] theorem nt261 : Tryz.f261.ntmps = 6 := rfl
@[simp] theorem rs261 : Tryz.f261.results.toList = [.tmp 2] := rfl
@[simp] theorem nt144 : Tryz.f144.ntmps = 8 := rfl
@[simp] theorem rs144 : Tryz.f144.results.toList = [.tmp 2] := rfl
@[simp] theorem xt144 : ext? Tryz.prog 144 = none := by kernel_rfl
-- lintel/bits.Free
@[simp] theorem nt252 : Tryz.f252.ntmps = 16 := rfl
@[simp] theorem rs252 : Tryz.f252.results.toList = [.tmp 6, .tmp 7] := rfl
@[simp] theorem nt80 : Tryz.f80.ntmps = 12 := rfl
@[simp] theorem rs80 : Tryz.f80.results.toList = [.tmp 2, .tmp 3] := rfl
@[simp] theorem xt80 : ext? Tryz.prog 80 = none := by kernel_rfl
-- lintel/lintelref6.Node
@[simp] theorem nt90 : Tryz.f90.ntmps = 31 := rfl
@[simp] theorem rs90 : Tryz.f90.results.toList = [.tmp 4] := rfl
@[simp] theorem xt90 : ext? Tryz.prog 90 = none := by kernel_rfl
-- strings.IndexRune
@[simp] theorem nt305 : Tryz.f305.ntmps = 187 := rfl
@[simp] theorem rs305 : Tryz.f305.results.toList = [.tmp 4] := rfl
@[simp] theorem xt305 : ext? Tryz.prog 305 = none := by kernel_rfl
-- strings.shouldUseASCIISet
@[simp] theorem nt306 : Tryz.f306.ntmps = 5 := rfl
@[simp] theorem rs306 : Tryz.f306.results.toList = [.tmp 2] := rfl
@[simp] theorem xt306 : ext? Tryz.prog 306 = none := by kernel_rfl
-- strings.makeASCIISet
@[simp] theorem nt307 : Tryz.f307.ntmps = 21 := rfl
@[simp] theorem rs307 : Tryz.f307.results.toList = [.cell 2 347, .tmp 3] := rfl
@[simp] theorem xt307 : ext? Tryz.prog 307 = none := by kernel_rfl
-- (*strings.asciiSet).contains
@[simp] theorem nt308 : Tryz.f308.ntmps = 10 := rfl
@[simp] theorem rs308 : Tryz.f308.results.toList = [.tmp 4] := rfl
@[simp] theorem xt308 : ext? Tryz.prog 308 = none := by kernel_rfl
-- slices.Grow[[]lintel/node.Run,lintel/node.Run]
@[simp] theorem nt242 : Tryz.f242.ntmps = 19 := rfl
@[simp] theorem rs242 : Tryz.f242.results.toList = [.tmp 2] := rfl
@[simp] theorem nt243 : Tryz.f243.ntmps = 25 := rfl
@[simp] theorem rs243 : Tryz.f243.results.toList = [.tmp 2] := rfl
@[simp] theorem xt243 : ext? Tryz.prog 243 = none := by kernel_rfl
-- slices.stableCmpFunc[lintel/node.Run]
@[simp] theorem nt149 : Tryz.f149.ntmps = 15 := rfl
@[simp] theorem rs149 : Tryz.f149.results.toList = [.tmp 2, .tmp 3] := rfl
@[simp] theorem xt149 : ext? Tryz.prog 149 = none := by kernel_rfl
-- strings.IndexByte
@[simp] theorem nt309 : Tryz.f309.ntmps = 8 := rfl
@[simp] theorem rs309 : Tryz.f309.results.toList = [.tmp 4] := rfl
@[simp] theorem xt309 : ext? Tryz.prog 309 = none := by kernel_rfl
-- unicode/utf8.ValidRune
@[simp] theorem nt310 : Tryz.f310.ntmps = 17 := rfl
@[simp] theorem rs310 : Tryz.f310.results.toList = [.tmp 2] := rfl
@[simp] theorem xt310 : ext? Tryz.prog 310 = none := by kernel_rfl
-- internal/bytealg.Cutover
@[simp] theorem nt299 : Tryz.f299.ntmps = 6 := rfl
@[simp] theorem rs299 : Tryz.f299.results.toList = [.tmp 2] := rfl
@[simp] theorem nt298 : Tryz.f298.ntmps = 2 := rfl
@[simp] theorem nt273 : Tryz.f273.ntmps = 7 := rfl
@[simp] theorem rs273 : Tryz.f273.results.toList = [.tmp 2] := rfl
@[simp] theorem nt274 : Tryz.f274.ntmps = 33 := rfl
@[simp] theorem rs274 : Tryz.f274.results.toList = [.tmp 2] := rfl
@[simp] theorem nt297 : Tryz.f297.ntmps = 8 := rfl
@[simp] theorem rs297 : Tryz.f297.results.toList = [.tmp 4] := rfl
@[simp] theorem xt297 : ext? Tryz.prog 297 = none := by kernel_rfl
-- slices.order2CmpFunc[lintel/node.Run]
@[simp] theorem nt303 : Tryz.f303.ntmps = 2 := rfl
@[simp] theorem sz2 {β : Type} (k : Nat → Option β) : szOf Tryz.prog 2 k = k 1 := by kernel_rfl
@[simp] theorem ag3 : agg? Tryz.prog 3 = some false := by kernel_rfl
@[simp] theorem sz3 {β : Type} (k : Nat → Option β) : szOf Tryz.prog 3 k = k 1 := by kernel_rfl
@[simp] theorem ze3 {β : Type} (k : List V → Option β) : zero Tryz.prog 3 k = k [.int .i64 0] := by kernel_rfl
theorem io3 : infoOk Tryz.prog 3 1 = true := by kernel_rfl
@[simp] theorem ag4 : agg? Tryz.prog 4 = some false := by kernel_rfl
@[simp] theorem sz4 {β : Type} (k : Nat → Option β) : szOf Tryz.prog 4 k = k 1 := by kernel_rfl
@[simp] theorem sz5 {β : Type} (k : Nat → Option β) : szOf Tryz.prog 5 k = k 1 := by kernel_rfl
@[simp] theorem ze5 {β : Type} (k : List V → Option β) : zero Tryz.prog 5 k = k [.int .u8 0] := by kernel_rfl
theorem io5 : infoOk Tryz.prog 5 1 = true := by kernel_rfl
@[simp] theorem ag9 : agg? Tryz.prog 9 = some false := by kernel_rfl
@[simp] theorem sz9 {β : Type} (k : Nat → Option β) : szOf Tryz.prog 9 k = k 1 := by kernel_rfl
@[simp] theorem ze9 {β : Type} (k : List V → Option β) : zero Tryz.prog 9 k = k [.s []] := by kernel_rfl
theorem io9 : infoOk Tryz.prog 9 1 = true := by kernel_rfl
@[simp] theorem ag27 : agg? Tryz.prog 27 = some false := by kernel_rfl
@[simp] theorem sz27 {β : Type} (k : Nat → Option β) : szOf Tryz.prog 27 k = k 1 := by kernel_rfl
@[simp] theorem ag60 : agg? Tryz.prog 60 = some false := by kernel_rfl
@[simp] theorem sz60 {β : Type} (k : Nat → Option β) : szOf Tryz.prog 60 k = k 1 := by kernel_rfl
@[simp] theorem ze60 {β : Type} (k : List V → Option β) : zero Tryz.prog 60 k = k [.c (.slice none 0 0)] := by kernel_rfl
theorem io60 : infoOk Tryz.prog 60 1 = true := by kernel_rfl
@[simp] theorem ag78 : agg? Tryz.prog 78 = some false := by kernel_rfl
@[simp] theorem sz78 {β : Type} (k : Nat → Option β) : szOf Tryz.prog 78 k = k 1 := by kernel_rfl
@[simp] theorem ze78 {β : Type} (k : List V → Option β) : zero Tryz.prog 78 k = k [.int .u64 0] := by kernel_rfl
theorem io78 : infoOk Tryz.prog 78 1 = true := by kernel_rfl
@[simp] theorem ag59 : agg? Tryz.prog 59 = some true := by kernel_rfl
@[simp] theorem sz59 {β : Type} (k : Nat → Option β) : szOf Tryz.prog 59 k = k 4 := by kernel_rfl
@[simp] theorem ze59 {β : Type} (k : List V → Option β) : zero Tryz.prog 59 k = k [.int .i64 0, .int .i64 0, .int .i64 0, .int .i64 0] := by kernel_rfl
@[simp] theorem ag136 : agg? Tryz.prog 136 = some false := by kernel_rfl
@[simp] theorem sz136 {β : Type} (k : Nat → Option β) : szOf Tryz.prog 136 k = k 1 := by kernel_rfl
@[simp] theorem ag138 : agg? Tryz.prog 138 = some true := by kernel_rfl
@[simp] theorem sz138 {β : Type} (k : Nat → Option β) : szOf Tryz.prog 138 k = k 4 := by kernel_rfl
@[simp] theorem ze138 {β : Type} (k : List V → Option β) : zero Tryz.prog 138 k = k [.int .i64 0, .int .i64 0, .int .i64 0, .c (.slice none 0 0)] := by kernel_rfl
@[simp] theorem ag156 : agg? Tryz.prog 156 = some false := by kernel_rfl
@[simp] theorem sz156 {β : Type} (k : Nat → Option β) : szOf Tryz.prog 156 k = k 1 := by kernel_rfl
@[simp] theorem ag158 : agg? Tryz.prog 158 = some true := by kernel_rfl
@[simp] theorem sz158 {β : Type} (k : Nat → Option β) : szOf Tryz.prog 158 k = k 4 := by kernel_rfl
@[simp] theorem ze158 {β : Type} (k : List V → Option β) : zero Tryz.prog 158 k = k [.int .i64 0, .int .i64 0, .int .i64 0, .c (.slice none 0 0)] := by kernel_rfl
@[simp] theorem ag140 : agg? Tryz.prog 140 = some true := by kernel_rfl
@[simp] theorem sz140 {β : Type} (k : Nat → Option β) : szOf Tryz.prog 140 k = k 2 := by kernel_rfl
@[simp] theorem ze140 {β : Type} (k : List V → Option β) : zero Tryz.prog 140 k = k [.int .i64 0, .int .i64 0] := by kernel_rfl
theorem io140 : infoOk Tryz.prog 140 2 = true := by kernel_rfl
@[simp] theorem ag70 : agg? Tryz.prog 70 = some true := by kernel_rfl
@[simp] theorem sz70 {β : Type} (k : Nat → Option β) : szOf Tryz.prog 70 k = k 4 := by kernel_rfl
@[simp] theorem ze70 {β : Type} (k : List V → Option β) : zero Tryz.prog 70 k = k [.int .i64 0, .int .i64 0, .int .i64 0, .int .i64 0] := by kernel_rfl
@[simp] theorem ag229 : agg? Tryz.prog 229 = some true := by kernel_rfl
@[simp] theorem sz229 {β : Type} (k : Nat → Option β) : szOf Tryz.prog 229 k = k 2 := by kernel_rfl
@[simp] theorem ze229 {β : Type} (k : List V → Option β) : zero Tryz.prog 229 k = k [.int .i64 0, .s []] := by kernel_rfl
theorem io229 : infoOk Tryz.prog 229 2 = true := by kernel_rfl
@[simp] theorem ag76 : agg? Tryz.prog 76 = some true := by kernel_rfl
@[simp] theorem sz76 {β : Type} (k : Nat → Option β) : szOf Tryz.prog 76 k = k 1 := by kernel_rfl
@[simp] theorem ze76 {β : Type} (k : List V → Option β) : zero Tryz.prog 76 k = k [.c (.slice none 0 0)] := by kernel_rfl
@[simp] theorem ag219 : agg? Tryz.prog 219 = some true := by kernel_rfl
@[simp] theorem sz219 {β : Type} (k : Nat → Option β) : szOf Tryz.prog 219 k = k 2 := by kernel_rfl
@[simp] theorem ze219 {β : Type} (k : List V → Option β) : zero Tryz.prog 219 k = k [.int .i64 0, .int .i64 0] := by kernel_rfl
theorem io219 : infoOk Tryz.prog 219 2 = true := by kernel_rfl
@[simp] theorem ag144 : agg? Tryz.prog 144 = some true := by kernel_rfl
@[simp] theorem sz144 {β : Type} (k : Nat → Option β) : szOf Tryz.prog 144 k = k 2 := by kernel_rfl
@[simp] theorem ze144 {β : Type} (k : List V → Option β) : zero Tryz.prog 144 k = k [.int .i64 0, .int .i64 0] := by kernel_rfl
@[simp] theorem ag146 : agg? Tryz.prog 146 = some true := by kernel_rfl
@[simp] theorem sz146 {β : Type} (k : Nat → Option β) : szOf Tryz.prog 146 k = k 10 := by kernel_rfl
@[simp] theorem ze146 {β : Type} (k : List V → Option β) : zero Tryz.prog 146 k = k [.int .i64 0, .int .i64 0, .int .i64 0, .int .i64 0, .int .i64 0, .int .i64 0, .int .i64 0, .int .i64 0, .int .i64 0, .int .i64 0] := by kernel_rfl
@[simp] theorem ag347 : agg? Tryz.prog 347 = some true := by kernel_rfl
@[simp] theorem sz347 {β : Type} (k : Nat → Option β) : szOf Tryz.prog 347 k = k 256 := by kernel_rfl
@[simp] theorem un3 : Tryz.prog.underlying 3 = some (.int .i64) := by kernel_rfl
@[simp] theorem un5 : Tryz.prog.underlying 5 = some (.int .u8) := by kernel_rfl
@[simp] theorem un9 : Tryz.prog.underlying 9 = some .string := by kernel_rfl
@[simp] theorem un21 : Tryz.prog.underlying 21 = some (.int .i32) := by kernel_rfl
@[simp] theorem un27 : Tryz.prog.underlying 27 = some (.slice 5) := by kernel_rfl
@[simp] theorem ln27 (c : Cx) (st : St) (x : V) : builtinE Tryz.prog c .len [27] [x] st = lenS st x := len_slice un27 x
@[simp] theorem ix27 {β : Type} (m o len cap i : Nat) (k : V → Option β) : idxE Tryz.prog 27 (.sl m o len cap) i k = if i < len then k (.p m (o + i * 1)) else none := idxE_sl un27 (fun k => sz5 k) m o len cap i k
@[simp] theorem el27 {β : Type} (k : TypeId → Nat → Option β) : Ev.elemOf Tryz.prog 27 k = k 5 1 := by kernel_rfl
@[simp] theorem un60 : Tryz.prog.underlying 60 = some (.slice 78) := by kernel_rfl
@[simp] theorem ln60 (c : Cx) (st : St) (x : V) : builtinE Tryz.prog c .len [60] [x] st = lenS st x := len_slice un60 x
@[simp] theorem ix60 {β : Type} (m o len cap i : Nat) (k : V → Option β) : idxE Tryz.prog 60 (.sl m o len cap) i k = if i < len then k (.p m (o + i * 1)) else none := idxE_sl un60 (fun k => sz78 k) m o len cap i k
@[simp] theorem iy60 {β : Type} (m o len w i : Nat) (k : V → Option β) : idxE Tryz.prog 60 (.sg m o len w) i k = if i < len then k (.p m (o + i * 1)) else none := idxE_sg un60 (fun k => sz78 k) m o len w i k
@[simp] theorem el60 {β : Type} (k : TypeId → Nat → Option β) : Ev.elemOf Tryz.prog 60 k = k 78 1 := by kernel_rfl
@[simp] theorem un78 : Tryz.prog.underlying 78 = some (.int .u64) := by kernel_rfl
theorem so59 : structOk Tryz.prog 59 [(0, 1), (1, 1), (2, 1), (3, 1)] = true := by kernel_rfl
@[simp] theorem bl59 (x0 x1 x2 x3 : Operand) (a0 a1 a2 a3 : V) (st : St) (h0 : a0.one = true) (h1 : a1.one = true) (h2 : a2.one = true) (h3 : a3.one = true) : bldK Tryz.prog 59 [(0, x0), (1, x1), (2, x2), (3, x3)] [a0, a1, a2, a3] [.int .i64 0, .int .i64 0, .int .i64 0, .int .i64 0] st = some (.g [a0, a1, a2, a3], st) := by
  rw [bldK_ok so59, partsK_one rfl h0 (by simp), partsK_one rfl h1 (by simp), partsK_one rfl h2 (by simp), partsK_one rfl h3 (by simp)]; rfl
@[simp] theorem fk59_0 (k : Nat → Nat → Res) : fieldK Tryz.prog 59 0 k = k 1 0 := by kernel_rfl
@[simp] theorem fk59_1 (k : Nat → Nat → Res) : fieldK Tryz.prog 59 1 k = k 1 1 := by kernel_rfl
@[simp] theorem fk59_2 (k : Nat → Nat → Res) : fieldK Tryz.prog 59 2 k = k 1 2 := by kernel_rfl
@[simp] theorem fk59_3 (k : Nat → Nat → Res) : fieldK Tryz.prog 59 3 k = k 1 3 := by kernel_rfl
@[simp] theorem un136 : Tryz.prog.underlying 136 = some (.slice 140) := by kernel_rfl
@[simp] theorem ln136 (c : Cx) (st : St) (x : V) : builtinE Tryz.prog c .len [136] [x] st = lenS st x := len_slice un136 x
@[simp] theorem el136 {β : Type} (k : TypeId → Nat → Option β) : Ev.elemOf Tryz.prog 136 k = k 140 2 := by kernel_rfl
@[simp] theorem bz138 (st : St) : bldK Tryz.prog 138 [] [] [.int .i64 0, .int .i64 0, .int .i64 0, .c (.slice none 0 0)] st = some (.g [.int .i64 0, .int .i64 0, .int .i64 0, .c (.slice none 0 0)], st) := by kernel_rfl
theorem so138 : structOk Tryz.prog 138 [(0, 1), (1, 1), (2, 1), (3, 1)] = true := by kernel_rfl
@[simp] theorem bl138 (x0 x1 x2 x3 : Operand) (a0 a1 a2 a3 : V) (st : St) (h0 : a0.one = true) (h1 : a1.one = true) (h2 : a2.one = true) (h3 : a3.one = true) : bldK Tryz.prog 138 [(0, x0), (1, x1), (2, x2), (3, x3)] [a0, a1, a2, a3] [.int .i64 0, .int .i64 0, .int .i64 0, .c (.slice none 0 0)] st = some (.g [a0, a1, a2, a3], st) := by
  rw [bldK_ok so138, partsK_one rfl h0 (by simp), partsK_one rfl h1 (by simp), partsK_one rfl h2 (by simp), partsK_one rfl h3 (by simp)]; rfl
@[simp] theorem fk138_0 (k : Nat → Nat → Res) : fieldK Tryz.prog 138 0 k = k 1 0 := by kernel_rfl
@[simp] theorem fk138_1 (k : Nat → Nat → Res) : fieldK Tryz.prog 138 1 k = k 1 1 := by kernel_rfl
@[simp] theorem fk138_2 (k : Nat → Nat → Res) : fieldK Tryz.prog 138 2 k = k 1 2 := by kernel_rfl
@[simp] theorem fk138_3 (k : Nat → Nat → Res) : fieldK Tryz.prog 138 3 k = k 1 3 := by kernel_rfl
@[simp] theorem un156 : Tryz.prog.underlying 156 = some (.slice 219) := by kernel_rfl
@[simp] theorem ln156 (c : Cx) (st : St) (x : V) : builtinE Tryz.prog c .len [156] [x] st = lenS st x := len_slice un156 x
@[simp] theorem el156 {β : Type} (k : TypeId → Nat → Option β) : Ev.elemOf Tryz.prog 156 k = k 219 2 := by kernel_rfl
theorem so158 : structOk Tryz.prog 158 [(0, 1), (1, 1), (2, 1), (3, 1)] = true := by kernel_rfl
@[simp] theorem bl158 (x0 x1 x2 x3 : Operand) (a0 a1 a2 a3 : V) (st : St) (h0 : a0.one = true) (h1 : a1.one = true) (h2 : a2.one = true) (h3 : a3.one = true) : bldK Tryz.prog 158 [(0, x0), (1, x1), (2, x2), (3, x3)] [a0, a1, a2, a3] [.int .i64 0, .int .i64 0, .int .i64 0, .c (.slice none 0 0)] st = some (.g [a0, a1, a2, a3], st) := by
  rw [bldK_ok so158, partsK_one rfl h0 (by simp), partsK_one rfl h1 (by simp), partsK_one rfl h2 (by simp), partsK_one rfl h3 (by simp)]; rfl
@[simp] theorem fk158_0 (k : Nat → Nat → Res) : fieldK Tryz.prog 158 0 k = k 1 0 := by kernel_rfl
@[simp] theorem fk158_1 (k : Nat → Nat → Res) : fieldK Tryz.prog 158 1 k = k 1 1 := by kernel_rfl
@[simp] theorem fk158_2 (k : Nat → Nat → Res) : fieldK Tryz.prog 158 2 k = k 1 2 := by kernel_rfl
@[simp] theorem fk158_3 (k : Nat → Nat → Res) : fieldK Tryz.prog 158 3 k = k 1 3 := by kernel_rfl
theorem so140 : structOk Tryz.prog 140 [(0, 1), (1, 1)] = true := by kernel_rfl
@[simp] theorem bl140 (x0 x1 : Operand) (a0 a1 : V) (st : St) (h0 : a0.one = true) (h1 : a1.one = true) : bldK Tryz.prog 140 [(0, x0), (1, x1)] [a0, a1] [.int .i64 0, .int .i64 0] st = some (.g [a0, a1], st) := by
  rw [bldK_ok so140, partsK_one rfl h0 (by simp), partsK_one rfl h1 (by simp)]; rfl
@[simp] theorem fk140_0 (k : Nat → Nat → Res) : fieldK Tryz.prog 140 0 k = k 1 0 := by kernel_rfl
@[simp] theorem fk140_1 (k : Nat → Nat → Res) : fieldK Tryz.prog 140 1 k = k 1 1 := by kernel_rfl
theorem so70 : structOk Tryz.prog 70 [(0, 1), (1, 1), (2, 1), (3, 1)] = true := by kernel_rfl
@[simp] theorem bl70 (x0 x1 x2 x3 : Operand) (a0 a1 a2 a3 : V) (st : St) (h0 : a0.one = true) (h1 : a1.one = true) (h2 : a2.one = true) (h3 : a3.one = true) : bldK Tryz.prog 70 [(0, x0), (1, x1), (2, x2), (3, x3)] [a0, a1, a2, a3] [.int .i64 0, .int .i64 0, .int .i64 0, .int .i64 0] st = some (.g [a0, a1, a2, a3], st) := by
  rw [bldK_ok so70, partsK_one rfl h0 (by simp), partsK_one rfl h1 (by simp), partsK_one rfl h2 (by simp), partsK_one rfl h3 (by simp)]; rfl
@[simp] theorem fk70_0 (k : Nat → Nat → Res) : fieldK Tryz.prog 70 0 k = k 1 0 := by kernel_rfl
@[simp] theorem fk70_1 (k : Nat → Nat → Res) : fieldK Tryz.prog 70 1 k = k 1 1 := by kernel_rfl
@[simp] theorem fk70_2 (k : Nat → Nat → Res) : fieldK Tryz.prog 70 2 k = k 1 2 := by kernel_rfl
@[simp] theorem fk70_3 (k : Nat → Nat → Res) : fieldK Tryz.prog 70 3 k = k 1 3 := by kernel_rfl
@[simp] theorem bz229 (st : St) : bldK Tryz.prog 229 [] [] [.int .i64 0, .s []] st = some (.g [.int .i64 0, .s []], st) := by kernel_rfl
theorem so229 : structOk Tryz.prog 229 [(0, 1), (1, 1)] = true := by kernel_rfl
@[simp] theorem bl229 (x0 x1 : Operand) (a0 a1 : V) (st : St) (h0 : a0.one = true) (h1 : a1.one = true) : bldK Tryz.prog 229 [(0, x0), (1, x1)] [a0, a1] [.int .i64 0, .s []] st = some (.g [a0, a1], st) := by
  rw [bldK_ok so229, partsK_one rfl h0 (by simp), partsK_one rfl h1 (by simp)]; rfl
@[simp] theorem fk229_0 (k : Nat → Nat → Res) : fieldK Tryz.prog 229 0 k = k 1 0 := by kernel_rfl
@[simp] theorem fk229_1 (k : Nat → Nat → Res) : fieldK Tryz.prog 229 1 k = k 1 1 := by kernel_rfl
@[simp] theorem un175 : Tryz.prog.underlying 175 = some (.slice 3) := by kernel_rfl
@[simp] theorem ln175 (c : Cx) (st : St) (x : V) : builtinE Tryz.prog c .len [175] [x] st = lenS st x := len_slice un175 x
@[simp] theorem el175 {β : Type} (k : TypeId → Nat → Option β) : Ev.elemOf Tryz.prog 175 k = k 3 1 := by kernel_rfl
theorem so76 : structOk Tryz.prog 76 [(0, 1)] = true := by kernel_rfl
@[simp] theorem bl76 (x0 : Operand) (a0 : V) (st : St) (h0 : a0.one = true) : bldK Tryz.prog 76 [(0, x0)] [a0] [.c (.slice none 0 0)] st = some (.g [a0], st) := by
  rw [bldK_ok so76, partsK_one rfl h0 (by simp)]; rfl
@[simp] theorem fk76_0 (k : Nat → Nat → Res) : fieldK Tryz.prog 76 0 k = k 1 0 := by kernel_rfl
theorem so219 : structOk Tryz.prog 219 [(0, 1), (1, 1)] = true := by kernel_rfl
@[simp] theorem bl219 (x0 x1 : Operand) (a0 a1 : V) (st : St) (h0 : a0.one = true) (h1 : a1.one = true) : bldK Tryz.prog 219 [(0, x0), (1, x1)] [a0, a1] [.int .i64 0, .int .i64 0] st = some (.g [a0, a1], st) := by
  rw [bldK_ok so219, partsK_one rfl h0 (by simp), partsK_one rfl h1 (by simp)]; rfl
@[simp] theorem fk219_0 (k : Nat → Nat → Res) : fieldK Tryz.prog 219 0 k = k 1 0 := by kernel_rfl
@[simp] theorem fk219_1 (k : Nat → Nat → Res) : fieldK Tryz.prog 219 1 k = k 1 1 := by kernel_rfl
theorem so144 : structOk Tryz.prog 144 [(0, 1), (1, 1)] = true := by kernel_rfl
@[simp] theorem bl144 (x0 x1 : Operand) (a0 a1 : V) (st : St) (h0 : a0.one = true) (h1 : a1.one = true) : bldK Tryz.prog 144 [(0, x0), (1, x1)] [a0, a1] [.int .i64 0, .int .i64 0] st = some (.g [a0, a1], st) := by
  rw [bldK_ok so144, partsK_one rfl h0 (by simp), partsK_one rfl h1 (by simp)]; rfl
@[simp] theorem fk144_0 (k : Nat → Nat → Res) : fieldK Tryz.prog 144 0 k = k 1 0 := by kernel_rfl
@[simp] theorem fk144_1 (k : Nat → Nat → Res) : fieldK Tryz.prog 144 1 k = k 1 1 := by kernel_rfl
@[simp] theorem bz146 (st : St) : bldK Tryz.prog 146 [] [] [.int .i64 0, .int .i64 0, .int .i64 0, .int .i64 0, .int .i64 0, .int .i64 0, .int .i64 0, .int .i64 0, .int .i64 0, .int .i64 0] st = some (.g [.int .i64 0, .int .i64 0, .int .i64 0, .int .i64 0, .int .i64 0, .int .i64 0, .int .i64 0, .int .i64 0, .int .i64 0, .int .i64 0], st) := by kernel_rfl
@[simp] theorem fk146_0 (k : Nat → Nat → Res) : fieldK Tryz.prog 146 0 k = k 2 0 := by kernel_rfl
@[simp] theorem fk146_1 (k : Nat → Nat → Res) : fieldK Tryz.prog 146 1 k = k 2 2 := by kernel_rfl
@[simp] theorem fk146_2 (k : Nat → Nat → Res) : fieldK Tryz.prog 146 2 k = k 2 4 := by kernel_rfl
@[simp] theorem fk146_3 (k : Nat → Nat → Res) : fieldK Tryz.prog 146 3 k = k 2 6 := by kernel_rfl
@[simp] theorem fk146_4 (k : Nat → Nat → Res) : fieldK Tryz.prog 146 4 k = k 2 8 := by kernel_rfl
@[simp] theorem un347 : Tryz.prog.underlying 347 = some (.array 256 4) := by kernel_rfl
@[simp] theorem ix347 {β : Type} (m o i : Nat) (k : V → Option β) : idxE Tryz.prog 347 (.p m o) i k = if i < 256 then k (.p m (o + i * 1)) else none := idxE_arr un347 (fun k => sz4 k) m o i k
end Go.Proofs.YtgcpgidofikcdaaGreatDoor

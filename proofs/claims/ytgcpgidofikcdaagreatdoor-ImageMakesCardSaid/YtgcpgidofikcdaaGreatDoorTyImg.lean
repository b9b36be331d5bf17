/-
  PLAIN: what the program's own tables say, as rules for rewriting.
-/
import Derived.Test.YtgcpgidofikcdaaGreatDoorChecked
import Derived.Test.YtgcpgidofikcdaaGreatDoorTyAll
namespace Go.Proofs.YtgcpgidofikcdaaGreatDoor
open Go.RowKit Ev
-- lintel/lintellaw18.ImageMakes
@[simp] theorem nt5 : Tryz.f5.ntmps = 63 := rfl
@[simp] theorem rs5 : Tryz.f5.results.toList = [.tmp 2] := rfl
@[simp] theorem nt6 : Tryz.f6.ntmps = 100 := rfl
@[simp] theorem rs6 : Tryz.f6.results.toList = [.tmp 4] := rfl
@[simp] theorem nt7 : Tryz.f7.ntmps = 106 := rfl
@[simp] theorem rs7 : Tryz.f7.results.toList = [.tmp 6] := rfl
@[simp] theorem nt10 : Tryz.f10.ntmps = 21 := rfl
@[simp] theorem rs10 : Tryz.f10.results.toList = [.tmp 2] := rfl
@[simp] theorem xt10 : ext? Tryz.prog 10 = none := by kernel_rfl
-- lintel/tree.Build
@[simp] theorem nt13 : Tryz.f13.ntmps = 57 := rfl
@[simp] theorem rs13 : Tryz.f13.results.toList = [.tmp 4, .tmp 5] := rfl
@[simp] theorem xt13 : ext? Tryz.prog 13 = none := by kernel_rfl
-- (*lintel/tree.Tree).Parts
@[simp] theorem nt14 : Tryz.f14.ntmps = 34 := rfl
@[simp] theorem rs14 : Tryz.f14.results.toList = [.tmp 2] := rfl
@[simp] theorem nt16 : Tryz.f16.ntmps = 14 := rfl
@[simp] theorem rs16 : Tryz.f16.results.toList = [.tmp 4] := rfl
@[simp] theorem xt16 : ext? Tryz.prog 16 = none := by kernel_rfl
-- lintel/lintellaw18.awake
@[simp] theorem nt27 : Tryz.f27.ntmps = 53 := rfl
@[simp] theorem rs27 : Tryz.f27.results.toList = [.tmp 0] := rfl
@[simp] theorem xt27 : ext? Tryz.prog 27 = none := by kernel_rfl
-- lintel/image.Make
@[simp] theorem nt28 : Tryz.f28.ntmps = 62 := rfl
@[simp] theorem rs28 : Tryz.f28.results.toList = [.tmp 2, .tmp 3] := rfl
@[simp] theorem xt28 : ext? Tryz.prog 28 = none := by kernel_rfl
-- lintel/geom.Good
-- lintel/image.Open
@[simp] theorem nt30 : Tryz.f30.ntmps = 25 := rfl
@[simp] theorem rs30 : Tryz.f30.results.toList = [.cell 2 65, .tmp 3] := rfl
@[simp] theorem xt30 : ext? Tryz.prog 30 = none := by kernel_rfl
-- lintel/lintellaw18.same
@[simp] theorem nt31 : Tryz.f31.ntmps = 26 := rfl
@[simp] theorem rs31 : Tryz.f31.results.toList = [.tmp 4] := rfl
@[simp] theorem xt31 : ext? Tryz.prog 31 = none := by kernel_rfl
-- lintel/lintelref18.Make
@[simp] theorem nt32 : Tryz.f32.ntmps = 46 := rfl
@[simp] theorem rs32 : Tryz.f32.results.toList = [.tmp 2] := rfl
@[simp] theorem xt32 : ext? Tryz.prog 32 = none := by kernel_rfl
-- lintel/lintellaw18.own
@[simp] theorem nt33 : Tryz.f33.ntmps = 12 := rfl
@[simp] theorem rs33 : Tryz.f33.results.toList = [.cell 2 70] := rfl
@[simp] theorem xt33 : ext? Tryz.prog 33 = none := by kernel_rfl
-- (lintel/image.Image).Tree
@[simp] theorem nt34 : Tryz.f34.ntmps = 52 := rfl
@[simp] theorem rs34 : Tryz.f34.results.toList = [.tmp 2, .tmp 3] := rfl
@[simp] theorem xt34 : ext? Tryz.prog 34 = none := by kernel_rfl
-- lintel/geom.Data
-- (lintel/image.Image).Bits
@[simp] theorem nt36 : Tryz.f36.ntmps = 27 := rfl
@[simp] theorem rs36 : Tryz.f36.results.toList = [.cell 2 76] := rfl
@[simp] theorem nt37 : Tryz.f37.ntmps = 27 := rfl
@[simp] theorem rs37 : Tryz.f37.results.toList = [.cell 2 81, .tmp 3] := rfl
@[simp] theorem nt40 : Tryz.f40.ntmps = 22 := rfl
@[simp] theorem rs40 : Tryz.f40.results.toList = [.tmp 2] := rfl
@[simp] theorem xt40 : ext? Tryz.prog 40 = none := by kernel_rfl
-- (*lintel/tree.Tree).take
@[simp] theorem nt54 : Tryz.f54.ntmps = 94 := rfl
@[simp] theorem rs54 : Tryz.f54.results.toList = [.tmp 4] := rfl
@[simp] theorem xt54 : ext? Tryz.prog 54 = none := by kernel_rfl
-- (*lintel/tree.Tree).name
@[simp] theorem nt55 : Tryz.f55.ntmps = 72 := rfl
@[simp] theorem rs55 : Tryz.f55.results.toList = [.tmp 2] := rfl
@[simp] theorem xt55 : ext? Tryz.prog 55 = none := by kernel_rfl
-- (*lintel/tree.Tree).whole
@[simp] theorem nt56 : Tryz.f56.ntmps = 45 := rfl
@[simp] theorem rs56 : Tryz.f56.results.toList = [.tmp 2] := rfl
@[simp] theorem xt56 : ext? Tryz.prog 56 = none := by kernel_rfl
-- bytes.Clone
-- slices.Clone[[]lintel/tree.Name,lintel/tree.Name]
@[simp] theorem nt58 : Tryz.f58.ntmps = 8 := rfl
@[simp] theorem rs58 : Tryz.f58.results.toList = [.tmp 2] := rfl
@[simp] theorem xt58 : ext? Tryz.prog 58 = none := by kernel_rfl
-- slices.EqualFunc[[]lintel/tree.entry,[]lintel/tree.entry,lintel/tree.entry,lintel/tree.entry]
@[simp] theorem nt59 : Tryz.f59.ntmps = 32 := rfl
@[simp] theorem rs59 : Tryz.f59.results.toList = [.tmp 6] := rfl
@[simp] theorem xt59 : ext? Tryz.prog 59 = none := by kernel_rfl
-- lintel/geom.Plain
-- lintel/image.Make$1
@[simp] theorem nt75 : Tryz.f75.ntmps = 11 := rfl
@[simp] theorem rs75 : Tryz.f75.results.toList = [] := rfl
@[simp] theorem xt75 : ext? Tryz.prog 75 = none := by kernel_rfl
-- lintel/head.Put
@[simp] theorem nt76 : Tryz.f76.ntmps = 32 := rfl
@[simp] theorem rs76 : Tryz.f76.results.toList = [.tmp 2] := rfl
@[simp] theorem xt76 : ext? Tryz.prog 76 = none := by kernel_rfl
-- lintel/geom.Back
@[simp] theorem nt77 : Tryz.f77.ntmps = 9 := rfl
@[simp] theorem rs77 : Tryz.f77.results.toList = [.tmp 2] := rfl
@[simp] theorem xt77 : ext? Tryz.prog 77 = none := by kernel_rfl
-- lintel/geom.Node
@[simp] theorem nt78 : Tryz.f78.ntmps = 22 := rfl
@[simp] theorem rs78 : Tryz.f78.results.toList = [.tmp 4] := rfl
@[simp] theorem xt78 : ext? Tryz.prog 78 = none := by kernel_rfl
-- lintel/node.Put
-- lintel/geom.Lost
-- lintel/geom.Bits
@[simp] theorem nt81 : Tryz.f81.ntmps = 12 := rfl
@[simp] theorem rs81 : Tryz.f81.results.toList = [.tmp 2, .tmp 3] := rfl
@[simp] theorem xt81 : ext? Tryz.prog 81 = none := by kernel_rfl
-- lintel/image.taken
@[simp] theorem nt82 : Tryz.f82.ntmps = 37 := rfl
@[simp] theorem rs82 : Tryz.f82.results.toList = [.cell 2 76] := rfl
@[simp] theorem xt82 : ext? Tryz.prog 82 = none := by kernel_rfl
-- lintel/geom.between
-- lintel/geom.lay
-- lintel/head.Find
@[simp] theorem nt85 : Tryz.f85.ntmps = 47 := rfl
@[simp] theorem rs85 : Tryz.f85.results.toList = [.cell 2 132, .tmp 3, .tmp 4] := rfl
@[simp] theorem xt85 : ext? Tryz.prog 85 = none := by kernel_rfl
-- slices.Clone[[]uint64,uint64]
-- lintel/lintelref6.Good
-- (*lintel/lintelref18.Image).put
@[simp] theorem nt88 : Tryz.f88.ntmps = 32 := rfl
@[simp] theorem rs88 : Tryz.f88.results.toList = [] := rfl
@[simp] theorem xt88 : ext? Tryz.prog 88 = none := by kernel_rfl
-- lintel/lintelref6.PutHead
@[simp] theorem nt89 : Tryz.f89.ntmps = 29 := rfl
@[simp] theorem rs89 : Tryz.f89.results.toList = [.tmp 4] := rfl
@[simp] theorem xt89 : ext? Tryz.prog 89 = none := by kernel_rfl
-- lintel/lintelref6.Node
-- lintel/lintelref6.PutNode
-- lintel/lintelref18.lostNode
@[simp] theorem nt92 : Tryz.f92.ntmps = 16 := rfl
@[simp] theorem rs92 : Tryz.f92.results.toList = [.cell 2 158] := rfl
@[simp] theorem xt92 : ext? Tryz.prog 92 = none := by kernel_rfl
-- (*lintel/lintelref18.Image).setBits
@[simp] theorem nt93 : Tryz.f93.ntmps = 32 := rfl
@[simp] theorem rs93 : Tryz.f93.results.toList = [] := rfl
@[simp] theorem xt93 : ext? Tryz.prog 93 = none := by kernel_rfl
-- lintel/lintelref18.bitsOf
@[simp] theorem nt94 : Tryz.f94.ntmps = 75 := rfl
@[simp] theorem rs94 : Tryz.f94.results.toList = [.tmp 4] := rfl
@[simp] theorem xt94 : ext? Tryz.prog 94 = none := by kernel_rfl
-- (lintel/image.Image).Node
@[simp] theorem nt95 : Tryz.f95.ntmps = 34 := rfl
@[simp] theorem rs95 : Tryz.f95.results.toList = [.cell 4 138, .tmp 5] := rfl
@[simp] theorem xt95 : ext? Tryz.prog 95 = none := by kernel_rfl
-- (lintel/image.Image).Content
@[simp] theorem nt96 : Tryz.f96.ntmps = 48 := rfl
@[simp] theorem rs96 : Tryz.f96.results.toList = [.tmp 4] := rfl
@[simp] theorem xt96 : ext? Tryz.prog 96 = none := by kernel_rfl
-- (lintel/image.Image).names
@[simp] theorem nt97 : Tryz.f97.ntmps = 29 := rfl
@[simp] theorem rs97 : Tryz.f97.results.toList = [.tmp 4] := rfl
@[simp] theorem xt97 : ext? Tryz.prog 97 = none := by kernel_rfl
-- lintel/geom.whole
-- (lintel/image.Image).block
@[simp] theorem nt99 : Tryz.f99.ntmps = 23 := rfl
@[simp] theorem rs99 : Tryz.f99.results.toList = [.tmp 4] := rfl
@[simp] theorem xt99 : ext? Tryz.prog 99 = none := by kernel_rfl
-- lintel/lintelref6.Find
@[simp] theorem nt100 : Tryz.f100.ntmps = 61 := rfl
@[simp] theorem rs100 : Tryz.f100.results.toList = [.cell 2 70, .tmp 3, .tmp 4, .tmp 5] := rfl
@[simp] theorem nt104 : Tryz.f104.ntmps = 5 := rfl
@[simp] theorem rs104 : Tryz.f104.results.toList = [.tmp 2] := rfl
@[simp] theorem nt121 : Tryz.f121.ntmps = 41 := rfl
@[simp] theorem rs121 : Tryz.f121.results.toList = [.tmp 2] := rfl
@[simp] theorem xt121 : ext? Tryz.prog 121 = none := by kernel_rfl
-- slices.SortFunc[[]lintel/tree.Name,lintel/tree.Name]
@[simp] theorem nt122 : Tryz.f122.ntmps = 14 := rfl
@[simp] theorem rs122 : Tryz.f122.results.toList = [] := rfl
@[simp] theorem xt122 : ext? Tryz.prog 122 = none := by kernel_rfl
-- lintel/tree.fits
@[simp] theorem nt125 : Tryz.f125.ntmps = 28 := rfl
@[simp] theorem rs125 : Tryz.f125.results.toList = [.tmp 4] := rfl
@[simp] theorem nt126 : Tryz.f126.ntmps = 23 := rfl
@[simp] theorem rs126 : Tryz.f126.results.toList = [.tmp 4] := rfl
@[simp] theorem nt145 : Tryz.f145.ntmps = 24 := rfl
@[simp] theorem rs145 : Tryz.f145.results.toList = [.cell 4 132, .tmp 5] := rfl
@[simp] theorem xt145 : ext? Tryz.prog 145 = none := by kernel_rfl
-- lintel/lintelref6.bitBlocks
-- lintel/lintelref6.magic
@[simp] theorem nt147 : Tryz.f147.ntmps = 1 := rfl
@[simp] theorem rs147 : Tryz.f147.results.toList = [.tmp 0] := rfl
@[simp] theorem xt147 : ext? Tryz.prog 147 = none := by kernel_rfl
-- lintel/lintelref1.Of
-- lintel/lintelref6.Bits
-- lintel/lintelref6.zero
-- lintel/lintelref6.Lost
-- lintel/lintelref6.Data
-- lintel/lintelref6.SetBits
@[simp] theorem nt153 : Tryz.f153.ntmps = 62 := rfl
@[simp] theorem rs153 : Tryz.f153.results.toList = [.tmp 6] := rfl
@[simp] theorem xt153 : ext? Tryz.prog 153 = none := by kernel_rfl
-- lintel/node.Get
-- lintel/node.Good
-- (lintel/image.Image).blocks
@[simp] theorem nt156 : Tryz.f156.ntmps = 33 := rfl
@[simp] theorem rs156 : Tryz.f156.results.toList = [.tmp 4] := rfl
@[simp] theorem xt156 : ext? Tryz.prog 156 = none := by kernel_rfl
-- lintel/image.spell
@[simp] theorem nt157 : Tryz.f157.ntmps = 27 := rfl
@[simp] theorem rs157 : Tryz.f157.results.toList = [.tmp 2] := rfl
@[simp] theorem nt158 : Tryz.f158.ntmps = 44 := rfl
@[simp] theorem rs158 : Tryz.f158.results.toList = [.tmp 4] := rfl
@[simp] theorem xt158 : ext? Tryz.prog 158 = none := by kernel_rfl
-- lintel/lintelref6.Whole
@[simp] theorem nt159 : Tryz.f159.ntmps = 19 := rfl
@[simp] theorem rs159 : Tryz.f159.results.toList = [.tmp 2] := rfl
@[simp] theorem nt160 : Tryz.f160.ntmps = 51 := rfl
@[simp] theorem rs160 : Tryz.f160.results.toList = [.cell 2 70, .tmp 3, .tmp 4] := rfl
@[simp] theorem nt172 : Tryz.f172.ntmps = 5 := rfl
@[simp] theorem rs172 : Tryz.f172.results.toList = [.tmp 2] := rfl
@[simp] theorem nt186 : Tryz.f186.ntmps = 148 := rfl
@[simp] theorem rs186 : Tryz.f186.results.toList = [] := rfl
@[simp] theorem xt186 : ext? Tryz.prog 186 = none := by kernel_rfl
-- math/bits.Len
-- lintel/path.Name
@[simp] theorem nt189 : Tryz.f189.ntmps = 28 := rfl
@[simp] theorem rs189 : Tryz.f189.results.toList = [.tmp 2] := rfl
@[simp] theorem nt198 : Tryz.f198.ntmps = 39 := rfl
@[simp] theorem rs198 : Tryz.f198.results.toList = [.cell 2 132, .tmp 3] := rfl
@[simp] theorem xt198 : ext? Tryz.prog 198 = none := by kernel_rfl
-- lintel/lintelref1.Seal
-- slices.Equal[[]uint64,uint64]
-- lintel/node.sized
-- lintel/node.placed
-- lintel/node.Blocks
-- lintel/node.Needs
-- lintel/slot.Get
-- lintel/lintelref6.Same
-- lintel/geom.Books
@[simp] theorem nt209 : Tryz.f209.ntmps = 28 := rfl
@[simp] theorem rs209 : Tryz.f209.results.toList = [.tmp 4, .tmp 5] := rfl
@[simp] theorem nt224 : Tryz.f224.ntmps = 54 := rfl
@[simp] theorem rs224 : Tryz.f224.results.toList = [.tmp 4] := rfl
@[simp] theorem nt230 : Tryz.f230.ntmps = 9 := rfl
@[simp] theorem rs230 : Tryz.f230.results.toList = [.tmp 4] := rfl
@[simp] theorem nt234 : Tryz.f234.ntmps = 53 := rfl
@[simp] theorem rs234 : Tryz.f234.results.toList = [] := rfl
@[simp] theorem xt234 : ext? Tryz.prog 234 = none := by kernel_rfl
-- slices.heapSortCmpFunc[lintel/tree.Name]
@[simp] theorem nt235 : Tryz.f235.ntmps = 60 := rfl
@[simp] theorem rs235 : Tryz.f235.results.toList = [] := rfl
@[simp] theorem nt236 : Tryz.f236.ntmps = 67 := rfl
@[simp] theorem rs236 : Tryz.f236.results.toList = [] := rfl
@[simp] theorem nt237 : Tryz.f237.ntmps = 63 := rfl
@[simp] theorem rs237 : Tryz.f237.results.toList = [.tmp 8, .tmp 9] := rfl
@[simp] theorem nt238 : Tryz.f238.ntmps = 34 := rfl
@[simp] theorem rs238 : Tryz.f238.results.toList = [] := rfl
@[simp] theorem nt239 : Tryz.f239.ntmps = 141 := rfl
@[simp] theorem rs239 : Tryz.f239.results.toList = [.tmp 8] := rfl
@[simp] theorem nt240 : Tryz.f240.ntmps = 90 := rfl
@[simp] theorem rs240 : Tryz.f240.results.toList = [.tmp 10] := rfl
@[simp] theorem nt241 : Tryz.f241.ntmps = 178 := rfl
@[simp] theorem rs241 : Tryz.f241.results.toList = [.tmp 10, .tmp 11] := rfl
@[simp] theorem nt262 : Tryz.f262.ntmps = 15 := rfl
@[simp] theorem rs262 : Tryz.f262.results.toList = [.tmp 2] := rfl
@[simp] theorem nt263 : Tryz.f263.ntmps = 15 := rfl
@[simp] theorem rs263 : Tryz.f263.results.toList = [.tmp 2] := rfl
@[simp] theorem nt264 : Tryz.f264.ntmps = 167 := rfl
@[simp] theorem rs264 : Tryz.f264.results.toList = [] := rfl
@[simp] theorem nt265 : Tryz.f265.ntmps = 102 := rfl
@[simp] theorem rs265 : Tryz.f265.results.toList = [.tmp 10, .tmp 11] := rfl
@[simp] theorem nt270 : Tryz.f270.ntmps = 8 := rfl
@[simp] theorem rs270 : Tryz.f270.results.toList = [.tmp 4] := rfl
@[simp] theorem nt272 : Tryz.f272.ntmps = 82 := rfl
@[simp] theorem rs272 : Tryz.f272.results.toList = [] := rfl
@[simp] theorem nt275 : Tryz.f275.ntmps = 18 := rfl
@[simp] theorem rs275 : Tryz.f275.results.toList = [.tmp 8] := rfl
@[simp] theorem nt276 : Tryz.f276.ntmps = 41 := rfl
@[simp] theorem rs276 : Tryz.f276.results.toList = [.tmp 12] := rfl
@[simp] theorem nt281 : Tryz.f281.ntmps = 6 := rfl
@[simp] theorem rs281 : Tryz.f281.results.toList = [.tmp 2] := rfl
@[simp] theorem nt282 : Tryz.f282.ntmps = 4 := rfl
@[simp] theorem rs282 : Tryz.f282.results.toList = [.tmp 2] := rfl
@[simp] theorem nt283 : Tryz.f283.ntmps = 8 := rfl
@[simp] theorem rs283 : Tryz.f283.results.toList = [.tmp 2] := rfl
@[simp] theorem nt284 : Tryz.f284.ntmps = 8 := rfl
@[simp] theorem rs284 : Tryz.f284.results.toList = [.tmp 2] := rfl
@[simp] theorem nt288 : Tryz.f288.ntmps = 143 := rfl
@[simp] theorem rs288 : Tryz.f288.results.toList = [.tmp 4] := rfl
@[simp] theorem nt289 : Tryz.f289.ntmps = 32 := rfl
@[simp] theorem rs289 : Tryz.f289.results.toList = [.tmp 10, .tmp 11] := rfl
@[simp] theorem nt292 : Tryz.f292.ntmps = 14 := rfl
@[simp] theorem rs292 : Tryz.f292.results.toList = [.tmp 2] := rfl
@[simp] theorem nt293 : Tryz.f293.ntmps = 14 := rfl
@[simp] theorem rs293 : Tryz.f293.results.toList = [.tmp 2] := rfl
@[simp] theorem nt300 : Tryz.f300.ntmps = 81 := rfl
@[simp] theorem rs300 : Tryz.f300.results.toList = [.tmp 4] := rfl
@[simp] theorem nt304 : Tryz.f304.ntmps = 39 := rfl
@[simp] theorem rs304 : Tryz.f304.results.toList = [.tmp 2, .tmp 3] := rfl
@[simp] theorem nt329 : Tryz.f329.ntmps = 1 := rfl
@[simp] theorem rs329 : Tryz.f329.results.toList = [] := rfl
@[simp] theorem ag65 : agg? Tryz.prog 65 = some true := by kernel_rfl
@[simp] theorem sz65 {β : Type} (k : Nat → Option β) : szOf Tryz.prog 65 k = k 5 := by kernel_rfl
@[simp] theorem ze65 {β : Type} (k : List V → Option β) : zero Tryz.prog 65 k = k [.int .i64 0, .int .i64 0, .int .i64 0, .int .i64 0, .c (.slice none 0 0)] := by kernel_rfl
@[simp] theorem ze81 {β : Type} (k : List V → Option β) : zero Tryz.prog 81 k = k [.int .i64 0, .int .i64 0, .int .i64 0, .int .i64 0, .c (.slice none 0 0)] := by kernel_rfl
@[simp] theorem ag90 : agg? Tryz.prog 90 = some false := by kernel_rfl
@[simp] theorem sz90 {β : Type} (k : Nat → Option β) : szOf Tryz.prog 90 k = k 1 := by kernel_rfl
@[simp] theorem ag92 : agg? Tryz.prog 92 = some true := by kernel_rfl
@[simp] theorem sz92 {β : Type} (k : Nat → Option β) : szOf Tryz.prog 92 k = k 5 := by kernel_rfl
@[simp] theorem ze92 {β : Type} (k : List V → Option β) : zero Tryz.prog 92 k = k [.int .i64 0, .int .i64 0, .int .i64 0, .c (.slice none 0 0), .c (.slice none 0 0)] := by kernel_rfl
theorem io92 : infoOk Tryz.prog 92 5 = true := by kernel_rfl
@[simp] theorem ag93 : agg? Tryz.prog 93 = some false := by kernel_rfl
@[simp] theorem sz93 {β : Type} (k : Nat → Option β) : szOf Tryz.prog 93 k = k 1 := by kernel_rfl
@[simp] theorem ze95 {β : Type} (k : List V → Option β) : zero Tryz.prog 95 k = k [.c (.slice none 0 0)] := by kernel_rfl
@[simp] theorem ag104 : agg? Tryz.prog 104 = some true := by kernel_rfl
@[simp] theorem sz104 {β : Type} (k : Nat → Option β) : szOf Tryz.prog 104 k = k 4 := by kernel_rfl
@[simp] theorem ze104 {β : Type} (k : List V → Option β) : zero Tryz.prog 104 k = k [.int .i64 0, .int .i64 0, .c (.slice none 0 0), .c (.slice none 0 0)] := by kernel_rfl
theorem io104 : infoOk Tryz.prog 104 4 = true := by kernel_rfl
@[simp] theorem ze109 {β : Type} (k : List V → Option β) : zero Tryz.prog 109 k = k [.s [], .int .i64 0] := by kernel_rfl
theorem io109 : infoOk Tryz.prog 109 2 = true := by kernel_rfl
@[simp] theorem ag132 : agg? Tryz.prog 132 = some true := by kernel_rfl
@[simp] theorem sz132 {β : Type} (k : Nat → Option β) : szOf Tryz.prog 132 k = k 5 := by kernel_rfl
@[simp] theorem ze132 {β : Type} (k : List V → Option β) : zero Tryz.prog 132 k = k [.int .i64 0, .int .i64 0, .int .i64 0, .int .i64 0, .int .u64 0] := by kernel_rfl
@[simp] theorem un36 : Tryz.prog.underlying 36 = some (.slice 104) := by kernel_rfl
@[simp] theorem ln36 (c : Cx) (st : St) (x : V) : builtinE Tryz.prog c .len [36] [x] st = lenS st x := len_slice un36 x
@[simp] theorem iy36 {β : Type} (m o len w i : Nat) (k : V → Option β) : idxE Tryz.prog 36 (.sg m o len w) i k = if i < len then k (.p m (o + i * 4)) else none := idxE_sg un36 (fun k => sz104 k) m o len w i k
@[simp] theorem el36 {β : Type} (k : TypeId → Nat → Option β) : Ev.elemOf Tryz.prog 36 k = k 104 4 := by kernel_rfl
@[simp] theorem fk65_0 (k : Nat → Nat → Res) : fieldK Tryz.prog 65 0 k = k 4 0 := by kernel_rfl
@[simp] theorem fk65_1 (k : Nat → Nat → Res) : fieldK Tryz.prog 65 1 k = k 1 4 := by kernel_rfl
@[simp] theorem fk81_0 (k : Nat → Nat → Res) : fieldK Tryz.prog 81 0 k = k 4 0 := by kernel_rfl
@[simp] theorem fk81_1 (k : Nat → Nat → Res) : fieldK Tryz.prog 81 1 k = k 1 4 := by kernel_rfl
@[simp] theorem un90 : Tryz.prog.underlying 90 = some (.slice 109) := by kernel_rfl
@[simp] theorem ln90 (c : Cx) (st : St) (x : V) : builtinE Tryz.prog c .len [90] [x] st = lenS st x := len_slice un90 x
theorem so92 : structOk Tryz.prog 92 [(0, 1), (1, 1), (2, 1), (3, 1), (4, 1)] = true := by kernel_rfl
@[simp] theorem bl92 (x0 x1 x2 x3 x4 : Operand) (a0 a1 a2 a3 a4 : V) (st : St) (h0 : a0.one = true) (h1 : a1.one = true) (h2 : a2.one = true) (h3 : a3.one = true) (h4 : a4.one = true) : bldK Tryz.prog 92 [(0, x0), (1, x1), (2, x2), (3, x3), (4, x4)] [a0, a1, a2, a3, a4] [.int .i64 0, .int .i64 0, .int .i64 0, .c (.slice none 0 0), .c (.slice none 0 0)] st = some (.g [a0, a1, a2, a3, a4], st) := by
  rw [bldK_ok so92, partsK_one rfl h0 (by simp), partsK_one rfl h1 (by simp), partsK_one rfl h2 (by simp), partsK_one rfl h3 (by simp), partsK_one rfl h4 (by simp)]; rfl
@[simp] theorem fk92_0 (k : Nat → Nat → Res) : fieldK Tryz.prog 92 0 k = k 1 0 := by kernel_rfl
@[simp] theorem fk92_1 (k : Nat → Nat → Res) : fieldK Tryz.prog 92 1 k = k 1 1 := by kernel_rfl
@[simp] theorem fk92_3 (k : Nat → Nat → Res) : fieldK Tryz.prog 92 3 k = k 1 3 := by kernel_rfl
@[simp] theorem fk92_4 (k : Nat → Nat → Res) : fieldK Tryz.prog 92 4 k = k 1 4 := by kernel_rfl
@[simp] theorem un93 : Tryz.prog.underlying 93 = some (.slice 92) := by kernel_rfl
@[simp] theorem ln93 (c : Cx) (st : St) (x : V) : builtinE Tryz.prog c .len [93] [x] st = lenS st x := len_slice un93 x
@[simp] theorem ix93 {β : Type} (m o len cap i : Nat) (k : V → Option β) : idxE Tryz.prog 93 (.sl m o len cap) i k = if i < len then k (.p m (o + i * 5)) else none := idxE_sl un93 (fun k => sz92 k) m o len cap i k
@[simp] theorem el93 {β : Type} (k : TypeId → Nat → Option β) : Ev.elemOf Tryz.prog 93 k = k 92 5 := by kernel_rfl
theorem so95 : structOk Tryz.prog 95 [(0, 1)] = true := by kernel_rfl
@[simp] theorem bl95 (x0 : Operand) (a0 : V) (st : St) (h0 : a0.one = true) : bldK Tryz.prog 95 [(0, x0)] [a0] [.c (.slice none 0 0)] st = some (.g [a0], st) := by
  rw [bldK_ok so95, partsK_one rfl h0 (by simp)]; rfl
@[simp] theorem fk95_0 (k : Nat → Nat → Res) : fieldK Tryz.prog 95 0 k = k 1 0 := by kernel_rfl
theorem so104 : structOk Tryz.prog 104 [(0, 1), (1, 1), (2, 1), (3, 1)] = true := by kernel_rfl
@[simp] theorem bl104 (x0 x1 x2 x3 : Operand) (a0 a1 a2 a3 : V) (st : St) (h0 : a0.one = true) (h1 : a1.one = true) (h2 : a2.one = true) (h3 : a3.one = true) : bldK Tryz.prog 104 [(0, x0), (1, x1), (2, x2), (3, x3)] [a0, a1, a2, a3] [.int .i64 0, .int .i64 0, .c (.slice none 0 0), .c (.slice none 0 0)] st = some (.g [a0, a1, a2, a3], st) := by
  rw [bldK_ok so104, partsK_one rfl h0 (by simp), partsK_one rfl h1 (by simp), partsK_one rfl h2 (by simp), partsK_one rfl h3 (by simp)]; rfl
@[simp] theorem fk104_0 (k : Nat → Nat → Res) : fieldK Tryz.prog 104 0 k = k 1 0 := by kernel_rfl
@[simp] theorem fk104_1 (k : Nat → Nat → Res) : fieldK Tryz.prog 104 1 k = k 1 1 := by kernel_rfl
@[simp] theorem fk104_2 (k : Nat → Nat → Res) : fieldK Tryz.prog 104 2 k = k 1 2 := by kernel_rfl
@[simp] theorem fk104_3 (k : Nat → Nat → Res) : fieldK Tryz.prog 104 3 k = k 1 3 := by kernel_rfl
theorem so109 : structOk Tryz.prog 109 [(0, 1), (1, 1)] = true := by kernel_rfl
@[simp] theorem bl109 (x0 x1 : Operand) (a0 a1 : V) (st : St) (h0 : a0.one = true) (h1 : a1.one = true) : bldK Tryz.prog 109 [(0, x0), (1, x1)] [a0, a1] [.s [], .int .i64 0] st = some (.g [a0, a1], st) := by
  rw [bldK_ok so109, partsK_one rfl h0 (by simp), partsK_one rfl h1 (by simp)]; rfl
@[simp] theorem bz132 (st : St) : bldK Tryz.prog 132 [] [] [.int .i64 0, .int .i64 0, .int .i64 0, .int .i64 0, .int .u64 0] st = some (.g [.int .i64 0, .int .i64 0, .int .i64 0, .int .i64 0, .int .u64 0], st) := by kernel_rfl
theorem so132 : structOk Tryz.prog 132 [(0, 4), (4, 1)] = true := by kernel_rfl
@[simp] theorem fk132_0 (k : Nat → Nat → Res) : fieldK Tryz.prog 132 0 k = k 4 0 := by kernel_rfl
@[simp] theorem fk132_1 (k : Nat → Nat → Res) : fieldK Tryz.prog 132 1 k = k 1 4 := by kernel_rfl
@[simp] theorem un223 : Tryz.prog.underlying 223 = some (.slice 60) := by kernel_rfl
@[simp] theorem ln223 (c : Cx) (st : St) (x : V) : builtinE Tryz.prog c .len [223] [x] st = lenS st x := len_slice un223 x
@[simp] theorem el223 {β : Type} (k : TypeId → Nat → Option β) : Ev.elemOf Tryz.prog 223 k = k 60 1 := by kernel_rfl
@[simp] theorem un226 : Tryz.prog.underlying 226 = some (.slice 229) := by kernel_rfl
@[simp] theorem ln226 (c : Cx) (st : St) (x : V) : builtinE Tryz.prog c .len [226] [x] st = lenS st x := len_slice un226 x
@[simp] theorem el226 {β : Type} (k : TypeId → Nat → Option β) : Ev.elemOf Tryz.prog 226 k = k 229 2 := by kernel_rfl
end Go.Proofs.YtgcpgidofikcdaaGreatDoor

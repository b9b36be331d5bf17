/-
  PLAIN: what the program's own tables say, as rules for rewriting.
-/
import Derived.Test.YtdoennkmcloalaaChecked
import Derived.Test.YtdoennkmcloalaaSb
namespace Go.Proofs.Ytdoennkmcloalaa
open Go.RowKit Ev
-- lintel/lintellaw1.WordSays
@[simp] theorem nt3 : Try.f3.ntmps = 116 := rfl
@[simp] theorem rs3 : Try.f3.results.toList = [.tmp 12] := rfl
@[simp] theorem xt3 : ext? Try.prog 3 = none := by kernel_rfl
-- lintel/lintellaw8.NodeSays
@[simp] theorem nt4 : Try.f4.ntmps = 106 := rfl
@[simp] theorem rs4 : Try.f4.results.toList = [.tmp 6] := rfl
@[simp] theorem xt4 : ext? Try.prog 4 = none := by kernel_rfl
-- lintel/lintellaw9.SlotSays
@[simp] theorem nt5 : Try.f5.ntmps = 67 := rfl
@[simp] theorem rs5 : Try.f5.results.toList = [.tmp 4] := rfl
@[simp] theorem xt5 : ext? Try.prog 5 = none := by kernel_rfl
-- lintel/lintellaw9.SlotOne
@[simp] theorem nt6 : Try.f6.ntmps = 71 := rfl
@[simp] theorem rs6 : Try.f6.results.toList = [.tmp 6] := rfl
@[simp] theorem xt6 : ext? Try.prog 6 = none := by kernel_rfl
-- lintel/lintellaw9.SlotNames
@[simp] theorem nt7 : Try.f7.ntmps = 36 := rfl
@[simp] theorem rs7 : Try.f7.results.toList = [.tmp 4] := rfl
@[simp] theorem xt7 : ext? Try.prog 7 = none := by kernel_rfl
-- lintel/lintellaw10.RunsMerged
@[simp] theorem nt8 : Try.f8.ntmps = 97 := rfl
@[simp] theorem rs8 : Try.f8.results.toList = [.tmp 4] := rfl
@[simp] theorem xt8 : ext? Try.prog 8 = none := by kernel_rfl
-- lintel/lintellaw12.PoolPlays
@[simp] theorem nt9 : Try.f9.ntmps = 354 := rfl
@[simp] theorem rs9 : Try.f9.results.toList = [.tmp 4] := rfl
@[simp] theorem xt9 : ext? Try.prog 9 = none := by kernel_rfl
-- lintel/lintellaw12.PoolGroups
@[simp] theorem nt10 : Try.f10.ntmps = 109 := rfl
@[simp] theorem rs10 : Try.f10.results.toList = [.tmp 4] := rfl
@[simp] theorem xt10 : ext? Try.prog 10 = none := by kernel_rfl
-- lintel/lintellaw12.PoolBack
@[simp] theorem nt11 : Try.f11.ntmps = 90 := rfl
@[simp] theorem rs11 : Try.f11.results.toList = [.tmp 2] := rfl
@[simp] theorem xt11 : ext? Try.prog 11 = none := by kernel_rfl
-- lintel/lintellaw14.BookFalls
@[simp] theorem nt12 : Try.f12.ntmps = 156 := rfl
@[simp] theorem rs12 : Try.f12.results.toList = [.tmp 10] := rfl
@[simp] theorem xt12 : ext? Try.prog 12 = none := by kernel_rfl
-- lintel/lintellaw14.BookAgain
@[simp] theorem nt13 : Try.f13.ntmps = 107 := rfl
@[simp] theorem rs13 : Try.f13.results.toList = [.tmp 2] := rfl
@[simp] theorem xt13 : ext? Try.prog 13 = none := by kernel_rfl
-- lintel/lintellaw14.BookRoom
@[simp] theorem nt14 : Try.f14.ntmps = 75 := rfl
@[simp] theorem rs14 : Try.f14.results.toList = [.tmp 2] := rfl
@[simp] theorem xt14 : ext? Try.prog 14 = none := by kernel_rfl
-- lintel/lintellaw15.BooksPlays
@[simp] theorem nt15 : Try.f15.ntmps = 308 := rfl
@[simp] theorem rs15 : Try.f15.results.toList = [.tmp 4] := rfl
@[simp] theorem xt15 : ext? Try.prog 15 = none := by kernel_rfl
-- lintel/lintellaw15.BooksOrder
@[simp] theorem nt16 : Try.f16.ntmps = 118 := rfl
@[simp] theorem rs16 : Try.f16.results.toList = [.tmp 2] := rfl
@[simp] theorem xt16 : ext? Try.prog 16 = none := by kernel_rfl
-- lintel/lintellaw23.LockPlays
@[simp] theorem nt17 : Try.f17.ntmps = 267 := rfl
@[simp] theorem rs17 : Try.f17.results.toList = [.tmp 2] := rfl
@[simp] theorem xt17 : ext? Try.prog 17 = none := by kernel_rfl
-- lintel/lintellaw23.LockAlone
@[simp] theorem nt18 : Try.f18.ntmps = 105 := rfl
@[simp] theorem rs18 : Try.f18.results.toList = [.tmp 6] := rfl
@[simp] theorem xt18 : ext? Try.prog 18 = none := by kernel_rfl
-- lintel/lintellaw1.awake
@[simp] theorem nt19 : Try.f19.ntmps = 24 := rfl
@[simp] theorem rs19 : Try.f19.results.toList = [.tmp 0] := rfl
@[simp] theorem xt19 : ext? Try.prog 19 = none := by kernel_rfl
-- lintel/word.Put
@[simp] theorem nt20 : Try.f20.ntmps = 25 := rfl
@[simp] theorem rs20 : Try.f20.results.toList = [.tmp 6, .tmp 7] := rfl
@[simp] theorem xt20 : ext? Try.prog 20 = none := by kernel_rfl
-- lintel/lintelref1.Put
@[simp] theorem nt21 : Try.f21.ntmps = 40 := rfl
@[simp] theorem rs21 : Try.f21.results.toList = [.tmp 6, .tmp 7] := rfl
@[simp] theorem xt21 : ext? Try.prog 21 = none := by kernel_rfl
-- lintel/word.Get
@[simp] theorem nt22 : Try.f22.ntmps = 34 := rfl
@[simp] theorem rs22 : Try.f22.results.toList = [.tmp 4] := rfl
@[simp] theorem xt22 : ext? Try.prog 22 = none := by kernel_rfl
-- lintel/lintelref1.Get
@[simp] theorem nt23 : Try.f23.ntmps = 32 := rfl
@[simp] theorem rs23 : Try.f23.results.toList = [.tmp 4] := rfl
@[simp] theorem xt23 : ext? Try.prog 23 = none := by kernel_rfl
-- lintel/word.Bytes
@[simp] theorem nt24 : Try.f24.ntmps = 31 := rfl
@[simp] theorem rs24 : Try.f24.results.toList = [.tmp 2] := rfl
@[simp] theorem xt24 : ext? Try.prog 24 = none := by kernel_rfl
-- lintel/lintelref1.Bytes
@[simp] theorem nt25 : Try.f25.ntmps = 29 := rfl
@[simp] theorem rs25 : Try.f25.results.toList = [.tmp 2] := rfl
@[simp] theorem xt25 : ext? Try.prog 25 = none := by kernel_rfl
-- lintel/lintellaw1.same
@[simp] theorem nt26 : Try.f26.ntmps = 26 := rfl
@[simp] theorem rs26 : Try.f26.results.toList = [.tmp 4] := rfl
@[simp] theorem xt26 : ext? Try.prog 26 = none := by kernel_rfl
-- lintel/word.Words
@[simp] theorem nt27 : Try.f27.ntmps = 22 := rfl
@[simp] theorem rs27 : Try.f27.results.toList = [.tmp 2] := rfl
@[simp] theorem xt27 : ext? Try.prog 27 = none := by kernel_rfl
-- lintel/lintelref1.Words
@[simp] theorem nt28 : Try.f28.ntmps = 19 := rfl
@[simp] theorem rs28 : Try.f28.results.toList = [.tmp 2] := rfl
@[simp] theorem xt28 : ext? Try.prog 28 = none := by kernel_rfl
-- lintel/word.Field
@[simp] theorem nt29 : Try.f29.ntmps = 17 := rfl
@[simp] theorem rs29 : Try.f29.results.toList = [.tmp 6] := rfl
@[simp] theorem xt29 : ext? Try.prog 29 = none := by kernel_rfl
-- lintel/lintelref1.Field
@[simp] theorem nt30 : Try.f30.ntmps = 18 := rfl
@[simp] theorem rs30 : Try.f30.results.toList = [.tmp 6] := rfl
@[simp] theorem xt30 : ext? Try.prog 30 = none := by kernel_rfl
-- lintel/word.With
@[simp] theorem nt31 : Try.f31.ntmps = 27 := rfl
@[simp] theorem rs31 : Try.f31.results.toList = [.tmp 8] := rfl
@[simp] theorem xt31 : ext? Try.prog 31 = none := by kernel_rfl
-- lintel/lintelref1.With
@[simp] theorem nt32 : Try.f32.ntmps = 30 := rfl
@[simp] theorem rs32 : Try.f32.results.toList = [.tmp 8] := rfl
@[simp] theorem xt32 : ext? Try.prog 32 = none := by kernel_rfl
-- lintel/word.Turn
@[simp] theorem nt33 : Try.f33.ntmps = 9 := rfl
@[simp] theorem rs33 : Try.f33.results.toList = [.tmp 4] := rfl
@[simp] theorem xt33 : ext? Try.prog 33 = none := by kernel_rfl
-- lintel/lintelref1.Turn
@[simp] theorem nt34 : Try.f34.ntmps = 25 := rfl
@[simp] theorem rs34 : Try.f34.results.toList = [.tmp 4] := rfl
@[simp] theorem xt34 : ext? Try.prog 34 = none := by kernel_rfl
-- lintel/lintellaw8.awake
@[simp] theorem nt35 : Try.f35.ntmps = 37 := rfl
@[simp] theorem rs35 : Try.f35.results.toList = [.tmp 0] := rfl
@[simp] theorem xt35 : ext? Try.prog 35 = none := by kernel_rfl
-- lintel/lintellaw8.inode
@[simp] theorem nt36 : Try.f36.ntmps = 38 := rfl
@[simp] theorem rs36 : Try.f36.results.toList = [.cell 2 44] := rfl
@[simp] theorem xt36 : ext? Try.prog 36 = none := by kernel_rfl
-- lintel/node.Get
@[simp] theorem nt37 : Try.f37.ntmps = 55 := rfl
@[simp] theorem rs37 : Try.f37.results.toList = [.cell 2 41, .tmp 3] := rfl
@[simp] theorem xt37 : ext? Try.prog 37 = none := by kernel_rfl
-- lintel/lintelref6.GetNode
@[simp] theorem nt38 : Try.f38.ntmps = 66 := rfl
@[simp] theorem rs38 : Try.f38.results.toList = [.cell 2 44, .tmp 3] := rfl
@[simp] theorem xt38 : ext? Try.prog 38 = none := by kernel_rfl
-- lintel/node.Good
@[simp] theorem nt39 : Try.f39.ntmps = 38 := rfl
@[simp] theorem rs39 : Try.f39.results.toList = [.tmp 4] := rfl
@[simp] theorem xt39 : ext? Try.prog 39 = none := by kernel_rfl
-- lintel/lintelref6.GoodNode
@[simp] theorem nt40 : Try.f40.ntmps = 155 := rfl
@[simp] theorem rs40 : Try.f40.results.toList = [.tmp 4] := rfl
@[simp] theorem xt40 : ext? Try.prog 40 = none := by kernel_rfl
-- lintel/lintellaw8.own
@[simp] theorem nt41 : Try.f41.ntmps = 12 := rfl
@[simp] theorem rs41 : Try.f41.results.toList = [.cell 2 54] := rfl
@[simp] theorem xt41 : ext? Try.prog 41 = none := by kernel_rfl
-- lintel/lintellaw8.same
@[simp] theorem nt42 : Try.f42.ntmps = 26 := rfl
@[simp] theorem rs42 : Try.f42.results.toList = [.tmp 4] := rfl
@[simp] theorem xt42 : ext? Try.prog 42 = none := by kernel_rfl
-- lintel/node.Put
@[simp] theorem nt43 : Try.f43.ntmps = 56 := rfl
@[simp] theorem rs43 : Try.f43.results.toList = [.tmp 2] := rfl
@[simp] theorem xt43 : ext? Try.prog 43 = none := by kernel_rfl
-- lintel/lintelref6.PutNode
@[simp] theorem nt44 : Try.f44.ntmps = 113 := rfl
@[simp] theorem rs44 : Try.f44.results.toList = [.tmp 2] := rfl
@[simp] theorem xt44 : ext? Try.prog 44 = none := by kernel_rfl
-- lintel/lintellaw8.nodes
@[simp] theorem nt45 : Try.f45.ntmps = 52 := rfl
@[simp] theorem rs45 : Try.f45.results.toList = [.tmp 4] := rfl
@[simp] theorem xt45 : ext? Try.prog 45 = none := by kernel_rfl
-- lintel/node.Blocks
@[simp] theorem nt46 : Try.f46.ntmps = 19 := rfl
@[simp] theorem rs46 : Try.f46.results.toList = [.tmp 2] := rfl
@[simp] theorem xt46 : ext? Try.prog 46 = none := by kernel_rfl
-- lintel/lintelref6.Blocks
@[simp] theorem nt47 : Try.f47.ntmps = 21 := rfl
@[simp] theorem rs47 : Try.f47.results.toList = [.tmp 2] := rfl
@[simp] theorem xt47 : ext? Try.prog 47 = none := by kernel_rfl
-- lintel/node.Needs
@[simp] theorem nt48 : Try.f48.ntmps = 26 := rfl
@[simp] theorem rs48 : Try.f48.results.toList = [.tmp 2] := rfl
@[simp] theorem xt48 : ext? Try.prog 48 = none := by kernel_rfl
-- lintel/lintelref6.Needs
@[simp] theorem nt49 : Try.f49.ntmps = 24 := rfl
@[simp] theorem rs49 : Try.f49.results.toList = [.tmp 2] := rfl
@[simp] theorem xt49 : ext? Try.prog 49 = none := by kernel_rfl
-- lintel/lintellaw9.awake
@[simp] theorem nt50 : Try.f50.ntmps = 40 := rfl
@[simp] theorem rs50 : Try.f50.results.toList = [.tmp 0] := rfl
@[simp] theorem xt50 : ext? Try.prog 50 = none := by kernel_rfl
-- lintel/slot.Get
@[simp] theorem nt51 : Try.f51.ntmps = 55 := rfl
@[simp] theorem rs51 : Try.f51.results.toList = [.cell 2 63, .tmp 3] := rfl
@[simp] theorem xt51 : ext? Try.prog 51 = none := by kernel_rfl
-- lintel/lintelref6.GetSlot
@[simp] theorem nt52 : Try.f52.ntmps = 41 := rfl
@[simp] theorem rs52 : Try.f52.results.toList = [.cell 2 64, .tmp 3] := rfl
@[simp] theorem xt52 : ext? Try.prog 52 = none := by kernel_rfl
-- lintel/slot.Good
@[simp] theorem nt53 : Try.f53.ntmps = 40 := rfl
@[simp] theorem rs53 : Try.f53.results.toList = [.tmp 2] := rfl
@[simp] theorem xt53 : ext? Try.prog 53 = none := by kernel_rfl
-- lintel/lintelref6.GoodSlot
@[simp] theorem nt54 : Try.f54.ntmps = 26 := rfl
@[simp] theorem rs54 : Try.f54.results.toList = [.tmp 2] := rfl
@[simp] theorem xt54 : ext? Try.prog 54 = none := by kernel_rfl
-- lintel/lintellaw9.same
@[simp] theorem nt55 : Try.f55.ntmps = 26 := rfl
@[simp] theorem rs55 : Try.f55.results.toList = [.tmp 4] := rfl
@[simp] theorem xt55 : ext? Try.prog 55 = none := by kernel_rfl
-- lintel/slot.Put
@[simp] theorem nt56 : Try.f56.ntmps = 54 := rfl
@[simp] theorem rs56 : Try.f56.results.toList = [.tmp 2] := rfl
@[simp] theorem xt56 : ext? Try.prog 56 = none := by kernel_rfl
-- lintel/lintelref6.PutSlot
@[simp] theorem nt57 : Try.f57.ntmps = 36 := rfl
@[simp] theorem rs57 : Try.f57.results.toList = [.tmp 2] := rfl
@[simp] theorem xt57 : ext? Try.prog 57 = none := by kernel_rfl
-- lintel/lintellaw10.awake
@[simp] theorem nt58 : Try.f58.ntmps = 16 := rfl
@[simp] theorem rs58 : Try.f58.results.toList = [.tmp 0] := rfl
@[simp] theorem xt58 : ext? Try.prog 58 = none := by kernel_rfl
-- lintel/runs.Merge
@[simp] theorem nt59 : Try.f59.ntmps = 51 := rfl
@[simp] theorem rs59 : Try.f59.results.toList = [.tmp 2] := rfl
@[simp] theorem xt59 : ext? Try.prog 59 = none := by kernel_rfl
-- lintel/runs.Apart
@[simp] theorem nt60 : Try.f60.ntmps = 34 := rfl
@[simp] theorem rs60 : Try.f60.results.toList = [.tmp 2] := rfl
@[simp] theorem xt60 : ext? Try.prog 60 = none := by kernel_rfl
-- lintel/lintellaw10.alike
@[simp] theorem nt61 : Try.f61.ntmps = 26 := rfl
@[simp] theorem rs61 : Try.f61.results.toList = [.tmp 4] := rfl
@[simp] theorem xt61 : ext? Try.prog 61 = none := by kernel_rfl
-- lintel/lintellaw10.own
@[simp] theorem nt62 : Try.f62.ntmps = 26 := rfl
@[simp] theorem rs62 : Try.f62.results.toList = [.tmp 2] := rfl
@[simp] theorem xt62 : ext? Try.prog 62 = none := by kernel_rfl
-- lintel/runs.Total
@[simp] theorem nt63 : Try.f63.ntmps = 19 := rfl
@[simp] theorem rs63 : Try.f63.results.toList = [.tmp 2] := rfl
@[simp] theorem xt63 : ext? Try.prog 63 = none := by kernel_rfl
-- lintel/lintellaw12.awake
@[simp] theorem nt64 : Try.f64.ntmps = 42 := rfl
@[simp] theorem rs64 : Try.f64.results.toList = [.tmp 0] := rfl
@[simp] theorem xt64 : ext? Try.prog 64 = none := by kernel_rfl
-- lintel/geom.Good
@[simp] theorem nt65 : Try.f65.ntmps = 28 := rfl
@[simp] theorem rs65 : Try.f65.results.toList = [.tmp 2] := rfl
@[simp] theorem xt65 : ext? Try.prog 65 = none := by kernel_rfl
-- lintel/pool.New
@[simp] theorem nt66 : Try.f66.ntmps = 25 := rfl
@[simp] theorem rs66 : Try.f66.results.toList = [.tmp 4, .tmp 5] := rfl
@[simp] theorem xt66 : ext? Try.prog 66 = none := by kernel_rfl
-- lintel/lintellaw12.empty
@[simp] theorem nt67 : Try.f67.ntmps = 36 := rfl
@[simp] theorem rs67 : Try.f67.results.toList = [.cell 2 90] := rfl
@[simp] theorem xt67 : ext? Try.prog 67 = none := by kernel_rfl
-- lintel/geom.Data
@[simp] theorem nt68 : Try.f68.ntmps = 12 := rfl
@[simp] theorem rs68 : Try.f68.results.toList = [.tmp 2, .tmp 3] := rfl
@[simp] theorem xt68 : ext? Try.prog 68 = none := by kernel_rfl
-- (*lintel/pool.Pool).Take
@[simp] theorem nt69 : Try.f69.ntmps = 58 := rfl
@[simp] theorem rs69 : Try.f69.results.toList = [.tmp 8, .tmp 9] := rfl
@[simp] theorem xt69 : ext? Try.prog 69 = none := by kernel_rfl
-- lintel/lintellaw12.longest
@[simp] theorem nt70 : Try.f70.ntmps = 92 := rfl
@[simp] theorem rs70 : Try.f70.results.toList = [.tmp 10, .tmp 11] := rfl
@[simp] theorem xt70 : ext? Try.prog 70 = none := by kernel_rfl
-- lintel/lintelref6.Total
@[simp] theorem nt71 : Try.f71.ntmps = 7 := rfl
@[simp] theorem rs71 : Try.f71.results.toList = [.tmp 2] := rfl
@[simp] theorem xt71 : ext? Try.prog 71 = none := by kernel_rfl
-- lintel/lintellaw12.own
@[simp] theorem nt72 : Try.f72.ntmps = 26 := rfl
@[simp] theorem rs72 : Try.f72.results.toList = [.tmp 2] := rfl
@[simp] theorem xt72 : ext? Try.prog 72 = none := by kernel_rfl
-- lintel/lintellaw12.alike
@[simp] theorem nt73 : Try.f73.ntmps = 26 := rfl
@[simp] theorem rs73 : Try.f73.results.toList = [.tmp 4] := rfl
@[simp] theorem xt73 : ext? Try.prog 73 = none := by kernel_rfl
-- lintel/lintelref6.Merge
@[simp] theorem nt74 : Try.f74.ntmps = 64 := rfl
@[simp] theorem rs74 : Try.f74.results.toList = [.tmp 2] := rfl
@[simp] theorem xt74 : ext? Try.prog 74 = none := by kernel_rfl
-- lintel/lintelref6.Apart
@[simp] theorem nt75 : Try.f75.ntmps = 52 := rfl
@[simp] theorem rs75 : Try.f75.results.toList = [.tmp 2] := rfl
@[simp] theorem xt75 : ext? Try.prog 75 = none := by kernel_rfl
-- lintel/bits.Has
@[simp] theorem nt76 : Try.f76.ntmps = 21 := rfl
@[simp] theorem rs76 : Try.f76.results.toList = [.tmp 4] := rfl
@[simp] theorem xt76 : ext? Try.prog 76 = none := by kernel_rfl
-- lintel/bits.Set
@[simp] theorem nt77 : Try.f77.ntmps = 49 := rfl
@[simp] theorem rs77 : Try.f77.results.toList = [.cell 6 90] := rfl
@[simp] theorem xt77 : ext? Try.prog 77 = none := by kernel_rfl
-- (*lintel/pool.Pool).Give
@[simp] theorem nt78 : Try.f78.ntmps = 67 := rfl
@[simp] theorem rs78 : Try.f78.results.toList = [.tmp 4] := rfl
@[simp] theorem xt78 : ext? Try.prog 78 = none := by kernel_rfl
-- (*lintel/pool.Pool).Free
@[simp] theorem nt79 : Try.f79.ntmps = 6 := rfl
@[simp] theorem rs79 : Try.f79.results.toList = [.tmp 2] := rfl
@[simp] theorem xt79 : ext? Try.prog 79 = none := by kernel_rfl
-- (*lintel/pool.Pool).Bits
@[simp] theorem nt80 : Try.f80.ntmps = 8 := rfl
@[simp] theorem rs80 : Try.f80.results.toList = [.cell 2 90] := rfl
@[simp] theorem xt80 : ext? Try.prog 80 = none := by kernel_rfl
-- lintel/bits.Count
@[simp] theorem nt81 : Try.f81.ntmps = 19 := rfl
@[simp] theorem rs81 : Try.f81.results.toList = [.tmp 2] := rfl
@[simp] theorem xt81 : ext? Try.prog 81 = none := by kernel_rfl
-- (*lintel/pool.Pool).Group
@[simp] theorem nt82 : Try.f82.ntmps = 53 := rfl
@[simp] theorem rs82 : Try.f82.results.toList = [.tmp 4, .tmp 5] := rfl
@[simp] theorem xt82 : ext? Try.prog 82 = none := by kernel_rfl
-- lintel/geom.Plain
@[simp] theorem nt83 : Try.f83.ntmps = 5 := rfl
@[simp] theorem rs83 : Try.f83.results.toList = [.cell 2 38] := rfl
@[simp] theorem xt83 : ext? Try.prog 83 = none := by kernel_rfl
-- lintel/lintellaw14.awake
@[simp] theorem nt84 : Try.f84.ntmps = 75 := rfl
@[simp] theorem rs84 : Try.f84.results.toList = [.tmp 0] := rfl
@[simp] theorem xt84 : ext? Try.prog 84 = none := by kernel_rfl
-- lintel/lintellaw14.begun
@[simp] theorem nt85 : Try.f85.ntmps = 40 := rfl
@[simp] theorem rs85 : Try.f85.results.toList = [.cell 2 122, .tmp 3, .tmp 4] := rfl
@[simp] theorem xt85 : ext? Try.prog 85 = none := by kernel_rfl
-- (lintel/book.Book).Keep
@[simp] theorem nt86 : Try.f86.ntmps = 45 := rfl
@[simp] theorem rs86 : Try.f86.results.toList = [.tmp 4] := rfl
@[simp] theorem xt86 : ext? Try.prog 86 = none := by kernel_rfl
-- (*lintel/pmem.Mem).Fuse
@[simp] theorem nt87 : Try.f87.ntmps = 19 := rfl
@[simp] theorem rs87 : Try.f87.results.toList = [] := rfl
@[simp] theorem xt87 : ext? Try.prog 87 = none := by kernel_rfl
-- (lintel/book.Book).Clear
@[simp] theorem nt88 : Try.f88.ntmps = 7 := rfl
@[simp] theorem rs88 : Try.f88.results.toList = [.tmp 2] := rfl
@[simp] theorem xt88 : ext? Try.prog 88 = none := by kernel_rfl
-- (*lintel/pmem.Mem).Off
@[simp] theorem nt89 : Try.f89.ntmps = 7 := rfl
@[simp] theorem rs89 : Try.f89.results.toList = [.tmp 2] := rfl
@[simp] theorem xt89 : ext? Try.prog 89 = none := by kernel_rfl
-- (*lintel/pmem.Mem).Crash
@[simp] theorem nt90 : Try.f90.ntmps = 47 := rfl
@[simp] theorem rs90 : Try.f90.results.toList = [] := rfl
@[simp] theorem xt90 : ext? Try.prog 90 = none := by kernel_rfl
-- (*lintel/pmem.Mem).On
@[simp] theorem nt91 : Try.f91.ntmps = 5 := rfl
@[simp] theorem rs91 : Try.f91.results.toList = [] := rfl
@[simp] theorem xt91 : ext? Try.prog 91 = none := by kernel_rfl
-- (lintel/book.Book).Read
@[simp] theorem nt92 : Try.f92.ntmps = 42 := rfl
@[simp] theorem rs92 : Try.f92.results.toList = [.cell 2 126, .tmp 3, .tmp 4] := rfl
@[simp] theorem xt92 : ext? Try.prog 92 = none := by kernel_rfl
-- lintel/lintellaw14.equal
@[simp] theorem nt93 : Try.f93.ntmps = 26 := rfl
@[simp] theorem rs93 : Try.f93.results.toList = [.tmp 4] := rfl
@[simp] theorem xt93 : ext? Try.prog 93 = none := by kernel_rfl
-- lintel/lintellaw14.writes
@[simp] theorem nt94 : Try.f94.ntmps = 26 := rfl
@[simp] theorem rs94 : Try.f94.results.toList = [.tmp 2] := rfl
@[simp] theorem xt94 : ext? Try.prog 94 = none := by kernel_rfl
-- lintel/redo.Size
@[simp] theorem nt95 : Try.f95.ntmps = 6 := rfl
@[simp] theorem rs95 : Try.f95.results.toList = [.tmp 2] := rfl
@[simp] theorem xt95 : ext? Try.prog 95 = none := by kernel_rfl
-- (lintel/book.Book).Room
@[simp] theorem nt96 : Try.f96.ntmps = 20 := rfl
@[simp] theorem rs96 : Try.f96.results.toList = [.tmp 2] := rfl
@[simp] theorem xt96 : ext? Try.prog 96 = none := by kernel_rfl
-- lintel/lintellaw15.awake
@[simp] theorem nt97 : Try.f97.ntmps = 63 := rfl
@[simp] theorem rs97 : Try.f97.results.toList = [.tmp 0] := rfl
@[simp] theorem xt97 : ext? Try.prog 97 = none := by kernel_rfl
-- lintel/lintellaw15.shelf
@[simp] theorem nt98 : Try.f98.ntmps = 47 := rfl
@[simp] theorem rs98 : Try.f98.results.toList = [.tmp 4, .tmp 5] := rfl
@[simp] theorem xt98 : ext? Try.prog 98 = none := by kernel_rfl
-- lintel/books.Open
@[simp] theorem nt99 : Try.f99.ntmps = 49 := rfl
@[simp] theorem rs99 : Try.f99.results.toList = [.tmp 2, .tmp 3] := rfl
@[simp] theorem xt99 : ext? Try.prog 99 = none := by kernel_rfl
-- lintel/lintellaw15.writes
@[simp] theorem nt100 : Try.f100.ntmps = 26 := rfl
@[simp] theorem rs100 : Try.f100.results.toList = [.tmp 2] := rfl
@[simp] theorem xt100 : ext? Try.prog 100 = none := by kernel_rfl
-- lintel/lintelref6.PutRec
@[simp] theorem nt101 : Try.f101.ntmps = 65 := rfl
@[simp] theorem rs101 : Try.f101.results.toList = [.tmp 2] := rfl
@[simp] theorem xt101 : ext? Try.prog 101 = none := by kernel_rfl
-- (*lintel/books.Books).Keep
@[simp] theorem nt102 : Try.f102.ntmps = 35 := rfl
@[simp] theorem rs102 : Try.f102.results.toList = [.tmp 6, .tmp 7] := rfl
@[simp] theorem xt102 : ext? Try.prog 102 = none := by kernel_rfl
-- (*lintel/books.Books).Done
@[simp] theorem nt103 : Try.f103.ntmps = 17 := rfl
@[simp] theorem rs103 : Try.f103.results.toList = [.tmp 4] := rfl
@[simp] theorem xt103 : ext? Try.prog 103 = none := by kernel_rfl
-- (*lintel/books.Books).All
@[simp] theorem nt104 : Try.f104.ntmps = 33 := rfl
@[simp] theorem rs104 : Try.f104.results.toList = [.tmp 2] := rfl
@[simp] theorem xt104 : ext? Try.prog 104 = none := by kernel_rfl
-- (*lintel/books.Books).Held
@[simp] theorem nt105 : Try.f105.ntmps = 32 := rfl
@[simp] theorem rs105 : Try.f105.results.toList = [.tmp 2] := rfl
@[simp] theorem xt105 : ext? Try.prog 105 = none := by kernel_rfl
-- (*lintel/books.Books).Next
@[simp] theorem nt106 : Try.f106.ntmps = 17 := rfl
@[simp] theorem rs106 : Try.f106.results.toList = [.tmp 2] := rfl
@[simp] theorem xt106 : ext? Try.prog 106 = none := by kernel_rfl
-- lintel/lintellaw15.equal
@[simp] theorem nt107 : Try.f107.ntmps = 26 := rfl
@[simp] theorem rs107 : Try.f107.results.toList = [.tmp 4] := rfl
@[simp] theorem xt107 : ext? Try.prog 107 = none := by kernel_rfl
-- lintel/lintellaw23.awake
@[simp] theorem nt108 : Try.f108.ntmps = 42 := rfl
@[simp] theorem rs108 : Try.f108.results.toList = [.tmp 0] := rfl
@[simp] theorem xt108 : ext? Try.prog 108 = none := by kernel_rfl
-- lintel/lock.New
@[simp] theorem nt109 : Try.f109.ntmps = 5 := rfl
@[simp] theorem rs109 : Try.f109.results.toList = [.tmp 0] := rfl
@[simp] theorem xt109 : ext? Try.prog 109 = none := by kernel_rfl
-- (*lintel/lock.Table).Give
@[simp] theorem nt110 : Try.f110.ntmps = 64 := rfl
@[simp] theorem rs110 : Try.f110.results.toList = [] := rfl
@[simp] theorem xt110 : ext? Try.prog 110 = none := by kernel_rfl
-- (*lintel/lock.Table).May
@[simp] theorem nt111 : Try.f111.ntmps = 12 := rfl
@[simp] theorem rs111 : Try.f111.results.toList = [.tmp 6] := rfl
@[simp] theorem xt111 : ext? Try.prog 111 = none := by kernel_rfl
-- (*lintel/lock.Table).Take
@[simp] theorem nt112 : Try.f112.ntmps = 63 := rfl
@[simp] theorem rs112 : Try.f112.results.toList = [.tmp 6] := rfl
@[simp] theorem xt112 : ext? Try.prog 112 = none := by kernel_rfl
-- (*lintel/lock.Table).Holds
@[simp] theorem nt113 : Try.f113.ntmps = 12 := rfl
@[simp] theorem rs113 : Try.f113.results.toList = [.tmp 4] := rfl
@[simp] theorem xt113 : ext? Try.prog 113 = none := by kernel_rfl
-- (*lintel/lock.Table).Who
@[simp] theorem nt114 : Try.f114.ntmps = 13 := rfl
@[simp] theorem rs114 : Try.f114.results.toList = [.tmp 4] := rfl
@[simp] theorem xt114 : ext? Try.prog 114 = none := by kernel_rfl
-- bytes.Clone
@[simp] theorem nt115 : Try.f115.ntmps = 8 := rfl
@[simp] theorem rs115 : Try.f115.results.toList = [.tmp 2] := rfl
@[simp] theorem xt115 : ext? Try.prog 115 = none := by kernel_rfl
-- lintel/word.has
@[simp] theorem nt116 : Try.f116.ntmps = 14 := rfl
@[simp] theorem rs116 : Try.f116.results.toList = [.tmp 4] := rfl
@[simp] theorem xt116 : ext? Try.prog 116 = none := by kernel_rfl
-- lintel/word.fits
@[simp] theorem nt117 : Try.f117.ntmps = 21 := rfl
@[simp] theorem rs117 : Try.f117.results.toList = [.tmp 4] := rfl
@[simp] theorem xt117 : ext? Try.prog 117 = none := by kernel_rfl
-- lintel/word.mask
@[simp] theorem nt118 : Try.f118.ntmps = 6 := rfl
@[simp] theorem rs118 : Try.f118.results.toList = [.tmp 2] := rfl
@[simp] theorem xt118 : ext? Try.prog 118 = none := by kernel_rfl
-- lintel/lintelref1.may
@[simp] theorem nt119 : Try.f119.ntmps = 21 := rfl
@[simp] theorem rs119 : Try.f119.results.toList = [.tmp 4] := rfl
@[simp] theorem xt119 : ext? Try.prog 119 = none := by kernel_rfl
-- lintel/lintelref1.mask
@[simp] theorem nt120 : Try.f120.ntmps = 9 := rfl
@[simp] theorem rs120 : Try.f120.results.toList = [.tmp 2] := rfl
@[simp] theorem xt120 : ext? Try.prog 120 = none := by kernel_rfl
-- math/bits.RotateLeft64
@[simp] theorem nt121 : Try.f121.ntmps = 17 := rfl
@[simp] theorem rs121 : Try.f121.results.toList = [.tmp 4] := rfl
@[simp] theorem xt121 : ext? Try.prog 121 = none := by kernel_rfl
-- slices.Equal[[]uint64,uint64]
@[simp] theorem nt122 : Try.f122.ntmps = 26 := rfl
@[simp] theorem rs122 : Try.f122.results.toList = [.tmp 4] := rfl
@[simp] theorem xt122 : ext? Try.prog 122 = none := by kernel_rfl
-- lintel/lintelref6.Same
@[simp] theorem nt123 : Try.f123.ntmps = 26 := rfl
@[simp] theorem rs123 : Try.f123.results.toList = [.tmp 4] := rfl
@[simp] theorem xt123 : ext? Try.prog 123 = none := by kernel_rfl
-- lintel/node.nothing
@[simp] theorem nt124 : Try.f124.ntmps = 17 := rfl
@[simp] theorem rs124 : Try.f124.results.toList = [.tmp 2] := rfl
@[simp] theorem xt124 : ext? Try.prog 124 = none := by kernel_rfl
-- lintel/node.between
@[simp] theorem nt125 : Try.f125.ntmps = 15 := rfl
@[simp] theorem rs125 : Try.f125.results.toList = [.tmp 6] := rfl
@[simp] theorem xt125 : ext? Try.prog 125 = none := by kernel_rfl
-- lintel/node.sized
@[simp] theorem nt126 : Try.f126.ntmps = 23 := rfl
@[simp] theorem rs126 : Try.f126.results.toList = [.tmp 4] := rfl
@[simp] theorem xt126 : ext? Try.prog 126 = none := by kernel_rfl
-- lintel/node.placed
@[simp] theorem nt127 : Try.f127.ntmps = 101 := rfl
@[simp] theorem rs127 : Try.f127.results.toList = [.tmp 4] := rfl
@[simp] theorem xt127 : ext? Try.prog 127 = none := by kernel_rfl
-- lintel/lintelref6.Good
@[simp] theorem nt128 : Try.f128.ntmps = 57 := rfl
@[simp] theorem rs128 : Try.f128.results.toList = [.tmp 2] := rfl
@[simp] theorem xt128 : ext? Try.prog 128 = none := by kernel_rfl
-- lintel/lintelref6.zero
@[simp] theorem nt129 : Try.f129.ntmps = 22 := rfl
@[simp] theorem rs129 : Try.f129.results.toList = [.tmp 2] := rfl
@[simp] theorem xt129 : ext? Try.prog 129 = none := by kernel_rfl
-- lintel/lintelref6.Data
@[simp] theorem nt130 : Try.f130.ntmps = 24 := rfl
@[simp] theorem rs130 : Try.f130.results.toList = [.tmp 2, .tmp 3] := rfl
@[simp] theorem xt130 : ext? Try.prog 130 = none := by kernel_rfl
-- lintel/lintelref6.IsLost
@[simp] theorem nt131 : Try.f131.ntmps = 31 := rfl
@[simp] theorem rs131 : Try.f131.results.toList = [.tmp 4] := rfl
@[simp] theorem xt131 : ext? Try.prog 131 = none := by kernel_rfl
-- lintel/node.fits
@[simp] theorem nt132 : Try.f132.ntmps = 50 := rfl
@[simp] theorem rs132 : Try.f132.results.toList = [.tmp 2] := rfl
@[simp] theorem xt132 : ext? Try.prog 132 = none := by kernel_rfl
-- lintel/seal.Of
@[simp] theorem nt133 : Try.f133.ntmps = 5 := rfl
@[simp] theorem rs133 : Try.f133.results.toList = [.tmp 2] := rfl
@[simp] theorem xt133 : ext? Try.prog 133 = none := by kernel_rfl
-- lintel/lintelref1.Of
@[simp] theorem nt134 : Try.f134.ntmps = 5 := rfl
@[simp] theorem rs134 : Try.f134.results.toList = [.tmp 2] := rfl
@[simp] theorem xt134 : ext? Try.prog 134 = none := by kernel_rfl
-- strings.ContainsAny
@[simp] theorem nt135 : Try.f135.ntmps = 9 := rfl
@[simp] theorem rs135 : Try.f135.results.toList = [.tmp 4] := rfl
@[simp] theorem xt135 : ext? Try.prog 135 = none := by kernel_rfl
-- lintel/lintelref6.Name
@[simp] theorem nt136 : Try.f136.ntmps = 36 := rfl
@[simp] theorem rs136 : Try.f136.results.toList = [.tmp 2] := rfl
@[simp] theorem xt136 : ext? Try.prog 136 = none := by kernel_rfl
-- lintel/runs.Add
@[simp] theorem nt137 : Try.f137.ntmps = 10 := rfl
@[simp] theorem rs137 : Try.f137.results.toList = [.tmp 4] := rfl
@[simp] theorem xt137 : ext? Try.prog 137 = none := by kernel_rfl
-- lintel/runs.counted
@[simp] theorem nt138 : Try.f138.ntmps = 36 := rfl
@[simp] theorem rs138 : Try.f138.results.toList = [.tmp 2] := rfl
@[simp] theorem xt138 : ext? Try.prog 138 = none := by kernel_rfl
-- slices.SortFunc[[]lintel/node.Run,lintel/node.Run]
@[simp] theorem nt139 : Try.f139.ntmps = 14 := rfl
@[simp] theorem rs139 : Try.f139.results.toList = [] := rfl
@[simp] theorem xt139 : ext? Try.prog 139 = none := by kernel_rfl
-- lintel/runs.Apart$1
@[simp] theorem nt140 : Try.f140.ntmps = 10 := rfl
@[simp] theorem rs140 : Try.f140.results.toList = [.tmp 4] := rfl
@[simp] theorem xt140 : ext? Try.prog 140 = none := by kernel_rfl
-- cmp.Compare[int]
@[simp] theorem nt141 : Try.f141.ntmps = 20 := rfl
@[simp] theorem rs141 : Try.f141.results.toList = [.tmp 4] := rfl
@[simp] theorem xt141 : ext? Try.prog 141 = none := by kernel_rfl
-- lintel/geom.between
@[simp] theorem nt142 : Try.f142.ntmps = 15 := rfl
@[simp] theorem rs142 : Try.f142.results.toList = [.tmp 6] := rfl
@[simp] theorem xt142 : ext? Try.prog 142 = none := by kernel_rfl
-- lintel/geom.lay
@[simp] theorem nt143 : Try.f143.ntmps = 48 := rfl
@[simp] theorem rs143 : Try.f143.results.toList = [.cell 2 200] := rfl
@[simp] theorem xt143 : ext? Try.prog 143 = none := by kernel_rfl
-- lintel/pool.copied
@[simp] theorem nt144 : Try.f144.ntmps = 7 := rfl
@[simp] theorem rs144 : Try.f144.results.toList = [.cell 2 90] := rfl
@[simp] theorem xt144 : ext? Try.prog 144 = none := by kernel_rfl
-- lintel/bits.New
@[simp] theorem nt145 : Try.f145.ntmps = 12 := rfl
@[simp] theorem rs145 : Try.f145.results.toList = [.cell 2 90] := rfl
@[simp] theorem xt145 : ext? Try.prog 145 = none := by kernel_rfl
-- lintel/geom.whole
@[simp] theorem nt146 : Try.f146.ntmps = 9 := rfl
@[simp] theorem rs146 : Try.f146.results.toList = [.cell 2 200] := rfl
@[simp] theorem xt146 : ext? Try.prog 146 = none := by kernel_rfl
-- (*lintel/pool.Pool).one
@[simp] theorem nt147 : Try.f147.ntmps = 56 := rfl
@[simp] theorem rs147 : Try.f147.results.toList = [.tmp 6] := rfl
@[simp] theorem xt147 : ext? Try.prog 147 = none := by kernel_rfl
-- (*lintel/pool.Pool).fewest
@[simp] theorem nt148 : Try.f148.ntmps = 17 := rfl
@[simp] theorem rs148 : Try.f148.results.toList = [.tmp 4] := rfl
@[simp] theorem xt148 : ext? Try.prog 148 = none := by kernel_rfl
-- (*lintel/pool.Pool).mark
@[simp] theorem nt149 : Try.f149.ntmps = 40 := rfl
@[simp] theorem rs149 : Try.f149.results.toList = [] := rfl
@[simp] theorem xt149 : ext? Try.prog 149 = none := by kernel_rfl
-- lintel/lintelref6.counts
@[simp] theorem nt150 : Try.f150.ntmps = 49 := rfl
@[simp] theorem rs150 : Try.f150.results.toList = [.tmp 2] := rfl
@[simp] theorem xt150 : ext? Try.prog 150 = none := by kernel_rfl
-- lintel/bits.there
@[simp] theorem nt151 : Try.f151.ntmps = 15 := rfl
@[simp] theorem rs151 : Try.f151.results.toList = [.tmp 4] := rfl
@[simp] theorem xt151 : ext? Try.prog 151 = none := by kernel_rfl
-- slices.Clone[[]uint64,uint64]
@[simp] theorem nt152 : Try.f152.ntmps = 8 := rfl
@[simp] theorem rs152 : Try.f152.results.toList = [.tmp 2] := rfl
@[simp] theorem xt152 : ext? Try.prog 152 = none := by kernel_rfl
-- (*lintel/pool.Pool).data
@[simp] theorem nt153 : Try.f153.ntmps = 17 := rfl
@[simp] theorem rs153 : Try.f153.results.toList = [.tmp 2, .tmp 3] := rfl
@[simp] theorem xt153 : ext? Try.prog 153 = none := by kernel_rfl
-- lintel/bits.Next
@[simp] theorem nt154 : Try.f154.ntmps = 30 := rfl
@[simp] theorem rs154 : Try.f154.results.toList = [.tmp 8, .tmp 9] := rfl
@[simp] theorem xt154 : ext? Try.prog 154 = none := by kernel_rfl
-- (*lintel/pool.Pool).gaps
@[simp] theorem nt155 : Try.f155.ntmps = 47 := rfl
@[simp] theorem rs155 : Try.f155.results.toList = [.tmp 2] := rfl
@[simp] theorem xt155 : ext? Try.prog 155 = none := by kernel_rfl
-- math/bits.OnesCount64
@[simp] theorem nt156 : Try.f156.ntmps = 35 := rfl
@[simp] theorem rs156 : Try.f156.results.toList = [.tmp 2] := rfl
@[simp] theorem xt156 : ext? Try.prog 156 = none := by kernel_rfl
-- lintel/pmem.New
@[simp] theorem nt157 : Try.f157.ntmps = 16 := rfl
@[simp] theorem rs157 : Try.f157.results.toList = [.tmp 2, .tmp 3] := rfl
@[simp] theorem xt157 : ext? Try.prog 157 = none := by kernel_rfl
-- lintel/span.Of
@[simp] theorem nt158 : Try.f158.ntmps = 23 := rfl
@[simp] theorem rs158 : Try.f158.results.toList = [.cell 6 120, .tmp 7] := rfl
@[simp] theorem xt158 : ext? Try.prog 158 = none := by kernel_rfl
-- lintel/book.New
@[simp] theorem nt159 : Try.f159.ntmps = 8 := rfl
@[simp] theorem rs159 : Try.f159.results.toList = [.cell 4 122] := rfl
@[simp] theorem xt159 : ext? Try.prog 159 = none := by kernel_rfl
-- lintel/redo.Put
@[simp] theorem nt160 : Try.f160.ntmps = 37 := rfl
@[simp] theorem rs160 : Try.f160.results.toList = [.tmp 2] := rfl
@[simp] theorem xt160 : ext? Try.prog 160 = none := by kernel_rfl
-- (lintel/book.Book).words
@[simp] theorem nt161 : Try.f161.ntmps = 8 := rfl
@[simp] theorem rs161 : Try.f161.results.toList = [.tmp 2] := rfl
@[simp] theorem xt161 : ext? Try.prog 161 = none := by kernel_rfl
-- (lintel/span.Span).Word
@[simp] theorem nt162 : Try.f162.ntmps = 18 := rfl
@[simp] theorem rs162 : Try.f162.results.toList = [.tmp 4, .tmp 5] := rfl
@[simp] theorem xt162 : ext? Try.prog 162 = none := by kernel_rfl
-- (lintel/span.Span).Push
@[simp] theorem nt163 : Try.f163.ntmps = 65 := rfl
@[simp] theorem rs163 : Try.f163.results.toList = [.tmp 6] := rfl
@[simp] theorem xt163 : ext? Try.prog 163 = none := by kernel_rfl
-- (*lintel/line.Line).Open
@[simp] theorem nt164 : Try.f164.ntmps = 8 := rfl
@[simp] theorem rs164 : Try.f164.results.toList = [.tmp 2] := rfl
@[simp] theorem xt164 : ext? Try.prog 164 = none := by kernel_rfl
-- (*lintel/line.Line).Fall
@[simp] theorem nt165 : Try.f165.ntmps = 27 := rfl
@[simp] theorem rs165 : Try.f165.results.toList = [] := rfl
@[simp] theorem xt165 : ext? Try.prog 165 = none := by kernel_rfl
-- (lintel/span.Span).All
@[simp] theorem nt166 : Try.f166.ntmps = 35 := rfl
@[simp] theorem rs166 : Try.f166.results.toList = [.tmp 2, .tmp 3] := rfl
@[simp] theorem xt166 : ext? Try.prog 166 = none := by kernel_rfl
-- lintel/redo.Get
@[simp] theorem nt167 : Try.f167.ntmps = 66 := rfl
@[simp] theorem rs167 : Try.f167.results.toList = [.cell 2 126, .tmp 3] := rfl
@[simp] theorem xt167 : ext? Try.prog 167 = none := by kernel_rfl
-- slices.Clone[[]lintel/book.Book,lintel/book.Book]
@[simp] theorem nt168 : Try.f168.ntmps = 8 := rfl
@[simp] theorem rs168 : Try.f168.results.toList = [.tmp 2] := rfl
@[simp] theorem xt168 : ext? Try.prog 168 = none := by kernel_rfl
-- (*lintel/books.Books).has
@[simp] theorem nt169 : Try.f169.ntmps = 16 := rfl
@[simp] theorem rs169 : Try.f169.results.toList = [.tmp 4] := rfl
@[simp] theorem xt169 : ext? Try.prog 169 = none := by kernel_rfl
-- slices.SortStableFunc[[]lintel/redo.Rec,lintel/redo.Rec]
@[simp] theorem nt170 : Try.f170.ntmps = 9 := rfl
@[simp] theorem rs170 : Try.f170.results.toList = [] := rfl
@[simp] theorem xt170 : ext? Try.prog 170 = none := by kernel_rfl
-- (*lintel/books.Books).All$1
@[simp] theorem nt171 : Try.f171.ntmps = 10 := rfl
@[simp] theorem rs171 : Try.f171.results.toList = [.tmp 4] := rfl
@[simp] theorem xt171 : ext? Try.prog 171 = none := by kernel_rfl
-- cmp.Compare[uint64]
@[simp] theorem nt172 : Try.f172.ntmps = 20 := rfl
@[simp] theorem rs172 : Try.f172.results.toList = [.tmp 4] := rfl
@[simp] theorem xt172 : ext? Try.prog 172 = none := by kernel_rfl
-- slices.BinarySearch[[]int,int]
@[simp] theorem nt173 : Try.f173.ntmps = 54 := rfl
@[simp] theorem rs173 : Try.f173.results.toList = [.tmp 4, .tmp 5] := rfl
@[simp] theorem xt173 : ext? Try.prog 173 = none := by kernel_rfl
-- slices.Delete[[]int,int]
@[simp] theorem nt174 : Try.f174.ntmps = 33 := rfl
@[simp] theorem rs174 : Try.f174.results.toList = [.tmp 6] := rfl
@[simp] theorem xt174 : ext? Try.prog 174 = none := by kernel_rfl
-- (*lintel/lock.Table).refuses
@[simp] theorem nt175 : Try.f175.ntmps = 69 := rfl
@[simp] theorem rs175 : Try.f175.results.toList = [.tmp 6] := rfl
@[simp] theorem xt175 : ext? Try.prog 175 = none := by kernel_rfl
-- slices.Clone[[]lintel/lock.Want,lintel/lock.Want]
@[simp] theorem nt176 : Try.f176.ntmps = 8 := rfl
@[simp] theorem rs176 : Try.f176.results.toList = [.tmp 2] := rfl
@[simp] theorem xt176 : ext? Try.prog 176 = none := by kernel_rfl
-- slices.Insert[[]int,int]
@[simp] theorem nt177 : Try.f177.ntmps = 95 := rfl
@[simp] theorem rs177 : Try.f177.results.toList = [.tmp 6] := rfl
@[simp] theorem xt177 : ext? Try.prog 177 = none := by kernel_rfl
-- slices.Clone[[]int,int]
@[simp] theorem nt178 : Try.f178.ntmps = 8 := rfl
@[simp] theorem rs178 : Try.f178.results.toList = [.tmp 2] := rfl
@[simp] theorem xt178 : ext? Try.prog 178 = none := by kernel_rfl
-- lintel/node.lost
@[simp] theorem nt179 : Try.f179.ntmps = 13 := rfl
@[simp] theorem rs179 : Try.f179.results.toList = [.cell 2 47] := rfl
@[simp] theorem xt179 : ext? Try.prog 179 = none := by kernel_rfl
-- lintel/lintelref6.bitBlocks
@[simp] theorem nt180 : Try.f180.ntmps = 7 := rfl
@[simp] theorem rs180 : Try.f180.results.toList = [.tmp 2] := rfl
@[simp] theorem xt180 : ext? Try.prog 180 = none := by kernel_rfl
-- lintel/lintelref6.Lost
@[simp] theorem nt181 : Try.f181.ntmps = 14 := rfl
@[simp] theorem rs181 : Try.f181.results.toList = [.tmp 2, .tmp 3] := rfl
@[simp] theorem xt181 : ext? Try.prog 181 = none := by kernel_rfl
-- lintel/seal.On
@[simp] theorem nt182 : Try.f182.ntmps = 19 := rfl
@[simp] theorem rs182 : Try.f182.results.toList = [.tmp 4] := rfl
@[simp] theorem xt182 : ext? Try.prog 182 = none := by kernel_rfl
-- lintel/lintelref1.Seal
@[simp] theorem nt183 : Try.f183.ntmps = 20 := rfl
@[simp] theorem rs183 : Try.f183.results.toList = [.tmp 4] := rfl
@[simp] theorem xt183 : ext? Try.prog 183 = none := by kernel_rfl
-- strings.IndexAny
@[simp] theorem nt184 : Try.f184.ntmps = 55 := rfl
@[simp] theorem rs184 : Try.f184.results.toList = [.tmp 4] := rfl
@[simp] theorem xt184 : ext? Try.prog 184 = none := by kernel_rfl
-- slices.Concat[[]lintel/node.Run,lintel/node.Run]
@[simp] theorem nt185 : Try.f185.ntmps = 36 := rfl
@[simp] theorem rs185 : Try.f185.results.toList = [.tmp 2] := rfl
@[simp] theorem xt185 : ext? Try.prog 185 = none := by kernel_rfl
-- slices.pdqsortCmpFunc[lintel/node.Run]
@[simp] theorem nt186 : Try.f186.ntmps = 148 := rfl
@[simp] theorem rs186 : Try.f186.results.toList = [] := rfl
@[simp] theorem xt186 : ext? Try.prog 186 = none := by kernel_rfl
-- math/bits.Len
@[simp] theorem nt187 : Try.f187.ntmps = 8 := rfl
@[simp] theorem rs187 : Try.f187.results.toList = [.tmp 2] := rfl
@[simp] theorem xt187 : ext? Try.prog 187 = none := by kernel_rfl
-- cmp.isNaN[int]
@[simp] theorem nt188 : Try.f188.ntmps = 6 := rfl
@[simp] theorem rs188 : Try.f188.results.toList = [.tmp 2] := rfl
@[simp] theorem xt188 : ext? Try.prog 188 = none := by kernel_rfl
-- (lintel/geom.part).end
@[simp] theorem nt189 : Try.f189.ntmps = 8 := rfl
@[simp] theorem rs189 : Try.f189.results.toList = [.tmp 2] := rfl
@[simp] theorem xt189 : ext? Try.prog 189 = none := by kernel_rfl
-- lintel/bits.Free
@[simp] theorem nt190 : Try.f190.ntmps = 39 := rfl
@[simp] theorem rs190 : Try.f190.results.toList = [.tmp 8, .tmp 9] := rfl
@[simp] theorem xt190 : ext? Try.prog 190 = none := by kernel_rfl
-- slices.SortStableFunc[[]lintel/node.Run,lintel/node.Run]
@[simp] theorem nt191 : Try.f191.ntmps = 9 := rfl
@[simp] theorem rs191 : Try.f191.results.toList = [] := rfl
@[simp] theorem xt191 : ext? Try.prog 191 = none := by kernel_rfl
-- (*lintel/pool.Pool).fewest$1
@[simp] theorem nt192 : Try.f192.ntmps = 10 := rfl
@[simp] theorem rs192 : Try.f192.results.toList = [.tmp 4] := rfl
@[simp] theorem xt192 : ext? Try.prog 192 = none := by kernel_rfl
-- lintel/runs.Cut
@[simp] theorem nt193 : Try.f193.ntmps = 18 := rfl
@[simp] theorem rs193 : Try.f193.results.toList = [.tmp 4, .tmp 5] := rfl
@[simp] theorem xt193 : ext? Try.prog 193 = none := by kernel_rfl
-- lintel/bits.within
@[simp] theorem nt194 : Try.f194.ntmps = 16 := rfl
@[simp] theorem rs194 : Try.f194.results.toList = [.tmp 6, .tmp 7] := rfl
@[simp] theorem xt194 : ext? Try.prog 194 = none := by kernel_rfl
-- lintel/pmem.From
@[simp] theorem nt195 : Try.f195.ntmps = 48 := rfl
@[simp] theorem rs195 : Try.f195.results.toList = [.tmp 2, .tmp 3] := rfl
@[simp] theorem xt195 : ext? Try.prog 195 = none := by kernel_rfl
-- lintel/span.within
@[simp] theorem nt196 : Try.f196.ntmps = 25 := rfl
@[simp] theorem rs196 : Try.f196.results.toList = [.tmp 6] := rfl
@[simp] theorem xt196 : ext? Try.prog 196 = none := by kernel_rfl
-- (*lintel/pmem.Mem).Lines
@[simp] theorem nt197 : Try.f197.ntmps = 8 := rfl
@[simp] theorem rs197 : Try.f197.results.toList = [.tmp 2] := rfl
@[simp] theorem xt197 : ext? Try.prog 197 = none := by kernel_rfl
-- lintel/redo.fits
@[simp] theorem nt198 : Try.f198.ntmps = 30 := rfl
@[simp] theorem rs198 : Try.f198.results.toList = [.tmp 2] := rfl
@[simp] theorem xt198 : ext? Try.prog 198 = none := by kernel_rfl
-- (lintel/span.Span).has
@[simp] theorem nt199 : Try.f199.ntmps = 43 := rfl
@[simp] theorem rs199 : Try.f199.results.toList = [.tmp 6] := rfl
@[simp] theorem xt199 : ext? Try.prog 199 = none := by kernel_rfl
-- (*lintel/pmem.Mem).Load
@[simp] theorem nt200 : Try.f200.ntmps = 22 := rfl
@[simp] theorem rs200 : Try.f200.results.toList = [.tmp 4, .tmp 5] := rfl
@[simp] theorem xt200 : ext? Try.prog 200 = none := by kernel_rfl
-- (lintel/span.Span).place
@[simp] theorem nt201 : Try.f201.ntmps = 10 := rfl
@[simp] theorem rs201 : Try.f201.results.toList = [.tmp 4] := rfl
@[simp] theorem xt201 : ext? Try.prog 201 = none := by kernel_rfl
-- (lintel/span.Span).Set
@[simp] theorem nt202 : Try.f202.ntmps = 18 := rfl
@[simp] theorem rs202 : Try.f202.results.toList = [.tmp 6] := rfl
@[simp] theorem xt202 : ext? Try.prog 202 = none := by kernel_rfl
-- (*lintel/pmem.Mem).Flush
@[simp] theorem nt203 : Try.f203.ntmps = 55 := rfl
@[simp] theorem rs203 : Try.f203.results.toList = [.tmp 4] := rfl
@[simp] theorem xt203 : ext? Try.prog 203 = none := by kernel_rfl
-- (*lintel/pmem.Mem).Fence
@[simp] theorem nt204 : Try.f204.ntmps = 32 := rfl
@[simp] theorem rs204 : Try.f204.results.toList = [.tmp 2] := rfl
@[simp] theorem xt204 : ext? Try.prog 204 = none := by kernel_rfl
-- (*lintel/line.Line).settle
@[simp] theorem nt205 : Try.f205.ntmps = 26 := rfl
@[simp] theorem rs205 : Try.f205.results.toList = [] := rfl
@[simp] theorem xt205 : ext? Try.prog 205 = none := by kernel_rfl
-- lintel/seal.Fits
@[simp] theorem nt206 : Try.f206.ntmps = 20 := rfl
@[simp] theorem rs206 : Try.f206.results.toList = [.tmp 2] := rfl
@[simp] theorem xt206 : ext? Try.prog 206 = none := by kernel_rfl
-- slices.stableCmpFunc[lintel/redo.Rec]
@[simp] theorem nt207 : Try.f207.ntmps = 63 := rfl
@[simp] theorem rs207 : Try.f207.results.toList = [] := rfl
@[simp] theorem xt207 : ext? Try.prog 207 = none := by kernel_rfl
-- cmp.isNaN[uint64]
@[simp] theorem nt208 : Try.f208.ntmps = 6 := rfl
@[simp] theorem rs208 : Try.f208.results.toList = [.tmp 2] := rfl
@[simp] theorem xt208 : ext? Try.prog 208 = none := by kernel_rfl
-- cmp.Less[int]
@[simp] theorem nt209 : Try.f209.ntmps = 17 := rfl
@[simp] theorem rs209 : Try.f209.results.toList = [.tmp 4] := rfl
@[simp] theorem xt209 : ext? Try.prog 209 = none := by kernel_rfl
-- slices.isNaN[int]
@[simp] theorem nt210 : Try.f210.ntmps = 6 := rfl
@[simp] theorem rs210 : Try.f210.results.toList = [.tmp 2] := rfl
@[simp] theorem xt210 : ext? Try.prog 210 = none := by kernel_rfl
-- slices.overlaps[int]
@[simp] theorem nt211 : Try.f211.ntmps = 2 := rfl
@[simp] theorem rs211 : Try.f211.results.toList = [] := rfl
-- slices.rotateRight[int]
@[simp] theorem nt212 : Try.f212.ntmps = 10 := rfl
@[simp] theorem rs212 : Try.f212.results.toList = [] := rfl
@[simp] theorem xt212 : ext? Try.prog 212 = none := by kernel_rfl
-- lintel/geom.Lost
@[simp] theorem nt213 : Try.f213.ntmps = 12 := rfl
@[simp] theorem rs213 : Try.f213.results.toList = [.tmp 2, .tmp 3] := rfl
@[simp] theorem xt213 : ext? Try.prog 213 = none := by kernel_rfl
-- lintel/lintelref6.Node
@[simp] theorem nt214 : Try.f214.ntmps = 31 := rfl
@[simp] theorem rs214 : Try.f214.results.toList = [.tmp 4] := rfl
@[simp] theorem xt214 : ext? Try.prog 214 = none := by kernel_rfl
-- strings.IndexRune
@[simp] theorem nt215 : Try.f215.ntmps = 187 := rfl
@[simp] theorem rs215 : Try.f215.results.toList = [.tmp 4] := rfl
@[simp] theorem xt215 : ext? Try.prog 215 = none := by kernel_rfl
-- strings.shouldUseASCIISet
@[simp] theorem nt216 : Try.f216.ntmps = 5 := rfl
@[simp] theorem rs216 : Try.f216.results.toList = [.tmp 2] := rfl
@[simp] theorem xt216 : ext? Try.prog 216 = none := by kernel_rfl
-- strings.makeASCIISet
@[simp] theorem nt217 : Try.f217.ntmps = 21 := rfl
@[simp] theorem rs217 : Try.f217.results.toList = [.cell 2 279, .tmp 3] := rfl
@[simp] theorem xt217 : ext? Try.prog 217 = none := by kernel_rfl
-- (*strings.asciiSet).contains
@[simp] theorem nt218 : Try.f218.ntmps = 10 := rfl
@[simp] theorem rs218 : Try.f218.results.toList = [.tmp 4] := rfl
@[simp] theorem xt218 : ext? Try.prog 218 = none := by kernel_rfl
-- slices.Grow[[]lintel/node.Run,lintel/node.Run]
@[simp] theorem nt219 : Try.f219.ntmps = 27 := rfl
@[simp] theorem rs219 : Try.f219.results.toList = [.tmp 4] := rfl
@[simp] theorem xt219 : ext? Try.prog 219 = none := by kernel_rfl
-- slices.insertionSortCmpFunc[lintel/node.Run]
@[simp] theorem nt220 : Try.f220.ntmps = 53 := rfl
@[simp] theorem rs220 : Try.f220.results.toList = [] := rfl
@[simp] theorem xt220 : ext? Try.prog 220 = none := by kernel_rfl
-- slices.heapSortCmpFunc[lintel/node.Run]
@[simp] theorem nt221 : Try.f221.ntmps = 60 := rfl
@[simp] theorem rs221 : Try.f221.results.toList = [] := rfl
@[simp] theorem xt221 : ext? Try.prog 221 = none := by kernel_rfl
-- slices.breakPatternsCmpFunc[lintel/node.Run]
@[simp] theorem nt222 : Try.f222.ntmps = 67 := rfl
@[simp] theorem rs222 : Try.f222.results.toList = [] := rfl
@[simp] theorem xt222 : ext? Try.prog 222 = none := by kernel_rfl
-- slices.choosePivotCmpFunc[lintel/node.Run]
@[simp] theorem nt223 : Try.f223.ntmps = 63 := rfl
@[simp] theorem rs223 : Try.f223.results.toList = [.tmp 8, .tmp 9] := rfl
@[simp] theorem xt223 : ext? Try.prog 223 = none := by kernel_rfl
-- slices.reverseRangeCmpFunc[lintel/node.Run]
@[simp] theorem nt224 : Try.f224.ntmps = 34 := rfl
@[simp] theorem rs224 : Try.f224.results.toList = [] := rfl
@[simp] theorem xt224 : ext? Try.prog 224 = none := by kernel_rfl
-- slices.partialInsertionSortCmpFunc[lintel/node.Run]
@[simp] theorem nt225 : Try.f225.ntmps = 141 := rfl
@[simp] theorem rs225 : Try.f225.results.toList = [.tmp 8] := rfl
@[simp] theorem xt225 : ext? Try.prog 225 = none := by kernel_rfl
-- slices.partitionEqualCmpFunc[lintel/node.Run]
@[simp] theorem nt226 : Try.f226.ntmps = 90 := rfl
@[simp] theorem rs226 : Try.f226.results.toList = [.tmp 10] := rfl
@[simp] theorem xt226 : ext? Try.prog 226 = none := by kernel_rfl
-- slices.partitionCmpFunc[lintel/node.Run]
@[simp] theorem nt227 : Try.f227.ntmps = 178 := rfl
@[simp] theorem rs227 : Try.f227.results.toList = [.tmp 10, .tmp 11] := rfl
@[simp] theorem xt227 : ext? Try.prog 227 = none := by kernel_rfl
-- math/bits.Len32
@[simp] theorem nt228 : Try.f228.ntmps = 19 := rfl
@[simp] theorem rs228 : Try.f228.results.toList = [.tmp 2] := rfl
@[simp] theorem xt228 : ext? Try.prog 228 = none := by kernel_rfl
-- math/bits.Len64
@[simp] theorem nt229 : Try.f229.ntmps = 25 := rfl
@[simp] theorem rs229 : Try.f229.results.toList = [.tmp 2] := rfl
@[simp] theorem xt229 : ext? Try.prog 229 = none := by kernel_rfl
-- slices.stableCmpFunc[lintel/node.Run]
@[simp] theorem nt230 : Try.f230.ntmps = 63 := rfl
@[simp] theorem rs230 : Try.f230.results.toList = [] := rfl
@[simp] theorem xt230 : ext? Try.prog 230 = none := by kernel_rfl
-- lintel/runs.Split
@[simp] theorem nt231 : Try.f231.ntmps = 52 := rfl
@[simp] theorem rs231 : Try.f231.results.toList = [.tmp 4, .tmp 5] := rfl
@[simp] theorem xt231 : ext? Try.prog 231 = none := by kernel_rfl
-- lintel/line.New
@[simp] theorem nt232 : Try.f232.ntmps = 20 := rfl
@[simp] theorem rs232 : Try.f232.results.toList = [.tmp 2] := rfl
@[simp] theorem xt232 : ext? Try.prog 232 = none := by kernel_rfl
-- (*lintel/pmem.Mem).word
@[simp] theorem nt233 : Try.f233.ntmps = 33 := rfl
@[simp] theorem rs233 : Try.f233.results.toList = [.tmp 4, .tmp 5, .tmp 6] := rfl
@[simp] theorem xt233 : ext? Try.prog 233 = none := by kernel_rfl
-- (*lintel/line.Line).Load
@[simp] theorem nt234 : Try.f234.ntmps = 14 := rfl
@[simp] theorem rs234 : Try.f234.results.toList = [.tmp 4] := rfl
@[simp] theorem xt234 : ext? Try.prog 234 = none := by kernel_rfl
-- (*lintel/pmem.Mem).Store
@[simp] theorem nt235 : Try.f235.ntmps = 33 := rfl
@[simp] theorem rs235 : Try.f235.results.toList = [.tmp 6] := rfl
@[simp] theorem xt235 : ext? Try.prog 235 = none := by kernel_rfl
-- (*lintel/pmem.Mem).burns
@[simp] theorem nt236 : Try.f236.ntmps = 26 := rfl
@[simp] theorem rs236 : Try.f236.results.toList = [.tmp 2] := rfl
@[simp] theorem xt236 : ext? Try.prog 236 = none := by kernel_rfl
-- (*lintel/line.Line).Flush
@[simp] theorem nt237 : Try.f237.ntmps = 10 := rfl
@[simp] theorem rs237 : Try.f237.results.toList = [] := rfl
@[simp] theorem xt237 : ext? Try.prog 237 = none := by kernel_rfl
-- (*lintel/line.Line).Fence
@[simp] theorem nt238 : Try.f238.ntmps = 29 := rfl
@[simp] theorem rs238 : Try.f238.results.toList = [] := rfl
@[simp] theorem xt238 : ext? Try.prog 238 = none := by kernel_rfl
-- slices.insertionSortCmpFunc[lintel/redo.Rec]
@[simp] theorem nt239 : Try.f239.ntmps = 53 := rfl
@[simp] theorem rs239 : Try.f239.results.toList = [] := rfl
@[simp] theorem xt239 : ext? Try.prog 239 = none := by kernel_rfl
-- slices.symMergeCmpFunc[lintel/redo.Rec]
@[simp] theorem nt240 : Try.f240.ntmps = 220 := rfl
@[simp] theorem rs240 : Try.f240.results.toList = [] := rfl
@[simp] theorem xt240 : ext? Try.prog 240 = none := by kernel_rfl
-- slices.rotateLeft[int]
@[simp] theorem nt241 : Try.f241.ntmps = 14 := rfl
@[simp] theorem rs241 : Try.f241.results.toList = [] := rfl
@[simp] theorem xt241 : ext? Try.prog 241 = none := by kernel_rfl
-- lintel/lintelref6.Bits
@[simp] theorem nt242 : Try.f242.ntmps = 15 := rfl
@[simp] theorem rs242 : Try.f242.results.toList = [.tmp 2, .tmp 3] := rfl
@[simp] theorem xt242 : ext? Try.prog 242 = none := by kernel_rfl
-- strings.IndexByte
@[simp] theorem nt243 : Try.f243.ntmps = 8 := rfl
@[simp] theorem rs243 : Try.f243.results.toList = [.tmp 4] := rfl
@[simp] theorem xt243 : ext? Try.prog 243 = none := by kernel_rfl
-- unicode/utf8.ValidRune
@[simp] theorem nt244 : Try.f244.ntmps = 17 := rfl
@[simp] theorem rs244 : Try.f244.results.toList = [.tmp 2] := rfl
@[simp] theorem xt244 : ext? Try.prog 244 = none := by kernel_rfl
-- internal/bytealg.Cutover
@[simp] theorem nt245 : Try.f245.ntmps = 6 := rfl
@[simp] theorem rs245 : Try.f245.results.toList = [.tmp 2] := rfl
@[simp] theorem xt245 : ext? Try.prog 245 = none := by kernel_rfl
-- internal/bytealg.IndexString
@[simp] theorem nt246 : Try.f246.ntmps = 2 := rfl
@[simp] theorem rs246 : Try.f246.results.toList = [] := rfl
-- slices.siftDownCmpFunc[lintel/node.Run]
@[simp] theorem nt247 : Try.f247.ntmps = 82 := rfl
@[simp] theorem rs247 : Try.f247.results.toList = [] := rfl
@[simp] theorem xt247 : ext? Try.prog 247 = none := by kernel_rfl
-- slices.nextPowerOfTwo
@[simp] theorem nt248 : Try.f248.ntmps = 7 := rfl
@[simp] theorem rs248 : Try.f248.results.toList = [.tmp 2] := rfl
@[simp] theorem xt248 : ext? Try.prog 248 = none := by kernel_rfl
-- (*slices.xorshift).Next
@[simp] theorem nt249 : Try.f249.ntmps = 33 := rfl
@[simp] theorem rs249 : Try.f249.results.toList = [.tmp 2] := rfl
@[simp] theorem xt249 : ext? Try.prog 249 = none := by kernel_rfl
-- slices.medianAdjacentCmpFunc[lintel/node.Run]
@[simp] theorem nt250 : Try.f250.ntmps = 18 := rfl
@[simp] theorem rs250 : Try.f250.results.toList = [.tmp 8] := rfl
@[simp] theorem xt250 : ext? Try.prog 250 = none := by kernel_rfl
-- slices.medianCmpFunc[lintel/node.Run]
@[simp] theorem nt251 : Try.f251.ntmps = 41 := rfl
@[simp] theorem rs251 : Try.f251.results.toList = [.tmp 12] := rfl
@[simp] theorem xt251 : ext? Try.prog 251 = none := by kernel_rfl
-- slices.symMergeCmpFunc[lintel/node.Run]
@[simp] theorem nt252 : Try.f252.ntmps = 220 := rfl
@[simp] theorem rs252 : Try.f252.results.toList = [] := rfl
@[simp] theorem xt252 : ext? Try.prog 252 = none := by kernel_rfl
-- lintel/line.there
@[simp] theorem nt253 : Try.f253.ntmps = 9 := rfl
@[simp] theorem rs253 : Try.f253.results.toList = [.tmp 2] := rfl
@[simp] theorem xt253 : ext? Try.prog 253 = none := by kernel_rfl
-- (*lintel/line.Line).Store
@[simp] theorem nt254 : Try.f254.ntmps = 28 := rfl
@[simp] theorem rs254 : Try.f254.results.toList = [.tmp 6] := rfl
@[simp] theorem xt254 : ext? Try.prog 254 = none := by kernel_rfl
-- slices.rotateCmpFunc[lintel/redo.Rec]
@[simp] theorem nt255 : Try.f255.ntmps = 58 := rfl
@[simp] theorem rs255 : Try.f255.results.toList = [] := rfl
@[simp] theorem xt255 : ext? Try.prog 255 = none := by kernel_rfl
-- slices.Reverse[[]int,int]
@[simp] theorem nt256 : Try.f256.ntmps = 28 := rfl
@[simp] theorem rs256 : Try.f256.results.toList = [] := rfl
@[simp] theorem xt256 : ext? Try.prog 256 = none := by kernel_rfl
-- internal/stringslite.IndexByte
@[simp] theorem nt257 : Try.f257.ntmps = 8 := rfl
@[simp] theorem rs257 : Try.f257.results.toList = [.tmp 4] := rfl
@[simp] theorem xt257 : ext? Try.prog 257 = none := by kernel_rfl
-- slices.order2CmpFunc[lintel/node.Run]
@[simp] theorem nt258 : Try.f258.ntmps = 32 := rfl
@[simp] theorem rs258 : Try.f258.results.toList = [.tmp 10, .tmp 11] := rfl
@[simp] theorem xt258 : ext? Try.prog 258 = none := by kernel_rfl
-- slices.rotateCmpFunc[lintel/node.Run]
@[simp] theorem nt259 : Try.f259.ntmps = 58 := rfl
@[simp] theorem rs259 : Try.f259.results.toList = [] := rfl
@[simp] theorem xt259 : ext? Try.prog 259 = none := by kernel_rfl
-- slices.swapRangeCmpFunc[lintel/redo.Rec]
@[simp] theorem nt260 : Try.f260.ntmps = 38 := rfl
@[simp] theorem rs260 : Try.f260.results.toList = [] := rfl
@[simp] theorem xt260 : ext? Try.prog 260 = none := by kernel_rfl
-- internal/bytealg.IndexByteString
@[simp] theorem nt261 : Try.f261.ntmps = 2 := rfl
@[simp] theorem rs261 : Try.f261.results.toList = [] := rfl
-- slices.swapRangeCmpFunc[lintel/node.Run]
@[simp] theorem nt262 : Try.f262.ntmps = 38 := rfl
@[simp] theorem rs262 : Try.f262.results.toList = [] := rfl
@[simp] theorem xt262 : ext? Try.prog 262 = none := by kernel_rfl
@[simp] theorem ag2 : agg? Try.prog 2 = some false := by kernel_rfl
@[simp] theorem sz2 {β : Type} (k : Nat → Option β) : szOf Try.prog 2 k = k 1 := by kernel_rfl
@[simp] theorem ze2 {β : Type} (k : List V → Option β) : zero Try.prog 2 k = k [.int .i64 0] := by kernel_rfl
theorem io2 : infoOk Try.prog 2 1 = true := by kernel_rfl
@[simp] theorem ag3 : agg? Try.prog 3 = some false := by kernel_rfl
@[simp] theorem sz3 {β : Type} (k : Nat → Option β) : szOf Try.prog 3 k = k 1 := by kernel_rfl
@[simp] theorem ze3 {β : Type} (k : List V → Option β) : zero Try.prog 3 k = k [.int .i64 0] := by kernel_rfl
theorem io3 : infoOk Try.prog 3 1 = true := by kernel_rfl
@[simp] theorem ag4 : agg? Try.prog 4 = some false := by kernel_rfl
@[simp] theorem sz4 {β : Type} (k : Nat → Option β) : szOf Try.prog 4 k = k 1 := by kernel_rfl
@[simp] theorem ze4 {β : Type} (k : List V → Option β) : zero Try.prog 4 k = k [.bool false] := by kernel_rfl
theorem io4 : infoOk Try.prog 4 1 = true := by kernel_rfl
@[simp] theorem ag5 : agg? Try.prog 5 = some false := by kernel_rfl
@[simp] theorem sz5 {β : Type} (k : Nat → Option β) : szOf Try.prog 5 k = k 1 := by kernel_rfl
@[simp] theorem ze5 {β : Type} (k : List V → Option β) : zero Try.prog 5 k = k [.int .u8 0] := by kernel_rfl
theorem io5 : infoOk Try.prog 5 1 = true := by kernel_rfl
@[simp] theorem ag9 : agg? Try.prog 9 = some false := by kernel_rfl
@[simp] theorem sz9 {β : Type} (k : Nat → Option β) : szOf Try.prog 9 k = k 1 := by kernel_rfl
@[simp] theorem ze9 {β : Type} (k : List V → Option β) : zero Try.prog 9 k = k [.s []] := by kernel_rfl
theorem io9 : infoOk Try.prog 9 1 = true := by kernel_rfl
@[simp] theorem ag21 : agg? Try.prog 21 = some false := by kernel_rfl
@[simp] theorem sz21 {β : Type} (k : Nat → Option β) : szOf Try.prog 21 k = k 1 := by kernel_rfl
@[simp] theorem ze21 {β : Type} (k : List V → Option β) : zero Try.prog 21 k = k [.int .i32 0] := by kernel_rfl
theorem io21 : infoOk Try.prog 21 1 = true := by kernel_rfl
@[simp] theorem ag22 : agg? Try.prog 22 = some false := by kernel_rfl
@[simp] theorem sz22 {β : Type} (k : Nat → Option β) : szOf Try.prog 22 k = k 1 := by kernel_rfl
@[simp] theorem ze22 {β : Type} (k : List V → Option β) : zero Try.prog 22 k = k [.c (.slice none 0 0)] := by kernel_rfl
theorem io22 : infoOk Try.prog 22 1 = true := by kernel_rfl
@[simp] theorem ag23 : agg? Try.prog 23 = some false := by kernel_rfl
@[simp] theorem sz23 {β : Type} (k : Nat → Option β) : szOf Try.prog 23 k = k 1 := by kernel_rfl
@[simp] theorem ze23 {β : Type} (k : List V → Option β) : zero Try.prog 23 k = k [.c (.slice none 0 0)] := by kernel_rfl
theorem io23 : infoOk Try.prog 23 1 = true := by kernel_rfl
@[simp] theorem ag24 : agg? Try.prog 24 = some false := by kernel_rfl
@[simp] theorem sz24 {β : Type} (k : Nat → Option β) : szOf Try.prog 24 k = k 1 := by kernel_rfl
@[simp] theorem ze24 {β : Type} (k : List V → Option β) : zero Try.prog 24 k = k [.int .u64 0] := by kernel_rfl
theorem io24 : infoOk Try.prog 24 1 = true := by kernel_rfl
@[simp] theorem ag38 : agg? Try.prog 38 = some true := by kernel_rfl
@[simp] theorem sz38 {β : Type} (k : Nat → Option β) : szOf Try.prog 38 k = k 4 := by kernel_rfl
@[simp] theorem ze38 {β : Type} (k : List V → Option β) : zero Try.prog 38 k = k [.int .i64 0, .int .i64 0, .int .i64 0, .int .i64 0] := by kernel_rfl
theorem io38 : infoOk Try.prog 38 4 = true := by kernel_rfl
@[simp] theorem ag39 : agg? Try.prog 39 = some false := by kernel_rfl
@[simp] theorem sz39 {β : Type} (k : Nat → Option β) : szOf Try.prog 39 k = k 1 := by kernel_rfl
@[simp] theorem ze39 {β : Type} (k : List V → Option β) : zero Try.prog 39 k = k [.c (.slice none 0 0)] := by kernel_rfl
theorem io39 : infoOk Try.prog 39 1 = true := by kernel_rfl
@[simp] theorem ag41 : agg? Try.prog 41 = some true := by kernel_rfl
@[simp] theorem sz41 {β : Type} (k : Nat → Option β) : szOf Try.prog 41 k = k 4 := by kernel_rfl
@[simp] theorem ze41 {β : Type} (k : List V → Option β) : zero Try.prog 41 k = k [.int .i64 0, .int .i64 0, .int .i64 0, .c (.slice none 0 0)] := by kernel_rfl
theorem io41 : infoOk Try.prog 41 4 = true := by kernel_rfl
@[simp] theorem ag42 : agg? Try.prog 42 = some false := by kernel_rfl
@[simp] theorem sz42 {β : Type} (k : Nat → Option β) : szOf Try.prog 42 k = k 1 := by kernel_rfl
@[simp] theorem ze42 {β : Type} (k : List V → Option β) : zero Try.prog 42 k = k [.c (.slice none 0 0)] := by kernel_rfl
theorem io42 : infoOk Try.prog 42 1 = true := by kernel_rfl
@[simp] theorem ag44 : agg? Try.prog 44 = some true := by kernel_rfl
@[simp] theorem sz44 {β : Type} (k : Nat → Option β) : szOf Try.prog 44 k = k 4 := by kernel_rfl
@[simp] theorem ze44 {β : Type} (k : List V → Option β) : zero Try.prog 44 k = k [.int .i64 0, .int .i64 0, .int .i64 0, .c (.slice none 0 0)] := by kernel_rfl
theorem io44 : infoOk Try.prog 44 4 = true := by kernel_rfl
@[simp] theorem ag47 : agg? Try.prog 47 = some true := by kernel_rfl
@[simp] theorem sz47 {β : Type} (k : Nat → Option β) : szOf Try.prog 47 k = k 2 := by kernel_rfl
@[simp] theorem ze47 {β : Type} (k : List V → Option β) : zero Try.prog 47 k = k [.int .i64 0, .int .i64 0] := by kernel_rfl
theorem io47 : infoOk Try.prog 47 2 = true := by kernel_rfl
@[simp] theorem ag54 : agg? Try.prog 54 = some true := by kernel_rfl
@[simp] theorem sz54 {β : Type} (k : Nat → Option β) : szOf Try.prog 54 k = k 4 := by kernel_rfl
@[simp] theorem ze54 {β : Type} (k : List V → Option β) : zero Try.prog 54 k = k [.int .i64 0, .int .i64 0, .int .i64 0, .int .i64 0] := by kernel_rfl
theorem io54 : infoOk Try.prog 54 4 = true := by kernel_rfl
@[simp] theorem ag63 : agg? Try.prog 63 = some true := by kernel_rfl
@[simp] theorem sz63 {β : Type} (k : Nat → Option β) : szOf Try.prog 63 k = k 2 := by kernel_rfl
@[simp] theorem ze63 {β : Type} (k : List V → Option β) : zero Try.prog 63 k = k [.int .i64 0, .s []] := by kernel_rfl
theorem io63 : infoOk Try.prog 63 2 = true := by kernel_rfl
@[simp] theorem ag64 : agg? Try.prog 64 = some true := by kernel_rfl
@[simp] theorem sz64 {β : Type} (k : Nat → Option β) : szOf Try.prog 64 k = k 2 := by kernel_rfl
@[simp] theorem ze64 {β : Type} (k : List V → Option β) : zero Try.prog 64 k = k [.int .i64 0, .s []] := by kernel_rfl
theorem io64 : infoOk Try.prog 64 2 = true := by kernel_rfl
@[simp] theorem ag76 : agg? Try.prog 76 = some false := by kernel_rfl
@[simp] theorem sz76 {β : Type} (k : Nat → Option β) : szOf Try.prog 76 k = k 1 := by kernel_rfl
@[simp] theorem ze76 {β : Type} (k : List V → Option β) : zero Try.prog 76 k = k [.c (.slice none 0 0)] := by kernel_rfl
theorem io76 : infoOk Try.prog 76 1 = true := by kernel_rfl
@[simp] theorem ag83 : agg? Try.prog 83 = some false := by kernel_rfl
@[simp] theorem sz83 {β : Type} (k : Nat → Option β) : szOf Try.prog 83 k = k 1 := by kernel_rfl
@[simp] theorem ze83 {β : Type} (k : List V → Option β) : zero Try.prog 83 k = k [.c (.slice none 0 0)] := by kernel_rfl
theorem io83 : infoOk Try.prog 83 1 = true := by kernel_rfl
@[simp] theorem ag85 : agg? Try.prog 85 = some false := by kernel_rfl
@[simp] theorem sz85 {β : Type} (k : Nat → Option β) : szOf Try.prog 85 k = k 1 := by kernel_rfl
@[simp] theorem ze85 {β : Type} (k : List V → Option β) : zero Try.prog 85 k = k [.c (.pointer none)] := by kernel_rfl
theorem io85 : infoOk Try.prog 85 1 = true := by kernel_rfl
@[simp] theorem ag86 : agg? Try.prog 86 = some false := by kernel_rfl
@[simp] theorem sz86 {β : Type} (k : Nat → Option β) : szOf Try.prog 86 k = k 1 := by kernel_rfl
@[simp] theorem ze86 {β : Type} (k : List V → Option β) : zero Try.prog 86 k = k [.int .i64 0] := by kernel_rfl
theorem io86 : infoOk Try.prog 86 1 = true := by kernel_rfl
@[simp] theorem ag90 : agg? Try.prog 90 = some true := by kernel_rfl
@[simp] theorem sz90 {β : Type} (k : Nat → Option β) : szOf Try.prog 90 k = k 1 := by kernel_rfl
@[simp] theorem ze90 {β : Type} (k : List V → Option β) : zero Try.prog 90 k = k [.c (.slice none 0 0)] := by kernel_rfl
theorem io90 : infoOk Try.prog 90 1 = true := by kernel_rfl
@[simp] theorem ag94 : agg? Try.prog 94 = some false := by kernel_rfl
@[simp] theorem sz94 {β : Type} (k : Nat → Option β) : szOf Try.prog 94 k = k 1 := by kernel_rfl
@[simp] theorem ze94 {β : Type} (k : List V → Option β) : zero Try.prog 94 k = k [.c (.slice none 0 0)] := by kernel_rfl
theorem io94 : infoOk Try.prog 94 1 = true := by kernel_rfl
@[simp] theorem ag96 : agg? Try.prog 96 = some true := by kernel_rfl
@[simp] theorem sz96 {β : Type} (k : Nat → Option β) : szOf Try.prog 96 k = k 5 := by kernel_rfl
@[simp] theorem ze96 {β : Type} (k : List V → Option β) : zero Try.prog 96 k = k [.int .i64 0, .int .i64 0, .int .i64 0, .int .i64 0, .c (.slice none 0 0)] := by kernel_rfl
theorem io96 : infoOk Try.prog 96 5 = true := by kernel_rfl
@[simp] theorem ag115 : agg? Try.prog 115 = some false := by kernel_rfl
@[simp] theorem sz115 {β : Type} (k : Nat → Option β) : szOf Try.prog 115 k = k 1 := by kernel_rfl
@[simp] theorem ze115 {β : Type} (k : List V → Option β) : zero Try.prog 115 k = k [.c (.slice none 0 0)] := by kernel_rfl
theorem io115 : infoOk Try.prog 115 1 = true := by kernel_rfl
@[simp] theorem ag117 : agg? Try.prog 117 = some true := by kernel_rfl
@[simp] theorem sz117 {β : Type} (k : Nat → Option β) : szOf Try.prog 117 k = k 2 := by kernel_rfl
@[simp] theorem ze117 {β : Type} (k : List V → Option β) : zero Try.prog 117 k = k [.int .i64 0, .int .u64 0] := by kernel_rfl
theorem io117 : infoOk Try.prog 117 2 = true := by kernel_rfl
@[simp] theorem ag118 : agg? Try.prog 118 = some false := by kernel_rfl
@[simp] theorem sz118 {β : Type} (k : Nat → Option β) : szOf Try.prog 118 k = k 1 := by kernel_rfl
@[simp] theorem ze118 {β : Type} (k : List V → Option β) : zero Try.prog 118 k = k [.c (.pointer none)] := by kernel_rfl
theorem io118 : infoOk Try.prog 118 1 = true := by kernel_rfl
@[simp] theorem ag120 : agg? Try.prog 120 = some true := by kernel_rfl
@[simp] theorem sz120 {β : Type} (k : Nat → Option β) : szOf Try.prog 120 k = k 3 := by kernel_rfl
@[simp] theorem ze120 {β : Type} (k : List V → Option β) : zero Try.prog 120 k = k [.c (.pointer none), .int .i64 0, .int .i64 0] := by kernel_rfl
theorem io120 : infoOk Try.prog 120 3 = true := by kernel_rfl
@[simp] theorem ag122 : agg? Try.prog 122 = some true := by kernel_rfl
@[simp] theorem sz122 {β : Type} (k : Nat → Option β) : szOf Try.prog 122 k = k 4 := by kernel_rfl
@[simp] theorem ze122 {β : Type} (k : List V → Option β) : zero Try.prog 122 k = k [.c (.pointer none), .int .i64 0, .int .i64 0, .int .i64 0] := by kernel_rfl
theorem io122 : infoOk Try.prog 122 4 = true := by kernel_rfl
@[simp] theorem ag126 : agg? Try.prog 126 = some true := by kernel_rfl
@[simp] theorem sz126 {β : Type} (k : Nat → Option β) : szOf Try.prog 126 k = k 2 := by kernel_rfl
@[simp] theorem ze126 {β : Type} (k : List V → Option β) : zero Try.prog 126 k = k [.int .u64 0, .c (.slice none 0 0)] := by kernel_rfl
theorem io126 : infoOk Try.prog 126 2 = true := by kernel_rfl
@[simp] theorem ag134 : agg? Try.prog 134 = some false := by kernel_rfl
@[simp] theorem sz134 {β : Type} (k : Nat → Option β) : szOf Try.prog 134 k = k 1 := by kernel_rfl
@[simp] theorem ze134 {β : Type} (k : List V → Option β) : zero Try.prog 134 k = k [.c (.slice none 0 0)] := by kernel_rfl
theorem io134 : infoOk Try.prog 134 1 = true := by kernel_rfl
@[simp] theorem ag137 : agg? Try.prog 137 = some false := by kernel_rfl
@[simp] theorem sz137 {β : Type} (k : Nat → Option β) : szOf Try.prog 137 k = k 1 := by kernel_rfl
@[simp] theorem ze137 {β : Type} (k : List V → Option β) : zero Try.prog 137 k = k [.c (.slice none 0 0)] := by kernel_rfl
theorem io137 : infoOk Try.prog 137 1 = true := by kernel_rfl
@[simp] theorem ag141 : agg? Try.prog 141 = some false := by kernel_rfl
@[simp] theorem sz141 {β : Type} (k : Nat → Option β) : szOf Try.prog 141 k = k 1 := by kernel_rfl
@[simp] theorem ze141 {β : Type} (k : List V → Option β) : zero Try.prog 141 k = k [.c (.slice none 0 0)] := by kernel_rfl
theorem io141 : infoOk Try.prog 141 1 = true := by kernel_rfl
@[simp] theorem ag142 : agg? Try.prog 142 = some false := by kernel_rfl
@[simp] theorem sz142 {β : Type} (k : Nat → Option β) : szOf Try.prog 142 k = k 1 := by kernel_rfl
@[simp] theorem ze142 {β : Type} (k : List V → Option β) : zero Try.prog 142 k = k [.c (.slice none 0 0)] := by kernel_rfl
theorem io142 : infoOk Try.prog 142 1 = true := by kernel_rfl
@[simp] theorem ag145 : agg? Try.prog 145 = some false := by kernel_rfl
@[simp] theorem sz145 {β : Type} (k : Nat → Option β) : szOf Try.prog 145 k = k 1 := by kernel_rfl
@[simp] theorem ze145 {β : Type} (k : List V → Option β) : zero Try.prog 145 k = k [.c (.pointer none)] := by kernel_rfl
theorem io145 : infoOk Try.prog 145 1 = true := by kernel_rfl
@[simp] theorem ag148 : agg? Try.prog 148 = some false := by kernel_rfl
@[simp] theorem sz148 {β : Type} (k : Nat → Option β) : szOf Try.prog 148 k = k 1 := by kernel_rfl
@[simp] theorem ze148 {β : Type} (k : List V → Option β) : zero Try.prog 148 k = k [.c (.slice none 0 0)] := by kernel_rfl
theorem io148 : infoOk Try.prog 148 1 = true := by kernel_rfl
@[simp] theorem ag150 : agg? Try.prog 150 = some true := by kernel_rfl
@[simp] theorem sz150 {β : Type} (k : Nat → Option β) : szOf Try.prog 150 k = k 3 := by kernel_rfl
@[simp] theorem ze150 {β : Type} (k : List V → Option β) : zero Try.prog 150 k = k [.int .i64 0, .int .i64 0, .c (.slice none 0 0)] := by kernel_rfl
theorem io150 : infoOk Try.prog 150 3 = true := by kernel_rfl
@[simp] theorem ag152 : agg? Try.prog 152 = some true := by kernel_rfl
@[simp] theorem sz152 {β : Type} (k : Nat → Option β) : szOf Try.prog 152 k = k 2 := by kernel_rfl
@[simp] theorem ze152 {β : Type} (k : List V → Option β) : zero Try.prog 152 k = k [.int .u64 0, .c (.slice none 0 0)] := by kernel_rfl
theorem io152 : infoOk Try.prog 152 2 = true := by kernel_rfl
@[simp] theorem ag161 : agg? Try.prog 161 = some false := by kernel_rfl
@[simp] theorem sz161 {β : Type} (k : Nat → Option β) : szOf Try.prog 161 k = k 1 := by kernel_rfl
@[simp] theorem ze161 {β : Type} (k : List V → Option β) : zero Try.prog 161 k = k [.c (.slice none 0 0)] := by kernel_rfl
theorem io161 : infoOk Try.prog 161 1 = true := by kernel_rfl
@[simp] theorem ag162 : agg? Try.prog 162 = some false := by kernel_rfl
@[simp] theorem sz162 {β : Type} (k : Nat → Option β) : szOf Try.prog 162 k = k 1 := by kernel_rfl
@[simp] theorem ze162 {β : Type} (k : List V → Option β) : zero Try.prog 162 k = k [.c (.pointer none)] := by kernel_rfl
theorem io162 : infoOk Try.prog 162 1 = true := by kernel_rfl
@[simp] theorem ag164 : agg? Try.prog 164 = some false := by kernel_rfl
@[simp] theorem sz164 {β : Type} (k : Nat → Option β) : szOf Try.prog 164 k = k 1 := by kernel_rfl
@[simp] theorem ze164 {β : Type} (k : List V → Option β) : zero Try.prog 164 k = k [.c (.slice none 0 0)] := by kernel_rfl
theorem io164 : infoOk Try.prog 164 1 = true := by kernel_rfl
@[simp] theorem ag165 : agg? Try.prog 165 = some true := by kernel_rfl
@[simp] theorem sz165 {β : Type} (k : Nat → Option β) : szOf Try.prog 165 k = k 6 := by kernel_rfl
@[simp] theorem ze165 {β : Type} (k : List V → Option β) : zero Try.prog 165 k = k [.c (.slice none 0 0), .c (.slice none 0 0), .c (.slice none 0 0), .c (.slice none 0 0), .c (.slice none 0 0), .c (.slice none 0 0)] := by kernel_rfl
theorem io165 : infoOk Try.prog 165 6 = true := by kernel_rfl
@[simp] theorem ag167 : agg? Try.prog 167 = some true := by kernel_rfl
@[simp] theorem sz167 {β : Type} (k : Nat → Option β) : szOf Try.prog 167 k = k 3 := by kernel_rfl
@[simp] theorem ze167 {β : Type} (k : List V → Option β) : zero Try.prog 167 k = k [.int .i64 0, .int .i64 0, .c (.slice none 0 0)] := by kernel_rfl
theorem io167 : infoOk Try.prog 167 3 = true := by kernel_rfl
@[simp] theorem ag170 : agg? Try.prog 170 = some true := by kernel_rfl
@[simp] theorem sz170 {β : Type} (k : Nat → Option β) : szOf Try.prog 170 k = k 2 := by kernel_rfl
@[simp] theorem ze170 {β : Type} (k : List V → Option β) : zero Try.prog 170 k = k [.int .i64 0, .bool false] := by kernel_rfl
theorem io170 : infoOk Try.prog 170 2 = true := by kernel_rfl
@[simp] theorem ag179 : agg? Try.prog 179 = some false := by kernel_rfl
@[simp] theorem sz179 {β : Type} (k : Nat → Option β) : szOf Try.prog 179 k = k 1 := by kernel_rfl
@[simp] theorem ze179 {β : Type} (k : List V → Option β) : zero Try.prog 179 k = k [.int .u64 0] := by kernel_rfl
theorem io179 : infoOk Try.prog 179 1 = true := by kernel_rfl
@[simp] theorem ag182 : agg? Try.prog 182 = some true := by kernel_rfl
@[simp] theorem sz182 {β : Type} (k : Nat → Option β) : szOf Try.prog 182 k = k 2 := by kernel_rfl
@[simp] theorem ze182 {β : Type} (k : List V → Option β) : zero Try.prog 182 k = k [.int .i64 0, .int .i64 0] := by kernel_rfl
theorem io182 : infoOk Try.prog 182 2 = true := by kernel_rfl
@[simp] theorem ag196 : agg? Try.prog 196 = some false := by kernel_rfl
@[simp] theorem sz196 {β : Type} (k : Nat → Option β) : szOf Try.prog 196 k = k 1 := by kernel_rfl
@[simp] theorem ze196 {β : Type} (k : List V → Option β) : zero Try.prog 196 k = k [.c .nilFunc] := by kernel_rfl
theorem io196 : infoOk Try.prog 196 1 = true := by kernel_rfl
@[simp] theorem ag198 : agg? Try.prog 198 = some true := by kernel_rfl
@[simp] theorem sz198 {β : Type} (k : Nat → Option β) : szOf Try.prog 198 k = k 2 := by kernel_rfl
@[simp] theorem ze198 {β : Type} (k : List V → Option β) : zero Try.prog 198 k = k [.int .i64 0, .int .i64 0] := by kernel_rfl
theorem io198 : infoOk Try.prog 198 2 = true := by kernel_rfl
@[simp] theorem ag200 : agg? Try.prog 200 = some true := by kernel_rfl
@[simp] theorem sz200 {β : Type} (k : Nat → Option β) : szOf Try.prog 200 k = k 10 := by kernel_rfl
@[simp] theorem ze200 {β : Type} (k : List V → Option β) : zero Try.prog 200 k = k [.int .i64 0, .int .i64 0, .int .i64 0, .int .i64 0, .int .i64 0, .int .i64 0, .int .i64 0, .int .i64 0, .int .i64 0, .int .i64 0] := by kernel_rfl
theorem io200 : infoOk Try.prog 200 10 = true := by kernel_rfl
@[simp] theorem ag204 : agg? Try.prog 204 = some true := by kernel_rfl
@[simp] theorem sz204 {β : Type} (k : Nat → Option β) : szOf Try.prog 204 k = k 5 := by kernel_rfl
@[simp] theorem ze204 {β : Type} (k : List V → Option β) : zero Try.prog 204 k = k [.int .i64 0, .int .i64 0, .int .i64 0, .int .i64 0, .c (.slice none 0 0)] := by kernel_rfl
theorem io204 : infoOk Try.prog 204 5 = true := by kernel_rfl
@[simp] theorem ag222 : agg? Try.prog 222 = some false := by kernel_rfl
@[simp] theorem sz222 {β : Type} (k : Nat → Option β) : szOf Try.prog 222 k = k 1 := by kernel_rfl
@[simp] theorem ze222 {β : Type} (k : List V → Option β) : zero Try.prog 222 k = k [.c (.slice none 0 0)] := by kernel_rfl
theorem io222 : infoOk Try.prog 222 1 = true := by kernel_rfl
@[simp] theorem ag224 : agg? Try.prog 224 = some true := by kernel_rfl
@[simp] theorem sz224 {β : Type} (k : Nat → Option β) : szOf Try.prog 224 k = k 7 := by kernel_rfl
@[simp] theorem ze224 {β : Type} (k : List V → Option β) : zero Try.prog 224 k = k [.c (.slice none 0 0), .bool false, .int .i64 0, .c (.slice none 0 0), .int .i64 0, .int .i64 0, .int .i64 0] := by kernel_rfl
theorem io224 : infoOk Try.prog 224 7 = true := by kernel_rfl
@[simp] theorem ag225 : agg? Try.prog 225 = some false := by kernel_rfl
@[simp] theorem sz225 {β : Type} (k : Nat → Option β) : szOf Try.prog 225 k = k 1 := by kernel_rfl
@[simp] theorem ze225 {β : Type} (k : List V → Option β) : zero Try.prog 225 k = k [.c (.pointer none)] := by kernel_rfl
theorem io225 : infoOk Try.prog 225 1 = true := by kernel_rfl
@[simp] theorem ag230 : agg? Try.prog 230 = some true := by kernel_rfl
@[simp] theorem sz230 {β : Type} (k : Nat → Option β) : szOf Try.prog 230 k = k 2 := by kernel_rfl
@[simp] theorem ze230 {β : Type} (k : List V → Option β) : zero Try.prog 230 k = k [.int .i64 0, .int .u64 0] := by kernel_rfl
theorem io230 : infoOk Try.prog 230 2 = true := by kernel_rfl
@[simp] theorem ag233 : agg? Try.prog 233 = some true := by kernel_rfl
@[simp] theorem sz233 {β : Type} (k : Nat → Option β) : szOf Try.prog 233 k = k 2 := by kernel_rfl
@[simp] theorem ze233 {β : Type} (k : List V → Option β) : zero Try.prog 233 k = k [.c (.slice none 0 0), .int .u64 0] := by kernel_rfl
theorem io233 : infoOk Try.prog 233 2 = true := by kernel_rfl
@[simp] theorem ag236 : agg? Try.prog 236 = some false := by kernel_rfl
@[simp] theorem sz236 {β : Type} (k : Nat → Option β) : szOf Try.prog 236 k = k 1 := by kernel_rfl
@[simp] theorem ze236 {β : Type} (k : List V → Option β) : zero Try.prog 236 k = k [.c .nilFunc] := by kernel_rfl
theorem io236 : infoOk Try.prog 236 1 = true := by kernel_rfl
@[simp] theorem ag237 : agg? Try.prog 237 = some false := by kernel_rfl
@[simp] theorem sz237 {β : Type} (k : Nat → Option β) : szOf Try.prog 237 k = k 1 := by kernel_rfl
@[simp] theorem ze237 {β : Type} (k : List V → Option β) : zero Try.prog 237 k = k [.c (.map none)] := by kernel_rfl
theorem io237 : infoOk Try.prog 237 1 = true := by kernel_rfl
@[simp] theorem ag238 : agg? Try.prog 238 = some false := by kernel_rfl
@[simp] theorem sz238 {β : Type} (k : Nat → Option β) : szOf Try.prog 238 k = k 1 := by kernel_rfl
@[simp] theorem ze238 {β : Type} (k : List V → Option β) : zero Try.prog 238 k = k [.c (.map none)] := by kernel_rfl
theorem io238 : infoOk Try.prog 238 1 = true := by kernel_rfl
@[simp] theorem ag240 : agg? Try.prog 240 = some true := by kernel_rfl
@[simp] theorem sz240 {β : Type} (k : Nat → Option β) : szOf Try.prog 240 k = k 2 := by kernel_rfl
@[simp] theorem ze240 {β : Type} (k : List V → Option β) : zero Try.prog 240 k = k [.c (.map none), .c (.map none)] := by kernel_rfl
theorem io240 : infoOk Try.prog 240 2 = true := by kernel_rfl
@[simp] theorem ag242 : agg? Try.prog 242 = some true := by kernel_rfl
@[simp] theorem sz242 {β : Type} (k : Nat → Option β) : szOf Try.prog 242 k = k 2 := by kernel_rfl
@[simp] theorem ze242 {β : Type} (k : List V → Option β) : zero Try.prog 242 k = k [.c (.slice none 0 0), .bool false] := by kernel_rfl
theorem io242 : infoOk Try.prog 242 2 = true := by kernel_rfl
@[simp] theorem ag266 : agg? Try.prog 266 = some true := by kernel_rfl
@[simp] theorem sz266 {β : Type} (k : Nat → Option β) : szOf Try.prog 266 k = k 8 := by kernel_rfl
@[simp] theorem ze266 {β : Type} (k : List V → Option β) : zero Try.prog 266 k = k [.int .u64 0, .int .u64 0, .int .u64 0, .int .u64 0, .int .u64 0, .int .u64 0, .int .u64 0, .int .u64 0] := by kernel_rfl
theorem io266 : infoOk Try.prog 266 8 = true := by kernel_rfl
@[simp] theorem ag267 : agg? Try.prog 267 = some false := by kernel_rfl
@[simp] theorem sz267 {β : Type} (k : Nat → Option β) : szOf Try.prog 267 k = k 1 := by kernel_rfl
@[simp] theorem ze267 {β : Type} (k : List V → Option β) : zero Try.prog 267 k = k [.c (.slice none 0 0)] := by kernel_rfl
theorem io267 : infoOk Try.prog 267 1 = true := by kernel_rfl
@[simp] theorem ag269 : agg? Try.prog 269 = some true := by kernel_rfl
@[simp] theorem sz269 {β : Type} (k : Nat → Option β) : szOf Try.prog 269 k = k 18 := by kernel_rfl
@[simp] theorem ze269 {β : Type} (k : List V → Option β) : zero Try.prog 269 k = k [.int .u64 0, .int .u64 0, .int .u64 0, .int .u64 0, .int .u64 0, .int .u64 0, .int .u64 0, .int .u64 0, .int .u64 0, .int .u64 0, .int .u64 0, .int .u64 0, .int .u64 0, .int .u64 0, .int .u64 0, .int .u64 0, .c (.slice none 0 0), .int .i64 0] := by kernel_rfl
theorem io269 : infoOk Try.prog 269 18 = true := by kernel_rfl
@[simp] theorem ag279 : agg? Try.prog 279 = some true := by kernel_rfl
@[simp] theorem sz279 {β : Type} (k : Nat → Option β) : szOf Try.prog 279 k = k 256 := by kernel_rfl
theorem io279 : infoOk Try.prog 279 256 = true := by kernel_rfl
@[simp] theorem ag285 : agg? Try.prog 285 = some false := by kernel_rfl
@[simp] theorem sz285 {β : Type} (k : Nat → Option β) : szOf Try.prog 285 k = k 1 := by kernel_rfl
@[simp] theorem ze285 {β : Type} (k : List V → Option β) : zero Try.prog 285 k = k [.int .i64 0] := by kernel_rfl
theorem io285 : infoOk Try.prog 285 1 = true := by kernel_rfl
@[simp] theorem ag292 : agg? Try.prog 292 = some false := by kernel_rfl
@[simp] theorem sz292 {β : Type} (k : Nat → Option β) : szOf Try.prog 292 k = k 1 := by kernel_rfl
@[simp] theorem ze292 {β : Type} (k : List V → Option β) : zero Try.prog 292 k = k [.int .u32 0] := by kernel_rfl
theorem io292 : infoOk Try.prog 292 1 = true := by kernel_rfl
@[simp] theorem ag298 : agg? Try.prog 298 = some true := by kernel_rfl
@[simp] theorem sz298 {β : Type} (k : Nat → Option β) : szOf Try.prog 298 k = k 2 := by kernel_rfl
@[simp] theorem ze298 {β : Type} (k : List V → Option β) : zero Try.prog 298 k = k [.int .i64 0, .int .u64 0] := by kernel_rfl
theorem io298 : infoOk Try.prog 298 2 = true := by kernel_rfl
@[simp] theorem ag303 : agg? Try.prog 303 = some false := by kernel_rfl
@[simp] theorem sz303 {β : Type} (k : Nat → Option β) : szOf Try.prog 303 k = k 1 := by kernel_rfl
@[simp] theorem ze303 {β : Type} (k : List V → Option β) : zero Try.prog 303 k = k [.c (.pointer none)] := by kernel_rfl
theorem io303 : infoOk Try.prog 303 1 = true := by kernel_rfl
@[simp] theorem ag304 : agg? Try.prog 304 = some false := by kernel_rfl
@[simp] theorem sz304 {β : Type} (k : Nat → Option β) : szOf Try.prog 304 k = k 1 := by kernel_rfl
@[simp] theorem ze304 {β : Type} (k : List V → Option β) : zero Try.prog 304 k = k [.int .u64 0] := by kernel_rfl
theorem io304 : infoOk Try.prog 304 1 = true := by kernel_rfl
@[simp] theorem ag307 : agg? Try.prog 307 = some false := by kernel_rfl
@[simp] theorem sz307 {β : Type} (k : Nat → Option β) : szOf Try.prog 307 k = k 1 := by kernel_rfl
@[simp] theorem ze307 {β : Type} (k : List V → Option β) : zero Try.prog 307 k = k [.c (.pointer none)] := by kernel_rfl
theorem io307 : infoOk Try.prog 307 1 = true := by kernel_rfl
@[simp] theorem ag311 : agg? Try.prog 311 = some false := by kernel_rfl
@[simp] theorem sz311 {β : Type} (k : Nat → Option β) : szOf Try.prog 311 k = k 1 := by kernel_rfl
@[simp] theorem ze311 {β : Type} (k : List V → Option β) : zero Try.prog 311 k = k [.c (.pointer none)] := by kernel_rfl
theorem io311 : infoOk Try.prog 311 1 = true := by kernel_rfl
@[simp] theorem un2 : Try.prog.underlying 2 = some (.int .i64) := by kernel_rfl
@[simp] theorem un3 : Try.prog.underlying 3 = some (.int .i64) := by kernel_rfl
@[simp] theorem un5 : Try.prog.underlying 5 = some (.int .u8) := by kernel_rfl
@[simp] theorem un9 : Try.prog.underlying 9 = some .string := by kernel_rfl
@[simp] theorem un21 : Try.prog.underlying 21 = some (.int .i32) := by kernel_rfl
@[simp] theorem un22 : Try.prog.underlying 22 = some (.slice 5) := by kernel_rfl
@[simp] theorem ln22 (c : Cx) (st : St) (x : V) : builtinE Try.prog c .len [22] [x] st = lenS st x := len_slice un22 x
@[simp] theorem ix22 {β : Type} (m o len cap i : Nat) (k : V → Option β) : idxE Try.prog 22 (.sl m o len cap) i k = if i < len then k (.p m (o + i * 1)) else none := idxE_sl un22 (fun k => sz5 k) m o len cap i k
@[simp] theorem iy22 {β : Type} (m o len w i : Nat) (k : V → Option β) : idxE Try.prog 22 (.sg m o len w) i k = if i < len then k (.p m (o + i * 1)) else none := idxE_sg un22 (fun k => sz5 k) m o len w i k
@[simp] theorem el22 {β : Type} (k : TypeId → Nat → Option β) : Ev.elemOf Try.prog 22 k = k 5 1 := by kernel_rfl
@[simp] theorem un23 : Try.prog.underlying 23 = some (.slice 24) := by kernel_rfl
@[simp] theorem ln23 (c : Cx) (st : St) (x : V) : builtinE Try.prog c .len [23] [x] st = lenS st x := len_slice un23 x
@[simp] theorem ix23 {β : Type} (m o len cap i : Nat) (k : V → Option β) : idxE Try.prog 23 (.sl m o len cap) i k = if i < len then k (.p m (o + i * 1)) else none := idxE_sl un23 (fun k => sz24 k) m o len cap i k
@[simp] theorem iy23 {β : Type} (m o len w i : Nat) (k : V → Option β) : idxE Try.prog 23 (.sg m o len w) i k = if i < len then k (.p m (o + i * 1)) else none := idxE_sg un23 (fun k => sz24 k) m o len w i k
@[simp] theorem el23 {β : Type} (k : TypeId → Nat → Option β) : Ev.elemOf Try.prog 23 k = k 24 1 := by kernel_rfl
@[simp] theorem un24 : Try.prog.underlying 24 = some (.int .u64) := by kernel_rfl
@[simp] theorem bz38 (st : St) : bldK Try.prog 38 [] [] [.int .i64 0, .int .i64 0, .int .i64 0, .int .i64 0] st = some (.g [.int .i64 0, .int .i64 0, .int .i64 0, .int .i64 0], st) := by kernel_rfl
theorem so38 : structOk Try.prog 38 [(0, 1), (1, 1), (2, 1), (3, 1)] = true := by kernel_rfl
@[simp] theorem bl38 (x0 x1 x2 x3 : Operand) (a0 a1 a2 a3 : V) (st : St) (h0 : a0.one = true) (h1 : a1.one = true) (h2 : a2.one = true) (h3 : a3.one = true) : bldK Try.prog 38 [(0, x0), (1, x1), (2, x2), (3, x3)] [a0, a1, a2, a3] [.int .i64 0, .int .i64 0, .int .i64 0, .int .i64 0] st = some (.g [a0, a1, a2, a3], st) := by
  rw [bldK_ok so38, partsK_one rfl h0 (by simp), partsK_one rfl h1 (by simp), partsK_one rfl h2 (by simp), partsK_one rfl h3 (by simp)]; rfl
@[simp] theorem fk38_0 (k : Nat → Nat → Res) : fieldK Try.prog 38 0 k = k 1 0 := by kernel_rfl
@[simp] theorem fk38_1 (k : Nat → Nat → Res) : fieldK Try.prog 38 1 k = k 1 1 := by kernel_rfl
@[simp] theorem fk38_2 (k : Nat → Nat → Res) : fieldK Try.prog 38 2 k = k 1 2 := by kernel_rfl
@[simp] theorem fk38_3 (k : Nat → Nat → Res) : fieldK Try.prog 38 3 k = k 1 3 := by kernel_rfl
@[simp] theorem un39 : Try.prog.underlying 39 = some (.slice 47) := by kernel_rfl
@[simp] theorem ln39 (c : Cx) (st : St) (x : V) : builtinE Try.prog c .len [39] [x] st = lenS st x := len_slice un39 x
@[simp] theorem ix39 {β : Type} (m o len cap i : Nat) (k : V → Option β) : idxE Try.prog 39 (.sl m o len cap) i k = if i < len then k (.p m (o + i * 2)) else none := idxE_sl un39 (fun k => sz47 k) m o len cap i k
@[simp] theorem iy39 {β : Type} (m o len w i : Nat) (k : V → Option β) : idxE Try.prog 39 (.sg m o len w) i k = if i < len then k (.p m (o + i * 2)) else none := idxE_sg un39 (fun k => sz47 k) m o len w i k
@[simp] theorem el39 {β : Type} (k : TypeId → Nat → Option β) : Ev.elemOf Try.prog 39 k = k 47 2 := by kernel_rfl
@[simp] theorem bz41 (st : St) : bldK Try.prog 41 [] [] [.int .i64 0, .int .i64 0, .int .i64 0, .c (.slice none 0 0)] st = some (.g [.int .i64 0, .int .i64 0, .int .i64 0, .c (.slice none 0 0)], st) := by kernel_rfl
theorem so41 : structOk Try.prog 41 [(0, 1), (1, 1), (2, 1), (3, 1)] = true := by kernel_rfl
@[simp] theorem bl41 (x0 x1 x2 x3 : Operand) (a0 a1 a2 a3 : V) (st : St) (h0 : a0.one = true) (h1 : a1.one = true) (h2 : a2.one = true) (h3 : a3.one = true) : bldK Try.prog 41 [(0, x0), (1, x1), (2, x2), (3, x3)] [a0, a1, a2, a3] [.int .i64 0, .int .i64 0, .int .i64 0, .c (.slice none 0 0)] st = some (.g [a0, a1, a2, a3], st) := by
  rw [bldK_ok so41, partsK_one rfl h0 (by simp), partsK_one rfl h1 (by simp), partsK_one rfl h2 (by simp), partsK_one rfl h3 (by simp)]; rfl
@[simp] theorem fk41_0 (k : Nat → Nat → Res) : fieldK Try.prog 41 0 k = k 1 0 := by kernel_rfl
@[simp] theorem fk41_1 (k : Nat → Nat → Res) : fieldK Try.prog 41 1 k = k 1 1 := by kernel_rfl
@[simp] theorem fk41_2 (k : Nat → Nat → Res) : fieldK Try.prog 41 2 k = k 1 2 := by kernel_rfl
@[simp] theorem fk41_3 (k : Nat → Nat → Res) : fieldK Try.prog 41 3 k = k 1 3 := by kernel_rfl
@[simp] theorem un42 : Try.prog.underlying 42 = some (.slice 182) := by kernel_rfl
@[simp] theorem ln42 (c : Cx) (st : St) (x : V) : builtinE Try.prog c .len [42] [x] st = lenS st x := len_slice un42 x
@[simp] theorem ix42 {β : Type} (m o len cap i : Nat) (k : V → Option β) : idxE Try.prog 42 (.sl m o len cap) i k = if i < len then k (.p m (o + i * 2)) else none := idxE_sl un42 (fun k => sz182 k) m o len cap i k
@[simp] theorem iy42 {β : Type} (m o len w i : Nat) (k : V → Option β) : idxE Try.prog 42 (.sg m o len w) i k = if i < len then k (.p m (o + i * 2)) else none := idxE_sg un42 (fun k => sz182 k) m o len w i k
@[simp] theorem el42 {β : Type} (k : TypeId → Nat → Option β) : Ev.elemOf Try.prog 42 k = k 182 2 := by kernel_rfl
@[simp] theorem bz44 (st : St) : bldK Try.prog 44 [] [] [.int .i64 0, .int .i64 0, .int .i64 0, .c (.slice none 0 0)] st = some (.g [.int .i64 0, .int .i64 0, .int .i64 0, .c (.slice none 0 0)], st) := by kernel_rfl
theorem so44 : structOk Try.prog 44 [(0, 1), (1, 1), (2, 1), (3, 1)] = true := by kernel_rfl
@[simp] theorem bl44 (x0 x1 x2 x3 : Operand) (a0 a1 a2 a3 : V) (st : St) (h0 : a0.one = true) (h1 : a1.one = true) (h2 : a2.one = true) (h3 : a3.one = true) : bldK Try.prog 44 [(0, x0), (1, x1), (2, x2), (3, x3)] [a0, a1, a2, a3] [.int .i64 0, .int .i64 0, .int .i64 0, .c (.slice none 0 0)] st = some (.g [a0, a1, a2, a3], st) := by
  rw [bldK_ok so44, partsK_one rfl h0 (by simp), partsK_one rfl h1 (by simp), partsK_one rfl h2 (by simp), partsK_one rfl h3 (by simp)]; rfl
@[simp] theorem fk44_0 (k : Nat → Nat → Res) : fieldK Try.prog 44 0 k = k 1 0 := by kernel_rfl
@[simp] theorem fk44_1 (k : Nat → Nat → Res) : fieldK Try.prog 44 1 k = k 1 1 := by kernel_rfl
@[simp] theorem fk44_2 (k : Nat → Nat → Res) : fieldK Try.prog 44 2 k = k 1 2 := by kernel_rfl
@[simp] theorem fk44_3 (k : Nat → Nat → Res) : fieldK Try.prog 44 3 k = k 1 3 := by kernel_rfl
@[simp] theorem bz47 (st : St) : bldK Try.prog 47 [] [] [.int .i64 0, .int .i64 0] st = some (.g [.int .i64 0, .int .i64 0], st) := by kernel_rfl
theorem so47 : structOk Try.prog 47 [(0, 1), (1, 1)] = true := by kernel_rfl
@[simp] theorem bl47 (x0 x1 : Operand) (a0 a1 : V) (st : St) (h0 : a0.one = true) (h1 : a1.one = true) : bldK Try.prog 47 [(0, x0), (1, x1)] [a0, a1] [.int .i64 0, .int .i64 0] st = some (.g [a0, a1], st) := by
  rw [bldK_ok so47, partsK_one rfl h0 (by simp), partsK_one rfl h1 (by simp)]; rfl
@[simp] theorem fk47_0 (k : Nat → Nat → Res) : fieldK Try.prog 47 0 k = k 1 0 := by kernel_rfl
@[simp] theorem fk47_1 (k : Nat → Nat → Res) : fieldK Try.prog 47 1 k = k 1 1 := by kernel_rfl
@[simp] theorem bz54 (st : St) : bldK Try.prog 54 [] [] [.int .i64 0, .int .i64 0, .int .i64 0, .int .i64 0] st = some (.g [.int .i64 0, .int .i64 0, .int .i64 0, .int .i64 0], st) := by kernel_rfl
theorem so54 : structOk Try.prog 54 [(0, 1), (1, 1), (2, 1), (3, 1)] = true := by kernel_rfl
@[simp] theorem bl54 (x0 x1 x2 x3 : Operand) (a0 a1 a2 a3 : V) (st : St) (h0 : a0.one = true) (h1 : a1.one = true) (h2 : a2.one = true) (h3 : a3.one = true) : bldK Try.prog 54 [(0, x0), (1, x1), (2, x2), (3, x3)] [a0, a1, a2, a3] [.int .i64 0, .int .i64 0, .int .i64 0, .int .i64 0] st = some (.g [a0, a1, a2, a3], st) := by
  rw [bldK_ok so54, partsK_one rfl h0 (by simp), partsK_one rfl h1 (by simp), partsK_one rfl h2 (by simp), partsK_one rfl h3 (by simp)]; rfl
@[simp] theorem fk54_0 (k : Nat → Nat → Res) : fieldK Try.prog 54 0 k = k 1 0 := by kernel_rfl
@[simp] theorem fk54_1 (k : Nat → Nat → Res) : fieldK Try.prog 54 1 k = k 1 1 := by kernel_rfl
@[simp] theorem fk54_2 (k : Nat → Nat → Res) : fieldK Try.prog 54 2 k = k 1 2 := by kernel_rfl
@[simp] theorem fk54_3 (k : Nat → Nat → Res) : fieldK Try.prog 54 3 k = k 1 3 := by kernel_rfl
@[simp] theorem bz63 (st : St) : bldK Try.prog 63 [] [] [.int .i64 0, .s []] st = some (.g [.int .i64 0, .s []], st) := by kernel_rfl
theorem so63 : structOk Try.prog 63 [(0, 1), (1, 1)] = true := by kernel_rfl
@[simp] theorem bl63 (x0 x1 : Operand) (a0 a1 : V) (st : St) (h0 : a0.one = true) (h1 : a1.one = true) : bldK Try.prog 63 [(0, x0), (1, x1)] [a0, a1] [.int .i64 0, .s []] st = some (.g [a0, a1], st) := by
  rw [bldK_ok so63, partsK_one rfl h0 (by simp), partsK_one rfl h1 (by simp)]; rfl
@[simp] theorem fk63_0 (k : Nat → Nat → Res) : fieldK Try.prog 63 0 k = k 1 0 := by kernel_rfl
@[simp] theorem fk63_1 (k : Nat → Nat → Res) : fieldK Try.prog 63 1 k = k 1 1 := by kernel_rfl
@[simp] theorem bz64 (st : St) : bldK Try.prog 64 [] [] [.int .i64 0, .s []] st = some (.g [.int .i64 0, .s []], st) := by kernel_rfl
theorem so64 : structOk Try.prog 64 [(0, 1), (1, 1)] = true := by kernel_rfl
@[simp] theorem bl64 (x0 x1 : Operand) (a0 a1 : V) (st : St) (h0 : a0.one = true) (h1 : a1.one = true) : bldK Try.prog 64 [(0, x0), (1, x1)] [a0, a1] [.int .i64 0, .s []] st = some (.g [a0, a1], st) := by
  rw [bldK_ok so64, partsK_one rfl h0 (by simp), partsK_one rfl h1 (by simp)]; rfl
@[simp] theorem fk64_0 (k : Nat → Nat → Res) : fieldK Try.prog 64 0 k = k 1 0 := by kernel_rfl
@[simp] theorem fk64_1 (k : Nat → Nat → Res) : fieldK Try.prog 64 1 k = k 1 1 := by kernel_rfl
@[simp] theorem un76 : Try.prog.underlying 76 = some (.slice 3) := by kernel_rfl
@[simp] theorem ln76 (c : Cx) (st : St) (x : V) : builtinE Try.prog c .len [76] [x] st = lenS st x := len_slice un76 x
@[simp] theorem ix76 {β : Type} (m o len cap i : Nat) (k : V → Option β) : idxE Try.prog 76 (.sl m o len cap) i k = if i < len then k (.p m (o + i * 1)) else none := idxE_sl un76 (fun k => sz3 k) m o len cap i k
@[simp] theorem iy76 {β : Type} (m o len w i : Nat) (k : V → Option β) : idxE Try.prog 76 (.sg m o len w) i k = if i < len then k (.p m (o + i * 1)) else none := idxE_sg un76 (fun k => sz3 k) m o len w i k
@[simp] theorem el76 {β : Type} (k : TypeId → Nat → Option β) : Ev.elemOf Try.prog 76 k = k 3 1 := by kernel_rfl
@[simp] theorem un83 : Try.prog.underlying 83 = some (.slice 96) := by kernel_rfl
@[simp] theorem ln83 (c : Cx) (st : St) (x : V) : builtinE Try.prog c .len [83] [x] st = lenS st x := len_slice un83 x
@[simp] theorem ix83 {β : Type} (m o len cap i : Nat) (k : V → Option β) : idxE Try.prog 83 (.sl m o len cap) i k = if i < len then k (.p m (o + i * 5)) else none := idxE_sl un83 (fun k => sz96 k) m o len cap i k
@[simp] theorem iy83 {β : Type} (m o len w i : Nat) (k : V → Option β) : idxE Try.prog 83 (.sg m o len w) i k = if i < len then k (.p m (o + i * 5)) else none := idxE_sg un83 (fun k => sz96 k) m o len w i k
@[simp] theorem el83 {β : Type} (k : TypeId → Nat → Option β) : Ev.elemOf Try.prog 83 k = k 96 5 := by kernel_rfl
@[simp] theorem un86 : Try.prog.underlying 86 = some (.int .i64) := by kernel_rfl
@[simp] theorem bz90 (st : St) : bldK Try.prog 90 [] [] [.c (.slice none 0 0)] st = some (.g [.c (.slice none 0 0)], st) := by kernel_rfl
theorem so90 : structOk Try.prog 90 [(0, 1)] = true := by kernel_rfl
@[simp] theorem bl90 (x0 : Operand) (a0 : V) (st : St) (h0 : a0.one = true) : bldK Try.prog 90 [(0, x0)] [a0] [.c (.slice none 0 0)] st = some (.g [a0], st) := by
  rw [bldK_ok so90, partsK_one rfl h0 (by simp)]; rfl
@[simp] theorem fk90_0 (k : Nat → Nat → Res) : fieldK Try.prog 90 0 k = k 1 0 := by kernel_rfl
@[simp] theorem un94 : Try.prog.underlying 94 = some (.slice 39) := by kernel_rfl
@[simp] theorem ln94 (c : Cx) (st : St) (x : V) : builtinE Try.prog c .len [94] [x] st = lenS st x := len_slice un94 x
@[simp] theorem ix94 {β : Type} (m o len cap i : Nat) (k : V → Option β) : idxE Try.prog 94 (.sl m o len cap) i k = if i < len then k (.p m (o + i * 1)) else none := idxE_sl un94 (fun k => sz39 k) m o len cap i k
@[simp] theorem iy94 {β : Type} (m o len w i : Nat) (k : V → Option β) : idxE Try.prog 94 (.sg m o len w) i k = if i < len then k (.p m (o + i * 1)) else none := idxE_sg un94 (fun k => sz39 k) m o len w i k
@[simp] theorem el94 {β : Type} (k : TypeId → Nat → Option β) : Ev.elemOf Try.prog 94 k = k 39 1 := by kernel_rfl
@[simp] theorem bz96 (st : St) : bldK Try.prog 96 [] [] [.int .i64 0, .int .i64 0, .int .i64 0, .int .i64 0, .c (.slice none 0 0)] st = some (.g [.int .i64 0, .int .i64 0, .int .i64 0, .int .i64 0, .c (.slice none 0 0)], st) := by kernel_rfl
theorem so96 : structOk Try.prog 96 [(0, 1), (1, 1), (2, 1), (3, 1), (4, 1)] = true := by kernel_rfl
@[simp] theorem bl96 (x0 x1 x2 x3 x4 : Operand) (a0 a1 a2 a3 a4 : V) (st : St) (h0 : a0.one = true) (h1 : a1.one = true) (h2 : a2.one = true) (h3 : a3.one = true) (h4 : a4.one = true) : bldK Try.prog 96 [(0, x0), (1, x1), (2, x2), (3, x3), (4, x4)] [a0, a1, a2, a3, a4] [.int .i64 0, .int .i64 0, .int .i64 0, .int .i64 0, .c (.slice none 0 0)] st = some (.g [a0, a1, a2, a3, a4], st) := by
  rw [bldK_ok so96, partsK_one rfl h0 (by simp), partsK_one rfl h1 (by simp), partsK_one rfl h2 (by simp), partsK_one rfl h3 (by simp), partsK_one rfl h4 (by simp)]; rfl
@[simp] theorem fk96_0 (k : Nat → Nat → Res) : fieldK Try.prog 96 0 k = k 1 0 := by kernel_rfl
@[simp] theorem fk96_1 (k : Nat → Nat → Res) : fieldK Try.prog 96 1 k = k 1 1 := by kernel_rfl
@[simp] theorem fk96_2 (k : Nat → Nat → Res) : fieldK Try.prog 96 2 k = k 1 2 := by kernel_rfl
@[simp] theorem fk96_3 (k : Nat → Nat → Res) : fieldK Try.prog 96 3 k = k 1 3 := by kernel_rfl
@[simp] theorem fk96_4 (k : Nat → Nat → Res) : fieldK Try.prog 96 4 k = k 1 4 := by kernel_rfl
@[simp] theorem un115 : Try.prog.underlying 115 = some (.slice 117) := by kernel_rfl
@[simp] theorem ln115 (c : Cx) (st : St) (x : V) : builtinE Try.prog c .len [115] [x] st = lenS st x := len_slice un115 x
@[simp] theorem ix115 {β : Type} (m o len cap i : Nat) (k : V → Option β) : idxE Try.prog 115 (.sl m o len cap) i k = if i < len then k (.p m (o + i * 2)) else none := idxE_sl un115 (fun k => sz117 k) m o len cap i k
@[simp] theorem iy115 {β : Type} (m o len w i : Nat) (k : V → Option β) : idxE Try.prog 115 (.sg m o len w) i k = if i < len then k (.p m (o + i * 2)) else none := idxE_sg un115 (fun k => sz117 k) m o len w i k
@[simp] theorem el115 {β : Type} (k : TypeId → Nat → Option β) : Ev.elemOf Try.prog 115 k = k 117 2 := by kernel_rfl
@[simp] theorem bz117 (st : St) : bldK Try.prog 117 [] [] [.int .i64 0, .int .u64 0] st = some (.g [.int .i64 0, .int .u64 0], st) := by kernel_rfl
theorem so117 : structOk Try.prog 117 [(0, 1), (1, 1)] = true := by kernel_rfl
@[simp] theorem bl117 (x0 x1 : Operand) (a0 a1 : V) (st : St) (h0 : a0.one = true) (h1 : a1.one = true) : bldK Try.prog 117 [(0, x0), (1, x1)] [a0, a1] [.int .i64 0, .int .u64 0] st = some (.g [a0, a1], st) := by
  rw [bldK_ok so117, partsK_one rfl h0 (by simp), partsK_one rfl h1 (by simp)]; rfl
@[simp] theorem fk117_0 (k : Nat → Nat → Res) : fieldK Try.prog 117 0 k = k 1 0 := by kernel_rfl
@[simp] theorem fk117_1 (k : Nat → Nat → Res) : fieldK Try.prog 117 1 k = k 1 1 := by kernel_rfl
@[simp] theorem bz120 (st : St) : bldK Try.prog 120 [] [] [.c (.pointer none), .int .i64 0, .int .i64 0] st = some (.g [.c (.pointer none), .int .i64 0, .int .i64 0], st) := by kernel_rfl
theorem so120 : structOk Try.prog 120 [(0, 1), (1, 1), (2, 1)] = true := by kernel_rfl
@[simp] theorem bl120 (x0 x1 x2 : Operand) (a0 a1 a2 : V) (st : St) (h0 : a0.one = true) (h1 : a1.one = true) (h2 : a2.one = true) : bldK Try.prog 120 [(0, x0), (1, x1), (2, x2)] [a0, a1, a2] [.c (.pointer none), .int .i64 0, .int .i64 0] st = some (.g [a0, a1, a2], st) := by
  rw [bldK_ok so120, partsK_one rfl h0 (by simp), partsK_one rfl h1 (by simp), partsK_one rfl h2 (by simp)]; rfl
@[simp] theorem fk120_0 (k : Nat → Nat → Res) : fieldK Try.prog 120 0 k = k 1 0 := by kernel_rfl
@[simp] theorem fk120_1 (k : Nat → Nat → Res) : fieldK Try.prog 120 1 k = k 1 1 := by kernel_rfl
@[simp] theorem fk120_2 (k : Nat → Nat → Res) : fieldK Try.prog 120 2 k = k 1 2 := by kernel_rfl
@[simp] theorem bz122 (st : St) : bldK Try.prog 122 [] [] [.c (.pointer none), .int .i64 0, .int .i64 0, .int .i64 0] st = some (.g [.c (.pointer none), .int .i64 0, .int .i64 0, .int .i64 0], st) := by kernel_rfl
theorem so122 : structOk Try.prog 122 [(0, 3), (3, 1)] = true := by kernel_rfl
@[simp] theorem fk122_0 (k : Nat → Nat → Res) : fieldK Try.prog 122 0 k = k 3 0 := by kernel_rfl
@[simp] theorem fk122_1 (k : Nat → Nat → Res) : fieldK Try.prog 122 1 k = k 1 3 := by kernel_rfl
@[simp] theorem bz126 (st : St) : bldK Try.prog 126 [] [] [.int .u64 0, .c (.slice none 0 0)] st = some (.g [.int .u64 0, .c (.slice none 0 0)], st) := by kernel_rfl
theorem so126 : structOk Try.prog 126 [(0, 1), (1, 1)] = true := by kernel_rfl
@[simp] theorem bl126 (x0 x1 : Operand) (a0 a1 : V) (st : St) (h0 : a0.one = true) (h1 : a1.one = true) : bldK Try.prog 126 [(0, x0), (1, x1)] [a0, a1] [.int .u64 0, .c (.slice none 0 0)] st = some (.g [a0, a1], st) := by
  rw [bldK_ok so126, partsK_one rfl h0 (by simp), partsK_one rfl h1 (by simp)]; rfl
@[simp] theorem fk126_0 (k : Nat → Nat → Res) : fieldK Try.prog 126 0 k = k 1 0 := by kernel_rfl
@[simp] theorem fk126_1 (k : Nat → Nat → Res) : fieldK Try.prog 126 1 k = k 1 1 := by kernel_rfl
@[simp] theorem un134 : Try.prog.underlying 134 = some (.slice 230) := by kernel_rfl
@[simp] theorem ln134 (c : Cx) (st : St) (x : V) : builtinE Try.prog c .len [134] [x] st = lenS st x := len_slice un134 x
@[simp] theorem ix134 {β : Type} (m o len cap i : Nat) (k : V → Option β) : idxE Try.prog 134 (.sl m o len cap) i k = if i < len then k (.p m (o + i * 2)) else none := idxE_sl un134 (fun k => sz230 k) m o len cap i k
@[simp] theorem iy134 {β : Type} (m o len w i : Nat) (k : V → Option β) : idxE Try.prog 134 (.sg m o len w) i k = if i < len then k (.p m (o + i * 2)) else none := idxE_sg un134 (fun k => sz230 k) m o len w i k
@[simp] theorem el134 {β : Type} (k : TypeId → Nat → Option β) : Ev.elemOf Try.prog 134 k = k 230 2 := by kernel_rfl
@[simp] theorem un137 : Try.prog.underlying 137 = some (.slice 126) := by kernel_rfl
@[simp] theorem ln137 (c : Cx) (st : St) (x : V) : builtinE Try.prog c .len [137] [x] st = lenS st x := len_slice un137 x
@[simp] theorem ix137 {β : Type} (m o len cap i : Nat) (k : V → Option β) : idxE Try.prog 137 (.sl m o len cap) i k = if i < len then k (.p m (o + i * 2)) else none := idxE_sl un137 (fun k => sz126 k) m o len cap i k
@[simp] theorem iy137 {β : Type} (m o len w i : Nat) (k : V → Option β) : idxE Try.prog 137 (.sg m o len w) i k = if i < len then k (.p m (o + i * 2)) else none := idxE_sg un137 (fun k => sz126 k) m o len w i k
@[simp] theorem el137 {β : Type} (k : TypeId → Nat → Option β) : Ev.elemOf Try.prog 137 k = k 126 2 := by kernel_rfl
@[simp] theorem un141 : Try.prog.underlying 141 = some (.slice 150) := by kernel_rfl
@[simp] theorem ln141 (c : Cx) (st : St) (x : V) : builtinE Try.prog c .len [141] [x] st = lenS st x := len_slice un141 x
@[simp] theorem ix141 {β : Type} (m o len cap i : Nat) (k : V → Option β) : idxE Try.prog 141 (.sl m o len cap) i k = if i < len then k (.p m (o + i * 3)) else none := idxE_sl un141 (fun k => sz150 k) m o len cap i k
@[simp] theorem iy141 {β : Type} (m o len w i : Nat) (k : V → Option β) : idxE Try.prog 141 (.sg m o len w) i k = if i < len then k (.p m (o + i * 3)) else none := idxE_sg un141 (fun k => sz150 k) m o len w i k
@[simp] theorem el141 {β : Type} (k : TypeId → Nat → Option β) : Ev.elemOf Try.prog 141 k = k 150 3 := by kernel_rfl
@[simp] theorem un142 : Try.prog.underlying 142 = some (.slice 122) := by kernel_rfl
@[simp] theorem ln142 (c : Cx) (st : St) (x : V) : builtinE Try.prog c .len [142] [x] st = lenS st x := len_slice un142 x
@[simp] theorem ix142 {β : Type} (m o len cap i : Nat) (k : V → Option β) : idxE Try.prog 142 (.sl m o len cap) i k = if i < len then k (.p m (o + i * 4)) else none := idxE_sl un142 (fun k => sz122 k) m o len cap i k
@[simp] theorem iy142 {β : Type} (m o len w i : Nat) (k : V → Option β) : idxE Try.prog 142 (.sg m o len w) i k = if i < len then k (.p m (o + i * 4)) else none := idxE_sg un142 (fun k => sz122 k) m o len w i k
@[simp] theorem el142 {β : Type} (k : TypeId → Nat → Option β) : Ev.elemOf Try.prog 142 k = k 122 4 := by kernel_rfl
@[simp] theorem un148 : Try.prog.underlying 148 = some (.slice 152) := by kernel_rfl
@[simp] theorem ln148 (c : Cx) (st : St) (x : V) : builtinE Try.prog c .len [148] [x] st = lenS st x := len_slice un148 x
@[simp] theorem ix148 {β : Type} (m o len cap i : Nat) (k : V → Option β) : idxE Try.prog 148 (.sl m o len cap) i k = if i < len then k (.p m (o + i * 2)) else none := idxE_sl un148 (fun k => sz152 k) m o len cap i k
@[simp] theorem iy148 {β : Type} (m o len w i : Nat) (k : V → Option β) : idxE Try.prog 148 (.sg m o len w) i k = if i < len then k (.p m (o + i * 2)) else none := idxE_sg un148 (fun k => sz152 k) m o len w i k
@[simp] theorem el148 {β : Type} (k : TypeId → Nat → Option β) : Ev.elemOf Try.prog 148 k = k 152 2 := by kernel_rfl
@[simp] theorem bz150 (st : St) : bldK Try.prog 150 [] [] [.int .i64 0, .int .i64 0, .c (.slice none 0 0)] st = some (.g [.int .i64 0, .int .i64 0, .c (.slice none 0 0)], st) := by kernel_rfl
theorem so150 : structOk Try.prog 150 [(0, 1), (1, 1), (2, 1)] = true := by kernel_rfl
@[simp] theorem bl150 (x0 x1 x2 : Operand) (a0 a1 a2 : V) (st : St) (h0 : a0.one = true) (h1 : a1.one = true) (h2 : a2.one = true) : bldK Try.prog 150 [(0, x0), (1, x1), (2, x2)] [a0, a1, a2] [.int .i64 0, .int .i64 0, .c (.slice none 0 0)] st = some (.g [a0, a1, a2], st) := by
  rw [bldK_ok so150, partsK_one rfl h0 (by simp), partsK_one rfl h1 (by simp), partsK_one rfl h2 (by simp)]; rfl
@[simp] theorem fk150_0 (k : Nat → Nat → Res) : fieldK Try.prog 150 0 k = k 1 0 := by kernel_rfl
@[simp] theorem fk150_1 (k : Nat → Nat → Res) : fieldK Try.prog 150 1 k = k 1 1 := by kernel_rfl
@[simp] theorem fk150_2 (k : Nat → Nat → Res) : fieldK Try.prog 150 2 k = k 1 2 := by kernel_rfl
@[simp] theorem bz152 (st : St) : bldK Try.prog 152 [] [] [.int .u64 0, .c (.slice none 0 0)] st = some (.g [.int .u64 0, .c (.slice none 0 0)], st) := by kernel_rfl
theorem so152 : structOk Try.prog 152 [(0, 1), (1, 1)] = true := by kernel_rfl
@[simp] theorem bl152 (x0 x1 : Operand) (a0 a1 : V) (st : St) (h0 : a0.one = true) (h1 : a1.one = true) : bldK Try.prog 152 [(0, x0), (1, x1)] [a0, a1] [.int .u64 0, .c (.slice none 0 0)] st = some (.g [a0, a1], st) := by
  rw [bldK_ok so152, partsK_one rfl h0 (by simp), partsK_one rfl h1 (by simp)]; rfl
@[simp] theorem fk152_0 (k : Nat → Nat → Res) : fieldK Try.prog 152 0 k = k 1 0 := by kernel_rfl
@[simp] theorem fk152_1 (k : Nat → Nat → Res) : fieldK Try.prog 152 1 k = k 1 1 := by kernel_rfl
@[simp] theorem un161 : Try.prog.underlying 161 = some (.slice 167) := by kernel_rfl
@[simp] theorem ln161 (c : Cx) (st : St) (x : V) : builtinE Try.prog c .len [161] [x] st = lenS st x := len_slice un161 x
@[simp] theorem ix161 {β : Type} (m o len cap i : Nat) (k : V → Option β) : idxE Try.prog 161 (.sl m o len cap) i k = if i < len then k (.p m (o + i * 3)) else none := idxE_sl un161 (fun k => sz167 k) m o len cap i k
@[simp] theorem iy161 {β : Type} (m o len w i : Nat) (k : V → Option β) : idxE Try.prog 161 (.sg m o len w) i k = if i < len then k (.p m (o + i * 3)) else none := idxE_sg un161 (fun k => sz167 k) m o len w i k
@[simp] theorem el161 {β : Type} (k : TypeId → Nat → Option β) : Ev.elemOf Try.prog 161 k = k 167 3 := by kernel_rfl
@[simp] theorem un164 : Try.prog.underlying 164 = some (.slice 170) := by kernel_rfl
@[simp] theorem ln164 (c : Cx) (st : St) (x : V) : builtinE Try.prog c .len [164] [x] st = lenS st x := len_slice un164 x
@[simp] theorem ix164 {β : Type} (m o len cap i : Nat) (k : V → Option β) : idxE Try.prog 164 (.sl m o len cap) i k = if i < len then k (.p m (o + i * 2)) else none := idxE_sl un164 (fun k => sz170 k) m o len cap i k
@[simp] theorem iy164 {β : Type} (m o len w i : Nat) (k : V → Option β) : idxE Try.prog 164 (.sg m o len w) i k = if i < len then k (.p m (o + i * 2)) else none := idxE_sg un164 (fun k => sz170 k) m o len w i k
@[simp] theorem el164 {β : Type} (k : TypeId → Nat → Option β) : Ev.elemOf Try.prog 164 k = k 170 2 := by kernel_rfl
@[simp] theorem un165 : Try.prog.underlying 165 = some (.array 6 164) := by kernel_rfl
@[simp] theorem ix165 {β : Type} (m o i : Nat) (k : V → Option β) : idxE Try.prog 165 (.p m o) i k = if i < 6 then k (.p m (o + i * 1)) else none := idxE_arr un165 (fun k => sz164 k) m o i k
@[simp] theorem bz167 (st : St) : bldK Try.prog 167 [] [] [.int .i64 0, .int .i64 0, .c (.slice none 0 0)] st = some (.g [.int .i64 0, .int .i64 0, .c (.slice none 0 0)], st) := by kernel_rfl
theorem so167 : structOk Try.prog 167 [(0, 1), (1, 1), (2, 1)] = true := by kernel_rfl
@[simp] theorem bl167 (x0 x1 x2 : Operand) (a0 a1 a2 : V) (st : St) (h0 : a0.one = true) (h1 : a1.one = true) (h2 : a2.one = true) : bldK Try.prog 167 [(0, x0), (1, x1), (2, x2)] [a0, a1, a2] [.int .i64 0, .int .i64 0, .c (.slice none 0 0)] st = some (.g [a0, a1, a2], st) := by
  rw [bldK_ok so167, partsK_one rfl h0 (by simp), partsK_one rfl h1 (by simp), partsK_one rfl h2 (by simp)]; rfl
@[simp] theorem fk167_0 (k : Nat → Nat → Res) : fieldK Try.prog 167 0 k = k 1 0 := by kernel_rfl
@[simp] theorem fk167_1 (k : Nat → Nat → Res) : fieldK Try.prog 167 1 k = k 1 1 := by kernel_rfl
@[simp] theorem fk167_2 (k : Nat → Nat → Res) : fieldK Try.prog 167 2 k = k 1 2 := by kernel_rfl
@[simp] theorem bz170 (st : St) : bldK Try.prog 170 [] [] [.int .i64 0, .bool false] st = some (.g [.int .i64 0, .bool false], st) := by kernel_rfl
theorem so170 : structOk Try.prog 170 [(0, 1), (1, 1)] = true := by kernel_rfl
@[simp] theorem bl170 (x0 x1 : Operand) (a0 a1 : V) (st : St) (h0 : a0.one = true) (h1 : a1.one = true) : bldK Try.prog 170 [(0, x0), (1, x1)] [a0, a1] [.int .i64 0, .bool false] st = some (.g [a0, a1], st) := by
  rw [bldK_ok so170, partsK_one rfl h0 (by simp), partsK_one rfl h1 (by simp)]; rfl
@[simp] theorem fk170_0 (k : Nat → Nat → Res) : fieldK Try.prog 170 0 k = k 1 0 := by kernel_rfl
@[simp] theorem fk170_1 (k : Nat → Nat → Res) : fieldK Try.prog 170 1 k = k 1 1 := by kernel_rfl
@[simp] theorem un179 : Try.prog.underlying 179 = some (.int .u64) := by kernel_rfl
@[simp] theorem bz182 (st : St) : bldK Try.prog 182 [] [] [.int .i64 0, .int .i64 0] st = some (.g [.int .i64 0, .int .i64 0], st) := by kernel_rfl
theorem so182 : structOk Try.prog 182 [(0, 1), (1, 1)] = true := by kernel_rfl
@[simp] theorem bl182 (x0 x1 : Operand) (a0 a1 : V) (st : St) (h0 : a0.one = true) (h1 : a1.one = true) : bldK Try.prog 182 [(0, x0), (1, x1)] [a0, a1] [.int .i64 0, .int .i64 0] st = some (.g [a0, a1], st) := by
  rw [bldK_ok so182, partsK_one rfl h0 (by simp), partsK_one rfl h1 (by simp)]; rfl
@[simp] theorem fk182_0 (k : Nat → Nat → Res) : fieldK Try.prog 182 0 k = k 1 0 := by kernel_rfl
@[simp] theorem fk182_1 (k : Nat → Nat → Res) : fieldK Try.prog 182 1 k = k 1 1 := by kernel_rfl
@[simp] theorem bz198 (st : St) : bldK Try.prog 198 [] [] [.int .i64 0, .int .i64 0] st = some (.g [.int .i64 0, .int .i64 0], st) := by kernel_rfl
theorem so198 : structOk Try.prog 198 [(0, 1), (1, 1)] = true := by kernel_rfl
@[simp] theorem bl198 (x0 x1 : Operand) (a0 a1 : V) (st : St) (h0 : a0.one = true) (h1 : a1.one = true) : bldK Try.prog 198 [(0, x0), (1, x1)] [a0, a1] [.int .i64 0, .int .i64 0] st = some (.g [a0, a1], st) := by
  rw [bldK_ok so198, partsK_one rfl h0 (by simp), partsK_one rfl h1 (by simp)]; rfl
@[simp] theorem fk198_0 (k : Nat → Nat → Res) : fieldK Try.prog 198 0 k = k 1 0 := by kernel_rfl
@[simp] theorem fk198_1 (k : Nat → Nat → Res) : fieldK Try.prog 198 1 k = k 1 1 := by kernel_rfl
@[simp] theorem bz200 (st : St) : bldK Try.prog 200 [] [] [.int .i64 0, .int .i64 0, .int .i64 0, .int .i64 0, .int .i64 0, .int .i64 0, .int .i64 0, .int .i64 0, .int .i64 0, .int .i64 0] st = some (.g [.int .i64 0, .int .i64 0, .int .i64 0, .int .i64 0, .int .i64 0, .int .i64 0, .int .i64 0, .int .i64 0, .int .i64 0, .int .i64 0], st) := by kernel_rfl
theorem so200 : structOk Try.prog 200 [(0, 2), (2, 2), (4, 2), (6, 2), (8, 2)] = true := by kernel_rfl
@[simp] theorem fk200_0 (k : Nat → Nat → Res) : fieldK Try.prog 200 0 k = k 2 0 := by kernel_rfl
@[simp] theorem fk200_1 (k : Nat → Nat → Res) : fieldK Try.prog 200 1 k = k 2 2 := by kernel_rfl
@[simp] theorem fk200_2 (k : Nat → Nat → Res) : fieldK Try.prog 200 2 k = k 2 4 := by kernel_rfl
@[simp] theorem fk200_3 (k : Nat → Nat → Res) : fieldK Try.prog 200 3 k = k 2 6 := by kernel_rfl
@[simp] theorem fk200_4 (k : Nat → Nat → Res) : fieldK Try.prog 200 4 k = k 2 8 := by kernel_rfl
@[simp] theorem bz204 (st : St) : bldK Try.prog 204 [] [] [.int .i64 0, .int .i64 0, .int .i64 0, .int .i64 0, .c (.slice none 0 0)] st = some (.g [.int .i64 0, .int .i64 0, .int .i64 0, .int .i64 0, .c (.slice none 0 0)], st) := by kernel_rfl
theorem so204 : structOk Try.prog 204 [(0, 4), (4, 1)] = true := by kernel_rfl
@[simp] theorem fk204_0 (k : Nat → Nat → Res) : fieldK Try.prog 204 0 k = k 4 0 := by kernel_rfl
@[simp] theorem fk204_1 (k : Nat → Nat → Res) : fieldK Try.prog 204 1 k = k 1 4 := by kernel_rfl
@[simp] theorem un222 : Try.prog.underlying 222 = some (.slice 225) := by kernel_rfl
@[simp] theorem ln222 (c : Cx) (st : St) (x : V) : builtinE Try.prog c .len [222] [x] st = lenS st x := len_slice un222 x
@[simp] theorem ix222 {β : Type} (m o len cap i : Nat) (k : V → Option β) : idxE Try.prog 222 (.sl m o len cap) i k = if i < len then k (.p m (o + i * 1)) else none := idxE_sl un222 (fun k => sz225 k) m o len cap i k
@[simp] theorem iy222 {β : Type} (m o len w i : Nat) (k : V → Option β) : idxE Try.prog 222 (.sg m o len w) i k = if i < len then k (.p m (o + i * 1)) else none := idxE_sg un222 (fun k => sz225 k) m o len w i k
@[simp] theorem el222 {β : Type} (k : TypeId → Nat → Option β) : Ev.elemOf Try.prog 222 k = k 225 1 := by kernel_rfl
@[simp] theorem bz224 (st : St) : bldK Try.prog 224 [] [] [.c (.slice none 0 0), .bool false, .int .i64 0, .c (.slice none 0 0), .int .i64 0, .int .i64 0, .int .i64 0] st = some (.g [.c (.slice none 0 0), .bool false, .int .i64 0, .c (.slice none 0 0), .int .i64 0, .int .i64 0, .int .i64 0], st) := by kernel_rfl
theorem so224 : structOk Try.prog 224 [(0, 1), (1, 1), (2, 1), (3, 1), (4, 1), (5, 1), (6, 1)] = true := by kernel_rfl
@[simp] theorem bl224 (x0 x1 x2 x3 x4 x5 x6 : Operand) (a0 a1 a2 a3 a4 a5 a6 : V) (st : St) (h0 : a0.one = true) (h1 : a1.one = true) (h2 : a2.one = true) (h3 : a3.one = true) (h4 : a4.one = true) (h5 : a5.one = true) (h6 : a6.one = true) : bldK Try.prog 224 [(0, x0), (1, x1), (2, x2), (3, x3), (4, x4), (5, x5), (6, x6)] [a0, a1, a2, a3, a4, a5, a6] [.c (.slice none 0 0), .bool false, .int .i64 0, .c (.slice none 0 0), .int .i64 0, .int .i64 0, .int .i64 0] st = some (.g [a0, a1, a2, a3, a4, a5, a6], st) := by
  rw [bldK_ok so224, partsK_one rfl h0 (by simp), partsK_one rfl h1 (by simp), partsK_one rfl h2 (by simp), partsK_one rfl h3 (by simp), partsK_one rfl h4 (by simp), partsK_one rfl h5 (by simp), partsK_one rfl h6 (by simp)]; rfl
@[simp] theorem fk224_0 (k : Nat → Nat → Res) : fieldK Try.prog 224 0 k = k 1 0 := by kernel_rfl
@[simp] theorem fk224_1 (k : Nat → Nat → Res) : fieldK Try.prog 224 1 k = k 1 1 := by kernel_rfl
@[simp] theorem fk224_2 (k : Nat → Nat → Res) : fieldK Try.prog 224 2 k = k 1 2 := by kernel_rfl
@[simp] theorem fk224_3 (k : Nat → Nat → Res) : fieldK Try.prog 224 3 k = k 1 3 := by kernel_rfl
@[simp] theorem fk224_4 (k : Nat → Nat → Res) : fieldK Try.prog 224 4 k = k 1 4 := by kernel_rfl
@[simp] theorem fk224_5 (k : Nat → Nat → Res) : fieldK Try.prog 224 5 k = k 1 5 := by kernel_rfl
@[simp] theorem fk224_6 (k : Nat → Nat → Res) : fieldK Try.prog 224 6 k = k 1 6 := by kernel_rfl
@[simp] theorem bz230 (st : St) : bldK Try.prog 230 [] [] [.int .i64 0, .int .u64 0] st = some (.g [.int .i64 0, .int .u64 0], st) := by kernel_rfl
theorem so230 : structOk Try.prog 230 [(0, 1), (1, 1)] = true := by kernel_rfl
@[simp] theorem bl230 (x0 x1 : Operand) (a0 a1 : V) (st : St) (h0 : a0.one = true) (h1 : a1.one = true) : bldK Try.prog 230 [(0, x0), (1, x1)] [a0, a1] [.int .i64 0, .int .u64 0] st = some (.g [a0, a1], st) := by
  rw [bldK_ok so230, partsK_one rfl h0 (by simp), partsK_one rfl h1 (by simp)]; rfl
@[simp] theorem fk230_0 (k : Nat → Nat → Res) : fieldK Try.prog 230 0 k = k 1 0 := by kernel_rfl
@[simp] theorem fk230_1 (k : Nat → Nat → Res) : fieldK Try.prog 230 1 k = k 1 1 := by kernel_rfl
@[simp] theorem bz233 (st : St) : bldK Try.prog 233 [] [] [.c (.slice none 0 0), .int .u64 0] st = some (.g [.c (.slice none 0 0), .int .u64 0], st) := by kernel_rfl
theorem so233 : structOk Try.prog 233 [(0, 1), (1, 1)] = true := by kernel_rfl
@[simp] theorem bl233 (x0 x1 : Operand) (a0 a1 : V) (st : St) (h0 : a0.one = true) (h1 : a1.one = true) : bldK Try.prog 233 [(0, x0), (1, x1)] [a0, a1] [.c (.slice none 0 0), .int .u64 0] st = some (.g [a0, a1], st) := by
  rw [bldK_ok so233, partsK_one rfl h0 (by simp), partsK_one rfl h1 (by simp)]; rfl
@[simp] theorem fk233_0 (k : Nat → Nat → Res) : fieldK Try.prog 233 0 k = k 1 0 := by kernel_rfl
@[simp] theorem fk233_1 (k : Nat → Nat → Res) : fieldK Try.prog 233 1 k = k 1 1 := by kernel_rfl
@[simp] theorem bz240 (st : St) : bldK Try.prog 240 [] [] [.c (.map none), .c (.map none)] st = some (.g [.c (.map none), .c (.map none)], st) := by kernel_rfl
theorem so240 : structOk Try.prog 240 [(0, 1), (1, 1)] = true := by kernel_rfl
@[simp] theorem bl240 (x0 x1 : Operand) (a0 a1 : V) (st : St) (h0 : a0.one = true) (h1 : a1.one = true) : bldK Try.prog 240 [(0, x0), (1, x1)] [a0, a1] [.c (.map none), .c (.map none)] st = some (.g [a0, a1], st) := by
  rw [bldK_ok so240, partsK_one rfl h0 (by simp), partsK_one rfl h1 (by simp)]; rfl
@[simp] theorem fk240_0 (k : Nat → Nat → Res) : fieldK Try.prog 240 0 k = k 1 0 := by kernel_rfl
@[simp] theorem fk240_1 (k : Nat → Nat → Res) : fieldK Try.prog 240 1 k = k 1 1 := by kernel_rfl
@[simp] theorem bz242 (st : St) : bldK Try.prog 242 [] [] [.c (.slice none 0 0), .bool false] st = some (.g [.c (.slice none 0 0), .bool false], st) := by kernel_rfl
theorem so242 : structOk Try.prog 242 [(0, 1), (1, 1)] = true := by kernel_rfl
@[simp] theorem bl242 (x0 x1 : Operand) (a0 a1 : V) (st : St) (h0 : a0.one = true) (h1 : a1.one = true) : bldK Try.prog 242 [(0, x0), (1, x1)] [a0, a1] [.c (.slice none 0 0), .bool false] st = some (.g [a0, a1], st) := by
  rw [bldK_ok so242, partsK_one rfl h0 (by simp), partsK_one rfl h1 (by simp)]; rfl
@[simp] theorem fk242_0 (k : Nat → Nat → Res) : fieldK Try.prog 242 0 k = k 1 0 := by kernel_rfl
@[simp] theorem fk242_1 (k : Nat → Nat → Res) : fieldK Try.prog 242 1 k = k 1 1 := by kernel_rfl
@[simp] theorem un266 : Try.prog.underlying 266 = some (.array 8 24) := by kernel_rfl
@[simp] theorem ix266 {β : Type} (m o i : Nat) (k : V → Option β) : idxE Try.prog 266 (.p m o) i k = if i < 8 then k (.p m (o + i * 1)) else none := idxE_arr un266 (fun k => sz24 k) m o i k
@[simp] theorem un267 : Try.prog.underlying 267 = some (.slice 298) := by kernel_rfl
@[simp] theorem ln267 (c : Cx) (st : St) (x : V) : builtinE Try.prog c .len [267] [x] st = lenS st x := len_slice un267 x
@[simp] theorem ix267 {β : Type} (m o len cap i : Nat) (k : V → Option β) : idxE Try.prog 267 (.sl m o len cap) i k = if i < len then k (.p m (o + i * 2)) else none := idxE_sl un267 (fun k => sz298 k) m o len cap i k
@[simp] theorem iy267 {β : Type} (m o len w i : Nat) (k : V → Option β) : idxE Try.prog 267 (.sg m o len w) i k = if i < len then k (.p m (o + i * 2)) else none := idxE_sg un267 (fun k => sz298 k) m o len w i k
@[simp] theorem el267 {β : Type} (k : TypeId → Nat → Option β) : Ev.elemOf Try.prog 267 k = k 298 2 := by kernel_rfl
@[simp] theorem bz269 (st : St) : bldK Try.prog 269 [] [] [.int .u64 0, .int .u64 0, .int .u64 0, .int .u64 0, .int .u64 0, .int .u64 0, .int .u64 0, .int .u64 0, .int .u64 0, .int .u64 0, .int .u64 0, .int .u64 0, .int .u64 0, .int .u64 0, .int .u64 0, .int .u64 0, .c (.slice none 0 0), .int .i64 0] st = some (.g [.int .u64 0, .int .u64 0, .int .u64 0, .int .u64 0, .int .u64 0, .int .u64 0, .int .u64 0, .int .u64 0, .int .u64 0, .int .u64 0, .int .u64 0, .int .u64 0, .int .u64 0, .int .u64 0, .int .u64 0, .int .u64 0, .c (.slice none 0 0), .int .i64 0], st) := by kernel_rfl
theorem so269 : structOk Try.prog 269 [(0, 8), (8, 8), (16, 1), (17, 1)] = true := by kernel_rfl
@[simp] theorem fk269_0 (k : Nat → Nat → Res) : fieldK Try.prog 269 0 k = k 8 0 := by kernel_rfl
@[simp] theorem fk269_1 (k : Nat → Nat → Res) : fieldK Try.prog 269 1 k = k 8 8 := by kernel_rfl
@[simp] theorem fk269_2 (k : Nat → Nat → Res) : fieldK Try.prog 269 2 k = k 1 16 := by kernel_rfl
@[simp] theorem fk269_3 (k : Nat → Nat → Res) : fieldK Try.prog 269 3 k = k 1 17 := by kernel_rfl
@[simp] theorem un279 : Try.prog.underlying 279 = some (.array 256 4) := by kernel_rfl
@[simp] theorem ix279 {β : Type} (m o i : Nat) (k : V → Option β) : idxE Try.prog 279 (.p m o) i k = if i < 256 then k (.p m (o + i * 1)) else none := idxE_arr un279 (fun k => sz4 k) m o i k
@[simp] theorem un285 : Try.prog.underlying 285 = some (.int .i64) := by kernel_rfl
@[simp] theorem un292 : Try.prog.underlying 292 = some (.int .u32) := by kernel_rfl
@[simp] theorem bz298 (st : St) : bldK Try.prog 298 [] [] [.int .i64 0, .int .u64 0] st = some (.g [.int .i64 0, .int .u64 0], st) := by kernel_rfl
theorem so298 : structOk Try.prog 298 [(0, 1), (1, 1)] = true := by kernel_rfl
@[simp] theorem bl298 (x0 x1 : Operand) (a0 a1 : V) (st : St) (h0 : a0.one = true) (h1 : a1.one = true) : bldK Try.prog 298 [(0, x0), (1, x1)] [a0, a1] [.int .i64 0, .int .u64 0] st = some (.g [a0, a1], st) := by
  rw [bldK_ok so298, partsK_one rfl h0 (by simp), partsK_one rfl h1 (by simp)]; rfl
@[simp] theorem fk298_0 (k : Nat → Nat → Res) : fieldK Try.prog 298 0 k = k 1 0 := by kernel_rfl
@[simp] theorem fk298_1 (k : Nat → Nat → Res) : fieldK Try.prog 298 1 k = k 1 1 := by kernel_rfl
@[simp] theorem un304 : Try.prog.underlying 304 = some (.int .u64) := by kernel_rfl
end Go.Proofs.Ytdoennkmcloalaa

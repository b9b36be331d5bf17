/-
  PLAIN: what the program's own tables say, as rules for rewriting.
-/
import Derived.Test.YtgcpgidofikcdaaDoorChecked
import Derived.Test.YtgcpgidofikcdaaDoorSb
namespace Go.Proofs.YtgcpgidofikcdaaDoor
open Go.RowKit Ev
-- main.main
@[simp] theorem nt0 : Tryd.f0.ntmps = 0 := rfl
@[simp] theorem rs0 : Tryd.f0.results.toList = [] := rfl
@[simp] theorem xt0 : ext? Tryd.prog 0 = none := by kernel_rfl
-- gosem.cut
@[simp] theorem nt1 : Tryd.f1.ntmps = 0 := rfl
@[simp] theorem rs1 : Tryd.f1.results.toList = [] := rfl
@[simp] theorem xt1 : ext? Tryd.prog 1 = none := by kernel_rfl
-- gosem.cut.init
@[simp] theorem nt2 : Tryd.f2.ntmps = 1 := rfl
@[simp] theorem rs2 : Tryd.f2.results.toList = [] := rfl
@[simp] theorem xt2 : ext? Tryd.prog 2 = none := by kernel_rfl
-- lintel/lintellaw17.TreeRefused
@[simp] theorem nt3 : Tryd.f3.ntmps = 78 := rfl
@[simp] theorem rs3 : Tryd.f3.results.toList = [.tmp 4] := rfl
@[simp] theorem xt3 : ext? Tryd.prog 3 = none := by kernel_rfl
-- lintel/lintellaw17.TreeApart
@[simp] theorem nt4 : Tryd.f4.ntmps = 73 := rfl
@[simp] theorem rs4 : Tryd.f4.results.toList = [.tmp 4] := rfl
@[simp] theorem xt4 : ext? Tryd.prog 4 = none := by kernel_rfl
-- lintel/lintellaw17.TreeLinks
@[simp] theorem nt5 : Tryd.f5.ntmps = 131 := rfl
@[simp] theorem rs5 : Tryd.f5.results.toList = [.tmp 6] := rfl
@[simp] theorem xt5 : ext? Tryd.prog 5 = none := by kernel_rfl
-- lintel/lintellaw17.TreeMoves
@[simp] theorem nt6 : Tryd.f6.ntmps = 86 := rfl
@[simp] theorem rs6 : Tryd.f6.results.toList = [.tmp 6] := rfl
@[simp] theorem xt6 : ext? Tryd.prog 6 = none := by kernel_rfl
-- lintel/lintellaw17.TreeBytes
@[simp] theorem nt7 : Tryd.f7.ntmps = 153 := rfl
@[simp] theorem rs7 : Tryd.f7.results.toList = [.tmp 10] := rfl
@[simp] theorem xt7 : ext? Tryd.prog 7 = none := by kernel_rfl
-- lintel/lintellaw17.TreeDirs
@[simp] theorem nt8 : Tryd.f8.ntmps = 83 := rfl
@[simp] theorem rs8 : Tryd.f8.results.toList = [.tmp 4] := rfl
@[simp] theorem xt8 : ext? Tryd.prog 8 = none := by kernel_rfl
-- lintel/lintellaw17.awake
@[simp] theorem nt9 : Tryd.f9.ntmps = 33 := rfl
@[simp] theorem rs9 : Tryd.f9.results.toList = [.tmp 0] := rfl
@[simp] theorem xt9 : ext? Tryd.prog 9 = none := by kernel_rfl
-- lintel/tree.New
@[simp] theorem nt10 : Tryd.f10.ntmps = 21 := rfl
@[simp] theorem rs10 : Tryd.f10.results.toList = [.tmp 2] := rfl
@[simp] theorem xt10 : ext? Tryd.prog 10 = none := by kernel_rfl
-- lintel/lintellaw17.heavy
@[simp] theorem nt11 : Tryd.f11.ntmps = 19 := rfl
@[simp] theorem rs11 : Tryd.f11.results.toList = [.tmp 2] := rfl
@[simp] theorem xt11 : ext? Tryd.prog 11 = none := by kernel_rfl
-- (*lintel/tree.Tree).Clone
@[simp] theorem nt12 : Tryd.f12.ntmps = 45 := rfl
@[simp] theorem rs12 : Tryd.f12.results.toList = [.tmp 2] := rfl
@[simp] theorem xt12 : ext? Tryd.prog 12 = none := by kernel_rfl
-- (*lintel/tree.Tree).Do
@[simp] theorem nt13 : Tryd.f13.ntmps = 102 := rfl
@[simp] theorem rs13 : Tryd.f13.results.toList = [.cell 4 34] := rfl
@[simp] theorem xt13 : ext? Tryd.prog 13 = none := by kernel_rfl
-- lintel/tree.Same
@[simp] theorem nt14 : Tryd.f14.ntmps = 14 := rfl
@[simp] theorem rs14 : Tryd.f14.results.toList = [.tmp 4] := rfl
@[simp] theorem xt14 : ext? Tryd.prog 14 = none := by kernel_rfl
-- (*lintel/tree.Tree).Parts
@[simp] theorem nt15 : Tryd.f15.ntmps = 34 := rfl
@[simp] theorem rs15 : Tryd.f15.results.toList = [.tmp 2] := rfl
@[simp] theorem xt15 : ext? Tryd.prog 15 = none := by kernel_rfl
-- lintel/lintellaw17.texts
@[simp] theorem nt16 : Tryd.f16.ntmps = 26 := rfl
@[simp] theorem rs16 : Tryd.f16.results.toList = [.tmp 4] := rfl
@[simp] theorem xt16 : ext? Tryd.prog 16 = none := by kernel_rfl
-- lintel/tree.bare
@[simp] theorem nt17 : Tryd.f17.ntmps = 22 := rfl
@[simp] theorem rs17 : Tryd.f17.results.toList = [.tmp 2] := rfl
@[simp] theorem xt17 : ext? Tryd.prog 17 = none := by kernel_rfl
-- slices.Clone[[]lintel/tree.entry,lintel/tree.entry]
@[simp] theorem nt18 : Tryd.f18.ntmps = 8 := rfl
@[simp] theorem rs18 : Tryd.f18.results.toList = [.tmp 2] := rfl
@[simp] theorem xt18 : ext? Tryd.prog 18 = none := by kernel_rfl
-- bytes.Clone
@[simp] theorem nt19 : Tryd.f19.ntmps = 8 := rfl
@[simp] theorem rs19 : Tryd.f19.results.toList = [.tmp 2] := rfl
@[simp] theorem xt19 : ext? Tryd.prog 19 = none := by kernel_rfl
-- slices.Clone[[]lintel/tree.Name,lintel/tree.Name]
@[simp] theorem nt20 : Tryd.f20.ntmps = 8 := rfl
@[simp] theorem rs20 : Tryd.f20.results.toList = [.tmp 2] := rfl
@[simp] theorem xt20 : ext? Tryd.prog 20 = none := by kernel_rfl
-- (*lintel/tree.Tree).make
@[simp] theorem nt21 : Tryd.f21.ntmps = 46 := rfl
@[simp] theorem rs21 : Tryd.f21.results.toList = [.cell 8 34] := rfl
@[simp] theorem xt21 : ext? Tryd.prog 21 = none := by kernel_rfl
-- (*lintel/tree.Tree).link
@[simp] theorem nt22 : Tryd.f22.ntmps = 59 := rfl
@[simp] theorem rs22 : Tryd.f22.results.toList = [.cell 6 34] := rfl
@[simp] theorem xt22 : ext? Tryd.prog 22 = none := by kernel_rfl
-- (*lintel/tree.Tree).unlink
@[simp] theorem nt23 : Tryd.f23.ntmps = 37 := rfl
@[simp] theorem rs23 : Tryd.f23.results.toList = [.cell 4 34] := rfl
@[simp] theorem xt23 : ext? Tryd.prog 23 = none := by kernel_rfl
-- (*lintel/tree.Tree).rmdir
@[simp] theorem nt24 : Tryd.f24.ntmps = 55 := rfl
@[simp] theorem rs24 : Tryd.f24.results.toList = [.cell 4 34] := rfl
@[simp] theorem xt24 : ext? Tryd.prog 24 = none := by kernel_rfl
-- (*lintel/tree.Tree).rename
@[simp] theorem nt25 : Tryd.f25.ntmps = 104 := rfl
@[simp] theorem rs25 : Tryd.f25.results.toList = [.cell 6 34] := rfl
@[simp] theorem xt25 : ext? Tryd.prog 25 = none := by kernel_rfl
-- (*lintel/tree.Tree).symlink
@[simp] theorem nt26 : Tryd.f26.ntmps = 20 := rfl
@[simp] theorem rs26 : Tryd.f26.results.toList = [.cell 6 34] := rfl
@[simp] theorem xt26 : ext? Tryd.prog 26 = none := by kernel_rfl
-- (*lintel/tree.Tree).readlink
@[simp] theorem nt27 : Tryd.f27.ntmps = 38 := rfl
@[simp] theorem rs27 : Tryd.f27.results.toList = [.cell 4 34] := rfl
@[simp] theorem xt27 : ext? Tryd.prog 27 = none := by kernel_rfl
-- (*lintel/tree.Tree).read
@[simp] theorem nt28 : Tryd.f28.ntmps = 52 := rfl
@[simp] theorem rs28 : Tryd.f28.results.toList = [.cell 8 34] := rfl
@[simp] theorem xt28 : ext? Tryd.prog 28 = none := by kernel_rfl
-- (*lintel/tree.Tree).write
@[simp] theorem nt29 : Tryd.f29.ntmps = 73 := rfl
@[simp] theorem rs29 : Tryd.f29.results.toList = [.cell 8 34] := rfl
@[simp] theorem xt29 : ext? Tryd.prog 29 = none := by kernel_rfl
-- (*lintel/tree.Tree).trunc
@[simp] theorem nt30 : Tryd.f30.ntmps = 32 := rfl
@[simp] theorem rs30 : Tryd.f30.results.toList = [.cell 6 34] := rfl
@[simp] theorem xt30 : ext? Tryd.prog 30 = none := by kernel_rfl
-- (*lintel/tree.Tree).stat
@[simp] theorem nt31 : Tryd.f31.ntmps = 44 := rfl
@[simp] theorem rs31 : Tryd.f31.results.toList = [.cell 4 34] := rfl
@[simp] theorem xt31 : ext? Tryd.prog 31 = none := by kernel_rfl
-- (*lintel/tree.Tree).names
@[simp] theorem nt32 : Tryd.f32.ntmps = 66 := rfl
@[simp] theorem rs32 : Tryd.f32.results.toList = [.cell 4 34] := rfl
@[simp] theorem xt32 : ext? Tryd.prog 32 = none := by kernel_rfl
-- lintel/tree.refuse
@[simp] theorem nt33 : Tryd.f33.ntmps = 5 := rfl
@[simp] theorem rs33 : Tryd.f33.results.toList = [.cell 2 34] := rfl
@[simp] theorem xt33 : ext? Tryd.prog 33 = none := by kernel_rfl
-- slices.EqualFunc[[]lintel/tree.entry,[]lintel/tree.entry,lintel/tree.entry,lintel/tree.entry]
@[simp] theorem nt34 : Tryd.f34.ntmps = 32 := rfl
@[simp] theorem rs34 : Tryd.f34.results.toList = [.tmp 6] := rfl
@[simp] theorem xt34 : ext? Tryd.prog 34 = none := by kernel_rfl
-- lintel/tree.Same$1
@[simp] theorem nt35 : Tryd.f35.ntmps = 24 := rfl
@[simp] theorem rs35 : Tryd.f35.results.toList = [.tmp 4] := rfl
@[simp] theorem xt35 : ext? Tryd.prog 35 = none := by kernel_rfl
-- bytes.Equal
@[simp] theorem nt36 : Tryd.f36.ntmps = 10 := rfl
@[simp] theorem rs36 : Tryd.f36.results.toList = [.tmp 4] := rfl
@[simp] theorem xt36 : ext? Tryd.prog 36 = none := by kernel_rfl
-- slices.Equal[[]lintel/tree.Name,lintel/tree.Name]
@[simp] theorem nt37 : Tryd.f37.ntmps = 26 := rfl
@[simp] theorem rs37 : Tryd.f37.results.toList = [.tmp 4] := rfl
@[simp] theorem xt37 : ext? Tryd.prog 37 = none := by kernel_rfl
-- (*lintel/tree.Tree).room
@[simp] theorem nt38 : Tryd.f38.ntmps = 29 := rfl
@[simp] theorem rs38 : Tryd.f38.results.toList = [.tmp 4, .tmp 5, .tmp 6] := rfl
@[simp] theorem xt38 : ext? Tryd.prog 38 = none := by kernel_rfl
-- (*lintel/tree.Tree).spare
@[simp] theorem nt39 : Tryd.f39.ntmps = 23 := rfl
@[simp] theorem rs39 : Tryd.f39.results.toList = [.tmp 2] := rfl
@[simp] theorem xt39 : ext? Tryd.prog 39 = none := by kernel_rfl
-- (*lintel/tree.Tree).enter
@[simp] theorem nt40 : Tryd.f40.ntmps = 57 := rfl
@[simp] theorem rs40 : Tryd.f40.results.toList = [] := rfl
@[simp] theorem xt40 : ext? Tryd.prog 40 = none := by kernel_rfl
-- (*lintel/tree.Tree).way
@[simp] theorem nt41 : Tryd.f41.ntmps = 26 := rfl
@[simp] theorem rs41 : Tryd.f41.results.toList = [.tmp 6, .tmp 7] := rfl
@[simp] theorem xt41 : ext? Tryd.prog 41 = none := by kernel_rfl
-- (*lintel/tree.Tree).there
@[simp] theorem nt42 : Tryd.f42.ntmps = 27 := rfl
@[simp] theorem rs42 : Tryd.f42.results.toList = [.tmp 4, .tmp 5, .tmp 6, .tmp 7] := rfl
@[simp] theorem xt42 : ext? Tryd.prog 42 = none := by kernel_rfl
-- (*lintel/tree.Tree).leave
@[simp] theorem nt43 : Tryd.f43.ntmps = 76 := rfl
@[simp] theorem rs43 : Tryd.f43.results.toList = [] := rfl
@[simp] theorem xt43 : ext? Tryd.prog 43 = none := by kernel_rfl
-- lintel/path.Last
@[simp] theorem nt44 : Tryd.f44.ntmps = 43 := rfl
@[simp] theorem rs44 : Tryd.f44.results.toList = [.tmp 2, .tmp 3, .tmp 4] := rfl
@[simp] theorem xt44 : ext? Tryd.prog 44 = none := by kernel_rfl
-- (*lintel/tree.Tree).dir
@[simp] theorem nt45 : Tryd.f45.ntmps = 29 := rfl
@[simp] theorem rs45 : Tryd.f45.results.toList = [.tmp 4, .tmp 5] := rfl
@[simp] theorem xt45 : ext? Tryd.prog 45 = none := by kernel_rfl
-- (*lintel/tree.Tree).within
@[simp] theorem nt46 : Tryd.f46.ntmps = 25 := rfl
@[simp] theorem rs46 : Tryd.f46.results.toList = [.tmp 6] := rfl
@[simp] theorem xt46 : ext? Tryd.prog 46 = none := by kernel_rfl
-- (*lintel/tree.Tree).find
@[simp] theorem nt47 : Tryd.f47.ntmps = 35 := rfl
@[simp] theorem rs47 : Tryd.f47.results.toList = [.tmp 6] := rfl
@[simp] theorem xt47 : ext? Tryd.prog 47 = none := by kernel_rfl
-- (*lintel/tree.Tree).yields
@[simp] theorem nt48 : Tryd.f48.ntmps = 60 := rfl
@[simp] theorem rs48 : Tryd.f48.results.toList = [.tmp 6] := rfl
@[simp] theorem xt48 : ext? Tryd.prog 48 = none := by kernel_rfl
-- (*lintel/tree.Tree).file
@[simp] theorem nt49 : Tryd.f49.ntmps = 27 := rfl
@[simp] theorem rs49 : Tryd.f49.results.toList = [.tmp 4, .tmp 5] := rfl
@[simp] theorem xt49 : ext? Tryd.prog 49 = none := by kernel_rfl
-- (*lintel/tree.Tree).resize
@[simp] theorem nt50 : Tryd.f50.ntmps = 27 := rfl
@[simp] theorem rs50 : Tryd.f50.results.toList = [] := rfl
@[simp] theorem xt50 : ext? Tryd.prog 50 = none := by kernel_rfl
-- (*lintel/tree.Tree).place
@[simp] theorem nt51 : Tryd.f51.ntmps = 20 := rfl
@[simp] theorem rs51 : Tryd.f51.results.toList = [.tmp 6, .tmp 7] := rfl
@[simp] theorem xt51 : ext? Tryd.prog 51 = none := by kernel_rfl
-- slices.Insert[[]string,string]
@[simp] theorem nt52 : Tryd.f52.ntmps = 95 := rfl
@[simp] theorem rs52 : Tryd.f52.results.toList = [.tmp 6] := rfl
@[simp] theorem xt52 : ext? Tryd.prog 52 = none := by kernel_rfl
-- (*lintel/tree.Tree).last
@[simp] theorem nt53 : Tryd.f53.ntmps = 26 := rfl
@[simp] theorem rs53 : Tryd.f53.results.toList = [.tmp 4, .tmp 5, .tmp 6] := rfl
@[simp] theorem xt53 : ext? Tryd.prog 53 = none := by kernel_rfl
-- slices.Insert[[]lintel/tree.Name,lintel/tree.Name]
@[simp] theorem nt54 : Tryd.f54.ntmps = 95 := rfl
@[simp] theorem rs54 : Tryd.f54.results.toList = [.tmp 6] := rfl
@[simp] theorem xt54 : ext? Tryd.prog 54 = none := by kernel_rfl
-- lintel/path.Split
@[simp] theorem nt55 : Tryd.f55.ntmps = 38 := rfl
@[simp] theorem rs55 : Tryd.f55.results.toList = [.tmp 2, .tmp 3] := rfl
@[simp] theorem xt55 : ext? Tryd.prog 55 = none := by kernel_rfl
-- (*lintel/tree.walk).from
@[simp] theorem nt56 : Tryd.f56.ntmps = 90 := rfl
@[simp] theorem rs56 : Tryd.f56.results.toList = [.tmp 8, .tmp 9] := rfl
@[simp] theorem xt56 : ext? Tryd.prog 56 = none := by kernel_rfl
-- slices.Delete[[]lintel/tree.Name,lintel/tree.Name]
@[simp] theorem nt57 : Tryd.f57.ntmps = 33 := rfl
@[simp] theorem rs57 : Tryd.f57.results.toList = [.tmp 6] := rfl
@[simp] theorem xt57 : ext? Tryd.prog 57 = none := by kernel_rfl
-- strings.HasSuffix
@[simp] theorem nt58 : Tryd.f58.ntmps = 8 := rfl
@[simp] theorem rs58 : Tryd.f58.results.toList = [.tmp 4] := rfl
@[simp] theorem xt58 : ext? Tryd.prog 58 = none := by kernel_rfl
-- slices.BinarySearchFunc[[]lintel/tree.Name,lintel/tree.Name,string]
@[simp] theorem nt59 : Tryd.f59.ntmps = 49 := rfl
@[simp] theorem rs59 : Tryd.f59.results.toList = [.tmp 6, .tmp 7] := rfl
@[simp] theorem xt59 : ext? Tryd.prog 59 = none := by kernel_rfl
-- (*lintel/tree.Tree).place$1
@[simp] theorem nt60 : Tryd.f60.ntmps = 9 := rfl
@[simp] theorem rs60 : Tryd.f60.results.toList = [.tmp 4] := rfl
@[simp] theorem xt60 : ext? Tryd.prog 60 = none := by kernel_rfl
-- strings.Compare
@[simp] theorem nt61 : Tryd.f61.ntmps = 8 := rfl
@[simp] theorem rs61 : Tryd.f61.results.toList = [.tmp 4] := rfl
@[simp] theorem xt61 : ext? Tryd.prog 61 = none := by kernel_rfl
-- slices.overlaps[string]
@[simp] theorem nt62 : Tryd.f62.ntmps = 2 := rfl
@[simp] theorem rs62 : Tryd.f62.results.toList = [] := rfl
-- slices.rotateRight[string]
@[simp] theorem nt63 : Tryd.f63.ntmps = 10 := rfl
@[simp] theorem rs63 : Tryd.f63.results.toList = [] := rfl
@[simp] theorem xt63 : ext? Tryd.prog 63 = none := by kernel_rfl
-- slices.overlaps[lintel/tree.Name]
@[simp] theorem nt64 : Tryd.f64.ntmps = 2 := rfl
@[simp] theorem rs64 : Tryd.f64.results.toList = [] := rfl
-- slices.rotateRight[lintel/tree.Name]
@[simp] theorem nt65 : Tryd.f65.ntmps = 10 := rfl
@[simp] theorem rs65 : Tryd.f65.results.toList = [] := rfl
@[simp] theorem xt65 : ext? Tryd.prog 65 = none := by kernel_rfl
-- strings.Split
@[simp] theorem nt66 : Tryd.f66.ntmps = 8 := rfl
@[simp] theorem rs66 : Tryd.f66.results.toList = [.tmp 4] := rfl
@[simp] theorem xt66 : ext? Tryd.prog 66 = none := by kernel_rfl
-- strings.Contains
@[simp] theorem nt67 : Tryd.f67.ntmps = 9 := rfl
@[simp] theorem rs67 : Tryd.f67.results.toList = [.tmp 4] := rfl
@[simp] theorem xt67 : ext? Tryd.prog 67 = none := by kernel_rfl
-- (*lintel/tree.walk).follow
@[simp] theorem nt68 : Tryd.f68.ntmps = 52 := rfl
@[simp] theorem rs68 : Tryd.f68.results.toList = [.tmp 6, .tmp 7] := rfl
@[simp] theorem xt68 : ext? Tryd.prog 68 = none := by kernel_rfl
-- internal/stringslite.HasSuffix
@[simp] theorem nt69 : Tryd.f69.ntmps = 21 := rfl
@[simp] theorem rs69 : Tryd.f69.results.toList = [.tmp 4] := rfl
@[simp] theorem xt69 : ext? Tryd.prog 69 = none := by kernel_rfl
-- internal/bytealg.CompareString
@[simp] theorem nt70 : Tryd.f70.ntmps = 8 := rfl
@[simp] theorem rs70 : Tryd.f70.results.toList = [.tmp 4] := rfl
@[simp] theorem xt70 : ext? Tryd.prog 70 = none := by kernel_rfl
-- slices.rotateLeft[string]
@[simp] theorem nt71 : Tryd.f71.ntmps = 14 := rfl
@[simp] theorem rs71 : Tryd.f71.results.toList = [] := rfl
@[simp] theorem xt71 : ext? Tryd.prog 71 = none := by kernel_rfl
-- slices.rotateLeft[lintel/tree.Name]
@[simp] theorem nt72 : Tryd.f72.ntmps = 14 := rfl
@[simp] theorem rs72 : Tryd.f72.results.toList = [] := rfl
@[simp] theorem xt72 : ext? Tryd.prog 72 = none := by kernel_rfl
-- strings.genSplit
@[simp] theorem nt73 : Tryd.f73.ntmps = 66 := rfl
@[simp] theorem rs73 : Tryd.f73.results.toList = [.tmp 8] := rfl
@[simp] theorem xt73 : ext? Tryd.prog 73 = none := by kernel_rfl
-- strings.Index
@[simp] theorem nt74 : Tryd.f74.ntmps = 8 := rfl
@[simp] theorem rs74 : Tryd.f74.results.toList = [.tmp 4] := rfl
@[simp] theorem xt74 : ext? Tryd.prog 74 = none := by kernel_rfl
-- internal/bytealg.abigen_runtime_cmpstring
@[simp] theorem nt75 : Tryd.f75.ntmps = 2 := rfl
@[simp] theorem rs75 : Tryd.f75.results.toList = [] := rfl
-- slices.Reverse[[]string,string]
@[simp] theorem nt76 : Tryd.f76.ntmps = 28 := rfl
@[simp] theorem rs76 : Tryd.f76.results.toList = [] := rfl
@[simp] theorem xt76 : ext? Tryd.prog 76 = none := by kernel_rfl
-- slices.Reverse[[]lintel/tree.Name,lintel/tree.Name]
@[simp] theorem nt77 : Tryd.f77.ntmps = 28 := rfl
@[simp] theorem rs77 : Tryd.f77.results.toList = [] := rfl
@[simp] theorem xt77 : ext? Tryd.prog 77 = none := by kernel_rfl
-- strings.explode
@[simp] theorem nt78 : Tryd.f78.ntmps = 50 := rfl
@[simp] theorem rs78 : Tryd.f78.results.toList = [.tmp 4] := rfl
@[simp] theorem xt78 : ext? Tryd.prog 78 = none := by kernel_rfl
-- strings.Count
@[simp] theorem nt79 : Tryd.f79.ntmps = 34 := rfl
@[simp] theorem rs79 : Tryd.f79.results.toList = [.tmp 4] := rfl
@[simp] theorem xt79 : ext? Tryd.prog 79 = none := by kernel_rfl
-- internal/stringslite.Index
@[simp] theorem nt80 : Tryd.f80.ntmps = 143 := rfl
@[simp] theorem rs80 : Tryd.f80.results.toList = [.tmp 4] := rfl
@[simp] theorem xt80 : ext? Tryd.prog 80 = none := by kernel_rfl
-- unicode/utf8.RuneCountInString
@[simp] theorem nt81 : Tryd.f81.ntmps = 10 := rfl
@[simp] theorem rs81 : Tryd.f81.results.toList = [.tmp 2] := rfl
@[simp] theorem xt81 : ext? Tryd.prog 81 = none := by kernel_rfl
-- unicode/utf8.DecodeRuneInString
@[simp] theorem nt82 : Tryd.f82.ntmps = 19 := rfl
@[simp] theorem rs82 : Tryd.f82.results.toList = [.tmp 2, .tmp 3] := rfl
@[simp] theorem xt82 : ext? Tryd.prog 82 = none := by kernel_rfl
-- internal/bytealg.CountString
@[simp] theorem nt83 : Tryd.f83.ntmps = 2 := rfl
@[simp] theorem rs83 : Tryd.f83.results.toList = [] := rfl
-- internal/stringslite.IndexByte
@[simp] theorem nt84 : Tryd.f84.ntmps = 8 := rfl
@[simp] theorem rs84 : Tryd.f84.results.toList = [.tmp 4] := rfl
@[simp] theorem xt84 : ext? Tryd.prog 84 = none := by kernel_rfl
-- internal/bytealg.IndexString
@[simp] theorem nt85 : Tryd.f85.ntmps = 2 := rfl
@[simp] theorem rs85 : Tryd.f85.results.toList = [] := rfl
-- internal/bytealg.Cutover
@[simp] theorem nt86 : Tryd.f86.ntmps = 6 := rfl
@[simp] theorem rs86 : Tryd.f86.results.toList = [.tmp 2] := rfl
@[simp] theorem xt86 : ext? Tryd.prog 86 = none := by kernel_rfl
-- internal/bytealg.IndexRabinKarp[string]
@[simp] theorem nt87 : Tryd.f87.ntmps = 81 := rfl
@[simp] theorem rs87 : Tryd.f87.results.toList = [.tmp 4] := rfl
@[simp] theorem xt87 : ext? Tryd.prog 87 = none := by kernel_rfl
-- unicode/utf8.decodeRuneInStringSlow
@[simp] theorem nt88 : Tryd.f88.ntmps = 117 := rfl
@[simp] theorem rs88 : Tryd.f88.results.toList = [.tmp 2, .tmp 3] := rfl
@[simp] theorem xt88 : ext? Tryd.prog 88 = none := by kernel_rfl
-- internal/bytealg.IndexByteString
@[simp] theorem nt89 : Tryd.f89.ntmps = 2 := rfl
@[simp] theorem rs89 : Tryd.f89.results.toList = [] := rfl
-- internal/bytealg.hashStr[string]
@[simp] theorem nt90 : Tryd.f90.ntmps = 39 := rfl
@[simp] theorem rs90 : Tryd.f90.results.toList = [.tmp 2, .tmp 3] := rfl
@[simp] theorem xt90 : ext? Tryd.prog 90 = none := by kernel_rfl
@[simp] theorem ag3 : agg? Tryd.prog 3 = some false := by kernel_rfl
@[simp] theorem sz3 {β : Type} (k : Nat → Option β) : szOf Tryd.prog 3 k = k 1 := by kernel_rfl
@[simp] theorem ze3 {β : Type} (k : List V → Option β) : zero Tryd.prog 3 k = k [.int .i64 0] := by kernel_rfl
theorem io3 : infoOk Tryd.prog 3 1 = true := by kernel_rfl
@[simp] theorem ag4 : agg? Tryd.prog 4 = some false := by kernel_rfl
@[simp] theorem sz4 {β : Type} (k : Nat → Option β) : szOf Tryd.prog 4 k = k 1 := by kernel_rfl
@[simp] theorem ze4 {β : Type} (k : List V → Option β) : zero Tryd.prog 4 k = k [.bool false] := by kernel_rfl
theorem io4 : infoOk Tryd.prog 4 1 = true := by kernel_rfl
@[simp] theorem ag5 : agg? Tryd.prog 5 = some false := by kernel_rfl
@[simp] theorem sz5 {β : Type} (k : Nat → Option β) : szOf Tryd.prog 5 k = k 1 := by kernel_rfl
@[simp] theorem ze5 {β : Type} (k : List V → Option β) : zero Tryd.prog 5 k = k [.int .u8 0] := by kernel_rfl
theorem io5 : infoOk Tryd.prog 5 1 = true := by kernel_rfl
@[simp] theorem ag9 : agg? Tryd.prog 9 = some false := by kernel_rfl
@[simp] theorem sz9 {β : Type} (k : Nat → Option β) : szOf Tryd.prog 9 k = k 1 := by kernel_rfl
@[simp] theorem ze9 {β : Type} (k : List V → Option β) : zero Tryd.prog 9 k = k [.s []] := by kernel_rfl
theorem io9 : infoOk Tryd.prog 9 1 = true := by kernel_rfl
@[simp] theorem ag21 : agg? Tryd.prog 21 = some false := by kernel_rfl
@[simp] theorem sz21 {β : Type} (k : Nat → Option β) : szOf Tryd.prog 21 k = k 1 := by kernel_rfl
@[simp] theorem ze21 {β : Type} (k : List V → Option β) : zero Tryd.prog 21 k = k [.int .i32 0] := by kernel_rfl
theorem io21 : infoOk Tryd.prog 21 1 = true := by kernel_rfl
@[simp] theorem ag22 : agg? Tryd.prog 22 = some false := by kernel_rfl
@[simp] theorem sz22 {β : Type} (k : Nat → Option β) : szOf Tryd.prog 22 k = k 1 := by kernel_rfl
@[simp] theorem ze22 {β : Type} (k : List V → Option β) : zero Tryd.prog 22 k = k [.c (.slice none 0 0)] := by kernel_rfl
theorem io22 : infoOk Tryd.prog 22 1 = true := by kernel_rfl
@[simp] theorem ag24 : agg? Tryd.prog 24 = some false := by kernel_rfl
@[simp] theorem sz24 {β : Type} (k : Nat → Option β) : szOf Tryd.prog 24 k = k 1 := by kernel_rfl
@[simp] theorem ze24 {β : Type} (k : List V → Option β) : zero Tryd.prog 24 k = k [.c (.pointer none)] := by kernel_rfl
theorem io24 : infoOk Tryd.prog 24 1 = true := by kernel_rfl
@[simp] theorem ag27 : agg? Tryd.prog 27 = some false := by kernel_rfl
@[simp] theorem sz27 {β : Type} (k : Nat → Option β) : szOf Tryd.prog 27 k = k 1 := by kernel_rfl
@[simp] theorem ze27 {β : Type} (k : List V → Option β) : zero Tryd.prog 27 k = k [.c (.slice none 0 0)] := by kernel_rfl
theorem io27 : infoOk Tryd.prog 27 1 = true := by kernel_rfl
@[simp] theorem ag29 : agg? Tryd.prog 29 = some true := by kernel_rfl
@[simp] theorem sz29 {β : Type} (k : Nat → Option β) : szOf Tryd.prog 29 k = k 6 := by kernel_rfl
@[simp] theorem ze29 {β : Type} (k : List V → Option β) : zero Tryd.prog 29 k = k [.int .i64 0, .s [], .s [], .int .i64 0, .int .i64 0, .c (.slice none 0 0)] := by kernel_rfl
theorem io29 : infoOk Tryd.prog 29 6 = true := by kernel_rfl
@[simp] theorem ag31 : agg? Tryd.prog 31 = some false := by kernel_rfl
@[simp] theorem sz31 {β : Type} (k : Nat → Option β) : szOf Tryd.prog 31 k = k 1 := by kernel_rfl
@[simp] theorem ze31 {β : Type} (k : List V → Option β) : zero Tryd.prog 31 k = k [.int .i64 0] := by kernel_rfl
theorem io31 : infoOk Tryd.prog 31 1 = true := by kernel_rfl
@[simp] theorem ag32 : agg? Tryd.prog 32 = some false := by kernel_rfl
@[simp] theorem sz32 {β : Type} (k : Nat → Option β) : szOf Tryd.prog 32 k = k 1 := by kernel_rfl
@[simp] theorem ze32 {β : Type} (k : List V → Option β) : zero Tryd.prog 32 k = k [.c (.slice none 0 0)] := by kernel_rfl
theorem io32 : infoOk Tryd.prog 32 1 = true := by kernel_rfl
@[simp] theorem ag34 : agg? Tryd.prog 34 = some true := by kernel_rfl
@[simp] theorem sz34 {β : Type} (k : Nat → Option β) : szOf Tryd.prog 34 k = k 7 := by kernel_rfl
@[simp] theorem ze34 {β : Type} (k : List V → Option β) : zero Tryd.prog 34 k = k [.int .i64 0, .int .i64 0, .int .i64 0, .int .i64 0, .int .i64 0, .c (.slice none 0 0), .c (.slice none 0 0)] := by kernel_rfl
theorem io34 : infoOk Tryd.prog 34 7 = true := by kernel_rfl
@[simp] theorem ag38 : agg? Tryd.prog 38 = some false := by kernel_rfl
@[simp] theorem sz38 {β : Type} (k : Nat → Option β) : szOf Tryd.prog 38 k = k 1 := by kernel_rfl
@[simp] theorem ze38 {β : Type} (k : List V → Option β) : zero Tryd.prog 38 k = k [.c (.slice none 0 0)] := by kernel_rfl
theorem io38 : infoOk Tryd.prog 38 1 = true := by kernel_rfl
@[simp] theorem ag46 : agg? Tryd.prog 46 = some false := by kernel_rfl
@[simp] theorem sz46 {β : Type} (k : Nat → Option β) : szOf Tryd.prog 46 k = k 1 := by kernel_rfl
@[simp] theorem ze46 {β : Type} (k : List V → Option β) : zero Tryd.prog 46 k = k [.c (.slice none 0 0)] := by kernel_rfl
theorem io46 : infoOk Tryd.prog 46 1 = true := by kernel_rfl
@[simp] theorem ag48 : agg? Tryd.prog 48 = some true := by kernel_rfl
@[simp] theorem sz48 {β : Type} (k : Nat → Option β) : szOf Tryd.prog 48 k = k 5 := by kernel_rfl
@[simp] theorem ze48 {β : Type} (k : List V → Option β) : zero Tryd.prog 48 k = k [.int .i64 0, .int .i64 0, .int .i64 0, .c (.slice none 0 0), .c (.slice none 0 0)] := by kernel_rfl
theorem io48 : infoOk Tryd.prog 48 5 = true := by kernel_rfl
@[simp] theorem ag49 : agg? Tryd.prog 49 = some false := by kernel_rfl
@[simp] theorem sz49 {β : Type} (k : Nat → Option β) : szOf Tryd.prog 49 k = k 1 := by kernel_rfl
@[simp] theorem ze49 {β : Type} (k : List V → Option β) : zero Tryd.prog 49 k = k [.c (.slice none 0 0)] := by kernel_rfl
theorem io49 : infoOk Tryd.prog 49 1 = true := by kernel_rfl
@[simp] theorem ag51 : agg? Tryd.prog 51 = some true := by kernel_rfl
@[simp] theorem sz51 {β : Type} (k : Nat → Option β) : szOf Tryd.prog 51 k = k 1 := by kernel_rfl
@[simp] theorem ze51 {β : Type} (k : List V → Option β) : zero Tryd.prog 51 k = k [.c (.slice none 0 0)] := by kernel_rfl
theorem io51 : infoOk Tryd.prog 51 1 = true := by kernel_rfl
@[simp] theorem ag56 : agg? Tryd.prog 56 = some true := by kernel_rfl
@[simp] theorem sz56 {β : Type} (k : Nat → Option β) : szOf Tryd.prog 56 k = k 2 := by kernel_rfl
@[simp] theorem ze56 {β : Type} (k : List V → Option β) : zero Tryd.prog 56 k = k [.s [], .int .i64 0] := by kernel_rfl
theorem io56 : infoOk Tryd.prog 56 2 = true := by kernel_rfl
@[simp] theorem ag67 : agg? Tryd.prog 67 = some false := by kernel_rfl
@[simp] theorem sz67 {β : Type} (k : Nat → Option β) : szOf Tryd.prog 67 k = k 1 := by kernel_rfl
@[simp] theorem ze67 {β : Type} (k : List V → Option β) : zero Tryd.prog 67 k = k [.c .nilFunc] := by kernel_rfl
theorem io67 : infoOk Tryd.prog 67 1 = true := by kernel_rfl
@[simp] theorem ag69 : agg? Tryd.prog 69 = some true := by kernel_rfl
@[simp] theorem sz69 {β : Type} (k : Nat → Option β) : szOf Tryd.prog 69 k = k 4 := by kernel_rfl
@[simp] theorem ze69 {β : Type} (k : List V → Option β) : zero Tryd.prog 69 k = k [.int .i64 0, .int .i64 0, .c (.slice none 0 0), .c (.slice none 0 0)] := by kernel_rfl
theorem io69 : infoOk Tryd.prog 69 4 = true := by kernel_rfl
@[simp] theorem ag93 : agg? Tryd.prog 93 = some true := by kernel_rfl
@[simp] theorem sz93 {β : Type} (k : Nat → Option β) : szOf Tryd.prog 93 k = k 2 := by kernel_rfl
@[simp] theorem ze93 {β : Type} (k : List V → Option β) : zero Tryd.prog 93 k = k [.c (.pointer none), .int .i64 0] := by kernel_rfl
theorem io93 : infoOk Tryd.prog 93 2 = true := by kernel_rfl
@[simp] theorem ag99 : agg? Tryd.prog 99 = some false := by kernel_rfl
@[simp] theorem sz99 {β : Type} (k : Nat → Option β) : szOf Tryd.prog 99 k = k 1 := by kernel_rfl
@[simp] theorem ze99 {β : Type} (k : List V → Option β) : zero Tryd.prog 99 k = k [.c .nilFunc] := by kernel_rfl
theorem io99 : infoOk Tryd.prog 99 1 = true := by kernel_rfl
@[simp] theorem ag103 : agg? Tryd.prog 103 = some false := by kernel_rfl
@[simp] theorem sz103 {β : Type} (k : Nat → Option β) : szOf Tryd.prog 103 k = k 1 := by kernel_rfl
@[simp] theorem ze103 {β : Type} (k : List V → Option β) : zero Tryd.prog 103 k = k [.c (.pointer none)] := by kernel_rfl
theorem io103 : infoOk Tryd.prog 103 1 = true := by kernel_rfl
@[simp] theorem ag105 : agg? Tryd.prog 105 = some false := by kernel_rfl
@[simp] theorem sz105 {β : Type} (k : Nat → Option β) : szOf Tryd.prog 105 k = k 1 := by kernel_rfl
@[simp] theorem ze105 {β : Type} (k : List V → Option β) : zero Tryd.prog 105 k = k [.int .u64 0] := by kernel_rfl
theorem io105 : infoOk Tryd.prog 105 1 = true := by kernel_rfl
@[simp] theorem ag115 : agg? Tryd.prog 115 = some false := by kernel_rfl
@[simp] theorem sz115 {β : Type} (k : Nat → Option β) : szOf Tryd.prog 115 k = k 1 := by kernel_rfl
@[simp] theorem ze115 {β : Type} (k : List V → Option β) : zero Tryd.prog 115 k = k [.int .u32 0] := by kernel_rfl
theorem io115 : infoOk Tryd.prog 115 1 = true := by kernel_rfl
@[simp] theorem ag118 : agg? Tryd.prog 118 = some true := by kernel_rfl
@[simp] theorem sz118 {β : Type} (k : Nat → Option β) : szOf Tryd.prog 118 k = k 256 := by kernel_rfl
theorem io118 : infoOk Tryd.prog 118 256 = true := by kernel_rfl
@[simp] theorem ag120 : agg? Tryd.prog 120 = some true := by kernel_rfl
@[simp] theorem sz120 {β : Type} (k : Nat → Option β) : szOf Tryd.prog 120 k = k 2 := by kernel_rfl
@[simp] theorem ze120 {β : Type} (k : List V → Option β) : zero Tryd.prog 120 k = k [.int .u8 0, .int .u8 0] := by kernel_rfl
theorem io120 : infoOk Tryd.prog 120 2 = true := by kernel_rfl
@[simp] theorem ag121 : agg? Tryd.prog 121 = some true := by kernel_rfl
@[simp] theorem sz121 {β : Type} (k : Nat → Option β) : szOf Tryd.prog 121 k = k 32 := by kernel_rfl
@[simp] theorem ze121 {β : Type} (k : List V → Option β) : zero Tryd.prog 121 k = k [.int .u8 0, .int .u8 0, .int .u8 0, .int .u8 0, .int .u8 0, .int .u8 0, .int .u8 0, .int .u8 0, .int .u8 0, .int .u8 0, .int .u8 0, .int .u8 0, .int .u8 0, .int .u8 0, .int .u8 0, .int .u8 0, .int .u8 0, .int .u8 0, .int .u8 0, .int .u8 0, .int .u8 0, .int .u8 0, .int .u8 0, .int .u8 0, .int .u8 0, .int .u8 0, .int .u8 0, .int .u8 0, .int .u8 0, .int .u8 0, .int .u8 0, .int .u8 0] := by kernel_rfl
theorem io121 : infoOk Tryd.prog 121 32 = true := by kernel_rfl
@[simp] theorem un3 : Tryd.prog.underlying 3 = some (.int .i64) := by kernel_rfl
@[simp] theorem un5 : Tryd.prog.underlying 5 = some (.int .u8) := by kernel_rfl
@[simp] theorem un9 : Tryd.prog.underlying 9 = some .string := by kernel_rfl
@[simp] theorem un21 : Tryd.prog.underlying 21 = some (.int .i32) := by kernel_rfl
@[simp] theorem un22 : Tryd.prog.underlying 22 = some (.slice 29) := by kernel_rfl
@[simp] theorem ln22 (c : Cx) (st : St) (x : V) : builtinE Tryd.prog c .len [22] [x] st = lenS st x := len_slice un22 x
@[simp] theorem ix22 {β : Type} (m o len cap i : Nat) (k : V → Option β) : idxE Tryd.prog 22 (.sl m o len cap) i k = if i < len then k (.p m (o + i * 6)) else none := idxE_sl un22 (fun k => sz29 k) m o len cap i k
@[simp] theorem iy22 {β : Type} (m o len w i : Nat) (k : V → Option β) : idxE Tryd.prog 22 (.sg m o len w) i k = if i < len then k (.p m (o + i * 6)) else none := idxE_sg un22 (fun k => sz29 k) m o len w i k
@[simp] theorem el22 {β : Type} (k : TypeId → Nat → Option β) : Ev.elemOf Tryd.prog 22 k = k 29 6 := by kernel_rfl
@[simp] theorem un27 : Tryd.prog.underlying 27 = some (.slice 5) := by kernel_rfl
@[simp] theorem ln27 (c : Cx) (st : St) (x : V) : builtinE Tryd.prog c .len [27] [x] st = lenS st x := len_slice un27 x
@[simp] theorem ix27 {β : Type} (m o len cap i : Nat) (k : V → Option β) : idxE Tryd.prog 27 (.sl m o len cap) i k = if i < len then k (.p m (o + i * 1)) else none := idxE_sl un27 (fun k => sz5 k) m o len cap i k
@[simp] theorem iy27 {β : Type} (m o len w i : Nat) (k : V → Option β) : idxE Tryd.prog 27 (.sg m o len w) i k = if i < len then k (.p m (o + i * 1)) else none := idxE_sg un27 (fun k => sz5 k) m o len w i k
@[simp] theorem el27 {β : Type} (k : TypeId → Nat → Option β) : Ev.elemOf Tryd.prog 27 k = k 5 1 := by kernel_rfl
@[simp] theorem bz29 (st : St) : bldK Tryd.prog 29 [] [] [.int .i64 0, .s [], .s [], .int .i64 0, .int .i64 0, .c (.slice none 0 0)] st = some (.g [.int .i64 0, .s [], .s [], .int .i64 0, .int .i64 0, .c (.slice none 0 0)], st) := by kernel_rfl
theorem so29 : structOk Tryd.prog 29 [(0, 1), (1, 1), (2, 1), (3, 1), (4, 1), (5, 1)] = true := by kernel_rfl
@[simp] theorem bl29 (x0 x1 x2 x3 x4 x5 : Operand) (a0 a1 a2 a3 a4 a5 : V) (st : St) (h0 : a0.one = true) (h1 : a1.one = true) (h2 : a2.one = true) (h3 : a3.one = true) (h4 : a4.one = true) (h5 : a5.one = true) : bldK Tryd.prog 29 [(0, x0), (1, x1), (2, x2), (3, x3), (4, x4), (5, x5)] [a0, a1, a2, a3, a4, a5] [.int .i64 0, .s [], .s [], .int .i64 0, .int .i64 0, .c (.slice none 0 0)] st = some (.g [a0, a1, a2, a3, a4, a5], st) := by
  rw [bldK_ok so29, partsK_one rfl h0 (by simp), partsK_one rfl h1 (by simp), partsK_one rfl h2 (by simp), partsK_one rfl h3 (by simp), partsK_one rfl h4 (by simp), partsK_one rfl h5 (by simp)]; rfl
@[simp] theorem fk29_0 (k : Nat → Nat → Res) : fieldK Tryd.prog 29 0 k = k 1 0 := by kernel_rfl
@[simp] theorem fk29_1 (k : Nat → Nat → Res) : fieldK Tryd.prog 29 1 k = k 1 1 := by kernel_rfl
@[simp] theorem fk29_2 (k : Nat → Nat → Res) : fieldK Tryd.prog 29 2 k = k 1 2 := by kernel_rfl
@[simp] theorem fk29_3 (k : Nat → Nat → Res) : fieldK Tryd.prog 29 3 k = k 1 3 := by kernel_rfl
@[simp] theorem fk29_4 (k : Nat → Nat → Res) : fieldK Tryd.prog 29 4 k = k 1 4 := by kernel_rfl
@[simp] theorem fk29_5 (k : Nat → Nat → Res) : fieldK Tryd.prog 29 5 k = k 1 5 := by kernel_rfl
@[simp] theorem un31 : Tryd.prog.underlying 31 = some (.int .i64) := by kernel_rfl
@[simp] theorem un32 : Tryd.prog.underlying 32 = some (.slice 9) := by kernel_rfl
@[simp] theorem ln32 (c : Cx) (st : St) (x : V) : builtinE Tryd.prog c .len [32] [x] st = lenS st x := len_slice un32 x
@[simp] theorem ix32 {β : Type} (m o len cap i : Nat) (k : V → Option β) : idxE Tryd.prog 32 (.sl m o len cap) i k = if i < len then k (.p m (o + i * 1)) else none := idxE_sl un32 (fun k => sz9 k) m o len cap i k
@[simp] theorem iy32 {β : Type} (m o len w i : Nat) (k : V → Option β) : idxE Tryd.prog 32 (.sg m o len w) i k = if i < len then k (.p m (o + i * 1)) else none := idxE_sg un32 (fun k => sz9 k) m o len w i k
@[simp] theorem el32 {β : Type} (k : TypeId → Nat → Option β) : Ev.elemOf Tryd.prog 32 k = k 9 1 := by kernel_rfl
@[simp] theorem bz34 (st : St) : bldK Tryd.prog 34 [] [] [.int .i64 0, .int .i64 0, .int .i64 0, .int .i64 0, .int .i64 0, .c (.slice none 0 0), .c (.slice none 0 0)] st = some (.g [.int .i64 0, .int .i64 0, .int .i64 0, .int .i64 0, .int .i64 0, .c (.slice none 0 0), .c (.slice none 0 0)], st) := by kernel_rfl
theorem so34 : structOk Tryd.prog 34 [(0, 1), (1, 1), (2, 1), (3, 1), (4, 1), (5, 1), (6, 1)] = true := by kernel_rfl
@[simp] theorem bl34 (x0 x1 x2 x3 x4 x5 x6 : Operand) (a0 a1 a2 a3 a4 a5 a6 : V) (st : St) (h0 : a0.one = true) (h1 : a1.one = true) (h2 : a2.one = true) (h3 : a3.one = true) (h4 : a4.one = true) (h5 : a5.one = true) (h6 : a6.one = true) : bldK Tryd.prog 34 [(0, x0), (1, x1), (2, x2), (3, x3), (4, x4), (5, x5), (6, x6)] [a0, a1, a2, a3, a4, a5, a6] [.int .i64 0, .int .i64 0, .int .i64 0, .int .i64 0, .int .i64 0, .c (.slice none 0 0), .c (.slice none 0 0)] st = some (.g [a0, a1, a2, a3, a4, a5, a6], st) := by
  rw [bldK_ok so34, partsK_one rfl h0 (by simp), partsK_one rfl h1 (by simp), partsK_one rfl h2 (by simp), partsK_one rfl h3 (by simp), partsK_one rfl h4 (by simp), partsK_one rfl h5 (by simp), partsK_one rfl h6 (by simp)]; rfl
@[simp] theorem fk34_0 (k : Nat → Nat → Res) : fieldK Tryd.prog 34 0 k = k 1 0 := by kernel_rfl
@[simp] theorem fk34_1 (k : Nat → Nat → Res) : fieldK Tryd.prog 34 1 k = k 1 1 := by kernel_rfl
@[simp] theorem fk34_2 (k : Nat → Nat → Res) : fieldK Tryd.prog 34 2 k = k 1 2 := by kernel_rfl
@[simp] theorem fk34_3 (k : Nat → Nat → Res) : fieldK Tryd.prog 34 3 k = k 1 3 := by kernel_rfl
@[simp] theorem fk34_4 (k : Nat → Nat → Res) : fieldK Tryd.prog 34 4 k = k 1 4 := by kernel_rfl
@[simp] theorem fk34_5 (k : Nat → Nat → Res) : fieldK Tryd.prog 34 5 k = k 1 5 := by kernel_rfl
@[simp] theorem fk34_6 (k : Nat → Nat → Res) : fieldK Tryd.prog 34 6 k = k 1 6 := by kernel_rfl
@[simp] theorem un38 : Tryd.prog.underlying 38 = some (.slice 69) := by kernel_rfl
@[simp] theorem ln38 (c : Cx) (st : St) (x : V) : builtinE Tryd.prog c .len [38] [x] st = lenS st x := len_slice un38 x
@[simp] theorem ix38 {β : Type} (m o len cap i : Nat) (k : V → Option β) : idxE Tryd.prog 38 (.sl m o len cap) i k = if i < len then k (.p m (o + i * 4)) else none := idxE_sl un38 (fun k => sz69 k) m o len cap i k
@[simp] theorem iy38 {β : Type} (m o len w i : Nat) (k : V → Option β) : idxE Tryd.prog 38 (.sg m o len w) i k = if i < len then k (.p m (o + i * 4)) else none := idxE_sg un38 (fun k => sz69 k) m o len w i k
@[simp] theorem el38 {β : Type} (k : TypeId → Nat → Option β) : Ev.elemOf Tryd.prog 38 k = k 69 4 := by kernel_rfl
@[simp] theorem un46 : Tryd.prog.underlying 46 = some (.slice 56) := by kernel_rfl
@[simp] theorem ln46 (c : Cx) (st : St) (x : V) : builtinE Tryd.prog c .len [46] [x] st = lenS st x := len_slice un46 x
@[simp] theorem ix46 {β : Type} (m o len cap i : Nat) (k : V → Option β) : idxE Tryd.prog 46 (.sl m o len cap) i k = if i < len then k (.p m (o + i * 2)) else none := idxE_sl un46 (fun k => sz56 k) m o len cap i k
@[simp] theorem iy46 {β : Type} (m o len w i : Nat) (k : V → Option β) : idxE Tryd.prog 46 (.sg m o len w) i k = if i < len then k (.p m (o + i * 2)) else none := idxE_sg un46 (fun k => sz56 k) m o len w i k
@[simp] theorem el46 {β : Type} (k : TypeId → Nat → Option β) : Ev.elemOf Tryd.prog 46 k = k 56 2 := by kernel_rfl
@[simp] theorem bz48 (st : St) : bldK Tryd.prog 48 [] [] [.int .i64 0, .int .i64 0, .int .i64 0, .c (.slice none 0 0), .c (.slice none 0 0)] st = some (.g [.int .i64 0, .int .i64 0, .int .i64 0, .c (.slice none 0 0), .c (.slice none 0 0)], st) := by kernel_rfl
theorem so48 : structOk Tryd.prog 48 [(0, 1), (1, 1), (2, 1), (3, 1), (4, 1)] = true := by kernel_rfl
@[simp] theorem bl48 (x0 x1 x2 x3 x4 : Operand) (a0 a1 a2 a3 a4 : V) (st : St) (h0 : a0.one = true) (h1 : a1.one = true) (h2 : a2.one = true) (h3 : a3.one = true) (h4 : a4.one = true) : bldK Tryd.prog 48 [(0, x0), (1, x1), (2, x2), (3, x3), (4, x4)] [a0, a1, a2, a3, a4] [.int .i64 0, .int .i64 0, .int .i64 0, .c (.slice none 0 0), .c (.slice none 0 0)] st = some (.g [a0, a1, a2, a3, a4], st) := by
  rw [bldK_ok so48, partsK_one rfl h0 (by simp), partsK_one rfl h1 (by simp), partsK_one rfl h2 (by simp), partsK_one rfl h3 (by simp), partsK_one rfl h4 (by simp)]; rfl
@[simp] theorem fk48_0 (k : Nat → Nat → Res) : fieldK Tryd.prog 48 0 k = k 1 0 := by kernel_rfl
@[simp] theorem fk48_1 (k : Nat → Nat → Res) : fieldK Tryd.prog 48 1 k = k 1 1 := by kernel_rfl
@[simp] theorem fk48_2 (k : Nat → Nat → Res) : fieldK Tryd.prog 48 2 k = k 1 2 := by kernel_rfl
@[simp] theorem fk48_3 (k : Nat → Nat → Res) : fieldK Tryd.prog 48 3 k = k 1 3 := by kernel_rfl
@[simp] theorem fk48_4 (k : Nat → Nat → Res) : fieldK Tryd.prog 48 4 k = k 1 4 := by kernel_rfl
@[simp] theorem un49 : Tryd.prog.underlying 49 = some (.slice 48) := by kernel_rfl
@[simp] theorem ln49 (c : Cx) (st : St) (x : V) : builtinE Tryd.prog c .len [49] [x] st = lenS st x := len_slice un49 x
@[simp] theorem ix49 {β : Type} (m o len cap i : Nat) (k : V → Option β) : idxE Tryd.prog 49 (.sl m o len cap) i k = if i < len then k (.p m (o + i * 5)) else none := idxE_sl un49 (fun k => sz48 k) m o len cap i k
@[simp] theorem iy49 {β : Type} (m o len w i : Nat) (k : V → Option β) : idxE Tryd.prog 49 (.sg m o len w) i k = if i < len then k (.p m (o + i * 5)) else none := idxE_sg un49 (fun k => sz48 k) m o len w i k
@[simp] theorem el49 {β : Type} (k : TypeId → Nat → Option β) : Ev.elemOf Tryd.prog 49 k = k 48 5 := by kernel_rfl
@[simp] theorem bz51 (st : St) : bldK Tryd.prog 51 [] [] [.c (.slice none 0 0)] st = some (.g [.c (.slice none 0 0)], st) := by kernel_rfl
theorem so51 : structOk Tryd.prog 51 [(0, 1)] = true := by kernel_rfl
@[simp] theorem bl51 (x0 : Operand) (a0 : V) (st : St) (h0 : a0.one = true) : bldK Tryd.prog 51 [(0, x0)] [a0] [.c (.slice none 0 0)] st = some (.g [a0], st) := by
  rw [bldK_ok so51, partsK_one rfl h0 (by simp)]; rfl
@[simp] theorem fk51_0 (k : Nat → Nat → Res) : fieldK Tryd.prog 51 0 k = k 1 0 := by kernel_rfl
@[simp] theorem bz56 (st : St) : bldK Tryd.prog 56 [] [] [.s [], .int .i64 0] st = some (.g [.s [], .int .i64 0], st) := by kernel_rfl
theorem so56 : structOk Tryd.prog 56 [(0, 1), (1, 1)] = true := by kernel_rfl
@[simp] theorem bl56 (x0 x1 : Operand) (a0 a1 : V) (st : St) (h0 : a0.one = true) (h1 : a1.one = true) : bldK Tryd.prog 56 [(0, x0), (1, x1)] [a0, a1] [.s [], .int .i64 0] st = some (.g [a0, a1], st) := by
  rw [bldK_ok so56, partsK_one rfl h0 (by simp), partsK_one rfl h1 (by simp)]; rfl
@[simp] theorem fk56_0 (k : Nat → Nat → Res) : fieldK Tryd.prog 56 0 k = k 1 0 := by kernel_rfl
@[simp] theorem fk56_1 (k : Nat → Nat → Res) : fieldK Tryd.prog 56 1 k = k 1 1 := by kernel_rfl
@[simp] theorem bz69 (st : St) : bldK Tryd.prog 69 [] [] [.int .i64 0, .int .i64 0, .c (.slice none 0 0), .c (.slice none 0 0)] st = some (.g [.int .i64 0, .int .i64 0, .c (.slice none 0 0), .c (.slice none 0 0)], st) := by kernel_rfl
theorem so69 : structOk Tryd.prog 69 [(0, 1), (1, 1), (2, 1), (3, 1)] = true := by kernel_rfl
@[simp] theorem bl69 (x0 x1 x2 x3 : Operand) (a0 a1 a2 a3 : V) (st : St) (h0 : a0.one = true) (h1 : a1.one = true) (h2 : a2.one = true) (h3 : a3.one = true) : bldK Tryd.prog 69 [(0, x0), (1, x1), (2, x2), (3, x3)] [a0, a1, a2, a3] [.int .i64 0, .int .i64 0, .c (.slice none 0 0), .c (.slice none 0 0)] st = some (.g [a0, a1, a2, a3], st) := by
  rw [bldK_ok so69, partsK_one rfl h0 (by simp), partsK_one rfl h1 (by simp), partsK_one rfl h2 (by simp), partsK_one rfl h3 (by simp)]; rfl
@[simp] theorem fk69_0 (k : Nat → Nat → Res) : fieldK Tryd.prog 69 0 k = k 1 0 := by kernel_rfl
@[simp] theorem fk69_1 (k : Nat → Nat → Res) : fieldK Tryd.prog 69 1 k = k 1 1 := by kernel_rfl
@[simp] theorem fk69_2 (k : Nat → Nat → Res) : fieldK Tryd.prog 69 2 k = k 1 2 := by kernel_rfl
@[simp] theorem fk69_3 (k : Nat → Nat → Res) : fieldK Tryd.prog 69 3 k = k 1 3 := by kernel_rfl
@[simp] theorem bz93 (st : St) : bldK Tryd.prog 93 [] [] [.c (.pointer none), .int .i64 0] st = some (.g [.c (.pointer none), .int .i64 0], st) := by kernel_rfl
theorem so93 : structOk Tryd.prog 93 [(0, 1), (1, 1)] = true := by kernel_rfl
@[simp] theorem bl93 (x0 x1 : Operand) (a0 a1 : V) (st : St) (h0 : a0.one = true) (h1 : a1.one = true) : bldK Tryd.prog 93 [(0, x0), (1, x1)] [a0, a1] [.c (.pointer none), .int .i64 0] st = some (.g [a0, a1], st) := by
  rw [bldK_ok so93, partsK_one rfl h0 (by simp), partsK_one rfl h1 (by simp)]; rfl
@[simp] theorem fk93_0 (k : Nat → Nat → Res) : fieldK Tryd.prog 93 0 k = k 1 0 := by kernel_rfl
@[simp] theorem fk93_1 (k : Nat → Nat → Res) : fieldK Tryd.prog 93 1 k = k 1 1 := by kernel_rfl
@[simp] theorem un105 : Tryd.prog.underlying 105 = some (.int .u64) := by kernel_rfl
@[simp] theorem un115 : Tryd.prog.underlying 115 = some (.int .u32) := by kernel_rfl
@[simp] theorem un118 : Tryd.prog.underlying 118 = some (.array 256 5) := by kernel_rfl
@[simp] theorem ix118 {β : Type} (m o i : Nat) (k : V → Option β) : idxE Tryd.prog 118 (.p m o) i k = if i < 256 then k (.p m (o + i * 1)) else none := idxE_arr un118 (fun k => sz5 k) m o i k
@[simp] theorem bz120 (st : St) : bldK Tryd.prog 120 [] [] [.int .u8 0, .int .u8 0] st = some (.g [.int .u8 0, .int .u8 0], st) := by kernel_rfl
theorem so120 : structOk Tryd.prog 120 [(0, 1), (1, 1)] = true := by kernel_rfl
@[simp] theorem bl120 (x0 x1 : Operand) (a0 a1 : V) (st : St) (h0 : a0.one = true) (h1 : a1.one = true) : bldK Tryd.prog 120 [(0, x0), (1, x1)] [a0, a1] [.int .u8 0, .int .u8 0] st = some (.g [a0, a1], st) := by
  rw [bldK_ok so120, partsK_one rfl h0 (by simp), partsK_one rfl h1 (by simp)]; rfl
@[simp] theorem fk120_0 (k : Nat → Nat → Res) : fieldK Tryd.prog 120 0 k = k 1 0 := by kernel_rfl
@[simp] theorem fk120_1 (k : Nat → Nat → Res) : fieldK Tryd.prog 120 1 k = k 1 1 := by kernel_rfl
@[simp] theorem un121 : Tryd.prog.underlying 121 = some (.array 16 120) := by kernel_rfl
@[simp] theorem ix121 {β : Type} (m o i : Nat) (k : V → Option β) : idxE Tryd.prog 121 (.p m o) i k = if i < 16 then k (.p m (o + i * 2)) else none := idxE_arr un121 (fun k => sz120 k) m o i k
end Go.Proofs.YtgcpgidofikcdaaDoor

/-
  PLAIN: what the program's own tables say, as rules for rewriting.
-/
import Derived.Test.YtcjddojcfdeflaaChecked
import Derived.Test.YtcjddojcfdeflaaTyImg
namespace Go.Proofs.Ytcjddojcfdeflaa
open Go.RowKit Ev
-- lintel/lintellaw20.EditClears
@[simp] theorem nt3 : Try.f3.ntmps = 97 := rfl
@[simp] theorem rs3 : Try.f3.results.toList = [.tmp 4] := rfl
@[simp] theorem xt3 : ext? Try.prog 3 = none := by kernel_rfl
-- lintel/lintellaw20.awake
@[simp] theorem nt4 : Try.f4.ntmps = 76 := rfl
@[simp] theorem rs4 : Try.f4.results.toList = [.tmp 0] := rfl
@[simp] theorem xt4 : ext? Try.prog 4 = none := by kernel_rfl
-- lintel/edit.New
@[simp] theorem nt5 : Try.f5.ntmps = 21 := rfl
@[simp] theorem rs5 : Try.f5.results.toList = [.tmp 2, .tmp 3] := rfl
@[simp] theorem xt5 : ext? Try.prog 5 = none := by kernel_rfl
-- lintel/lintellaw20.made
@[simp] theorem nt6 : Try.f6.ntmps = 9 := rfl
@[simp] theorem rs6 : Try.f6.results.toList = [.tmp 0] := rfl
@[simp] theorem xt6 : ext? Try.prog 6 = none := by kernel_rfl
-- (*lintel/edit.Edit).SetNode
@[simp] theorem nt7 : Try.f7.ntmps = 70 := rfl
@[simp] theorem rs7 : Try.f7.results.toList = [.tmp 6] := rfl
@[simp] theorem xt7 : ext? Try.prog 7 = none := by kernel_rfl
-- (*lintel/edit.Edit).Fill
@[simp] theorem nt8 : Try.f8.ntmps = 86 := rfl
@[simp] theorem rs8 : Try.f8.results.toList = [.tmp 8] := rfl
@[simp] theorem xt8 : ext? Try.prog 8 = none := by kernel_rfl
-- (*lintel/edit.Edit).Clear
@[simp] theorem nt9 : Try.f9.ntmps = 9 := rfl
@[simp] theorem rs9 : Try.f9.results.toList = [.tmp 4] := rfl
@[simp] theorem xt9 : ext? Try.prog 9 = none := by kernel_rfl
-- (*lintel/edit.Edit).Writes
@[simp] theorem nt10 : Try.f10.ntmps = 64 := rfl
@[simp] theorem rs10 : Try.f10.results.toList = [.tmp 2, .tmp 3] := rfl
@[simp] theorem xt10 : ext? Try.prog 10 = none := by kernel_rfl
-- (lintel/image.Image).Node
-- lintel/image.Open
-- slices.Clone[[]uint64,uint64]
-- (lintel/image.Image).Bits
-- lintel/image.Make
-- lintel/geom.Plain
-- lintel/geom.Node
-- lintel/node.Good
-- lintel/bits.Set
-- lintel/edit.blocks
@[simp] theorem nt20 : Try.f20.ntmps = 28 := rfl
@[simp] theorem rs20 : Try.f20.results.toList = [.tmp 2] := rfl
@[simp] theorem xt20 : ext? Try.prog 20 = none := by kernel_rfl
-- (*lintel/edit.Edit).old
@[simp] theorem nt21 : Try.f21.ntmps = 20 := rfl
@[simp] theorem rs21 : Try.f21.results.toList = [.tmp 4] := rfl
@[simp] theorem xt21 : ext? Try.prog 21 = none := by kernel_rfl
-- lintel/geom.Bits
-- (*lintel/edit.Edit).put
@[simp] theorem nt23 : Try.f23.ntmps = 19 := rfl
@[simp] theorem rs23 : Try.f23.results.toList = [] := rfl
@[simp] theorem xt23 : ext? Try.prog 23 = none := by kernel_rfl
-- lintel/node.Put
-- (*lintel/edit.Edit).client
@[simp] theorem nt25 : Try.f25.ntmps = 17 := rfl
@[simp] theorem rs25 : Try.f25.results.toList = [.tmp 4] := rfl
@[simp] theorem xt25 : ext? Try.prog 25 = none := by kernel_rfl
-- lintel/edit.may
@[simp] theorem nt26 : Try.f26.ntmps = 18 := rfl
@[simp] theorem rs26 : Try.f26.results.toList = [.tmp 4] := rfl
@[simp] theorem xt26 : ext? Try.prog 26 = none := by kernel_rfl
-- (*lintel/edit.Edit).take
@[simp] theorem nt27 : Try.f27.ntmps = 33 := rfl
@[simp] theorem rs27 : Try.f27.results.toList = [.tmp 8, .tmp 9] := rfl
@[simp] theorem xt27 : ext? Try.prog 27 = none := by kernel_rfl
-- lintel/node.Needs
-- lintel/edit.words
@[simp] theorem nt29 : Try.f29.ntmps = 33 := rfl
@[simp] theorem rs29 : Try.f29.results.toList = [.tmp 4] := rfl
@[simp] theorem xt29 : ext? Try.prog 29 = none := by kernel_rfl
-- lintel/bits.Has
-- lintel/node.Get
-- (lintel/image.Image).block
-- lintel/head.Find
-- lintel/geom.Good
-- lintel/head.Put
-- lintel/geom.Back
-- lintel/geom.Lost
-- lintel/image.taken
-- lintel/geom.between
-- lintel/geom.lay
-- lintel/node.nothing
-- lintel/node.between
-- lintel/node.sized
-- lintel/node.placed
-- lintel/node.Blocks
-- lintel/bits.there
-- lintel/geom.whole
-- lintel/node.fits
-- lintel/seal.Of
-- lintel/pool.New
-- (*lintel/edit.Edit).holding
@[simp] theorem nt52 : Try.f52.ntmps = 13 := rfl
@[simp] theorem rs52 : Try.f52.results.toList = [.cell 4 49] := rfl
@[simp] theorem xt52 : ext? Try.prog 52 = none := by kernel_rfl
-- (*lintel/pool.Pool).Take
-- slices.Equal[[]uint64,uint64]
-- lintel/head.of
-- lintel/geom.Data
-- lintel/bits.New
-- (lintel/geom.part).end
-- lintel/node.lost
-- lintel/seal.On
-- lintel/pool.copied
-- (*lintel/pool.Pool).one
-- (*lintel/pool.Pool).fewest
-- lintel/runs.Total
-- (*lintel/pool.Pool).mark
-- lintel/head.Get
-- math/bits.RotateLeft64
-- (*lintel/pool.Pool).Group
-- lintel/bits.Free
-- (*lintel/pool.Pool).data
-- (*lintel/pool.Pool).gaps
-- slices.SortStableFunc[[]lintel/node.Run,lintel/node.Run]
-- lintel/runs.Cut
-- lintel/runs.counted
-- lintel/bits.within
-- lintel/bits.Next
-- slices.stableCmpFunc[lintel/node.Run]
-- lintel/runs.Split
-- lintel/runs.Merge
-- slices.insertionSortCmpFunc[lintel/node.Run]
-- slices.symMergeCmpFunc[lintel/node.Run]
-- slices.rotateCmpFunc[lintel/node.Run]
-- slices.swapRangeCmpFunc[lintel/node.Run]
@[simp] theorem ag24 : agg? Try.prog 24 = some false := by kernel_rfl
@[simp] theorem sz24 {β : Type} (k : Nat → Option β) : szOf Try.prog 24 k = k 1 := by kernel_rfl
@[simp] theorem ze24 {β : Type} (k : List V → Option β) : zero Try.prog 24 k = k [.c (.pointer none)] := by kernel_rfl
theorem io24 : infoOk Try.prog 24 1 = true := by kernel_rfl
@[simp] theorem ag51 : agg? Try.prog 51 = some true := by kernel_rfl
@[simp] theorem sz51 {β : Type} (k : Nat → Option β) : szOf Try.prog 51 k = k 7 := by kernel_rfl
@[simp] theorem ze51 {β : Type} (k : List V → Option β) : zero Try.prog 51 k = k [.int .i64 0, .int .i64 0, .int .i64 0, .int .i64 0, .c (.slice none 0 0), .c (.slice none 0 0), .c (.slice none 0 0)] := by kernel_rfl
theorem io51 : infoOk Try.prog 51 7 = true := by kernel_rfl
@[simp] theorem bz51 (st : St) : bldK Try.prog 51 [] [] [.int .i64 0, .int .i64 0, .int .i64 0, .int .i64 0, .c (.slice none 0 0), .c (.slice none 0 0), .c (.slice none 0 0)] st = some (.g [.int .i64 0, .int .i64 0, .int .i64 0, .int .i64 0, .c (.slice none 0 0), .c (.slice none 0 0), .c (.slice none 0 0)], st) := by kernel_rfl
theorem so51 : structOk Try.prog 51 [(0, 5), (5, 1), (6, 1)] = true := by kernel_rfl
@[simp] theorem fk51_0 (k : Nat → Nat → Res) : fieldK Try.prog 51 0 k = k 5 0 := by kernel_rfl
@[simp] theorem fk51_1 (k : Nat → Nat → Res) : fieldK Try.prog 51 1 k = k 1 5 := by kernel_rfl
@[simp] theorem fk51_2 (k : Nat → Nat → Res) : fieldK Try.prog 51 2 k = k 1 6 := by kernel_rfl
end Go.Proofs.Ytcjddojcfdeflaa

/-
  PLAIN: what the program's own tables say, as rules for rewriting.
-/
import Derived.Test.YtenncnbaoejekaaChecked
import Derived.Test.YtenncnbaoejekaaHd
namespace Go.Proofs.Ytenncnbaoejekaa
open Go.RowKit Ev
-- lintel/lintellaw8.NodeSays
@[simp] theorem nt14 : Try.f14.ntmps = 106 := rfl
@[simp] theorem rs14 : Try.f14.results.toList = [.tmp 6] := rfl
@[simp] theorem xt14 : ext? Try.prog 14 = none := by kernel_rfl
-- lintel/lintellaw8.NodeOne
@[simp] theorem nt15 : Try.f15.ntmps = 67 := rfl
@[simp] theorem rs15 : Try.f15.results.toList = [.tmp 6] := rfl
@[simp] theorem xt15 : ext? Try.prog 15 = none := by kernel_rfl
-- lintel/lintellaw8.NodeGood
@[simp] theorem nt16 : Try.f16.ntmps = 52 := rfl
@[simp] theorem rs16 : Try.f16.results.toList = [.tmp 4] := rfl
@[simp] theorem xt16 : ext? Try.prog 16 = none := by kernel_rfl
-- lintel/geom.Good
-- lintel/geom.Data
-- lintel/lintellaw8.awake
@[simp] theorem nt67 : Try.f67.ntmps = 37 := rfl
@[simp] theorem rs67 : Try.f67.results.toList = [.tmp 0] := rfl
@[simp] theorem xt67 : ext? Try.prog 67 = none := by kernel_rfl
-- lintel/lintellaw8.inode
@[simp] theorem nt68 : Try.f68.ntmps = 38 := rfl
@[simp] theorem rs68 : Try.f68.results.toList = [.cell 2 99] := rfl
@[simp] theorem xt68 : ext? Try.prog 68 = none := by kernel_rfl
-- lintel/node.Get
@[simp] theorem nt69 : Try.f69.ntmps = 55 := rfl
@[simp] theorem rs69 : Try.f69.results.toList = [.cell 2 96, .tmp 3] := rfl
@[simp] theorem xt69 : ext? Try.prog 69 = none := by kernel_rfl
-- lintel/lintelref6.GetNode
@[simp] theorem nt70 : Try.f70.ntmps = 66 := rfl
@[simp] theorem rs70 : Try.f70.results.toList = [.cell 2 99, .tmp 3] := rfl
@[simp] theorem xt70 : ext? Try.prog 70 = none := by kernel_rfl
-- lintel/node.Good
@[simp] theorem nt71 : Try.f71.ntmps = 38 := rfl
@[simp] theorem rs71 : Try.f71.results.toList = [.tmp 4] := rfl
@[simp] theorem xt71 : ext? Try.prog 71 = none := by kernel_rfl
-- lintel/lintelref6.GoodNode
@[simp] theorem nt72 : Try.f72.ntmps = 155 := rfl
@[simp] theorem rs72 : Try.f72.results.toList = [.tmp 4] := rfl
@[simp] theorem xt72 : ext? Try.prog 72 = none := by kernel_rfl
-- lintel/lintellaw8.own
@[simp] theorem nt73 : Try.f73.ntmps = 12 := rfl
@[simp] theorem rs73 : Try.f73.results.toList = [.cell 2 76] := rfl
@[simp] theorem xt73 : ext? Try.prog 73 = none := by kernel_rfl
-- lintel/lintellaw8.same
@[simp] theorem nt74 : Try.f74.ntmps = 26 := rfl
@[simp] theorem rs74 : Try.f74.results.toList = [.tmp 4] := rfl
@[simp] theorem xt74 : ext? Try.prog 74 = none := by kernel_rfl
-- lintel/node.Put
@[simp] theorem nt75 : Try.f75.ntmps = 56 := rfl
@[simp] theorem rs75 : Try.f75.results.toList = [.tmp 2] := rfl
@[simp] theorem xt75 : ext? Try.prog 75 = none := by kernel_rfl
-- lintel/lintelref6.PutNode
@[simp] theorem nt76 : Try.f76.ntmps = 113 := rfl
@[simp] theorem rs76 : Try.f76.results.toList = [.tmp 2] := rfl
@[simp] theorem xt76 : ext? Try.prog 76 = none := by kernel_rfl
-- lintel/lintellaw8.nodes
@[simp] theorem nt77 : Try.f77.ntmps = 52 := rfl
@[simp] theorem rs77 : Try.f77.results.toList = [.tmp 4] := rfl
@[simp] theorem xt77 : ext? Try.prog 77 = none := by kernel_rfl
-- lintel/node.Blocks
@[simp] theorem nt78 : Try.f78.ntmps = 19 := rfl
@[simp] theorem rs78 : Try.f78.results.toList = [.tmp 2] := rfl
@[simp] theorem xt78 : ext? Try.prog 78 = none := by kernel_rfl
-- lintel/lintelref6.Blocks
@[simp] theorem nt79 : Try.f79.ntmps = 21 := rfl
@[simp] theorem rs79 : Try.f79.results.toList = [.tmp 2] := rfl
@[simp] theorem xt79 : ext? Try.prog 79 = none := by kernel_rfl
-- lintel/node.Needs
@[simp] theorem nt80 : Try.f80.ntmps = 26 := rfl
@[simp] theorem rs80 : Try.f80.results.toList = [.tmp 2] := rfl
@[simp] theorem xt80 : ext? Try.prog 80 = none := by kernel_rfl
-- lintel/lintelref6.Needs
@[simp] theorem nt81 : Try.f81.ntmps = 24 := rfl
@[simp] theorem rs81 : Try.f81.results.toList = [.tmp 2] := rfl
@[simp] theorem xt81 : ext? Try.prog 81 = none := by kernel_rfl
-- lintel/geom.Plain
-- lintel/seal.Of
-- lintel/lintelref6.Good
-- lintel/lintelref1.Of
-- slices.Equal[[]uint64,uint64]
-- lintel/lintelref6.Same
-- lintel/geom.between
-- lintel/geom.lay
-- lintel/geom.whole
-- lintel/node.nothing
@[simp] theorem nt136 : Try.f136.ntmps = 17 := rfl
@[simp] theorem rs136 : Try.f136.results.toList = [.tmp 2] := rfl
@[simp] theorem xt136 : ext? Try.prog 136 = none := by kernel_rfl
-- lintel/node.between
@[simp] theorem nt137 : Try.f137.ntmps = 15 := rfl
@[simp] theorem rs137 : Try.f137.results.toList = [.tmp 6] := rfl
@[simp] theorem xt137 : ext? Try.prog 137 = none := by kernel_rfl
-- lintel/node.sized
@[simp] theorem nt138 : Try.f138.ntmps = 23 := rfl
@[simp] theorem rs138 : Try.f138.results.toList = [.tmp 4] := rfl
@[simp] theorem xt138 : ext? Try.prog 138 = none := by kernel_rfl
-- lintel/node.placed
@[simp] theorem nt139 : Try.f139.ntmps = 101 := rfl
@[simp] theorem rs139 : Try.f139.results.toList = [.tmp 4] := rfl
@[simp] theorem xt139 : ext? Try.prog 139 = none := by kernel_rfl
-- lintel/lintelref6.zero
@[simp] theorem nt140 : Try.f140.ntmps = 22 := rfl
@[simp] theorem rs140 : Try.f140.results.toList = [.tmp 2] := rfl
@[simp] theorem xt140 : ext? Try.prog 140 = none := by kernel_rfl
-- lintel/lintelref6.Data
-- lintel/lintelref6.IsLost
@[simp] theorem nt142 : Try.f142.ntmps = 31 := rfl
@[simp] theorem rs142 : Try.f142.results.toList = [.tmp 4] := rfl
@[simp] theorem xt142 : ext? Try.prog 142 = none := by kernel_rfl
-- lintel/lintelref6.Apart
@[simp] theorem nt143 : Try.f143.ntmps = 52 := rfl
@[simp] theorem rs143 : Try.f143.results.toList = [.tmp 2] := rfl
@[simp] theorem xt143 : ext? Try.prog 143 = none := by kernel_rfl
-- lintel/node.fits
@[simp] theorem nt144 : Try.f144.ntmps = 50 := rfl
@[simp] theorem rs144 : Try.f144.results.toList = [.tmp 2] := rfl
@[simp] theorem xt144 : ext? Try.prog 144 = none := by kernel_rfl
-- lintel/seal.On
-- lintel/lintelref6.bitBlocks
-- lintel/lintelref1.Seal
-- (lintel/geom.part).end
-- lintel/node.lost
@[simp] theorem nt168 : Try.f168.ntmps = 13 := rfl
@[simp] theorem rs168 : Try.f168.results.toList = [.cell 2 102] := rfl
@[simp] theorem xt168 : ext? Try.prog 168 = none := by kernel_rfl
-- lintel/lintelref6.Lost
-- math/bits.RotateLeft64
-- lintel/lintelref1.Turn
-- lintel/geom.Lost
-- lintel/lintelref6.Node
-- lintel/lintelref6.Bits
@[simp] theorem ag94 : agg? Try.prog 94 = some false := by kernel_rfl
@[simp] theorem sz94 {β : Type} (k : Nat → Option β) : szOf Try.prog 94 k = k 1 := by kernel_rfl
@[simp] theorem ze94 {β : Type} (k : List V → Option β) : zero Try.prog 94 k = k [.c (.slice none 0 0)] := by kernel_rfl
theorem io94 : infoOk Try.prog 94 1 = true := by kernel_rfl
@[simp] theorem ag96 : agg? Try.prog 96 = some true := by kernel_rfl
@[simp] theorem sz96 {β : Type} (k : Nat → Option β) : szOf Try.prog 96 k = k 4 := by kernel_rfl
@[simp] theorem ze96 {β : Type} (k : List V → Option β) : zero Try.prog 96 k = k [.int .i64 0, .int .i64 0, .int .i64 0, .c (.slice none 0 0)] := by kernel_rfl
theorem io96 : infoOk Try.prog 96 4 = true := by kernel_rfl
@[simp] theorem ag97 : agg? Try.prog 97 = some false := by kernel_rfl
@[simp] theorem sz97 {β : Type} (k : Nat → Option β) : szOf Try.prog 97 k = k 1 := by kernel_rfl
@[simp] theorem ze97 {β : Type} (k : List V → Option β) : zero Try.prog 97 k = k [.c (.slice none 0 0)] := by kernel_rfl
theorem io97 : infoOk Try.prog 97 1 = true := by kernel_rfl
@[simp] theorem ag99 : agg? Try.prog 99 = some true := by kernel_rfl
@[simp] theorem sz99 {β : Type} (k : Nat → Option β) : szOf Try.prog 99 k = k 4 := by kernel_rfl
@[simp] theorem ze99 {β : Type} (k : List V → Option β) : zero Try.prog 99 k = k [.int .i64 0, .int .i64 0, .int .i64 0, .c (.slice none 0 0)] := by kernel_rfl
theorem io99 : infoOk Try.prog 99 4 = true := by kernel_rfl
@[simp] theorem ag102 : agg? Try.prog 102 = some true := by kernel_rfl
@[simp] theorem sz102 {β : Type} (k : Nat → Option β) : szOf Try.prog 102 k = k 2 := by kernel_rfl
@[simp] theorem ze102 {β : Type} (k : List V → Option β) : zero Try.prog 102 k = k [.int .i64 0, .int .i64 0] := by kernel_rfl
theorem io102 : infoOk Try.prog 102 2 = true := by kernel_rfl
@[simp] theorem ag184 : agg? Try.prog 184 = some true := by kernel_rfl
@[simp] theorem sz184 {β : Type} (k : Nat → Option β) : szOf Try.prog 184 k = k 2 := by kernel_rfl
@[simp] theorem ze184 {β : Type} (k : List V → Option β) : zero Try.prog 184 k = k [.int .i64 0, .int .i64 0] := by kernel_rfl
theorem io184 : infoOk Try.prog 184 2 = true := by kernel_rfl
@[simp] theorem un94 : Try.prog.underlying 94 = some (.slice 102) := by kernel_rfl
@[simp] theorem ln94 (c : Cx) (st : St) (x : V) : builtinE Try.prog c .len [94] [x] st = lenS st x := len_slice un94 x
@[simp] theorem ix94 {β : Type} (m o len cap i : Nat) (k : V → Option β) : idxE Try.prog 94 (.sl m o len cap) i k = if i < len then k (.p m (o + i * 2)) else none := idxE_sl un94 (fun k => sz102 k) m o len cap i k
@[simp] theorem iy94 {β : Type} (m o len w i : Nat) (k : V → Option β) : idxE Try.prog 94 (.sg m o len w) i k = if i < len then k (.p m (o + i * 2)) else none := idxE_sg un94 (fun k => sz102 k) m o len w i k
@[simp] theorem el94 {β : Type} (k : TypeId → Nat → Option β) : Ev.elemOf Try.prog 94 k = k 102 2 := by kernel_rfl
@[simp] theorem bz96 (st : St) : bldK Try.prog 96 [] [] [.int .i64 0, .int .i64 0, .int .i64 0, .c (.slice none 0 0)] st = some (.g [.int .i64 0, .int .i64 0, .int .i64 0, .c (.slice none 0 0)], st) := by kernel_rfl
theorem so96 : structOk Try.prog 96 [(0, 1), (1, 1), (2, 1), (3, 1)] = true := by kernel_rfl
@[simp] theorem bl96 (x0 x1 x2 x3 : Operand) (a0 a1 a2 a3 : V) (st : St) (h0 : a0.one = true) (h1 : a1.one = true) (h2 : a2.one = true) (h3 : a3.one = true) : bldK Try.prog 96 [(0, x0), (1, x1), (2, x2), (3, x3)] [a0, a1, a2, a3] [.int .i64 0, .int .i64 0, .int .i64 0, .c (.slice none 0 0)] st = some (.g [a0, a1, a2, a3], st) := by
  rw [bldK_ok so96, partsK_one rfl h0 (by simp), partsK_one rfl h1 (by simp), partsK_one rfl h2 (by simp), partsK_one rfl h3 (by simp)]; rfl
@[simp] theorem fk96_0 (k : Nat → Nat → Res) : fieldK Try.prog 96 0 k = k 1 0 := by kernel_rfl
@[simp] theorem fk96_1 (k : Nat → Nat → Res) : fieldK Try.prog 96 1 k = k 1 1 := by kernel_rfl
@[simp] theorem fk96_2 (k : Nat → Nat → Res) : fieldK Try.prog 96 2 k = k 1 2 := by kernel_rfl
@[simp] theorem fk96_3 (k : Nat → Nat → Res) : fieldK Try.prog 96 3 k = k 1 3 := by kernel_rfl
@[simp] theorem un97 : Try.prog.underlying 97 = some (.slice 184) := by kernel_rfl
@[simp] theorem ln97 (c : Cx) (st : St) (x : V) : builtinE Try.prog c .len [97] [x] st = lenS st x := len_slice un97 x
@[simp] theorem ix97 {β : Type} (m o len cap i : Nat) (k : V → Option β) : idxE Try.prog 97 (.sl m o len cap) i k = if i < len then k (.p m (o + i * 2)) else none := idxE_sl un97 (fun k => sz184 k) m o len cap i k
@[simp] theorem iy97 {β : Type} (m o len w i : Nat) (k : V → Option β) : idxE Try.prog 97 (.sg m o len w) i k = if i < len then k (.p m (o + i * 2)) else none := idxE_sg un97 (fun k => sz184 k) m o len w i k
@[simp] theorem el97 {β : Type} (k : TypeId → Nat → Option β) : Ev.elemOf Try.prog 97 k = k 184 2 := by kernel_rfl
@[simp] theorem bz99 (st : St) : bldK Try.prog 99 [] [] [.int .i64 0, .int .i64 0, .int .i64 0, .c (.slice none 0 0)] st = some (.g [.int .i64 0, .int .i64 0, .int .i64 0, .c (.slice none 0 0)], st) := by kernel_rfl
theorem so99 : structOk Try.prog 99 [(0, 1), (1, 1), (2, 1), (3, 1)] = true := by kernel_rfl
@[simp] theorem bl99 (x0 x1 x2 x3 : Operand) (a0 a1 a2 a3 : V) (st : St) (h0 : a0.one = true) (h1 : a1.one = true) (h2 : a2.one = true) (h3 : a3.one = true) : bldK Try.prog 99 [(0, x0), (1, x1), (2, x2), (3, x3)] [a0, a1, a2, a3] [.int .i64 0, .int .i64 0, .int .i64 0, .c (.slice none 0 0)] st = some (.g [a0, a1, a2, a3], st) := by
  rw [bldK_ok so99, partsK_one rfl h0 (by simp), partsK_one rfl h1 (by simp), partsK_one rfl h2 (by simp), partsK_one rfl h3 (by simp)]; rfl
@[simp] theorem fk99_0 (k : Nat → Nat → Res) : fieldK Try.prog 99 0 k = k 1 0 := by kernel_rfl
@[simp] theorem fk99_1 (k : Nat → Nat → Res) : fieldK Try.prog 99 1 k = k 1 1 := by kernel_rfl
@[simp] theorem fk99_2 (k : Nat → Nat → Res) : fieldK Try.prog 99 2 k = k 1 2 := by kernel_rfl
@[simp] theorem fk99_3 (k : Nat → Nat → Res) : fieldK Try.prog 99 3 k = k 1 3 := by kernel_rfl
@[simp] theorem bz102 (st : St) : bldK Try.prog 102 [] [] [.int .i64 0, .int .i64 0] st = some (.g [.int .i64 0, .int .i64 0], st) := by kernel_rfl
theorem so102 : structOk Try.prog 102 [(0, 1), (1, 1)] = true := by kernel_rfl
@[simp] theorem bl102 (x0 x1 : Operand) (a0 a1 : V) (st : St) (h0 : a0.one = true) (h1 : a1.one = true) : bldK Try.prog 102 [(0, x0), (1, x1)] [a0, a1] [.int .i64 0, .int .i64 0] st = some (.g [a0, a1], st) := by
  rw [bldK_ok so102, partsK_one rfl h0 (by simp), partsK_one rfl h1 (by simp)]; rfl
@[simp] theorem fk102_0 (k : Nat → Nat → Res) : fieldK Try.prog 102 0 k = k 1 0 := by kernel_rfl
@[simp] theorem fk102_1 (k : Nat → Nat → Res) : fieldK Try.prog 102 1 k = k 1 1 := by kernel_rfl
@[simp] theorem bz184 (st : St) : bldK Try.prog 184 [] [] [.int .i64 0, .int .i64 0] st = some (.g [.int .i64 0, .int .i64 0], st) := by kernel_rfl
theorem so184 : structOk Try.prog 184 [(0, 1), (1, 1)] = true := by kernel_rfl
@[simp] theorem bl184 (x0 x1 : Operand) (a0 a1 : V) (st : St) (h0 : a0.one = true) (h1 : a1.one = true) : bldK Try.prog 184 [(0, x0), (1, x1)] [a0, a1] [.int .i64 0, .int .i64 0] st = some (.g [a0, a1], st) := by
  rw [bldK_ok so184, partsK_one rfl h0 (by simp), partsK_one rfl h1 (by simp)]; rfl
@[simp] theorem fk184_0 (k : Nat → Nat → Res) : fieldK Try.prog 184 0 k = k 1 0 := by kernel_rfl
@[simp] theorem fk184_1 (k : Nat → Nat → Res) : fieldK Try.prog 184 1 k = k 1 1 := by kernel_rfl
end Go.Proofs.Ytenncnbaoejekaa

/-
  PLAIN: what the program's own tables say, as rules for rewriting.
-/
import Derived.Test.YtenncnbaoejekaaChecked
import Derived.Test.YtenncnbaoejekaaSl
namespace Go.Proofs.Ytenncnbaoejekaa
open Go.RowKit Ev
-- lintel/lintellaw13.RedoSays
@[simp] theorem nt19 : Try.f19.ntmps = 123 := rfl
@[simp] theorem rs19 : Try.f19.results.toList = [.tmp 8] := rfl
@[simp] theorem xt19 : ext? Try.prog 19 = none := by kernel_rfl
-- lintel/lintellaw13.RedoBack
@[simp] theorem nt20 : Try.f20.ntmps = 133 := rfl
@[simp] theorem rs20 : Try.f20.results.toList = [.tmp 12] := rfl
@[simp] theorem xt20 : ext? Try.prog 20 = none := by kernel_rfl
-- lintel/lintellaw13.RedoOrder
@[simp] theorem nt21 : Try.f21.ntmps = 69 := rfl
@[simp] theorem rs21 : Try.f21.results.toList = [.tmp 4] := rfl
@[simp] theorem xt21 : ext? Try.prog 21 = none := by kernel_rfl
-- lintel/lintellaw13.RedoSize
@[simp] theorem nt22 : Try.f22.ntmps = 50 := rfl
@[simp] theorem rs22 : Try.f22.results.toList = [.tmp 2] := rfl
@[simp] theorem xt22 : ext? Try.prog 22 = none := by kernel_rfl
-- lintel/lintellaw13.awake
@[simp] theorem nt92 : Try.f92.ntmps = 40 := rfl
@[simp] theorem rs92 : Try.f92.results.toList = [.tmp 0] := rfl
@[simp] theorem xt92 : ext? Try.prog 92 = none := by kernel_rfl
-- lintel/lintellaw13.writes
@[simp] theorem nt93 : Try.f93.ntmps = 26 := rfl
@[simp] theorem rs93 : Try.f93.results.toList = [.tmp 2] := rfl
@[simp] theorem xt93 : ext? Try.prog 93 = none := by kernel_rfl
-- lintel/redo.Put
@[simp] theorem nt94 : Try.f94.ntmps = 37 := rfl
@[simp] theorem rs94 : Try.f94.results.toList = [.tmp 2] := rfl
@[simp] theorem xt94 : ext? Try.prog 94 = none := by kernel_rfl
-- lintel/redo.Get
@[simp] theorem nt95 : Try.f95.ntmps = 66 := rfl
@[simp] theorem rs95 : Try.f95.results.toList = [.cell 2 133, .tmp 3] := rfl
@[simp] theorem xt95 : ext? Try.prog 95 = none := by kernel_rfl
-- lintel/lintelref6.GetRec
@[simp] theorem nt96 : Try.f96.ntmps = 83 := rfl
@[simp] theorem rs96 : Try.f96.results.toList = [.cell 2 137, .tmp 3] := rfl
@[simp] theorem xt96 : ext? Try.prog 96 = none := by kernel_rfl
-- lintel/redo.Same
@[simp] theorem nt97 : Try.f97.ntmps = 38 := rfl
@[simp] theorem rs97 : Try.f97.results.toList = [.tmp 4, .tmp 5] := rfl
@[simp] theorem xt97 : ext? Try.prog 97 = none := by kernel_rfl
-- lintel/lintelref6.Diff
@[simp] theorem nt98 : Try.f98.ntmps = 41 := rfl
@[simp] theorem rs98 : Try.f98.results.toList = [.tmp 4, .tmp 5] := rfl
@[simp] theorem xt98 : ext? Try.prog 98 = none := by kernel_rfl
-- lintel/lintellaw13.same
@[simp] theorem nt99 : Try.f99.ntmps = 26 := rfl
@[simp] theorem rs99 : Try.f99.results.toList = [.tmp 4] := rfl
@[simp] theorem xt99 : ext? Try.prog 99 = none := by kernel_rfl
-- lintel/lintelref6.PutRec
@[simp] theorem nt100 : Try.f100.ntmps = 65 := rfl
@[simp] theorem rs100 : Try.f100.results.toList = [.tmp 2] := rfl
@[simp] theorem xt100 : ext? Try.prog 100 = none := by kernel_rfl
-- lintel/redo.Size
@[simp] theorem nt101 : Try.f101.ntmps = 6 := rfl
@[simp] theorem rs101 : Try.f101.results.toList = [.tmp 2] := rfl
@[simp] theorem xt101 : ext? Try.prog 101 = none := by kernel_rfl
-- lintel/lintellaw13.equal
@[simp] theorem nt102 : Try.f102.ntmps = 26 := rfl
@[simp] theorem rs102 : Try.f102.results.toList = [.tmp 4] := rfl
@[simp] theorem xt102 : ext? Try.prog 102 = none := by kernel_rfl
-- lintel/redo.Do
@[simp] theorem nt103 : Try.f103.ntmps = 34 := rfl
@[simp] theorem rs103 : Try.f103.results.toList = [.tmp 4] := rfl
@[simp] theorem xt103 : ext? Try.prog 103 = none := by kernel_rfl
-- lintel/lintelref6.Do
@[simp] theorem nt104 : Try.f104.ntmps = 45 := rfl
@[simp] theorem rs104 : Try.f104.results.toList = [.tmp 4] := rfl
@[simp] theorem xt104 : ext? Try.prog 104 = none := by kernel_rfl
-- lintel/seal.Of
-- lintel/lintelref1.Of
-- lintel/redo.fits
@[simp] theorem nt157 : Try.f157.ntmps = 30 := rfl
@[simp] theorem rs157 : Try.f157.results.toList = [.tmp 2] := rfl
@[simp] theorem xt157 : ext? Try.prog 157 = none := by kernel_rfl
-- lintel/seal.Fits
-- lintel/lintelref1.Fits
-- slices.Clone[[]uint64,uint64]
-- lintel/seal.On
-- lintel/lintelref1.Seal
-- math/bits.RotateLeft64
-- lintel/lintelref1.Turn
@[simp] theorem ag131 : agg? Try.prog 131 = some false := by kernel_rfl
@[simp] theorem sz131 {β : Type} (k : Nat → Option β) : szOf Try.prog 131 k = k 1 := by kernel_rfl
@[simp] theorem ze131 {β : Type} (k : List V → Option β) : zero Try.prog 131 k = k [.c (.slice none 0 0)] := by kernel_rfl
theorem io131 : infoOk Try.prog 131 1 = true := by kernel_rfl
@[simp] theorem ag133 : agg? Try.prog 133 = some true := by kernel_rfl
@[simp] theorem sz133 {β : Type} (k : Nat → Option β) : szOf Try.prog 133 k = k 2 := by kernel_rfl
@[simp] theorem ze133 {β : Type} (k : List V → Option β) : zero Try.prog 133 k = k [.int .u64 0, .c (.slice none 0 0)] := by kernel_rfl
theorem io133 : infoOk Try.prog 133 2 = true := by kernel_rfl
@[simp] theorem ag134 : agg? Try.prog 134 = some false := by kernel_rfl
@[simp] theorem sz134 {β : Type} (k : Nat → Option β) : szOf Try.prog 134 k = k 1 := by kernel_rfl
@[simp] theorem ze134 {β : Type} (k : List V → Option β) : zero Try.prog 134 k = k [.c (.slice none 0 0)] := by kernel_rfl
theorem io134 : infoOk Try.prog 134 1 = true := by kernel_rfl
@[simp] theorem ag137 : agg? Try.prog 137 = some true := by kernel_rfl
@[simp] theorem sz137 {β : Type} (k : Nat → Option β) : szOf Try.prog 137 k = k 2 := by kernel_rfl
@[simp] theorem ze137 {β : Type} (k : List V → Option β) : zero Try.prog 137 k = k [.int .u64 0, .c (.slice none 0 0)] := by kernel_rfl
theorem io137 : infoOk Try.prog 137 2 = true := by kernel_rfl
@[simp] theorem ag155 : agg? Try.prog 155 = some true := by kernel_rfl
@[simp] theorem sz155 {β : Type} (k : Nat → Option β) : szOf Try.prog 155 k = k 2 := by kernel_rfl
@[simp] theorem ze155 {β : Type} (k : List V → Option β) : zero Try.prog 155 k = k [.int .i64 0, .int .u64 0] := by kernel_rfl
theorem io155 : infoOk Try.prog 155 2 = true := by kernel_rfl
@[simp] theorem ag206 : agg? Try.prog 206 = some true := by kernel_rfl
@[simp] theorem sz206 {β : Type} (k : Nat → Option β) : szOf Try.prog 206 k = k 2 := by kernel_rfl
@[simp] theorem ze206 {β : Type} (k : List V → Option β) : zero Try.prog 206 k = k [.int .i64 0, .int .u64 0] := by kernel_rfl
theorem io206 : infoOk Try.prog 206 2 = true := by kernel_rfl
@[simp] theorem un131 : Try.prog.underlying 131 = some (.slice 155) := by kernel_rfl
@[simp] theorem ln131 (c : Cx) (st : St) (x : V) : builtinE Try.prog c .len [131] [x] st = lenS st x := len_slice un131 x
@[simp] theorem ix131 {β : Type} (m o len cap i : Nat) (k : V → Option β) : idxE Try.prog 131 (.sl m o len cap) i k = if i < len then k (.p m (o + i * 2)) else none := idxE_sl un131 (fun k => sz155 k) m o len cap i k
@[simp] theorem iy131 {β : Type} (m o len w i : Nat) (k : V → Option β) : idxE Try.prog 131 (.sg m o len w) i k = if i < len then k (.p m (o + i * 2)) else none := idxE_sg un131 (fun k => sz155 k) m o len w i k
@[simp] theorem el131 {β : Type} (k : TypeId → Nat → Option β) : Ev.elemOf Try.prog 131 k = k 155 2 := by kernel_rfl
@[simp] theorem bz133 (st : St) : bldK Try.prog 133 [] [] [.int .u64 0, .c (.slice none 0 0)] st = some (.g [.int .u64 0, .c (.slice none 0 0)], st) := by kernel_rfl
theorem so133 : structOk Try.prog 133 [(0, 1), (1, 1)] = true := by kernel_rfl
@[simp] theorem bl133 (x0 x1 : Operand) (a0 a1 : V) (st : St) (h0 : a0.one = true) (h1 : a1.one = true) : bldK Try.prog 133 [(0, x0), (1, x1)] [a0, a1] [.int .u64 0, .c (.slice none 0 0)] st = some (.g [a0, a1], st) := by
  rw [bldK_ok so133, partsK_one rfl h0 (by simp), partsK_one rfl h1 (by simp)]; rfl
@[simp] theorem fk133_0 (k : Nat → Nat → Res) : fieldK Try.prog 133 0 k = k 1 0 := by kernel_rfl
@[simp] theorem fk133_1 (k : Nat → Nat → Res) : fieldK Try.prog 133 1 k = k 1 1 := by kernel_rfl
@[simp] theorem un134 : Try.prog.underlying 134 = some (.slice 206) := by kernel_rfl
@[simp] theorem ln134 (c : Cx) (st : St) (x : V) : builtinE Try.prog c .len [134] [x] st = lenS st x := len_slice un134 x
@[simp] theorem ix134 {β : Type} (m o len cap i : Nat) (k : V → Option β) : idxE Try.prog 134 (.sl m o len cap) i k = if i < len then k (.p m (o + i * 2)) else none := idxE_sl un134 (fun k => sz206 k) m o len cap i k
@[simp] theorem iy134 {β : Type} (m o len w i : Nat) (k : V → Option β) : idxE Try.prog 134 (.sg m o len w) i k = if i < len then k (.p m (o + i * 2)) else none := idxE_sg un134 (fun k => sz206 k) m o len w i k
@[simp] theorem el134 {β : Type} (k : TypeId → Nat → Option β) : Ev.elemOf Try.prog 134 k = k 206 2 := by kernel_rfl
@[simp] theorem bz137 (st : St) : bldK Try.prog 137 [] [] [.int .u64 0, .c (.slice none 0 0)] st = some (.g [.int .u64 0, .c (.slice none 0 0)], st) := by kernel_rfl
theorem so137 : structOk Try.prog 137 [(0, 1), (1, 1)] = true := by kernel_rfl
@[simp] theorem bl137 (x0 x1 : Operand) (a0 a1 : V) (st : St) (h0 : a0.one = true) (h1 : a1.one = true) : bldK Try.prog 137 [(0, x0), (1, x1)] [a0, a1] [.int .u64 0, .c (.slice none 0 0)] st = some (.g [a0, a1], st) := by
  rw [bldK_ok so137, partsK_one rfl h0 (by simp), partsK_one rfl h1 (by simp)]; rfl
@[simp] theorem fk137_0 (k : Nat → Nat → Res) : fieldK Try.prog 137 0 k = k 1 0 := by kernel_rfl
@[simp] theorem fk137_1 (k : Nat → Nat → Res) : fieldK Try.prog 137 1 k = k 1 1 := by kernel_rfl
@[simp] theorem bz155 (st : St) : bldK Try.prog 155 [] [] [.int .i64 0, .int .u64 0] st = some (.g [.int .i64 0, .int .u64 0], st) := by kernel_rfl
theorem so155 : structOk Try.prog 155 [(0, 1), (1, 1)] = true := by kernel_rfl
@[simp] theorem bl155 (x0 x1 : Operand) (a0 a1 : V) (st : St) (h0 : a0.one = true) (h1 : a1.one = true) : bldK Try.prog 155 [(0, x0), (1, x1)] [a0, a1] [.int .i64 0, .int .u64 0] st = some (.g [a0, a1], st) := by
  rw [bldK_ok so155, partsK_one rfl h0 (by simp), partsK_one rfl h1 (by simp)]; rfl
@[simp] theorem fk155_0 (k : Nat → Nat → Res) : fieldK Try.prog 155 0 k = k 1 0 := by kernel_rfl
@[simp] theorem fk155_1 (k : Nat → Nat → Res) : fieldK Try.prog 155 1 k = k 1 1 := by kernel_rfl
@[simp] theorem bz206 (st : St) : bldK Try.prog 206 [] [] [.int .i64 0, .int .u64 0] st = some (.g [.int .i64 0, .int .u64 0], st) := by kernel_rfl
theorem so206 : structOk Try.prog 206 [(0, 1), (1, 1)] = true := by kernel_rfl
@[simp] theorem bl206 (x0 x1 : Operand) (a0 a1 : V) (st : St) (h0 : a0.one = true) (h1 : a1.one = true) : bldK Try.prog 206 [(0, x0), (1, x1)] [a0, a1] [.int .i64 0, .int .u64 0] st = some (.g [a0, a1], st) := by
  rw [bldK_ok so206, partsK_one rfl h0 (by simp), partsK_one rfl h1 (by simp)]; rfl
@[simp] theorem fk206_0 (k : Nat → Nat → Res) : fieldK Try.prog 206 0 k = k 1 0 := by kernel_rfl
@[simp] theorem fk206_1 (k : Nat → Nat → Res) : fieldK Try.prog 206 1 k = k 1 1 := by kernel_rfl
end Go.Proofs.Ytenncnbaoejekaa

/-
  PLAIN: what the program's own tables say, as rules for rewriting.
-/
import Derived.Test.YtenncnbaoejekaaChecked
import Derived.Test.YtenncnbaoejekaaPmC
namespace Go.Proofs.Ytenncnbaoejekaa
open Go.RowKit Ev
-- lintel/lintellaw5.SpanSays
@[simp] theorem nt7 : Try.f7.ntmps = 272 := rfl
@[simp] theorem rs7 : Try.f7.results.toList = [.tmp 12] := rfl
@[simp] theorem xt7 : ext? Try.prog 7 = none := by kernel_rfl
-- lintel/lintellaw5.SpanSubs
@[simp] theorem nt8 : Try.f8.ntmps = 125 := rfl
@[simp] theorem rs8 : Try.f8.results.toList = [.tmp 10] := rfl
@[simp] theorem xt8 : ext? Try.prog 8 = none := by kernel_rfl
-- lintel/lintellaw5.SpanPushes
@[simp] theorem nt9 : Try.f9.ntmps = 159 := rfl
@[simp] theorem rs9 : Try.f9.results.toList = [.tmp 8] := rfl
@[simp] theorem xt9 : ext? Try.prog 9 = none := by kernel_rfl
-- lintel/pmem.New
-- (*lintel/pmem.Mem).Store
-- (*lintel/pmem.Mem).Flush
-- (*lintel/pmem.Mem).Fence
-- (*lintel/pmem.Mem).Crash
-- (*lintel/pmem.Mem).On
-- (*lintel/pmem.Mem).Fuse
-- (*lintel/pmem.Mem).Load
-- (*lintel/pmem.Mem).Off
-- (*lintel/pmem.Mem).Words
-- (*lintel/pmem.Mem).Lines
-- lintel/lintellaw5.awake
@[simp] theorem nt46 : Try.f46.ntmps = 47 := rfl
@[simp] theorem rs46 : Try.f46.results.toList = [.tmp 0] := rfl
@[simp] theorem xt46 : ext? Try.prog 46 = none := by kernel_rfl
-- lintel/pmem.From
-- lintel/span.Of
@[simp] theorem nt48 : Try.f48.ntmps = 23 := rfl
@[simp] theorem rs48 : Try.f48.results.toList = [.cell 6 60, .tmp 7] := rfl
@[simp] theorem xt48 : ext? Try.prog 48 = none := by kernel_rfl
-- (lintel/span.Span).Set
@[simp] theorem nt49 : Try.f49.ntmps = 18 := rfl
@[simp] theorem rs49 : Try.f49.results.toList = [.tmp 6] := rfl
@[simp] theorem xt49 : ext? Try.prog 49 = none := by kernel_rfl
-- lintel/lintellaw5.same
@[simp] theorem nt50 : Try.f50.ntmps = 26 := rfl
@[simp] theorem rs50 : Try.f50.results.toList = [.tmp 4] := rfl
@[simp] theorem xt50 : ext? Try.prog 50 = none := by kernel_rfl
-- (lintel/span.Span).Word
@[simp] theorem nt51 : Try.f51.ntmps = 18 := rfl
@[simp] theorem rs51 : Try.f51.results.toList = [.tmp 4, .tmp 5] := rfl
@[simp] theorem xt51 : ext? Try.prog 51 = none := by kernel_rfl
-- (lintel/span.Span).Push
@[simp] theorem nt52 : Try.f52.ntmps = 65 := rfl
@[simp] theorem rs52 : Try.f52.results.toList = [.tmp 6] := rfl
@[simp] theorem xt52 : ext? Try.prog 52 = none := by kernel_rfl
-- (lintel/span.Span).All
@[simp] theorem nt53 : Try.f53.ntmps = 35 := rfl
@[simp] theorem rs53 : Try.f53.results.toList = [.tmp 2, .tmp 3] := rfl
@[simp] theorem xt53 : ext? Try.prog 53 = none := by kernel_rfl
-- (lintel/span.Span).Sub
@[simp] theorem nt54 : Try.f54.ntmps = 30 := rfl
@[simp] theorem rs54 : Try.f54.results.toList = [.cell 6 60, .tmp 7] := rfl
@[simp] theorem xt54 : ext? Try.prog 54 = none := by kernel_rfl
-- (*lintel/pmem.Mem).word
-- (*lintel/pmem.Mem).burns
-- (*lintel/line.Line).Store
-- (*lintel/line.Line).Flush
-- (*lintel/line.Line).Fence
-- (*lintel/line.Line).Open
-- (*lintel/line.Line).Fall
-- (*lintel/line.Line).Load
-- lintel/line.New
-- lintel/span.within
@[simp] theorem nt122 : Try.f122.ntmps = 25 := rfl
@[simp] theorem rs122 : Try.f122.results.toList = [.tmp 6] := rfl
@[simp] theorem xt122 : ext? Try.prog 122 = none := by kernel_rfl
-- (lintel/span.Span).has
@[simp] theorem nt123 : Try.f123.ntmps = 43 := rfl
@[simp] theorem rs123 : Try.f123.results.toList = [.tmp 6] := rfl
@[simp] theorem xt123 : ext? Try.prog 123 = none := by kernel_rfl
-- (lintel/span.Span).place
@[simp] theorem nt124 : Try.f124.ntmps = 10 := rfl
@[simp] theorem rs124 : Try.f124.results.toList = [.tmp 4] := rfl
@[simp] theorem xt124 : ext? Try.prog 124 = none := by kernel_rfl
-- lintel/line.there
-- (*lintel/line.Line).settle
@[simp] theorem ag60 : agg? Try.prog 60 = some true := by kernel_rfl
@[simp] theorem sz60 {β : Type} (k : Nat → Option β) : szOf Try.prog 60 k = k 3 := by kernel_rfl
@[simp] theorem ze60 {β : Type} (k : List V → Option β) : zero Try.prog 60 k = k [.c (.pointer none), .int .i64 0, .int .i64 0] := by kernel_rfl
theorem io60 : infoOk Try.prog 60 3 = true := by kernel_rfl
@[simp] theorem bz60 (st : St) : bldK Try.prog 60 [] [] [.c (.pointer none), .int .i64 0, .int .i64 0] st = some (.g [.c (.pointer none), .int .i64 0, .int .i64 0], st) := by kernel_rfl
theorem so60 : structOk Try.prog 60 [(0, 1), (1, 1), (2, 1)] = true := by kernel_rfl
@[simp] theorem bl60 (x0 x1 x2 : Operand) (a0 a1 a2 : V) (st : St) (h0 : a0.one = true) (h1 : a1.one = true) (h2 : a2.one = true) : bldK Try.prog 60 [(0, x0), (1, x1), (2, x2)] [a0, a1, a2] [.c (.pointer none), .int .i64 0, .int .i64 0] st = some (.g [a0, a1, a2], st) := by
  rw [bldK_ok so60, partsK_one rfl h0 (by simp), partsK_one rfl h1 (by simp), partsK_one rfl h2 (by simp)]; rfl
@[simp] theorem fk60_0 (k : Nat → Nat → Res) : fieldK Try.prog 60 0 k = k 1 0 := by kernel_rfl
@[simp] theorem fk60_1 (k : Nat → Nat → Res) : fieldK Try.prog 60 1 k = k 1 1 := by kernel_rfl
@[simp] theorem fk60_2 (k : Nat → Nat → Res) : fieldK Try.prog 60 2 k = k 1 2 := by kernel_rfl
end Go.Proofs.Ytenncnbaoejekaa

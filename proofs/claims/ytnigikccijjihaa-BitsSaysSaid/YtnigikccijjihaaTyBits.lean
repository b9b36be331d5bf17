/-
  PLAIN: what the program's own tables say, as rules for rewriting.
-/
import Derived.Test.YtnigikccijjihaaChecked
import Derived.Test.YtnigikccijjihaaGn
namespace Go.Proofs.Ytnigikccijjihaa
open Go.RowKit Ev
-- lintel/lintellaw11.BitsSays
@[simp] theorem nt17 : Try.f17.ntmps = 112 := rfl
@[simp] theorem rs17 : Try.f17.results.toList = [.tmp 12] := rfl
@[simp] theorem xt17 : ext? Try.prog 17 = none := by kernel_rfl
-- lintel/lintellaw11.BitsRows
@[simp] theorem nt18 : Try.f18.ntmps = 112 := rfl
@[simp] theorem rs18 : Try.f18.results.toList = [.tmp 6] := rfl
@[simp] theorem xt18 : ext? Try.prog 18 = none := by kernel_rfl
-- lintel/lintellaw11.BitsNext
@[simp] theorem nt19 : Try.f19.ntmps = 51 := rfl
@[simp] theorem rs19 : Try.f19.results.toList = [.tmp 2] := rfl
@[simp] theorem xt19 : ext? Try.prog 19 = none := by kernel_rfl
-- lintel/lintellaw11.awake
@[simp] theorem nt88 : Try.f88.ntmps = 39 := rfl
@[simp] theorem rs88 : Try.f88.results.toList = [.tmp 0] := rfl
@[simp] theorem xt88 : ext? Try.prog 88 = none := by kernel_rfl
-- lintel/bits.Next
@[simp] theorem nt89 : Try.f89.ntmps = 30 := rfl
@[simp] theorem rs89 : Try.f89.results.toList = [.tmp 8, .tmp 9] := rfl
@[simp] theorem xt89 : ext? Try.prog 89 = none := by kernel_rfl
-- lintel/lintelref6.Next
@[simp] theorem nt90 : Try.f90.ntmps = 32 := rfl
@[simp] theorem rs90 : Try.f90.results.toList = [.tmp 8, .tmp 9] := rfl
@[simp] theorem xt90 : ext? Try.prog 90 = none := by kernel_rfl
-- lintel/bits.Free
@[simp] theorem nt91 : Try.f91.ntmps = 39 := rfl
@[simp] theorem rs91 : Try.f91.results.toList = [.tmp 8, .tmp 9] := rfl
@[simp] theorem xt91 : ext? Try.prog 91 = none := by kernel_rfl
-- lintel/lintelref6.FreeBits
@[simp] theorem nt92 : Try.f92.ntmps = 43 := rfl
@[simp] theorem rs92 : Try.f92.results.toList = [.tmp 8, .tmp 9] := rfl
@[simp] theorem xt92 : ext? Try.prog 92 = none := by kernel_rfl
-- lintel/lintellaw11.same
@[simp] theorem nt93 : Try.f93.ntmps = 26 := rfl
@[simp] theorem rs93 : Try.f93.results.toList = [.tmp 4] := rfl
@[simp] theorem xt93 : ext? Try.prog 93 = none := by kernel_rfl
-- lintel/bits.Set
@[simp] theorem nt94 : Try.f94.ntmps = 49 := rfl
@[simp] theorem rs94 : Try.f94.results.toList = [.cell 6 103] := rfl
@[simp] theorem xt94 : ext? Try.prog 94 = none := by kernel_rfl
-- lintel/lintelref6.SetBits
@[simp] theorem nt95 : Try.f95.ntmps = 62 := rfl
@[simp] theorem rs95 : Try.f95.results.toList = [.tmp 6] := rfl
@[simp] theorem xt95 : ext? Try.prog 95 = none := by kernel_rfl
-- lintel/bits.Count
@[simp] theorem nt96 : Try.f96.ntmps = 19 := rfl
@[simp] theorem rs96 : Try.f96.results.toList = [.tmp 2] := rfl
@[simp] theorem xt96 : ext? Try.prog 96 = none := by kernel_rfl
-- lintel/lintelref6.CountBits
@[simp] theorem nt97 : Try.f97.ntmps = 18 := rfl
@[simp] theorem rs97 : Try.f97.results.toList = [.tmp 2] := rfl
@[simp] theorem xt97 : ext? Try.prog 97 = none := by kernel_rfl
-- lintel/bits.Has
@[simp] theorem nt98 : Try.f98.ntmps = 21 := rfl
@[simp] theorem rs98 : Try.f98.results.toList = [.tmp 4] := rfl
@[simp] theorem xt98 : ext? Try.prog 98 = none := by kernel_rfl
-- lintel/lintelref6.HasBit
@[simp] theorem nt99 : Try.f99.ntmps = 27 := rfl
@[simp] theorem rs99 : Try.f99.results.toList = [.tmp 4] := rfl
@[simp] theorem xt99 : ext? Try.prog 99 = none := by kernel_rfl
-- lintel/bits.New
@[simp] theorem nt143 : Try.f143.ntmps = 12 := rfl
@[simp] theorem rs143 : Try.f143.results.toList = [.cell 2 103] := rfl
@[simp] theorem xt143 : ext? Try.prog 143 = none := by kernel_rfl
-- lintel/bits.within
@[simp] theorem nt144 : Try.f144.ntmps = 16 := rfl
@[simp] theorem rs144 : Try.f144.results.toList = [.tmp 6, .tmp 7] := rfl
@[simp] theorem xt144 : ext? Try.prog 144 = none := by kernel_rfl
-- slices.Clone[[]uint64,uint64]
@[simp] theorem nt145 : Try.f145.ntmps = 8 := rfl
@[simp] theorem rs145 : Try.f145.results.toList = [.tmp 2] := rfl
@[simp] theorem xt145 : ext? Try.prog 145 = none := by kernel_rfl
-- lintel/bits.there
@[simp] theorem nt146 : Try.f146.ntmps = 15 := rfl
@[simp] theorem rs146 : Try.f146.results.toList = [.tmp 4] := rfl
@[simp] theorem xt146 : ext? Try.prog 146 = none := by kernel_rfl
-- math/bits.OnesCount64
@[simp] theorem nt147 : Try.f147.ntmps = 35 := rfl
@[simp] theorem rs147 : Try.f147.results.toList = [.tmp 2] := rfl
@[simp] theorem xt147 : ext? Try.prog 147 = none := by kernel_rfl
@[simp] theorem ag3 : agg? Try.prog 3 = some false := by kernel_rfl
@[simp] theorem sz3 {β : Type} (k : Nat → Option β) : szOf Try.prog 3 k = k 1 := by kernel_rfl
@[simp] theorem ze3 {β : Type} (k : List V → Option β) : zero Try.prog 3 k = k [.int .i64 0] := by kernel_rfl
theorem io3 : infoOk Try.prog 3 1 = true := by kernel_rfl
@[simp] theorem ag4 : agg? Try.prog 4 = some false := by kernel_rfl
@[simp] theorem sz4 {β : Type} (k : Nat → Option β) : szOf Try.prog 4 k = k 1 := by kernel_rfl
@[simp] theorem ze4 {β : Type} (k : List V → Option β) : zero Try.prog 4 k = k [.bool false] := by kernel_rfl
theorem io4 : infoOk Try.prog 4 1 = true := by kernel_rfl
@[simp] theorem ag23 : agg? Try.prog 23 = some false := by kernel_rfl
@[simp] theorem sz23 {β : Type} (k : Nat → Option β) : szOf Try.prog 23 k = k 1 := by kernel_rfl
@[simp] theorem ze23 {β : Type} (k : List V → Option β) : zero Try.prog 23 k = k [.c (.slice none 0 0)] := by kernel_rfl
theorem io23 : infoOk Try.prog 23 1 = true := by kernel_rfl
@[simp] theorem ag24 : agg? Try.prog 24 = some false := by kernel_rfl
@[simp] theorem sz24 {β : Type} (k : Nat → Option β) : szOf Try.prog 24 k = k 1 := by kernel_rfl
@[simp] theorem ze24 {β : Type} (k : List V → Option β) : zero Try.prog 24 k = k [.int .u64 0] := by kernel_rfl
theorem io24 : infoOk Try.prog 24 1 = true := by kernel_rfl
@[simp] theorem ag99 : agg? Try.prog 99 = some false := by kernel_rfl
@[simp] theorem sz99 {β : Type} (k : Nat → Option β) : szOf Try.prog 99 k = k 1 := by kernel_rfl
@[simp] theorem ze99 {β : Type} (k : List V → Option β) : zero Try.prog 99 k = k [.c (.slice none 0 0)] := by kernel_rfl
theorem io99 : infoOk Try.prog 99 1 = true := by kernel_rfl
@[simp] theorem ag103 : agg? Try.prog 103 = some true := by kernel_rfl
@[simp] theorem sz103 {β : Type} (k : Nat → Option β) : szOf Try.prog 103 k = k 1 := by kernel_rfl
@[simp] theorem ze103 {β : Type} (k : List V → Option β) : zero Try.prog 103 k = k [.c (.slice none 0 0)] := by kernel_rfl
theorem io103 : infoOk Try.prog 103 1 = true := by kernel_rfl
@[simp] theorem ag152 : agg? Try.prog 152 = some false := by kernel_rfl
@[simp] theorem sz152 {β : Type} (k : Nat → Option β) : szOf Try.prog 152 k = k 1 := by kernel_rfl
@[simp] theorem ze152 {β : Type} (k : List V → Option β) : zero Try.prog 152 k = k [.int .u64 0] := by kernel_rfl
theorem io152 : infoOk Try.prog 152 1 = true := by kernel_rfl
@[simp] theorem un3 : Try.prog.underlying 3 = some (.int .i64) := by kernel_rfl
@[simp] theorem un23 : Try.prog.underlying 23 = some (.slice 24) := by kernel_rfl
@[simp] theorem ln23 (c : Cx) (st : St) (x : V) : builtinE Try.prog c .len [23] [x] st = lenS st x := len_slice un23 x
@[simp] theorem ix23 {β : Type} (m o len cap i : Nat) (k : V → Option β) : idxE Try.prog 23 (.sl m o len cap) i k = if i < len then k (.p m (o + i * 1)) else none := idxE_sl un23 (fun k => sz24 k) m o len cap i k
@[simp] theorem iy23 {β : Type} (m o len w i : Nat) (k : V → Option β) : idxE Try.prog 23 (.sg m o len w) i k = if i < len then k (.p m (o + i * 1)) else none := idxE_sg un23 (fun k => sz24 k) m o len w i k
@[simp] theorem el23 {β : Type} (k : TypeId → Nat → Option β) : Ev.elemOf Try.prog 23 k = k 24 1 := by kernel_rfl
@[simp] theorem un24 : Try.prog.underlying 24 = some (.int .u64) := by kernel_rfl
@[simp] theorem un99 : Try.prog.underlying 99 = some (.slice 3) := by kernel_rfl
@[simp] theorem ln99 (c : Cx) (st : St) (x : V) : builtinE Try.prog c .len [99] [x] st = lenS st x := len_slice un99 x
@[simp] theorem ix99 {β : Type} (m o len cap i : Nat) (k : V → Option β) : idxE Try.prog 99 (.sl m o len cap) i k = if i < len then k (.p m (o + i * 1)) else none := idxE_sl un99 (fun k => sz3 k) m o len cap i k
@[simp] theorem iy99 {β : Type} (m o len w i : Nat) (k : V → Option β) : idxE Try.prog 99 (.sg m o len w) i k = if i < len then k (.p m (o + i * 1)) else none := idxE_sg un99 (fun k => sz3 k) m o len w i k
@[simp] theorem el99 {β : Type} (k : TypeId → Nat → Option β) : Ev.elemOf Try.prog 99 k = k 3 1 := by kernel_rfl
@[simp] theorem bz103 (st : St) : bldK Try.prog 103 [] [] [.c (.slice none 0 0)] st = some (.g [.c (.slice none 0 0)], st) := by kernel_rfl
theorem so103 : structOk Try.prog 103 [(0, 1)] = true := by kernel_rfl
@[simp] theorem bl103 (x0 : Operand) (a0 : V) (st : St) (h0 : a0.one = true) : bldK Try.prog 103 [(0, x0)] [a0] [.c (.slice none 0 0)] st = some (.g [a0], st) := by
  rw [bldK_ok so103, partsK_one rfl h0 (by decide)]; rfl
@[simp] theorem fk103_0 (k : Nat → Nat → Res) : fieldK Try.prog 103 0 k = k 1 0 := by kernel_rfl
@[simp] theorem un152 : Try.prog.underlying 152 = some (.int .u64) := by kernel_rfl
end Go.Proofs.Ytnigikccijjihaa

/-
  PLAIN: what the program's own tables say, as rules for rewriting.
-/
import Derived.Test.YtdoennkmcloalaaChecked
import Derived.Test.YtdoennkmcloalaaSb
namespace Go.Proofs.Ytdoennkmcloalaa
open Go.RowKit Ev
-- lintel/lintellaw1.WordSays
@[simp] theorem nt3 : Try.f3.ntmps = 116 := rfl
@[simp] theorem rs3 : Try.f3.results.toList = [.tmp 12] := rfl
@[simp] theorem xt3 : ext? Try.prog 3 = none := by kernel_rfl
-- lintel/lintellaw1.awake
@[simp] theorem nt19 : Try.f19.ntmps = 24 := rfl
@[simp] theorem rs19 : Try.f19.results.toList = [.tmp 0] := rfl
@[simp] theorem xt19 : ext? Try.prog 19 = none := by kernel_rfl
-- lintel/word.Put
@[simp] theorem nt20 : Try.f20.ntmps = 25 := rfl
@[simp] theorem rs20 : Try.f20.results.toList = [.tmp 6, .tmp 7] := rfl
@[simp] theorem xt20 : ext? Try.prog 20 = none := by kernel_rfl
-- lintel/lintelref1.Put
@[simp] theorem nt21 : Try.f21.ntmps = 40 := rfl
@[simp] theorem rs21 : Try.f21.results.toList = [.tmp 6, .tmp 7] := rfl
@[simp] theorem xt21 : ext? Try.prog 21 = none := by kernel_rfl
-- lintel/word.Get
@[simp] theorem nt22 : Try.f22.ntmps = 34 := rfl
@[simp] theorem rs22 : Try.f22.results.toList = [.tmp 4] := rfl
@[simp] theorem xt22 : ext? Try.prog 22 = none := by kernel_rfl
-- lintel/lintelref1.Get
@[simp] theorem nt23 : Try.f23.ntmps = 32 := rfl
@[simp] theorem rs23 : Try.f23.results.toList = [.tmp 4] := rfl
@[simp] theorem xt23 : ext? Try.prog 23 = none := by kernel_rfl
-- lintel/word.Bytes
@[simp] theorem nt24 : Try.f24.ntmps = 31 := rfl
@[simp] theorem rs24 : Try.f24.results.toList = [.tmp 2] := rfl
@[simp] theorem xt24 : ext? Try.prog 24 = none := by kernel_rfl
-- lintel/lintelref1.Bytes
@[simp] theorem nt25 : Try.f25.ntmps = 29 := rfl
@[simp] theorem rs25 : Try.f25.results.toList = [.tmp 2] := rfl
@[simp] theorem xt25 : ext? Try.prog 25 = none := by kernel_rfl
-- lintel/lintellaw1.same
@[simp] theorem nt26 : Try.f26.ntmps = 26 := rfl
@[simp] theorem rs26 : Try.f26.results.toList = [.tmp 4] := rfl
@[simp] theorem xt26 : ext? Try.prog 26 = none := by kernel_rfl
-- lintel/word.Words
@[simp] theorem nt27 : Try.f27.ntmps = 22 := rfl
@[simp] theorem rs27 : Try.f27.results.toList = [.tmp 2] := rfl
@[simp] theorem xt27 : ext? Try.prog 27 = none := by kernel_rfl
-- lintel/lintelref1.Words
@[simp] theorem nt28 : Try.f28.ntmps = 19 := rfl
@[simp] theorem rs28 : Try.f28.results.toList = [.tmp 2] := rfl
@[simp] theorem xt28 : ext? Try.prog 28 = none := by kernel_rfl
-- lintel/word.Field
@[simp] theorem nt29 : Try.f29.ntmps = 17 := rfl
@[simp] theorem rs29 : Try.f29.results.toList = [.tmp 6] := rfl
@[simp] theorem xt29 : ext? Try.prog 29 = none := by kernel_rfl
-- lintel/lintelref1.Field
@[simp] theorem nt30 : Try.f30.ntmps = 18 := rfl
@[simp] theorem rs30 : Try.f30.results.toList = [.tmp 6] := rfl
@[simp] theorem xt30 : ext? Try.prog 30 = none := by kernel_rfl
-- lintel/word.With
@[simp] theorem nt31 : Try.f31.ntmps = 27 := rfl
@[simp] theorem rs31 : Try.f31.results.toList = [.tmp 8] := rfl
@[simp] theorem xt31 : ext? Try.prog 31 = none := by kernel_rfl
-- lintel/lintelref1.With
@[simp] theorem nt32 : Try.f32.ntmps = 30 := rfl
@[simp] theorem rs32 : Try.f32.results.toList = [.tmp 8] := rfl
@[simp] theorem xt32 : ext? Try.prog 32 = none := by kernel_rfl
-- lintel/word.Turn
@[simp] theorem nt33 : Try.f33.ntmps = 9 := rfl
@[simp] theorem rs33 : Try.f33.results.toList = [.tmp 4] := rfl
@[simp] theorem xt33 : ext? Try.prog 33 = none := by kernel_rfl
-- lintel/lintelref1.Turn
@[simp] theorem nt34 : Try.f34.ntmps = 25 := rfl
@[simp] theorem rs34 : Try.f34.results.toList = [.tmp 4] := rfl
@[simp] theorem xt34 : ext? Try.prog 34 = none := by kernel_rfl
-- bytes.Clone
@[simp] theorem nt115 : Try.f115.ntmps = 8 := rfl
@[simp] theorem rs115 : Try.f115.results.toList = [.tmp 2] := rfl
@[simp] theorem xt115 : ext? Try.prog 115 = none := by kernel_rfl
-- lintel/word.has
@[simp] theorem nt116 : Try.f116.ntmps = 14 := rfl
@[simp] theorem rs116 : Try.f116.results.toList = [.tmp 4] := rfl
@[simp] theorem xt116 : ext? Try.prog 116 = none := by kernel_rfl
-- lintel/word.fits
@[simp] theorem nt117 : Try.f117.ntmps = 21 := rfl
@[simp] theorem rs117 : Try.f117.results.toList = [.tmp 4] := rfl
@[simp] theorem xt117 : ext? Try.prog 117 = none := by kernel_rfl
-- lintel/word.mask
@[simp] theorem nt118 : Try.f118.ntmps = 6 := rfl
@[simp] theorem rs118 : Try.f118.results.toList = [.tmp 2] := rfl
@[simp] theorem xt118 : ext? Try.prog 118 = none := by kernel_rfl
-- lintel/lintelref1.may
@[simp] theorem nt119 : Try.f119.ntmps = 21 := rfl
@[simp] theorem rs119 : Try.f119.results.toList = [.tmp 4] := rfl
@[simp] theorem xt119 : ext? Try.prog 119 = none := by kernel_rfl
-- lintel/lintelref1.mask
@[simp] theorem nt120 : Try.f120.ntmps = 9 := rfl
@[simp] theorem rs120 : Try.f120.results.toList = [.tmp 2] := rfl
@[simp] theorem xt120 : ext? Try.prog 120 = none := by kernel_rfl
-- math/bits.RotateLeft64
@[simp] theorem nt121 : Try.f121.ntmps = 17 := rfl
@[simp] theorem rs121 : Try.f121.results.toList = [.tmp 4] := rfl
@[simp] theorem xt121 : ext? Try.prog 121 = none := by kernel_rfl
@[simp] theorem ag3 : agg? Try.prog 3 = some false := by kernel_rfl
@[simp] theorem sz3 {β : Type} (k : Nat → Option β) : szOf Try.prog 3 k = k 1 := by kernel_rfl
@[simp] theorem ze3 {β : Type} (k : List V → Option β) : zero Try.prog 3 k = k [.int .i64 0] := by kernel_rfl
theorem io3 : infoOk Try.prog 3 1 = true := by kernel_rfl
@[simp] theorem ag4 : agg? Try.prog 4 = some false := by kernel_rfl
@[simp] theorem sz4 {β : Type} (k : Nat → Option β) : szOf Try.prog 4 k = k 1 := by kernel_rfl
@[simp] theorem ze4 {β : Type} (k : List V → Option β) : zero Try.prog 4 k = k [.bool false] := by kernel_rfl
theorem io4 : infoOk Try.prog 4 1 = true := by kernel_rfl
@[simp] theorem ag5 : agg? Try.prog 5 = some false := by kernel_rfl
@[simp] theorem sz5 {β : Type} (k : Nat → Option β) : szOf Try.prog 5 k = k 1 := by kernel_rfl
@[simp] theorem ze5 {β : Type} (k : List V → Option β) : zero Try.prog 5 k = k [.int .u8 0] := by kernel_rfl
theorem io5 : infoOk Try.prog 5 1 = true := by kernel_rfl
@[simp] theorem ag9 : agg? Try.prog 9 = some false := by kernel_rfl
@[simp] theorem sz9 {β : Type} (k : Nat → Option β) : szOf Try.prog 9 k = k 1 := by kernel_rfl
@[simp] theorem ze9 {β : Type} (k : List V → Option β) : zero Try.prog 9 k = k [.s []] := by kernel_rfl
theorem io9 : infoOk Try.prog 9 1 = true := by kernel_rfl
@[simp] theorem ag22 : agg? Try.prog 22 = some false := by kernel_rfl
@[simp] theorem sz22 {β : Type} (k : Nat → Option β) : szOf Try.prog 22 k = k 1 := by kernel_rfl
@[simp] theorem ze22 {β : Type} (k : List V → Option β) : zero Try.prog 22 k = k [.c (.slice none 0 0)] := by kernel_rfl
theorem io22 : infoOk Try.prog 22 1 = true := by kernel_rfl
@[simp] theorem ag23 : agg? Try.prog 23 = some false := by kernel_rfl
@[simp] theorem sz23 {β : Type} (k : Nat → Option β) : szOf Try.prog 23 k = k 1 := by kernel_rfl
@[simp] theorem ze23 {β : Type} (k : List V → Option β) : zero Try.prog 23 k = k [.c (.slice none 0 0)] := by kernel_rfl
theorem io23 : infoOk Try.prog 23 1 = true := by kernel_rfl
@[simp] theorem ag24 : agg? Try.prog 24 = some false := by kernel_rfl
@[simp] theorem sz24 {β : Type} (k : Nat → Option β) : szOf Try.prog 24 k = k 1 := by kernel_rfl
@[simp] theorem ze24 {β : Type} (k : List V → Option β) : zero Try.prog 24 k = k [.int .u64 0] := by kernel_rfl
theorem io24 : infoOk Try.prog 24 1 = true := by kernel_rfl
@[simp] theorem ag179 : agg? Try.prog 179 = some false := by kernel_rfl
@[simp] theorem sz179 {β : Type} (k : Nat → Option β) : szOf Try.prog 179 k = k 1 := by kernel_rfl
@[simp] theorem ze179 {β : Type} (k : List V → Option β) : zero Try.prog 179 k = k [.int .u64 0] := by kernel_rfl
theorem io179 : infoOk Try.prog 179 1 = true := by kernel_rfl
@[simp] theorem un3 : Try.prog.underlying 3 = some (.int .i64) := by kernel_rfl
@[simp] theorem un5 : Try.prog.underlying 5 = some (.int .u8) := by kernel_rfl
@[simp] theorem un9 : Try.prog.underlying 9 = some .string := by kernel_rfl
@[simp] theorem un22 : Try.prog.underlying 22 = some (.slice 5) := by kernel_rfl
@[simp] theorem ln22 (c : Cx) (st : St) (x : V) : builtinE Try.prog c .len [22] [x] st = lenS st x := len_slice un22 x
@[simp] theorem ix22 {β : Type} (m o len cap i : Nat) (k : V → Option β) : idxE Try.prog 22 (.sl m o len cap) i k = if i < len then k (.p m (o + i * 1)) else none := idxE_sl un22 (fun k => sz5 k) m o len cap i k
@[simp] theorem iy22 {β : Type} (m o len w i : Nat) (k : V → Option β) : idxE Try.prog 22 (.sg m o len w) i k = if i < len then k (.p m (o + i * 1)) else none := idxE_sg un22 (fun k => sz5 k) m o len w i k
@[simp] theorem el22 {β : Type} (k : TypeId → Nat → Option β) : Ev.elemOf Try.prog 22 k = k 5 1 := by kernel_rfl
@[simp] theorem un23 : Try.prog.underlying 23 = some (.slice 24) := by kernel_rfl
@[simp] theorem ln23 (c : Cx) (st : St) (x : V) : builtinE Try.prog c .len [23] [x] st = lenS st x := len_slice un23 x
@[simp] theorem ix23 {β : Type} (m o len cap i : Nat) (k : V → Option β) : idxE Try.prog 23 (.sl m o len cap) i k = if i < len then k (.p m (o + i * 1)) else none := idxE_sl un23 (fun k => sz24 k) m o len cap i k
@[simp] theorem iy23 {β : Type} (m o len w i : Nat) (k : V → Option β) : idxE Try.prog 23 (.sg m o len w) i k = if i < len then k (.p m (o + i * 1)) else none := idxE_sg un23 (fun k => sz24 k) m o len w i k
@[simp] theorem el23 {β : Type} (k : TypeId → Nat → Option β) : Ev.elemOf Try.prog 23 k = k 24 1 := by kernel_rfl
@[simp] theorem un24 : Try.prog.underlying 24 = some (.int .u64) := by kernel_rfl
@[simp] theorem un179 : Try.prog.underlying 179 = some (.int .u64) := by kernel_rfl
end Go.Proofs.Ytdoennkmcloalaa

/-
  PLAIN: what the program's own tables say, as rules for rewriting.
-/
import Derived.Test.YtenncnbaoejekaaChecked
import Derived.Test.YtenncnbaoejekaaSl
import Derived.Test.YtenncnbaoejekaaSc
import Derived.Test.YtenncnbaoejekaaMid
namespace Go.Proofs.Ytenncnbaoejekaa
open Go.RowKit Ev
-- lintel/lintellaw4.PmemPlays
@[simp] theorem nt3 : Try.f3.ntmps = 218 := rfl
@[simp] theorem rs3 : Try.f3.results.toList = [.tmp 4] := rfl
@[simp] theorem xt3 : ext? Try.prog 3 = none := by kernel_rfl
-- lintel/lintellaw4.PmemSure
@[simp] theorem nt4 : Try.f4.ntmps = 121 := rfl
@[simp] theorem rs4 : Try.f4.results.toList = [.tmp 6] := rfl
@[simp] theorem xt4 : ext? Try.prog 4 = none := by kernel_rfl
-- lintel/lintellaw4.PmemFuse
@[simp] theorem nt5 : Try.f5.ntmps = 144 := rfl
@[simp] theorem rs5 : Try.f5.results.toList = [.tmp 6] := rfl
@[simp] theorem xt5 : ext? Try.prog 5 = none := by kernel_rfl
-- lintel/lintellaw4.PmemAtom
@[simp] theorem nt6 : Try.f6.ntmps = 112 := rfl
@[simp] theorem rs6 : Try.f6.results.toList = [.tmp 4] := rfl
@[simp] theorem xt6 : ext? Try.prog 6 = none := by kernel_rfl
-- lintel/lintellaw4.awake
@[simp] theorem nt23 : Try.f23.ntmps = 66 := rfl
@[simp] theorem rs23 : Try.f23.results.toList = [.tmp 0] := rfl
@[simp] theorem xt23 : ext? Try.prog 23 = none := by kernel_rfl
-- lintel/pmem.New
@[simp] theorem nt24 : Try.f24.ntmps = 16 := rfl
@[simp] theorem rs24 : Try.f24.results.toList = [.tmp 2, .tmp 3] := rfl
@[simp] theorem xt24 : ext? Try.prog 24 = none := by kernel_rfl
-- lintel/lintelref1.NewMem
@[simp] theorem nt25 : Try.f25.ntmps = 30 := rfl
@[simp] theorem rs25 : Try.f25.results.toList = [.tmp 2] := rfl
@[simp] theorem xt25 : ext? Try.prog 25 = none := by kernel_rfl
-- (*lintel/pmem.Mem).Store
@[simp] theorem nt26 : Try.f26.ntmps = 33 := rfl
@[simp] theorem rs26 : Try.f26.results.toList = [.tmp 6] := rfl
@[simp] theorem xt26 : ext? Try.prog 26 = none := by kernel_rfl
-- (*lintel/lintelref1.Mem).Store
@[simp] theorem nt27 : Try.f27.ntmps = 44 := rfl
@[simp] theorem rs27 : Try.f27.results.toList = [.tmp 6] := rfl
@[simp] theorem xt27 : ext? Try.prog 27 = none := by kernel_rfl
-- (*lintel/pmem.Mem).Flush
@[simp] theorem nt28 : Try.f28.ntmps = 55 := rfl
@[simp] theorem rs28 : Try.f28.results.toList = [.tmp 4] := rfl
@[simp] theorem xt28 : ext? Try.prog 28 = none := by kernel_rfl
-- (*lintel/lintelref1.Mem).Flush
@[simp] theorem nt29 : Try.f29.ntmps = 60 := rfl
@[simp] theorem rs29 : Try.f29.results.toList = [.tmp 4] := rfl
@[simp] theorem xt29 : ext? Try.prog 29 = none := by kernel_rfl
-- (*lintel/pmem.Mem).Fence
@[simp] theorem nt30 : Try.f30.ntmps = 32 := rfl
@[simp] theorem rs30 : Try.f30.results.toList = [.tmp 2] := rfl
@[simp] theorem xt30 : ext? Try.prog 30 = none := by kernel_rfl
-- (*lintel/lintelref1.Mem).Fence
@[simp] theorem nt31 : Try.f31.ntmps = 36 := rfl
@[simp] theorem rs31 : Try.f31.results.toList = [.tmp 2] := rfl
@[simp] theorem xt31 : ext? Try.prog 31 = none := by kernel_rfl
-- (*lintel/pmem.Mem).Crash
@[simp] theorem nt32 : Try.f32.ntmps = 47 := rfl
@[simp] theorem rs32 : Try.f32.results.toList = [] := rfl
@[simp] theorem xt32 : ext? Try.prog 32 = none := by kernel_rfl
-- (*lintel/lintelref1.Mem).Crash
@[simp] theorem nt33 : Try.f33.ntmps = 54 := rfl
@[simp] theorem rs33 : Try.f33.results.toList = [] := rfl
@[simp] theorem xt33 : ext? Try.prog 33 = none := by kernel_rfl
-- (*lintel/pmem.Mem).On
@[simp] theorem nt34 : Try.f34.ntmps = 5 := rfl
@[simp] theorem rs34 : Try.f34.results.toList = [] := rfl
@[simp] theorem xt34 : ext? Try.prog 34 = none := by kernel_rfl
-- (*lintel/lintelref1.Mem).On
@[simp] theorem nt35 : Try.f35.ntmps = 5 := rfl
@[simp] theorem rs35 : Try.f35.results.toList = [] := rfl
@[simp] theorem xt35 : ext? Try.prog 35 = none := by kernel_rfl
-- (*lintel/pmem.Mem).Fuse
@[simp] theorem nt36 : Try.f36.ntmps = 19 := rfl
@[simp] theorem rs36 : Try.f36.results.toList = [] := rfl
@[simp] theorem xt36 : ext? Try.prog 36 = none := by kernel_rfl
-- (*lintel/lintelref1.Mem).Fuse
@[simp] theorem nt37 : Try.f37.ntmps = 21 := rfl
@[simp] theorem rs37 : Try.f37.results.toList = [] := rfl
@[simp] theorem xt37 : ext? Try.prog 37 = none := by kernel_rfl
-- (*lintel/pmem.Mem).Load
@[simp] theorem nt38 : Try.f38.ntmps = 22 := rfl
@[simp] theorem rs38 : Try.f38.results.toList = [.tmp 4, .tmp 5] := rfl
@[simp] theorem xt38 : ext? Try.prog 38 = none := by kernel_rfl
-- (*lintel/lintelref1.Mem).Load
@[simp] theorem nt39 : Try.f39.ntmps = 33 := rfl
@[simp] theorem rs39 : Try.f39.results.toList = [.tmp 4, .tmp 5] := rfl
@[simp] theorem xt39 : ext? Try.prog 39 = none := by kernel_rfl
-- (*lintel/pmem.Mem).Count
@[simp] theorem nt40 : Try.f40.ntmps = 17 := rfl
@[simp] theorem rs40 : Try.f40.results.toList = [.tmp 2, .tmp 3, .tmp 4] := rfl
@[simp] theorem xt40 : ext? Try.prog 40 = none := by kernel_rfl
-- (*lintel/pmem.Mem).Off
@[simp] theorem nt41 : Try.f41.ntmps = 7 := rfl
@[simp] theorem rs41 : Try.f41.results.toList = [.tmp 2] := rfl
@[simp] theorem xt41 : ext? Try.prog 41 = none := by kernel_rfl
-- lintel/lintellaw4.same
@[simp] theorem nt42 : Try.f42.ntmps = 26 := rfl
@[simp] theorem rs42 : Try.f42.results.toList = [.tmp 4] := rfl
@[simp] theorem xt42 : ext? Try.prog 42 = none := by kernel_rfl
-- (*lintel/pmem.Mem).Words
@[simp] theorem nt43 : Try.f43.ntmps = 35 := rfl
@[simp] theorem rs43 : Try.f43.results.toList = [.tmp 2] := rfl
@[simp] theorem xt43 : ext? Try.prog 43 = none := by kernel_rfl
-- (*lintel/lintelref1.Mem).Words
@[simp] theorem nt44 : Try.f44.ntmps = 32 := rfl
@[simp] theorem rs44 : Try.f44.results.toList = [.tmp 2] := rfl
@[simp] theorem xt44 : ext? Try.prog 44 = none := by kernel_rfl
-- (*lintel/pmem.Mem).Lines
@[simp] theorem nt45 : Try.f45.ntmps = 8 := rfl
@[simp] theorem rs45 : Try.f45.results.toList = [.tmp 2] := rfl
@[simp] theorem xt45 : ext? Try.prog 45 = none := by kernel_rfl
-- lintel/pmem.From
@[simp] theorem nt47 : Try.f47.ntmps = 48 := rfl
@[simp] theorem rs47 : Try.f47.results.toList = [.tmp 2, .tmp 3] := rfl
@[simp] theorem xt47 : ext? Try.prog 47 = none := by kernel_rfl
-- lintel/lintelref1.NewLine
@[simp] theorem nt105 : Try.f105.ntmps = 29 := rfl
@[simp] theorem rs105 : Try.f105.results.toList = [.tmp 2] := rfl
@[simp] theorem xt105 : ext? Try.prog 105 = none := by kernel_rfl
-- (*lintel/pmem.Mem).word
@[simp] theorem nt106 : Try.f106.ntmps = 33 := rfl
@[simp] theorem rs106 : Try.f106.results.toList = [.tmp 4, .tmp 5, .tmp 6] := rfl
@[simp] theorem xt106 : ext? Try.prog 106 = none := by kernel_rfl
-- (*lintel/pmem.Mem).burns
@[simp] theorem nt107 : Try.f107.ntmps = 26 := rfl
@[simp] theorem rs107 : Try.f107.results.toList = [.tmp 2] := rfl
@[simp] theorem xt107 : ext? Try.prog 107 = none := by kernel_rfl
-- (*lintel/line.Line).Store
@[simp] theorem nt108 : Try.f108.ntmps = 28 := rfl
@[simp] theorem rs108 : Try.f108.results.toList = [.tmp 6] := rfl
@[simp] theorem xt108 : ext? Try.prog 108 = none := by kernel_rfl
-- (*lintel/lintelref1.Mem).blown
@[simp] theorem nt109 : Try.f109.ntmps = 26 := rfl
@[simp] theorem rs109 : Try.f109.results.toList = [.tmp 2] := rfl
@[simp] theorem xt109 : ext? Try.prog 109 = none := by kernel_rfl
-- (*lintel/lintelref1.Line).Store
@[simp] theorem nt110 : Try.f110.ntmps = 27 := rfl
@[simp] theorem rs110 : Try.f110.results.toList = [.tmp 6] := rfl
@[simp] theorem xt110 : ext? Try.prog 110 = none := by kernel_rfl
-- (*lintel/line.Line).Flush
@[simp] theorem nt111 : Try.f111.ntmps = 10 := rfl
@[simp] theorem rs111 : Try.f111.results.toList = [] := rfl
@[simp] theorem xt111 : ext? Try.prog 111 = none := by kernel_rfl
-- (*lintel/lintelref1.Line).Flush
@[simp] theorem nt112 : Try.f112.ntmps = 37 := rfl
@[simp] theorem rs112 : Try.f112.results.toList = [] := rfl
@[simp] theorem xt112 : ext? Try.prog 112 = none := by kernel_rfl
-- (*lintel/line.Line).Fence
@[simp] theorem nt113 : Try.f113.ntmps = 29 := rfl
@[simp] theorem rs113 : Try.f113.results.toList = [] := rfl
@[simp] theorem xt113 : ext? Try.prog 113 = none := by kernel_rfl
-- (*lintel/lintelref1.Line).Fence
@[simp] theorem nt114 : Try.f114.ntmps = 34 := rfl
@[simp] theorem rs114 : Try.f114.results.toList = [] := rfl
@[simp] theorem xt114 : ext? Try.prog 114 = none := by kernel_rfl
-- (*lintel/line.Line).Open
@[simp] theorem nt115 : Try.f115.ntmps = 8 := rfl
@[simp] theorem rs115 : Try.f115.results.toList = [.tmp 2] := rfl
@[simp] theorem xt115 : ext? Try.prog 115 = none := by kernel_rfl
-- (*lintel/line.Line).Fall
@[simp] theorem nt116 : Try.f116.ntmps = 27 := rfl
@[simp] theorem rs116 : Try.f116.results.toList = [] := rfl
@[simp] theorem xt116 : ext? Try.prog 116 = none := by kernel_rfl
-- (*lintel/lintelref1.Line).Open
@[simp] theorem nt117 : Try.f117.ntmps = 8 := rfl
@[simp] theorem rs117 : Try.f117.results.toList = [.tmp 2] := rfl
@[simp] theorem xt117 : ext? Try.prog 117 = none := by kernel_rfl
-- (*lintel/lintelref1.Line).Fall
@[simp] theorem nt118 : Try.f118.ntmps = 10 := rfl
@[simp] theorem rs118 : Try.f118.results.toList = [] := rfl
@[simp] theorem xt118 : ext? Try.prog 118 = none := by kernel_rfl
-- (*lintel/line.Line).Load
@[simp] theorem nt119 : Try.f119.ntmps = 14 := rfl
@[simp] theorem rs119 : Try.f119.results.toList = [.tmp 4] := rfl
@[simp] theorem xt119 : ext? Try.prog 119 = none := by kernel_rfl
-- (*lintel/lintelref1.Line).Load
@[simp] theorem nt120 : Try.f120.ntmps = 48 := rfl
@[simp] theorem rs120 : Try.f120.results.toList = [.tmp 4] := rfl
@[simp] theorem xt120 : ext? Try.prog 120 = none := by kernel_rfl
-- lintel/line.New
@[simp] theorem nt121 : Try.f121.ntmps = 20 := rfl
@[simp] theorem rs121 : Try.f121.results.toList = [.tmp 2] := rfl
@[simp] theorem xt121 : ext? Try.prog 121 = none := by kernel_rfl
-- lintel/line.there
@[simp] theorem nt161 : Try.f161.ntmps = 9 := rfl
@[simp] theorem rs161 : Try.f161.results.toList = [.tmp 2] := rfl
@[simp] theorem xt161 : ext? Try.prog 161 = none := by kernel_rfl
-- (*lintel/line.Line).settle
@[simp] theorem nt162 : Try.f162.ntmps = 26 := rfl
@[simp] theorem rs162 : Try.f162.results.toList = [] := rfl
@[simp] theorem xt162 : ext? Try.prog 162 = none := by kernel_rfl
-- (*lintel/lintelref1.Line).settle
@[simp] theorem nt163 : Try.f163.ntmps = 48 := rfl
@[simp] theorem rs163 : Try.f163.results.toList = [] := rfl
@[simp] theorem xt163 : ext? Try.prog 163 = none := by kernel_rfl
@[simp] theorem ag2 : agg? Try.prog 2 = some false := by kernel_rfl
@[simp] theorem sz2 {β : Type} (k : Nat → Option β) : szOf Try.prog 2 k = k 1 := by kernel_rfl
@[simp] theorem ze2 {β : Type} (k : List V → Option β) : zero Try.prog 2 k = k [.int .i64 0] := by kernel_rfl
theorem io2 : infoOk Try.prog 2 1 = true := by kernel_rfl
@[simp] theorem ag22 : agg? Try.prog 22 = some false := by kernel_rfl
@[simp] theorem sz22 {β : Type} (k : Nat → Option β) : szOf Try.prog 22 k = k 1 := by kernel_rfl
@[simp] theorem ze22 {β : Type} (k : List V → Option β) : zero Try.prog 22 k = k [.c (.slice none 0 0)] := by kernel_rfl
theorem io22 : infoOk Try.prog 22 1 = true := by kernel_rfl
@[simp] theorem ag24 : agg? Try.prog 24 = some false := by kernel_rfl
@[simp] theorem sz24 {β : Type} (k : Nat → Option β) : szOf Try.prog 24 k = k 1 := by kernel_rfl
@[simp] theorem ze24 {β : Type} (k : List V → Option β) : zero Try.prog 24 k = k [.c (.pointer none)] := by kernel_rfl
theorem io24 : infoOk Try.prog 24 1 = true := by kernel_rfl
@[simp] theorem ag25 : agg? Try.prog 25 = some false := by kernel_rfl
@[simp] theorem sz25 {β : Type} (k : Nat → Option β) : szOf Try.prog 25 k = k 1 := by kernel_rfl
@[simp] theorem ze25 {β : Type} (k : List V → Option β) : zero Try.prog 25 k = k [.int .i64 0] := by kernel_rfl
theorem io25 : infoOk Try.prog 25 1 = true := by kernel_rfl
@[simp] theorem ag28 : agg? Try.prog 28 = some false := by kernel_rfl
@[simp] theorem sz28 {β : Type} (k : Nat → Option β) : szOf Try.prog 28 k = k 1 := by kernel_rfl
@[simp] theorem ze28 {β : Type} (k : List V → Option β) : zero Try.prog 28 k = k [.c (.pointer none)] := by kernel_rfl
theorem io28 : infoOk Try.prog 28 1 = true := by kernel_rfl
@[simp] theorem ag32 : agg? Try.prog 32 = some false := by kernel_rfl
@[simp] theorem sz32 {β : Type} (k : Nat → Option β) : szOf Try.prog 32 k = k 1 := by kernel_rfl
@[simp] theorem ze32 {β : Type} (k : List V → Option β) : zero Try.prog 32 k = k [.c (.slice none 0 0)] := by kernel_rfl
theorem io32 : infoOk Try.prog 32 1 = true := by kernel_rfl
@[simp] theorem ag34 : agg? Try.prog 34 = some true := by kernel_rfl
@[simp] theorem sz34 {β : Type} (k : Nat → Option β) : szOf Try.prog 34 k = k 4 := by kernel_rfl
@[simp] theorem ze34 {β : Type} (k : List V → Option β) : zero Try.prog 34 k = k [.int .i64 0, .int .i64 0, .int .u64 0, .c (.slice none 0 0)] := by kernel_rfl
theorem io34 : infoOk Try.prog 34 4 = true := by kernel_rfl
@[simp] theorem ag47 : agg? Try.prog 47 = some false := by kernel_rfl
@[simp] theorem sz47 {β : Type} (k : Nat → Option β) : szOf Try.prog 47 k = k 1 := by kernel_rfl
@[simp] theorem ze47 {β : Type} (k : List V → Option β) : zero Try.prog 47 k = k [.c (.slice none 0 0)] := by kernel_rfl
theorem io47 : infoOk Try.prog 47 1 = true := by kernel_rfl
@[simp] theorem ag49 : agg? Try.prog 49 = some true := by kernel_rfl
@[simp] theorem sz49 {β : Type} (k : Nat → Option β) : szOf Try.prog 49 k = k 7 := by kernel_rfl
@[simp] theorem ze49 {β : Type} (k : List V → Option β) : zero Try.prog 49 k = k [.c (.slice none 0 0), .bool false, .int .i64 0, .c (.slice none 0 0), .int .i64 0, .int .i64 0, .int .i64 0] := by kernel_rfl
theorem io49 : infoOk Try.prog 49 7 = true := by kernel_rfl
@[simp] theorem ag54 : agg? Try.prog 54 = some true := by kernel_rfl
@[simp] theorem sz54 {β : Type} (k : Nat → Option β) : szOf Try.prog 54 k = k 32 := by kernel_rfl
@[simp] theorem ze54 {β : Type} (k : List V → Option β) : zero Try.prog 54 k = k [.bool false, .bool false, .bool false, .bool false, .bool false, .bool false, .bool false, .bool false, .bool false, .bool false, .bool false, .bool false, .bool false, .bool false, .bool false, .bool false, .bool false, .bool false, .bool false, .bool false, .bool false, .bool false, .bool false, .bool false, .bool false, .bool false, .bool false, .bool false, .bool false, .bool false, .bool false, .bool false] := by kernel_rfl
theorem io54 : infoOk Try.prog 54 32 = true := by kernel_rfl
@[simp] theorem ag158 : agg? Try.prog 158 = some false := by kernel_rfl
@[simp] theorem sz158 {β : Type} (k : Nat → Option β) : szOf Try.prog 158 k = k 1 := by kernel_rfl
@[simp] theorem ze158 {β : Type} (k : List V → Option β) : zero Try.prog 158 k = k [.c (.pointer none)] := by kernel_rfl
theorem io158 : infoOk Try.prog 158 1 = true := by kernel_rfl
@[simp] theorem ag160 : agg? Try.prog 160 = some false := by kernel_rfl
@[simp] theorem sz160 {β : Type} (k : Nat → Option β) : szOf Try.prog 160 k = k 1 := by kernel_rfl
@[simp] theorem ze160 {β : Type} (k : List V → Option β) : zero Try.prog 160 k = k [.c (.pointer none)] := by kernel_rfl
theorem io160 : infoOk Try.prog 160 1 = true := by kernel_rfl
@[simp] theorem ag164 : agg? Try.prog 164 = some false := by kernel_rfl
@[simp] theorem sz164 {β : Type} (k : Nat → Option β) : szOf Try.prog 164 k = k 1 := by kernel_rfl
@[simp] theorem ze164 {β : Type} (k : List V → Option β) : zero Try.prog 164 k = k [.c (.slice none 0 0)] := by kernel_rfl
theorem io164 : infoOk Try.prog 164 1 = true := by kernel_rfl
@[simp] theorem ag166 : agg? Try.prog 166 = some true := by kernel_rfl
@[simp] theorem sz166 {β : Type} (k : Nat → Option β) : szOf Try.prog 166 k = k 7 := by kernel_rfl
@[simp] theorem ze166 {β : Type} (k : List V → Option β) : zero Try.prog 166 k = k [.c (.slice none 0 0), .bool false, .int .i64 0, .c (.slice none 0 0), .int .i64 0, .int .i64 0, .int .i64 0] := by kernel_rfl
theorem io166 : infoOk Try.prog 166 7 = true := by kernel_rfl
@[simp] theorem ag209 : agg? Try.prog 209 = some false := by kernel_rfl
@[simp] theorem sz209 {β : Type} (k : Nat → Option β) : szOf Try.prog 209 k = k 1 := by kernel_rfl
@[simp] theorem ze209 {β : Type} (k : List V → Option β) : zero Try.prog 209 k = k [.c (.slice none 0 0)] := by kernel_rfl
theorem io209 : infoOk Try.prog 209 1 = true := by kernel_rfl
@[simp] theorem ag211 : agg? Try.prog 211 = some true := by kernel_rfl
@[simp] theorem sz211 {β : Type} (k : Nat → Option β) : szOf Try.prog 211 k = k 2 := by kernel_rfl
@[simp] theorem ze211 {β : Type} (k : List V → Option β) : zero Try.prog 211 k = k [.c (.slice none 0 0), .c (.slice none 0 0)] := by kernel_rfl
theorem io211 : infoOk Try.prog 211 2 = true := by kernel_rfl
@[simp] theorem ag213 : agg? Try.prog 213 = some true := by kernel_rfl
@[simp] theorem sz213 {β : Type} (k : Nat → Option β) : szOf Try.prog 213 k = k 8 := by kernel_rfl
@[simp] theorem ze213 {β : Type} (k : List V → Option β) : zero Try.prog 213 k = k [.int .u64 0, .int .u64 0, .int .u64 0, .int .u64 0, .int .u64 0, .int .u64 0, .int .u64 0, .int .u64 0] := by kernel_rfl
theorem io213 : infoOk Try.prog 213 8 = true := by kernel_rfl
@[simp] theorem ag214 : agg? Try.prog 214 = some false := by kernel_rfl
@[simp] theorem sz214 {β : Type} (k : Nat → Option β) : szOf Try.prog 214 k = k 1 := by kernel_rfl
@[simp] theorem ze214 {β : Type} (k : List V → Option β) : zero Try.prog 214 k = k [.c (.slice none 0 0)] := by kernel_rfl
theorem io214 : infoOk Try.prog 214 1 = true := by kernel_rfl
@[simp] theorem ag216 : agg? Try.prog 216 = some true := by kernel_rfl
@[simp] theorem sz216 {β : Type} (k : Nat → Option β) : szOf Try.prog 216 k = k 18 := by kernel_rfl
@[simp] theorem ze216 {β : Type} (k : List V → Option β) : zero Try.prog 216 k = k [.int .u64 0, .int .u64 0, .int .u64 0, .int .u64 0, .int .u64 0, .int .u64 0, .int .u64 0, .int .u64 0, .int .u64 0, .int .u64 0, .int .u64 0, .int .u64 0, .int .u64 0, .int .u64 0, .int .u64 0, .int .u64 0, .c (.slice none 0 0), .int .i64 0] := by kernel_rfl
theorem io216 : infoOk Try.prog 216 18 = true := by kernel_rfl
@[simp] theorem ag218 : agg? Try.prog 218 = some true := by kernel_rfl
@[simp] theorem sz218 {β : Type} (k : Nat → Option β) : szOf Try.prog 218 k = k 2 := by kernel_rfl
@[simp] theorem ze218 {β : Type} (k : List V → Option β) : zero Try.prog 218 k = k [.int .i64 0, .int .u64 0] := by kernel_rfl
theorem io218 : infoOk Try.prog 218 2 = true := by kernel_rfl
@[simp] theorem ag220 : agg? Try.prog 220 = some true := by kernel_rfl
@[simp] theorem sz220 {β : Type} (k : Nat → Option β) : szOf Try.prog 220 k = k 3 := by kernel_rfl
@[simp] theorem ze220 {β : Type} (k : List V → Option β) : zero Try.prog 220 k = k [.int .i64 0, .int .u64 0, .bool false] := by kernel_rfl
theorem io220 : infoOk Try.prog 220 3 = true := by kernel_rfl
@[simp] theorem un2 : Try.prog.underlying 2 = some (.int .i64) := by kernel_rfl
@[simp] theorem un22 : Try.prog.underlying 22 = some (.slice 34) := by kernel_rfl
@[simp] theorem ln22 (c : Cx) (st : St) (x : V) : builtinE Try.prog c .len [22] [x] st = lenS st x := len_slice un22 x
@[simp] theorem ix22 {β : Type} (m o len cap i : Nat) (k : V → Option β) : idxE Try.prog 22 (.sl m o len cap) i k = if i < len then k (.p m (o + i * 4)) else none := idxE_sl un22 (fun k => sz34 k) m o len cap i k
@[simp] theorem iy22 {β : Type} (m o len w i : Nat) (k : V → Option β) : idxE Try.prog 22 (.sg m o len w) i k = if i < len then k (.p m (o + i * 4)) else none := idxE_sg un22 (fun k => sz34 k) m o len w i k
@[simp] theorem el22 {β : Type} (k : TypeId → Nat → Option β) : Ev.elemOf Try.prog 22 k = k 34 4 := by kernel_rfl
@[simp] theorem un25 : Try.prog.underlying 25 = some (.int .i64) := by kernel_rfl
@[simp] theorem un32 : Try.prog.underlying 32 = some (.slice 3) := by kernel_rfl
@[simp] theorem ln32 (c : Cx) (st : St) (x : V) : builtinE Try.prog c .len [32] [x] st = lenS st x := len_slice un32 x
@[simp] theorem ix32 {β : Type} (m o len cap i : Nat) (k : V → Option β) : idxE Try.prog 32 (.sl m o len cap) i k = if i < len then k (.p m (o + i * 1)) else none := idxE_sl un32 (fun k => sz3 k) m o len cap i k
@[simp] theorem iy32 {β : Type} (m o len w i : Nat) (k : V → Option β) : idxE Try.prog 32 (.sg m o len w) i k = if i < len then k (.p m (o + i * 1)) else none := idxE_sg un32 (fun k => sz3 k) m o len w i k
@[simp] theorem el32 {β : Type} (k : TypeId → Nat → Option β) : Ev.elemOf Try.prog 32 k = k 3 1 := by kernel_rfl
@[simp] theorem bz34 (st : St) : bldK Try.prog 34 [] [] [.int .i64 0, .int .i64 0, .int .u64 0, .c (.slice none 0 0)] st = some (.g [.int .i64 0, .int .i64 0, .int .u64 0, .c (.slice none 0 0)], st) := by kernel_rfl
theorem so34 : structOk Try.prog 34 [(0, 1), (1, 1), (2, 1), (3, 1)] = true := by kernel_rfl
@[simp] theorem bl34 (x0 x1 x2 x3 : Operand) (a0 a1 a2 a3 : V) (st : St) (h0 : a0.one = true) (h1 : a1.one = true) (h2 : a2.one = true) (h3 : a3.one = true) : bldK Try.prog 34 [(0, x0), (1, x1), (2, x2), (3, x3)] [a0, a1, a2, a3] [.int .i64 0, .int .i64 0, .int .u64 0, .c (.slice none 0 0)] st = some (.g [a0, a1, a2, a3], st) := by
  rw [bldK_ok so34, partsK_one rfl h0 (by simp), partsK_one rfl h1 (by simp), partsK_one rfl h2 (by simp), partsK_one rfl h3 (by simp)]; rfl
@[simp] theorem fk34_0 (k : Nat → Nat → Res) : fieldK Try.prog 34 0 k = k 1 0 := by kernel_rfl
@[simp] theorem fk34_1 (k : Nat → Nat → Res) : fieldK Try.prog 34 1 k = k 1 1 := by kernel_rfl
@[simp] theorem fk34_2 (k : Nat → Nat → Res) : fieldK Try.prog 34 2 k = k 1 2 := by kernel_rfl
@[simp] theorem fk34_3 (k : Nat → Nat → Res) : fieldK Try.prog 34 3 k = k 1 3 := by kernel_rfl
@[simp] theorem un47 : Try.prog.underlying 47 = some (.slice 158) := by kernel_rfl
@[simp] theorem ln47 (c : Cx) (st : St) (x : V) : builtinE Try.prog c .len [47] [x] st = lenS st x := len_slice un47 x
@[simp] theorem ix47 {β : Type} (m o len cap i : Nat) (k : V → Option β) : idxE Try.prog 47 (.sl m o len cap) i k = if i < len then k (.p m (o + i * 1)) else none := idxE_sl un47 (fun k => sz158 k) m o len cap i k
@[simp] theorem iy47 {β : Type} (m o len w i : Nat) (k : V → Option β) : idxE Try.prog 47 (.sg m o len w) i k = if i < len then k (.p m (o + i * 1)) else none := idxE_sg un47 (fun k => sz158 k) m o len w i k
@[simp] theorem el47 {β : Type} (k : TypeId → Nat → Option β) : Ev.elemOf Try.prog 47 k = k 158 1 := by kernel_rfl
@[simp] theorem bz49 (st : St) : bldK Try.prog 49 [] [] [.c (.slice none 0 0), .bool false, .int .i64 0, .c (.slice none 0 0), .int .i64 0, .int .i64 0, .int .i64 0] st = some (.g [.c (.slice none 0 0), .bool false, .int .i64 0, .c (.slice none 0 0), .int .i64 0, .int .i64 0, .int .i64 0], st) := by kernel_rfl
theorem so49 : structOk Try.prog 49 [(0, 1), (1, 1), (2, 1), (3, 1), (4, 1), (5, 1), (6, 1)] = true := by kernel_rfl
@[simp] theorem bl49 (x0 x1 x2 x3 x4 x5 x6 : Operand) (a0 a1 a2 a3 a4 a5 a6 : V) (st : St) (h0 : a0.one = true) (h1 : a1.one = true) (h2 : a2.one = true) (h3 : a3.one = true) (h4 : a4.one = true) (h5 : a5.one = true) (h6 : a6.one = true) : bldK Try.prog 49 [(0, x0), (1, x1), (2, x2), (3, x3), (4, x4), (5, x5), (6, x6)] [a0, a1, a2, a3, a4, a5, a6] [.c (.slice none 0 0), .bool false, .int .i64 0, .c (.slice none 0 0), .int .i64 0, .int .i64 0, .int .i64 0] st = some (.g [a0, a1, a2, a3, a4, a5, a6], st) := by
  rw [bldK_ok so49, partsK_one rfl h0 (by simp), partsK_one rfl h1 (by simp), partsK_one rfl h2 (by simp), partsK_one rfl h3 (by simp), partsK_one rfl h4 (by simp), partsK_one rfl h5 (by simp), partsK_one rfl h6 (by simp)]; rfl
@[simp] theorem fk49_0 (k : Nat → Nat → Res) : fieldK Try.prog 49 0 k = k 1 0 := by kernel_rfl
@[simp] theorem fk49_1 (k : Nat → Nat → Res) : fieldK Try.prog 49 1 k = k 1 1 := by kernel_rfl
@[simp] theorem fk49_2 (k : Nat → Nat → Res) : fieldK Try.prog 49 2 k = k 1 2 := by kernel_rfl
@[simp] theorem fk49_3 (k : Nat → Nat → Res) : fieldK Try.prog 49 3 k = k 1 3 := by kernel_rfl
@[simp] theorem fk49_4 (k : Nat → Nat → Res) : fieldK Try.prog 49 4 k = k 1 4 := by kernel_rfl
@[simp] theorem fk49_5 (k : Nat → Nat → Res) : fieldK Try.prog 49 5 k = k 1 5 := by kernel_rfl
@[simp] theorem fk49_6 (k : Nat → Nat → Res) : fieldK Try.prog 49 6 k = k 1 6 := by kernel_rfl
@[simp] theorem un54 : Try.prog.underlying 54 = some (.array 32 4) := by kernel_rfl
@[simp] theorem ix54 {β : Type} (m o i : Nat) (k : V → Option β) : idxE Try.prog 54 (.p m o) i k = if i < 32 then k (.p m (o + i * 1)) else none := idxE_arr un54 (fun k => sz4 k) m o i k
@[simp] theorem un164 : Try.prog.underlying 164 = some (.slice 160) := by kernel_rfl
@[simp] theorem ln164 (c : Cx) (st : St) (x : V) : builtinE Try.prog c .len [164] [x] st = lenS st x := len_slice un164 x
@[simp] theorem ix164 {β : Type} (m o len cap i : Nat) (k : V → Option β) : idxE Try.prog 164 (.sl m o len cap) i k = if i < len then k (.p m (o + i * 1)) else none := idxE_sl un164 (fun k => sz160 k) m o len cap i k
@[simp] theorem iy164 {β : Type} (m o len w i : Nat) (k : V → Option β) : idxE Try.prog 164 (.sg m o len w) i k = if i < len then k (.p m (o + i * 1)) else none := idxE_sg un164 (fun k => sz160 k) m o len w i k
@[simp] theorem el164 {β : Type} (k : TypeId → Nat → Option β) : Ev.elemOf Try.prog 164 k = k 160 1 := by kernel_rfl
@[simp] theorem bz166 (st : St) : bldK Try.prog 166 [] [] [.c (.slice none 0 0), .bool false, .int .i64 0, .c (.slice none 0 0), .int .i64 0, .int .i64 0, .int .i64 0] st = some (.g [.c (.slice none 0 0), .bool false, .int .i64 0, .c (.slice none 0 0), .int .i64 0, .int .i64 0, .int .i64 0], st) := by kernel_rfl
theorem so166 : structOk Try.prog 166 [(0, 1), (1, 1), (2, 1), (3, 1), (4, 1), (5, 1), (6, 1)] = true := by kernel_rfl
@[simp] theorem bl166 (x0 x1 x2 x3 x4 x5 x6 : Operand) (a0 a1 a2 a3 a4 a5 a6 : V) (st : St) (h0 : a0.one = true) (h1 : a1.one = true) (h2 : a2.one = true) (h3 : a3.one = true) (h4 : a4.one = true) (h5 : a5.one = true) (h6 : a6.one = true) : bldK Try.prog 166 [(0, x0), (1, x1), (2, x2), (3, x3), (4, x4), (5, x5), (6, x6)] [a0, a1, a2, a3, a4, a5, a6] [.c (.slice none 0 0), .bool false, .int .i64 0, .c (.slice none 0 0), .int .i64 0, .int .i64 0, .int .i64 0] st = some (.g [a0, a1, a2, a3, a4, a5, a6], st) := by
  rw [bldK_ok so166, partsK_one rfl h0 (by simp), partsK_one rfl h1 (by simp), partsK_one rfl h2 (by simp), partsK_one rfl h3 (by simp), partsK_one rfl h4 (by simp), partsK_one rfl h5 (by simp), partsK_one rfl h6 (by simp)]; rfl
@[simp] theorem fk166_0 (k : Nat → Nat → Res) : fieldK Try.prog 166 0 k = k 1 0 := by kernel_rfl
@[simp] theorem fk166_1 (k : Nat → Nat → Res) : fieldK Try.prog 166 1 k = k 1 1 := by kernel_rfl
@[simp] theorem fk166_2 (k : Nat → Nat → Res) : fieldK Try.prog 166 2 k = k 1 2 := by kernel_rfl
@[simp] theorem fk166_3 (k : Nat → Nat → Res) : fieldK Try.prog 166 3 k = k 1 3 := by kernel_rfl
@[simp] theorem fk166_4 (k : Nat → Nat → Res) : fieldK Try.prog 166 4 k = k 1 4 := by kernel_rfl
@[simp] theorem fk166_5 (k : Nat → Nat → Res) : fieldK Try.prog 166 5 k = k 1 5 := by kernel_rfl
@[simp] theorem fk166_6 (k : Nat → Nat → Res) : fieldK Try.prog 166 6 k = k 1 6 := by kernel_rfl
@[simp] theorem un209 : Try.prog.underlying 209 = some (.slice 220) := by kernel_rfl
@[simp] theorem ln209 (c : Cx) (st : St) (x : V) : builtinE Try.prog c .len [209] [x] st = lenS st x := len_slice un209 x
@[simp] theorem ix209 {β : Type} (m o len cap i : Nat) (k : V → Option β) : idxE Try.prog 209 (.sl m o len cap) i k = if i < len then k (.p m (o + i * 3)) else none := idxE_sl un209 (fun k => sz220 k) m o len cap i k
@[simp] theorem iy209 {β : Type} (m o len w i : Nat) (k : V → Option β) : idxE Try.prog 209 (.sg m o len w) i k = if i < len then k (.p m (o + i * 3)) else none := idxE_sg un209 (fun k => sz220 k) m o len w i k
@[simp] theorem el209 {β : Type} (k : TypeId → Nat → Option β) : Ev.elemOf Try.prog 209 k = k 220 3 := by kernel_rfl
@[simp] theorem bz211 (st : St) : bldK Try.prog 211 [] [] [.c (.slice none 0 0), .c (.slice none 0 0)] st = some (.g [.c (.slice none 0 0), .c (.slice none 0 0)], st) := by kernel_rfl
theorem so211 : structOk Try.prog 211 [(0, 1), (1, 1)] = true := by kernel_rfl
@[simp] theorem bl211 (x0 x1 : Operand) (a0 a1 : V) (st : St) (h0 : a0.one = true) (h1 : a1.one = true) : bldK Try.prog 211 [(0, x0), (1, x1)] [a0, a1] [.c (.slice none 0 0), .c (.slice none 0 0)] st = some (.g [a0, a1], st) := by
  rw [bldK_ok so211, partsK_one rfl h0 (by simp), partsK_one rfl h1 (by simp)]; rfl
@[simp] theorem fk211_0 (k : Nat → Nat → Res) : fieldK Try.prog 211 0 k = k 1 0 := by kernel_rfl
@[simp] theorem fk211_1 (k : Nat → Nat → Res) : fieldK Try.prog 211 1 k = k 1 1 := by kernel_rfl
@[simp] theorem un213 : Try.prog.underlying 213 = some (.array 8 31) := by kernel_rfl
@[simp] theorem ix213 {β : Type} (m o i : Nat) (k : V → Option β) : idxE Try.prog 213 (.p m o) i k = if i < 8 then k (.p m (o + i * 1)) else none := idxE_arr un213 (fun k => sz31 k) m o i k
@[simp] theorem un214 : Try.prog.underlying 214 = some (.slice 218) := by kernel_rfl
@[simp] theorem ln214 (c : Cx) (st : St) (x : V) : builtinE Try.prog c .len [214] [x] st = lenS st x := len_slice un214 x
@[simp] theorem ix214 {β : Type} (m o len cap i : Nat) (k : V → Option β) : idxE Try.prog 214 (.sl m o len cap) i k = if i < len then k (.p m (o + i * 2)) else none := idxE_sl un214 (fun k => sz218 k) m o len cap i k
@[simp] theorem iy214 {β : Type} (m o len w i : Nat) (k : V → Option β) : idxE Try.prog 214 (.sg m o len w) i k = if i < len then k (.p m (o + i * 2)) else none := idxE_sg un214 (fun k => sz218 k) m o len w i k
@[simp] theorem el214 {β : Type} (k : TypeId → Nat → Option β) : Ev.elemOf Try.prog 214 k = k 218 2 := by kernel_rfl
@[simp] theorem bz216 (st : St) : bldK Try.prog 216 [] [] [.int .u64 0, .int .u64 0, .int .u64 0, .int .u64 0, .int .u64 0, .int .u64 0, .int .u64 0, .int .u64 0, .int .u64 0, .int .u64 0, .int .u64 0, .int .u64 0, .int .u64 0, .int .u64 0, .int .u64 0, .int .u64 0, .c (.slice none 0 0), .int .i64 0] st = some (.g [.int .u64 0, .int .u64 0, .int .u64 0, .int .u64 0, .int .u64 0, .int .u64 0, .int .u64 0, .int .u64 0, .int .u64 0, .int .u64 0, .int .u64 0, .int .u64 0, .int .u64 0, .int .u64 0, .int .u64 0, .int .u64 0, .c (.slice none 0 0), .int .i64 0], st) := by kernel_rfl
theorem so216 : structOk Try.prog 216 [(0, 8), (8, 8), (16, 1), (17, 1)] = true := by kernel_rfl
@[simp] theorem fk216_0 (k : Nat → Nat → Res) : fieldK Try.prog 216 0 k = k 8 0 := by kernel_rfl
@[simp] theorem fk216_1 (k : Nat → Nat → Res) : fieldK Try.prog 216 1 k = k 8 8 := by kernel_rfl
@[simp] theorem fk216_2 (k : Nat → Nat → Res) : fieldK Try.prog 216 2 k = k 1 16 := by kernel_rfl
@[simp] theorem fk216_3 (k : Nat → Nat → Res) : fieldK Try.prog 216 3 k = k 1 17 := by kernel_rfl
@[simp] theorem bz218 (st : St) : bldK Try.prog 218 [] [] [.int .i64 0, .int .u64 0] st = some (.g [.int .i64 0, .int .u64 0], st) := by kernel_rfl
theorem so218 : structOk Try.prog 218 [(0, 1), (1, 1)] = true := by kernel_rfl
@[simp] theorem bl218 (x0 x1 : Operand) (a0 a1 : V) (st : St) (h0 : a0.one = true) (h1 : a1.one = true) : bldK Try.prog 218 [(0, x0), (1, x1)] [a0, a1] [.int .i64 0, .int .u64 0] st = some (.g [a0, a1], st) := by
  rw [bldK_ok so218, partsK_one rfl h0 (by simp), partsK_one rfl h1 (by simp)]; rfl
@[simp] theorem fk218_0 (k : Nat → Nat → Res) : fieldK Try.prog 218 0 k = k 1 0 := by kernel_rfl
@[simp] theorem fk218_1 (k : Nat → Nat → Res) : fieldK Try.prog 218 1 k = k 1 1 := by kernel_rfl
@[simp] theorem bz220 (st : St) : bldK Try.prog 220 [] [] [.int .i64 0, .int .u64 0, .bool false] st = some (.g [.int .i64 0, .int .u64 0, .bool false], st) := by kernel_rfl
theorem so220 : structOk Try.prog 220 [(0, 1), (1, 1), (2, 1)] = true := by kernel_rfl
@[simp] theorem bl220 (x0 x1 x2 : Operand) (a0 a1 a2 : V) (st : St) (h0 : a0.one = true) (h1 : a1.one = true) (h2 : a2.one = true) : bldK Try.prog 220 [(0, x0), (1, x1), (2, x2)] [a0, a1, a2] [.int .i64 0, .int .u64 0, .bool false] st = some (.g [a0, a1, a2], st) := by
  rw [bldK_ok so220, partsK_one rfl h0 (by simp), partsK_one rfl h1 (by simp), partsK_one rfl h2 (by simp)]; rfl
@[simp] theorem fk220_0 (k : Nat → Nat → Res) : fieldK Try.prog 220 0 k = k 1 0 := by kernel_rfl
@[simp] theorem fk220_1 (k : Nat → Nat → Res) : fieldK Try.prog 220 1 k = k 1 1 := by kernel_rfl
@[simp] theorem fk220_2 (k : Nat → Nat → Res) : fieldK Try.prog 220 2 k = k 1 2 := by kernel_rfl
end Go.Proofs.Ytenncnbaoejekaa

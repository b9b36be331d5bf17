/-
  PLAIN: what the program's own tables say, as rules for rewriting.
-/
import Derived.Test.YtlonobfpogimgaaGreatDoorChecked
import Derived.Test.YtlonobfpogimgaaGreatDoorSb
import Derived.Test.YtlonobfpogimgaaGreatDoorTyPath
namespace Go.Proofs.YtlonobfpogimgaaGreatDoor
open Go.RowKit Ev
-- lintel/check.Show
@[simp] theorem nt5 : Tryz.f5.ntmps = 28 := rfl
@[simp] theorem rs5 : Tryz.f5.results.toList = [.tmp 2] := rfl
@[simp] theorem xt5 : ext? Tryz.prog 5 = none := by kernel_rfl
-- strconv.Itoa
@[simp] theorem nt11 : Tryz.f11.ntmps = 5 := rfl
@[simp] theorem rs11 : Tryz.f11.results.toList = [.tmp 2] := rfl
@[simp] theorem xt11 : ext? Tryz.prog 11 = none := by kernel_rfl
-- strings.Join
@[simp] theorem nt12 : Tryz.f12.ntmps = 75 := rfl
@[simp] theorem rs12 : Tryz.f12.results.toList = [.tmp 4] := rfl
@[simp] theorem xt12 : ext? Tryz.prog 12 = none := by kernel_rfl
-- internal/strconv.Itoa
@[simp] theorem nt34 : Tryz.f34.ntmps = 5 := rfl
@[simp] theorem rs34 : Tryz.f34.results.toList = [.tmp 2] := rfl
@[simp] theorem xt34 : ext? Tryz.prog 34 = none := by kernel_rfl
-- (*strings.Builder).Grow
@[simp] theorem nt35 : Tryz.f35.ntmps = 25 := rfl
@[simp] theorem rs35 : Tryz.f35.results.toList = [] := rfl
@[simp] theorem xt35 : ext? Tryz.prog 35 = none := by kernel_rfl
-- (*strings.Builder).WriteString
-- (*strings.Builder).String
-- internal/strconv.FormatInt
@[simp] theorem nt69 : Tryz.f69.ntmps = 54 := rfl
@[simp] theorem rs69 : Tryz.f69.results.toList = [.tmp 4] := rfl
@[simp] theorem xt69 : ext? Tryz.prog 69 = none := by kernel_rfl
-- (*strings.Builder).copyCheck
-- (*strings.Builder).grow
@[simp] theorem nt71 : Tryz.f71.ntmps = 30 := rfl
@[simp] theorem rs71 : Tryz.f71.results.toList = [] := rfl
@[simp] theorem xt71 : ext? Tryz.prog 71 = none := by kernel_rfl
-- math/bits.Len64
@[simp] theorem nt94 : Tryz.f94.ntmps = 25 := rfl
@[simp] theorem rs94 : Tryz.f94.results.toList = [.tmp 2] := rfl
@[simp] theorem xt94 : ext? Tryz.prog 94 = none := by kernel_rfl
-- internal/strconv.small
@[simp] theorem nt96 : Tryz.f96.ntmps = 15 := rfl
@[simp] theorem rs96 : Tryz.f96.results.toList = [.tmp 2] := rfl
@[simp] theorem xt96 : ext? Tryz.prog 96 = none := by kernel_rfl
-- internal/strconv.numDigits
@[simp] theorem nt97 : Tryz.f97.ntmps = 15 := rfl
@[simp] theorem rs97 : Tryz.f97.results.toList = [.tmp 2] := rfl
@[simp] theorem xt97 : ext? Tryz.prog 97 = none := by kernel_rfl
-- internal/strconv.formatBase10
@[simp] theorem nt98 : Tryz.f98.ntmps = 167 := rfl
@[simp] theorem rs98 : Tryz.f98.results.toList = [] := rfl
@[simp] theorem xt98 : ext? Tryz.prog 98 = none := by kernel_rfl
-- internal/strconv.formatBits
@[simp] theorem nt99 : Tryz.f99.ntmps = 102 := rfl
@[simp] theorem rs99 : Tryz.f99.results.toList = [.tmp 10, .tmp 11] := rfl
@[simp] theorem xt99 : ext? Tryz.prog 99 = none := by kernel_rfl
-- internal/abi.NoEscape
-- internal/bytealg.MakeNoZero
@[simp] theorem nt101 : Tryz.f101.ntmps = 1 := rfl
@[simp] theorem rs101 : Tryz.f101.results.toList = [] := rfl
-- internal/strconv.log10Pow2
@[simp] theorem nt113 : Tryz.f113.ntmps = 6 := rfl
@[simp] theorem rs113 : Tryz.f113.results.toList = [.tmp 2] := rfl
@[simp] theorem xt113 : ext? Tryz.prog 113 = none := by kernel_rfl
-- internal/strconv.bool2[int]
@[simp] theorem nt114 : Tryz.f114.ntmps = 4 := rfl
@[simp] theorem rs114 : Tryz.f114.results.toList = [.tmp 2] := rfl
@[simp] theorem xt114 : ext? Tryz.prog 114 = none := by kernel_rfl
-- internal/strconv.isPowerOfTwo
@[simp] theorem nt115 : Tryz.f115.ntmps = 8 := rfl
@[simp] theorem rs115 : Tryz.f115.results.toList = [.tmp 2] := rfl
@[simp] theorem xt115 : ext? Tryz.prog 115 = none := by kernel_rfl
-- math/bits.TrailingZeros
@[simp] theorem nt116 : Tryz.f116.ntmps = 8 := rfl
@[simp] theorem rs116 : Tryz.f116.results.toList = [.tmp 2] := rfl
@[simp] theorem xt116 : ext? Tryz.prog 116 = none := by kernel_rfl
-- math/bits.TrailingZeros32
@[simp] theorem nt120 : Tryz.f120.ntmps = 14 := rfl
@[simp] theorem rs120 : Tryz.f120.results.toList = [.tmp 2] := rfl
@[simp] theorem xt120 : ext? Tryz.prog 120 = none := by kernel_rfl
-- math/bits.TrailingZeros64
@[simp] theorem nt121 : Tryz.f121.ntmps = 14 := rfl
@[simp] theorem rs121 : Tryz.f121.results.toList = [.tmp 2] := rfl
@[simp] theorem xt121 : ext? Tryz.prog 121 = none := by kernel_rfl
@[simp] theorem ag2 : agg? Tryz.prog 2 = some false := by kernel_rfl
@[simp] theorem sz2 {β : Type} (k : Nat → Option β) : szOf Tryz.prog 2 k = k 1 := by kernel_rfl
@[simp] theorem ze2 {β : Type} (k : List V → Option β) : zero Tryz.prog 2 k = k [.int .i64 0] := by kernel_rfl
theorem io2 : infoOk Tryz.prog 2 1 = true := by kernel_rfl
@[simp] theorem ag23 : agg? Tryz.prog 23 = some true := by kernel_rfl
@[simp] theorem sz23 {β : Type} (k : Nat → Option β) : szOf Tryz.prog 23 k = k 4 := by kernel_rfl
@[simp] theorem ze23 {β : Type} (k : List V → Option β) : zero Tryz.prog 23 k = k [.int .i64 0, .int .i64 0, .int .i64 0, .int .i64 0] := by kernel_rfl
theorem io23 : infoOk Tryz.prog 23 4 = true := by kernel_rfl
@[simp] theorem ag41 : agg? Tryz.prog 41 = some false := by kernel_rfl
@[simp] theorem sz41 {β : Type} (k : Nat → Option β) : szOf Tryz.prog 41 k = k 1 := by kernel_rfl
@[simp] theorem ze41 {β : Type} (k : List V → Option β) : zero Tryz.prog 41 k = k [.c (.slice none 0 0)] := by kernel_rfl
theorem io41 : infoOk Tryz.prog 41 1 = true := by kernel_rfl
@[simp] theorem ag47 : agg? Tryz.prog 47 = some false := by kernel_rfl
@[simp] theorem sz47 {β : Type} (k : Nat → Option β) : szOf Tryz.prog 47 k = k 1 := by kernel_rfl
@[simp] theorem ze47 {β : Type} (k : List V → Option β) : zero Tryz.prog 47 k = k [.int .u64 0] := by kernel_rfl
theorem io47 : infoOk Tryz.prog 47 1 = true := by kernel_rfl
@[simp] theorem ag94 : agg? Tryz.prog 94 = some false := by kernel_rfl
@[simp] theorem sz94 {β : Type} (k : Nat → Option β) : szOf Tryz.prog 94 k = k 1 := by kernel_rfl
@[simp] theorem ze94 {β : Type} (k : List V → Option β) : zero Tryz.prog 94 k = k [.int .u64 0] := by kernel_rfl
theorem io94 : infoOk Tryz.prog 94 1 = true := by kernel_rfl
@[simp] theorem ag149 : agg? Tryz.prog 149 = some true := by kernel_rfl
@[simp] theorem sz149 {β : Type} (k : Nat → Option β) : szOf Tryz.prog 149 k = k 24 := by kernel_rfl
@[simp] theorem ze149 {β : Type} (k : List V → Option β) : zero Tryz.prog 149 k = k [.int .u8 0, .int .u8 0, .int .u8 0, .int .u8 0, .int .u8 0, .int .u8 0, .int .u8 0, .int .u8 0, .int .u8 0, .int .u8 0, .int .u8 0, .int .u8 0, .int .u8 0, .int .u8 0, .int .u8 0, .int .u8 0, .int .u8 0, .int .u8 0, .int .u8 0, .int .u8 0, .int .u8 0, .int .u8 0, .int .u8 0, .int .u8 0] := by kernel_rfl
theorem io149 : infoOk Tryz.prog 149 24 = true := by kernel_rfl
@[simp] theorem ag167 : agg? Tryz.prog 167 = some true := by kernel_rfl
@[simp] theorem sz167 {β : Type} (k : Nat → Option β) : szOf Tryz.prog 167 k = k 20 := by kernel_rfl
@[simp] theorem ze167 {β : Type} (k : List V → Option β) : zero Tryz.prog 167 k = k [.int .u64 0, .int .u64 0, .int .u64 0, .int .u64 0, .int .u64 0, .int .u64 0, .int .u64 0, .int .u64 0, .int .u64 0, .int .u64 0, .int .u64 0, .int .u64 0, .int .u64 0, .int .u64 0, .int .u64 0, .int .u64 0, .int .u64 0, .int .u64 0, .int .u64 0, .int .u64 0] := by kernel_rfl
theorem io167 : infoOk Tryz.prog 167 20 = true := by kernel_rfl
@[simp] theorem ag168 : agg? Tryz.prog 168 = some true := by kernel_rfl
@[simp] theorem sz168 {β : Type} (k : Nat → Option β) : szOf Tryz.prog 168 k = k 65 := by kernel_rfl
@[simp] theorem ze168 {β : Type} (k : List V → Option β) : zero Tryz.prog 168 k = k [.int .u8 0, .int .u8 0, .int .u8 0, .int .u8 0, .int .u8 0, .int .u8 0, .int .u8 0, .int .u8 0, .int .u8 0, .int .u8 0, .int .u8 0, .int .u8 0, .int .u8 0, .int .u8 0, .int .u8 0, .int .u8 0, .int .u8 0, .int .u8 0, .int .u8 0, .int .u8 0, .int .u8 0, .int .u8 0, .int .u8 0, .int .u8 0, .int .u8 0, .int .u8 0, .int .u8 0, .int .u8 0, .int .u8 0, .int .u8 0, .int .u8 0, .int .u8 0, .int .u8 0, .int .u8 0, .int .u8 0, .int .u8 0, .int .u8 0, .int .u8 0, .int .u8 0, .int .u8 0, .int .u8 0, .int .u8 0, .int .u8 0, .int .u8 0, .int .u8 0, .int .u8 0, .int .u8 0, .int .u8 0, .int .u8 0, .int .u8 0, .int .u8 0, .int .u8 0, .int .u8 0, .int .u8 0, .int .u8 0, .int .u8 0, .int .u8 0, .int .u8 0, .int .u8 0, .int .u8 0, .int .u8 0, .int .u8 0, .int .u8 0, .int .u8 0, .int .u8 0] := by kernel_rfl
theorem io168 : infoOk Tryz.prog 168 65 = true := by kernel_rfl
@[simp] theorem ag174 : agg? Tryz.prog 174 = some true := by kernel_rfl
@[simp] theorem sz174 {β : Type} (k : Nat → Option β) : szOf Tryz.prog 174 k = k 32 := by kernel_rfl
@[simp] theorem ze174 {β : Type} (k : List V → Option β) : zero Tryz.prog 174 k = k [.int .u8 0, .int .u8 0, .int .u8 0, .int .u8 0, .int .u8 0, .int .u8 0, .int .u8 0, .int .u8 0, .int .u8 0, .int .u8 0, .int .u8 0, .int .u8 0, .int .u8 0, .int .u8 0, .int .u8 0, .int .u8 0, .int .u8 0, .int .u8 0, .int .u8 0, .int .u8 0, .int .u8 0, .int .u8 0, .int .u8 0, .int .u8 0, .int .u8 0, .int .u8 0, .int .u8 0, .int .u8 0, .int .u8 0, .int .u8 0, .int .u8 0, .int .u8 0] := by kernel_rfl
theorem io174 : infoOk Tryz.prog 174 32 = true := by kernel_rfl
@[simp] theorem ag175 : agg? Tryz.prog 175 = some true := by kernel_rfl
@[simp] theorem sz175 {β : Type} (k : Nat → Option β) : szOf Tryz.prog 175 k = k 64 := by kernel_rfl
@[simp] theorem ze175 {β : Type} (k : List V → Option β) : zero Tryz.prog 175 k = k [.int .u8 0, .int .u8 0, .int .u8 0, .int .u8 0, .int .u8 0, .int .u8 0, .int .u8 0, .int .u8 0, .int .u8 0, .int .u8 0, .int .u8 0, .int .u8 0, .int .u8 0, .int .u8 0, .int .u8 0, .int .u8 0, .int .u8 0, .int .u8 0, .int .u8 0, .int .u8 0, .int .u8 0, .int .u8 0, .int .u8 0, .int .u8 0, .int .u8 0, .int .u8 0, .int .u8 0, .int .u8 0, .int .u8 0, .int .u8 0, .int .u8 0, .int .u8 0, .int .u8 0, .int .u8 0, .int .u8 0, .int .u8 0, .int .u8 0, .int .u8 0, .int .u8 0, .int .u8 0, .int .u8 0, .int .u8 0, .int .u8 0, .int .u8 0, .int .u8 0, .int .u8 0, .int .u8 0, .int .u8 0, .int .u8 0, .int .u8 0, .int .u8 0, .int .u8 0, .int .u8 0, .int .u8 0, .int .u8 0, .int .u8 0, .int .u8 0, .int .u8 0, .int .u8 0, .int .u8 0, .int .u8 0, .int .u8 0, .int .u8 0, .int .u8 0] := by kernel_rfl
theorem io175 : infoOk Tryz.prog 175 64 = true := by kernel_rfl
@[simp] theorem un2 : Tryz.prog.underlying 2 = some (.int .i64) := by kernel_rfl
@[simp] theorem bz23 (st : St) : bldK Tryz.prog 23 [] [] [.int .i64 0, .int .i64 0, .int .i64 0, .int .i64 0] st = some (.g [.int .i64 0, .int .i64 0, .int .i64 0, .int .i64 0], st) := by kernel_rfl
theorem so23 : structOk Tryz.prog 23 [(0, 1), (1, 1), (2, 1), (3, 1)] = true := by kernel_rfl
@[simp] theorem bl23 (x0 x1 x2 x3 : Operand) (a0 a1 a2 a3 : V) (st : St) (h0 : a0.one = true) (h1 : a1.one = true) (h2 : a2.one = true) (h3 : a3.one = true) : bldK Tryz.prog 23 [(0, x0), (1, x1), (2, x2), (3, x3)] [a0, a1, a2, a3] [.int .i64 0, .int .i64 0, .int .i64 0, .int .i64 0] st = some (.g [a0, a1, a2, a3], st) := by
  rw [bldK_ok so23, partsK_one rfl h0 (by simp), partsK_one rfl h1 (by simp), partsK_one rfl h2 (by simp), partsK_one rfl h3 (by simp)]; rfl
@[simp] theorem fk23_0 (k : Nat → Nat → Res) : fieldK Tryz.prog 23 0 k = k 1 0 := by kernel_rfl
@[simp] theorem fk23_1 (k : Nat → Nat → Res) : fieldK Tryz.prog 23 1 k = k 1 1 := by kernel_rfl
@[simp] theorem fk23_2 (k : Nat → Nat → Res) : fieldK Tryz.prog 23 2 k = k 1 2 := by kernel_rfl
@[simp] theorem fk23_3 (k : Nat → Nat → Res) : fieldK Tryz.prog 23 3 k = k 1 3 := by kernel_rfl
@[simp] theorem un41 : Tryz.prog.underlying 41 = some (.slice 3) := by kernel_rfl
@[simp] theorem ln41 (c : Cx) (st : St) (x : V) : builtinE Tryz.prog c .len [41] [x] st = lenS st x := len_slice un41 x
@[simp] theorem ix41 {β : Type} (m o len cap i : Nat) (k : V → Option β) : idxE Tryz.prog 41 (.sl m o len cap) i k = if i < len then k (.p m (o + i * 1)) else none := idxE_sl un41 (fun k => sz3 k) m o len cap i k
@[simp] theorem iy41 {β : Type} (m o len w i : Nat) (k : V → Option β) : idxE Tryz.prog 41 (.sg m o len w) i k = if i < len then k (.p m (o + i * 1)) else none := idxE_sg un41 (fun k => sz3 k) m o len w i k
@[simp] theorem el41 {β : Type} (k : TypeId → Nat → Option β) : Ev.elemOf Tryz.prog 41 k = k 3 1 := by kernel_rfl
@[simp] theorem un47 : Tryz.prog.underlying 47 = some (.int .u64) := by kernel_rfl
@[simp] theorem un94 : Tryz.prog.underlying 94 = some (.int .u64) := by kernel_rfl
@[simp] theorem un149 : Tryz.prog.underlying 149 = some (.array 24 5) := by kernel_rfl
@[simp] theorem ix149 {β : Type} (m o i : Nat) (k : V → Option β) : idxE Tryz.prog 149 (.p m o) i k = if i < 24 then k (.p m (o + i * 1)) else none := idxE_arr un149 (fun k => sz5 k) m o i k
@[simp] theorem un167 : Tryz.prog.underlying 167 = some (.array 20 47) := by kernel_rfl
@[simp] theorem ix167 {β : Type} (m o i : Nat) (k : V → Option β) : idxE Tryz.prog 167 (.p m o) i k = if i < 20 then k (.p m (o + i * 1)) else none := idxE_arr un167 (fun k => sz47 k) m o i k
@[simp] theorem un168 : Tryz.prog.underlying 168 = some (.array 65 5) := by kernel_rfl
@[simp] theorem ix168 {β : Type} (m o i : Nat) (k : V → Option β) : idxE Tryz.prog 168 (.p m o) i k = if i < 65 then k (.p m (o + i * 1)) else none := idxE_arr un168 (fun k => sz5 k) m o i k
@[simp] theorem un174 : Tryz.prog.underlying 174 = some (.array 32 5) := by kernel_rfl
@[simp] theorem ix174 {β : Type} (m o i : Nat) (k : V → Option β) : idxE Tryz.prog 174 (.p m o) i k = if i < 32 then k (.p m (o + i * 1)) else none := idxE_arr un174 (fun k => sz5 k) m o i k
@[simp] theorem un175 : Tryz.prog.underlying 175 = some (.array 64 5) := by kernel_rfl
@[simp] theorem ix175 {β : Type} (m o i : Nat) (k : V → Option β) : idxE Tryz.prog 175 (.p m o) i k = if i < 64 then k (.p m (o + i * 1)) else none := idxE_arr un175 (fun k => sz5 k) m o i k
end Go.Proofs.YtlonobfpogimgaaGreatDoor

/-
  PLAIN: what the program's own tables say, as rules for rewriting.
-/
import Derived.Test.YtdoennkmcloalaaDoorChecked
import Derived.Test.YtdoennkmcloalaaDoorSb
namespace Go.Proofs.YtdoennkmcloalaaDoor
open Go.RowKit Ev
-- lintel/lintellaw16.PathSays
@[simp] theorem nt4 : Tryd.f4.ntmps = 91 := rfl
@[simp] theorem rs4 : Tryd.f4.results.toList = [.tmp 4] := rfl
@[simp] theorem xt4 : ext? Tryd.prog 4 = none := by kernel_rfl
-- lintel/lintellaw16.PathCleans
@[simp] theorem nt5 : Tryd.f5.ntmps = 78 := rfl
@[simp] theorem rs5 : Tryd.f5.results.toList = [.tmp 2] := rfl
@[simp] theorem xt5 : ext? Tryd.prog 5 = none := by kernel_rfl
-- lintel/lintellaw16.PathParts
@[simp] theorem nt6 : Tryd.f6.ntmps = 81 := rfl
@[simp] theorem rs6 : Tryd.f6.results.toList = [.tmp 2] := rfl
@[simp] theorem xt6 : ext? Tryd.prog 6 = none := by kernel_rfl
-- lintel/lintellaw16.PathDots
@[simp] theorem nt7 : Tryd.f7.ntmps = 96 := rfl
@[simp] theorem rs7 : Tryd.f7.results.toList = [.tmp 6] := rfl
@[simp] theorem xt7 : ext? Tryd.prog 7 = none := by kernel_rfl
-- lintel/lintellaw16.awake
@[simp] theorem nt8 : Tryd.f8.ntmps = 26 := rfl
@[simp] theorem rs8 : Tryd.f8.results.toList = [.tmp 0] := rfl
@[simp] theorem xt8 : ext? Tryd.prog 8 = none := by kernel_rfl
-- lintel/path.Split
@[simp] theorem nt9 : Tryd.f9.ntmps = 38 := rfl
@[simp] theorem rs9 : Tryd.f9.results.toList = [.tmp 2, .tmp 3] := rfl
@[simp] theorem xt9 : ext? Tryd.prog 9 = none := by kernel_rfl
-- lintel/path.Last
@[simp] theorem nt10 : Tryd.f10.ntmps = 43 := rfl
@[simp] theorem rs10 : Tryd.f10.results.toList = [.tmp 2, .tmp 3, .tmp 4] := rfl
@[simp] theorem xt10 : ext? Tryd.prog 10 = none := by kernel_rfl
-- lintel/lintellaw16.texts
@[simp] theorem nt11 : Tryd.f11.ntmps = 26 := rfl
@[simp] theorem rs11 : Tryd.f11.results.toList = [.tmp 4] := rfl
@[simp] theorem xt11 : ext? Tryd.prog 11 = none := by kernel_rfl
-- lintel/path.Clean
@[simp] theorem nt12 : Tryd.f12.ntmps = 43 := rfl
@[simp] theorem rs12 : Tryd.f12.results.toList = [.tmp 2] := rfl
@[simp] theorem xt12 : ext? Tryd.prog 12 = none := by kernel_rfl
-- lintel/path.Join
@[simp] theorem nt13 : Tryd.f13.ntmps = 17 := rfl
@[simp] theorem rs13 : Tryd.f13.results.toList = [.tmp 2] := rfl
@[simp] theorem xt13 : ext? Tryd.prog 13 = none := by kernel_rfl
-- lintel/path.Name
@[simp] theorem nt14 : Tryd.f14.ntmps = 28 := rfl
@[simp] theorem rs14 : Tryd.f14.results.toList = [.tmp 2] := rfl
@[simp] theorem xt14 : ext? Tryd.prog 14 = none := by kernel_rfl
-- lintel/lintelref16.Split
@[simp] theorem nt15 : Tryd.f15.ntmps = 45 := rfl
@[simp] theorem rs15 : Tryd.f15.results.toList = [.tmp 2, .tmp 3] := rfl
@[simp] theorem xt15 : ext? Tryd.prog 15 = none := by kernel_rfl
-- lintel/lintelref16.Last
@[simp] theorem nt16 : Tryd.f16.ntmps = 54 := rfl
@[simp] theorem rs16 : Tryd.f16.results.toList = [.tmp 2, .tmp 3, .tmp 4] := rfl
@[simp] theorem xt16 : ext? Tryd.prog 16 = none := by kernel_rfl
-- lintel/lintelref6.Name
@[simp] theorem nt17 : Tryd.f17.ntmps = 36 := rfl
@[simp] theorem rs17 : Tryd.f17.results.toList = [.tmp 2] := rfl
@[simp] theorem xt17 : ext? Tryd.prog 17 = none := by kernel_rfl
-- lintel/lintelref16.Join
@[simp] theorem nt18 : Tryd.f18.ntmps = 19 := rfl
@[simp] theorem rs18 : Tryd.f18.results.toList = [.tmp 2] := rfl
@[simp] theorem xt18 : ext? Tryd.prog 18 = none := by kernel_rfl
-- lintel/lintelref16.Clean
@[simp] theorem nt19 : Tryd.f19.ntmps = 47 := rfl
@[simp] theorem rs19 : Tryd.f19.results.toList = [.tmp 2] := rfl
@[simp] theorem xt19 : ext? Tryd.prog 19 = none := by kernel_rfl
-- strings.Split
@[simp] theorem nt20 : Tryd.f20.ntmps = 8 := rfl
@[simp] theorem rs20 : Tryd.f20.results.toList = [.tmp 4] := rfl
@[simp] theorem xt20 : ext? Tryd.prog 20 = none := by kernel_rfl
-- strings.Contains
@[simp] theorem nt21 : Tryd.f21.ntmps = 9 := rfl
@[simp] theorem rs21 : Tryd.f21.results.toList = [.tmp 4] := rfl
@[simp] theorem xt21 : ext? Tryd.prog 21 = none := by kernel_rfl
-- strings.HasSuffix
@[simp] theorem nt22 : Tryd.f22.ntmps = 8 := rfl
@[simp] theorem rs22 : Tryd.f22.results.toList = [.tmp 4] := rfl
@[simp] theorem xt22 : ext? Tryd.prog 22 = none := by kernel_rfl
-- (*strings.Builder).WriteString
@[simp] theorem nt23 : Tryd.f23.ntmps = 19 := rfl
@[simp] theorem rs23 : Tryd.f23.results.toList = [.tmp 4, .tmp 5] := rfl
@[simp] theorem xt23 : ext? Tryd.prog 23 = none := by kernel_rfl
-- (*strings.Builder).String
@[simp] theorem nt24 : Tryd.f24.ntmps = 14 := rfl
@[simp] theorem rs24 : Tryd.f24.results.toList = [.tmp 2] := rfl
@[simp] theorem xt24 : ext? Tryd.prog 24 = none := by kernel_rfl
-- lintel/lintelref16.cut
@[simp] theorem nt25 : Tryd.f25.ntmps = 37 := rfl
@[simp] theorem rs25 : Tryd.f25.results.toList = [.tmp 2] := rfl
@[simp] theorem xt25 : ext? Tryd.prog 25 = none := by kernel_rfl
-- lintel/lintelref16.bad
@[simp] theorem nt26 : Tryd.f26.ntmps = 17 := rfl
@[simp] theorem rs26 : Tryd.f26.results.toList = [.tmp 2] := rfl
@[simp] theorem xt26 : ext? Tryd.prog 26 = none := by kernel_rfl
-- strings.genSplit
@[simp] theorem nt27 : Tryd.f27.ntmps = 66 := rfl
@[simp] theorem rs27 : Tryd.f27.results.toList = [.tmp 8] := rfl
@[simp] theorem xt27 : ext? Tryd.prog 27 = none := by kernel_rfl
-- strings.Index
@[simp] theorem nt28 : Tryd.f28.ntmps = 8 := rfl
@[simp] theorem rs28 : Tryd.f28.results.toList = [.tmp 4] := rfl
@[simp] theorem xt28 : ext? Tryd.prog 28 = none := by kernel_rfl
-- internal/stringslite.HasSuffix
@[simp] theorem nt29 : Tryd.f29.ntmps = 21 := rfl
@[simp] theorem rs29 : Tryd.f29.results.toList = [.tmp 4] := rfl
@[simp] theorem xt29 : ext? Tryd.prog 29 = none := by kernel_rfl
-- (*strings.Builder).copyCheck
@[simp] theorem nt30 : Tryd.f30.ntmps = 20 := rfl
@[simp] theorem rs30 : Tryd.f30.results.toList = [] := rfl
@[simp] theorem xt30 : ext? Tryd.prog 30 = none := by kernel_rfl
-- strings.explode
@[simp] theorem nt31 : Tryd.f31.ntmps = 50 := rfl
@[simp] theorem rs31 : Tryd.f31.results.toList = [.tmp 4] := rfl
@[simp] theorem xt31 : ext? Tryd.prog 31 = none := by kernel_rfl
-- strings.Count
@[simp] theorem nt32 : Tryd.f32.ntmps = 34 := rfl
@[simp] theorem rs32 : Tryd.f32.results.toList = [.tmp 4] := rfl
@[simp] theorem xt32 : ext? Tryd.prog 32 = none := by kernel_rfl
-- internal/stringslite.Index
@[simp] theorem nt33 : Tryd.f33.ntmps = 143 := rfl
@[simp] theorem rs33 : Tryd.f33.results.toList = [.tmp 4] := rfl
@[simp] theorem xt33 : ext? Tryd.prog 33 = none := by kernel_rfl
-- internal/abi.NoEscape
@[simp] theorem nt34 : Tryd.f34.ntmps = 1 := rfl
@[simp] theorem rs34 : Tryd.f34.results.toList = [] := rfl
-- unicode/utf8.RuneCountInString
@[simp] theorem nt35 : Tryd.f35.ntmps = 10 := rfl
@[simp] theorem rs35 : Tryd.f35.results.toList = [.tmp 2] := rfl
@[simp] theorem xt35 : ext? Tryd.prog 35 = none := by kernel_rfl
-- unicode/utf8.DecodeRuneInString
@[simp] theorem nt36 : Tryd.f36.ntmps = 19 := rfl
@[simp] theorem rs36 : Tryd.f36.results.toList = [.tmp 2, .tmp 3] := rfl
@[simp] theorem xt36 : ext? Tryd.prog 36 = none := by kernel_rfl
-- internal/bytealg.CountString
@[simp] theorem nt37 : Tryd.f37.ntmps = 2 := rfl
@[simp] theorem rs37 : Tryd.f37.results.toList = [] := rfl
-- internal/stringslite.IndexByte
@[simp] theorem nt38 : Tryd.f38.ntmps = 8 := rfl
@[simp] theorem rs38 : Tryd.f38.results.toList = [.tmp 4] := rfl
@[simp] theorem xt38 : ext? Tryd.prog 38 = none := by kernel_rfl
-- internal/bytealg.IndexString
@[simp] theorem nt39 : Tryd.f39.ntmps = 2 := rfl
@[simp] theorem rs39 : Tryd.f39.results.toList = [] := rfl
-- internal/bytealg.Cutover
@[simp] theorem nt40 : Tryd.f40.ntmps = 6 := rfl
@[simp] theorem rs40 : Tryd.f40.results.toList = [.tmp 2] := rfl
@[simp] theorem xt40 : ext? Tryd.prog 40 = none := by kernel_rfl
-- internal/bytealg.IndexRabinKarp[string]
@[simp] theorem nt41 : Tryd.f41.ntmps = 81 := rfl
@[simp] theorem rs41 : Tryd.f41.results.toList = [.tmp 4] := rfl
@[simp] theorem xt41 : ext? Tryd.prog 41 = none := by kernel_rfl
-- unicode/utf8.decodeRuneInStringSlow
@[simp] theorem nt42 : Tryd.f42.ntmps = 117 := rfl
@[simp] theorem rs42 : Tryd.f42.results.toList = [.tmp 2, .tmp 3] := rfl
@[simp] theorem xt42 : ext? Tryd.prog 42 = none := by kernel_rfl
-- internal/bytealg.IndexByteString
@[simp] theorem nt43 : Tryd.f43.ntmps = 2 := rfl
@[simp] theorem rs43 : Tryd.f43.results.toList = [] := rfl
-- internal/bytealg.hashStr[string]
@[simp] theorem nt44 : Tryd.f44.ntmps = 39 := rfl
@[simp] theorem rs44 : Tryd.f44.results.toList = [.tmp 2, .tmp 3] := rfl
@[simp] theorem xt44 : ext? Tryd.prog 44 = none := by kernel_rfl
@[simp] theorem ag3 : agg? Tryd.prog 3 = some false := by kernel_rfl
@[simp] theorem sz3 {β : Type} (k : Nat → Option β) : szOf Tryd.prog 3 k = k 1 := by kernel_rfl
@[simp] theorem ze3 {β : Type} (k : List V → Option β) : zero Tryd.prog 3 k = k [.int .i64 0] := by kernel_rfl
theorem io3 : infoOk Tryd.prog 3 1 = true := by kernel_rfl
@[simp] theorem ag4 : agg? Tryd.prog 4 = some false := by kernel_rfl
@[simp] theorem sz4 {β : Type} (k : Nat → Option β) : szOf Tryd.prog 4 k = k 1 := by kernel_rfl
@[simp] theorem ze4 {β : Type} (k : List V → Option β) : zero Tryd.prog 4 k = k [.bool false] := by kernel_rfl
theorem io4 : infoOk Tryd.prog 4 1 = true := by kernel_rfl
@[simp] theorem ag5 : agg? Tryd.prog 5 = some false := by kernel_rfl
@[simp] theorem sz5 {β : Type} (k : Nat → Option β) : szOf Tryd.prog 5 k = k 1 := by kernel_rfl
@[simp] theorem ze5 {β : Type} (k : List V → Option β) : zero Tryd.prog 5 k = k [.int .u8 0] := by kernel_rfl
theorem io5 : infoOk Tryd.prog 5 1 = true := by kernel_rfl
@[simp] theorem ag9 : agg? Tryd.prog 9 = some false := by kernel_rfl
@[simp] theorem sz9 {β : Type} (k : Nat → Option β) : szOf Tryd.prog 9 k = k 1 := by kernel_rfl
@[simp] theorem ze9 {β : Type} (k : List V → Option β) : zero Tryd.prog 9 k = k [.s []] := by kernel_rfl
theorem io9 : infoOk Tryd.prog 9 1 = true := by kernel_rfl
@[simp] theorem ag21 : agg? Tryd.prog 21 = some false := by kernel_rfl
@[simp] theorem sz21 {β : Type} (k : Nat → Option β) : szOf Tryd.prog 21 k = k 1 := by kernel_rfl
@[simp] theorem ze21 {β : Type} (k : List V → Option β) : zero Tryd.prog 21 k = k [.int .i32 0] := by kernel_rfl
theorem io21 : infoOk Tryd.prog 21 1 = true := by kernel_rfl
@[simp] theorem ag23 : agg? Tryd.prog 23 = some false := by kernel_rfl
@[simp] theorem sz23 {β : Type} (k : Nat → Option β) : szOf Tryd.prog 23 k = k 1 := by kernel_rfl
@[simp] theorem ze23 {β : Type} (k : List V → Option β) : zero Tryd.prog 23 k = k [.c (.slice none 0 0)] := by kernel_rfl
theorem io23 : infoOk Tryd.prog 23 1 = true := by kernel_rfl
@[simp] theorem ag24 : agg? Tryd.prog 24 = some false := by kernel_rfl
@[simp] theorem sz24 {β : Type} (k : Nat → Option β) : szOf Tryd.prog 24 k = k 1 := by kernel_rfl
@[simp] theorem ze24 {β : Type} (k : List V → Option β) : zero Tryd.prog 24 k = k [.int .i64 0] := by kernel_rfl
theorem io24 : infoOk Tryd.prog 24 1 = true := by kernel_rfl
@[simp] theorem ag39 : agg? Tryd.prog 39 = some false := by kernel_rfl
@[simp] theorem sz39 {β : Type} (k : Nat → Option β) : szOf Tryd.prog 39 k = k 1 := by kernel_rfl
@[simp] theorem ze39 {β : Type} (k : List V → Option β) : zero Tryd.prog 39 k = k [.c (.pointer none)] := by kernel_rfl
theorem io39 : infoOk Tryd.prog 39 1 = true := by kernel_rfl
@[simp] theorem ag40 : agg? Tryd.prog 40 = some false := by kernel_rfl
@[simp] theorem sz40 {β : Type} (k : Nat → Option β) : szOf Tryd.prog 40 k = k 1 := by kernel_rfl
@[simp] theorem ze40 {β : Type} (k : List V → Option β) : zero Tryd.prog 40 k = k [.c (.slice none 0 0)] := by kernel_rfl
theorem io40 : infoOk Tryd.prog 40 1 = true := by kernel_rfl
@[simp] theorem ag42 : agg? Tryd.prog 42 = some true := by kernel_rfl
@[simp] theorem sz42 {β : Type} (k : Nat → Option β) : szOf Tryd.prog 42 k = k 2 := by kernel_rfl
@[simp] theorem ze42 {β : Type} (k : List V → Option β) : zero Tryd.prog 42 k = k [.c (.pointer none), .c (.slice none 0 0)] := by kernel_rfl
theorem io42 : infoOk Tryd.prog 42 2 = true := by kernel_rfl
@[simp] theorem ag44 : agg? Tryd.prog 44 = some false := by kernel_rfl
@[simp] theorem sz44 {β : Type} (k : Nat → Option β) : szOf Tryd.prog 44 k = k 1 := by kernel_rfl
@[simp] theorem ze44 {β : Type} (k : List V → Option β) : zero Tryd.prog 44 k = k [.c .nilIface] := by kernel_rfl
theorem io44 : infoOk Tryd.prog 44 1 = true := by kernel_rfl
@[simp] theorem ag51 : agg? Tryd.prog 51 = some false := by kernel_rfl
@[simp] theorem sz51 {β : Type} (k : Nat → Option β) : szOf Tryd.prog 51 k = k 1 := by kernel_rfl
@[simp] theorem ze51 {β : Type} (k : List V → Option β) : zero Tryd.prog 51 k = k [.c (.pointer none)] := by kernel_rfl
theorem io51 : infoOk Tryd.prog 51 1 = true := by kernel_rfl
@[simp] theorem ag53 : agg? Tryd.prog 53 = some false := by kernel_rfl
@[simp] theorem sz53 {β : Type} (k : Nat → Option β) : szOf Tryd.prog 53 k = k 1 := by kernel_rfl
@[simp] theorem ze53 {β : Type} (k : List V → Option β) : zero Tryd.prog 53 k = k [.c (.pointer none)] := by kernel_rfl
theorem io53 : infoOk Tryd.prog 53 1 = true := by kernel_rfl
@[simp] theorem ag61 : agg? Tryd.prog 61 = some false := by kernel_rfl
@[simp] theorem sz61 {β : Type} (k : Nat → Option β) : szOf Tryd.prog 61 k = k 1 := by kernel_rfl
@[simp] theorem ze61 {β : Type} (k : List V → Option β) : zero Tryd.prog 61 k = k [.int .u32 0] := by kernel_rfl
theorem io61 : infoOk Tryd.prog 61 1 = true := by kernel_rfl
@[simp] theorem ag64 : agg? Tryd.prog 64 = some true := by kernel_rfl
@[simp] theorem sz64 {β : Type} (k : Nat → Option β) : szOf Tryd.prog 64 k = k 256 := by kernel_rfl
theorem io64 : infoOk Tryd.prog 64 256 = true := by kernel_rfl
@[simp] theorem ag66 : agg? Tryd.prog 66 = some true := by kernel_rfl
@[simp] theorem sz66 {β : Type} (k : Nat → Option β) : szOf Tryd.prog 66 k = k 2 := by kernel_rfl
@[simp] theorem ze66 {β : Type} (k : List V → Option β) : zero Tryd.prog 66 k = k [.int .u8 0, .int .u8 0] := by kernel_rfl
theorem io66 : infoOk Tryd.prog 66 2 = true := by kernel_rfl
@[simp] theorem ag67 : agg? Tryd.prog 67 = some true := by kernel_rfl
@[simp] theorem sz67 {β : Type} (k : Nat → Option β) : szOf Tryd.prog 67 k = k 32 := by kernel_rfl
@[simp] theorem ze67 {β : Type} (k : List V → Option β) : zero Tryd.prog 67 k = k [.int .u8 0, .int .u8 0, .int .u8 0, .int .u8 0, .int .u8 0, .int .u8 0, .int .u8 0, .int .u8 0, .int .u8 0, .int .u8 0, .int .u8 0, .int .u8 0, .int .u8 0, .int .u8 0, .int .u8 0, .int .u8 0, .int .u8 0, .int .u8 0, .int .u8 0, .int .u8 0, .int .u8 0, .int .u8 0, .int .u8 0, .int .u8 0, .int .u8 0, .int .u8 0, .int .u8 0, .int .u8 0, .int .u8 0, .int .u8 0, .int .u8 0, .int .u8 0] := by kernel_rfl
theorem io67 : infoOk Tryd.prog 67 32 = true := by kernel_rfl
@[simp] theorem un3 : Tryd.prog.underlying 3 = some (.int .i64) := by kernel_rfl
@[simp] theorem un5 : Tryd.prog.underlying 5 = some (.int .u8) := by kernel_rfl
@[simp] theorem un9 : Tryd.prog.underlying 9 = some .string := by kernel_rfl
@[simp] theorem un21 : Tryd.prog.underlying 21 = some (.int .i32) := by kernel_rfl
@[simp] theorem un23 : Tryd.prog.underlying 23 = some (.slice 9) := by kernel_rfl
@[simp] theorem ln23 (c : Cx) (st : St) (x : V) : builtinE Tryd.prog c .len [23] [x] st = lenS st x := len_slice un23 x
@[simp] theorem ix23 {β : Type} (m o len cap i : Nat) (k : V → Option β) : idxE Tryd.prog 23 (.sl m o len cap) i k = if i < len then k (.p m (o + i * 1)) else none := idxE_sl un23 (fun k => sz9 k) m o len cap i k
@[simp] theorem iy23 {β : Type} (m o len w i : Nat) (k : V → Option β) : idxE Tryd.prog 23 (.sg m o len w) i k = if i < len then k (.p m (o + i * 1)) else none := idxE_sg un23 (fun k => sz9 k) m o len w i k
@[simp] theorem el23 {β : Type} (k : TypeId → Nat → Option β) : Ev.elemOf Tryd.prog 23 k = k 9 1 := by kernel_rfl
@[simp] theorem un24 : Tryd.prog.underlying 24 = some (.int .i64) := by kernel_rfl
@[simp] theorem un40 : Tryd.prog.underlying 40 = some (.slice 5) := by kernel_rfl
@[simp] theorem ln40 (c : Cx) (st : St) (x : V) : builtinE Tryd.prog c .len [40] [x] st = lenS st x := len_slice un40 x
@[simp] theorem ix40 {β : Type} (m o len cap i : Nat) (k : V → Option β) : idxE Tryd.prog 40 (.sl m o len cap) i k = if i < len then k (.p m (o + i * 1)) else none := idxE_sl un40 (fun k => sz5 k) m o len cap i k
@[simp] theorem iy40 {β : Type} (m o len w i : Nat) (k : V → Option β) : idxE Tryd.prog 40 (.sg m o len w) i k = if i < len then k (.p m (o + i * 1)) else none := idxE_sg un40 (fun k => sz5 k) m o len w i k
@[simp] theorem el40 {β : Type} (k : TypeId → Nat → Option β) : Ev.elemOf Tryd.prog 40 k = k 5 1 := by kernel_rfl
@[simp] theorem bz42 (st : St) : bldK Tryd.prog 42 [] [] [.c (.pointer none), .c (.slice none 0 0)] st = some (.g [.c (.pointer none), .c (.slice none 0 0)], st) := by kernel_rfl
theorem so42 : structOk Tryd.prog 42 [(0, 1), (1, 1)] = true := by kernel_rfl
@[simp] theorem bl42 (x0 x1 : Operand) (a0 a1 : V) (st : St) (h0 : a0.one = true) (h1 : a1.one = true) : bldK Tryd.prog 42 [(0, x0), (1, x1)] [a0, a1] [.c (.pointer none), .c (.slice none 0 0)] st = some (.g [a0, a1], st) := by
  rw [bldK_ok so42, partsK_one rfl h0 (by simp), partsK_one rfl h1 (by simp)]; rfl
@[simp] theorem fk42_0 (k : Nat → Nat → Res) : fieldK Tryd.prog 42 0 k = k 1 0 := by kernel_rfl
@[simp] theorem fk42_1 (k : Nat → Nat → Res) : fieldK Tryd.prog 42 1 k = k 1 1 := by kernel_rfl
@[simp] theorem un61 : Tryd.prog.underlying 61 = some (.int .u32) := by kernel_rfl
@[simp] theorem un64 : Tryd.prog.underlying 64 = some (.array 256 5) := by kernel_rfl
@[simp] theorem ix64 {β : Type} (m o i : Nat) (k : V → Option β) : idxE Tryd.prog 64 (.p m o) i k = if i < 256 then k (.p m (o + i * 1)) else none := idxE_arr un64 (fun k => sz5 k) m o i k
@[simp] theorem bz66 (st : St) : bldK Tryd.prog 66 [] [] [.int .u8 0, .int .u8 0] st = some (.g [.int .u8 0, .int .u8 0], st) := by kernel_rfl
theorem so66 : structOk Tryd.prog 66 [(0, 1), (1, 1)] = true := by kernel_rfl
@[simp] theorem bl66 (x0 x1 : Operand) (a0 a1 : V) (st : St) (h0 : a0.one = true) (h1 : a1.one = true) : bldK Tryd.prog 66 [(0, x0), (1, x1)] [a0, a1] [.int .u8 0, .int .u8 0] st = some (.g [a0, a1], st) := by
  rw [bldK_ok so66, partsK_one rfl h0 (by simp), partsK_one rfl h1 (by simp)]; rfl
@[simp] theorem fk66_0 (k : Nat → Nat → Res) : fieldK Tryd.prog 66 0 k = k 1 0 := by kernel_rfl
@[simp] theorem fk66_1 (k : Nat → Nat → Res) : fieldK Tryd.prog 66 1 k = k 1 1 := by kernel_rfl
@[simp] theorem un67 : Tryd.prog.underlying 67 = some (.array 16 66) := by kernel_rfl
@[simp] theorem ix67 {β : Type} (m o i : Nat) (k : V → Option β) : idxE Tryd.prog 67 (.p m o) i k = if i < 16 then k (.p m (o + i * 2)) else none := idxE_arr un67 (fun k => sz66 k) m o i k
end Go.Proofs.YtdoennkmcloalaaDoor

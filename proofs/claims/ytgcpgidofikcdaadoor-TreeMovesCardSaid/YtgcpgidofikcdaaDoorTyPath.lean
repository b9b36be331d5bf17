/-
  PLAIN: what the program's own tables say, as rules for rewriting.
-/
import Derived.Test.YtgcpgidofikcdaaDoorChecked
import Derived.Test.YtgcpgidofikcdaaDoorSb
namespace Go.Proofs.YtgcpgidofikcdaaDoor
open Go.RowKit Ev
-- lintel/lintellaw16.PathSays
@[simp] theorem nt55 : Tryd.f55.ntmps = 38 := rfl
@[simp] theorem rs55 : Tryd.f55.results.toList = [.tmp 2, .tmp 3] := rfl
@[simp] theorem xt55 : ext? Tryd.prog 55 = none := by kernel_rfl
-- lintel/path.Last
@[simp] theorem nt44 : Tryd.f44.ntmps = 43 := rfl
@[simp] theorem rs44 : Tryd.f44.results.toList = [.tmp 2, .tmp 3, .tmp 4] := rfl
@[simp] theorem xt44 : ext? Tryd.prog 44 = none := by kernel_rfl
-- lintel/lintellaw16.texts
@[simp] theorem nt66 : Tryd.f66.ntmps = 8 := rfl
@[simp] theorem rs66 : Tryd.f66.results.toList = [.tmp 4] := rfl
@[simp] theorem xt66 : ext? Tryd.prog 66 = none := by kernel_rfl
-- strings.Contains
@[simp] theorem nt67 : Tryd.f67.ntmps = 9 := rfl
@[simp] theorem rs67 : Tryd.f67.results.toList = [.tmp 4] := rfl
@[simp] theorem xt67 : ext? Tryd.prog 67 = none := by kernel_rfl
-- strings.HasSuffix
@[simp] theorem nt58 : Tryd.f58.ntmps = 8 := rfl
@[simp] theorem rs58 : Tryd.f58.results.toList = [.tmp 4] := rfl
@[simp] theorem xt58 : ext? Tryd.prog 58 = none := by kernel_rfl
-- (*strings.Builder).WriteString
@[simp] theorem nt73 : Tryd.f73.ntmps = 66 := rfl
@[simp] theorem rs73 : Tryd.f73.results.toList = [.tmp 8] := rfl
@[simp] theorem xt73 : ext? Tryd.prog 73 = none := by kernel_rfl
-- strings.Index
@[simp] theorem nt74 : Tryd.f74.ntmps = 8 := rfl
@[simp] theorem rs74 : Tryd.f74.results.toList = [.tmp 4] := rfl
@[simp] theorem xt74 : ext? Tryd.prog 74 = none := by kernel_rfl
-- internal/stringslite.HasSuffix
@[simp] theorem nt69 : Tryd.f69.ntmps = 21 := rfl
@[simp] theorem rs69 : Tryd.f69.results.toList = [.tmp 4] := rfl
@[simp] theorem xt69 : ext? Tryd.prog 69 = none := by kernel_rfl
-- (*strings.Builder).copyCheck
@[simp] theorem nt78 : Tryd.f78.ntmps = 50 := rfl
@[simp] theorem rs78 : Tryd.f78.results.toList = [.tmp 4] := rfl
@[simp] theorem xt78 : ext? Tryd.prog 78 = none := by kernel_rfl
-- strings.Count
@[simp] theorem nt79 : Tryd.f79.ntmps = 34 := rfl
@[simp] theorem rs79 : Tryd.f79.results.toList = [.tmp 4] := rfl
@[simp] theorem xt79 : ext? Tryd.prog 79 = none := by kernel_rfl
-- internal/stringslite.Index
@[simp] theorem nt80 : Tryd.f80.ntmps = 143 := rfl
@[simp] theorem rs80 : Tryd.f80.results.toList = [.tmp 4] := rfl
@[simp] theorem xt80 : ext? Tryd.prog 80 = none := by kernel_rfl
-- internal/abi.NoEscape
@[simp] theorem nt81 : Tryd.f81.ntmps = 10 := rfl
@[simp] theorem rs81 : Tryd.f81.results.toList = [.tmp 2] := rfl
@[simp] theorem xt81 : ext? Tryd.prog 81 = none := by kernel_rfl
-- unicode/utf8.DecodeRuneInString
@[simp] theorem nt82 : Tryd.f82.ntmps = 19 := rfl
@[simp] theorem rs82 : Tryd.f82.results.toList = [.tmp 2, .tmp 3] := rfl
@[simp] theorem xt82 : ext? Tryd.prog 82 = none := by kernel_rfl
-- internal/bytealg.CountString
@[simp] theorem nt83 : Tryd.f83.ntmps = 2 := rfl
@[simp] theorem rs83 : Tryd.f83.results.toList = [] := rfl
-- internal/stringslite.IndexByte
@[simp] theorem nt84 : Tryd.f84.ntmps = 8 := rfl
@[simp] theorem rs84 : Tryd.f84.results.toList = [.tmp 4] := rfl
@[simp] theorem xt84 : ext? Tryd.prog 84 = none := by kernel_rfl
-- internal/bytealg.IndexString
@[simp] theorem nt85 : Tryd.f85.ntmps = 2 := rfl
@[simp] theorem rs85 : Tryd.f85.results.toList = [] := rfl
-- internal/bytealg.Cutover
@[simp] theorem nt86 : Tryd.f86.ntmps = 6 := rfl
@[simp] theorem rs86 : Tryd.f86.results.toList = [.tmp 2] := rfl
@[simp] theorem xt86 : ext? Tryd.prog 86 = none := by kernel_rfl
-- internal/bytealg.IndexRabinKarp[string]
@[simp] theorem nt87 : Tryd.f87.ntmps = 81 := rfl
@[simp] theorem rs87 : Tryd.f87.results.toList = [.tmp 4] := rfl
@[simp] theorem xt87 : ext? Tryd.prog 87 = none := by kernel_rfl
-- unicode/utf8.decodeRuneInStringSlow
@[simp] theorem nt88 : Tryd.f88.ntmps = 117 := rfl
@[simp] theorem rs88 : Tryd.f88.results.toList = [.tmp 2, .tmp 3] := rfl
@[simp] theorem xt88 : ext? Tryd.prog 88 = none := by kernel_rfl
-- internal/bytealg.IndexByteString
@[simp] theorem nt89 : Tryd.f89.ntmps = 2 := rfl
@[simp] theorem rs89 : Tryd.f89.results.toList = [] := rfl
-- internal/bytealg.hashStr[string]
@[simp] theorem nt90 : Tryd.f90.ntmps = 39 := rfl
@[simp] theorem rs90 : Tryd.f90.results.toList = [.tmp 2, .tmp 3] := rfl
@[simp] theorem xt90 : ext? Tryd.prog 90 = none := by kernel_rfl
@[simp] theorem ag3 : agg? Tryd.prog 3 = some false := by kernel_rfl
@[simp] theorem sz3 {β : Type} (k : Nat → Option β) : szOf Tryd.prog 3 k = k 1 := by kernel_rfl
@[simp] theorem ze3 {β : Type} (k : List V → Option β) : zero Tryd.prog 3 k = k [.int .i64 0] := by kernel_rfl
theorem io3 : infoOk Tryd.prog 3 1 = true := by kernel_rfl
@[simp] theorem ag4 : agg? Tryd.prog 4 = some false := by kernel_rfl
@[simp] theorem sz4 {β : Type} (k : Nat → Option β) : szOf Tryd.prog 4 k = k 1 := by kernel_rfl
@[simp] theorem ze4 {β : Type} (k : List V → Option β) : zero Tryd.prog 4 k = k [.bool false] := by kernel_rfl
theorem io4 : infoOk Tryd.prog 4 1 = true := by kernel_rfl
@[simp] theorem ag5 : agg? Tryd.prog 5 = some false := by kernel_rfl
@[simp] theorem sz5 {β : Type} (k : Nat → Option β) : szOf Tryd.prog 5 k = k 1 := by kernel_rfl
@[simp] theorem ze5 {β : Type} (k : List V → Option β) : zero Tryd.prog 5 k = k [.int .u8 0] := by kernel_rfl
theorem io5 : infoOk Tryd.prog 5 1 = true := by kernel_rfl
@[simp] theorem ag9 : agg? Tryd.prog 9 = some false := by kernel_rfl
@[simp] theorem sz9 {β : Type} (k : Nat → Option β) : szOf Tryd.prog 9 k = k 1 := by kernel_rfl
@[simp] theorem ze9 {β : Type} (k : List V → Option β) : zero Tryd.prog 9 k = k [.s []] := by kernel_rfl
theorem io9 : infoOk Tryd.prog 9 1 = true := by kernel_rfl
@[simp] theorem ag21 : agg? Tryd.prog 21 = some false := by kernel_rfl
@[simp] theorem sz21 {β : Type} (k : Nat → Option β) : szOf Tryd.prog 21 k = k 1 := by kernel_rfl
@[simp] theorem ze21 {β : Type} (k : List V → Option β) : zero Tryd.prog 21 k = k [.int .i32 0] := by kernel_rfl
theorem io21 : infoOk Tryd.prog 21 1 = true := by kernel_rfl
@[simp] theorem ag32 : agg? Tryd.prog 32 = some false := by kernel_rfl
@[simp] theorem sz32 {β : Type} (k : Nat → Option β) : szOf Tryd.prog 32 k = k 1 := by kernel_rfl
@[simp] theorem ze32 {β : Type} (k : List V → Option β) : zero Tryd.prog 32 k = k [.c (.slice none 0 0)] := by kernel_rfl
theorem io32 : infoOk Tryd.prog 32 1 = true := by kernel_rfl
@[simp] theorem ag31 : agg? Tryd.prog 31 = some false := by kernel_rfl
@[simp] theorem sz31 {β : Type} (k : Nat → Option β) : szOf Tryd.prog 31 k = k 1 := by kernel_rfl
@[simp] theorem ze31 {β : Type} (k : List V → Option β) : zero Tryd.prog 31 k = k [.int .i64 0] := by kernel_rfl
theorem io31 : infoOk Tryd.prog 31 1 = true := by kernel_rfl
@[simp] theorem ag27 : agg? Tryd.prog 27 = some false := by kernel_rfl
@[simp] theorem sz27 {β : Type} (k : Nat → Option β) : szOf Tryd.prog 27 k = k 1 := by kernel_rfl
@[simp] theorem ze27 {β : Type} (k : List V → Option β) : zero Tryd.prog 27 k = k [.c (.slice none 0 0)] := by kernel_rfl
theorem io27 : infoOk Tryd.prog 27 1 = true := by kernel_rfl
@[simp] theorem ag131 : agg? Tryd.prog 131 = some false := by kernel_rfl
@[simp] theorem sz131 {β : Type} (k : Nat → Option β) : szOf Tryd.prog 131 k = k 1 := by kernel_rfl
@[simp] theorem ze131 {β : Type} (k : List V → Option β) : zero Tryd.prog 131 k = k [.c (.pointer none)] := by kernel_rfl
theorem io131 : infoOk Tryd.prog 131 1 = true := by kernel_rfl
@[simp] theorem ag136 : agg? Tryd.prog 136 = some false := by kernel_rfl
@[simp] theorem sz136 {β : Type} (k : Nat → Option β) : szOf Tryd.prog 136 k = k 1 := by kernel_rfl
@[simp] theorem ze136 {β : Type} (k : List V → Option β) : zero Tryd.prog 136 k = k [.c (.pointer none)] := by kernel_rfl
theorem io136 : infoOk Tryd.prog 136 1 = true := by kernel_rfl
@[simp] theorem ag115 : agg? Tryd.prog 115 = some false := by kernel_rfl
@[simp] theorem sz115 {β : Type} (k : Nat → Option β) : szOf Tryd.prog 115 k = k 1 := by kernel_rfl
@[simp] theorem ze115 {β : Type} (k : List V → Option β) : zero Tryd.prog 115 k = k [.int .u32 0] := by kernel_rfl
theorem io115 : infoOk Tryd.prog 115 1 = true := by kernel_rfl
@[simp] theorem ag118 : agg? Tryd.prog 118 = some true := by kernel_rfl
@[simp] theorem sz118 {β : Type} (k : Nat → Option β) : szOf Tryd.prog 118 k = k 256 := by kernel_rfl
theorem io118 : infoOk Tryd.prog 118 256 = true := by kernel_rfl
@[simp] theorem ag120 : agg? Tryd.prog 120 = some true := by kernel_rfl
@[simp] theorem sz120 {β : Type} (k : Nat → Option β) : szOf Tryd.prog 120 k = k 2 := by kernel_rfl
@[simp] theorem ze120 {β : Type} (k : List V → Option β) : zero Tryd.prog 120 k = k [.int .u8 0, .int .u8 0] := by kernel_rfl
theorem io120 : infoOk Tryd.prog 120 2 = true := by kernel_rfl
@[simp] theorem ag121 : agg? Tryd.prog 121 = some true := by kernel_rfl
@[simp] theorem sz121 {β : Type} (k : Nat → Option β) : szOf Tryd.prog 121 k = k 32 := by kernel_rfl
@[simp] theorem ze121 {β : Type} (k : List V → Option β) : zero Tryd.prog 121 k = k [.int .u8 0, .int .u8 0, .int .u8 0, .int .u8 0, .int .u8 0, .int .u8 0, .int .u8 0, .int .u8 0, .int .u8 0, .int .u8 0, .int .u8 0, .int .u8 0, .int .u8 0, .int .u8 0, .int .u8 0, .int .u8 0, .int .u8 0, .int .u8 0, .int .u8 0, .int .u8 0, .int .u8 0, .int .u8 0, .int .u8 0, .int .u8 0, .int .u8 0, .int .u8 0, .int .u8 0, .int .u8 0, .int .u8 0, .int .u8 0, .int .u8 0, .int .u8 0] := by kernel_rfl
theorem io121 : infoOk Tryd.prog 121 32 = true := by kernel_rfl
@[simp] theorem un3 : Tryd.prog.underlying 3 = some (.int .i64) := by kernel_rfl
@[simp] theorem un5 : Tryd.prog.underlying 5 = some (.int .u8) := by kernel_rfl
@[simp] theorem un9 : Tryd.prog.underlying 9 = some .string := by kernel_rfl
@[simp] theorem un21 : Tryd.prog.underlying 21 = some (.int .i32) := by kernel_rfl
@[simp] theorem un32 : Tryd.prog.underlying 32 = some (.slice 9) := by kernel_rfl
@[simp] theorem ln32 (c : Cx) (st : St) (x : V) : builtinE Tryd.prog c .len [32] [x] st = lenS st x := len_slice un32 x
@[simp] theorem ix32 {β : Type} (m o len cap i : Nat) (k : V → Option β) : idxE Tryd.prog 32 (.sl m o len cap) i k = if i < len then k (.p m (o + i * 1)) else none := idxE_sl un32 (fun k => sz9 k) m o len cap i k
@[simp] theorem iy32 {β : Type} (m o len w i : Nat) (k : V → Option β) : idxE Tryd.prog 32 (.sg m o len w) i k = if i < len then k (.p m (o + i * 1)) else none := idxE_sg un32 (fun k => sz9 k) m o len w i k
@[simp] theorem el32 {β : Type} (k : TypeId → Nat → Option β) : Ev.elemOf Tryd.prog 32 k = k 9 1 := by kernel_rfl
@[simp] theorem un31 : Tryd.prog.underlying 31 = some (.int .i64) := by kernel_rfl
@[simp] theorem un27 : Tryd.prog.underlying 27 = some (.slice 5) := by kernel_rfl
@[simp] theorem ln27 (c : Cx) (st : St) (x : V) : builtinE Tryd.prog c .len [27] [x] st = lenS st x := len_slice un27 x
@[simp] theorem ix27 {β : Type} (m o len cap i : Nat) (k : V → Option β) : idxE Tryd.prog 27 (.sl m o len cap) i k = if i < len then k (.p m (o + i * 1)) else none := idxE_sl un27 (fun k => sz5 k) m o len cap i k
@[simp] theorem iy27 {β : Type} (m o len w i : Nat) (k : V → Option β) : idxE Tryd.prog 27 (.sg m o len w) i k = if i < len then k (.p m (o + i * 1)) else none := idxE_sg un27 (fun k => sz5 k) m o len w i k
@[simp] theorem el27 {β : Type} (k : TypeId → Nat → Option β) : Ev.elemOf Tryd.prog 27 k = k 5 1 := by kernel_rfl
@[simp] theorem un115 : Tryd.prog.underlying 115 = some (.int .u32) := by kernel_rfl
@[simp] theorem un118 : Tryd.prog.underlying 118 = some (.array 256 5) := by kernel_rfl
@[simp] theorem ix118 {β : Type} (m o i : Nat) (k : V → Option β) : idxE Tryd.prog 118 (.p m o) i k = if i < 256 then k (.p m (o + i * 1)) else none := idxE_arr un118 (fun k => sz5 k) m o i k
@[simp] theorem bz120 (st : St) : bldK Tryd.prog 120 [] [] [.int .u8 0, .int .u8 0] st = some (.g [.int .u8 0, .int .u8 0], st) := by kernel_rfl
theorem so120 : structOk Tryd.prog 120 [(0, 1), (1, 1)] = true := by kernel_rfl
@[simp] theorem bl120 (x0 x1 : Operand) (a0 a1 : V) (st : St) (h0 : a0.one = true) (h1 : a1.one = true) : bldK Tryd.prog 120 [(0, x0), (1, x1)] [a0, a1] [.int .u8 0, .int .u8 0] st = some (.g [a0, a1], st) := by
  rw [bldK_ok so120, partsK_one rfl h0 (by simp), partsK_one rfl h1 (by simp)]; rfl
@[simp] theorem fk120_0 (k : Nat → Nat → Res) : fieldK Tryd.prog 120 0 k = k 1 0 := by kernel_rfl
@[simp] theorem fk120_1 (k : Nat → Nat → Res) : fieldK Tryd.prog 120 1 k = k 1 1 := by kernel_rfl
@[simp] theorem un121 : Tryd.prog.underlying 121 = some (.array 16 120) := by kernel_rfl
@[simp] theorem ix121 {β : Type} (m o i : Nat) (k : V → Option β) : idxE Tryd.prog 121 (.p m o) i k = if i < 16 then k (.p m (o + i * 2)) else none := idxE_arr un121 (fun k => sz120 k) m o i k
end Go.Proofs.YtgcpgidofikcdaaDoor

/-
  PLAIN: what the program's own tables say, as rules for rewriting.
-/
import Derived.Test.YtlonobfpogimgaaGreatDoorChecked
import Derived.Test.YtlonobfpogimgaaGreatDoorSb
namespace Go.Proofs.YtlonobfpogimgaaGreatDoor
open Go.RowKit Ev
-- lintel/lintellaw16.PathSays
@[simp] theorem nt36 : Tryz.f36.ntmps = 19 := rfl
@[simp] theorem rs36 : Tryz.f36.results.toList = [.tmp 4, .tmp 5] := rfl
@[simp] theorem xt36 : ext? Tryz.prog 36 = none := by kernel_rfl
-- (*strings.Builder).String
@[simp] theorem nt37 : Tryz.f37.ntmps = 14 := rfl
@[simp] theorem rs37 : Tryz.f37.results.toList = [.tmp 2] := rfl
@[simp] theorem xt37 : ext? Tryz.prog 37 = none := by kernel_rfl
-- lintel/lintelref16.cut
@[simp] theorem nt70 : Tryz.f70.ntmps = 20 := rfl
@[simp] theorem rs70 : Tryz.f70.results.toList = [] := rfl
@[simp] theorem xt70 : ext? Tryz.prog 70 = none := by kernel_rfl
-- strings.explode
@[simp] theorem nt100 : Tryz.f100.ntmps = 1 := rfl
@[simp] theorem rs100 : Tryz.f100.results.toList = [] := rfl
-- unicode/utf8.RuneCountInString
@[simp] theorem nt132 : Tryz.f132.ntmps = 8 := rfl
@[simp] theorem rs132 : Tryz.f132.results.toList = [.tmp 4] := rfl
@[simp] theorem xt132 : ext? Tryz.prog 132 = none := by kernel_rfl
-- internal/bytealg.IndexString
@[simp] theorem nt131 : Tryz.f131.ntmps = 2 := rfl
@[simp] theorem rs131 : Tryz.f131.results.toList = [] := rfl
-- internal/bytealg.Cutover
@[simp] theorem nt130 : Tryz.f130.ntmps = 6 := rfl
@[simp] theorem rs130 : Tryz.f130.results.toList = [.tmp 2] := rfl
@[simp] theorem xt130 : ext? Tryz.prog 130 = none := by kernel_rfl
-- internal/bytealg.IndexRabinKarp[string]
@[simp] theorem nt133 : Tryz.f133.ntmps = 2 := rfl
@[simp] theorem rs133 : Tryz.f133.results.toList = [] := rfl
-- internal/bytealg.hashStr[string]
@[simp] theorem ag3 : agg? Tryz.prog 3 = some false := by kernel_rfl
@[simp] theorem sz3 {β : Type} (k : Nat → Option β) : szOf Tryz.prog 3 k = k 1 := by kernel_rfl
@[simp] theorem ze3 {β : Type} (k : List V → Option β) : zero Tryz.prog 3 k = k [.int .i64 0] := by kernel_rfl
theorem io3 : infoOk Tryz.prog 3 1 = true := by kernel_rfl
@[simp] theorem ag4 : agg? Tryz.prog 4 = some false := by kernel_rfl
@[simp] theorem sz4 {β : Type} (k : Nat → Option β) : szOf Tryz.prog 4 k = k 1 := by kernel_rfl
@[simp] theorem ze4 {β : Type} (k : List V → Option β) : zero Tryz.prog 4 k = k [.bool false] := by kernel_rfl
theorem io4 : infoOk Tryz.prog 4 1 = true := by kernel_rfl
@[simp] theorem ag5 : agg? Tryz.prog 5 = some false := by kernel_rfl
@[simp] theorem sz5 {β : Type} (k : Nat → Option β) : szOf Tryz.prog 5 k = k 1 := by kernel_rfl
@[simp] theorem ze5 {β : Type} (k : List V → Option β) : zero Tryz.prog 5 k = k [.int .u8 0] := by kernel_rfl
theorem io5 : infoOk Tryz.prog 5 1 = true := by kernel_rfl
@[simp] theorem ag9 : agg? Tryz.prog 9 = some false := by kernel_rfl
@[simp] theorem sz9 {β : Type} (k : Nat → Option β) : szOf Tryz.prog 9 k = k 1 := by kernel_rfl
@[simp] theorem ze9 {β : Type} (k : List V → Option β) : zero Tryz.prog 9 k = k [.s []] := by kernel_rfl
theorem io9 : infoOk Tryz.prog 9 1 = true := by kernel_rfl
@[simp] theorem ag21 : agg? Tryz.prog 21 = some false := by kernel_rfl
@[simp] theorem sz21 {β : Type} (k : Nat → Option β) : szOf Tryz.prog 21 k = k 1 := by kernel_rfl
@[simp] theorem ze21 {β : Type} (k : List V → Option β) : zero Tryz.prog 21 k = k [.int .i32 0] := by kernel_rfl
theorem io21 : infoOk Tryz.prog 21 1 = true := by kernel_rfl
@[simp] theorem ag40 : agg? Tryz.prog 40 = some false := by kernel_rfl
@[simp] theorem sz40 {β : Type} (k : Nat → Option β) : szOf Tryz.prog 40 k = k 1 := by kernel_rfl
@[simp] theorem ze40 {β : Type} (k : List V → Option β) : zero Tryz.prog 40 k = k [.c (.slice none 0 0)] := by kernel_rfl
theorem io40 : infoOk Tryz.prog 40 1 = true := by kernel_rfl
@[simp] theorem ag28 : agg? Tryz.prog 28 = some false := by kernel_rfl
@[simp] theorem sz28 {β : Type} (k : Nat → Option β) : szOf Tryz.prog 28 k = k 1 := by kernel_rfl
@[simp] theorem ze28 {β : Type} (k : List V → Option β) : zero Tryz.prog 28 k = k [.int .i64 0] := by kernel_rfl
theorem io28 : infoOk Tryz.prog 28 1 = true := by kernel_rfl
@[simp] theorem ag76 : agg? Tryz.prog 76 = some false := by kernel_rfl
@[simp] theorem sz76 {β : Type} (k : Nat → Option β) : szOf Tryz.prog 76 k = k 1 := by kernel_rfl
@[simp] theorem ze76 {β : Type} (k : List V → Option β) : zero Tryz.prog 76 k = k [.c (.pointer none)] := by kernel_rfl
theorem io76 : infoOk Tryz.prog 76 1 = true := by kernel_rfl
@[simp] theorem ag77 : agg? Tryz.prog 77 = some false := by kernel_rfl
@[simp] theorem sz77 {β : Type} (k : Nat → Option β) : szOf Tryz.prog 77 k = k 1 := by kernel_rfl
@[simp] theorem ze77 {β : Type} (k : List V → Option β) : zero Tryz.prog 77 k = k [.c (.slice none 0 0)] := by kernel_rfl
theorem io77 : infoOk Tryz.prog 77 1 = true := by kernel_rfl
@[simp] theorem ag79 : agg? Tryz.prog 79 = some true := by kernel_rfl
@[simp] theorem sz79 {β : Type} (k : Nat → Option β) : szOf Tryz.prog 79 k = k 2 := by kernel_rfl
@[simp] theorem ze79 {β : Type} (k : List V → Option β) : zero Tryz.prog 79 k = k [.c (.pointer none), .c (.slice none 0 0)] := by kernel_rfl
theorem io79 : infoOk Tryz.prog 79 2 = true := by kernel_rfl
@[simp] theorem ag82 : agg? Tryz.prog 82 = some false := by kernel_rfl
@[simp] theorem sz82 {β : Type} (k : Nat → Option β) : szOf Tryz.prog 82 k = k 1 := by kernel_rfl
@[simp] theorem ze82 {β : Type} (k : List V → Option β) : zero Tryz.prog 82 k = k [.c .nilIface] := by kernel_rfl
theorem io82 : infoOk Tryz.prog 82 1 = true := by kernel_rfl
@[simp] theorem ag128 : agg? Tryz.prog 128 = some false := by kernel_rfl
@[simp] theorem sz128 {β : Type} (k : Nat → Option β) : szOf Tryz.prog 128 k = k 1 := by kernel_rfl
@[simp] theorem ze128 {β : Type} (k : List V → Option β) : zero Tryz.prog 128 k = k [.c (.pointer none)] := by kernel_rfl
theorem io128 : infoOk Tryz.prog 128 1 = true := by kernel_rfl
@[simp] theorem ag153 : agg? Tryz.prog 153 = some false := by kernel_rfl
@[simp] theorem sz153 {β : Type} (k : Nat → Option β) : szOf Tryz.prog 153 k = k 1 := by kernel_rfl
@[simp] theorem ze153 {β : Type} (k : List V → Option β) : zero Tryz.prog 153 k = k [.c (.pointer none)] := by kernel_rfl
theorem io153 : infoOk Tryz.prog 153 1 = true := by kernel_rfl
@[simp] theorem ag147 : agg? Tryz.prog 147 = some false := by kernel_rfl
@[simp] theorem sz147 {β : Type} (k : Nat → Option β) : szOf Tryz.prog 147 k = k 1 := by kernel_rfl
@[simp] theorem ze147 {β : Type} (k : List V → Option β) : zero Tryz.prog 147 k = k [.int .u32 0] := by kernel_rfl
theorem io147 : infoOk Tryz.prog 147 1 = true := by kernel_rfl
@[simp] theorem un3 : Tryz.prog.underlying 3 = some (.int .i64) := by kernel_rfl
@[simp] theorem un5 : Tryz.prog.underlying 5 = some (.int .u8) := by kernel_rfl
@[simp] theorem un9 : Tryz.prog.underlying 9 = some .string := by kernel_rfl
@[simp] theorem un21 : Tryz.prog.underlying 21 = some (.int .i32) := by kernel_rfl
@[simp] theorem un40 : Tryz.prog.underlying 40 = some (.slice 9) := by kernel_rfl
@[simp] theorem ln40 (c : Cx) (st : St) (x : V) : builtinE Tryz.prog c .len [40] [x] st = lenS st x := len_slice un40 x
@[simp] theorem ix40 {β : Type} (m o len cap i : Nat) (k : V → Option β) : idxE Tryz.prog 40 (.sl m o len cap) i k = if i < len then k (.p m (o + i * 1)) else none := idxE_sl un40 (fun k => sz9 k) m o len cap i k
@[simp] theorem iy40 {β : Type} (m o len w i : Nat) (k : V → Option β) : idxE Tryz.prog 40 (.sg m o len w) i k = if i < len then k (.p m (o + i * 1)) else none := idxE_sg un40 (fun k => sz9 k) m o len w i k
@[simp] theorem el40 {β : Type} (k : TypeId → Nat → Option β) : Ev.elemOf Tryz.prog 40 k = k 9 1 := by kernel_rfl
@[simp] theorem un28 : Tryz.prog.underlying 28 = some (.int .i64) := by kernel_rfl
@[simp] theorem un77 : Tryz.prog.underlying 77 = some (.slice 5) := by kernel_rfl
@[simp] theorem ln77 (c : Cx) (st : St) (x : V) : builtinE Tryz.prog c .len [77] [x] st = lenS st x := len_slice un77 x
@[simp] theorem ix77 {β : Type} (m o len cap i : Nat) (k : V → Option β) : idxE Tryz.prog 77 (.sl m o len cap) i k = if i < len then k (.p m (o + i * 1)) else none := idxE_sl un77 (fun k => sz5 k) m o len cap i k
@[simp] theorem iy77 {β : Type} (m o len w i : Nat) (k : V → Option β) : idxE Tryz.prog 77 (.sg m o len w) i k = if i < len then k (.p m (o + i * 1)) else none := idxE_sg un77 (fun k => sz5 k) m o len w i k
@[simp] theorem el77 {β : Type} (k : TypeId → Nat → Option β) : Ev.elemOf Tryz.prog 77 k = k 5 1 := by kernel_rfl
@[simp] theorem bz79 (st : St) : bldK Tryz.prog 79 [] [] [.c (.pointer none), .c (.slice none 0 0)] st = some (.g [.c (.pointer none), .c (.slice none 0 0)], st) := by kernel_rfl
theorem so79 : structOk Tryz.prog 79 [(0, 1), (1, 1)] = true := by kernel_rfl
@[simp] theorem bl79 (x0 x1 : Operand) (a0 a1 : V) (st : St) (h0 : a0.one = true) (h1 : a1.one = true) : bldK Tryz.prog 79 [(0, x0), (1, x1)] [a0, a1] [.c (.pointer none), .c (.slice none 0 0)] st = some (.g [a0, a1], st) := by
  rw [bldK_ok so79, partsK_one rfl h0 (by simp), partsK_one rfl h1 (by simp)]; rfl
@[simp] theorem fk79_0 (k : Nat → Nat → Res) : fieldK Tryz.prog 79 0 k = k 1 0 := by kernel_rfl
@[simp] theorem fk79_1 (k : Nat → Nat → Res) : fieldK Tryz.prog 79 1 k = k 1 1 := by kernel_rfl
@[simp] theorem un147 : Tryz.prog.underlying 147 = some (.int .u32) := by kernel_rfl
end Go.Proofs.YtlonobfpogimgaaGreatDoor

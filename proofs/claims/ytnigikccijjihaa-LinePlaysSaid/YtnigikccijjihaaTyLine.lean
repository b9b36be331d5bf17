/-
  PLAIN: what the program's own tables say, as rules for rewriting.
-/
import Derived.Test.YtnigikccijjihaaChecked
import Derived.Test.YtnigikccijjihaaGn
namespace Go.Proofs.Ytnigikccijjihaa
open Go.RowKit Ev
-- lintel/lintellaw3.LinePlays
@[simp] theorem nt4 : Try.f4.ntmps = 99 := rfl
@[simp] theorem rs4 : Try.f4.results.toList = [.tmp 4] := rfl
@[simp] theorem xt4 : ext? Try.prog 4 = none := by kernel_rfl
-- lintel/lintellaw3.LineOrder
@[simp] theorem nt5 : Try.f5.ntmps = 77 := rfl
@[simp] theorem rs5 : Try.f5.results.toList = [.tmp 4] := rfl
@[simp] theorem xt5 : ext? Try.prog 5 = none := by kernel_rfl
-- lintel/lintellaw3.LineSure
@[simp] theorem nt6 : Try.f6.ntmps = 78 := rfl
@[simp] theorem rs6 : Try.f6.results.toList = [.tmp 4] := rfl
@[simp] theorem xt6 : ext? Try.prog 6 = none := by kernel_rfl
-- lintel/lintellaw3.awake
@[simp] theorem nt39 : Try.f39.ntmps = 34 := rfl
@[simp] theorem rs39 : Try.f39.results.toList = [.tmp 0] := rfl
@[simp] theorem xt39 : ext? Try.prog 39 = none := by kernel_rfl
-- lintel/line.New
@[simp] theorem nt40 : Try.f40.ntmps = 20 := rfl
@[simp] theorem rs40 : Try.f40.results.toList = [.tmp 2] := rfl
@[simp] theorem xt40 : ext? Try.prog 40 = none := by kernel_rfl
-- lintel/lintelref1.NewLine
@[simp] theorem nt41 : Try.f41.ntmps = 29 := rfl
@[simp] theorem rs41 : Try.f41.results.toList = [.tmp 2] := rfl
@[simp] theorem xt41 : ext? Try.prog 41 = none := by kernel_rfl
-- (*lintel/line.Line).Store
@[simp] theorem nt42 : Try.f42.ntmps = 28 := rfl
@[simp] theorem rs42 : Try.f42.results.toList = [.tmp 6] := rfl
@[simp] theorem xt42 : ext? Try.prog 42 = none := by kernel_rfl
-- (*lintel/lintelref1.Line).Store
@[simp] theorem nt43 : Try.f43.ntmps = 27 := rfl
@[simp] theorem rs43 : Try.f43.results.toList = [.tmp 6] := rfl
@[simp] theorem xt43 : ext? Try.prog 43 = none := by kernel_rfl
-- (*lintel/line.Line).Flush
@[simp] theorem nt44 : Try.f44.ntmps = 10 := rfl
@[simp] theorem rs44 : Try.f44.results.toList = [] := rfl
@[simp] theorem xt44 : ext? Try.prog 44 = none := by kernel_rfl
-- (*lintel/lintelref1.Line).Flush
@[simp] theorem nt45 : Try.f45.ntmps = 37 := rfl
@[simp] theorem rs45 : Try.f45.results.toList = [] := rfl
@[simp] theorem xt45 : ext? Try.prog 45 = none := by kernel_rfl
-- (*lintel/line.Line).Fence
@[simp] theorem nt46 : Try.f46.ntmps = 29 := rfl
@[simp] theorem rs46 : Try.f46.results.toList = [] := rfl
@[simp] theorem xt46 : ext? Try.prog 46 = none := by kernel_rfl
-- (*lintel/lintelref1.Line).Fence
@[simp] theorem nt47 : Try.f47.ntmps = 34 := rfl
@[simp] theorem rs47 : Try.f47.results.toList = [] := rfl
@[simp] theorem xt47 : ext? Try.prog 47 = none := by kernel_rfl
-- (*lintel/line.Line).Fall
@[simp] theorem nt48 : Try.f48.ntmps = 27 := rfl
@[simp] theorem rs48 : Try.f48.results.toList = [] := rfl
@[simp] theorem xt48 : ext? Try.prog 48 = none := by kernel_rfl
-- (*lintel/lintelref1.Line).Fall
@[simp] theorem nt49 : Try.f49.ntmps = 10 := rfl
@[simp] theorem rs49 : Try.f49.results.toList = [] := rfl
@[simp] theorem xt49 : ext? Try.prog 49 = none := by kernel_rfl
-- (*lintel/line.Line).Open
@[simp] theorem nt50 : Try.f50.ntmps = 8 := rfl
@[simp] theorem rs50 : Try.f50.results.toList = [.tmp 2] := rfl
@[simp] theorem xt50 : ext? Try.prog 50 = none := by kernel_rfl
-- (*lintel/lintelref1.Line).Open
@[simp] theorem nt51 : Try.f51.ntmps = 8 := rfl
@[simp] theorem rs51 : Try.f51.results.toList = [.tmp 2] := rfl
@[simp] theorem xt51 : ext? Try.prog 51 = none := by kernel_rfl
-- lintel/lintellaw3.same
@[simp] theorem nt52 : Try.f52.ntmps = 26 := rfl
@[simp] theorem rs52 : Try.f52.results.toList = [.tmp 4] := rfl
@[simp] theorem xt52 : ext? Try.prog 52 = none := by kernel_rfl
-- (*lintel/line.Line).Sure
@[simp] theorem nt53 : Try.f53.ntmps = 8 := rfl
@[simp] theorem rs53 : Try.f53.results.toList = [.tmp 2] := rfl
@[simp] theorem xt53 : ext? Try.prog 53 = none := by kernel_rfl
-- (*lintel/line.Line).Load
@[simp] theorem nt54 : Try.f54.ntmps = 14 := rfl
@[simp] theorem rs54 : Try.f54.results.toList = [.tmp 4] := rfl
@[simp] theorem xt54 : ext? Try.prog 54 = none := by kernel_rfl
-- (*lintel/lintelref1.Line).Load
@[simp] theorem nt55 : Try.f55.ntmps = 48 := rfl
@[simp] theorem rs55 : Try.f55.results.toList = [.tmp 4] := rfl
@[simp] theorem xt55 : ext? Try.prog 55 = none := by kernel_rfl
-- lintel/line.there
@[simp] theorem nt124 : Try.f124.ntmps = 9 := rfl
@[simp] theorem rs124 : Try.f124.results.toList = [.tmp 2] := rfl
@[simp] theorem xt124 : ext? Try.prog 124 = none := by kernel_rfl
-- (*lintel/line.Line).settle
@[simp] theorem nt125 : Try.f125.ntmps = 26 := rfl
@[simp] theorem rs125 : Try.f125.results.toList = [] := rfl
@[simp] theorem xt125 : ext? Try.prog 125 = none := by kernel_rfl
-- (*lintel/lintelref1.Line).settle
@[simp] theorem nt126 : Try.f126.ntmps = 48 := rfl
@[simp] theorem rs126 : Try.f126.results.toList = [] := rfl
@[simp] theorem xt126 : ext? Try.prog 126 = none := by kernel_rfl
@[simp] theorem ag3 : agg? Try.prog 3 = some false := by kernel_rfl
@[simp] theorem sz3 {β : Type} (k : Nat → Option β) : szOf Try.prog 3 k = k 1 := by kernel_rfl
@[simp] theorem ze3 {β : Type} (k : List V → Option β) : zero Try.prog 3 k = k [.int .i64 0] := by kernel_rfl
theorem io3 : infoOk Try.prog 3 1 = true := by kernel_rfl
@[simp] theorem ag4 : agg? Try.prog 4 = some false := by kernel_rfl
@[simp] theorem sz4 {β : Type} (k : Nat → Option β) : szOf Try.prog 4 k = k 1 := by kernel_rfl
@[simp] theorem ze4 {β : Type} (k : List V → Option β) : zero Try.prog 4 k = k [.bool false] := by kernel_rfl
theorem io4 : infoOk Try.prog 4 1 = true := by kernel_rfl
@[simp] theorem ag23 : agg? Try.prog 23 = some false := by kernel_rfl
@[simp] theorem sz23 {β : Type} (k : Nat → Option β) : szOf Try.prog 23 k = k 1 := by kernel_rfl
@[simp] theorem ze23 {β : Type} (k : List V → Option β) : zero Try.prog 23 k = k [.c (.slice none 0 0)] := by kernel_rfl
theorem io23 : infoOk Try.prog 23 1 = true := by kernel_rfl
@[simp] theorem ag24 : agg? Try.prog 24 = some false := by kernel_rfl
@[simp] theorem sz24 {β : Type} (k : Nat → Option β) : szOf Try.prog 24 k = k 1 := by kernel_rfl
@[simp] theorem ze24 {β : Type} (k : List V → Option β) : zero Try.prog 24 k = k [.int .u64 0] := by kernel_rfl
theorem io24 : infoOk Try.prog 24 1 = true := by kernel_rfl
@[simp] theorem ag37 : agg? Try.prog 37 = some false := by kernel_rfl
@[simp] theorem sz37 {β : Type} (k : Nat → Option β) : szOf Try.prog 37 k = k 1 := by kernel_rfl
@[simp] theorem ze37 {β : Type} (k : List V → Option β) : zero Try.prog 37 k = k [.c (.slice none 0 0)] := by kernel_rfl
theorem io37 : infoOk Try.prog 37 1 = true := by kernel_rfl
@[simp] theorem ag38 : agg? Try.prog 38 = some false := by kernel_rfl
@[simp] theorem sz38 {β : Type} (k : Nat → Option β) : szOf Try.prog 38 k = k 1 := by kernel_rfl
@[simp] theorem ze38 {β : Type} (k : List V → Option β) : zero Try.prog 38 k = k [.c (.pointer none)] := by kernel_rfl
theorem io38 : infoOk Try.prog 38 1 = true := by kernel_rfl
@[simp] theorem ag40 : agg? Try.prog 40 = some false := by kernel_rfl
@[simp] theorem sz40 {β : Type} (k : Nat → Option β) : szOf Try.prog 40 k = k 1 := by kernel_rfl
@[simp] theorem ze40 {β : Type} (k : List V → Option β) : zero Try.prog 40 k = k [.c (.pointer none)] := by kernel_rfl
theorem io40 : infoOk Try.prog 40 1 = true := by kernel_rfl
@[simp] theorem ag43 : agg? Try.prog 43 = some true := by kernel_rfl
@[simp] theorem sz43 {β : Type} (k : Nat → Option β) : szOf Try.prog 43 k = k 3 := by kernel_rfl
@[simp] theorem ze43 {β : Type} (k : List V → Option β) : zero Try.prog 43 k = k [.int .i64 0, .int .i64 0, .int .u64 0] := by kernel_rfl
theorem io43 : infoOk Try.prog 43 3 = true := by kernel_rfl
@[simp] theorem ag48 : agg? Try.prog 48 = some false := by kernel_rfl
@[simp] theorem sz48 {β : Type} (k : Nat → Option β) : szOf Try.prog 48 k = k 1 := by kernel_rfl
@[simp] theorem ze48 {β : Type} (k : List V → Option β) : zero Try.prog 48 k = k [.c (.slice none 0 0)] := by kernel_rfl
theorem io48 : infoOk Try.prog 48 1 = true := by kernel_rfl
@[simp] theorem ag50 : agg? Try.prog 50 = some true := by kernel_rfl
@[simp] theorem sz50 {β : Type} (k : Nat → Option β) : szOf Try.prog 50 k = k 2 := by kernel_rfl
@[simp] theorem ze50 {β : Type} (k : List V → Option β) : zero Try.prog 50 k = k [.c (.slice none 0 0), .c (.slice none 0 0)] := by kernel_rfl
theorem io50 : infoOk Try.prog 50 2 = true := by kernel_rfl
@[simp] theorem ag154 : agg? Try.prog 154 = some true := by kernel_rfl
@[simp] theorem sz154 {β : Type} (k : Nat → Option β) : szOf Try.prog 154 k = k 8 := by kernel_rfl
@[simp] theorem ze154 {β : Type} (k : List V → Option β) : zero Try.prog 154 k = k [.int .u64 0, .int .u64 0, .int .u64 0, .int .u64 0, .int .u64 0, .int .u64 0, .int .u64 0, .int .u64 0] := by kernel_rfl
theorem io154 : infoOk Try.prog 154 8 = true := by kernel_rfl
@[simp] theorem ag155 : agg? Try.prog 155 = some false := by kernel_rfl
@[simp] theorem sz155 {β : Type} (k : Nat → Option β) : szOf Try.prog 155 k = k 1 := by kernel_rfl
@[simp] theorem ze155 {β : Type} (k : List V → Option β) : zero Try.prog 155 k = k [.c (.slice none 0 0)] := by kernel_rfl
theorem io155 : infoOk Try.prog 155 1 = true := by kernel_rfl
@[simp] theorem ag157 : agg? Try.prog 157 = some true := by kernel_rfl
@[simp] theorem sz157 {β : Type} (k : Nat → Option β) : szOf Try.prog 157 k = k 18 := by kernel_rfl
@[simp] theorem ze157 {β : Type} (k : List V → Option β) : zero Try.prog 157 k = k [.int .u64 0, .int .u64 0, .int .u64 0, .int .u64 0, .int .u64 0, .int .u64 0, .int .u64 0, .int .u64 0, .int .u64 0, .int .u64 0, .int .u64 0, .int .u64 0, .int .u64 0, .int .u64 0, .int .u64 0, .int .u64 0, .c (.slice none 0 0), .int .i64 0] := by kernel_rfl
theorem io157 : infoOk Try.prog 157 18 = true := by kernel_rfl
@[simp] theorem ag160 : agg? Try.prog 160 = some true := by kernel_rfl
@[simp] theorem sz160 {β : Type} (k : Nat → Option β) : szOf Try.prog 160 k = k 2 := by kernel_rfl
@[simp] theorem ze160 {β : Type} (k : List V → Option β) : zero Try.prog 160 k = k [.int .i64 0, .int .u64 0] := by kernel_rfl
theorem io160 : infoOk Try.prog 160 2 = true := by kernel_rfl
@[simp] theorem ag162 : agg? Try.prog 162 = some true := by kernel_rfl
@[simp] theorem sz162 {β : Type} (k : Nat → Option β) : szOf Try.prog 162 k = k 3 := by kernel_rfl
@[simp] theorem ze162 {β : Type} (k : List V → Option β) : zero Try.prog 162 k = k [.int .i64 0, .int .u64 0, .bool false] := by kernel_rfl
theorem io162 : infoOk Try.prog 162 3 = true := by kernel_rfl
@[simp] theorem un3 : Try.prog.underlying 3 = some (.int .i64) := by kernel_rfl
@[simp] theorem un23 : Try.prog.underlying 23 = some (.slice 24) := by kernel_rfl
@[simp] theorem ln23 (c : Cx) (st : St) (x : V) : builtinE Try.prog c .len [23] [x] st = lenS st x := len_slice un23 x
@[simp] theorem ix23 {β : Type} (m o len cap i : Nat) (k : V → Option β) : idxE Try.prog 23 (.sl m o len cap) i k = if i < len then k (.p m (o + i * 1)) else none := idxE_sl un23 (fun k => sz24 k) m o len cap i k
@[simp] theorem iy23 {β : Type} (m o len w i : Nat) (k : V → Option β) : idxE Try.prog 23 (.sg m o len w) i k = if i < len then k (.p m (o + i * 1)) else none := idxE_sg un23 (fun k => sz24 k) m o len w i k
@[simp] theorem el23 {β : Type} (k : TypeId → Nat → Option β) : Ev.elemOf Try.prog 23 k = k 24 1 := by kernel_rfl
@[simp] theorem un24 : Try.prog.underlying 24 = some (.int .u64) := by kernel_rfl
@[simp] theorem un37 : Try.prog.underlying 37 = some (.slice 43) := by kernel_rfl
@[simp] theorem ln37 (c : Cx) (st : St) (x : V) : builtinE Try.prog c .len [37] [x] st = lenS st x := len_slice un37 x
@[simp] theorem ix37 {β : Type} (m o len cap i : Nat) (k : V → Option β) : idxE Try.prog 37 (.sl m o len cap) i k = if i < len then k (.p m (o + i * 3)) else none := idxE_sl un37 (fun k => sz43 k) m o len cap i k
@[simp] theorem iy37 {β : Type} (m o len w i : Nat) (k : V → Option β) : idxE Try.prog 37 (.sg m o len w) i k = if i < len then k (.p m (o + i * 3)) else none := idxE_sg un37 (fun k => sz43 k) m o len w i k
@[simp] theorem el37 {β : Type} (k : TypeId → Nat → Option β) : Ev.elemOf Try.prog 37 k = k 43 3 := by kernel_rfl
@[simp] theorem bz43 (st : St) : bldK Try.prog 43 [] [] [.int .i64 0, .int .i64 0, .int .u64 0] st = some (.g [.int .i64 0, .int .i64 0, .int .u64 0], st) := by kernel_rfl
theorem so43 : structOk Try.prog 43 [(0, 1), (1, 1), (2, 1)] = true := by kernel_rfl
@[simp] theorem bl43 (x0 x1 x2 : Operand) (a0 a1 a2 : V) (st : St) (h0 : a0.one = true) (h1 : a1.one = true) (h2 : a2.one = true) : bldK Try.prog 43 [(0, x0), (1, x1), (2, x2)] [a0, a1, a2] [.int .i64 0, .int .i64 0, .int .u64 0] st = some (.g [a0, a1, a2], st) := by
  rw [bldK_ok so43, partsK_one rfl h0 (by simp), partsK_one rfl h1 (by simp), partsK_one rfl h2 (by simp)]; rfl
@[simp] theorem fk43_0 (k : Nat → Nat → Res) : fieldK Try.prog 43 0 k = k 1 0 := by kernel_rfl
@[simp] theorem fk43_1 (k : Nat → Nat → Res) : fieldK Try.prog 43 1 k = k 1 1 := by kernel_rfl
@[simp] theorem fk43_2 (k : Nat → Nat → Res) : fieldK Try.prog 43 2 k = k 1 2 := by kernel_rfl
@[simp] theorem un48 : Try.prog.underlying 48 = some (.slice 162) := by kernel_rfl
@[simp] theorem ln48 (c : Cx) (st : St) (x : V) : builtinE Try.prog c .len [48] [x] st = lenS st x := len_slice un48 x
@[simp] theorem ix48 {β : Type} (m o len cap i : Nat) (k : V → Option β) : idxE Try.prog 48 (.sl m o len cap) i k = if i < len then k (.p m (o + i * 3)) else none := idxE_sl un48 (fun k => sz162 k) m o len cap i k
@[simp] theorem iy48 {β : Type} (m o len w i : Nat) (k : V → Option β) : idxE Try.prog 48 (.sg m o len w) i k = if i < len then k (.p m (o + i * 3)) else none := idxE_sg un48 (fun k => sz162 k) m o len w i k
@[simp] theorem el48 {β : Type} (k : TypeId → Nat → Option β) : Ev.elemOf Try.prog 48 k = k 162 3 := by kernel_rfl
@[simp] theorem bz50 (st : St) : bldK Try.prog 50 [] [] [.c (.slice none 0 0), .c (.slice none 0 0)] st = some (.g [.c (.slice none 0 0), .c (.slice none 0 0)], st) := by kernel_rfl
theorem so50 : structOk Try.prog 50 [(0, 1), (1, 1)] = true := by kernel_rfl
@[simp] theorem bl50 (x0 x1 : Operand) (a0 a1 : V) (st : St) (h0 : a0.one = true) (h1 : a1.one = true) : bldK Try.prog 50 [(0, x0), (1, x1)] [a0, a1] [.c (.slice none 0 0), .c (.slice none 0 0)] st = some (.g [a0, a1], st) := by
  rw [bldK_ok so50, partsK_one rfl h0 (by simp), partsK_one rfl h1 (by simp)]; rfl
@[simp] theorem fk50_0 (k : Nat → Nat → Res) : fieldK Try.prog 50 0 k = k 1 0 := by kernel_rfl
@[simp] theorem fk50_1 (k : Nat → Nat → Res) : fieldK Try.prog 50 1 k = k 1 1 := by kernel_rfl
@[simp] theorem un154 : Try.prog.underlying 154 = some (.array 8 24) := by kernel_rfl
@[simp] theorem ix154 {β : Type} (m o i : Nat) (k : V → Option β) : idxE Try.prog 154 (.p m o) i k = if i < 8 then k (.p m (o + i * 1)) else none := idxE_arr un154 (fun k => sz24 k) m o i k
@[simp] theorem un155 : Try.prog.underlying 155 = some (.slice 160) := by kernel_rfl
@[simp] theorem ln155 (c : Cx) (st : St) (x : V) : builtinE Try.prog c .len [155] [x] st = lenS st x := len_slice un155 x
@[simp] theorem ix155 {β : Type} (m o len cap i : Nat) (k : V → Option β) : idxE Try.prog 155 (.sl m o len cap) i k = if i < len then k (.p m (o + i * 2)) else none := idxE_sl un155 (fun k => sz160 k) m o len cap i k
@[simp] theorem iy155 {β : Type} (m o len w i : Nat) (k : V → Option β) : idxE Try.prog 155 (.sg m o len w) i k = if i < len then k (.p m (o + i * 2)) else none := idxE_sg un155 (fun k => sz160 k) m o len w i k
@[simp] theorem el155 {β : Type} (k : TypeId → Nat → Option β) : Ev.elemOf Try.prog 155 k = k 160 2 := by kernel_rfl
@[simp] theorem bz157 (st : St) : bldK Try.prog 157 [] [] [.int .u64 0, .int .u64 0, .int .u64 0, .int .u64 0, .int .u64 0, .int .u64 0, .int .u64 0, .int .u64 0, .int .u64 0, .int .u64 0, .int .u64 0, .int .u64 0, .int .u64 0, .int .u64 0, .int .u64 0, .int .u64 0, .c (.slice none 0 0), .int .i64 0] st = some (.g [.int .u64 0, .int .u64 0, .int .u64 0, .int .u64 0, .int .u64 0, .int .u64 0, .int .u64 0, .int .u64 0, .int .u64 0, .int .u64 0, .int .u64 0, .int .u64 0, .int .u64 0, .int .u64 0, .int .u64 0, .int .u64 0, .c (.slice none 0 0), .int .i64 0], st) := by kernel_rfl
theorem so157 : structOk Try.prog 157 [(0, 8), (8, 8), (16, 1), (17, 1)] = true := by kernel_rfl
@[simp] theorem fk157_0 (k : Nat → Nat → Res) : fieldK Try.prog 157 0 k = k 8 0 := by kernel_rfl
@[simp] theorem fk157_1 (k : Nat → Nat → Res) : fieldK Try.prog 157 1 k = k 8 8 := by kernel_rfl
@[simp] theorem fk157_2 (k : Nat → Nat → Res) : fieldK Try.prog 157 2 k = k 1 16 := by kernel_rfl
@[simp] theorem fk157_3 (k : Nat → Nat → Res) : fieldK Try.prog 157 3 k = k 1 17 := by kernel_rfl
@[simp] theorem bz160 (st : St) : bldK Try.prog 160 [] [] [.int .i64 0, .int .u64 0] st = some (.g [.int .i64 0, .int .u64 0], st) := by kernel_rfl
theorem so160 : structOk Try.prog 160 [(0, 1), (1, 1)] = true := by kernel_rfl
@[simp] theorem bl160 (x0 x1 : Operand) (a0 a1 : V) (st : St) (h0 : a0.one = true) (h1 : a1.one = true) : bldK Try.prog 160 [(0, x0), (1, x1)] [a0, a1] [.int .i64 0, .int .u64 0] st = some (.g [a0, a1], st) := by
  rw [bldK_ok so160, partsK_one rfl h0 (by simp), partsK_one rfl h1 (by simp)]; rfl
@[simp] theorem fk160_0 (k : Nat → Nat → Res) : fieldK Try.prog 160 0 k = k 1 0 := by kernel_rfl
@[simp] theorem fk160_1 (k : Nat → Nat → Res) : fieldK Try.prog 160 1 k = k 1 1 := by kernel_rfl
@[simp] theorem bz162 (st : St) : bldK Try.prog 162 [] [] [.int .i64 0, .int .u64 0, .bool false] st = some (.g [.int .i64 0, .int .u64 0, .bool false], st) := by kernel_rfl
theorem so162 : structOk Try.prog 162 [(0, 1), (1, 1), (2, 1)] = true := by kernel_rfl
@[simp] theorem bl162 (x0 x1 x2 : Operand) (a0 a1 a2 : V) (st : St) (h0 : a0.one = true) (h1 : a1.one = true) (h2 : a2.one = true) : bldK Try.prog 162 [(0, x0), (1, x1), (2, x2)] [a0, a1, a2] [.int .i64 0, .int .u64 0, .bool false] st = some (.g [a0, a1, a2], st) := by
  rw [bldK_ok so162, partsK_one rfl h0 (by simp), partsK_one rfl h1 (by simp), partsK_one rfl h2 (by simp)]; rfl
@[simp] theorem fk162_0 (k : Nat → Nat → Res) : fieldK Try.prog 162 0 k = k 1 0 := by kernel_rfl
@[simp] theorem fk162_1 (k : Nat → Nat → Res) : fieldK Try.prog 162 1 k = k 1 1 := by kernel_rfl
@[simp] theorem fk162_2 (k : Nat → Nat → Res) : fieldK Try.prog 162 2 k = k 1 2 := by kernel_rfl
end Go.Proofs.Ytnigikccijjihaa

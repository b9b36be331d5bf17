/-
  PLAIN: what the program's own tables say, as rules for rewriting.
-/
import Derived.Test.YtgcpgidofikcdaaGreatDoorChecked
import Derived.Test.YtgcpgidofikcdaaGreatDoorSb
namespace Go.Proofs.YtgcpgidofikcdaaGreatDoor
open Go.RowKit Ev
-- slices.Insert[[]string,string]
@[simp] theorem nt120 : Tryz.f120.ntmps = 95 := rfl
@[simp] theorem rs120 : Tryz.f120.results.toList = [.tmp 6] := rfl
@[simp] theorem xt120 : ext? Tryz.prog 120 = none := by kernel_rfl
-- slices.Insert[[]lintel/tree.Name,lintel/tree.Name]
@[simp] theorem nt177 : Tryz.f177.ntmps = 95 := rfl
@[simp] theorem rs177 : Tryz.f177.results.toList = [.tmp 6] := rfl
@[simp] theorem xt177 : ext? Tryz.prog 177 = none := by kernel_rfl
-- slices.overlaps[string]
@[simp] theorem nt184 : Tryz.f184.ntmps = 2 := rfl
@[simp] theorem rs184 : Tryz.f184.results.toList = [] := rfl
-- slices.rotateRight[string]
@[simp] theorem nt185 : Tryz.f185.ntmps = 10 := rfl
@[simp] theorem rs185 : Tryz.f185.results.toList = [] := rfl
@[simp] theorem xt185 : ext? Tryz.prog 185 = none := by kernel_rfl
-- slices.overlaps[lintel/tree.Name]
@[simp] theorem nt227 : Tryz.f227.ntmps = 2 := rfl
@[simp] theorem rs227 : Tryz.f227.results.toList = [] := rfl
-- slices.rotateRight[lintel/tree.Name]
@[simp] theorem nt228 : Tryz.f228.ntmps = 10 := rfl
@[simp] theorem rs228 : Tryz.f228.results.toList = [] := rfl
@[simp] theorem xt228 : ext? Tryz.prog 228 = none := by kernel_rfl
-- slices.rotateLeft[string]
@[simp] theorem nt233 : Tryz.f233.ntmps = 14 := rfl
@[simp] theorem rs233 : Tryz.f233.results.toList = [] := rfl
@[simp] theorem xt233 : ext? Tryz.prog 233 = none := by kernel_rfl
-- slices.rotateLeft[lintel/tree.Name]
@[simp] theorem nt268 : Tryz.f268.ntmps = 14 := rfl
@[simp] theorem rs268 : Tryz.f268.results.toList = [] := rfl
@[simp] theorem xt268 : ext? Tryz.prog 268 = none := by kernel_rfl
-- slices.Reverse[[]string,string]
@[simp] theorem nt271 : Tryz.f271.ntmps = 28 := rfl
@[simp] theorem rs271 : Tryz.f271.results.toList = [] := rfl
@[simp] theorem xt271 : ext? Tryz.prog 271 = none := by kernel_rfl
-- slices.Reverse[[]lintel/tree.Name,lintel/tree.Name]
@[simp] theorem nt285 : Tryz.f285.ntmps = 28 := rfl
@[simp] theorem rs285 : Tryz.f285.results.toList = [] := rfl
@[simp] theorem xt285 : ext? Tryz.prog 285 = none := by kernel_rfl
@[simp] theorem ag3 : agg? Tryz.prog 3 = some false := by kernel_rfl
@[simp] theorem sz3 {β : Type} (k : Nat → Option β) : szOf Tryz.prog 3 k = k 1 := by kernel_rfl
@[simp] theorem ze3 {β : Type} (k : List V → Option β) : zero Tryz.prog 3 k = k [.int .i64 0] := by kernel_rfl
theorem io3 : infoOk Tryz.prog 3 1 = true := by kernel_rfl
@[simp] theorem ag4 : agg? Tryz.prog 4 = some false := by kernel_rfl
@[simp] theorem sz4 {β : Type} (k : Nat → Option β) : szOf Tryz.prog 4 k = k 1 := by kernel_rfl
@[simp] theorem ze4 {β : Type} (k : List V → Option β) : zero Tryz.prog 4 k = k [.bool false] := by kernel_rfl
theorem io4 : infoOk Tryz.prog 4 1 = true := by kernel_rfl
@[simp] theorem ag9 : agg? Tryz.prog 9 = some false := by kernel_rfl
@[simp] theorem sz9 {β : Type} (k : Nat → Option β) : szOf Tryz.prog 9 k = k 1 := by kernel_rfl
@[simp] theorem ze9 {β : Type} (k : List V → Option β) : zero Tryz.prog 9 k = k [.s []] := by kernel_rfl
theorem io9 : infoOk Tryz.prog 9 1 = true := by kernel_rfl
@[simp] theorem ag28 : agg? Tryz.prog 28 = some false := by kernel_rfl
@[simp] theorem sz28 {β : Type} (k : Nat → Option β) : szOf Tryz.prog 28 k = k 1 := by kernel_rfl
@[simp] theorem ze28 {β : Type} (k : List V → Option β) : zero Tryz.prog 28 k = k [.c (.slice none 0 0)] := by kernel_rfl
theorem io28 : infoOk Tryz.prog 28 1 = true := by kernel_rfl
@[simp] theorem ag90 : agg? Tryz.prog 90 = some false := by kernel_rfl
@[simp] theorem sz90 {β : Type} (k : Nat → Option β) : szOf Tryz.prog 90 k = k 1 := by kernel_rfl
@[simp] theorem ze90 {β : Type} (k : List V → Option β) : zero Tryz.prog 90 k = k [.c (.slice none 0 0)] := by kernel_rfl
theorem io90 : infoOk Tryz.prog 90 1 = true := by kernel_rfl
@[simp] theorem ag109 : agg? Tryz.prog 109 = some true := by kernel_rfl
@[simp] theorem sz109 {β : Type} (k : Nat → Option β) : szOf Tryz.prog 109 k = k 2 := by kernel_rfl
@[simp] theorem ze109 {β : Type} (k : List V → Option β) : zero Tryz.prog 109 k = k [.s [], .int .i64 0] := by kernel_rfl
theorem io109 : infoOk Tryz.prog 109 2 = true := by kernel_rfl
@[simp] theorem un3 : Tryz.prog.underlying 3 = some (.int .i64) := by kernel_rfl
@[simp] theorem un9 : Tryz.prog.underlying 9 = some .string := by kernel_rfl
@[simp] theorem un28 : Tryz.prog.underlying 28 = some (.slice 9) := by kernel_rfl
@[simp] theorem ln28 (c : Cx) (st : St) (x : V) : builtinE Tryz.prog c .len [28] [x] st = lenS st x := len_slice un28 x
@[simp] theorem ix28 {β : Type} (m o len cap i : Nat) (k : V → Option β) : idxE Tryz.prog 28 (.sl m o len cap) i k = if i < len then k (.p m (o + i * 1)) else none := idxE_sl un28 (fun k => sz9 k) m o len cap i k
@[simp] theorem iy28 {β : Type} (m o len w i : Nat) (k : V → Option β) : idxE Tryz.prog 28 (.sg m o len w) i k = if i < len then k (.p m (o + i * 1)) else none := idxE_sg un28 (fun k => sz9 k) m o len w i k
@[simp] theorem el28 {β : Type} (k : TypeId → Nat → Option β) : Ev.elemOf Tryz.prog 28 k = k 9 1 := by kernel_rfl
@[simp] theorem un90 : Tryz.prog.underlying 90 = some (.slice 109) := by kernel_rfl
@[simp] theorem ln90 (c : Cx) (st : St) (x : V) : builtinE Tryz.prog c .len [90] [x] st = lenS st x := len_slice un90 x
@[simp] theorem ix90 {β : Type} (m o len cap i : Nat) (k : V → Option β) : idxE Tryz.prog 90 (.sl m o len cap) i k = if i < len then k (.p m (o + i * 2)) else none := idxE_sl un90 (fun k => sz109 k) m o len cap i k
@[simp] theorem iy90 {β : Type} (m o len w i : Nat) (k : V → Option β) : idxE Tryz.prog 90 (.sg m o len w) i k = if i < len then k (.p m (o + i * 2)) else none := idxE_sg un90 (fun k => sz109 k) m o len w i k
@[simp] theorem el90 {β : Type} (k : TypeId → Nat → Option β) : Ev.elemOf Tryz.prog 90 k = k 109 2 := by kernel_rfl
@[simp] theorem bz109 (st : St) : bldK Tryz.prog 109 [] [] [.s [], .int .i64 0] st = some (.g [.s [], .int .i64 0], st) := by kernel_rfl
theorem so109 : structOk Tryz.prog 109 [(0, 1), (1, 1)] = true := by kernel_rfl
@[simp] theorem bl109 (x0 x1 : Operand) (a0 a1 : V) (st : St) (h0 : a0.one = true) (h1 : a1.one = true) : bldK Tryz.prog 109 [(0, x0), (1, x1)] [a0, a1] [.s [], .int .i64 0] st = some (.g [a0, a1], st) := by
  rw [bldK_ok so109, partsK_one rfl h0 (by simp), partsK_one rfl h1 (by simp)]; rfl
@[simp] theorem fk109_0 (k : Nat → Nat → Res) : fieldK Tryz.prog 109 0 k = k 1 0 := by kernel_rfl
@[simp] theorem fk109_1 (k : Nat → Nat → Res) : fieldK Tryz.prog 109 1 k = k 1 1 := by kernel_rfl
end Go.Proofs.YtgcpgidofikcdaaGreatDoor

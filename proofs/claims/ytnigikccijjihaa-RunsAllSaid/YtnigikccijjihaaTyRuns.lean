/-
  PLAIN: what the program's own tables say, as rules for rewriting.
-/
import Derived.Test.YtnigikccijjihaaChecked
import Derived.Test.YtnigikccijjihaaRw
namespace Go.Proofs.Ytnigikccijjihaa
open Go.RowKit Ev
-- lintel/lintellaw10.RunsAll
@[simp] theorem nt16 : Try.f16.ntmps = 95 := rfl
@[simp] theorem rs16 : Try.f16.results.toList = [.tmp 2] := rfl
@[simp] theorem xt16 : ext? Try.prog 16 = none := by kernel_rfl
-- lintel/lintellaw10.awake
@[simp] theorem nt79 : Try.f79.ntmps = 16 := rfl
@[simp] theorem rs79 : Try.f79.results.toList = [.tmp 0] := rfl
@[simp] theorem xt79 : ext? Try.prog 79 = none := by kernel_rfl
-- lintel/runs.At
@[simp] theorem nt80 : Try.f80.ntmps = 30 := rfl
@[simp] theorem rs80 : Try.f80.results.toList = [.tmp 4, .tmp 5] := rfl
@[simp] theorem xt80 : ext? Try.prog 80 = none := by kernel_rfl
-- lintel/runs.Total
@[simp] theorem nt83 : Try.f83.ntmps = 19 := rfl
@[simp] theorem rs83 : Try.f83.results.toList = [.tmp 2] := rfl
@[simp] theorem xt83 : ext? Try.prog 83 = none := by kernel_rfl
-- lintel/lintellaw10.alike
@[simp] theorem nt84 : Try.f84.ntmps = 26 := rfl
@[simp] theorem rs84 : Try.f84.results.toList = [.tmp 4] := rfl
@[simp] theorem xt84 : ext? Try.prog 84 = none := by kernel_rfl
-- lintel/lintellaw10.own
@[simp] theorem nt85 : Try.f85.ntmps = 26 := rfl
@[simp] theorem rs85 : Try.f85.results.toList = [.tmp 2] := rfl
@[simp] theorem xt85 : ext? Try.prog 85 = none := by kernel_rfl
-- lintel/runs.Merge
@[simp] theorem nt87 : Try.f87.ntmps = 51 := rfl
@[simp] theorem rs87 : Try.f87.results.toList = [.tmp 2] := rfl
@[simp] theorem xt87 : ext? Try.prog 87 = none := by kernel_rfl
-- lintel/runs.Add
@[simp] theorem nt138 : Try.f138.ntmps = 10 := rfl
@[simp] theorem rs138 : Try.f138.results.toList = [.tmp 4] := rfl
@[simp] theorem xt138 : ext? Try.prog 138 = none := by kernel_rfl
-- lintel/runs.counted
@[simp] theorem nt139 : Try.f139.ntmps = 36 := rfl
@[simp] theorem rs139 : Try.f139.results.toList = [.tmp 2] := rfl
@[simp] theorem xt139 : ext? Try.prog 139 = none := by kernel_rfl
-- slices.Concat[[]lintel/node.Run,lintel/node.Run]
@[simp] theorem nt160 : Try.f160.ntmps = 36 := rfl
@[simp] theorem rs160 : Try.f160.results.toList = [.tmp 2] := rfl
@[simp] theorem xt160 : ext? Try.prog 160 = none := by kernel_rfl
-- slices.Grow[[]lintel/node.Run,lintel/node.Run]
@[simp] theorem nt172 : Try.f172.ntmps = 27 := rfl
@[simp] theorem rs172 : Try.f172.results.toList = [.tmp 4] := rfl
@[simp] theorem xt172 : ext? Try.prog 172 = none := by kernel_rfl
@[simp] theorem ag3 : agg? Try.prog 3 = some false := by kernel_rfl
@[simp] theorem sz3 {β : Type} (k : Nat → Option β) : szOf Try.prog 3 k = k 1 := by kernel_rfl
@[simp] theorem ze3 {β : Type} (k : List V → Option β) : zero Try.prog 3 k = k [.int .i64 0] := by kernel_rfl
theorem io3 : infoOk Try.prog 3 1 = true := by kernel_rfl
@[simp] theorem ag4 : agg? Try.prog 4 = some false := by kernel_rfl
@[simp] theorem sz4 {β : Type} (k : Nat → Option β) : szOf Try.prog 4 k = k 1 := by kernel_rfl
@[simp] theorem ze4 {β : Type} (k : List V → Option β) : zero Try.prog 4 k = k [.bool false] := by kernel_rfl
theorem io4 : infoOk Try.prog 4 1 = true := by kernel_rfl
@[simp] theorem ag87 : agg? Try.prog 87 = some true := by kernel_rfl
@[simp] theorem sz87 {β : Type} (k : Nat → Option β) : szOf Try.prog 87 k = k 2 := by kernel_rfl
@[simp] theorem ze87 {β : Type} (k : List V → Option β) : zero Try.prog 87 k = k [.int .i64 0, .int .i64 0] := by kernel_rfl
theorem io87 : infoOk Try.prog 87 2 = true := by kernel_rfl
@[simp] theorem ag88 : agg? Try.prog 88 = some false := by kernel_rfl
@[simp] theorem sz88 {β : Type} (k : Nat → Option β) : szOf Try.prog 88 k = k 1 := by kernel_rfl
@[simp] theorem ze88 {β : Type} (k : List V → Option β) : zero Try.prog 88 k = k [.c (.slice none 0 0)] := by kernel_rfl
theorem io88 : infoOk Try.prog 88 1 = true := by kernel_rfl
@[simp] theorem ag95 : agg? Try.prog 95 = some false := by kernel_rfl
@[simp] theorem sz95 {β : Type} (k : Nat → Option β) : szOf Try.prog 95 k = k 1 := by kernel_rfl
@[simp] theorem ze95 {β : Type} (k : List V → Option β) : zero Try.prog 95 k = k [.c (.slice none 0 0)] := by kernel_rfl
theorem io95 : infoOk Try.prog 95 1 = true := by kernel_rfl
@[simp] theorem ag97 : agg? Try.prog 97 = some true := by kernel_rfl
@[simp] theorem sz97 {β : Type} (k : Nat → Option β) : szOf Try.prog 97 k = k 2 := by kernel_rfl
@[simp] theorem ze97 {β : Type} (k : List V → Option β) : zero Try.prog 97 k = k [.int .i64 0, .int .i64 0] := by kernel_rfl
theorem io97 : infoOk Try.prog 97 2 = true := by kernel_rfl
@[simp] theorem ag212 : agg? Try.prog 212 = some false := by kernel_rfl
@[simp] theorem sz212 {β : Type} (k : Nat → Option β) : szOf Try.prog 212 k = k 1 := by kernel_rfl
@[simp] theorem ze212 {β : Type} (k : List V → Option β) : zero Try.prog 212 k = k [.c (.slice none 0 0)] := by kernel_rfl
theorem io212 : infoOk Try.prog 212 1 = true := by kernel_rfl
@[simp] theorem un3 : Try.prog.underlying 3 = some (.int .i64) := by kernel_rfl
@[simp] theorem fk87_0 (k : Nat → Nat → Res) : fieldK Try.prog 87 0 k = k 1 0 := by kernel_rfl
@[simp] theorem fk87_1 (k : Nat → Nat → Res) : fieldK Try.prog 87 1 k = k 1 1 := by kernel_rfl
@[simp] theorem un88 : Try.prog.underlying 88 = some (.slice 87) := by kernel_rfl
@[simp] theorem ln88 (c : Cx) (st : St) (x : V) : builtinE Try.prog c .len [88] [x] st = lenS st x := len_slice un88 x
@[simp] theorem ix88 {β : Type} (m o len cap i : Nat) (k : V → Option β) : idxE Try.prog 88 (.sl m o len cap) i k = if i < len then k (.p m (o + i * 2)) else none := idxE_sl un88 (fun k => sz87 k) m o len cap i k
@[simp] theorem iy88 {β : Type} (m o len w i : Nat) (k : V → Option β) : idxE Try.prog 88 (.sg m o len w) i k = if i < len then k (.p m (o + i * 2)) else none := idxE_sg un88 (fun k => sz87 k) m o len w i k
@[simp] theorem el88 {β : Type} (k : TypeId → Nat → Option β) : Ev.elemOf Try.prog 88 k = k 87 2 := by kernel_rfl
@[simp] theorem un95 : Try.prog.underlying 95 = some (.slice 97) := by kernel_rfl
@[simp] theorem ln95 (c : Cx) (st : St) (x : V) : builtinE Try.prog c .len [95] [x] st = lenS st x := len_slice un95 x
@[simp] theorem ix95 {β : Type} (m o len cap i : Nat) (k : V → Option β) : idxE Try.prog 95 (.sl m o len cap) i k = if i < len then k (.p m (o + i * 2)) else none := idxE_sl un95 (fun k => sz97 k) m o len cap i k
@[simp] theorem iy95 {β : Type} (m o len w i : Nat) (k : V → Option β) : idxE Try.prog 95 (.sg m o len w) i k = if i < len then k (.p m (o + i * 2)) else none := idxE_sg un95 (fun k => sz97 k) m o len w i k
@[simp] theorem el95 {β : Type} (k : TypeId → Nat → Option β) : Ev.elemOf Try.prog 95 k = k 97 2 := by kernel_rfl
@[simp] theorem fk97_0 (k : Nat → Nat → Res) : fieldK Try.prog 97 0 k = k 1 0 := by kernel_rfl
@[simp] theorem fk97_1 (k : Nat → Nat → Res) : fieldK Try.prog 97 1 k = k 1 1 := by kernel_rfl
@[simp] theorem un212 : Try.prog.underlying 212 = some (.slice 88) := by kernel_rfl
@[simp] theorem ln212 (c : Cx) (st : St) (x : V) : builtinE Try.prog c .len [212] [x] st = lenS st x := len_slice un212 x
@[simp] theorem ix212 {β : Type} (m o len cap i : Nat) (k : V → Option β) : idxE Try.prog 212 (.sl m o len cap) i k = if i < len then k (.p m (o + i * 1)) else none := idxE_sl un212 (fun k => sz88 k) m o len cap i k
@[simp] theorem iy212 {β : Type} (m o len w i : Nat) (k : V → Option β) : idxE Try.prog 212 (.sg m o len w) i k = if i < len then k (.p m (o + i * 1)) else none := idxE_sg un212 (fun k => sz88 k) m o len w i k
@[simp] theorem el212 {β : Type} (k : TypeId → Nat → Option β) : Ev.elemOf Try.prog 212 k = k 88 1 := by kernel_rfl
end Go.Proofs.Ytnigikccijjihaa

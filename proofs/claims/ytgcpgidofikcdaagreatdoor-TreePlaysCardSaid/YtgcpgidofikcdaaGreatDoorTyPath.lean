/-
  PLAIN: what the program's own tables say, as rules for rewriting.
-/
import Derived.Test.YtgcpgidofikcdaaGreatDoorChecked
import Derived.Test.YtgcpgidofikcdaaGreatDoorSb
namespace Go.Proofs.YtgcpgidofikcdaaGreatDoor
open Go.RowKit Ev
@[simp] theorem nt178:Tryz.f178.ntmps = 38:=rfl
@[simp] theorem rs178:Tryz.f178.results.toList = [.tmp 2,.tmp 3]:=rfl
@[simp] theorem xt178:ext? Tryz.prog 178 = none:=by kernel_rfl
@[simp] theorem nt112:Tryz.f112.ntmps = 43:=rfl
@[simp] theorem rs112:Tryz.f112.results.toList = [.tmp 2,.tmp 3,.tmp 4]:=rfl
@[simp] theorem xt112:ext? Tryz.prog 112 = none:=by kernel_rfl
@[simp] theorem nt136:Tryz.f136.ntmps = 45:=rfl
@[simp] theorem rs136:Tryz.f136.results.toList = [.tmp 2,.tmp 3]:=rfl
@[simp] theorem xt136:ext? Tryz.prog 136 = none:=by kernel_rfl
@[simp] theorem nt134:Tryz.f134.ntmps = 54:=rfl
@[simp] theorem rs134:Tryz.f134.results.toList = [.tmp 2,.tmp 3,.tmp 4]:=rfl
@[simp] theorem xt134:ext? Tryz.prog 134 = none:=by kernel_rfl
@[simp] theorem nt229:Tryz.f229.ntmps = 8:=rfl
@[simp] theorem rs229:Tryz.f229.results.toList = [.tmp 4]:=rfl
@[simp] theorem xt229:ext? Tryz.prog 229 = none:=by kernel_rfl
@[simp] theorem nt230:Tryz.f230.ntmps = 9:=rfl
@[simp] theorem rs230:Tryz.f230.results.toList = [.tmp 4]:=rfl
@[simp] theorem xt230:ext? Tryz.prog 230 = none:=by kernel_rfl
@[simp] theorem nt181:Tryz.f181.ntmps = 8:=rfl
@[simp] theorem rs181:Tryz.f181.results.toList = [.tmp 4]:=rfl
@[simp] theorem xt181:ext? Tryz.prog 181 = none:=by kernel_rfl
@[simp] theorem nt192:Tryz.f192.ntmps = 37:=rfl
@[simp] theorem rs192:Tryz.f192.results.toList = [.tmp 2]:=rfl
@[simp] theorem xt192:ext? Tryz.prog 192 = none:=by kernel_rfl
@[simp] theorem nt193:Tryz.f193.ntmps = 17:=rfl
@[simp] theorem rs193:Tryz.f193.results.toList = [.tmp 2]:=rfl
@[simp] theorem xt193:ext? Tryz.prog 193 = none:=by kernel_rfl
@[simp] theorem nt269:Tryz.f269.ntmps = 66:=rfl
@[simp] theorem rs269:Tryz.f269.results.toList = [.tmp 8]:=rfl
@[simp] theorem xt269:ext? Tryz.prog 269 = none:=by kernel_rfl
@[simp] theorem nt270:Tryz.f270.ntmps = 8:=rfl
@[simp] theorem rs270:Tryz.f270.results.toList = [.tmp 4]:=rfl
@[simp] theorem xt270:ext? Tryz.prog 270 = none:=by kernel_rfl
@[simp] theorem nt232:Tryz.f232.ntmps = 21:=rfl
@[simp] theorem rs232:Tryz.f232.results.toList = [.tmp 4]:=rfl
@[simp] theorem xt232:ext? Tryz.prog 232 = none:=by kernel_rfl
@[simp] theorem nt287:Tryz.f287.ntmps = 34:=rfl
@[simp] theorem rs287:Tryz.f287.results.toList = [.tmp 4]:=rfl
@[simp] theorem xt287:ext? Tryz.prog 287 = none:=by kernel_rfl
@[simp] theorem nt288:Tryz.f288.ntmps = 143:=rfl
@[simp] theorem rs288:Tryz.f288.results.toList = [.tmp 4]:=rfl
@[simp] theorem xt288:ext? Tryz.prog 288 = none:=by kernel_rfl
@[simp] theorem nt297:Tryz.f297.ntmps = 8:=rfl
@[simp] theorem rs297:Tryz.f297.results.toList = [.tmp 4]:=rfl
@[simp] theorem xt297:ext? Tryz.prog 297 = none:=by kernel_rfl
@[simp] theorem ag3:agg? Tryz.prog 3 = some false:=by kernel_rfl
@[simp] theorem sz3 {β:Type} (k:Nat → Option β):szOf Tryz.prog 3 k = k 1:=by kernel_rfl
@[simp] theorem sz5 {β:Type} (k:Nat → Option β):szOf Tryz.prog 5 k = k 1:=by kernel_rfl
@[simp] theorem ze5 {β:Type} (k:List V → Option β):zero Tryz.prog 5 k = k [.int .u8 0]:=by kernel_rfl
theorem io5:infoOk Tryz.prog 5 1 = true:=by kernel_rfl
@[simp] theorem ag9:agg? Tryz.prog 9 = some false:=by kernel_rfl
@[simp] theorem sz9 {β:Type} (k:Nat → Option β):szOf Tryz.prog 9 k = k 1:=by kernel_rfl
@[simp] theorem ze9 {β:Type} (k:List V → Option β):zero Tryz.prog 9 k = k [.s []]:=by kernel_rfl
theorem io9:infoOk Tryz.prog 9 1 = true:=by kernel_rfl
@[simp] theorem ag28:agg? Tryz.prog 28 = some false:=by kernel_rfl
@[simp] theorem sz28 {β:Type} (k:Nat → Option β):szOf Tryz.prog 28 k = k 1:=by kernel_rfl
@[simp] theorem ag25:agg? Tryz.prog 25 = some false:=by kernel_rfl
@[simp] theorem sz25 {β:Type} (k:Nat → Option β):szOf Tryz.prog 25 k = k 1:=by kernel_rfl
@[simp] theorem ag27:agg? Tryz.prog 27 = some false:=by kernel_rfl
@[simp] theorem sz27 {β:Type} (k:Nat → Option β):szOf Tryz.prog 27 k = k 1:=by kernel_rfl
@[simp] theorem un3:Tryz.prog.underlying 3 = some (.int .i64):=by kernel_rfl
@[simp] theorem un5:Tryz.prog.underlying 5 = some (.int .u8):=by kernel_rfl
@[simp] theorem un9:Tryz.prog.underlying 9 = some .string:=by kernel_rfl
@[simp] theorem un28:Tryz.prog.underlying 28 = some (.slice 9):=by kernel_rfl
@[simp] theorem ln28 (c:Cx) (st:St) (x:V):builtinE Tryz.prog c .len [28] [x] st = lenS st x:=len_slice un28 x
@[simp] theorem ix28 {β:Type} (m o len cap i:Nat) (k:V → Option β):idxE Tryz.prog 28 (.sl m o len cap) i k = if i < len then k (.p m (o + i * 1)) else none:=idxE_sl un28 (fun k => sz9 k) m o len cap i k
@[simp] theorem iy28 {β:Type} (m o len w i:Nat) (k:V → Option β):idxE Tryz.prog 28 (.sg m o len w) i k = if i < len then k (.p m (o + i * 1)) else none:=idxE_sg un28 (fun k => sz9 k) m o len w i k
@[simp] theorem el28 {β:Type} (k:TypeId → Nat → Option β):Ev.elemOf Tryz.prog 28 k = k 9 1:=by kernel_rfl
@[simp] theorem un27:Tryz.prog.underlying 27 = some (.slice 5):=by kernel_rfl
@[simp] theorem ln27 (c:Cx) (st:St) (x:V):builtinE Tryz.prog c .len [27] [x] st = lenS st x:=len_slice un27 x
@[simp] theorem el27 {β:Type} (k:TypeId → Nat → Option β):Ev.elemOf Tryz.prog 27 k = k 5 1:=by kernel_rfl
theorem so243:structOk Tryz.prog 243 [(0,1),(1,1)] = true:=by kernel_rfl
@[simp] theorem bl243 (x0 x1:Operand) (a0 a1:V) (st:St) (h0:a0.one = true) (h1:a1.one = true):bldK Tryz.prog 243 [(0,x0),(1,x1)] [a0,a1] [.c (.pointer none),.c (.slice none 0 0)] st = some (.g [a0,a1],st):=by
 rw [bldK_ok so243,partsK_one rfl h0 (by simp),partsK_one rfl h1 (by simp)]; rfl
theorem so353:structOk Tryz.prog 353 [(0,1),(1,1)] = true:=by kernel_rfl
@[simp] theorem bl353 (x0 x1:Operand) (a0 a1:V) (st:St) (h0:a0.one = true) (h1:a1.one = true):bldK Tryz.prog 353 [(0,x0),(1,x1)] [a0,a1] [.int .u8 0,.int .u8 0] st = some (.g [a0,a1],st):=by
 rw [bldK_ok so353,partsK_one rfl h0 (by simp),partsK_one rfl h1 (by simp)]; rfl
end Go.Proofs.YtgcpgidofikcdaaGreatDoor

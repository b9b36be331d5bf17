/-
  PLAIN: what the program's own tables say, as rules for rewriting.
-/
import Derived.Test.YtgcpgidofikcdaaGreatDoorChecked
import Derived.Test.YtgcpgidofikcdaaGreatDoorTyTree
namespace Go.Proofs.YtgcpgidofikcdaaGreatDoor
open Go.RowKit Ev
@[simp] theorem nt4:Tryz.f4.ntmps = 69:=rfl
@[simp] theorem rs4:Tryz.f4.results.toList = [.tmp 4]:=rfl
@[simp] theorem nt17:Tryz.f17.ntmps = 17:=rfl
@[simp] theorem rs17:Tryz.f17.results.toList = [.tmp 2]:=rfl
@[simp] theorem xt17:ext? Tryz.prog 17 = none:=by kernel_rfl
@[simp] theorem nt18:Tryz.f18.ntmps = 27:=rfl
@[simp] theorem rs18:Tryz.f18.results.toList = [.tmp 2]:=rfl
@[simp] theorem xt18:ext? Tryz.prog 18 = none:=by kernel_rfl
@[simp] theorem nt21:Tryz.f21.ntmps = 53:=rfl
@[simp] theorem rs21:Tryz.f21.results.toList = [.tmp 4]:=rfl
@[simp] theorem xt21:ext? Tryz.prog 21 = none:=by kernel_rfl
@[simp] theorem nt22:Tryz.f22.ntmps = 133:=rfl
@[simp] theorem rs22:Tryz.f22.results.toList = [.cell 4 48]:=rfl
@[simp] theorem xt22:ext? Tryz.prog 22 = none:=by kernel_rfl
@[simp] theorem nt23:Tryz.f23.ntmps = 17:=rfl
@[simp] theorem rs23:Tryz.f23.results.toList = [.cell 2 51]:=rfl
@[simp] theorem xt23:ext? Tryz.prog 23 = none:=by kernel_rfl
@[simp] theorem nt24:Tryz.f24.ntmps = 27:=rfl
@[simp] theorem rs24:Tryz.f24.results.toList = [.tmp 4]:=rfl
@[simp] theorem xt24:ext? Tryz.prog 24 = none:=by kernel_rfl
@[simp] theorem nt25:Tryz.f25.ntmps = 69:=rfl
@[simp] theorem rs25:Tryz.f25.results.toList = [.tmp 2]:=rfl
@[simp] theorem xt25:ext? Tryz.prog 25 = none:=by kernel_rfl
@[simp] theorem nt26:Tryz.f26.ntmps = 33:=rfl
@[simp] theorem rs26:Tryz.f26.results.toList = [.tmp 2]:=rfl
@[simp] theorem xt26:ext? Tryz.prog 26 = none:=by kernel_rfl
@[simp] theorem nt64:Tryz.f64.ntmps = 46:=rfl
@[simp] theorem rs64:Tryz.f64.results.toList = [.cell 8 48]:=rfl
@[simp] theorem xt64:ext? Tryz.prog 64 = none:=by kernel_rfl
@[simp] theorem nt65:Tryz.f65.ntmps = 55:=rfl
@[simp] theorem rs65:Tryz.f65.results.toList = [.cell 4 48]:=rfl
@[simp] theorem xt65:ext? Tryz.prog 65 = none:=by kernel_rfl
@[simp] theorem nt66:Tryz.f66.ntmps = 88:=rfl
@[simp] theorem rs66:Tryz.f66.results.toList = [.cell 4 48]:=rfl
@[simp] theorem xt66:ext? Tryz.prog 66 = none:=by kernel_rfl
@[simp] theorem nt67:Tryz.f67.ntmps = 179:=rfl
@[simp] theorem rs67:Tryz.f67.results.toList = [.cell 4 48]:=rfl
@[simp] theorem xt67:ext? Tryz.prog 67 = none:=by kernel_rfl
@[simp] theorem nt68:Tryz.f68.ntmps = 5:=rfl
@[simp] theorem rs68:Tryz.f68.results.toList = [.cell 2 48]:=rfl
@[simp] theorem xt68:ext? Tryz.prog 68 = none:=by kernel_rfl
@[simp] theorem nt69:Tryz.f69.ntmps = 31:=rfl
@[simp] theorem rs69:Tryz.f69.results.toList = [.tmp 6,.tmp 7]:=rfl
@[simp] theorem xt69:ext? Tryz.prog 69 = none:=by kernel_rfl
@[simp] theorem nt70:Tryz.f70.ntmps = 43:=rfl
@[simp] theorem rs70:Tryz.f70.results.toList = [.cell 4 48]:=rfl
@[simp] theorem xt70:ext? Tryz.prog 70 = none:=by kernel_rfl
@[simp] theorem nt71:Tryz.f71.ntmps = 166:=rfl
@[simp] theorem rs71:Tryz.f71.results.toList = [.cell 4 48]:=rfl
@[simp] theorem xt71:ext? Tryz.prog 71 = none:=by kernel_rfl
@[simp] theorem nt72:Tryz.f72.ntmps = 36:=rfl
@[simp] theorem rs72:Tryz.f72.results.toList = [.tmp 4]:=rfl
@[simp] theorem xt72:ext? Tryz.prog 72 = none:=by kernel_rfl
@[simp] theorem nt73:Tryz.f73.ntmps = 52:=rfl
@[simp] theorem rs73:Tryz.f73.results.toList = [.tmp 4]:=rfl
@[simp] theorem xt73:ext? Tryz.prog 73 = none:=by kernel_rfl
@[simp] theorem nt127:Tryz.f127.ntmps = 32:=rfl
@[simp] theorem rs127:Tryz.f127.results.toList = [.tmp 4,.tmp 5,.tmp 6]:=rfl
@[simp] theorem xt127:ext? Tryz.prog 127 = none:=by kernel_rfl
@[simp] theorem nt128:Tryz.f128.ntmps = 22:=rfl
@[simp] theorem rs128:Tryz.f128.results.toList = [.tmp 2]:=rfl
@[simp] theorem xt128:ext? Tryz.prog 128 = none:=by kernel_rfl
@[simp] theorem nt129:Tryz.f129.ntmps = 27:=rfl
@[simp] theorem rs129:Tryz.f129.results.toList = []:=rfl
@[simp] theorem xt129:ext? Tryz.prog 129 = none:=by kernel_rfl
@[simp] theorem nt130:Tryz.f130.ntmps = 46:=rfl
@[simp] theorem rs130:Tryz.f130.results.toList = [.tmp 4]:=rfl
@[simp] theorem xt130:ext? Tryz.prog 130 = none:=by kernel_rfl
@[simp] theorem nt131:Tryz.f131.ntmps = 43:=rfl
@[simp] theorem rs131:Tryz.f131.results.toList = [.tmp 4,.tmp 5,.tmp 6]:=rfl
@[simp] theorem xt131:ext? Tryz.prog 131 = none:=by kernel_rfl
@[simp] theorem nt132:Tryz.f132.ntmps = 38:=rfl
@[simp] theorem rs132:Tryz.f132.results.toList = [.tmp 6]:=rfl
@[simp] theorem xt132:ext? Tryz.prog 132 = none:=by kernel_rfl
@[simp] theorem nt133:Tryz.f133.ntmps = 72:=rfl
@[simp] theorem rs133:Tryz.f133.results.toList = []:=rfl
@[simp] theorem xt133:ext? Tryz.prog 133 = none:=by kernel_rfl
@[simp] theorem nt134:Tryz.f134.ntmps = 54:=rfl
@[simp] theorem rs134:Tryz.f134.results.toList = [.tmp 2,.tmp 3,.tmp 4]:=rfl
@[simp] theorem xt134:ext? Tryz.prog 134 = none:=by kernel_rfl
@[simp] theorem nt135:Tryz.f135.ntmps = 22:=rfl
@[simp] theorem rs135:Tryz.f135.results.toList = [.tmp 6]:=rfl
@[simp] theorem xt135:ext? Tryz.prog 135 = none:=by kernel_rfl
@[simp] theorem nt136:Tryz.f136.ntmps = 45:=rfl
@[simp] theorem rs136:Tryz.f136.results.toList = [.tmp 2,.tmp 3]:=rfl
@[simp] theorem xt136:ext? Tryz.prog 136 = none:=by kernel_rfl
@[simp] theorem nt137:Tryz.f137.ntmps = 123:=rfl
@[simp] theorem rs137:Tryz.f137.results.toList = [.tmp 10,.tmp 11,.tmp 12]:=rfl
@[simp] theorem xt137:ext? Tryz.prog 137 = none:=by kernel_rfl
@[simp] theorem nt138:Tryz.f138.ntmps = 18:=rfl
@[simp] theorem rs138:Tryz.f138.results.toList = [.tmp 4]:=rfl
@[simp] theorem xt138:ext? Tryz.prog 138 = none:=by kernel_rfl
@[simp] theorem nt139:Tryz.f139.ntmps = 34:=rfl
@[simp] theorem rs139:Tryz.f139.results.toList = [.tmp 4]:=rfl
@[simp] theorem xt139:ext? Tryz.prog 139 = none:=by kernel_rfl
@[simp] theorem nt190:Tryz.f190.ntmps = 20:=rfl
@[simp] theorem rs190:Tryz.f190.results.toList = [.tmp 4]:=rfl
@[simp] theorem xt190:ext? Tryz.prog 190 = none:=by kernel_rfl
@[simp] theorem nt191:Tryz.f191.ntmps = 10:=rfl
@[simp] theorem rs191:Tryz.f191.results.toList = [.tmp 4]:=rfl
@[simp] theorem xt191:ext? Tryz.prog 191 = none:=by kernel_rfl
@[simp] theorem nt192:Tryz.f192.ntmps = 37:=rfl
@[simp] theorem rs192:Tryz.f192.results.toList = [.tmp 2]:=rfl
@[simp] theorem xt192:ext? Tryz.prog 192 = none:=by kernel_rfl
@[simp] theorem nt193:Tryz.f193.ntmps = 17:=rfl
@[simp] theorem rs193:Tryz.f193.results.toList = [.tmp 2]:=rfl
@[simp] theorem xt193:ext? Tryz.prog 193 = none:=by kernel_rfl
@[simp] theorem nt245:Tryz.f245.ntmps = 43:=rfl
@[simp] theorem rs245:Tryz.f245.results.toList = [.tmp 4]:=rfl
@[simp] theorem xt245:ext? Tryz.prog 245 = none:=by kernel_rfl
@[simp] theorem sz2 {β:Type} (k:Nat → Option β):szOf Tryz.prog 2 k = k 1:=by kernel_rfl
@[simp] theorem ag48:agg? Tryz.prog 48 = some true:=by kernel_rfl
@[simp] theorem sz48 {β:Type} (k:Nat → Option β):szOf Tryz.prog 48 k = k 7:=by kernel_rfl
@[simp] theorem ze48 {β:Type} (k:List V → Option β):zero Tryz.prog 48 k = k [.int .i64 0,.int .i64 0,.int .i64 0,.int .i64 0,.int .i64 0,.s [],.c (.slice none 0 0)]:=by kernel_rfl
@[simp] theorem ag51:agg? Tryz.prog 51 = some true:=by kernel_rfl
@[simp] theorem sz51 {β:Type} (k:Nat → Option β):szOf Tryz.prog 51 k = k 6:=by kernel_rfl
@[simp] theorem ze51 {β:Type} (k:List V → Option β):zero Tryz.prog 51 k = k [.int .i64 0,.s [],.s [],.int .i64 0,.int .i64 0,.s []]:=by kernel_rfl
@[simp] theorem ag54:agg? Tryz.prog 54 = some false:=by kernel_rfl
@[simp] theorem sz54 {β:Type} (k:Nat → Option β):szOf Tryz.prog 54 k = k 1:=by kernel_rfl
@[simp] theorem ze115 {β:Type} (k:List V → Option β):zero Tryz.prog 115 k = k [.int .i64 0,.c (.slice none 0 0)]:=by kernel_rfl
@[simp] theorem ag116:agg? Tryz.prog 116 = some false:=by kernel_rfl
@[simp] theorem sz116 {β:Type} (k:Nat → Option β):szOf Tryz.prog 116 k = k 1:=by kernel_rfl
@[simp] theorem ag118:agg? Tryz.prog 118 = some true:=by kernel_rfl
@[simp] theorem sz118 {β:Type} (k:Nat → Option β):szOf Tryz.prog 118 k = k 4:=by kernel_rfl
@[simp] theorem ze118 {β:Type} (k:List V → Option β):zero Tryz.prog 118 k = k [.int .i64 0,.int .i64 0,.s [],.c (.slice none 0 0)]:=by kernel_rfl
theorem io118:infoOk Tryz.prog 118 4 = true:=by kernel_rfl
@[simp] theorem ag127:agg? Tryz.prog 127 = some true:=by kernel_rfl
@[simp] theorem sz127 {β:Type} (k:Nat → Option β):szOf Tryz.prog 127 k = k 2:=by kernel_rfl
@[simp] theorem ze127 {β:Type} (k:List V → Option β):zero Tryz.prog 127 k = k [.s [],.int .i64 0]:=by kernel_rfl
theorem io127:infoOk Tryz.prog 127 2 = true:=by kernel_rfl
theorem so48:structOk Tryz.prog 48 [(0,1),(1,1),(2,1),(3,1),(4,1),(5,1),(6,1)] = true:=by kernel_rfl
@[simp] theorem bl48 (x0 x1 x2 x3 x4 x5 x6:Operand) (a0 a1 a2 a3 a4 a5 a6:V) (st:St) (h0:a0.one = true) (h1:a1.one = true) (h2:a2.one = true) (h3:a3.one = true) (h4:a4.one = true) (h5:a5.one = true) (h6:a6.one = true):bldK Tryz.prog 48 [(0,x0),(1,x1),(2,x2),(3,x3),(4,x4),(5,x5),(6,x6)] [a0,a1,a2,a3,a4,a5,a6] [.int .i64 0,.int .i64 0,.int .i64 0,.int .i64 0,.int .i64 0,.s [],.c (.slice none 0 0)] st = some (.g [a0,a1,a2,a3,a4,a5,a6],st):=by
 rw [bldK_ok so48,partsK_one rfl h0 (by simp),partsK_one rfl h1 (by simp),partsK_one rfl h2 (by simp),partsK_one rfl h3 (by simp),partsK_one rfl h4 (by simp),partsK_one rfl h5 (by simp),partsK_one rfl h6 (by simp)]; rfl
@[simp] theorem fk48_0 (k:Nat → Nat → Res):fieldK Tryz.prog 48 0 k = k 1 0:=by kernel_rfl
@[simp] theorem fk48_1 (k:Nat → Nat → Res):fieldK Tryz.prog 48 1 k = k 1 1:=by kernel_rfl
@[simp] theorem fk48_2 (k:Nat → Nat → Res):fieldK Tryz.prog 48 2 k = k 1 2:=by kernel_rfl
@[simp] theorem fk48_3 (k:Nat → Nat → Res):fieldK Tryz.prog 48 3 k = k 1 3:=by kernel_rfl
@[simp] theorem fk48_4 (k:Nat → Nat → Res):fieldK Tryz.prog 48 4 k = k 1 4:=by kernel_rfl
@[simp] theorem fk48_5 (k:Nat → Nat → Res):fieldK Tryz.prog 48 5 k = k 1 5:=by kernel_rfl
@[simp] theorem fk48_6 (k:Nat → Nat → Res):fieldK Tryz.prog 48 6 k = k 1 6:=by kernel_rfl
theorem so51:structOk Tryz.prog 51 [(0,1),(1,1),(2,1),(3,1),(4,1),(5,1)] = true:=by kernel_rfl
@[simp] theorem bl51 (x0 x1 x2 x3 x4 x5:Operand) (a0 a1 a2 a3 a4 a5:V) (st:St) (h0:a0.one = true) (h1:a1.one = true) (h2:a2.one = true) (h3:a3.one = true) (h4:a4.one = true) (h5:a5.one = true):bldK Tryz.prog 51 [(0,x0),(1,x1),(2,x2),(3,x3),(4,x4),(5,x5)] [a0,a1,a2,a3,a4,a5] [.int .i64 0,.s [],.s [],.int .i64 0,.int .i64 0,.s []] st = some (.g [a0,a1,a2,a3,a4,a5],st):=by
 rw [bldK_ok so51,partsK_one rfl h0 (by simp),partsK_one rfl h1 (by simp),partsK_one rfl h2 (by simp),partsK_one rfl h3 (by simp),partsK_one rfl h4 (by simp),partsK_one rfl h5 (by simp)]; rfl
@[simp] theorem fk51_0 (k:Nat → Nat → Res):fieldK Tryz.prog 51 0 k = k 1 0:=by kernel_rfl
@[simp] theorem fk51_1 (k:Nat → Nat → Res):fieldK Tryz.prog 51 1 k = k 1 1:=by kernel_rfl
@[simp] theorem fk51_2 (k:Nat → Nat → Res):fieldK Tryz.prog 51 2 k = k 1 2:=by kernel_rfl
@[simp] theorem fk51_3 (k:Nat → Nat → Res):fieldK Tryz.prog 51 3 k = k 1 3:=by kernel_rfl
@[simp] theorem fk51_4 (k:Nat → Nat → Res):fieldK Tryz.prog 51 4 k = k 1 4:=by kernel_rfl
@[simp] theorem fk51_5 (k:Nat → Nat → Res):fieldK Tryz.prog 51 5 k = k 1 5:=by kernel_rfl
@[simp] theorem un54:Tryz.prog.underlying 54 = some (.slice 118):=by kernel_rfl
@[simp] theorem ln54 (c:Cx) (st:St) (x:V):builtinE Tryz.prog c .len [54] [x] st = lenS st x:=len_slice un54 x
@[simp] theorem ix54 {β:Type} (m o len cap i:Nat) (k:V → Option β):idxE Tryz.prog 54 (.sl m o len cap) i k = if i < len then k (.p m (o + i * 4)) else none:=idxE_sl un54 (fun k => sz118 k) m o len cap i k
@[simp] theorem el54 {β:Type} (k:TypeId → Nat → Option β):Ev.elemOf Tryz.prog 54 k = k 118 4:=by kernel_rfl
theorem so115:structOk Tryz.prog 115 [(0,1),(1,1)] = true:=by kernel_rfl
@[simp] theorem bl115 (x0 x1:Operand) (a0 a1:V) (st:St) (h0:a0.one = true) (h1:a1.one = true):bldK Tryz.prog 115 [(0,x0),(1,x1)] [a0,a1] [.int .i64 0,.c (.slice none 0 0)] st = some (.g [a0,a1],st):=by
 rw [bldK_ok so115,partsK_one rfl h0 (by simp),partsK_one rfl h1 (by simp)]; rfl
@[simp] theorem fk115_0 (k:Nat → Nat → Res):fieldK Tryz.prog 115 0 k = k 1 0:=by kernel_rfl
@[simp] theorem fk115_1 (k:Nat → Nat → Res):fieldK Tryz.prog 115 1 k = k 1 1:=by kernel_rfl
@[simp] theorem un116:Tryz.prog.underlying 116 = some (.slice 127):=by kernel_rfl
@[simp] theorem ln116 (c:Cx) (st:St) (x:V):builtinE Tryz.prog c .len [116] [x] st = lenS st x:=len_slice un116 x
@[simp] theorem el116 {β:Type} (k:TypeId → Nat → Option β):Ev.elemOf Tryz.prog 116 k = k 127 2:=by kernel_rfl
@[simp] theorem bz118 (st:St):bldK Tryz.prog 118 [] [] [.int .i64 0,.int .i64 0,.s [],.c (.slice none 0 0)] st = some (.g [.int .i64 0,.int .i64 0,.s [],.c (.slice none 0 0)],st):=by kernel_rfl
theorem so118:structOk Tryz.prog 118 [(0,1),(1,1),(2,1),(3,1)] = true:=by kernel_rfl
@[simp] theorem bl118 (x0 x1 x2 x3:Operand) (a0 a1 a2 a3:V) (st:St) (h0:a0.one = true) (h1:a1.one = true) (h2:a2.one = true) (h3:a3.one = true):bldK Tryz.prog 118 [(0,x0),(1,x1),(2,x2),(3,x3)] [a0,a1,a2,a3] [.int .i64 0,.int .i64 0,.s [],.c (.slice none 0 0)] st = some (.g [a0,a1,a2,a3],st):=by
 rw [bldK_ok so118,partsK_one rfl h0 (by simp),partsK_one rfl h1 (by simp),partsK_one rfl h2 (by simp),partsK_one rfl h3 (by simp)]; rfl
@[simp] theorem fk118_0 (k:Nat → Nat → Res):fieldK Tryz.prog 118 0 k = k 1 0:=by kernel_rfl
@[simp] theorem fk118_1 (k:Nat → Nat → Res):fieldK Tryz.prog 118 1 k = k 1 1:=by kernel_rfl
@[simp] theorem fk118_2 (k:Nat → Nat → Res):fieldK Tryz.prog 118 2 k = k 1 2:=by kernel_rfl
@[simp] theorem fk118_3 (k:Nat → Nat → Res):fieldK Tryz.prog 118 3 k = k 1 3:=by kernel_rfl
theorem so127:structOk Tryz.prog 127 [(0,1),(1,1)] = true:=by kernel_rfl
@[simp] theorem bl127 (x0 x1:Operand) (a0 a1:V) (st:St) (h0:a0.one = true) (h1:a1.one = true):bldK Tryz.prog 127 [(0,x0),(1,x1)] [a0,a1] [.s [],.int .i64 0] st = some (.g [a0,a1],st):=by
 rw [bldK_ok so127,partsK_one rfl h0 (by simp),partsK_one rfl h1 (by simp)]; rfl
@[simp] theorem fk127_0 (k:Nat → Nat → Res):fieldK Tryz.prog 127 0 k = k 1 0:=by kernel_rfl
@[simp] theorem fk127_1 (k:Nat → Nat → Res):fieldK Tryz.prog 127 1 k = k 1 1:=by kernel_rfl
end Go.Proofs.YtgcpgidofikcdaaGreatDoor

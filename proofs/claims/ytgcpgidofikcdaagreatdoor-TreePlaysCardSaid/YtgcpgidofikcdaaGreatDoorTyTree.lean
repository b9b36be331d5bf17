/-
  PLAIN: what the program's own tables say, as rules for rewriting.
-/
import Derived.Test.YtgcpgidofikcdaaGreatDoorChecked
import Derived.Test.YtgcpgidofikcdaaGreatDoorSb
namespace Go.Proofs.YtgcpgidofikcdaaGreatDoor
open Go.RowKit Ev
@[simp] theorem nt9:Tryz.f9.ntmps = 33:=rfl
@[simp] theorem rs9:Tryz.f9.results.toList = [.tmp 0]:=rfl
@[simp] theorem xt9:ext? Tryz.prog 9 = none:=by kernel_rfl
@[simp] theorem nt10:Tryz.f10.ntmps = 21:=rfl
@[simp] theorem rs10:Tryz.f10.results.toList = [.tmp 2]:=rfl
@[simp] theorem xt10:ext? Tryz.prog 10 = none:=by kernel_rfl
@[simp] theorem nt19:Tryz.f19.ntmps = 19:=rfl
@[simp] theorem rs19:Tryz.f19.results.toList = [.tmp 2]:=rfl
@[simp] theorem xt19:ext? Tryz.prog 19 = none:=by kernel_rfl
@[simp] theorem nt20:Tryz.f20.ntmps = 45:=rfl
@[simp] theorem rs20:Tryz.f20.results.toList = [.tmp 2]:=rfl
@[simp] theorem xt20:ext? Tryz.prog 20 = none:=by kernel_rfl
@[simp] theorem nt12:Tryz.f12.ntmps = 102:=rfl
@[simp] theorem rs12:Tryz.f12.results.toList = [.cell 4 30]:=rfl
@[simp] theorem xt12:ext? Tryz.prog 12 = none:=by kernel_rfl
@[simp] theorem nt16:Tryz.f16.ntmps = 14:=rfl
@[simp] theorem rs16:Tryz.f16.results.toList = [.tmp 4]:=rfl
@[simp] theorem xt16:ext? Tryz.prog 16 = none:=by kernel_rfl
@[simp] theorem nt14:Tryz.f14.ntmps = 34:=rfl
@[simp] theorem rs14:Tryz.f14.results.toList = [.tmp 2]:=rfl
@[simp] theorem xt14:ext? Tryz.prog 14 = none:=by kernel_rfl
@[simp] theorem nt15:Tryz.f15.ntmps = 26:=rfl
@[simp] theorem rs15:Tryz.f15.results.toList = [.tmp 4]:=rfl
@[simp] theorem xt15:ext? Tryz.prog 15 = none:=by kernel_rfl
@[simp] theorem nt40:Tryz.f40.ntmps = 22:=rfl
@[simp] theorem rs40:Tryz.f40.results.toList = [.tmp 2]:=rfl
@[simp] theorem xt40:ext? Tryz.prog 40 = none:=by kernel_rfl
@[simp] theorem nt63:Tryz.f63.ntmps = 8:=rfl
@[simp] theorem rs63:Tryz.f63.results.toList = [.tmp 2]:=rfl
@[simp] theorem xt63:ext? Tryz.prog 63 = none:=by kernel_rfl
@[simp] theorem nt57:Tryz.f57.ntmps = 8:=rfl
@[simp] theorem rs57:Tryz.f57.results.toList = [.tmp 2]:=rfl
@[simp] theorem xt57:ext? Tryz.prog 57 = none:=by kernel_rfl
@[simp] theorem nt58:Tryz.f58.ntmps = 8:=rfl
@[simp] theorem rs58:Tryz.f58.results.toList = [.tmp 2]:=rfl
@[simp] theorem xt58:ext? Tryz.prog 58 = none:=by kernel_rfl
@[simp] theorem nt41:Tryz.f41.ntmps = 46:=rfl
@[simp] theorem rs41:Tryz.f41.results.toList = [.cell 8 30]:=rfl
@[simp] theorem xt41:ext? Tryz.prog 41 = none:=by kernel_rfl
@[simp] theorem nt42:Tryz.f42.ntmps = 59:=rfl
@[simp] theorem rs42:Tryz.f42.results.toList = [.cell 6 30]:=rfl
@[simp] theorem xt42:ext? Tryz.prog 42 = none:=by kernel_rfl
@[simp] theorem nt43:Tryz.f43.ntmps = 37:=rfl
@[simp] theorem rs43:Tryz.f43.results.toList = [.cell 4 30]:=rfl
@[simp] theorem xt43:ext? Tryz.prog 43 = none:=by kernel_rfl
@[simp] theorem nt44:Tryz.f44.ntmps = 55:=rfl
@[simp] theorem rs44:Tryz.f44.results.toList = [.cell 4 30]:=rfl
@[simp] theorem xt44:ext? Tryz.prog 44 = none:=by kernel_rfl
@[simp] theorem nt45:Tryz.f45.ntmps = 104:=rfl
@[simp] theorem rs45:Tryz.f45.results.toList = [.cell 6 30]:=rfl
@[simp] theorem xt45:ext? Tryz.prog 45 = none:=by kernel_rfl
@[simp] theorem nt46:Tryz.f46.ntmps = 20:=rfl
@[simp] theorem rs46:Tryz.f46.results.toList = [.cell 6 30]:=rfl
@[simp] theorem xt46:ext? Tryz.prog 46 = none:=by kernel_rfl
@[simp] theorem nt47:Tryz.f47.ntmps = 38:=rfl
@[simp] theorem rs47:Tryz.f47.results.toList = [.cell 4 30]:=rfl
@[simp] theorem xt47:ext? Tryz.prog 47 = none:=by kernel_rfl
@[simp] theorem nt48:Tryz.f48.ntmps = 52:=rfl
@[simp] theorem rs48:Tryz.f48.results.toList = [.cell 8 30]:=rfl
@[simp] theorem xt48:ext? Tryz.prog 48 = none:=by kernel_rfl
@[simp] theorem nt49:Tryz.f49.ntmps = 73:=rfl
@[simp] theorem rs49:Tryz.f49.results.toList = [.cell 8 30]:=rfl
@[simp] theorem xt49:ext? Tryz.prog 49 = none:=by kernel_rfl
@[simp] theorem nt50:Tryz.f50.ntmps = 32:=rfl
@[simp] theorem rs50:Tryz.f50.results.toList = [.cell 6 30]:=rfl
@[simp] theorem xt50:ext? Tryz.prog 50 = none:=by kernel_rfl
@[simp] theorem nt51:Tryz.f51.ntmps = 44:=rfl
@[simp] theorem rs51:Tryz.f51.results.toList = [.cell 4 30]:=rfl
@[simp] theorem xt51:ext? Tryz.prog 51 = none:=by kernel_rfl
@[simp] theorem nt52:Tryz.f52.ntmps = 66:=rfl
@[simp] theorem rs52:Tryz.f52.results.toList = [.cell 4 30]:=rfl
@[simp] theorem xt52:ext? Tryz.prog 52 = none:=by kernel_rfl
@[simp] theorem nt53:Tryz.f53.ntmps = 5:=rfl
@[simp] theorem rs53:Tryz.f53.results.toList = [.cell 2 30]:=rfl
@[simp] theorem xt53:ext? Tryz.prog 53 = none:=by kernel_rfl
@[simp] theorem nt59:Tryz.f59.ntmps = 32:=rfl
@[simp] theorem rs59:Tryz.f59.results.toList = [.tmp 6]:=rfl
@[simp] theorem xt59:ext? Tryz.prog 59 = none:=by kernel_rfl
@[simp] theorem nt60:Tryz.f60.ntmps = 24:=rfl
@[simp] theorem rs60:Tryz.f60.results.toList = [.tmp 4]:=rfl
@[simp] theorem nt61:Tryz.f61.ntmps = 10:=rfl
@[simp] theorem rs61:Tryz.f61.results.toList = [.tmp 4]:=rfl
@[simp] theorem xt61:ext? Tryz.prog 61 = none:=by kernel_rfl
@[simp] theorem nt62:Tryz.f62.ntmps = 26:=rfl
@[simp] theorem rs62:Tryz.f62.results.toList = [.tmp 4]:=rfl
@[simp] theorem xt62:ext? Tryz.prog 62 = none:=by kernel_rfl
@[simp] theorem nt106:Tryz.f106.ntmps = 29:=rfl
@[simp] theorem rs106:Tryz.f106.results.toList = [.tmp 4,.tmp 5,.tmp 6]:=rfl
@[simp] theorem xt106:ext? Tryz.prog 106 = none:=by kernel_rfl
@[simp] theorem nt107:Tryz.f107.ntmps = 23:=rfl
@[simp] theorem rs107:Tryz.f107.results.toList = [.tmp 2]:=rfl
@[simp] theorem xt107:ext? Tryz.prog 107 = none:=by kernel_rfl
@[simp] theorem nt108:Tryz.f108.ntmps = 57:=rfl
@[simp] theorem rs108:Tryz.f108.results.toList = []:=rfl
@[simp] theorem xt108:ext? Tryz.prog 108 = none:=by kernel_rfl
@[simp] theorem nt109:Tryz.f109.ntmps = 26:=rfl
@[simp] theorem rs109:Tryz.f109.results.toList = [.tmp 6,.tmp 7]:=rfl
@[simp] theorem xt109:ext? Tryz.prog 109 = none:=by kernel_rfl
@[simp] theorem nt110:Tryz.f110.ntmps = 27:=rfl
@[simp] theorem rs110:Tryz.f110.results.toList = [.tmp 4,.tmp 5,.tmp 6,.tmp 7]:=rfl
@[simp] theorem xt110:ext? Tryz.prog 110 = none:=by kernel_rfl
@[simp] theorem nt111:Tryz.f111.ntmps = 76:=rfl
@[simp] theorem rs111:Tryz.f111.results.toList = []:=rfl
@[simp] theorem xt111:ext? Tryz.prog 111 = none:=by kernel_rfl
@[simp] theorem nt112:Tryz.f112.ntmps = 43:=rfl
@[simp] theorem rs112:Tryz.f112.results.toList = [.tmp 2,.tmp 3,.tmp 4]:=rfl
@[simp] theorem xt112:ext? Tryz.prog 112 = none:=by kernel_rfl
@[simp] theorem nt113:Tryz.f113.ntmps = 29:=rfl
@[simp] theorem rs113:Tryz.f113.results.toList = [.tmp 4,.tmp 5]:=rfl
@[simp] theorem xt113:ext? Tryz.prog 113 = none:=by kernel_rfl
@[simp] theorem nt114:Tryz.f114.ntmps = 25:=rfl
@[simp] theorem rs114:Tryz.f114.results.toList = [.tmp 6]:=rfl
@[simp] theorem xt114:ext? Tryz.prog 114 = none:=by kernel_rfl
@[simp] theorem nt115:Tryz.f115.ntmps = 35:=rfl
@[simp] theorem rs115:Tryz.f115.results.toList = [.tmp 6]:=rfl
@[simp] theorem xt115:ext? Tryz.prog 115 = none:=by kernel_rfl
@[simp] theorem nt116:Tryz.f116.ntmps = 60:=rfl
@[simp] theorem rs116:Tryz.f116.results.toList = [.tmp 6]:=rfl
@[simp] theorem xt116:ext? Tryz.prog 116 = none:=by kernel_rfl
@[simp] theorem nt117:Tryz.f117.ntmps = 27:=rfl
@[simp] theorem rs117:Tryz.f117.results.toList = [.tmp 4,.tmp 5]:=rfl
@[simp] theorem xt117:ext? Tryz.prog 117 = none:=by kernel_rfl
@[simp] theorem nt118:Tryz.f118.ntmps = 27:=rfl
@[simp] theorem rs118:Tryz.f118.results.toList = []:=rfl
@[simp] theorem xt118:ext? Tryz.prog 118 = none:=by kernel_rfl
@[simp] theorem nt119:Tryz.f119.ntmps = 20:=rfl
@[simp] theorem rs119:Tryz.f119.results.toList = [.tmp 6,.tmp 7]:=rfl
@[simp] theorem xt119:ext? Tryz.prog 119 = none:=by kernel_rfl
@[simp] theorem nt120:Tryz.f120.ntmps = 95:=rfl
@[simp] theorem rs120:Tryz.f120.results.toList = [.tmp 6]:=rfl
@[simp] theorem xt120:ext? Tryz.prog 120 = none:=by kernel_rfl
@[simp] theorem nt176:Tryz.f176.ntmps = 26:=rfl
@[simp] theorem rs176:Tryz.f176.results.toList = [.tmp 4,.tmp 5,.tmp 6]:=rfl
@[simp] theorem xt176:ext? Tryz.prog 176 = none:=by kernel_rfl
@[simp] theorem nt177:Tryz.f177.ntmps = 95:=rfl
@[simp] theorem rs177:Tryz.f177.results.toList = [.tmp 6]:=rfl
@[simp] theorem xt177:ext? Tryz.prog 177 = none:=by kernel_rfl
@[simp] theorem nt178:Tryz.f178.ntmps = 38:=rfl
@[simp] theorem rs178:Tryz.f178.results.toList = [.tmp 2,.tmp 3]:=rfl
@[simp] theorem xt178:ext? Tryz.prog 178 = none:=by kernel_rfl
@[simp] theorem nt179:Tryz.f179.ntmps = 90:=rfl
@[simp] theorem rs179:Tryz.f179.results.toList = [.tmp 8,.tmp 9]:=rfl
@[simp] theorem xt179:ext? Tryz.prog 179 = none:=by kernel_rfl
@[simp] theorem nt180:Tryz.f180.ntmps = 33:=rfl
@[simp] theorem rs180:Tryz.f180.results.toList = [.tmp 6]:=rfl
@[simp] theorem xt180:ext? Tryz.prog 180 = none:=by kernel_rfl
@[simp] theorem nt181:Tryz.f181.ntmps = 8:=rfl
@[simp] theorem rs181:Tryz.f181.results.toList = [.tmp 4]:=rfl
@[simp] theorem xt181:ext? Tryz.prog 181 = none:=by kernel_rfl
@[simp] theorem nt182:Tryz.f182.ntmps = 49:=rfl
@[simp] theorem rs182:Tryz.f182.results.toList = [.tmp 6,.tmp 7]:=rfl
@[simp] theorem xt182:ext? Tryz.prog 182 = none:=by kernel_rfl
@[simp] theorem nt183:Tryz.f183.ntmps = 9:=rfl
@[simp] theorem rs183:Tryz.f183.results.toList = [.tmp 4]:=rfl
@[simp] theorem nt124:Tryz.f124.ntmps = 8:=rfl
@[simp] theorem rs124:Tryz.f124.results.toList = [.tmp 4]:=rfl
@[simp] theorem xt124:ext? Tryz.prog 124 = none:=by kernel_rfl
@[simp] theorem nt229:Tryz.f229.ntmps = 8:=rfl
@[simp] theorem rs229:Tryz.f229.results.toList = [.tmp 4]:=rfl
@[simp] theorem xt229:ext? Tryz.prog 229 = none:=by kernel_rfl
@[simp] theorem nt230:Tryz.f230.ntmps = 9:=rfl
@[simp] theorem rs230:Tryz.f230.results.toList = [.tmp 4]:=rfl
@[simp] theorem xt230:ext? Tryz.prog 230 = none:=by kernel_rfl
@[simp] theorem nt231:Tryz.f231.ntmps = 52:=rfl
@[simp] theorem rs231:Tryz.f231.results.toList = [.tmp 6,.tmp 7]:=rfl
@[simp] theorem xt231:ext? Tryz.prog 231 = none:=by kernel_rfl
@[simp] theorem nt232:Tryz.f232.ntmps = 21:=rfl
@[simp] theorem rs232:Tryz.f232.results.toList = [.tmp 4]:=rfl
@[simp] theorem xt232:ext? Tryz.prog 232 = none:=by kernel_rfl
@[simp] theorem nt188:Tryz.f188.ntmps = 8:=rfl
@[simp] theorem rs188:Tryz.f188.results.toList = [.tmp 4]:=rfl
@[simp] theorem xt188:ext? Tryz.prog 188 = none:=by kernel_rfl
@[simp] theorem nt269:Tryz.f269.ntmps = 66:=rfl
@[simp] theorem rs269:Tryz.f269.results.toList = [.tmp 8]:=rfl
@[simp] theorem xt269:ext? Tryz.prog 269 = none:=by kernel_rfl
@[simp] theorem nt270:Tryz.f270.ntmps = 8:=rfl
@[simp] theorem rs270:Tryz.f270.results.toList = [.tmp 4]:=rfl
@[simp] theorem xt270:ext? Tryz.prog 270 = none:=by kernel_rfl
@[simp] theorem nt287:Tryz.f287.ntmps = 34:=rfl
@[simp] theorem rs287:Tryz.f287.results.toList = [.tmp 4]:=rfl
@[simp] theorem xt287:ext? Tryz.prog 287 = none:=by kernel_rfl
@[simp] theorem nt288:Tryz.f288.ntmps = 143:=rfl
@[simp] theorem rs288:Tryz.f288.results.toList = [.tmp 4]:=rfl
@[simp] theorem xt288:ext? Tryz.prog 288 = none:=by kernel_rfl
@[simp] theorem nt297:Tryz.f297.ntmps = 8:=rfl
@[simp] theorem rs297:Tryz.f297.results.toList = [.tmp 4]:=rfl
@[simp] theorem xt297:ext? Tryz.prog 297 = none:=by kernel_rfl
@[simp] theorem ag3:agg? Tryz.prog 3 = some false:=by kernel_rfl
@[simp] theorem sz3 {β:Type} (k:Nat → Option β):szOf Tryz.prog 3 k = k 1:=by kernel_rfl
@[simp] theorem sz5 {β:Type} (k:Nat → Option β):szOf Tryz.prog 5 k = k 1:=by kernel_rfl
@[simp] theorem ze5 {β:Type} (k:List V → Option β):zero Tryz.prog 5 k = k [.int .u8 0]:=by kernel_rfl
theorem io5:infoOk Tryz.prog 5 1 = true:=by kernel_rfl
@[simp] theorem ag9:agg? Tryz.prog 9 = some false:=by kernel_rfl
@[simp] theorem sz9 {β:Type} (k:Nat → Option β):szOf Tryz.prog 9 k = k 1:=by kernel_rfl
@[simp] theorem ze9 {β:Type} (k:List V → Option β):zero Tryz.prog 9 k = k [.s []]:=by kernel_rfl
theorem io9:infoOk Tryz.prog 9 1 = true:=by kernel_rfl
@[simp] theorem ag23:agg? Tryz.prog 23 = some false:=by kernel_rfl
@[simp] theorem sz23 {β:Type} (k:Nat → Option β):szOf Tryz.prog 23 k = k 1:=by kernel_rfl
@[simp] theorem ag27:agg? Tryz.prog 27 = some false:=by kernel_rfl
@[simp] theorem sz27 {β:Type} (k:Nat → Option β):szOf Tryz.prog 27 k = k 1:=by kernel_rfl
@[simp] theorem ag33:agg? Tryz.prog 33 = some true:=by kernel_rfl
@[simp] theorem sz33 {β:Type} (k:Nat → Option β):szOf Tryz.prog 33 k = k 6:=by kernel_rfl
theorem io33:infoOk Tryz.prog 33 6 = true:=by kernel_rfl
@[simp] theorem ag25:agg? Tryz.prog 25 = some false:=by kernel_rfl
@[simp] theorem sz25 {β:Type} (k:Nat → Option β):szOf Tryz.prog 25 k = k 1:=by kernel_rfl
@[simp] theorem ag28:agg? Tryz.prog 28 = some false:=by kernel_rfl
@[simp] theorem sz28 {β:Type} (k:Nat → Option β):szOf Tryz.prog 28 k = k 1:=by kernel_rfl
@[simp] theorem ag30:agg? Tryz.prog 30 = some true:=by kernel_rfl
@[simp] theorem sz30 {β:Type} (k:Nat → Option β):szOf Tryz.prog 30 k = k 7:=by kernel_rfl
@[simp] theorem ze30 {β:Type} (k:List V → Option β):zero Tryz.prog 30 k = k [.int .i64 0,.int .i64 0,.int .i64 0,.int .i64 0,.int .i64 0,.c (.slice none 0 0),.c (.slice none 0 0)]:=by kernel_rfl
@[simp] theorem ag90:agg? Tryz.prog 90 = some false:=by kernel_rfl
@[simp] theorem sz90 {β:Type} (k:Nat → Option β):szOf Tryz.prog 90 k = k 1:=by kernel_rfl
@[simp] theorem ag92:agg? Tryz.prog 92 = some true:=by kernel_rfl
@[simp] theorem sz92 {β:Type} (k:Nat → Option β):szOf Tryz.prog 92 k = k 5:=by kernel_rfl
@[simp] theorem ze92 {β:Type} (k:List V → Option β):zero Tryz.prog 92 k = k [.int .i64 0,.int .i64 0,.int .i64 0,.c (.slice none 0 0),.c (.slice none 0 0)]:=by kernel_rfl
theorem io92:infoOk Tryz.prog 92 5 = true:=by kernel_rfl
@[simp] theorem ag93:agg? Tryz.prog 93 = some false:=by kernel_rfl
@[simp] theorem sz93 {β:Type} (k:Nat → Option β):szOf Tryz.prog 93 k = k 1:=by kernel_rfl
@[simp] theorem ze95 {β:Type} (k:List V → Option β):zero Tryz.prog 95 k = k [.c (.slice none 0 0)]:=by kernel_rfl
@[simp] theorem ag109:agg? Tryz.prog 109 = some true:=by kernel_rfl
@[simp] theorem sz109 {β:Type} (k:Nat → Option β):szOf Tryz.prog 109 k = k 2:=by kernel_rfl
@[simp] theorem ze109 {β:Type} (k:List V → Option β):zero Tryz.prog 109 k = k [.s [],.int .i64 0]:=by kernel_rfl
theorem io109:infoOk Tryz.prog 109 2 = true:=by kernel_rfl
@[simp] theorem ze104 {β:Type} (k:List V → Option β):zero Tryz.prog 104 k = k [.int .i64 0,.int .i64 0,.c (.slice none 0 0),.c (.slice none 0 0)]:=by kernel_rfl
theorem io104:infoOk Tryz.prog 104 4 = true:=by kernel_rfl
@[simp] theorem sz252 {β:Type} (k:Nat → Option β):szOf Tryz.prog 252 k = k 2:=by kernel_rfl
@[simp] theorem ze252 {β:Type} (k:List V → Option β):zero Tryz.prog 252 k = k [.c (.pointer none),.int .i64 0]:=by kernel_rfl
@[simp] theorem un3:Tryz.prog.underlying 3 = some (.int .i64):=by kernel_rfl
@[simp] theorem un5:Tryz.prog.underlying 5 = some (.int .u8):=by kernel_rfl
@[simp] theorem un9:Tryz.prog.underlying 9 = some .string:=by kernel_rfl
@[simp] theorem un41:Tryz.prog.underlying 41 = some (.slice 33):=by kernel_rfl
@[simp] theorem ln41 (c:Cx) (st:St) (x:V):builtinE Tryz.prog c .len [41] [x] st = lenS st x:=len_slice un41 x
@[simp] theorem un27:Tryz.prog.underlying 27 = some (.slice 5):=by kernel_rfl
@[simp] theorem ln27 (c:Cx) (st:St) (x:V):builtinE Tryz.prog c .len [27] [x] st = lenS st x:=len_slice un27 x
@[simp] theorem el27 {β:Type} (k:TypeId → Nat → Option β):Ev.elemOf Tryz.prog 27 k = k 5 1:=by kernel_rfl
theorem so33:structOk Tryz.prog 33 [(0,1),(1,1),(2,1),(3,1),(4,1),(5,1)] = true:=by kernel_rfl
@[simp] theorem bl33 (x0 x1 x2 x3 x4 x5:Operand) (a0 a1 a2 a3 a4 a5:V) (st:St) (h0:a0.one = true) (h1:a1.one = true) (h2:a2.one = true) (h3:a3.one = true) (h4:a4.one = true) (h5:a5.one = true):bldK Tryz.prog 33 [(0,x0),(1,x1),(2,x2),(3,x3),(4,x4),(5,x5)] [a0,a1,a2,a3,a4,a5] [.int .i64 0,.s [],.s [],.int .i64 0,.int .i64 0,.c (.slice none 0 0)] st = some (.g [a0,a1,a2,a3,a4,a5],st):=by
 rw [bldK_ok so33,partsK_one rfl h0 (by simp),partsK_one rfl h1 (by simp),partsK_one rfl h2 (by simp),partsK_one rfl h3 (by simp),partsK_one rfl h4 (by simp),partsK_one rfl h5 (by simp)]; rfl
@[simp] theorem fk33_0 (k:Nat → Nat → Res):fieldK Tryz.prog 33 0 k = k 1 0:=by kernel_rfl
@[simp] theorem fk33_1 (k:Nat → Nat → Res):fieldK Tryz.prog 33 1 k = k 1 1:=by kernel_rfl
@[simp] theorem fk33_2 (k:Nat → Nat → Res):fieldK Tryz.prog 33 2 k = k 1 2:=by kernel_rfl
@[simp] theorem fk33_3 (k:Nat → Nat → Res):fieldK Tryz.prog 33 3 k = k 1 3:=by kernel_rfl
@[simp] theorem fk33_4 (k:Nat → Nat → Res):fieldK Tryz.prog 33 4 k = k 1 4:=by kernel_rfl
@[simp] theorem fk33_5 (k:Nat → Nat → Res):fieldK Tryz.prog 33 5 k = k 1 5:=by kernel_rfl
@[simp] theorem un28:Tryz.prog.underlying 28 = some (.slice 9):=by kernel_rfl
@[simp] theorem ln28 (c:Cx) (st:St) (x:V):builtinE Tryz.prog c .len [28] [x] st = lenS st x:=len_slice un28 x
@[simp] theorem ix28 {β:Type} (m o len cap i:Nat) (k:V → Option β):idxE Tryz.prog 28 (.sl m o len cap) i k = if i < len then k (.p m (o + i * 1)) else none:=idxE_sl un28 (fun k => sz9 k) m o len cap i k
@[simp] theorem iy28 {β:Type} (m o len w i:Nat) (k:V → Option β):idxE Tryz.prog 28 (.sg m o len w) i k = if i < len then k (.p m (o + i * 1)) else none:=idxE_sg un28 (fun k => sz9 k) m o len w i k
@[simp] theorem el28 {β:Type} (k:TypeId → Nat → Option β):Ev.elemOf Tryz.prog 28 k = k 9 1:=by kernel_rfl
theorem so30:structOk Tryz.prog 30 [(0,1),(1,1),(2,1),(3,1),(4,1),(5,1),(6,1)] = true:=by kernel_rfl
@[simp] theorem bl30 (x0 x1 x2 x3 x4 x5 x6:Operand) (a0 a1 a2 a3 a4 a5 a6:V) (st:St) (h0:a0.one = true) (h1:a1.one = true) (h2:a2.one = true) (h3:a3.one = true) (h4:a4.one = true) (h5:a5.one = true) (h6:a6.one = true):bldK Tryz.prog 30 [(0,x0),(1,x1),(2,x2),(3,x3),(4,x4),(5,x5),(6,x6)] [a0,a1,a2,a3,a4,a5,a6] [.int .i64 0,.int .i64 0,.int .i64 0,.int .i64 0,.int .i64 0,.c (.slice none 0 0),.c (.slice none 0 0)] st = some (.g [a0,a1,a2,a3,a4,a5,a6],st):=by
 rw [bldK_ok so30,partsK_one rfl h0 (by simp),partsK_one rfl h1 (by simp),partsK_one rfl h2 (by simp),partsK_one rfl h3 (by simp),partsK_one rfl h4 (by simp),partsK_one rfl h5 (by simp),partsK_one rfl h6 (by simp)]; rfl
@[simp] theorem fk30_0 (k:Nat → Nat → Res):fieldK Tryz.prog 30 0 k = k 1 0:=by kernel_rfl
@[simp] theorem fk30_1 (k:Nat → Nat → Res):fieldK Tryz.prog 30 1 k = k 1 1:=by kernel_rfl
@[simp] theorem fk30_2 (k:Nat → Nat → Res):fieldK Tryz.prog 30 2 k = k 1 2:=by kernel_rfl
@[simp] theorem fk30_3 (k:Nat → Nat → Res):fieldK Tryz.prog 30 3 k = k 1 3:=by kernel_rfl
@[simp] theorem fk30_4 (k:Nat → Nat → Res):fieldK Tryz.prog 30 4 k = k 1 4:=by kernel_rfl
@[simp] theorem fk30_5 (k:Nat → Nat → Res):fieldK Tryz.prog 30 5 k = k 1 5:=by kernel_rfl
@[simp] theorem fk30_6 (k:Nat → Nat → Res):fieldK Tryz.prog 30 6 k = k 1 6:=by kernel_rfl
@[simp] theorem un36:Tryz.prog.underlying 36 = some (.slice 104):=by kernel_rfl
@[simp] theorem ln36 (c:Cx) (st:St) (x:V):builtinE Tryz.prog c .len [36] [x] st = lenS st x:=len_slice un36 x
@[simp] theorem el36 {β:Type} (k:TypeId → Nat → Option β):Ev.elemOf Tryz.prog 36 k = k 104 4:=by kernel_rfl
@[simp] theorem un90:Tryz.prog.underlying 90 = some (.slice 109):=by kernel_rfl
@[simp] theorem ln90 (c:Cx) (st:St) (x:V):builtinE Tryz.prog c .len [90] [x] st = lenS st x:=len_slice un90 x
@[simp] theorem iy90 {β:Type} (m o len w i:Nat) (k:V → Option β):idxE Tryz.prog 90 (.sg m o len w) i k = if i < len then k (.p m (o + i * 2)) else none:=idxE_sg un90 (fun k => sz109 k) m o len w i k
@[simp] theorem el90 {β:Type} (k:TypeId → Nat → Option β):Ev.elemOf Tryz.prog 90 k = k 109 2:=by kernel_rfl
@[simp] theorem bz92 (st:St):bldK Tryz.prog 92 [] [] [.int .i64 0,.int .i64 0,.int .i64 0,.c (.slice none 0 0),.c (.slice none 0 0)] st = some (.g [.int .i64 0,.int .i64 0,.int .i64 0,.c (.slice none 0 0),.c (.slice none 0 0)],st):=by kernel_rfl
theorem so92:structOk Tryz.prog 92 [(0,1),(1,1),(2,1),(3,1),(4,1)] = true:=by kernel_rfl
@[simp] theorem bl92 (x0 x1 x2 x3 x4:Operand) (a0 a1 a2 a3 a4:V) (st:St) (h0:a0.one = true) (h1:a1.one = true) (h2:a2.one = true) (h3:a3.one = true) (h4:a4.one = true):bldK Tryz.prog 92 [(0,x0),(1,x1),(2,x2),(3,x3),(4,x4)] [a0,a1,a2,a3,a4] [.int .i64 0,.int .i64 0,.int .i64 0,.c (.slice none 0 0),.c (.slice none 0 0)] st = some (.g [a0,a1,a2,a3,a4],st):=by
 rw [bldK_ok so92,partsK_one rfl h0 (by simp),partsK_one rfl h1 (by simp),partsK_one rfl h2 (by simp),partsK_one rfl h3 (by simp),partsK_one rfl h4 (by simp)]; rfl
@[simp] theorem fk92_0 (k:Nat → Nat → Res):fieldK Tryz.prog 92 0 k = k 1 0:=by kernel_rfl
@[simp] theorem fk92_1 (k:Nat → Nat → Res):fieldK Tryz.prog 92 1 k = k 1 1:=by kernel_rfl
@[simp] theorem fk92_2 (k:Nat → Nat → Res):fieldK Tryz.prog 92 2 k = k 1 2:=by kernel_rfl
@[simp] theorem fk92_3 (k:Nat → Nat → Res):fieldK Tryz.prog 92 3 k = k 1 3:=by kernel_rfl
@[simp] theorem fk92_4 (k:Nat → Nat → Res):fieldK Tryz.prog 92 4 k = k 1 4:=by kernel_rfl
@[simp] theorem un93:Tryz.prog.underlying 93 = some (.slice 92):=by kernel_rfl
@[simp] theorem ln93 (c:Cx) (st:St) (x:V):builtinE Tryz.prog c .len [93] [x] st = lenS st x:=len_slice un93 x
@[simp] theorem ix93 {β:Type} (m o len cap i:Nat) (k:V → Option β):idxE Tryz.prog 93 (.sl m o len cap) i k = if i < len then k (.p m (o + i * 5)) else none:=idxE_sl un93 (fun k => sz92 k) m o len cap i k
@[simp] theorem iy93 {β:Type} (m o len w i:Nat) (k:V → Option β):idxE Tryz.prog 93 (.sg m o len w) i k = if i < len then k (.p m (o + i * 5)) else none:=idxE_sg un93 (fun k => sz92 k) m o len w i k
@[simp] theorem el93 {β:Type} (k:TypeId → Nat → Option β):Ev.elemOf Tryz.prog 93 k = k 92 5:=by kernel_rfl
theorem so95:structOk Tryz.prog 95 [(0,1)] = true:=by kernel_rfl
@[simp] theorem bl95 (x0:Operand) (a0:V) (st:St) (h0:a0.one = true):bldK Tryz.prog 95 [(0,x0)] [a0] [.c (.slice none 0 0)] st = some (.g [a0],st):=by
 rw [bldK_ok so95,partsK_one rfl h0 (by simp)]; rfl
@[simp] theorem fk95_0 (k:Nat → Nat → Res):fieldK Tryz.prog 95 0 k = k 1 0:=by kernel_rfl
theorem so109:structOk Tryz.prog 109 [(0,1),(1,1)] = true:=by kernel_rfl
@[simp] theorem bl109 (x0 x1:Operand) (a0 a1:V) (st:St) (h0:a0.one = true) (h1:a1.one = true):bldK Tryz.prog 109 [(0,x0),(1,x1)] [a0,a1] [.s [],.int .i64 0] st = some (.g [a0,a1],st):=by
 rw [bldK_ok so109,partsK_one rfl h0 (by simp),partsK_one rfl h1 (by simp)]; rfl
@[simp] theorem fk109_0 (k:Nat → Nat → Res):fieldK Tryz.prog 109 0 k = k 1 0:=by kernel_rfl
@[simp] theorem fk109_1 (k:Nat → Nat → Res):fieldK Tryz.prog 109 1 k = k 1 1:=by kernel_rfl
theorem so104:structOk Tryz.prog 104 [(0,1),(1,1),(2,1),(3,1)] = true:=by kernel_rfl
@[simp] theorem bl104 (x0 x1 x2 x3:Operand) (a0 a1 a2 a3:V) (st:St) (h0:a0.one = true) (h1:a1.one = true) (h2:a2.one = true) (h3:a3.one = true):bldK Tryz.prog 104 [(0,x0),(1,x1),(2,x2),(3,x3)] [a0,a1,a2,a3] [.int .i64 0,.int .i64 0,.c (.slice none 0 0),.c (.slice none 0 0)] st = some (.g [a0,a1,a2,a3],st):=by
 rw [bldK_ok so104,partsK_one rfl h0 (by simp),partsK_one rfl h1 (by simp),partsK_one rfl h2 (by simp),partsK_one rfl h3 (by simp)]; rfl
@[simp] theorem fk104_0 (k:Nat → Nat → Res):fieldK Tryz.prog 104 0 k = k 1 0:=by kernel_rfl
@[simp] theorem fk104_1 (k:Nat → Nat → Res):fieldK Tryz.prog 104 1 k = k 1 1:=by kernel_rfl
@[simp] theorem fk104_2 (k:Nat → Nat → Res):fieldK Tryz.prog 104 2 k = k 1 2:=by kernel_rfl
@[simp] theorem fk104_3 (k:Nat → Nat → Res):fieldK Tryz.prog 104 3 k = k 1 3:=by kernel_rfl
theorem so252:structOk Tryz.prog 252 [(0,1),(1,1)] = true:=by kernel_rfl
@[simp] theorem bl252 (x0 x1:Operand) (a0 a1:V) (st:St) (h0:a0.one = true) (h1:a1.one = true):bldK Tryz.prog 252 [(0,x0),(1,x1)] [a0,a1] [.c (.pointer none),.int .i64 0] st = some (.g [a0,a1],st):=by
 rw [bldK_ok so252,partsK_one rfl h0 (by simp),partsK_one rfl h1 (by simp)]; rfl
@[simp] theorem fk252_0 (k:Nat → Nat → Res):fieldK Tryz.prog 252 0 k = k 1 0:=by kernel_rfl
@[simp] theorem fk252_1 (k:Nat → Nat → Res):fieldK Tryz.prog 252 1 k = k 1 1:=by kernel_rfl
theorem so353:structOk Tryz.prog 353 [(0,1),(1,1)] = true:=by kernel_rfl
@[simp] theorem bl353 (x0 x1:Operand) (a0 a1:V) (st:St) (h0:a0.one = true) (h1:a1.one = true):bldK Tryz.prog 353 [(0,x0),(1,x1)] [a0,a1] [.int .u8 0,.int .u8 0] st = some (.g [a0,a1],st):=by
 rw [bldK_ok so353,partsK_one rfl h0 (by simp),partsK_one rfl h1 (by simp)]; rfl
end Go.Proofs.YtgcpgidofikcdaaGreatDoor

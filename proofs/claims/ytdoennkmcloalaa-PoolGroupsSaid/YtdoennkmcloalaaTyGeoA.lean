/-
  PLAIN: what the program's own tables say, as rules for rewriting.
-/
import Derived.Test.YtdoennkmcloalaaChecked
import Derived.Test.YtdoennkmcloalaaSb
namespace Go.Proofs.Ytdoennkmcloalaa
open Go.RowKit Ev
-- lintel/lintelref6.Bits
@[simp] theorem nt242 : Try.f242.ntmps = 15 := rfl
@[simp] theorem rs242 : Try.f242.results.toList = [.tmp 2, .tmp 3] := rfl
@[simp] theorem xt242 : ext? Try.prog 242 = none := by kernel_rfl
-- lintel/geom.Lost
@[simp] theorem nt213 : Try.f213.ntmps = 12 := rfl
@[simp] theorem rs213 : Try.f213.results.toList = [.tmp 2, .tmp 3] := rfl
@[simp] theorem xt213 : ext? Try.prog 213 = none := by kernel_rfl
-- lintel/lintelref6.Lost
@[simp] theorem nt181 : Try.f181.ntmps = 14 := rfl
@[simp] theorem rs181 : Try.f181.results.toList = [.tmp 2, .tmp 3] := rfl
@[simp] theorem xt181 : ext? Try.prog 181 = none := by kernel_rfl
-- lintel/geom.Data
@[simp] theorem nt68 : Try.f68.ntmps = 12 := rfl
@[simp] theorem rs68 : Try.f68.results.toList = [.tmp 2, .tmp 3] := rfl
@[simp] theorem xt68 : ext? Try.prog 68 = none := by kernel_rfl
-- lintel/lintelref6.Data
@[simp] theorem nt130 : Try.f130.ntmps = 24 := rfl
@[simp] theorem rs130 : Try.f130.results.toList = [.tmp 2, .tmp 3] := rfl
@[simp] theorem xt130 : ext? Try.prog 130 = none := by kernel_rfl
-- lintel/lintelref6.Good
@[simp] theorem nt128 : Try.f128.ntmps = 57 := rfl
@[simp] theorem rs128 : Try.f128.results.toList = [.tmp 2] := rfl
@[simp] theorem xt128 : ext? Try.prog 128 = none := by kernel_rfl
-- lintel/geom.Good
@[simp] theorem nt65 : Try.f65.ntmps = 28 := rfl
@[simp] theorem rs65 : Try.f65.results.toList = [.tmp 2] := rfl
@[simp] theorem xt65 : ext? Try.prog 65 = none := by kernel_rfl
-- lintel/lintelref6.Node
@[simp] theorem nt214 : Try.f214.ntmps = 31 := rfl
@[simp] theorem rs214 : Try.f214.results.toList = [.tmp 4] := rfl
@[simp] theorem xt214 : ext? Try.prog 214 = none := by kernel_rfl
-- lintel/geom.Plain
@[simp] theorem nt83 : Try.f83.ntmps = 5 := rfl
@[simp] theorem rs83 : Try.f83.results.toList = [.cell 2 38] := rfl
@[simp] theorem xt83 : ext? Try.prog 83 = none := by kernel_rfl
-- lintel/geom.between
@[simp] theorem nt142 : Try.f142.ntmps = 15 := rfl
@[simp] theorem rs142 : Try.f142.results.toList = [.tmp 6] := rfl
@[simp] theorem xt142 : ext? Try.prog 142 = none := by kernel_rfl
-- lintel/geom.lay
@[simp] theorem nt143 : Try.f143.ntmps = 48 := rfl
@[simp] theorem rs143 : Try.f143.results.toList = [.cell 2 200] := rfl
@[simp] theorem xt143 : ext? Try.prog 143 = none := by kernel_rfl
-- lintel/geom.whole
@[simp] theorem nt146 : Try.f146.ntmps = 9 := rfl
@[simp] theorem rs146 : Try.f146.results.toList = [.cell 2 200] := rfl
@[simp] theorem xt146 : ext? Try.prog 146 = none := by kernel_rfl
-- lintel/lintelref6.bitBlocks
@[simp] theorem nt180 : Try.f180.ntmps = 7 := rfl
@[simp] theorem rs180 : Try.f180.results.toList = [.tmp 2] := rfl
@[simp] theorem xt180 : ext? Try.prog 180 = none := by kernel_rfl
-- (lintel/geom.part).end
@[simp] theorem nt189 : Try.f189.ntmps = 8 := rfl
@[simp] theorem rs189 : Try.f189.results.toList = [.tmp 2] := rfl
@[simp] theorem xt189 : ext? Try.prog 189 = none := by kernel_rfl
@[simp] theorem ag3 : agg? Try.prog 3 = some false := by kernel_rfl
@[simp] theorem sz3 {β : Type} (k : Nat → Option β) : szOf Try.prog 3 k = k 1 := by kernel_rfl
@[simp] theorem ze3 {β : Type} (k : List V → Option β) : zero Try.prog 3 k = k [.int .i64 0] := by kernel_rfl
theorem io3 : infoOk Try.prog 3 1 = true := by kernel_rfl
@[simp] theorem ag4 : agg? Try.prog 4 = some false := by kernel_rfl
@[simp] theorem sz4 {β : Type} (k : Nat → Option β) : szOf Try.prog 4 k = k 1 := by kernel_rfl
@[simp] theorem ze4 {β : Type} (k : List V → Option β) : zero Try.prog 4 k = k [.bool false] := by kernel_rfl
theorem io4 : infoOk Try.prog 4 1 = true := by kernel_rfl
@[simp] theorem ag38 : agg? Try.prog 38 = some true := by kernel_rfl
@[simp] theorem sz38 {β : Type} (k : Nat → Option β) : szOf Try.prog 38 k = k 4 := by kernel_rfl
@[simp] theorem ze38 {β : Type} (k : List V → Option β) : zero Try.prog 38 k = k [.int .i64 0, .int .i64 0, .int .i64 0, .int .i64 0] := by kernel_rfl
theorem io38 : infoOk Try.prog 38 4 = true := by kernel_rfl
@[simp] theorem ag54 : agg? Try.prog 54 = some true := by kernel_rfl
@[simp] theorem sz54 {β : Type} (k : Nat → Option β) : szOf Try.prog 54 k = k 4 := by kernel_rfl
@[simp] theorem ze54 {β : Type} (k : List V → Option β) : zero Try.prog 54 k = k [.int .i64 0, .int .i64 0, .int .i64 0, .int .i64 0] := by kernel_rfl
theorem io54 : infoOk Try.prog 54 4 = true := by kernel_rfl
@[simp] theorem ag198 : agg? Try.prog 198 = some true := by kernel_rfl
@[simp] theorem sz198 {β : Type} (k : Nat → Option β) : szOf Try.prog 198 k = k 2 := by kernel_rfl
@[simp] theorem ze198 {β : Type} (k : List V → Option β) : zero Try.prog 198 k = k [.int .i64 0, .int .i64 0] := by kernel_rfl
theorem io198 : infoOk Try.prog 198 2 = true := by kernel_rfl
@[simp] theorem ag200 : agg? Try.prog 200 = some true := by kernel_rfl
@[simp] theorem sz200 {β : Type} (k : Nat → Option β) : szOf Try.prog 200 k = k 10 := by kernel_rfl
@[simp] theorem ze200 {β : Type} (k : List V → Option β) : zero Try.prog 200 k = k [.int .i64 0, .int .i64 0, .int .i64 0, .int .i64 0, .int .i64 0, .int .i64 0, .int .i64 0, .int .i64 0, .int .i64 0, .int .i64 0] := by kernel_rfl
theorem io200 : infoOk Try.prog 200 10 = true := by kernel_rfl
@[simp] theorem un3 : Try.prog.underlying 3 = some (.int .i64) := by kernel_rfl
@[simp] theorem bz38 (st : St) : bldK Try.prog 38 [] [] [.int .i64 0, .int .i64 0, .int .i64 0, .int .i64 0] st = some (.g [.int .i64 0, .int .i64 0, .int .i64 0, .int .i64 0], st) := by kernel_rfl
theorem so38 : structOk Try.prog 38 [(0, 1), (1, 1), (2, 1), (3, 1)] = true := by kernel_rfl
@[simp] theorem bl38 (x0 x1 x2 x3 : Operand) (a0 a1 a2 a3 : V) (st : St) (h0 : a0.one = true) (h1 : a1.one = true) (h2 : a2.one = true) (h3 : a3.one = true) : bldK Try.prog 38 [(0, x0), (1, x1), (2, x2), (3, x3)] [a0, a1, a2, a3] [.int .i64 0, .int .i64 0, .int .i64 0, .int .i64 0] st = some (.g [a0, a1, a2, a3], st) := by
  rw [bldK_ok so38, partsK_one rfl h0 (by simp), partsK_one rfl h1 (by simp), partsK_one rfl h2 (by simp), partsK_one rfl h3 (by simp)]; rfl
@[simp] theorem fk38_0 (k : Nat → Nat → Res) : fieldK Try.prog 38 0 k = k 1 0 := by kernel_rfl
@[simp] theorem fk38_1 (k : Nat → Nat → Res) : fieldK Try.prog 38 1 k = k 1 1 := by kernel_rfl
@[simp] theorem fk38_2 (k : Nat → Nat → Res) : fieldK Try.prog 38 2 k = k 1 2 := by kernel_rfl
@[simp] theorem fk38_3 (k : Nat → Nat → Res) : fieldK Try.prog 38 3 k = k 1 3 := by kernel_rfl
@[simp] theorem bz54 (st : St) : bldK Try.prog 54 [] [] [.int .i64 0, .int .i64 0, .int .i64 0, .int .i64 0] st = some (.g [.int .i64 0, .int .i64 0, .int .i64 0, .int .i64 0], st) := by kernel_rfl
theorem so54 : structOk Try.prog 54 [(0, 1), (1, 1), (2, 1), (3, 1)] = true := by kernel_rfl
@[simp] theorem bl54 (x0 x1 x2 x3 : Operand) (a0 a1 a2 a3 : V) (st : St) (h0 : a0.one = true) (h1 : a1.one = true) (h2 : a2.one = true) (h3 : a3.one = true) : bldK Try.prog 54 [(0, x0), (1, x1), (2, x2), (3, x3)] [a0, a1, a2, a3] [.int .i64 0, .int .i64 0, .int .i64 0, .int .i64 0] st = some (.g [a0, a1, a2, a3], st) := by
  rw [bldK_ok so54, partsK_one rfl h0 (by simp), partsK_one rfl h1 (by simp), partsK_one rfl h2 (by simp), partsK_one rfl h3 (by simp)]; rfl
@[simp] theorem fk54_0 (k : Nat → Nat → Res) : fieldK Try.prog 54 0 k = k 1 0 := by kernel_rfl
@[simp] theorem fk54_1 (k : Nat → Nat → Res) : fieldK Try.prog 54 1 k = k 1 1 := by kernel_rfl
@[simp] theorem fk54_2 (k : Nat → Nat → Res) : fieldK Try.prog 54 2 k = k 1 2 := by kernel_rfl
@[simp] theorem fk54_3 (k : Nat → Nat → Res) : fieldK Try.prog 54 3 k = k 1 3 := by kernel_rfl
@[simp] theorem bz198 (st : St) : bldK Try.prog 198 [] [] [.int .i64 0, .int .i64 0] st = some (.g [.int .i64 0, .int .i64 0], st) := by kernel_rfl
theorem so198 : structOk Try.prog 198 [(0, 1), (1, 1)] = true := by kernel_rfl
@[simp] theorem bl198 (x0 x1 : Operand) (a0 a1 : V) (st : St) (h0 : a0.one = true) (h1 : a1.one = true) : bldK Try.prog 198 [(0, x0), (1, x1)] [a0, a1] [.int .i64 0, .int .i64 0] st = some (.g [a0, a1], st) := by
  rw [bldK_ok so198, partsK_one rfl h0 (by simp), partsK_one rfl h1 (by simp)]; rfl
@[simp] theorem fk198_0 (k : Nat → Nat → Res) : fieldK Try.prog 198 0 k = k 1 0 := by kernel_rfl
@[simp] theorem fk198_1 (k : Nat → Nat → Res) : fieldK Try.prog 198 1 k = k 1 1 := by kernel_rfl
@[simp] theorem bz200 (st : St) : bldK Try.prog 200 [] [] [.int .i64 0, .int .i64 0, .int .i64 0, .int .i64 0, .int .i64 0, .int .i64 0, .int .i64 0, .int .i64 0, .int .i64 0, .int .i64 0] st = some (.g [.int .i64 0, .int .i64 0, .int .i64 0, .int .i64 0, .int .i64 0, .int .i64 0, .int .i64 0, .int .i64 0, .int .i64 0, .int .i64 0], st) := by kernel_rfl
theorem so200 : structOk Try.prog 200 [(0, 2), (2, 2), (4, 2), (6, 2), (8, 2)] = true := by kernel_rfl
@[simp] theorem fk200_0 (k : Nat → Nat → Res) : fieldK Try.prog 200 0 k = k 2 0 := by kernel_rfl
@[simp] theorem fk200_1 (k : Nat → Nat → Res) : fieldK Try.prog 200 1 k = k 2 2 := by kernel_rfl
@[simp] theorem fk200_2 (k : Nat → Nat → Res) : fieldK Try.prog 200 2 k = k 2 4 := by kernel_rfl
@[simp] theorem fk200_3 (k : Nat → Nat → Res) : fieldK Try.prog 200 3 k = k 2 6 := by kernel_rfl
@[simp] theorem fk200_4 (k : Nat → Nat → Res) : fieldK Try.prog 200 4 k = k 2 8 := by kernel_rfl
end Go.Proofs.Ytdoennkmcloalaa

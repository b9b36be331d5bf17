/-
  PLAIN: what the program's own tables say, as rules for rewriting.
-/
import Derived.Test.YtenncnbaoejekaaChecked
import Derived.Test.YtenncnbaoejekaaTyGeoA
namespace Go.Proofs.Ytenncnbaoejekaa
open Go.RowKit Ev
-- lintel/seal.Of
@[simp] theorem nt125 : Try.f125.ntmps = 5 := rfl
@[simp] theorem rs125 : Try.f125.results.toList = [.tmp 2] := rfl
@[simp] theorem xt125 : ext? Try.prog 125 = none := by kernel_rfl
-- lintel/lintelref1.Of
@[simp] theorem nt128 : Try.f128.ntmps = 5 := rfl
@[simp] theorem rs128 : Try.f128.results.toList = [.tmp 2] := rfl
@[simp] theorem xt128 : ext? Try.prog 128 = none := by kernel_rfl
-- slices.Equal[[]uint64,uint64]
@[simp] theorem nt129 : Try.f129.ntmps = 26 := rfl
@[simp] theorem rs129 : Try.f129.results.toList = [.tmp 4] := rfl
@[simp] theorem xt129 : ext? Try.prog 129 = none := by kernel_rfl
-- lintel/seal.Fits
@[simp] theorem nt158 : Try.f158.ntmps = 20 := rfl
@[simp] theorem rs158 : Try.f158.results.toList = [.tmp 2] := rfl
@[simp] theorem xt158 : ext? Try.prog 158 = none := by kernel_rfl
-- lintel/lintelref1.Fits
@[simp] theorem nt159 : Try.f159.ntmps = 21 := rfl
@[simp] theorem rs159 : Try.f159.results.toList = [.tmp 2] := rfl
@[simp] theorem xt159 : ext? Try.prog 159 = none := by kernel_rfl
-- slices.Clone[[]uint64,uint64]
@[simp] theorem nt160 : Try.f160.ntmps = 8 := rfl
@[simp] theorem rs160 : Try.f160.results.toList = [.tmp 2] := rfl
@[simp] theorem xt160 : ext? Try.prog 160 = none := by kernel_rfl
-- lintel/seal.On
@[simp] theorem nt164 : Try.f164.ntmps = 19 := rfl
@[simp] theorem rs164 : Try.f164.results.toList = [.tmp 4] := rfl
@[simp] theorem xt164 : ext? Try.prog 164 = none := by kernel_rfl
-- lintel/lintelref1.Seal
@[simp] theorem nt166 : Try.f166.ntmps = 20 := rfl
@[simp] theorem rs166 : Try.f166.results.toList = [.tmp 4] := rfl
@[simp] theorem xt166 : ext? Try.prog 166 = none := by kernel_rfl
-- math/bits.RotateLeft64
@[simp] theorem nt181 : Try.f181.ntmps = 17 := rfl
@[simp] theorem rs181 : Try.f181.results.toList = [.tmp 4] := rfl
@[simp] theorem xt181 : ext? Try.prog 181 = none := by kernel_rfl
-- lintel/lintelref1.Turn
@[simp] theorem nt182 : Try.f182.ntmps = 25 := rfl
@[simp] theorem rs182 : Try.f182.results.toList = [.tmp 4] := rfl
@[simp] theorem xt182 : ext? Try.prog 182 = none := by kernel_rfl
@[simp] theorem ag30 : agg? Try.prog 30 = some false := by kernel_rfl
@[simp] theorem sz30 {β : Type} (k : Nat → Option β) : szOf Try.prog 30 k = k 1 := by kernel_rfl
@[simp] theorem ze30 {β : Type} (k : List V → Option β) : zero Try.prog 30 k = k [.c (.slice none 0 0)] := by kernel_rfl
theorem io30 : infoOk Try.prog 30 1 = true := by kernel_rfl
@[simp] theorem ag31 : agg? Try.prog 31 = some false := by kernel_rfl
@[simp] theorem sz31 {β : Type} (k : Nat → Option β) : szOf Try.prog 31 k = k 1 := by kernel_rfl
@[simp] theorem ze31 {β : Type} (k : List V → Option β) : zero Try.prog 31 k = k [.int .u64 0] := by kernel_rfl
theorem io31 : infoOk Try.prog 31 1 = true := by kernel_rfl
@[simp] theorem ag185 : agg? Try.prog 185 = some false := by kernel_rfl
@[simp] theorem sz185 {β : Type} (k : Nat → Option β) : szOf Try.prog 185 k = k 1 := by kernel_rfl
@[simp] theorem ze185 {β : Type} (k : List V → Option β) : zero Try.prog 185 k = k [.int .u64 0] := by kernel_rfl
theorem io185 : infoOk Try.prog 185 1 = true := by kernel_rfl
@[simp] theorem un30 : Try.prog.underlying 30 = some (.slice 31) := by kernel_rfl
@[simp] theorem ln30 (c : Cx) (st : St) (x : V) : builtinE Try.prog c .len [30] [x] st = lenS st x := len_slice un30 x
@[simp] theorem ix30 {β : Type} (m o len cap i : Nat) (k : V → Option β) : idxE Try.prog 30 (.sl m o len cap) i k = if i < len then k (.p m (o + i * 1)) else none := idxE_sl un30 (fun k => sz31 k) m o len cap i k
@[simp] theorem iy30 {β : Type} (m o len w i : Nat) (k : V → Option β) : idxE Try.prog 30 (.sg m o len w) i k = if i < len then k (.p m (o + i * 1)) else none := idxE_sg un30 (fun k => sz31 k) m o len w i k
@[simp] theorem el30 {β : Type} (k : TypeId → Nat → Option β) : Ev.elemOf Try.prog 30 k = k 31 1 := by kernel_rfl
@[simp] theorem un31 : Try.prog.underlying 31 = some (.int .u64) := by kernel_rfl
@[simp] theorem un185 : Try.prog.underlying 185 = some (.int .u64) := by kernel_rfl
end Go.Proofs.Ytenncnbaoejekaa

/-
  Contracts of package strings: where a byte stands, whether it stands there, what stands between.
-/
import Derived.Test.YtlonobfpogimgaaGreatDoorTyPath
import Derived.Test.YtlonobfpogimgaaGreatDoorPaP
set_option linter.unusedSimpArgs false
namespace Go.Proofs.YtlonobfpogimgaaGreatDoor
open Go.RowKit Ev
def okS (s : Tx) : Prop := ∀ b ∈ s, b < 256
theorem okS.take {s : Tx} (h : okS s) (k : Nat) : okS (s.take k) := fun b hb => h b (List.mem_of_mem_take hb)
theorem okS.drop {s : Tx} (h : okS s) (k : Nat) : okS (s.drop k) := fun b hb => h b (List.mem_of_mem_drop hb)
theorem xidx : ext? Tryz.prog 133 = some Extern.BytealgIndexByte.indexByte := by kernel_rfl
theorem idxB_any (c : Cx) (st : St) (s : Tx) (hs : okS s) (b : Nat) (hb : b < 256) : Gd (callL Tryz.prog c 132 [.s s, .int .u8 (b : Int)] st) fun r => r = (.int .i64 (idxI b s), st) := by
  rw [Gd_callL Tryz.func132 rfl]
  have h1 := ext_idx (P := Tryz.prog) (st := st) s hs b hb
  simp [evOp_ext xidx, sets, T.get_set, extR_some h1]
end Go.Proofs.YtlonobfpogimgaaGreatDoor

/-
  Contracts of package strings: where a byte stands, whether it stands there, what stands between.
-/
import Derived.Test.YtgcpgidofikcdaaGreatDoorTyPath
import Derived.Test.YtgcpgidofikcdaaGreatDoorPaP
set_option linter.unusedSimpArgs false
namespace Go.Proofs.YtgcpgidofikcdaaGreatDoor
open Go.RowKit Ev
def okS (s:Tx):Prop:=∀ b ∈ s,b < 256
theorem okS.take {s:Tx} (h:okS s) (k:Nat):okS (s.take k):=fun b hb => h b (List.mem_of_mem_take hb)
theorem okS.drop {s:Tx} (h:okS s) (k:Nat):okS (s.drop k):=fun b hb => h b (List.mem_of_mem_drop hb)
theorem xidx:ext? Tryz.prog 303 = some Extern.BytealgIndexByte.indexByte:=by kernel_rfl
theorem xcnt:ext? Tryz.prog 296 = some Extern.BytealgCount.count:=by kernel_rfl
theorem idxB_any (c:Cx) (st:St) (s:Tx) (hs:okS s) (b:Nat) (hb:b < 256):Gd (callL Tryz.prog c 297 [.s s,.int .u8 (b:Int)] st) fun r => r = (.int .i64 (idxI b s),st):=by
 rw [Gd_callL Tryz.func297 rfl]
 have h1:=ext_idx (P:=Tryz.prog) (st:=st) s hs b hb
 simp [evOp_ext xidx,sets,T.get_set,extR_some h1]
theorem slIdx_any (c:Cx) (st:St) (s:Tx) (hs:okS s) (b:Nat) (hb:b < 256):Gd (callL Tryz.prog c 288 [.s s,.s [b]] st) fun r => r = (.int .i64 (idxI b s),st):=by
 rw [Gd_callL Tryz.func288 rfl]
 by_cases he:[b] = s
 ·have h0:idxI b s = 0:=by
   subst he
   unfold idxI
   cases h:fidx b [b] with
   | none => have:=fidx_none h; simp at this
   | some i =>
    have:=(List.getElem?_eq_some_iff.1 (fidx_some h).1).1
    simp at this
    subst this
    rfl
  subst he
  simp [evOp_call,sets,T.get_set,len_str un9,h0]
 ·simp [evOp_call,sets,T.get_set,len_str un9,indexK_str un9 [b] 0 b rfl,he]
  refine Gd.mono (idxB_any _ st s hs b hb) ?_
  rintro _ rfl
  simp [evOp_call,sets,T.get_set]
theorem index_any (c:Cx) (st:St) (s:Tx) (hs:okS s) (b:Nat) (hb:b < 256):Gd (callL Tryz.prog c 270 [.s s,.s [b]] st) fun r => r = (.int .i64 (idxI b s),st):=by
 rw [Gd_callL Tryz.func270 rfl]
 simp [evOp_call,sets,T.get_set]
 refine Gd.mono (slIdx_any _ st s hs b hb) ?_
 rintro _ rfl
 simp [evOp_call,sets,T.get_set]
theorem has_any (c:Cx) (st:St) (s:Tx) (hs:okS s) (b:Nat) (hb:b < 256):Gd (callL Tryz.prog c 230 [.s s,.s [b]] st) fun r => r = (.bool (decide (b ∈ s)),st):=by
 rw [Gd_callL Tryz.func230 rfl]
 simp [evOp_call,sets,T.get_set]
 refine Gd.mono (index_any _ st s hs b hb) ?_
 rintro _ rfl
 have:=@idxI_neg b s
 by_cases hm:b ∈ s
 ·have h0:=this.2 hm
  simp [evOp_call,sets,T.get_set,h0,hm]
 ·have h0:¬ 0 ≤ idxI b s:=fun h => hm (this.1 h)
  simp [evOp_call,sets,T.get_set,hm]
  omega
theorem count_any (c:Cx) (st:St) (s:Tx) (hs:okS s) (b:Nat) (hb:b < 256):Gd (callL Tryz.prog c 287 [.s s,.s [b]] st) fun r => r = (.int .i64 ((s.count b:Nat):Int),st):=by
 rw [Gd_callL Tryz.func287 rfl]
 have h1:=ext_count (P:=Tryz.prog) (st:=st) s hs b hb
 simp [evOp_ext xcnt,sets,T.get_set,len_str un9,indexK_str un9 [b] 0 b rfl,extR_some h1]
end Go.Proofs.YtgcpgidofikcdaaGreatDoor

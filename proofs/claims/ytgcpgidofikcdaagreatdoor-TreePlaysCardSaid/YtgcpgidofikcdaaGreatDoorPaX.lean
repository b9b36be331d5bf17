/-
  PLAIN: how long joined parts are; the first ones of a row.
-/
import Derived.Test.YtgcpgidofikcdaaGreatDoorPaGa
namespace Go.Proofs.YtgcpgidofikcdaaGreatDoor
open Go.RowKit Ev
theorem row_hi {P:Program} {st:St} {t el n:Nat} {x:V} {l:List V} (k:Nat) (hu:P.underlying t = some (.slice el)) (hi:infoOk P el 1 = true) (h:RdRow st x 1 n l) (hc:CapOk x) (hn:0 < n) (hk:k ≤ n) :
  ∃ x',(∀ (e:Env) (o:Operand) (i:IntKind),opv e o = some (.int i (k:Int)) → ∀ kk:V → Res,sliceE P e t x none (some o) kk = kk x') ∧ RdRow st x' 1 k (l.take k):=by
 obtain ⟨h1,h2⟩:=h
 have hl:(l.take k).length = k * 1:=by rw [List.length_take]; omega
 have hg:∀ j v,(l.take k)[j]? = some v → l[j]? = some v:=fun j v hj => by
  rw [List.getElem?_take] at hj
  split at hj
  ·exact hj
  ·cases hj
 rcases h2 with ⟨_,h2⟩ | ⟨m,o',q,ty,sz,tr,rfl,h3,h4,h5,h6⟩ | ⟨m,o',ty,sz,tr,rfl,h3,h4,h5,h6⟩
 ·omega
 ·refine ⟨.sl m o' k q,fun e o i hv kk => sliceE_hiS hu hi hv m o' n q (by have:=hc m o' n q rfl; omega) kk,hl,.inr (.inl ⟨m,o',q,ty,sz,tr,rfl,h3,h4,by omega,fun j v hj => h6 j v (hg j v hj)⟩)⟩
 ·refine ⟨.sg m (o' + 0 * 1) k 1,fun e o i hv kk => sliceE_hiZ hu hi hv m o' n hk kk,hl,.inr (.inr ⟨m,o' + 0 * 1,ty,sz,tr,rfl,h3,h4,by omega,fun j v hj => by simpa using h6 j v (hg j v hj)⟩)⟩
theorem sv_take (L:List Tx) (k:Nat):(sv L).take k = sv (L.take k):=by simp [sv,List.map_take]
end Go.Proofs.YtgcpgidofikcdaaGreatDoor

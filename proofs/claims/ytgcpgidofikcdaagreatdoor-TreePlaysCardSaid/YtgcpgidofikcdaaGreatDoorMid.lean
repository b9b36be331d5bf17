/-
  PLAIN: the middle of a row.
-/
import Derived.Test.YtgcpgidofikcdaaGreatDoorSc
set_option linter.unusedSimpArgs false
namespace Go.Proofs.YtgcpgidofikcdaaGreatDoor
open Go.RowKit Ev
def CapOk (x:V):Prop:=∀ m o l q,x = .sl m o l q → l ≤ q
section
variable {P:Program} {c:Cx} {e:Env} {st:St}
theorem bnd_at {n k:Nat} {i:IntKind} {x:Operand} (hv:opv e x = some (.int i (k:Int))) (f:Nat → Res):bnd e n (some x) f = f k:=by
 have hopd:∀ f:V → Res,opd e x f = f (.int i (k:Int)):=fun f => by
  have:opd e x f = (opv e x).bind f:=by rw [opd_bind]; rfl
  rw [this,hv]; rfl
 show opd e x (fun v => asNat v f) = f k
 rw [hopd]; rfl
theorem sliceE_hiZ {t el z:Nat} (hu:P.underlying t = some (.slice el)) (hi:infoOk P el z = true) {x:Operand} {k:Nat} {i:IntKind} (hv:opv e x = some (.int i (k:Int))) (q o n:Nat) (hk:k ≤ n) (kk:V → Res):sliceE P e t (.sg q o n z) none (some x) kk = kk (.sg q (o + 0 * z) k z):=by
 unfold sliceE
 rw [hu]
 simp only [infoOk_sz hi]
 have h2:∀ f:Nat → Res,bnd e 0 none f = f 0:=fun f => rfl
 rw [bnd_at hv,h2]
 have b1:Nat.ble 0 k = true:=by rw [Nat.ble_eq]; omega
 have b2:Nat.ble k n = true:=by rw [Nat.ble_eq]; exact hk
 have b4:Nat.beq z z = true:=by simp
 have b3:(Nat.beq 0 k && !Nat.beq 0 0) = false:=by simp
 simp only [b1,b2,b3,b4,fn_eq]
 rfl
end
end Go.Proofs.YtgcpgidofikcdaaGreatDoor

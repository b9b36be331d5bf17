/-
  Contracts: path.Last.
-/
import Derived.Test.YtlonobfpogimgaaGreatDoorPaC
set_option linter.unusedSimpArgs false
namespace Go.Proofs.YtlonobfpogimgaaGreatDoor
open Go.RowKit Ev
theorem par_len (s : Tx) : (parS s).length ≤ s.length + 1 := by
  unfold parS
  have := List.length_filter_le keepT (spl s)
  have h2 := spl_count s
  have h3 : s.count 47 ≤ s.length := List.count_le_length
  omega
def yv (l : Tx) : List V := l.map fun (b : Nat) => V.int .u8 (b : Int)
theorem yv_app (a b : Tx) : yv (a ++ b) = yv a ++ yv b := by simp [yv]
@[simp] theorem yv_length (a : Tx) : (yv a).length = a.length := by simp [yv]
theorem yv_one (a : Tx) : ∀ v ∈ yv a, v.one = true := fun v hv => by
  unfold yv at hv
  obtain ⟨b, _, rfl⟩ := List.mem_map.1 hv
  rfl
@[simp] theorem evOp_slice3 {P : Program} {F : CallF} {c : Cx} {e : Env} {st : St} (d : Option Nat) (ty : TypeId) (p : String) (af : Array Edge) (g : Option (Nat × Bool)) (t : TypeId) (x mx : Operand) (lo hi : Option Operand) : evOp P F c e st ⟨d, .slice t x lo hi (some mx), ty, p, af, g⟩ = opd e x fun v => slice3E P e t v lo hi mx fun a => some (a, st) := rfl
theorem slice3_sg {P : Program} {e : Env} {t el : TypeId} (hu : P.underlying t = some (.slice el)) (hi : infoOk P el 1 = true) {x y : Operand} {k : Nat} {i j : IntKind} (hv : opv e x = some (.int i (k : Int))) (hw : opv e y = some (.int j (k : Int))) (m n : Nat) (hk : k ≤ n) (kk : V → Res) :
    slice3E P e t (.sg m 0 n 1) none (some x) y kk = kk (.sl m 0 k k) := by
  unfold slice3E
  rw [hu]
  simp only [infoOk_sz hi]
  rw [bnd_at hw, bnd_at hv]
  have h2 : ∀ f : Nat → Res, bnd e 0 none f = f 0 := fun f => rfl
  rw [h2]
  have b1 : Nat.ble 0 k = true := by rw [Nat.ble_eq]; omega
  have b2 : Nat.ble k k = true := by rw [Nat.ble_eq]; exact Nat.le_refl _
  have b3 : Nat.ble k n = true := by rw [Nat.ble_eq]; exact hk
  have b4 : Nat.beq 1 1 = true := rfl
  simp only [b1, b2, b3, b4, fn_eq]
  cases Nat.beq k 0 <;> simp
def suf (s : Tx) : Prop := 2 ≤ s.length ∧ s.drop (s.length - 2) = [47, 46]
instance (s : Tx) : Decidable (suf s) := by unfold suf; infer_instance
def lastBad (s : Tx) : Prop := parS s = [] ∨ (parS s).getLast? = some [46, 46] ∨ s = [46] ∨ suf s
instance (s : Tx) : Decidable (lastBad s) := by unfold lastBad; infer_instance
def lastE (s : Tx) : Int := if errS s ≠ 0 then errS s else if lastBad s then 1 else 0
def lastD (s : Tx) : List Tx := if lastE s = 0 then (parS s).dropLast else []
def lastN (s : Tx) : Tx := if lastE s = 0 then (parS s).getLast?.getD [] else []
end Go.Proofs.YtlonobfpogimgaaGreatDoor

/-
  Laws of a file system: single things done, whose answers are known.
-/
import Derived.Test.YtgcpgidofikcdaaDoorTmLa
import Derived.Test.YtgcpgidofikcdaaDoorTmFe
set_option linter.unusedSimpArgs false
set_option linter.unusedVariables false
namespace Go.Proofs.YtgcpgidofikcdaaDoor
open Go.RowKit Ev
abbrev zO : List V := [.int .i64 0, .s [], .s [], .int .i64 0, .int .i64 0, .c (.slice none 0 0)]
@[simp] theorem bO01 (x y : Operand) (v w : V) (st : St) (h : v.one = true) (h' : w.one = true) : bldK Tryd.prog 29 [(0, x), (1, y)] [v, w] zO st = some (.g [v, w, .s [], .int .i64 0, .int .i64 0, .c (.slice none 0 0)], st) := by
  rw [bldK_ok so29, partsK_one rfl h (by simp), partsK_one rfl h' (by simp)]; rfl
@[simp] theorem bO012 (x y z : Operand) (v w u : V) (st : St) (h : v.one = true) (h' : w.one = true) (h2 : u.one = true) : bldK Tryd.prog 29 [(0, x), (1, y), (2, z)] [v, w, u] zO st = some (.g [v, w, u, .int .i64 0, .int .i64 0, .c (.slice none 0 0)], st) := by
  rw [bldK_ok so29, partsK_one rfl h (by simp), partsK_one rfl h' (by simp), partsK_one rfl h2 (by simp)]; rfl
@[simp] theorem bO014 (x y z : Operand) (v w u : V) (st : St) (h : v.one = true) (h' : w.one = true) (h2 : u.one = true) : bldK Tryd.prog 29 [(0, x), (1, y), (4, z)] [v, w, u] zO st = some (.g [v, w, .s [], .int .i64 0, u, .c (.slice none 0 0)], st) := by
  rw [bldK_ok so29, partsK_one rfl h (by simp), partsK_one rfl h' (by simp), partsK_one rfl h2 (by simp)]; rfl
@[simp] theorem bO015 (x y z : Operand) (v w u : V) (st : St) (h : v.one = true) (h' : w.one = true) (h2 : u.one = true) : bldK Tryd.prog 29 [(0, x), (1, y), (5, z)] [v, w, u] zO st = some (.g [v, w, .s [], .int .i64 0, .int .i64 0, u], st) := by
  rw [bldK_ok so29, partsK_one rfl h (by simp), partsK_one rfl h' (by simp), partsK_one rfl h2 (by simp)]; rfl
@[simp] theorem bO0134 (x y z z2 : Operand) (v w u u2 : V) (st : St) (h : v.one = true) (h' : w.one = true) (h2 : u.one = true) (h3 : u2.one = true) : bldK Tryd.prog 29 [(0, x), (1, y), (3, z), (4, z2)] [v, w, u, u2] zO st = some (.g [v, w, .s [], u, u2, .c (.slice none 0 0)], st) := by
  rw [bldK_ok so29, partsK_one rfl h (by simp), partsK_one rfl h' (by simp), partsK_one rfl h2 (by simp), partsK_one rfl h3 (by simp)]; rfl
@[simp] theorem bO0135 (x y z z2 : Operand) (v w u u2 : V) (st : St) (h : v.one = true) (h' : w.one = true) (h2 : u.one = true) (h3 : u2.one = true) : bldK Tryd.prog 29 [(0, x), (1, y), (3, z), (5, z2)] [v, w, u, u2] zO st = some (.g [v, w, .s [], u, .int .i64 0, u2], st) := by
  rw [bldK_ok so29, partsK_one rfl h (by simp), partsK_one rfl h' (by simp), partsK_one rfl h2 (by simp), partsK_one rfl h3 (by simp)]; rfl
theorem opIn_nil (st : St) (k : Int) {a b : Tx} (ha : okS a) (hb : okS b) (p n : Int) (hp : -9223372036854775808 ≤ p ∧ p ≤ 9223372036854775807) : OpIn st (k, a, b, p, n, []) (.c (.slice none 0 0)) :=
  ⟨ha, hb, hp, nil_rd _ _ rfl, fun x hx => by cases hx⟩
theorem fits_ys : Fits Tryd.prog (rowC yC) 27 := fits_row Tryd.underlying27 (by kernel_rfl) (by decide) (fits_y Tryd.underlying5)
theorem okS_nil : okS [] := fun x hx => by cases hx
theorem okS_two {b : Nat} (h : b < 256) : okS [47, b] := fun x hx => by
  simp at hx
  rcases hx with rfl | rfl <;> omega
theorem heavy_small {o : LOp} (ha : o.2.1.length ≤ 500) (hb : o.2.2.1.length ≤ 500) (hd : o.2.2.2.2.2.length ≤ 5000) : heavyB (toOp o) = false := by
  unfold heavyB toOp
  simp
  omega
theorem TrN.doC {st s : St} {q m n B : Nat} {x : V} {Y Z : Nat → V} {E : Tr} {LB DB : Nat → Prop} (h : TrN st s q m n B x Y Z E LB DB) (hB : B ≤ 900) {o : LOp} {y : V} (hi : OpIn st o y) (hv : heavyB (toOp o) = false) {R : Rs} {E' : Tr} (e : doE n E (toOp o) = (R, E')) (nt : Nat) :
    Gd (tmF ⟨false, [], 0, nt⟩ 13 [.p q 0, opV (toOp o) y] s) fun r => ∃ ry rz Y' Z' LB' DB', r.1 = resV R.err R.node R.ty R.links R.size ry rz ∧ RdRow r.2 ry 1 R.data.length (yv R.data) ∧ RdRow r.2 rz 1 R.names.length (sv R.names) ∧ TrN st r.2 q m n (B + 1) x Y' Z' E' LB' DB' ∧ FrT s r.2 m LB DB LB' DB' := by
  refine Gd.mono (h.do hB hi hv nt) ?_
  rintro ⟨r, s3⟩ ⟨ry, rz, Y3, Z3, LB3, DB3, hr, hry, hrz, TG3, F3, hbl⟩
  simp only at hr hry hrz TG3 F3
  have T3 := h.step (o := toOp o) hi.a hi.b hi.d TG3 F3
  rw [e] at hr hry hrz T3
  exact ⟨ry, rz, Y3, Z3, LB3, DB3, hr, hry, hrz, T3, F3⟩
/-- a block of one's own stays -/
theorem TrN.keepB {st s s' : St} {q m n B : Nat} {x : V} {Y Z : Nat → V} {E : Tr} {LB DB LB' DB' : Nat → Prop} (h : TrN st s q m n B x Y Z E LB DB) (F : FrT s s' m LB DB LB' DB') {b : Nat} (hb : b < s.nx) (hm : b ≠ m) (hl : ¬ LB b) : s'.h.get b = s.h.get b := F.keep b hb hm hl
theorem do2 (n : Nat) (E : Tr) (a b d : Tx) (p k : Int) : doE n E (toOp (2, a, b, p, k, d)) = makeE n E a 1 [] := by simp [doE, toOp]
theorem do3 (n : Nat) (E : Tr) (a b d : Tx) (p k : Int) : doE n E (toOp (3, a, b, p, k, d)) = linkE E a b := by simp [doE, toOp]
theorem do4 (n : Nat) (E : Tr) (a b d : Tx) (p k : Int) : doE n E (toOp (4, a, b, p, k, d)) = unlinkE E a := by simp [doE, toOp]
theorem do9 (n : Nat) (E : Tr) (a b d : Tx) (p k : Int) : doE n E (toOp (9, a, b, p, k, d)) = readE E a p k := by simp [doE, toOp]
theorem do10 (n : Nat) (E : Tr) (a b d : Tx) (p k : Int) : doE n E (toOp (10, a, b, p, k, d)) = writeE E a p d := by simp [doE, toOp]
theorem do12 (n : Nat) (E : Tr) (a b d : Tx) (p k : Int) : doE n E (toOp (12, a, b, p, k, d)) = statE E a := by simp [doE, toOp]
end Go.Proofs.YtgcpgidofikcdaaDoor

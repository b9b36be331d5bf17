/-
  Maps by whole numbers; package lock: New.
-/
import Derived.Test.YtdoennkmcloalaaTyAll
import Derived.Test.YtdoennkmcloalaaRb
import Derived.Test.YtdoennkmcloalaaEx
import Derived.Test.YtdoennkmcloalaaDrw
set_option linter.unusedSimpArgs false
set_option linter.unusedVariables false
namespace Go.Proofs.Ytdoennkmcloalaa
open Go.RowKit Ev
def mk (M : List (Int × V × Nat)) : List MEnt := M.map fun e => (.int .i64 e.1, e.2.1, e.2.2)
theorem keyEq_int (a b : Int) : keyEq (.int .i64 a) (.int .i64 b) = some (decide (a = b)) := by
  show (match eqKd .i64 .i64 with | true => some (eqI a b) | false => none) = _
  have h : eqKd .i64 .i64 = true := rfl
  rw [h]
  show some (eqI a b) = _
  rw [eqI_eq]
  by_cases h : a = b <;> simp [h]
theorem mfind_cons (k : Int) (e : Int × V × Nat) (M : List (Int × V × Nat)) (i : Nat) : mfind (.int .i64 k) (mk (e :: M)) i = if k = e.1 then some (some (i, e.2.1, e.2.2)) else mfind (.int .i64 k) (mk M) (i + 1) := by
  have h : mfind (.int .i64 k) (mk (e :: M)) i = (match keyEq (.int .i64 k) (.int .i64 e.1) with
    | none => none
    | some true => some (some (i, e.2.1, e.2.2))
    | some false => mfind (.int .i64 k) (mk M) (i + 1)) := rfl
  rw [h, keyEq_int]
  by_cases h : k = e.1 <;> simp [h]
theorem mfind_none {k : Int} : ∀ {M : List (Int × V × Nat)} {i : Nat}, (∀ e ∈ M, e.1 ≠ k) → mfind (.int .i64 k) (mk M) i = some none
  | [], i, _ => rfl
  | e :: M, i, h => by
    rw [mfind_cons, if_neg (fun x => h e (List.mem_cons_self ..) x.symm)]
    exact mfind_none fun e' he => h e' (List.mem_cons_of_mem _ he)
theorem mfind_at {k : Int} : ∀ {M : List (Int × V × Nat)} {i j : Nat} {v : V} {c : Nat}, M[j]? = some (k, v, c) → (∀ e ∈ M.take j, e.1 ≠ k) → mfind (.int .i64 k) (mk M) i = some (some (i + j, v, c))
  | [], i, j, v, c, h, _ => by simp at h
  | e :: M, i, 0, v, c, h, _ => by
    simp at h
    subst h
    rw [mfind_cons, if_pos rfl]
    rfl
  | e :: M, i, j + 1, v, c, h, hn => by
    rw [mfind_cons, if_neg (fun x => hn e (by simp) x.symm), mfind_at (j := j) (by simpa using h) (fun e' he => hn e' (by simp [he]))]
    rw [show i + 1 + j = i + (j + 1) by omega]
section
variable {P : Program} {F : CallF} {c : Cx} {e : Env} {st : St}
@[simp] theorem evOp_look (d : Option Nat) (ty : TypeId) (p : String) (af : Array Edge) (g : Option (Nat × Bool)) (t : TypeId) (x ix : Operand) (ok : Bool) : evOp P F c e st ⟨d, .lookup t x ix ok, ty, p, af, g⟩ = opd e x fun m => opd e ix fun k => lookE P c st t m k ok := rfl
@[simp] theorem evOp_mput (d : Option Nat) (ty : TypeId) (p : String) (af : Array Edge) (g : Option (Nat × Bool)) (t : TypeId) (m k x : Operand) : evOp P F c e st ⟨d, .mapUpdate t m k x, ty, p, af, g⟩ = opd e m fun m => opd e k fun k => opd e x fun x => mputE P c st t m k x := rfl
theorem cxOf_may {c : Cx} {e : Env} {s0 : St} {o : Oper} {ops : List Oper} {i : Nat} {rs : List (Nat × Nat × Nat)} (ht : touches o.op = true) (hp : plainLd o.op = none) (hm : mayW ops i = true) :
    cxOf c ops o i rs s0 e = ⟨c.all, forb (befOf ops i) rs c.l, c.wb, c.nt⟩ := by
  unfold cxOf
  rw [ht, hp, hm]
def IsMap (P : Program) (t el : TypeId) : Prop := ∃ kt, P.underlying t = some (.map kt el) ∧ P.underlying kt = some (.int .i64)
theorem mapT_int {β : Type} {t el : TypeId} (h : IsMap P t el) (k : Int) (f : TypeId → Option β) : mapT P t (.int .i64 k) f = f el := by
  obtain ⟨kt, h1, h2⟩ := h
  unfold mapT
  simp only [h1, h2]
  have : keyOk (.int .i64) (.int .i64 k) = true := rfl
  rw [this]
theorem getM_eq {β : Type} {n ck : Nat} {l : List MEnt} (hok : c.ok n = true) (hg : st.h.get n = some (.mp l ck)) (f : Nat → List MEnt → Nat → Option β) : getM c st (.m n) f = f n l ck := by
  show getB c st n (fun b => match b with | .mp l clock => f n l clock | _ => none) = _
  rw [getB_eq, hok, hg]
  rfl
theorem look_no {t el : TypeId} {n ck : Nat} {k : Int} {M : List (Int × V × Nat)} {ok : Bool} {z : V} (h : IsMap P t el) (hok : c.ok n = true) (hg : st.h.get n = some (.mp (mk M) ck)) (hn : ∀ e ∈ M, e.1 ≠ k) (hz : ∀ kk : V → Res, zeroV P el kk = kk z) :
    lookE P c st t (.m n) (.int .i64 k) ok = lookV ok st z false := by
  unfold lookE
  rw [mapT_int h]
  show getM c st (.m n) _ = _
  rw [getM_eq hok hg]
  simp only [mfind_none hn, hz]
theorem look_yes {t el : TypeId} {n ck j : Nat} {k : Int} {M : List (Int × V × Nat)} {ok : Bool} {v : V} {b : Nat} (h : IsMap P t el) (hok : c.ok n = true) (hg : st.h.get n = some (.mp (mk M) ck)) (hj : M[j]? = some (k, v, b)) (hn : ∀ e ∈ M.take j, e.1 ≠ k) :
    lookE P c st t (.m n) (.int .i64 k) ok = lookV ok st v true := by
  unfold lookE
  rw [mapT_int h]
  show getM c st (.m n) _ = _
  rw [getM_eq hok hg]
  simp only [mfind_at hj hn]
theorem mput_new {t el : TypeId} {n ck : Nat} {k : Int} {M : List (Int × V × Nat)} {v : V} (h : IsMap P t el) (hok : c.ok n = true) (hwb : c.wb ≤ n) (hg : st.h.get n = some (.mp (mk M) ck)) (hn : ∀ e ∈ M, e.1 ≠ k) :
    mputE P c st t (.m n) (.int .i64 k) v = some (.u, ⟨st.nx, st.h.set n (.mp (mk (M ++ [(k, v, ck)])) (ck + 1))⟩) := by
  unfold mputE
  rw [mapT_int h, getM_eq hok hg]
  simp only [mfind_none hn, fn_eq, setB_eq, if_pos hwb]
  have : mk (M ++ [(k, v, ck)]) = mk M ++ [(.int .i64 k, v, ck)] := by simp [mk]
  rw [this]
theorem mk_erase : ∀ (M : List (Int × V × Nat)) (j : Nat), (mk M).eraseIdx j = mk (M.eraseIdx j)
  | [], _ => rfl
  | _ :: _, 0 => rfl
  | e :: M, j + 1 => by
    show _ :: (mk M).eraseIdx j = _ :: mk (M.eraseIdx j)
    rw [mk_erase M j]
theorem mdel_yes {t el : TypeId} {n ck j : Nat} {k : Int} {M : List (Int × V × Nat)} {v : V} {b : Nat} (h : IsMap P t el) (hok : c.ok n = true) (hwb : c.wb ≤ n) (hg : st.h.get n = some (.mp (mk M) ck)) (hj : M[j]? = some (k, v, b)) (hn : ∀ e ∈ M.take j, e.1 ≠ k) :
    mdelE P c st t (.m n) (.int .i64 k) = some (.t [], ⟨st.nx, st.h.set n (.mp (mk (M.eraseIdx j)) ck)⟩) := by
  unfold mdelE
  rw [mapT_int h]
  show getM c st (.m n) _ = _
  rw [getM_eq hok hg]
  simp only [mfind_at hj hn, setB_eq, if_pos hwb]
  have : (mk M).eraseIdx (0 + j) = mk (M.eraseIdx j) := by rw [Nat.zero_add]; exact mk_erase M j
  rw [this]
end
theorem map_w : IsMap Try.prog 237 164 := ⟨3, by kernel_rfl, un3⟩
theorem map_h : IsMap Try.prog 238 242 := ⟨3, by kernel_rfl, un3⟩
theorem zv_w (kk : V → Res) : zeroV Try.prog 164 kk = kk (.c (.slice none 0 0)) := by kernel_rfl
theorem zv_h (kk : V → Res) : zeroV Try.prog 242 kk = kk (.g [.c (.slice none 0 0), .bool false]) := by kernel_rfl
/-- a table: the places of its maps, what stands in them -/
def TabAt (s : St) (q a b : Nat) (A B : List (Int × V × Nat)) (ca cb : Nat) : Prop := q < s.nx ∧ a < s.nx ∧ b < s.nx ∧ a ≠ b ∧ a ≠ q ∧ b ≠ q ∧ (∃ t, s.h.get q = some (.cs 240 2 t) ∧ t.get 0 = some (.m a) ∧ t.get 1 = some (.m b)) ∧ s.h.get a = some (.mp (mk A) ca) ∧ s.h.get b = some (.mp (mk B) cb)
theorem TabAt.ext {s s' : St} {q a b : Nat} {A B : List (Int × V × Nat)} {ca cb : Nat} (h : TabAt s q a b A B ca cb) (k : Ext s.nx s s') : TabAt s' q a b A B ca cb := by
  obtain ⟨h1, h2, h3, h4, h5, h6, ⟨t, h7, h8⟩, h9, h10⟩ := h
  exact ⟨Nat.lt_of_lt_of_le h1 k.le, Nat.lt_of_lt_of_le h2 k.le, Nat.lt_of_lt_of_le h3 k.le, h4, h5, h6, ⟨t, (k.keep _ h1).trans h7, h8⟩, (k.keep _ h2).trans h9, (k.keep _ h3).trans h10⟩
@[simp] theorem evOp_mmake {P : Program} {F : CallF} {c : Cx} {e : Env} {st : St} (d : Option Nat) (ty : TypeId) (p : String) (af : Array Edge) (g : Option (Nat × Bool)) (t : TypeId) : evOp P F c e st ⟨d, .makeMap t none, ty, p, af, g⟩ = (match P.underlying t with | some (.map _ _) => newB st (.mp [] 0) fun n st => some (.m n, st) | _ => none) := rfl
set_option maxRecDepth 20000 in
set_option maxHeartbeats 4000000 in
theorem lknew_any (st : St) (nt : Nat) : Gd (callL Try.prog ⟨false, [], 0, nt⟩ 109 [] st) fun r => ∃ q a b, r.1 = .p q 0 ∧ TabAt r.2 q a b [] [] 0 0 ∧ st.nx ≤ q ∧ st.nx ≤ a ∧ st.nx ≤ b ∧ Ext st.nx st r.2 := by
  rw [Gd_callL Try.func109 rfl]
  obtain ⟨k1, hm1, _⟩ := map_w
  obtain ⟨k2, hm2, _⟩ := map_h
  have hcg : ∀ (l : List V) (k : List V → Res), cellsOf (V.g l) k = k l := fun _ _ => rfl
  simp [evOp_call, sets, T.get_set, hm1, hm2, newB_is, newC_is, hcg]
  have q1 : ¬ st.nx + 1 = st.nx := by omega
  have q2 : ¬ st.nx + 1 + 1 = st.nx := by omega
  have q3 : ¬ st.nx + 1 + 1 = st.nx + 1 := by omega
  refine ⟨st.nx, st.nx + 1, ⟨by show st.nx + 1 + 1 < st.nx + 1 + 1 + 1; omega, by show st.nx < st.nx + 1 + 1 + 1; omega, by show st.nx + 1 < st.nx + 1 + 1 + 1; omega, by omega, by omega, by omega, ⟨_, T.get_set_same _ _ _, by simp [T.get_set], by simp [T.get_set]⟩, ?_, ?_⟩, by omega, by omega, by omega, (((Ext.refl _ _).new (Nat.le_refl _) _).new (Nat.le_succ _) _).new (by show st.nx ≤ st.nx + 1 + 1; omega) _⟩
  · exact (T.get_set_ne _ _ q2).trans ((T.get_set_ne _ _ q1).trans (T.get_set_same _ _ _))
  · exact (T.get_set_ne _ _ q3).trans (T.get_set_same _ _ _)
end Go.Proofs.Ytdoennkmcloalaa

/-
  Contracts of package lock: refuses.
-/
import Derived.Test.YtdoennkmcloalaaLkC
set_option linter.unusedSimpArgs false
set_option linter.unusedVariables false
namespace Go.Proofs.Ytdoennkmcloalaa
open Go.RowKit Ev
abbrev Wn := Int × Bool
def cellsK (K : List Wn) : List V := K.flatMap fun r => [.int .i64 r.1, .bool r.2]
theorem cellsK_length (K : List Wn) : (cellsK K).length = K.length * 2 := by
  induction K with
  | nil => rfl
  | cons r K ih => show (_ :: _ :: cellsK K).length = _; simp only [List.length_cons, ih]; omega
theorem cellsK_get : ∀ (K : List Wn) (i : Nat) (r : Wn), K[i]? = some r → (cellsK K)[i * 2 + 0]? = some (.int .i64 r.1) ∧ (cellsK K)[i * 2 + 1]? = some (.bool r.2)
  | [], i, r, h => by simp at h
  | q :: K, 0, r, h => by simp at h; subst h; exact ⟨rfl, rfl⟩
  | q :: K, i + 1, r, h => by
    have := cellsK_get K i r (by simpa using h)
    have e : cellsK (q :: K) = .int .i64 q.1 :: .bool q.2 :: cellsK K := rfl
    rw [e, show (i + 1) * 2 + 0 = i * 2 + 0 + 1 + 1 by omega, show (i + 1) * 2 + 1 = i * 2 + 1 + 1 + 1 by omega]
    exact this
def UpK (K : List Wn) : Prop := ∀ (i : Nat) (x y : Wn), K[i]? = some x → K[i + 1]? = some y → x.1 < y.1
@[simp] theorem lookV_f (st : St) (v : V) (b : Bool) : lookV false st v b = some (v, st) := rfl
@[simp] theorem lookV_t (st : St) (v : V) (b : Bool) : lookV true st v b = some (.t [v, .bool b], st) := rfl
def rf1I (st : St) (q : Nat) (who : Int) (x : V) (n : Nat) (e : Env) (s : St) : Prop := ∃ i : Nat, 1 ≤ i ∧ i ≤ n ∧ e.get 0 = some (.p q 0) ∧ e.get 1 = some (.int .i64 who) ∧ e.get 2 = some x ∧ e.get 7 = some (.int .i64 (i : Int)) ∧ s = st
def rf2I (st : St) (q : Nat) (who : Int) (x : V) (n : Nat) (e : Env) (s : St) : Prop := ∃ i : Nat, i ≤ n ∧ e.get 0 = some (.p q 0) ∧ e.get 43 = some x ∧ e.get 44 = some (.int .i64 (n : Int)) ∧ e.get 45 = some (.int .i64 (i : Int)) ∧ Ext st.nx st s
def rfR (st : St) (c : Int) (r : V × St) : Prop := r.1 = .int .i64 c ∧ Ext st.nx st r.2
set_option maxRecDepth 20000 in
set_option maxHeartbeats 8000000 in
theorem ref_any (st : St) (q a b : Nat) (A B : List (Int × V × Nat)) (ca cb : Nat) (T : TabAt st q a b A B ca cb) (who : Int) (hA : ∀ e ∈ A, e.1 ≠ who) (x : V) (K : List Wn) (hx : RdRow st x 2 K.length (cellsK K)) (h1 : 1 ≤ K.length) (h2 : K.length ≤ 1000) (hup : UpK K) (hB : ∀ r ∈ K, ∀ e ∈ B, e.1 ≠ r.1) (nt : Nat) :
    Gd (callL Try.prog ⟨false, [], 0, nt⟩ 175 [.p q 0, .int .i64 who, x] st) (rfR st 0) := by
  rw [Gd_callL Try.func175 rfl]
  have T0 := T
  obtain ⟨hq, ha, hb, hab, haq, hbq, ⟨t, ht, t0, t1⟩, gA, gB⟩ := T
  have hwu : wantK true (some V.u) = false := rfl
  have hwf : wantK false (some V.u) = false := rfl
  have hln : ∀ s : St, lenS s (V.c (.slice none 0 0)) = some (.int .i64 0, s) := fun s => (OwnRow.nil 0 s 2).rd.lenS s
  have hlk : ∀ nt ok, lookE Try.prog ⟨false, [], 0, nt⟩ st 237 (.m a) (.int .i64 who) ok = lookV ok st (.c (.slice none 0 0)) false := fun nt ok => look_no map_w rfl gA hA zv_w
  have hK0 : ¬ (K.length : Int) = 0 := by omega
  have hK0' : ¬ K.length = 0 := by omega
  have hKn : ¬ K = [] := fun h => by rw [h] at h1; simp at h1
  simp [evOp_call, sets, T.get_set, hx.lenS, hK0, hK0', hKn, loadE_eq, getC_eq, ht, t0, hlk, hln]
  refine Gd_loop (rf1I st q who x K.length) (fun e _ => muAt 7 K.length e) ?_ ?_
  · exact ⟨1, Nat.le_refl _, h1, by simp [T.get_set], by simp [T.get_set], by simp [T.get_set], by simp [T.get_set], rfl⟩
  rintro e s ⟨i, hi1, hi, g0, g1, g2, g7, rfl⟩
  by_cases hlt : i < K.length
  · obtain ⟨k, rfl⟩ : ∃ k, i = k + 1 := ⟨i - 1, by omega⟩
    have hlt' : (k : Int) + 1 < K.length := by omega
    have wk3 : IntKind.i64.wrap ((k : Int) + 1 - 1) = (k : Int) := by rw [show (k : Int) + 1 - 1 = (k : Int) by omega]; exact wrap_in (by omega) (by omega)
    have wk2 : IntKind.i64.wrap (k : Int) = (k : Int) := wrap_in (by omega) (by omega)
    have wk4 : IntKind.i64.wrap ((k : Int) + 1 + 1) = (k : Int) + 1 + 1 := by rw [show (k : Int) + 1 + 1 = ((k + 2 : Nat) : Int) by omega]; exact wrap_in (by omega) (by omega)
    have hask : ∀ f : Nat → Res, asNat (.int .i64 ((k : Int) + 1)) f = f (k + 1) := fun f => by
      rw [show (k : Int) + 1 = ((k + 1 : Nat) : Int) by omega]; exact asNat_cast ..
    obtain ⟨y, hy⟩ : ∃ y, K[k + 1]? = some y := ⟨_, List.getElem?_eq_getElem (by omega)⟩
    obtain ⟨z, hz⟩ : ∃ z, K[k]? = some z := ⟨_, List.getElem?_eq_getElem (by omega)⟩
    have hyz := hup k z y hz hy
    obtain ⟨m1, o1, ty1, sz1, tr1, i1, b1, k1, l1, c1⟩ := hx.idx (st := s) un164 io170 (i := k + 1) (by omega)
    obtain ⟨m2, o2, ty2, sz2, tr2, i2, b2, k2, l2, c2⟩ := hx.idx (st := s) un164 io170 (i := k) (by omega)
    have d1 : tr1.get o1 = some (.int .i64 y.1) := by simpa using c1 0 _ (by omega) (cellsK_get K (k + 1) _ hy).1
    have d2 : tr2.get o2 = some (.int .i64 z.1) := by simpa using c2 0 _ (by omega) (cellsK_get K k _ hz).1
    have hnl : ¬ y.1 ≤ z.1 := by omega
    simp [evOp_call, T.get_set, g0, g1, g2, g7, hx.lenS, hlt', hask, i1, i2, wk2, wk3, loadE_eq, getC_eq, k1, k2, d1, d2, hnl]
    refine ⟨by kernel_rfl, ?_⟩
    simp [evOp_call, T.get_set, g0, g1, g2, g7, hx.lenS, hlt', hask, i1, i2, wk2, wk3, wk4, loadE_eq, getC_eq, k1, k2, d1, d2, hnl]
    exact ⟨⟨k + 1 + 1, by omega, by omega, by simp [T.get_set, g0], by simp [T.get_set, g1], by simp [T.get_set, g2], by simp [T.get_set], rfl⟩, muAt_lt g7 (by simp [T.get_set]) hlt⟩
  · obtain rfl : i = K.length := by omega
    simp [evOp_call, T.get_set, g0, g1, g2, g7, hx.lenS]
    refine Gd_loop (rf2I s q who x K.length) (fun e _ => muAt 45 K.length e) ?_ ?_
    · exact ⟨0, Nat.zero_le _, by simp [T.get_set, g0], by simp [T.get_set], by simp [T.get_set], by simp [T.get_set], Ext.refl _ _⟩
    rintro e2 s2 ⟨i, hi, f0, f43, f44, f45, hs⟩
    by_cases hlt : i < K.length
    · have hlt' : (i : Int) < K.length := by omega
      have hwi := wrap_nat (n := i) (by omega)
      have T2 := T0.ext hs
      obtain ⟨hq2, ha2, hb2, _, _, _, ⟨t', ht', t0', t1'⟩, gA2, gB2⟩ := T2
      have hxs := hx.ext hs
      obtain ⟨y, hy⟩ : ∃ y, K[i]? = some y := ⟨_, List.getElem?_eq_getElem hlt⟩
      obtain ⟨m1, o1, ty1, sz1, tr1, i1, b1, k1, l1, c1⟩ := hxs.idx (st := s2) un164 io170 hlt
      have d1 : tr1.get o1 = some (.int .i64 y.1) := by simpa using c1 0 _ (by omega) (cellsK_get K i _ hy).1
      have d2 : tr1.get (o1 + 1) = some (.bool y.2) := by simpa using c1 1 _ (by omega) (cellsK_get K i _ hy).2
      have nq : ¬ s2.nx = q := by omega
      have nb : ¬ s2.nx = b := by omega
      simp [evOp_call, T.get_set, f0, f43, f44, f45, hlt', i1, loadE_eq, getC_eq, getsB_succ, getsB_zero, k1, d1, d2, newC_is, storeK_g, putB_eq, roT, sets]
      refine ⟨by kernel_rfl, ?_⟩
      simp [evOp_call, T.get_set, f0, f43, f44, f45, loadE_eq, getC_eq, getsB_succ, getsB_zero, ht', t1', nq]
      rw [cxOf_may rfl rfl (by kernel_rfl), forb_nil, look_no map_h rfl ((T.get_set_ne _ _ nb).trans gB2) (hB y (List.mem_of_getElem? hy)) zv_h]
      simp [evOp_call, T.get_set, f0, f43, f44, f45, tupK, newC_is]
      rw [cxOf_store]
      rotate_left
      · kernel_rfl
      rw [forb_cons (by kernel_rfl) rfl]
      simp [evOp_call, T.get_set, f0, f43, f44, f45, storeK_g, putB_eq, roT, sets, loadE_eq, getC_eq, hwu, hwf, hwi]
      exact ⟨⟨i + 1, hlt, by simp [T.get_set, f0], by simp [T.get_set, f43], by simp [T.get_set, f44], by simp [T.get_set], (hs.new hs.le _).new (by show s.nx ≤ s2.nx + 1; have := hs.le; omega) _⟩, muAt_lt f45 (by simp [T.get_set]) hlt⟩
    · obtain rfl : i = K.length := by omega
      simp [evOp_call, T.get_set, f0, f43, f44, f45, sets]
      exact ⟨rfl, hs⟩
set_option maxRecDepth 20000 in
set_option maxHeartbeats 8000000 in
theorem ref_busy (st : St) (q a b : Nat) (A B : List (Int × V × Nat)) (ca cb : Nat) (T : TabAt st q a b A B ca cb) (who : Int) (hA : ∀ e ∈ A, e.1 ≠ who) (x : V) (k : Int) (al : Bool) (hx : RdRow st x 2 1 (cellsK [(k, al)])) (j : Nat) (rw_ : V) (cj : Nat) (hj : B[j]? = some (k, .g [rw_, .bool true], cj)) (hone : rw_.one = true) (hB : ∀ e ∈ B.take j, e.1 ≠ k) (nt : Nat) :
    Gd (callL Try.prog ⟨false, [], 0, nt⟩ 175 [.p q 0, .int .i64 who, x] st) (rfR st 15) := by
  rw [Gd_callL Try.func175 rfl]
  have T0 := T
  obtain ⟨hq, ha, hb, hab, haq, hbq, ⟨t, ht, t0, t1⟩, gA, gB⟩ := T
  have hwu : wantK true (some V.u) = false := rfl
  have hwf : wantK false (some V.u) = false := rfl
  have hln : ∀ s : St, lenS s (V.c (.slice none 0 0)) = some (.int .i64 0, s) := fun s => (OwnRow.nil 0 s 2).rd.lenS s
  have hlk : ∀ nt ok, lookE Try.prog ⟨false, [], 0, nt⟩ st 237 (.m a) (.int .i64 who) ok = lookV ok st (.c (.slice none 0 0)) false := fun nt ok => look_no map_w rfl gA hA zv_w
  simp [evOp_call, sets, T.get_set, hx.lenS, loadE_eq, getC_eq, ht, t0, hlk, hln]
  refine Gd_loop (rf1I st q who x 1) (fun e _ => 0) ?_ ?_
  · exact ⟨1, Nat.le_refl _, Nat.le_refl _, by simp [T.get_set], by simp [T.get_set], by simp [T.get_set], by simp [T.get_set], rfl⟩
  rintro e s ⟨i, hi1, hi, g0, g1, g2, g7, rfl⟩
  obtain rfl : i = 1 := by omega
  simp [evOp_call, T.get_set, g0, g1, g2, g7, hx.lenS]
  refine Gd_loop (fun e s' => e.get 0 = some (.p q 0) ∧ e.get 43 = some x ∧ e.get 44 = some (.int .i64 1) ∧ e.get 45 = some (.int .i64 ((0 : Nat) : Int)) ∧ s' = s) (fun e _ => 0) ?_ ?_
  · exact ⟨by simp [T.get_set, g0], by simp [T.get_set], by simp [T.get_set], by simp [T.get_set], rfl⟩
  rintro e2 s2 ⟨f0, f43, f44, f45, rfl⟩
  obtain ⟨m1, o1, ty1, sz1, tr1, i1, b1, k1, l1, c1⟩ := hx.idx (st := s2) un164 io170 (i := 0) (by omega)
  have d1 : tr1.get o1 = some (.int .i64 k) := by simpa using c1 0 _ (by omega) (cellsK_get [(k, al)] 0 _ rfl).1
  have d2 : tr1.get (o1 + 1) = some (.bool al) := by simpa using c1 1 _ (by omega) (cellsK_get [(k, al)] 0 _ rfl).2
  have nq : ¬ s2.nx = q := by omega
  have nb : ¬ s2.nx = b := by omega
  simp [evOp_call, T.get_set, f0, f43, f44, f45, i1, loadE_eq, getC_eq, getsB_succ, getsB_zero, k1, d1, d2, newC_is, storeK_g, putB_eq, roT, sets]
  refine ⟨by kernel_rfl, ?_⟩
  simp [evOp_call, T.get_set, f0, f43, f44, f45, loadE_eq, getC_eq, getsB_succ, getsB_zero, ht, t1, nq]
  rw [cxOf_may rfl rfl (by kernel_rfl), forb_nil, look_yes map_h rfl ((T.get_set_ne _ _ nb).trans gB) hj hB]
  simp [evOp_call, T.get_set, f0, f43, f44, f45, tupK, newC_is]
  rw [cxOf_store]
  rotate_left
  · kernel_rfl
  rw [forb_cons (by kernel_rfl) rfl]
  simp [evOp_call, T.get_set, f0, f43, f44, f45, storeK_g, putB_eq, roT, sets, loadE_eq, getC_eq, hwu, hwf]
  exact ⟨rfl, ((Ext.refl _ _).new (Nat.le_refl _) _).new (Nat.le_succ _) _⟩
def mayR (st : St) (b : Bool) (r : V × St) : Prop := r.1 = .bool b ∧ Ext st.nx st r.2
set_option maxRecDepth 20000 in
set_option maxHeartbeats 4000000 in
theorem may_of (st : St) (q : Nat) (who : Int) (x : V) (c : Int) (h : ∀ nt, Gd (callL Try.prog ⟨false, [], 0, nt⟩ 175 [.p q 0, .int .i64 who, x] st) (rfR st c)) (nt : Nat) :
    Gd (callL Try.prog ⟨false, [], 0, nt⟩ 111 [.p q 0, .int .i64 who, x] st) (mayR st (decide (c = 0))) := by
  rw [Gd_callL Try.func111 rfl]
  simp [evOp_call, sets, T.get_set]
  refine Gd.mono (h _) ?_
  rintro ⟨r, s1⟩ ⟨hr, x1⟩
  simp only at hr x1
  subst hr
  simp [evOp_call, sets, T.get_set]
  exact ⟨rfl, x1⟩
end Go.Proofs.Ytdoennkmcloalaa

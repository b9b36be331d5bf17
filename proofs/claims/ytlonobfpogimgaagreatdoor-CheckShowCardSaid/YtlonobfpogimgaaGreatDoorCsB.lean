/-
  How many digits a number has: the Go function reads a variable of its package; its answer is known where the variable's block is pinned.
-/
import Derived.Test.YtlonobfpogimgaaGreatDoorCsA
set_option linter.unusedSimpArgs false
set_option linter.unusedVariables false
namespace Go.Proofs.YtlonobfpogimgaaGreatDoor
open Go.RowKit Ev
set_option maxRecDepth 20000 in
theorem log10_any (st : St) (n : Nat) (hn : n ≤ 64) (nt : Nat) :
    Gd (callL Tryz.prog ⟨false, [], 0, nt⟩ 113 [.int .i64 (n : Int)] st) fun r => r.1 = .int .i64 ((n * 78913 / 262144 : Nat) : Int) ∧ r.2 = st := by
  rw [Gd_callL Tryz.func113 rfl]
  have hw : IntKind.i64.wrap ((n : Int) * 78913) = ((n * 78913 : Nat) : Int) := by rw [wrap_i (by omega) (by omega)]; omega
  have hs : ∀ {st : St} {t : TypeId} {x y : Operand}, binE Tryz.prog st .shr t x y (.c (.int .i64 ((n * 78913 : Nat) : Int))) (wd 18#64) = some (.int .i64 ((n * 78913 / 262144 : Nat) : Int), st) := fun {st t x y} => by
    have h := @bin_shr Tryz.prog st t x y .i64 .u64 (n * 78913) 18
    have e : wd 18#64 = .c (.int .u64 ((18 : Nat) : Int)) := rfl
    rw [e, h]
    have e2 : kbits .i64 = 64 := rfl
    rw [e2]
    simp [Nat.shiftRight_eq_div_pow]
  simp [evOp_call, sets, T.get_set, hw, -bin_shr]
  rw [show (n : Int) * 78913 = ((n * 78913 : Nat) : Int) by omega] at *
  simp [evOp_call, sets, T.get_set, hs, -bin_shr, -Int.natCast_mul]
set_option maxRecDepth 20000 in
theorem bool2_any (st : St) (b : Bool) (nt : Nat) :
    Gd (callL Tryz.prog ⟨false, [], 0, nt⟩ 114 [.bool b] st) fun r => r.1 = .int .i64 (if b then 1 else 0) ∧ r.2 = st := by
  rw [Gd_callL Tryz.func114 rfl]
  cases b <;> simp [evOp_call, sets, T.get_set]
theorem namesOkS : Ev.namesOk Tryz.prog = true := by kernel_rfl
theorem mixesS : Tryz.prog.follows .mixedOrders = true := by kernel_rfl
/-- a piece of code that leaves the memory as it is, run by the evaluator -/
theorem code_run {P : Program} {F : CallF} (hF : CodeSound P (evF P F)) {c : Cx} {code : Code} {e : Env} {st : St} {Q0 : Env → Prop} (hG : Gd ((over P F).E c code e st) fun r => r.1 = .n ∧ r.2.2 = st ∧ Q0 r.2.1) (hwf : Wf st)
    {B0 : Nat} {ρ : Rho} {τ : Mem} {w : World} {a : Act} (he : EnvRel ρ e a) (ht : c.nt ≤ a.tmps.size) (hag : Agree c st τ) (hre : Real ρ B0 τ w) {Q : Exit → Act → World → Prop}
    (k : ∀ e1 ρ1 a1 w1, Q0 e1 → ρ.le ρ1 → Dom ρ ρ1 st st → EnvRel ρ1 e1 a1 → c.nt ≤ a1.tmps.size → a1.defers = a.defers → Real ρ1 B0 τ w1 → Below B0 w w1 → Q .normal a1 w1) : code.wp P Q a w := by
  obtain ⟨⟨x, e1, st1⟩, h1, h2, h3, h4⟩ := hG
  simp only at h2 h3 h4
  subst h2 h3
  refine (hF c code e st1 .n e1 st1 h1 hwf).2 B0 ρ τ w a he ht hag hre (fun n h1 h2 => by omega) Q ?_
  intro ρ1 a1 w1 l1 d1 he1 ht1 hd1 m1 b1
  rw [ov_self] at m1
  exact k e1 ρ1 a1 w1 h4 l1 d1 he1 ht1 hd1 m1 b1
theorem wanted_all {o : Oper} {ys : Array Oper} {tm : Array Value} (hg : o.guard = none) : Region.wanted o (yielded ys tm) = true := by unfold Region.wanted; rw [hg]
/-- an operation that the evaluator knows, at the head of a region's list -/
theorem wpl_ev {P : Program} {F : CallF} (hs : CallSound P F ∧ HasBody P F) (hn : Named P) {ops : Array Oper} {l : List Oper} {o : Oper} {e : Env} {st : St} {v : V} {c : Cx} (hg : o.guard = none) (hop : Gd (evOp P F c e st o) fun r => r = (v, st)) (hwf : Wf st)
    {B0 : Nat} {ρ : Rho} {τ : Mem} {w : World} {a : Act} {Q : Exit → Act → World → Prop} (hag : Agree c st τ) (he : EnvRel ρ e a) (ht : c.nt ≤ a.tmps.size) (hre : Real ρ B0 τ w) (hd : ∀ u, o.dst = some u → u < c.nt)
    (k : ∀ ρ' w' a', ρ.le ρ' → Dom ρ ρ' st st → EnvRel ρ' (putE e o.dst v) a' → c.nt ≤ a'.tmps.size → a'.defers = a.defers → Real ρ' B0 τ w' → Below B0 w w' → wpList P ops Q l a' w') : wpList P ops Q (o :: l) a w := by
  obtain ⟨r, h1, rfl⟩ := hop
  obtain ⟨_, k1⟩ := evOp_ok hs.1 hn hs.2 hwf h1
  simp only [wpList]
  rw [wanted_all hg, if_pos rfl]
  refine .inl (k1 B0 ρ τ w a (fun x _ => he.tmp x) hag hre (fun n h1 h2 => by omega) _ _ fun ρ1 v1 w1 l1 d1 r1 m1 b1 => ?_)
  rw [ov_self] at m1
  exact k ρ1 w1 _ l1 d1 ((he.mono l1).put r1 fun u hu => Nat.lt_of_lt_of_le (hd u hu) ht) (by rw [put_size]; exact ht) (put_defers _ _ _) m1 b1
/-- an operation whose value is known -/
theorem wpl_val {P : Program} {ops : Array Oper} {l : List Oper} {o : Oper} {e : Env} {v : V} {x : Value} {nt : Nat} (hg : o.guard = none) {ρ : Rho} {w : World} {a : Act} {Q : Exit → Act → World → Prop} (he : EnvRel ρ e a) (ht : nt ≤ a.tmps.size) (hd : ∀ u, o.dst = some u → u < nt)
    (hx : (execOp a.eval o).run P w = .ok (.value x) w) (hv : Rel ρ v x)
    (k : ∀ a', EnvRel ρ (putE e o.dst v) a' → nt ≤ a'.tmps.size → a'.defers = a.defers → wpList P ops Q l a' w) : wpList P ops Q (o :: l) a w := by
  simp only [wpList]
  rw [wanted_all hg, if_pos rfl]
  refine .inl ?_
  unfold Oper.wp
  rw [hx]
  exact k _ (he.put hv fun u hu => Nat.lt_of_lt_of_le (hd u hu) ht) (by rw [put_size]; exact ht) (put_defers _ _ _)
def ndN (u : Nat) : Nat := if Ev.tens.getD (lenN u * 78913 / 262144) 0 ≤ u then lenN u * 78913 / 262144 + 1 else lenN u * 78913 / 262144
theorem lenN_64 {u : Nat} (h : u < 2 ^ 64) : lenN u ≤ 64 := by
  unfold lenN
  by_cases hu : u = 0
  · rw [if_pos hu]; omega
  · rw [if_neg hu]
    have := (Nat.log2_lt hu).2 h
    omega
noncomputable def ndF (base : CallF) : CallF := fun c f args st => match Nat.beq f 97 with
  | true => (match args with
    | [.c (.int .u64 (.ofNat n))] => (match Nat.blt n 18446744073709551616 with
      | true => some (.c (.int .i64 (.ofNat (ndN n))), st)
      | false => none)
    | _ => none)
  | false => base c f args st
set_option maxRecDepth 20000 in
set_option maxHeartbeats 2000000 in
theorem nd_calls (nx : Nat) (b : BitVec 64) {B0 : Nat} {ρ : Rho} {τ : Mem} {w : World} (hre : Real ρ B0 τ w) (R : Ending → World → Prop)
    (hR : ∀ (ρ' : Rho) (w' : World), ρ.le ρ' → Dom ρ ρ' ⟨nx, .lf⟩ ⟨nx, .lf⟩ → Real ρ' B0 τ w' → Below B0 w w' → R (.returned (.int .i64 (ndN b.toNat : Int))) w') :
    Calls Tryz.prog 97 ⟨[.int .u64 (b.toNat : Int)]⟩ w R := by
  have hF := evF_sound namesOkS mixesS (callL_both namesOkS mixesS)
  have hv : RelL ρ [wd b] [.int .u64 (b.toNat : Int)] := .cons (rel_int _ _) .nil
  have hag : Agree ⟨false, [], 0, 15⟩ ⟨nx, .lf⟩ τ := fun n b _ h => by simp at h
  have hwf : Wf ⟨nx, .lf⟩ := fun n _ => by simp
  have hl := lenN_64 b.isLt
  refine calls_of_wp Tryz.func97 rfl ?_
  refine wp_seq (code_run hF (c := ⟨false, [], 0, 15⟩) (st := ⟨nx, .lf⟩) (e := sets [wd b] 0 .lf) (Q0 := fun e => e.get 0 = some (wd b)) ?_ hwf (env_init hv 15) ?_ hag hre ?_)
  · simp [evOp_call, sets, T.get_set]
  · simp
  intro e1 ρ1 a1 w1 q1 l1 d1 he1 ht1 hd1 m1 b1
  show (Code.wp _ _ _ _ _)
  refine wp_seq (code_run hF (c := ⟨false, [], 0, 15⟩) (st := ⟨nx, .lf⟩) (e := e1) (Q0 := fun e => e.get 0 = some (wd b) ∧ e.get 3 = some (.int .i64 ((lenN b.toNat * 78913 / 262144 : Nat) : Int))) ?_ hwf he1 ht1 hag m1 ?_)
  · simp [evOp_call, sets, T.get_set, q1]
    refine Gd.mono (len64_any ⟨nx, .lf⟩ b _) ?_
    rintro ⟨r, s2⟩ ⟨h1, h2⟩
    simp only at h1 h2
    subst h1 h2
    simp [evOp_call, sets, T.get_set, q1]
    refine Gd.mono (log10_any ⟨nx, .lf⟩ (lenN b.toNat) hl _) ?_
    rintro ⟨r, s2⟩ ⟨h1, h2⟩
    simp only at h1 h2
    subst h1 h2
    simp [evOp_call, sets, T.get_set, q1]
  intro e2 ρ2 a2 w2 ⟨q2, q3⟩ l2 d2 he2 ht2 hd2 m2 b2
  show (Code.wp _ _ _ _ _)
  refine wp_seq (wp_region_list ?_)
  have hC := callL_both namesOkS mixesS
  have hN := named_of namesOkS
  obtain ⟨n, hn⟩ : ∃ n, n = lenN b.toNat * 78913 / 262144 := ⟨_, rfl⟩
  rw [← hn] at q3
  have hn20 : n < 20 := by omega
  obtain ⟨hkb, ty, hcell⟩ := m2.kept _ (List.mem_cons_self)
  simp only at hkb hcell
  refine wpl_ev hC hN (c := ⟨false, [], 0, 15⟩) (st := ⟨nx, .lf⟩) (e := e2) (v := (.int .i64 (n : Int))) rfl ?_ hwf hag he2 ht2 m2 (by simp) ?_
  · simp [q3]
  intro ρ3 w3 a3 l3 d3 he3 ht3 hd3 m3 b3
  simp only [putE] at he3
  refine wpl_ev hC hN (c := ⟨false, [], 0, 15⟩) (st := ⟨nx, .lf⟩) (e := e2.set 7 (.int .i64 (n : Int))) (v := (wd b)) rfl ?_ hwf hag he3 ht3 m3 (by simp) ?_
  · simp [T.get_set, q2]
  intro ρ4 w4 a4 l4 d4 he4 ht4 hd4 m4 b4
  simp only [putE] at he4
  refine wpl_ev hC hN (c := ⟨false, [], 0, 15⟩) (st := ⟨nx, .lf⟩) (e := (e2.set 7 (.int .i64 (n : Int))).set 8 (wd b)) (v := (.int .i64 (n : Int))) rfl ?_ hwf hag he4 ht4 m4 (by simp) ?_
  · simp [T.get_set, q3]
  intro ρ5 w5 a5 l5 d5 he5 ht5 hd5 m5 b5
  simp only [putE] at he5
  obtain ⟨hkb5, ty5, hcell5⟩ := m5.kept _ (List.mem_cons_self)
  simp only at hkb5 hcell5
  have h9 := he5 9
  simp [T.get_set, Rel] at h9
  obtain ⟨h9, _⟩ := h9
  obtain ⟨p, hp⟩ : ∃ p, Ev.tens[n]? = some p := ⟨_, List.getElem?_eq_getElem (by simpa [Ev.tens] using hn20)⟩
  have hcl : w5.cell? ⟨0, n, none⟩ = some (.int .u64 (p : Int)) := by
    simp [World.cell?, hcell5, hp]
  refine wpl_val (nt := 15) (v := .c (.pointer (some ⟨0, n, none⟩))) (x := .pointer (some ⟨0, n, none⟩)) rfl he5 ht5 (by simp) ?_ ?_ ?_
  · have e9 : a5.eval (.tmp 9) = .int .i64 (n : Int) := by simp [Act.eval, h9]
    simp [execOp, h9, Instr.indexAt, asIntOf, Act.eval, Instr.sureAddr, hn20]
    by_cases hz : n = 0
    · subst hz; simp [Addr.add]
    · simp [Addr.add, hz]
  · simp [Rel, Value.oneCell']
  intro a6 he6 ht6 hd6
  simp only [putE] at he6
  have h10 := he6 10
  simp [T.get_set, Rel] at h10
  refine wpl_val (nt := 15) (v := .int .u64 (p : Int)) (x := .int .u64 (p : Int)) rfl he6 ht6 (by simp) ?_ (rel_int _ _) ?_
  · have e10 : a6.eval (.tmp 10) = .pointer (some ⟨0, n, none⟩) := by simp [Act.eval, h10]
    simp [execOp, e10, Instr.loadAt, Instr.sureAddr, loadVar, hcl]
  intro a7 he7 ht7 hd7
  simp only [putE] at he7
  have hge : ∀ {st : St} {t : TypeId} {x y : Operand}, binE Tryz.prog st .geq t x y (wd b) (.int .u64 (p : Int)) = some (.bool (decide (p ≤ b.toNat)), st) := fun {st t x y} => by
    unfold wd
    rw [bin_geq]
    simp
  refine wpl_ev hC hN (c := ⟨false, [], 0, 15⟩) (st := ⟨nx, .lf⟩) (e := (((((e2.set 7 (.int .i64 (n : Int))).set 8 (wd b)).set 9 (.int .i64 (n : Int))).set 10 (.c (.pointer (some ⟨0, n, none⟩)))).set 11 (.int .u64 (p : Int)))) (v := (.bool (decide (p ≤ b.toNat)))) rfl ?_ hwf hag he7 ht7 m5 (by simp) ?_
  · simp [T.get_set, hge]
  intro ρ8 w8 a8 l8 d8 he8 ht8 hd8 m8 b8
  simp only [putE] at he8
  refine wpl_ev hC hN (c := ⟨false, [], 0, 15⟩) (st := ⟨nx, .lf⟩) (e := ((((((e2.set 7 (.int .i64 (n : Int))).set 8 (wd b)).set 9 (.int .i64 (n : Int))).set 10 (.c (.pointer (some ⟨0, n, none⟩)))).set 11 (.int .u64 (p : Int))).set 12 (.bool (decide (p ≤ b.toNat))))) (v := (.int .i64 (if p ≤ b.toNat then 1 else 0))) rfl ?_ hwf hag he8 ht8 m8 (by simp) ?_
  · simp [evOp_call, T.get_set]
    refine Gd.mono (bool2_any ⟨nx, .lf⟩ (decide (p ≤ b.toNat)) _) ?_
    rintro ⟨r, s2⟩ ⟨h1, h2⟩
    simp only at h1 h2
    subst h1 h2
    simp
  intro ρ9 w9 a9 l9 d9 he9 ht9 hd9 m9 b9
  simp only [putE] at he9
  refine wpl_ev hC hN (c := ⟨false, [], 0, 15⟩) (st := ⟨nx, .lf⟩) (e := (((((((e2.set 7 (.int .i64 (n : Int))).set 8 (wd b)).set 9 (.int .i64 (n : Int))).set 10 (.c (.pointer (some ⟨0, n, none⟩)))).set 11 (.int .u64 (p : Int))).set 12 (.bool (decide (p ≤ b.toNat)))).set 13 (.int .i64 (if p ≤ b.toNat then 1 else 0)))) (v := (.int .i64 (ndN b.toNat : Int))) rfl ?_ hwf hag he9 ht9 m9 (by simp) ?_
  · have hsum : IntKind.i64.wrap ((n : Int) + if p ≤ b.toNat then 1 else 0) = (ndN b.toNat : Int) := by
      have e1 : ndN b.toNat = if p ≤ b.toNat then n + 1 else n := by unfold ndN; rw [← hn, List.getD_eq_getElem?_getD, hp]; rfl
      rw [e1]
      split <;> rw [wrap_i (by omega) (by omega)] <;> omega
    simp [T.get_set, hsum]
  intro ρ10 w10 a10 l10 d10 he10 ht10 hd10 m10 b10
  simp only [putE] at he10
  refine wpl_ev hC hN (c := ⟨false, [], 0, 15⟩) (st := ⟨nx, .lf⟩) (e := ((((((((e2.set 7 (.int .i64 (n : Int))).set 8 (wd b)).set 9 (.int .i64 (n : Int))).set 10 (.c (.pointer (some ⟨0, n, none⟩)))).set 11 (.int .u64 (p : Int))).set 12 (.bool (decide (p ≤ b.toNat)))).set 13 (.int .i64 (if p ≤ b.toNat then 1 else 0))).set 14 (.int .i64 (ndN b.toNat : Int)))) (v := (.int .i64 (ndN b.toNat : Int))) rfl ?_ hwf hag he10 ht10 m10 (by simp) ?_
  · simp [T.get_set]
  intro ρ11 w11 a11 l11 d11 he11 ht11 hd11 m11 b11
  simp only [putE] at he11
  simp only [wpList]
  show (Code.wp _ _ _ _ _)
  refine wp_ret ?_
  have h2 := he11 2
  simp [T.get_set, Rel] at h2
  obtain ⟨h2, _⟩ := h2
  refine ⟨?_, .int .i64 (ndN b.toNat : Int), ?_, ?_⟩
  · rw [hd11, hd10, hd9, hd8, hd7, hd6, hd5, hd4, hd3, hd2, hd1]
  · simp [results, h2, Tryz.f97]
  · refine hR ρ11 w11 (l1.trans (l2.trans (l3.trans (l4.trans (l5.trans (l8.trans (l9.trans (l10.trans l11)))))))) (fun m r h => .inl ?_) m11 (b1.trans (b2.trans (b3.trans (b4.trans (b5.trans (b8.trans (b9.trans (b10.trans b11))))))))
    have q : ∀ {ρ ρ' : Rho} {m : Nat} {r : Ev.R}, Dom ρ ρ' ⟨nx, .lf⟩ ⟨nx, .lf⟩ → ρ' m = some r → ρ m = some r := fun {ρ ρ' m r} h k => by
      rcases h m r k with h | h
      · exact h
      · exact absurd h.2 (by simp only; omega)
    exact q d1 (q d2 (q d3 (q d4 (q d5 (q d8 (q d9 (q d10 (q d11 h))))))))
theorem ndF_nd (base : CallF) (c : Cx) (b : BitVec 64) (st : St) : ndF base c 97 [wd b] st = some (.int .i64 (ndN b.toNat : Int), st) := by
  have e : wd b = .c (.int .u64 (.ofNat b.toNat)) := rfl
  have h : Nat.blt b.toNat 18446744073709551616 = true := by rw [Nat.blt_eq]; exact b.isLt
  unfold ndF
  rw [Nat.beq_refl, e]
  simp only [h]
  rfl
theorem ndF_ne (base : CallF) {f : Nat} (h : Nat.beq f 97 = false) (c : Cx) (l : List V) (st : St) : ndF base c f l st = base c f l st := by
  unfold ndF; rw [h]
theorem ndF_sound {base : CallF} (hb : CallSound Tryz.prog base ∧ HasBody Tryz.prog base) : CallSound Tryz.prog (ndF base) ∧ HasBody Tryz.prog (ndF base) := by
  constructor
  · intro c f args st v st' h hwf
    unfold ndF at h
    split at h
    · rename_i he
      have he' : f = 97 := by simpa [nbeq] using he
      subst he'
      split at h
      · rename_i n
        split at h
        · rename_i hn
          obtain ⟨rfl, rfl⟩ := some_inv h
          have hlt : n < 2 ^ 64 := by rw [Nat.blt_eq] at hn; exact hn
          obtain ⟨b, rfl⟩ : ∃ b : BitVec 64, n = b.toNat := ⟨BitVec.ofNat 64 n, by rw [BitVec.toNat_ofNat, Nat.mod_eq_of_lt hlt]⟩
          refine ⟨.refl _ _, fun B0 ρ τ w vs hvs hag hre hfr R hR => ?_⟩
          obtain ⟨y, rfl, hy⟩ := relL1 hvs
          simp only [Rel] at hy
          obtain ⟨rfl, _⟩ := hy
          refine nd_calls st.nx b hre R fun ρ' w' l d m bl => hR ρ' _ w' l d (rel_int _ _) (by rw [ov_self]; exact m) bl
        · cases h
      · cases h
    · exact hb.1 _ _ _ _ _ _ h hwf
  · intro c f args st r h
    unfold ndF at h
    split at h
    · rename_i he
      have he' : f = 97 := by simpa [nbeq] using he
      subst he'
      exact ⟨_, _, Tryz.func97, rfl⟩
    · exact hb.2 _ _ _ _ _ h
end Go.Proofs.YtlonobfpogimgaaGreatDoor

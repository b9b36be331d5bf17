/-
  PLAIN: the evaluator's calls, regions and code are the model's.
-/
import Derived.Test.YtenncnbaoejekaaEvY
import Derived.Tactics
import Derived.Laws.Externs
namespace Go.Proofs.Ytenncnbaoejekaa.Ev
open Go.RowKit

def EnvRel (ρ : Rho) (e : Env) (a : Act) : Prop := ∀ t, Rel ρ ((e.get t).getD .u) (a.tmps.getD t undef)
def CallSound (P : Program) (call : CallF) : Prop := ∀ (c : Cx) (f : Nat) (args : List V) (st : St) (v : V) (st' : St), call c f args st = some (v, st') → Wf st →
  StepOk c st st' ∧ ∀ (B0 : Nat) (ρ : Rho) (τ : Mem) (w : World) (vs : List Value), RelL ρ args vs → Agree c st τ → Real ρ B0 τ w → Fresh ρ st st' → ∀ R : Ending → World → Prop,
    (∀ (ρ' : Rho) (v' : Value) (w' : World), ρ.le ρ' → Dom ρ ρ' st st' → Rel ρ' v v' → Real ρ' B0 (ov st st' τ) w' → Below B0 w w' → R (.returned v') w') → Calls P f ⟨vs⟩ w R
def Named (P : Program) : Prop := ∀ (f : Nat) (fn : Func), P.funcs[f]? = some fn → fn.name ≠ "runtime.NumGoroutine"
section
variable {P : Program} {c : Cx} {st st' : St} {v : V} {e : Env} {o : Oper}
theorem ext_inv {f : Nat} {g : Array Value → Sem Value} (h : ext? P f = some g) : ∃ fn, P.funcs[f]? = some fn ∧ fn.body = none ∧ Extern.findNext fn = none ∧ Extern.find fn = some g := by
  unfold ext? at h
  split at h
  · cases h
  · rename_i fn hf
    split at h
    · cases h
    · rename_i hb
      split at h
      · cases h
      · rename_i hn
        rw [lget_eq] at hf
        exact ⟨fn, by simpa using hf, hb, hn, h⟩
theorem ok_call {call : CallF} (hs : CallSound P call) (hn : Named P) (hb : ∀ c f args st r, call c f args st = some r → ∃ fn b, P.funcs[f]? = some fn ∧ fn.body = some b) (hwf : Wf st) {cl : Call} {f : Operand} {args : List V} (ho : o.op = .call cl) (hc : cl.callee = .value f)
    (hx : ∀ (ρ : Rho) (a : Act), (∀ y, y ∈ cl.args.toList → TmpRel ρ e a y) → RelL ρ args (cl.args.toList.map a.eval))
    (h : (opd e f fun f => (match f with
      | .f (.func f) first caps => (match ext? P f with
        | some g => extE P g (first ++ args ++ caps) st
        | none => call c f (first ++ args ++ caps) st)
      | _ => none)) = some (v, st')) : StepOk c st st' ∧ OpOk P c st st' v e o := by
  obtain ⟨vf, h1, h2⟩ := opd_inv h
  split at h1
  · rename_i fid first caps
    have mf : f ∈ (Op.call cl).operands.toList := by simp [Op.operands, Call.operands, hc]
    have ma : ∀ y, y ∈ cl.args.toList → y ∈ (Op.call cl).operands.toList := fun y hy => by
      simp only [Op.operands, Call.operands, hc]; simp at hy ⊢; exact .inr hy
    split at h1
    · rename_i g hext
      obtain ⟨fn, hf, hbn, hfn, hfd⟩ := ext_inv hext
      unfold extE at h1
      split at h1
      · cases h1
      · rename_i xs hxs
        obtain ⟨u, z, h3, h4, h5⟩ := pu_inv h1
        obtain ⟨rfl, rfl⟩ := ret_inv h3
        refine opOk_val fun B0 ρ τ w a hxx hag hre => ⟨z, h4 ρ, ?_⟩
        rw [ho] at hxx
        have hv := h2 ρ a (hxx f mf)
        simp only [Rel] at hv
        obtain ⟨fa, ca, hv, k1, k2⟩ := hv
        have ka := hx ρ a fun y hy => hxx y (ma y hy)
        have hargs : (⟨fa⟩ ++ cl.args.map a.eval ++ ⟨ca⟩ : Array Value) = ⟨fa ++ cl.args.toList.map a.eval ++ ca⟩ := by
          apply Array.ext'; simp
        have hval := valsA_rel hxs (RelL.append (RelL.append k1 ka) k2)
        have hne : ¬ fn.name = "runtime.NumGoroutine" := hn fid fn hf
        have hrun := run_callFunc_extern (P := P) hf (by simpa using hne) (by simp [hbn]) hfn hfd ⟨xs⟩ w
        simp only [execOp, ho, resolve, hc, Sem.run_bind, hv, Deferred.ofValue, Sem.run_pure, Result.andThen_ok, invoke, hargs, hval, hrun, h5 w]
    obtain ⟨s1, s2⟩ := hs _ _ _ _ _ _ h1 hwf
    obtain ⟨fn, b, hf, hbody⟩ := hb _ _ _ _ _ h1
    refine ⟨s1, fun B0 ρ τ w a hxx hag hre hfr K Q hK => ?_⟩
    rw [ho] at hxx
    have hv := h2 ρ a (hxx f mf)
    simp only [Rel] at hv
    obtain ⟨fa, ca, hv, k1, k2⟩ := hv
    have ka := hx ρ a fun y hy => hxx y (ma y hy)
    have hargs : (⟨fa⟩ ++ cl.args.map a.eval ++ ⟨ca⟩ : Array Value) = ⟨fa ++ cl.args.toList.map a.eval ++ ca⟩ := by
      apply Array.ext'; simp
    have hne : ¬ fn.name = "runtime.NumGoroutine" := hn fid fn hf
    have hrun : (execOp a.eval o).run P w = .ok (.enter fid ⟨fa ++ cl.args.toList.map a.eval ++ ca⟩) w := by
      simp only [execOp, ho, resolve, hc, Sem.run_bind, hv, Deferred.ofValue, Sem.run_pure, Result.andThen_ok, invoke, callFunc, run_program, hf, hargs]
      rw [if_neg (by simpa using hne)]
      simp [hbody]
    unfold Oper.wp
    rw [hrun, Oper.upon_enter]
    exact s2 B0 ρ τ w _ (RelL.append (RelL.append k1 ka) k2) hag hre hfr _ fun ρ' v' w' q1 q2 q3 q4 q5 => hK ρ' v' w' q1 q2 q3 q4 q5
  · cases h1
theorem evOp_ok {call : CallF} (hs : CallSound P call) (hn : Named P) (hb : ∀ c f args st r, call c f args st = some r → ∃ fn b, P.funcs[f]? = some fn ∧ fn.body = some b) (hwf : Wf st) (h : evOp P call c e st o = some (v, st')) :
    StepOk c st st' ∧ OpOk P c st st' v e o := by
  unfold evOp at h
  split at h
  · rename_i ho; exact ok_move (.inl ho) h
  · rename_i ho; exact ok_move (.inr ho) h
  · rename_i ho; exact ok_pick ho h
  · rename_i ho; exact ok_nilCheck ho h
  · rename_i ho; exact ok_extract ho h
  · rename_i ho; exact ok_alloc ho h
  · rename_i ho; exact ok_box ho h
  · rename_i ho; exact ok_load ho h
  · rename_i ho; exact ok_store ho h
  · rename_i ho; exact ok_fieldAddr ho h
  · rename_i ho; exact ok_indexAddr ho h
  · rename_i ho; exact ok_buildSlice ho h
  · rename_i ho; exact ok_build ho h
  · rename_i ho; exact ok_makeSlice ho h
  · rename_i ho; exact ok_slice ho h
  · rename_i ho; exact ok_binOp ho h
  · rename_i ho; exact ok_unOp ho h
  · rename_i ho; exact ok_convert ho h
  · rename_i ho; exact ok_field ho h
  · rename_i ho; exact ok_index ho h
  · rename_i ho; exact ok_range ho h
  · rename_i ho; exact ok_next ho h
  · rename_i ho; exact ok_makeMap ho h
  · rename_i ho; exact ok_lookup ho h
  · rename_i ho; exact ok_mput (.inl ho) h
  · rename_i ho; exact ok_mput (.inr ho) h
  · rename_i ho; exact ok_ment ho h
  · rename_i ho; exact ok_msto ho h
  · rename_i ho; exact ok_slice3 ho h
  · rename_i ho; exact ok_makeFunc ho h
  · rename_i cl ho
    obtain ⟨args, h1, h2⟩ := opds_inv h
    split at h1
    · rename_i hc; exact ok_pick1 ho hc h2 h1
    · rename_i hc; exact ok_pick1 ho hc h2 h1
    · rename_i b _ _ hc
      unfold builtinE at h1
      split at h1
      · rename_i t x ht _ _; exact ok_len ho hc ht h1 h2
      · rename_i t t' s x ht _ _; exact ok_append hwf ho hc ht h1 h2
      · rename_i t t' m x ht _ _; exact ok_mdel ho hc ht h2 h1
      · rename_i t x ht _ _; exact ok_clear ho hc ht h2 h1
      · rename_i t n i l q ht _ _; exact ok_cap ho hc ht h2 h1
      · rename_i t ht _ _; exact ok_cap0 ho hc ht h2 h1
      · rename_i t t' d x ht _ _; exact ok_copy ho hc ht h2 h1
      · cases h1
    · rename_i f hc; exact ok_call hs hn hb hwf ho hc h2 h1
    · cases h1
  · cases h
end
end Go.Proofs.Ytenncnbaoejekaa.Ev

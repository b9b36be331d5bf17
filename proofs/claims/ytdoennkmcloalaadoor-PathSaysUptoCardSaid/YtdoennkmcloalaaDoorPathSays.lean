/-
  PathSays, where what it reads is of no great bulk: the Go function returns true, and what came in reads behind the call as before. (The walk stands in PaN.)
-/
import Derived.Test.YtdoennkmcloalaaDoorPaN
import Derived.Test.YtdoennkmcloalaaDoorRows
import Derived.OpenShut
import Derived.ShutString
import Derived.ChangeOld
import Derived.Below
import Derived.Lay
import Derived.MakeChecks
import Derived.LaidMore
import Derived.Stop.Joined
import Derived.ProofKit
import Derived.JoinedCond
import Derived.Deep.DeepHandedRow
import Derived.Deep.DeepWitnessRowRef
namespace Go.Proofs.YtdoennkmcloalaaDoor.pathSays
open Go.ChangeShapes Go.WideShapes Go.ChangeAt Go.RowKit
open Go.ChangeMaps (open_string shut_string)
set_option linter.unusedVariables false

theorem bulkAll {H : Type} : ∀ L : List (DataW H), Rows.uptoBulkAll L = (L.map Rows.uptoBulk).sum
  | [] => by simp [Rows.uptoBulkAll]
  | d :: L => by simp [Rows.uptoBulkAll, bulkAll L]
theorem slice_ge {H : Type} (elems spare : List (DataW H)) : Rows.uptoBulkAll elems ≤ Rows.uptoBulk (.slice elems spare) := by
  simp only [Rows.uptoBulk]
  omega
/-- a row of texts is put together no longer than its bulk -/
theorem row_bulk {H : Type} {enc : TypeId × Value → H} {w : World} {spare : Nat → Bool} {held : Bool} {fuel : Nat} {v : Value} {x : DataW H × List MemPlace} {l : List Tx}
    (hx : DataW.trod enc Tryd.prog w 0 spare held fuel 23 [v] = some x) (hr : (rowC sC).rel w (fun j => [v][j]?.getD default) l) : (jn l).length ≤ Rows.uptoBulk x.1 := by
  obtain ⟨_, hr⟩ := hr
  have hz : Tryd.prog.cellsOf 9 = 1 := by kernel_rfl
  rcases Go.Deep.open_slice Tryd.underlying23 hx with ⟨e, rfl⟩ | ⟨a, len, cap, m, n, D, Pl, e, _, hl, _, hm, rfl, hel⟩
  · injection e with e _
    subst e
    rcases hr with ⟨_, rfl⟩ | ⟨rfl, _⟩ | ⟨b, off, q, cells, ty, fr, h1, _⟩
    · exact Nat.zero_le _
    · exact Nat.zero_le _
    · simp at h1
  · injection e with e _
    subst e
    rcases hr with ⟨h1, _⟩ | ⟨rfl, _⟩ | ⟨b, off, q, cells, ty, fr, h1, hq, hb, hsz, hel2⟩
    · simp at h1
    · exact Nat.zero_le _
    · simp at h1
      obtain ⟨rfl, rfl, rfl⟩ := h1
      refine Nat.le_trans ?_ (slice_ge _ _)
      rw [bulkAll, jn_len, List.map_map]
      have : l.map (fun p => p.length + 1) = (List.range l.length).map (Rows.uptoBulk ∘ D) := by
        apply List.ext_getElem?
        intro i
        rw [List.getElem?_map, List.getElem?_map]
        rcases Nat.lt_or_ge i l.length with hi | hi
        · rw [List.getElem?_eq_getElem hi, List.getElem?_range hi]
          simp only [Option.map_some, Function.comp]
          congr 1
          have hlm : l.length ≤ m := by rw [hm]; split <;> omega
          obtain ⟨cs', k1, k2⟩ := hel i (by omega)
          obtain ⟨s, rfl, k3, _⟩ := DataW.trod_string Tryd.underlying9 k2
          injection k3 with k3 _
          rw [k3]
          obtain ⟨_, _, k4⟩ := World.cells?_some k1
          have k5 := k4 0 (by rw [hz]; decide)
          have hc : w.cell? ⟨b, off + i, none⟩ = cells[off + i]? := by
            unfold World.cell?
            simp [hb]
          have ha : ((⟨b, off, none⟩ : Addr).add (i * Tryd.prog.cellsOf 9)).add 0 = ⟨b, off + i, none⟩ := by
            rw [hz, Nat.mul_one]
            by_cases hi0 : i = 0
            · subst hi0; simp [Addr.add]
            · simp [Addr.add, hi0]
          rw [ha, hc] at k5
          have k6 := (hel2 i l[i] (List.getElem?_eq_getElem hi)).1
          have k7 : cells[off + (i * 1 + 0)]?.getD default = Value.string s := by
            rw [show off + (i * 1 + 0) = off + i by omega, k5]; rfl
          have k8 : Value.string s = Value.string ⟨⟨(l[i]).map UInt8.ofNat⟩⟩ := k7.symm.trans k6
          injection k8 with k8
          subst k8
          simp [Rows.uptoBulk]
        · rw [List.getElem?_eq_none hi, List.getElem?_eq_none (by simpa using hi)]
          rfl
      rw [this]
      exact Nat.le_refl _
theorem own : ownKnob Tryd.prog.godebug = none := by kernel_rfl
theorem laidOut : laidOutB Tryd.prog = true := by kernel_rfl
theorem contract (H : Type) (enc : TypeId × Value → H) (W : World) (base : Nat) (args : Array Value) (ds gs : List (DataW H)) (before : List MemPlace)
    (hval0 : ∀ (j : Nat) t v, Tryd.f4.params[j]? = some t → args[j]? = some v → Value.okWide Tryd.prog W .any base t v)
    (hW : DataW.Whole enc Tryd.prog Tryd.f4.params.toList Rows.pathSaysSpec.vars false W args.toList ds gs before) (hk : Rows.uptoSmall H (ds ++ gs) = true) :
    Calls Tryd.prog 4 args W fun e W' => ∃ v, e = .returned v ∧ Rows.pathSaysSpec.post enc Tryd.prog Tryd.f4 false true false false W args v W' := by
  have hval : ∀ (j : Nat) t v, Tryd.f4.params[j]? = some t → args[j]? = some v → Value.okWide Tryd.prog W .any base t v := hval0
  have hW' := hW
  obtain ⟨p, q, hA0, hV, rfl, hfz, hnd⟩ := hW
  have hA : DataW.TrodAll enc Tryd.prog W 0 (fun _ => true) true Tryd.f4.params.toList args.toList ds p := hA0
  rw [Tryd.params4] at hA hval
  obtain ⟨v0, vs0, d0, ds0, p0, q0, hargs, rfl, rfl, h0, r0⟩ := trodAll_cons hA
  obtain ⟨v1, vs1, d1, ds1, p1, q1, rfl, rfl, rfl, h1, r1⟩ := trodAll_cons r0
  obtain ⟨rfl, rfl, rfl⟩ := trodAll_nil r1
  obtain rfl : args = #[v0, v1] := by cases args; simp_all
  obtain ⟨rfl, rfl⟩ := trodVars_none hV
  obtain ⟨a0, rfl, rfl, rfl, w0⟩ := open_string Tryd.underlying9 (hval 0 9 v0 rfl rfl) h0
  obtain ⟨a1, len1, c1, rfl⟩ := okWide_slice Tryd.underlying23 (hval 1 23 v1 rfl rfl)
  have k1 := h1
  have lt1 : ∀ x ∈ p1, x.block < W.heap.size := by obtain ⟨m, hm⟩ := k1; exact DataW.trod_lt m _ _ _ hm
  obtain ⟨fuel1, hf1⟩ := h1
  obtain ⟨_, l1, w1⟩ := fits_txs hf1
  have hb := row_bulk hf1 w1
  have hk2 : Rows.uptoBulkAll ([DataW.lit (.string a0.data.toList), d1] ++ ([] : List (DataW H))) ≤ 1048576 := of_decide_eq_true hk
  simp only [List.append_nil, Rows.uptoBulkAll] at hk2
  have hbl : (jn l1).length ≤ 1073741824 := by
    have h2 : (jn l1).length ≤ Rows.uptoBulk d1 := hb
    omega
  clear hA0 hval0
  refine (w_PathSays a0 l1 W _ w1 hbl).mono fun e W' ⟨he, bel⟩ => ?_
  subst he
  exact ⟨_, rfl, _, _, _, [], _, [], hW', trodAll_mk1 (shut_bool Tryd.underlying4 _), (trodAll_cons_mk (shut_string Tryd.underlying9 w0) (trodAll_cons_mk (Below.trod laidOut (by kernel_rfl) (of_decide_eq_true (by kernel_rfl)) k1 bel lt1) trodAll_mk0)), rfl, bel.frame _, fun h => by cases h⟩
theorem met (os : Os) (args : Array Value) : laidMet Tryd.prog Rows.pathSaysUptoRow.laid ((World.laidAll Tryd.prog os Rows.pathSaysUptoRow.laid).forCall (fun _ _ => 0) ⟨#[], args, []⟩).memory :=
  laidMet_laidAll args (by kernel_rfl) (by kernel_rfl)
theorem reads (os : Os) {H : Type} (enc : TypeId × Value → H) : ∃ places, DataW.whole enc Tryd.prog ((World.laidAll Tryd.prog os Rows.pathSaysUptoRow.laid).forCall (fun _ _ => 0) ⟨#[], #[.string ByteArray.empty, .slice none 0 0], []⟩).memory Tryd.f4.params.toList Rows.pathSaysSpec.vars false #[Value.string ByteArray.empty, .slice none 0 0].toList 8 = some ([.lit (.string []), .nil], [], places) :=
  ⟨[], by kernel_rfl⟩
set_option maxRecDepth 100000 in
theorem lifted (os : Os) (started : os.Started) (H : Type) (enc : TypeId × Value → H) (F : Stop.Interp) :
    ReturnsInHanded {} Tryd.checked os 4 .any ((Rows.OpenSpec.upto Rows.pathSaysSpec).preRow enc Tryd.prog Tryd.f4 Rows.pathSaysUptoRow.domain false Rows.pathSaysUptoRow.laid) (((Rows.OpenSpec.upto Rows.pathSaysSpec).at F).post enc Tryd.prog Tryd.f4 false true false false) := by
  obtain ⟨places, hx⟩ := reads os enc
  refine returnsInHanded_of_row (C := Tryd.checked) (s := Rows.OpenSpec.upto Rows.pathSaysSpec) own started (by kernel_rfl) Tryd.func4
    (witness_row_atRef (enc := enc) (C := Tryd.checked) false (World.laidAll Tryd.prog os Rows.pathSaysUptoRow.laid) #[.string ByteArray.empty, .slice none 0 0] rfl (by kernel_rfl) (by kernel_rfl) (by kernel_rfl)
      (OpenSpec.preRow_of_cond 8 hx (by kernel_rfl) (fun k hk => by cases hk; kernel_rfl) (by kernel_rfl) (met os _))) ?_
  intro W base args ds gs before hval hW _ hcond _ _ _ _
  exact contract H enc W base args ds gs before hval hW (hcond _ rfl)
theorem over : Rows.pathSaysUptoRow.holds Tryd.pinned (Rows.OpenSpec.upto Rows.pathSaysSpec) :=
  OpenClaim.holds_of_cond 4 Tryd.f4 rfl rfl rfl rfl rfl rfl rfl ⟨rfl, rfl, rfl, rfl, rfl⟩ rfl rfl rfl rfl rfl (by kernel_rfl) Tryd.func4 (by kernel_rfl)
    (of_decide_eq_true (by kernel_rfl)) (by unfold Func.isWrapper; first | (rw [if_pos (by decide +kernel)]; kernel_rfl) | (rw [if_neg (by decide +kernel)]; exact ⟨rfl, rfl⟩))
    (fun os started H enc _ F => by rw [OpenClaim.pre_eq_preRow]; exact lifted os started H enc F)
end Go.Proofs.YtdoennkmcloalaaDoor.pathSays
namespace Go.Proofs.YtdoennkmcloalaaDoor
/-- THE STATEMENT, second form. -/
theorem pathSaysUpto_holds : Rows.PathSaysUptoSaid := pathSays.over
#print axioms pathSaysUpto_holds
end Go.Proofs.YtdoennkmcloalaaDoor

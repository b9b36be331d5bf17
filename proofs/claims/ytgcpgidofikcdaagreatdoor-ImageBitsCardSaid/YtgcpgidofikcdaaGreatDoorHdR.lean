/-
  Contracts of the document's own heads.
-/
import Derived.Test.YtgcpgidofikcdaaGreatDoorHdWF
import Derived.Test.YtgcpgidofikcdaaGreatDoorGmR
set_option linter.unusedSimpArgs false
namespace Go.Proofs.YtgcpgidofikcdaaGreatDoor
open Go.RowKit Ev
theorem magic_any (c : Cx) (st : St) : Gd (callL Tryz.prog c 147 [] st) fun r => r = (wd magicW, st) := by
  rw [Gd_callL Tryz.func147 rfl]
  simp [evOp_call, sets, T.get_set, magicW]
set_option maxRecDepth 20000 in
set_option maxHeartbeats 4000000 in
theorem rput_any (st : St) (g : Gm) (p : BitVec 64) (nt : Nat) :
    Gd (callL Tryz.prog ⟨false, [], 0, nt⟩ 89 [gV g, wd p] st) fun r => RdRow r.2 r.1 1 (putH g p).length (wv (putH g p)) ∧ Ext st.nx st r.2 := by
  rw [Gd_callL Tryz.func89 rfl]
  have gVg : V.g [V.int .i64 g.b, V.int .i64 g.n, V.int .i64 g.c, V.int .i64 g.k] = gV g := rfl
  rw [show sets [gV g, wd p] 0 T.lf = (T.set .lf 0 (gV g)).set 1 (wd p) from rfl]
  have hcell : ∀ k : List V → Res, cellsOf (gV g) k = k [V.int .i64 g.b, V.int .i64 g.n, V.int .i64 g.c, V.int .i64 g.k] := fun k => rfl
  simp [hcell, evOp_call, sets, T.get_set, newC_is, loadE_eq, getC_eq, getsB_succ, getsB_zero]
  rw [gVg]
  refine Gd.mono (rgood_any _ [] (fun _ _ => rfl) g _) ?_
  rintro ⟨r, s1⟩ ⟨hr, x1⟩
  simp only at hr x1
  subst hr
  have l1 : st.nx < s1.nx := x1.le
  have hs1 : Ext st.nx st s1 := (hbox_ext st _).trans (x1.mono (Nat.le_succ _))
  have k0 : s1.h.get st.nx = _ := (x1.keep _ (Nat.lt_succ_self _)).trans (T.get_set_same _ _ _)
  have q0 : ¬ s1.nx = st.nx := by omega
  by_cases hg : isGood g
  · have hd : decide (isGood g) = true := by simpa using hg
    simp [evOp_call, T.get_set, hd]
    refine ⟨by kernel_rfl, ?_⟩
    refine Gd.mono (magic_any _ _) ?_
    rintro _ rfl
    simp [evOp_call, T.get_set, loadE_eq, getC_eq, k0]
    refine Gd_buildW (vs := wv (preH g)) (fun k => el60 k) (fun k => ze78 k) rfl (by simp [T.get_set, wv, preH, magicW]) (by simp [wv, preH]) rfl rfl (by omega) ?_
    have ha := AppRow.built (b := st.nx) (n := 6) (st := s1) (el := 78) (vs := wv (preH g)) (by omega) (by decide) rfl
    have hs2 : ∀ v, Ext st.nx st ⟨s1.nx + 1, s1.h.set s1.nx v⟩ := fun v => hs1.new (by omega) v
    simp [evOp_call, T.get_set]
    refine Gd.mono (rslOf_any _ 0 _ (preH g) ha.rd (by show 6 ≤ 1000000; omega) _) ?_
    rintro _ rfl
    simp [evOp_call, T.get_set]
    refine Gd_buildW (vs := [wd p, wd (slOf (preH g))]) (fun k => el60 k) (fun k => ze78 k) rfl (by simp [T.get_set]) (by simp) rfl rfl (by omega) ?_
    simp [evOp_call, T.get_set]
    have hext := fun v => (Ext.refl (s1.nx + 1) (⟨s1.nx + 1, s1.h.set s1.nx (.cs 78 6 (sets (wv (preH g)) 0 T.lf))⟩ : St)).new (Nat.le_refl _) v
    refine Gd_appendA un60 un60 io78 (lx := 2) (new := [wd p, wd (slOf (preH g))]) (ha.ext (hext _)) (by show st.nx ≤ s1.nx + 1 + 1; omega) (by decide) (fun s' h => by cases h) (fun k => rfl) (fun k => by simp [getC_eq, getsB_2, T.get_set, sets]) rfl (by omega) (by omega) ?_
    intro s' st' ho' he'
    have hpr : putH g p = preH g ++ [p, slOf (preH g)] := by unfold putH; rw [if_pos hg]
    have ho2 : OwnRow st.nx st' s' 1 8 (wv (putH g p)) := by rw [hpr, wv_app]; exact ho'
    simp [evOp_call, T.get_set]
    exact ⟨by rw [putH_length p hg]; exact ho2.rd, ((hs2 _).trans ((hext _).mono (by omega))).trans he'⟩
  · have hd : decide (isGood g) = false := by simpa using hg
    have hp := putH_bad p hg
    simp [evOp_call, T.get_set, hd]
    rw [hp]
    exact ⟨(OwnRow.nil 0 s1 1).rd, hs1⟩
end Go.Proofs.YtgcpgidofikcdaaGreatDoor

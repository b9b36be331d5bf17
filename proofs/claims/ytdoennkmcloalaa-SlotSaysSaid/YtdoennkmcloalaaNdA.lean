/-
  Contracts of package node: words of a node.
-/
import Derived.Test.YtdoennkmcloalaaNd
set_option linter.unusedSimpArgs false
namespace Go.Proofs.Ytdoennkmcloalaa
open Go.RowKit Ev
theorem SlRow.put2 {b n i m : Nat} {ty : TypeId} {t : T V} {st : St} {x : V} {L : List (BitVec 64)} (h : SlRow b st x n L) (hx : x = .sl m 0 n n) (hg : st.h.get m = some (.cs ty n t)) (hi : i < n) (v : BitVec 64) : SlRow b ⟨st.nx, st.h.set m (.cs ty n (t.set i (wd v)))⟩ x n (L.set i v) := by
  obtain ⟨m2, ty2, t2, h1, h2, h3, h4, h5, h6, h7⟩ := h.put hi
  rw [hx] at h1
  injection h1 with h1
  subst h1
  rw [hg] at h4
  injection h4 with h4
  injection h4 with h4 _ h8
  subst h4; subst h8
  exact h7 v
def nputI (st : St) (N : Nd) (y z : V) (e : Env) (s : St) : Prop := ∃ k : Nat, k ≤ N.R.length ∧ e.get 3 = some z ∧ e.get 30 = some y ∧ e.get 31 = some (.int .i64 (N.R.length : Int)) ∧ e.get 32 = some (.int .i64 (k : Int)) ∧ SlRow st.nx s z 8 (runsN N k) ∧ Ext st.nx st s
set_option maxRecDepth 20000 in
set_option maxHeartbeats 2000000 in
theorem nput_any (st : St) (N : Nd) (y : V) (hy : RdRow st y 2 N.R.length (pairs N.R)) (nt : Nat) :
    Gd (callL Try.prog ⟨false, [], 0, nt⟩ 43 [ndV N y] st) fun r => RdRow r.2 r.1 1 (putN N).length (wv (putN N)) ∧ (fitsN N → SlRow st.nx r.2 r.1 8 (putN N)) ∧ Ext st.nx st r.2 := by
  have hone := hy.one
  rw [Gd_callL Try.func43 rfl]
  have he : ∀ v, Ext st.nx st ⟨st.nx + 1, st.h.set st.nx v⟩ := fun v => (Ext.refl _ _).new (Nat.le_refl _) _
  have hnd : V.g [.int .i64 N.t, .int .i64 N.l, .int .i64 N.s, y] = ndV N y := rfl
  have hcell : ∀ k : List V → Res, cellsOf (ndV N y) k = k [.int .i64 N.t, .int .i64 N.l, .int .i64 N.s, y] := fun k => rfl
  simp [hcell, evOp_call, sets, T.get_set, newC_is, loadE_eq, getC_eq, getsB_succ, getsB_zero]
  rw [hnd]
  refine Gd.mono (nfits_any _ N y (hy.ext (he _)) _) ?_
  rintro ⟨r, s1⟩ ⟨hr, x1⟩
  simp only at hr x1
  subst hr
  have l1 : st.nx < s1.nx := x1.le
  have hs1 : Ext st.nx st s1 := (he _).trans (x1.mono (Nat.le_succ _))
  have k0 : s1.h.get st.nx = _ := (x1.keep _ (Nat.lt_succ_self _)).trans (T.get_set_same _ _ _)
  have q0 : ¬ s1.nx = st.nx := by omega
  have q0' : ¬ st.nx = s1.nx := by omega
  by_cases hf : fitsN N
  · have hd : decide (fitsN N) = true := by simpa using hf
    have hs2 : ∀ v, Ext st.nx st ⟨s1.nx + 1, s1.h.set s1.nx v⟩ := fun v => hs1.new (by omega) v
    simp [T.get_set, hd]
    refine Gd_make (i := .i64) (i' := .i64) (n := 8) (q := 8) (fun k => el23 k) io24 (fun k => ze24 k) rfl rfl (Nat.le_refl _) (by omega) ?_
    have hm := SlRow.made (b := st.nx) (n := 8) (st := s1) (el := 24) (by omega) (by decide)
    generalize hS : (⟨s1.nx + 1, s1.h.set s1.nx (.cs 24 (rep [V.int .u64 0] 8).length (sets (rep [V.int .u64 0] 8) 0 .lf))⟩ : St) = s2 at hm ⊢
    have x2 : Ext st.nx st s2 := hS ▸ hs2 _
    have n2 : s2.nx = s1.nx + 1 := by rw [← hS]
    have k2 : s2.h.get st.nx = s1.h.get st.nx := by rw [← hS]; exact T.get_set_ne _ _ q0
    rw [k0] at k2
    by_cases ht : N.t = 0
    · have hp : putN N = List.replicate 8 0#64 := by unfold putN; rw [if_pos hf, if_pos ht]
      simp [evOp_call, T.get_set, loadE_eq, getC_eq, k2, ht]
      rw [hp]
      exact ⟨hm.rd, fun _ => hm, x2⟩
    · have hT : fitsT N := by unfold fitsN at hf; rw [if_neg ht] at hf; exact hf
      obtain ⟨m2, ty2, t2, e2, _, b2, g2, r2, _, _⟩ := hm.put (i := 0) (by omega)
      injection e2 with e2
      subst e2
      have p1 := hm.put2 (i := 0) rfl g2 (by omega) (pkH N)
      have p2 := p1.put2 (i := 1) rfl (T.get_set_same _ _ _) (by omega) (BitVec.ofInt 64 N.s)
      have x3 : Ext st.nx st _ := (x2.set (m := s1.nx) (by omega) b2 (.cs ty2 8 (t2.set 0 (wd (pkH N))))).set (m := s1.nx) (by omega) b2 (.cs ty2 8 ((t2.set 0 (wd (pkH N))).set 1 (wd (BitVec.ofInt 64 N.s))))
      simp only [T.set_set] at p2 x3
      simp [evOp_call, T.get_set, ht, loadE_eq, getC_eq, k2, q0, q0', g2, putB_eq, r2, hy.lenS]
      refine Gd_loop (nputI st N y (.sl s1.nx 0 8 8)) (fun en _ => muAt 32 N.R.length en) ?_ ?_
      · exact ⟨0, Nat.zero_le _, by simp [T.get_set], by simp [T.get_set], by simp [T.get_set], by simp [T.get_set], p2, x3⟩
      · clear p1 p2 x3 hm g2
        rintro en s ⟨k, hk, g3, g30, g31, g32, hz, hs⟩
        have hsn := hs.le
        have h4 := hT.2.2.2.1
        by_cases hlt : k < N.R.length
        · have hlt' : (k : Int) < N.R.length := by omega
          have hwk := wrap_nat (n := k) (by omega)
          obtain ⟨q, hq⟩ : ∃ q, q = 2 + k := ⟨_, rfl⟩
          have hw2 : IntKind.i64.wrap (2 + (k : Int)) = (q : Int) := by rw [show 2 + (k : Int) = (q : Int) by omega]; exact wrap_in (by omega) (by omega)
          have hys := hy.ext hs
          obtain ⟨m, o, ty, sz, tr, hid, hm, hg, ho, hc⟩ := hys.idx (st := s) un39 io47 hlt
          obtain ⟨⟨F, L⟩, hr⟩ : ∃ r, N.R[k]? = some r := ⟨_, List.getElem?_eq_getElem hlt⟩
          have hcl := pairs_at N.R k _ hr
          have t0 : tr.get o = some (.int .i64 F) := hc 0 _ (by omega) hcl.1
          have t1 : tr.get (o + 1) = some (.int .i64 L) := hc 1 _ (by omega) hcl.2
          have hne : ¬ s.nx = m := by omega
          have hext := fun v => (Ext.refl s.nx s).new (Nat.le_refl _) v
          obtain ⟨m3, ty3, t3, e3, _, b3, g3', r3, _, _⟩ := hz.put (i := q) (by omega)
          injection e3 with e3
          subst e3
          have hne3 : ¬ s.nx = s1.nx := by omega
          have hne3' : ¬ s1.nx = s.nx := by omega
          have hlt8 : q < 8 := by omega
          have hlt8' : q + 1 ≤ 8 := by omega
          simp [evOp_call, T.get_set, g3, g30, g31, g32, hlt', hid, loadE_eq, getC_eq, hg, getsB_2, t0, t1, newC_is, cellsOf, putB_eq, storeK_g, roT, sets, hne, hw2, hlt8, hlt8', hne3, hne3', g3', r3, hwk]
          have hput := (hz.ext (hext (.cs 47 2 ((((T.lf.set 0 (.int .i64 0)).set 1 (.int .i64 0)).set 0 (.int .i64 F)).set 1 (.int .i64 L))))).put2 (i := q) rfl ((T.get_set_ne _ _ hne3).trans g3') hlt8 (pkR (F, L))
          refine ⟨⟨k + 1, hlt, by simp [T.get_set, g3], by simp [T.get_set, g30], by simp [T.get_set, g31], by simp [T.get_set], ?_, (hs.trans ((hext _).mono hsn)).set (by omega) (by show s1.nx < s.nx + 1; omega) _⟩, muAt_lt g32 (by simp [T.get_set]) hlt⟩
          unfold runsN
          rw [hr, ← hq]
          exact hput
        · obtain rfl : k = N.R.length := by omega
          simp [evOp_call, T.get_set, g3, g30, g31, g32]
          refine Gd_headS (i := .i64) (k := 7) un23 io24 hz (by simp) (by omega) fun v hv => ?_
          simp [evOp_call, T.get_set]
          have hl7 : ((runsN N N.R.length).take 7).length = 7 := by rw [List.length_take, runsN_length]; rfl
          refine Gd.mono (slOf_any s 0 v ((runsN N N.R.length).take 7) (by rw [hl7]; exact hv) (by omega) _) ?_
          rintro _ rfl
          obtain ⟨m3, ty3, t3, e3, _, b3, g3', r3, _, _⟩ := hz.put (i := 7) (by omega)
          injection e3 with e3
          subst e3
          have hp := putN_t hT
          have hput := hz.put2 (i := 7) rfl g3' (by omega) (slOf ((runsN N N.R.length).take 7))
          have h7 : ∀ f : Nat → Res, asNat (.int .i64 7) f = f 7 := fun f => rfl
          simp [evOp_call, sets, T.get_set, putB_eq, roT, g3, g3', r3, h7]
          have hfin : SlRow st.nx ⟨s.nx, s.h.set s1.nx (.cs ty3 8 (t3.set 7 (wd (slOf ((runsN N N.R.length).take 7)))))⟩ (.sl s1.nx 0 8 8) 8 (putN N) := by rw [hp.1]; exact hput
          rw [hp.2]
          exact ⟨hfin.rd, fun _ => hfin, hs.set (by omega) b3 _⟩
  · have hd : decide (fitsN N) = false := by simpa using hf
    have hpr : putN N = [] := putN_bad hf
    simp [evOp_call, T.get_set, hd]
    rw [hpr]
    exact ⟨(OwnRow.nil 0 s1 1).rd, fun h => absurd h hf, hs1⟩
end Go.Proofs.Ytdoennkmcloalaa

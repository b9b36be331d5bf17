/-
  Contracts of package pool: Take in its four cases.
-/
import Derived.Test.YtdoennkmcloalaaPbE
set_option linter.unusedSimpArgs false
set_option linter.unusedVariables false
namespace Go.Proofs.Ytdoennkmcloalaa
open Go.RowKit Ev
theorem row_keep {s s' : St} {x : V} {z n : Nat} {l : List V} (h : RdRow s x z n l) (k : ∀ b, rowIn x b → b < s.nx → b < s'.nx ∧ s'.h.get b = s.h.get b) : RdRow s' x z n l := by
  obtain ⟨h1, h2⟩ := h
  refine ⟨h1, ?_⟩
  rcases h2 with h2 | ⟨m, o, q, ty, sz, t, rfl, h3, h4, h5, h6⟩ | ⟨m, o, ty, sz, t, rfl, h3, h4, h5, h6⟩
  · exact .inl h2
  · obtain ⟨k1, k2⟩ := k m (.inl ⟨_, _, _, rfl⟩) h3
    exact .inr (.inl ⟨m, o, q, ty, sz, t, rfl, k1, k2.trans h4, h5, h6⟩)
  · obtain ⟨k1, k2⟩ := k m (.inr ⟨_, _, _, rfl⟩) h3
    exact .inr (.inr ⟨m, o, ty, sz, t, rfl, k1, k2.trans h4, h5, h6⟩)
def tkNo (st : St) (c : Int) (r : V × St) : Prop := r.1 = .t [.c (.slice none 0 0), .int .i64 c] ∧ Ext st.nx st r.2
def tkYes (st : St) (q m : Nat) (g : Gm) (L : List (BitVec 64)) (K : List Rn) (r : V × St) : Prop := ∃ y, r.1 = .t [y, .int .i64 0] ∧ RdRow r.2 y 2 K.length (cells K) ∧ (∀ b, rowIn y b → st.nx ≤ b) ∧ mkR st q m g L r
theorem neg_lt (n : Int) (h : n < 0) : ¬ (0 : Int) ≤ n := by omega
set_option maxRecDepth 20000 in
set_option maxHeartbeats 4000000 in
theorem take_neg (st : St) (q m : Nat) (g : Gm) (z : V) (L : List (BitVec 64)) (f e : Nat) (P : P1 st q m g z L f e) (n : Int) (hn : n < 0) (nt : Nat) :
    Gd (callL Try.prog ⟨false, [], 0, nt⟩ 69 [.p q 0, .int .i64 0, .int .i64 n, .int .i64 4] st) (tkNo st 1) := by
  rw [Gd_callL Try.func69 rfl]
  obtain ⟨hg, hp, hm, hc, hf, he, hfe, he2⟩ := P
  obtain ⟨hq, ⟨t, ht, t0, t1, t2, t3, t4⟩, hr⟩ := hp
  rw [hc] at t2
  have hwf : wantK false (some V.u) = false := rfl
  simp [evOp_call, sets, T.get_set, loadE_eq, getC_eq, ht, t2, hn, hwf]
  exact ⟨rfl, Ext.refl _ _⟩
set_option maxRecDepth 20000 in
set_option maxHeartbeats 4000000 in
theorem take_zero (st : St) (q m : Nat) (g : Gm) (z : V) (L : List (BitVec 64)) (f e : Nat) (P : P1 st q m g z L f e) (nt : Nat) :
    Gd (callL Try.prog ⟨false, [], 0, nt⟩ 69 [.p q 0, .int .i64 0, .int .i64 0, .int .i64 4] st) (tkYes st q m g L []) := by
  rw [Gd_callL Try.func69 rfl]
  have P0 := P
  obtain ⟨hg, hp, hm, hc, hf, he, hfe, he2⟩ := P
  obtain ⟨hq, ⟨t, ht, t0, t1, t2, t3, t4⟩, hr⟩ := hp
  rw [hc] at t2
  have hwf : wantK false (some V.u) = false := rfl
  have hwu : wantK true (some V.u) = false := rfl
  have hln : ∀ s : St, lenS s (V.c (.slice none 0 0)) = some (.int .i64 0, s) := fun s => (OwnRow.nil 0 s 2).rd.lenS s
  simp [evOp_call, sets, T.get_set, loadE_eq, getC_eq, ht, t2, hwf]
  refine Gd.mono (one_any st q m g z L f e P0 0 _) ?_
  rintro ⟨r, s1⟩ ⟨hr, x1⟩
  have hfr : freeB L (f : Int) (e : Int) 0 = none := by unfold freeB; rw [if_pos (by decide)]
  rw [hfr] at hr
  simp only at hr x1
  subst hr
  simp [evOp_call, sets, T.get_set, hln, hwf, hwu]
  refine Gd.mono (total_any s1 (.c (.slice none 0 0)) [] _ (OwnRow.nil 0 _ 2).rd (by simp) (by decide)) ?_
  rintro ⟨r, s2⟩ ⟨hr, x2⟩
  simp only at hr x2
  subst hr
  have hl0 : lens (([] : List Rn).filter cnt) = 0 := rfl
  rw [hl0]
  have hs2 : Ext st.nx st s2 := x1.trans (x2.mono x1.le)
  simp [evOp_call, sets, T.get_set, hln, hwf, hwu]
  refine Gd.mono (mark_any s2 q m g z L (P0.hp.ext hs2) hm true (.c (.slice none 0 0)) [] (OwnRow.nil 0 _ 2).rd ⟨by simp, fun r hr => by cases hr⟩ _) ?_
  rintro ⟨r, s3⟩ ⟨z', hp3, hle, hk, hx3, hz3⟩
  have hl2 := hs2.le
  simp [evOp_call, sets, T.get_set]
  exact ⟨_, rfl, (OwnRow.nil 0 _ 2).rd, fun b h => (by rcases h with ⟨_, _, _, e⟩ | ⟨_, _, _, e⟩ <;> cases e), z', hp3, Nat.le_trans hl2 hle, fun k h1 h2 => (hk k (by omega) h2).trans (hs2.keep k h1), (hs2.mono (by omega)).trans hx3, hz3⟩
set_option maxRecDepth 20000 in
set_option maxHeartbeats 4000000 in
theorem take_some (st : St) (q m : Nat) (g : Gm) (z : V) (L : List (BitVec 64)) (f e : Nat) (P : P1 st q m g z L f e) (n : Int) (hn : 1 ≤ n ∧ n ≤ 1000) (a : Int) (ha : 0 ≤ a ∧ a ≤ 1000) (hfr : freeB L (f : Int) (e : Int) n = some a) (nt : Nat) :
    Gd (callL Try.prog ⟨false, [], 0, nt⟩ 69 [.p q 0, .int .i64 0, .int .i64 n, .int .i64 4] st) (tkYes st q m g (setB L true (allJ [(a, n)])) [(a, n)]) := by
  rw [Gd_callL Try.func69 rfl]
  have P0 := P
  obtain ⟨hg, hp, hm, hc, hf, he, hfe, he2⟩ := P
  obtain ⟨hq, ⟨t, ht, t0, t1, t2, t3, t4⟩, hr⟩ := hp
  rw [hc] at t2
  have hwf : wantK false (some V.u) = false := rfl
  have hwu : wantK true (some V.u) = false := rfl
  have h0 : ¬ n < 0 := by omega
  simp [evOp_call, sets, T.get_set, loadE_eq, getC_eq, ht, t2, hwf, h0]
  refine Gd.mono (one_any st q m g z L f e P0 n _) ?_
  rintro ⟨y, s1⟩ ⟨hr, x1⟩
  rw [hfr] at hr
  obtain ⟨hy, hyf⟩ := hr
  simp only at hy hyf x1
  have hly : ∀ s : St, lenS s y = some (.int .i64 1, s) := fun s => hy.lenS s
  have hcn : cnt (a, n) = true := by unfold cnt; simp; omega
  have hfl : ([(a, n)] : List Rn).filter cnt = [(a, n)] := by simp [List.filter, hcn]
  have hle1 : lens [(a, n)] = n := by simp [lens]
  simp [evOp_call, sets, T.get_set, hly, hwf, hwu]
  refine Gd.mono (total_any s1 y [(a, n)] _ hy (by simp) (by rw [hfl, hle1]; omega)) ?_
  rintro ⟨r, s2⟩ ⟨hr, x2⟩
  simp only at hr x2
  subst hr
  rw [hfl, hle1]
  have hs2 : Ext st.nx st s2 := x1.trans (x2.mono x1.le)
  simp [evOp_call, sets, T.get_set, hly, hwf, hwu]
  refine Gd.mono (mark_any s2 q m g z L (P0.hp.ext hs2) hm true y [(a, n)] (hy.ext x2) ⟨by simp, fun r hr => by simp at hr; subst hr; exact ⟨ha.1, ha.2, by show 0 ≤ n; omega, hn.2⟩⟩ _) ?_
  rintro ⟨r, s3⟩ ⟨z', hp3, hle, hk, hx3, hz3⟩
  have hl2 := hs2.le
  have hyb : ∀ b, rowIn y b → st.nx ≤ b := fun b h => by
    rcases h with ⟨_, _, _, e⟩ | ⟨_, _, _, e⟩
    · exact hyf.2 _ _ _ _ e
    · exact hyf.1 _ _ _ _ e
  simp [evOp_call, sets, T.get_set]
  refine ⟨_, rfl, row_keep (hy.ext x2) fun b hb h1 => ⟨Nat.lt_of_lt_of_le h1 hle, hk b h1 (by have := hyb b hb; omega)⟩, hyb, z', hp3, Nat.le_trans hl2 hle, fun k h1 h2 => (hk k (by omega) h2).trans (hs2.keep k h1), (hs2.mono (by omega)).trans hx3, hz3⟩
set_option maxRecDepth 20000 in
set_option maxHeartbeats 4000000 in
theorem take_none (st : St) (q m : Nat) (g : Gm) (z : V) (L : List (BitVec 64)) (f e : Nat) (P : P1 st q m g z L f e) (n : Int) (a k : Int) (hK : gapsC L f e [(a, k)]) (hcn : cnt (a, k) = true) (hn : k < n ∧ n ≤ 9223372036854775807) (hfr : freeB L (f : Int) (e : Int) n = none) (nt : Nat) :
    Gd (callL Try.prog ⟨false, [], 0, nt⟩ 69 [.p q 0, .int .i64 0, .int .i64 n, .int .i64 4] st) (tkNo st 7) := by
  rw [Gd_callL Try.func69 rfl]
  have P0 := P
  obtain ⟨hg, hp, hm, hc, hf, he, hfe, he2⟩ := P
  obtain ⟨hq, ⟨t, ht, t0, t1, t2, t3, t4⟩, hr⟩ := hp
  rw [hc] at t2
  have hwf : wantK false (some V.u) = false := rfl
  have hwu : wantK true (some V.u) = false := rfl
  have hk1 : 1 ≤ k ∧ k ≤ 1073741824 := by unfold cnt at hcn; simp at hcn; omega
  have h0 : ¬ n < 0 := by omega
  have h1 : 0 < n := by omega
  have hln : ∀ s : St, lenS s (V.c (.slice none 0 0)) = some (.int .i64 0, s) := fun s => (OwnRow.nil 0 s 2).rd.lenS s
  simp [evOp_call, sets, T.get_set, loadE_eq, getC_eq, ht, t2, hwf, h0]
  refine Gd.mono (one_any st q m g z L f e P0 n _) ?_
  rintro ⟨r, s1⟩ ⟨hr, x1⟩
  rw [hfr] at hr
  simp only at hr x1
  subst hr
  simp [evOp_call, sets, T.get_set, hln, hwf, hwu, h1]
  refine Gd.mono (few_any s1 q m g z L f e (P0.ext x1) a k n hK hcn ⟨by omega, hn.2⟩ _) ?_
  rintro ⟨y, s2⟩ ⟨hy, x2⟩
  simp only at hy x2
  have hfl : ([(a, k)] : List Rn).filter cnt = [(a, k)] := by simp [List.filter, hcn]
  have hle1 : lens [(a, k)] = k := by simp [lens]
  simp [evOp_call, sets, T.get_set]
  refine Gd.mono (total_any s2 y [(a, k)] _ hy.rd (by simp) (by rw [hfl, hle1]; omega)) ?_
  rintro ⟨r, s3⟩ ⟨hr, x3⟩
  simp only at hr x3
  subst hr
  rw [hfl, hle1]
  have hs2 : Ext st.nx st s2 := x1.trans (x2.mono x1.le)
  simp [evOp_call, sets, T.get_set, hwf, hwu, hn.1]
  exact ⟨rfl, hs2.trans (x3.mono hs2.le)⟩
end Go.Proofs.Ytdoennkmcloalaa

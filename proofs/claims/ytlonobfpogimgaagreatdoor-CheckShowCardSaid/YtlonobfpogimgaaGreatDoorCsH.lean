/-
  Contracts of package strings: Join of four.
-/
import Derived.Test.YtlonobfpogimgaaGreatDoorCsG
set_option linter.unusedSimpArgs false
set_option linter.unusedVariables false
namespace Go.Proofs.YtlonobfpogimgaaGreatDoor
open Go.RowKit Ev
def sumL (L : List Tx) : Nat := (L.map List.length).sum
theorem sumL_take {L : List Tx} {i : Nat} {p : Tx} (h : L[i]? = some p) : sumL (L.take (i + 1)) = sumL (L.take i) + p.length := by
  unfold sumL
  rw [List.take_add_one, h]
  simp
theorem sumL_le {L : List Tx} (h : ∀ t ∈ L, List.length t ≤ 100) : sumL L ≤ 100 * L.length := by
  unfold sumL
  induction L with
  | nil => simp
  | cons a l ih =>
    have h1 := h a (by simp)
    have h2 := ih fun t ht => h t (by simp [ht])
    simp only [List.map_cons, List.sum_cons, List.length_cons]
    omega
def jnF (L : List Tx) (i : Nat) : Tx := (L.take 1).flatten ++ ((L.drop 1).take i).flatMap fun t => [32] ++ t
theorem jnF_succ {L : List Tx} {i : Nat} {p : Tx} (h : L[i + 1]? = some p) : jnF L (i + 1) = jnF L i ++ [32] ++ p := by
  unfold jnF
  have h' : (L.drop 1)[i]? = some p := by rw [List.getElem?_drop, Nat.add_comm]; exact h
  have e : (L.drop 1).take (i + 1) = (L.drop 1).take i ++ [p] := by rw [List.take_add_one, h']; rfl
  rw [e]
  simp
theorem jnF_len (L : List Tx) (hL : 0 < L.length) (i : Nat) (hi : i + 1 ≤ L.length) : (jnF L i).length = i + sumL (L.take (i + 1)) := by
  induction i with
  | zero =>
    obtain ⟨p, hp⟩ : ∃ p, L[0]? = some p := ⟨_, List.getElem?_eq_getElem hL⟩
    rw [sumL_take hp]
    cases L with
    | nil => simp at hL
    | cons a l => simp at hp; subst hp; simp [jnF, sumL]
  | succ i ih =>
    obtain ⟨p, hp⟩ : ∃ p, L[i + 1]? = some p := ⟨_, List.getElem?_eq_getElem (by omega)⟩
    rw [jnF_succ hp, sumL_take hp, List.length_append, List.length_append, ih (by omega)]
    simp
    omega
theorem sumL_mono (L : List Tx) (i : Nat) : sumL (L.take i) ≤ sumL L := by
  unfold sumL
  conv => rhs; rw [← List.take_append_drop i L]
  rw [List.map_append, List.sum_append]
  omega
theorem jnF_ok {L : List Tx} (h : ∀ t ∈ L, okS t) (i : Nat) : okS (jnF L i) := fun b hb => by
  unfold jnF at hb
  rcases List.mem_append.1 hb with hb | hb
  · obtain ⟨t, ht, hb⟩ := List.mem_flatten.1 hb
    exact h t (List.mem_of_mem_take ht) b hb
  · obtain ⟨t, ht, hb⟩ := List.mem_flatMap.1 hb
    have ht' := List.mem_of_mem_drop (List.mem_of_mem_take ht)
    rcases List.mem_append.1 hb with hb | hb
    · simp at hb; omega
    · exact h t ht' b hb
theorem Gd_slice_loX {P : Program} {c : Cx} {e : Env} {st st0 : St} {b t el z n k : Nat} {i : IntKind} {y : V} {l : List V} {x : Operand} {Q : V × St → Prop} (hu : P.underlying t = some (.slice el)) (hi : infoOk P el z = true) (h : OwnRow b st0 y z n l) (hv : opv e x = some (.int i (k : Int))) (hk : k < n)
    (hQ : ∀ y', (∀ s', Ext st0.nx st0 s' → RdRow s' y' z (n - k) (l.drop (k * z))) → Q (y', st)) : Gd (sliceK P c e st t y (some x) none) Q := by
  have hz := infoOk_pos hi
  obtain ⟨h1, h2⟩ := h
  have hle : k * z ≤ n * z := Nat.mul_le_mul_right z (by omega)
  have hsub : (n - k) * z = n * z - k * z := Nat.sub_mul ..
  unfold sliceK
  rcases h2 with ⟨rfl, rfl⟩ | ⟨m, ty, tr, rfl, h3, h4, h5, h6, h7⟩
  · omega
  · rw [sliceE_lo hu hi hv _ _ _ (by omega), if_neg (by omega)]
    refine ⟨_, rfl, hQ _ fun s' hs => ⟨by rw [List.length_drop]; omega, .inr (.inr ⟨m, 0 + k * z, ty, n * z, tr, rfl, Nat.lt_of_lt_of_le h4 hs.le, (hs.keep m h4).trans h5, by omega, fun j v hj => ?_⟩)⟩⟩
    rw [List.getElem?_drop] at hj
    rw [Nat.zero_add]
    exact h7 _ v hj
def jnI1 (st : St) (y : V) (L : List Tx) (e : Env) (s : St) : Prop := ∃ i : Nat, i ≤ 4 ∧ e.get 0 = some y ∧ e.get 1 = some (.s [32]) ∧ e.get 39 = some y ∧ e.get 40 = some (.int .i64 4) ∧ e.get 41 = some (.int .i64 (i : Int)) ∧ e.get 5 = some (.int .i64 ((3 + sumL (L.take i) : Nat) : Int)) ∧ s = st
def jnI2 (s0 : St) (b N : Nat) (z : V) (L : List Tx) (e : Env) (s : St) : Prop := ∃ i : Nat, i ≤ 3 ∧ e.get 1 = some (.s [32]) ∧ e.get 8 = some (.p b 0) ∧ e.get 63 = some z ∧ e.get 64 = some (.int .i64 3) ∧ e.get 65 = some (.int .i64 (i : Int)) ∧ BuG s b (jnF L i) N ∧ Ext b s0 s
set_option maxRecDepth 20000 in
set_option maxHeartbeats 4000000 in
theorem join_any (st : St) (y : V) (L : List Tx) (h4 : L.length = 4) (b0 : Nat) (hyO : OwnRow b0 st y 1 4 (sv L)) (hl : ∀ t ∈ L, List.length t ≤ 100) (hok : ∀ t ∈ L, okS t) (nt : Nat) :
    Gd (callL Tryz.prog ⟨false, [], 0, nt⟩ 12 [y, .s [32]] st) fun r => r.1 = .s (jnF L 3) ∧ Ext st.nx st r.2 := by
  rw [Gd_callL Tryz.func12 rfl]
  have hy := hyO.rd
  have hlen := hy.lenS
  have hq : (9223372036854775807 : Int).tdiv 3 = 3074457345618258602 := by decide
  have hwq : IntKind.i64.wrap 3074457345618258602 = 3074457345618258602 := by decide
  have hsum := sumL_le hl
  rw [h4] at hsum
  simp [evOp_call, sets, T.get_set, hlen, len_str un9, wi3, wi1, hq, hwq]
  refine Gd_loop (jnI1 st y L) (fun e _ => muAt 41 4 e) ?_ ?_
  · exact ⟨0, by omega, by simp [T.get_set], by simp [T.get_set], by simp [T.get_set], by simp [T.get_set], by simp [T.get_set], by simp [T.get_set, sumL], rfl⟩
  rintro e s ⟨i, hi, g0, g1, g39, g40, g41, g5, rfl⟩
  by_cases hlt : i < 4
  · have hlt' : (i : Int) < 4 := by omega
    obtain ⟨p, hp⟩ : ∃ p, L[i]? = some p := ⟨_, List.getElem?_eq_getElem (by omega)⟩
    obtain ⟨m, o, ty, sz, tr, hid, hm, hg, ho, hc⟩ := hy.idx un40 io9 hlt
    have t0 : tr.get o = some (.s p) := hc 0 _ (by omega) (by simpa using sv_get hp)
    have hpl := hl p (List.mem_of_getElem? hp)
    have hmono := sumL_mono L i
    have hst := sumL_take hp
    have w1 : IntKind.i64.wrap ((i : Int) + 1) = ((i + 1 : Nat) : Int) := by rw [wrap_i (by omega) (by omega)]; omega
    have w2 : IntKind.i64.wrap (9223372036854775807 - ((3 + sumL (L.take i) : Nat) : Int)) = 9223372036854775807 - ((3 + sumL (L.take i) : Nat) : Int) := wrap_i (by omega) (by omega)
    have w3 : IntKind.i64.wrap (((3 + sumL (L.take i) : Nat) : Int) + (p.length : Int)) = ((3 + sumL (L.take (i + 1)) : Nat) : Int) := by rw [wrap_i (by omega) (by omega)]; omega
    have hcmp : ¬ 9223372036854775807 - ((3 + sumL (L.take i) : Nat) : Int) < (p.length : Int) := by omega
    simp [evOp_call, T.get_set, g0, g1, g39, g40, g41, g5, hlt', hid, loadE_eq, getC_eq, hg, t0, len_str un9, w1, w2, w3, hcmp, -Int.natCast_add]
    refine ⟨⟨i + 1, by omega, by simp [T.get_set, g0], by simp [T.get_set, g1], by simp [T.get_set, g39], by simp [T.get_set, g40], by simp [T.get_set], by simp [T.get_set]⟩, muAt_lt g41 (by simp [T.get_set]) hlt⟩
  · have hi4 : i = 4 := by omega
    subst hi4
    simp [evOp_call, T.get_set, g0, g1, g39, g40, g41, g5, -Int.natCast_add]
    have hN : sumL (L.take 4) = sumL L := by rw [List.take_of_length_le (by omega)]
    obtain ⟨N, hNd⟩ : ∃ N, N = 3 + sumL L := ⟨_, rfl⟩
    rw [hN, ← hNd] at g5
    rw [newC_is]
    have hb1 : (⟨s.nx + 1, s.h.set s.nx (.cs 79 2 (sets [.c (.pointer none), .c (.slice none 0 0)] 0 .lf))⟩ : St).h.get s.nx = some (.cs 79 2 (sets [.c (.pointer none), .c (.slice none 0 0)] 0 .lf)) := T.get_set_same _ _ _
    have x0 := (Ext.refl s.nx s).new (Nat.le_refl _) (.cs 79 2 (sets [.c (.pointer none), .c (.slice none 0 0)] 0 .lf))
    have ht0 : (sets [.c (.pointer none), .c (.slice none 0 0)] 0 (.lf : T V)).get 0 = some (.c (.pointer none)) := by simp [sets, T.get_set]
    have ht1 : (sets [.c (.pointer none), .c (.slice none 0 0)] 0 (.lf : T V)).get 1 = some (.c (.slice none 0 0)) := by simp [sets, T.get_set]
    simp only [List.length_cons, List.length_nil] at *
    generalize sets [V.c (.pointer none), V.c (.slice none 0 0)] 0 T.lf = T0 at *
    simp [evOp_call, T.get_set, g0, g1, g39, g40, g41, g5]
    refine Gd.mono (grow_any _ s.nx T0 (Nat.lt_succ_self _) hb1 (.inl ht0) ht1 N (by omega) (by omega) _) ?_
    rintro ⟨r, s1⟩ ⟨hb, x1⟩
    simp only at hb x1
    have x2 := x0.trans x1
    obtain ⟨p0, hp0⟩ : ∃ p, L[0]? = some p := ⟨_, List.getElem?_eq_getElem (by omega)⟩
    obtain ⟨m, o, ty, sz, tr, hid, hm, hg, ho, hc⟩ := (hy.ext x2).idx un40 io9 (i := 0) (by omega)
    have t0 : tr.get o = some (.s p0) := hc 0 _ (by omega) (by simpa using sv_get hp0)
    simp [evOp_call, T.get_set, g0, g1, g39, g40, g41, g5, hid, loadE_eq, getC_eq, hg, t0]
    have hj0 : jnF L 0 = p0 := by
      cases L with
      | nil => simp at hp0
      | cons a l => simp at hp0; subst hp0; simp [jnF]
    have hjl := jnF_len L (by omega) 0 (by omega)
    have hm1 := sumL_mono L 1
    rw [hj0] at hjl
    refine Gd.mono (writeG_any s1 s.nx [] N hb p0 (by simp only [List.length_nil]; simp only [Nat.zero_add] at hjl; omega) (by omega) _) ?_
    rintro ⟨r2, s2⟩ ⟨hb2, x3⟩
    simp only [List.nil_append] at hb2 x3
    have x4 := x2.trans x3
    simp [evOp_call, T.get_set, g0, g1, g39, g40, g41, g5]
    have x40 : Ext s.nx s s2 := x4
    refine Gd_slice_loX un40 io9 (k := 1) (i := .i64) hyO (by simp [T.get_set]; try rfl) (by omega) ?_
    intro z hz
    have hzl := (hz s2 x40).lenS
    simp [evOp_call, T.get_set, g0, g1, g39, g40, g41, g5, hzl]
    refine Gd_loop (jnI2 s2 s.nx N z L) (fun e _ => muAt 65 3 e) ?_ ?_
    · exact ⟨0, by omega, by simp [T.get_set, g1], by simp [T.get_set], by simp [T.get_set], by simp [T.get_set], by simp [T.get_set], by rw [hj0]; exact hb2, Ext.refl _ _⟩
    clear g0 g1 g39 g40 g41 g5
    rintro e s3 ⟨i, hi, g1, g8, g63, g64, g65, hbi, x5⟩
    by_cases hlt : i < 3
    · have hlt' : (i : Int) < 3 := by omega
      obtain ⟨p, hp⟩ : ∃ p, L[i + 1]? = some p := ⟨_, List.getElem?_eq_getElem (by omega)⟩
      have hp' : ((sv L).drop (1 * 1))[i * 1 + 0]? = some (.s p) := by rw [List.getElem?_drop]; have := sv_get hp; rw [show 1 * 1 + (i * 1 + 0) = i + 1 by omega]; exact this
      obtain ⟨mi, oi, tyi, szi, tri, hidi, hmi, hgi, hoi, hci⟩ := (hz s3 (x40.trans x5)).idx un40 io9 hlt
      have t1 : tri.get oi = some (.s p) := hci 0 _ (by omega) hp'
      have w1 : IntKind.i64.wrap ((i : Int) + 1) = ((i + 1 : Nat) : Int) := by rw [wrap_i (by omega) (by omega)]; omega
      have l1 := jnF_len L (by omega) i (by omega)
      have l2 := jnF_len L (by omega) (i + 1) (by omega)
      have l3 := sumL_mono L (i + 1 + 1)
      have l4 := sumL_take hp
      simp [evOp_call, T.get_set, g1, g8, g63, g64, g65, hlt', hidi, loadE_eq, getC_eq, hgi, t1]
      refine Gd.mono (writeG_any s3 s.nx (jnF L i) N hbi [32] (by simp only [List.length_cons, List.length_nil]; omega) (by omega) _) ?_
      rintro ⟨r3, s4⟩ ⟨hb3, x6⟩
      simp only at hb3 x6
      simp [evOp_call, T.get_set, g1, g8, g63, g64, g65]
      refine Gd.mono (writeG_any s4 s.nx (jnF L i ++ [32]) N hb3 p (by simp only [List.length_append, List.length_cons, List.length_nil]; omega) (by omega) _) ?_
      rintro ⟨r4, s5⟩ ⟨hb4, x7⟩
      simp only at hb4 x7
      rw [← jnF_succ hp] at hb4
      simp [evOp_call, T.get_set, g1, g8, g63, g64, g65, w1]
      exact ⟨⟨i + 1, by omega, by simp [T.get_set, g1], by simp [T.get_set, g8], by simp [T.get_set, g63], by simp [T.get_set, g64], by simp [T.get_set], hb4, x5.trans (x6.trans x7)⟩, muAt_lt g65 (by simp [T.get_set]) hlt⟩
    · have hi3 : i = 3 := by omega
      subst hi3
      simp [evOp_call, T.get_set, g1, g8, g63, g64, g65]
      have l1 := jnF_len L (by omega) 3 (by omega)
      refine Gd.mono (stringG_any s3 s.nx (jnF L 3) N hbi (jnF_ok hok 3) (by omega) (by omega) _) ?_
      rintro ⟨r3, s4⟩ ⟨hr, x6⟩
      simp only at hr x6
      subst hr
      simp [evOp_call, T.get_set]
      exact x40.trans (x5.trans x6)
end Go.Proofs.YtlonobfpogimgaaGreatDoor

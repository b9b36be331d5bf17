/-
  PLAIN: what stands in lines behind stores, flushes, fences, falls.
-/
import Derived.Test.YtenncnbaoejekaaSpC
set_option linter.unusedSimpArgs false
namespace Go.Proofs.Ytenncnbaoejekaa
open Go.RowKit Ev
def stL (L : List LM) (a : Int) (w : BitVec 64) : List LM := L.set (a / 8).toNat ((L[(a / 8).toNat]?.getD LM0).store (a % 8) w)
def storesL (L : List LM) (b : Int) : List (BitVec 64) → List LM
  | [] => L
  | w :: l => storesL (stL L b w) (b + 1) l
/-- lines in order -/
structure okLs (L : List LM) (n : Nat) : Prop where
  len : L.length = n
  ok : ∀ m ∈ L, okP m
theorem okS.ls {s : AS} {n i : Nat} (h : okS s n i) : okLs s.L n := ⟨h.len, h.ok⟩
theorem okLs.nl {L : List LM} {n : Nat} (h : okLs L n) : ∀ m ∈ L, m.N.length = 8 := fun m hm => (h.ok m hm).nl
theorem okLs.get {L : List LM} {n : Nat} (h : okLs L n) {p : Nat} (hp : p < 8 * n) : ∃ m, L[p / 8]? = some m ∧ okP m ∧ (allN L)[p]? = m.N[p % 8]? := by
  obtain ⟨m, hm⟩ : ∃ m, L[p / 8]? = some m := ⟨_, List.getElem?_eq_getElem (by rw [h.len]; omega)⟩
  refine ⟨m, hm, h.ok m (List.mem_of_getElem? hm), ?_⟩
  have := allN_get h.nl hm (show p % 8 < 8 by omega)
  rwa [show 8 * (p / 8) + p % 8 = p by omega] at this
theorem okLs.nlen {L : List LM} {n : Nat} (h : okLs L n) : (allN L).length = 8 * n := by rw [allN_length h.nl, h.len]
theorem okLs.st {L : List LM} {n : Nat} (h : okLs L n) {a : Int} (ha : 0 ≤ a ∧ a < 8 * n) (w : BitVec 64) : okLs (stL L a w) n := by
  obtain ⟨m, hm⟩ : ∃ m, L[(a / 8).toNat]? = some m := ⟨_, List.getElem?_eq_getElem (by rw [h.len]; omega)⟩
  refine ⟨by unfold stL; rw [List.length_set, h.len], fun x hx => ?_⟩
  unfold stL at hx
  rw [hm] at hx
  rcases set_mem hx with hx | rfl
  · exact h.ok x hx
  · exact (h.ok m (List.mem_of_getElem? hm)).store _ _
theorem allN_st {L : List LM} {n : Nat} (h : okLs L n) {a : Nat} (ha : a < 8 * n) (w : BitVec 64) : allN (stL L (a : Int) w) = (allN L).set a w := by
  have h2 := h.st (a := (a : Int)) (by omega) w
  apply List.ext_getElem?
  intro p
  by_cases hp : p < 8 * n
  · obtain ⟨m, hm, _, hg⟩ := h.get hp
    obtain ⟨m2, hm2, _, hg2⟩ := h2.get hp
    obtain ⟨ma, hma, hok, _⟩ := h.get ha
    have hal : ((a : Int) / 8).toNat = a / 8 := by omega
    have hap : ((a : Int) % 8) = ((a % 8 : Nat) : Int) := by omega
    unfold stL at hm2
    rw [hal, hap, hma] at hm2
    have hst : (some ma : Option LM).getD LM0 = ma := rfl
    rw [hst] at hm2
    have hs2 : ma.store ((a % 8 : Nat) : Int) w = { ma with N := ma.N.set (a % 8) w, O := ma.O ++ [(((a % 8 : Nat) : Int), w)] } := by
      unfold LM.store; rw [if_pos ⟨by omega, by omega⟩]; rfl
    rw [hg2]
    by_cases e : a / 8 = p / 8
    · rw [← e, List.getElem?_set_self (lt_of_get hma)] at hm2
      injection hm2 with hm2
      rw [← hm2, hs2]
      show (ma.N.set (a % 8) w)[p % 8]? = _
      by_cases e2 : a = p
      · subst e2
        rw [List.getElem?_set_self (by rw [hok.nl]; omega), List.getElem?_set_self (by rw [h.nlen]; exact ha)]
      · rw [List.getElem?_set_ne (by omega), List.getElem?_set_ne e2, hg]
        rw [← e, hma] at hm
        injection hm with hm
        rw [hm]
    · rw [List.getElem?_set_ne e, hm] at hm2
      injection hm2 with hm2
      rw [List.getElem?_set_ne (by omega), hg, hm2]
  · rw [List.getElem?_eq_none (by rw [h2.nlen]; omega), List.getElem?_eq_none (by rw [List.length_set, h.nlen]; omega)]
theorem okLs.sts {n : Nat} : ∀ (l : List (BitVec 64)) {L : List LM} {b : Int}, okLs L n → 0 ≤ b → b + l.length ≤ 8 * n → okLs (storesL L b l) n
  | [], _, _, h, _, _ => h
  | w :: l, L, b, h, h0, h1 => by
    have h2 : ((w :: l).length : Int) = l.length + 1 := by simp
    exact okLs.sts l (h.st (by omega) w) (by omega) (by omega)
theorem allN_sts {n : Nat} : ∀ (l : List (BitVec 64)) {L : List LM} {b : Nat}, okLs L n → b + l.length ≤ 8 * n → ∀ p, (allN (storesL L (b : Int) l))[p]? = if b ≤ p ∧ p < b + l.length then l[p - b]? else (allN L)[p]?
  | [], L, b, h, _ => fun p => by
    rw [if_neg (by simp)]; rfl
  | w :: l, L, b, h, h1 => fun p => by
    have hl : (w :: l).length = l.length + 1 := by simp
    have ih := allN_sts l (b := b + 1) (h.st (a := (b : Int)) (by omega) w) (by omega) p
    have e : storesL L (b : Int) (w :: l) = storesL (stL L (b : Int) w) ((b + 1 : Nat) : Int) l := by
      show storesL (stL L (b : Int) w) ((b : Int) + 1) l = _
      congr 1
    rw [e, ih, allN_st h (by omega)]
    by_cases c1 : b + 1 ≤ p ∧ p < b + 1 + l.length
    · rw [if_pos c1, if_pos (by omega), show p - b = (p - (b + 1)) + 1 by omega]; rfl
    · rw [if_neg c1]
      by_cases c2 : p = b
      · subst c2
        rw [if_pos (by omega), List.getElem?_set_self (by rw [h.nlen]; omega), Nat.sub_self]; rfl
      · rw [if_neg (by omega), List.getElem?_set_ne (fun e => c2 e.symm)]
theorem flushL_map {ls : List Int} {L : List LM} (h : ∀ i ∈ ls, 0 ≤ i ∧ i < L.length) : (flushL L ls).map (fun m => m.N) = L.map fun m => m.N := by
  apply List.ext_getElem?
  intro l
  rw [List.getElem?_map, List.getElem?_map]
  cases hx : (flushL L ls)[l]? with
  | none =>
    have := List.getElem?_eq_none_iff.1 hx
    rw [flushL_length] at this
    rw [List.getElem?_eq_none this]
  | some x =>
    obtain ⟨m, hm, _, q2, _⟩ := flushL_at h hx
    rw [hm]; simp [q2]
theorem allN_map {L K : List LM} (h : L.map (fun m => m.N) = K.map fun m => m.N) : allN L = allN K := by
  unfold allN
  rw [List.flatMap_def, List.flatMap_def]
  have : L.map (·.N) = K.map (·.N) := h
  rw [this]
theorem allN_flush {ls : List Int} {L : List LM} (h : ∀ i ∈ ls, 0 ≤ i ∧ i < L.length) : allN (flushL L ls) = allN L := allN_map (flushL_map h)
theorem allN_fence (L : List LM) : allN (L.map fenceM) = allN L := allN_map (by rw [List.map_map]; rfl)
theorem okLs.fl {L : List LM} {n : Nat} {ls : List Int} (h : okLs L n) (hl : ∀ i ∈ ls, 0 ≤ i ∧ i < L.length) : okLs (flushL L ls) n := ⟨by rw [flushL_length, h.len], flushL_ok (fun _ h => h.flush) ls L hl h.ok⟩
theorem okLs.fe {L : List LM} {n : Nat} (h : okLs L n) : okLs (L.map fenceM) n := ⟨by rw [List.length_map, h.len], fun m hm => by
  obtain ⟨x, hx, rfl⟩ := List.mem_map.1 hm
  exact (h.ok x hx).fence⟩
theorem okLs.fall {L : List LM} {n : Nat} (h : okLs L n) (K : List Int) : okLs (fallM K L) n := ⟨by rw [fallM_length, h.len], fun x hx => by
  obtain ⟨m, hm, h2⟩ := fallM_mem hx
  rcases h2 with ⟨rfl, _⟩ | ⟨k, rfl⟩
  · exact h.ok _ hm
  · exact (h.ok _ hm).fall k⟩
/-- a line that was flushed has all flushed -/
theorem flushL_full : ∀ (ls : List Int) {L : List LM} {j : Nat} {x : LM}, (∀ i ∈ ls, 0 ≤ i ∧ i < L.length) → ((j : Int) ∈ ls ∨ ∃ m, L[j]? = some m ∧ m.F = m.O.length) → (flushL L ls)[j]? = some x → x.F = x.O.length
  | [], L, j, x, _, h, hx => by
    rcases h with h | ⟨m, hm, h⟩
    · simp at h
    · have : L[j]? = some x := hx
      rw [hm] at this
      injection this with this
      rw [← this]; exact h
  | i :: ls, L, j, x, hi, h, hx => by
    have h1 := hi i (List.mem_cons_self ..)
    obtain ⟨y, hy⟩ : ∃ y, L[i.toNat]? = some y := ⟨_, List.getElem?_eq_getElem (by omega)⟩
    refine flushL_full ls (L := L.set i.toNat (flushM (L[i.toNat]?.getD LM0))) (fun k hk => by rw [List.length_set]; exact hi k (List.mem_cons_of_mem _ hk)) ?_ hx
    by_cases e : i.toNat = j
    · right
      subst e
      rw [hy]
      exact ⟨_, List.getElem?_set_self (lt_of_get hy), rfl⟩
    · rcases h with h | ⟨m, hm, h⟩
      · rcases List.mem_cons.1 h with h | h
        · omega
        · exact .inl h
      · exact .inr ⟨m, by rw [List.getElem?_set_ne e]; exact hm, h⟩
theorem fenced_none {L : List LM} {ls : List Int} {j : Nat} {x : LM} (hi : ∀ i ∈ ls, 0 ≤ i ∧ i < L.length) (hj : (j : Int) ∈ ls) (hx : ((flushL L ls).map fenceM)[j]? = some x) : x.O = [] := by
  rw [List.getElem?_map] at hx
  cases hy : (flushL L ls)[j]? with
  | none => rw [hy] at hx; cases hx
  | some y =>
    rw [hy] at hx
    injection hx with hx
    have hf := flushL_full ls hi (.inl hj) hy
    rw [← hx]
    show y.O.drop y.F.toNat = []
    rw [hf, show ((y.O.length : Int)).toNat = y.O.length by omega, List.drop_length]
/-- where a line has no open store, a fall changes nothing -/
theorem fall_same {L : List LM} {n : Nat} (h : okLs L n) (K : List Int) {p : Nat} (hp : p < 8 * n) (h0 : ∀ x, L[p / 8]? = some x → x.O = []) : (allN (fallM K L))[p]? = (allN L)[p]? := by
  obtain ⟨m, hm, _, hg⟩ := h.get hp
  obtain ⟨m2, hm2, _, hg2⟩ := (h.fall K).get hp
  obtain ⟨k, hk⟩ := fallM_get (K := K) hm
  rw [hk, h0 m hm] at hm2
  simp at hm2
  rw [hg, hg2, hm2]
theorem mem_linesOf {f a : Int} {k j : Nat} (h1 : f + a / 8 ≤ j) (h2 : (j : Int) ≤ f + (a + k - 1) / 8) : (j : Int) ∈ linesOf f a k := by
  unfold linesOf
  rw [List.mem_map]
  exact ⟨(j - (f + a / 8)).toNat, by rw [List.mem_range]; omega, by omega⟩
theorem linesOf_mem {f a : Int} {k : Nat} {i : Int} (h : i ∈ linesOf f a k) : f + a / 8 ≤ i ∧ i ≤ f + (a + k - 1) / 8 := by
  unfold linesOf at h
  rw [List.mem_map] at h
  obtain ⟨j, hj, rfl⟩ := h
  rw [List.mem_range] at hj
  omega
/-! ### a memory's, with any fuse -/
theorem store_on2 {s : AS} {n i : Nat} (h : okS s n i) {a : Int} (ha : 0 ≤ a ∧ a < 8 * n) (w : BitVec 64) :
    (s.fuse ≠ 1 ∧ s.storeE a = 0 ∧ (s.store a w).L = stL s.L a w ∧ (s.store a w).K = s.K ∧ okS (s.store a w) n (i + 1)) ∨ (s.fuse = 1 ∧ s.storeE a = 14 ∧ s.store a w = s.fell s.K) := by
  have hin : s.in8 a := ⟨ha.1, by rw [h.len]; omega⟩
  by_cases hf : s.fuse = 1
  · refine .inr ⟨hf, by simp [AS.storeE, h.off, hin, hf], ?_⟩
    have hl : s.lit = s.fell s.K := by unfold AS.lit; rw [if_neg (by omega), if_neg (by omega)]
    simp [AS.store, h.off, hin, hf, hl]
  · obtain ⟨l1, l2, l3, _⟩ := lit_on hf
    have he : s.store a w = { s.lit with L := s.L.set (a / 8).toNat ((s.L[(a / 8).toNat]?.getD LM0).store (a % 8) w), a := IntKind.i64.wrap (s.a + 1) } := by simp [AS.store, h.off, hin, hf]
    obtain ⟨m, hm⟩ := in8_get hin
    have hmm := List.mem_of_getElem? hm
    refine .inl ⟨hf, by simp [AS.storeE, h.off, hin, hf], by rw [he]; rfl, by rw [he]; exact l3, ?_⟩
    rw [he, hm]
    refine ⟨by simp [h.len], by show s.lit.off = false; rw [l2, h.off], fun x hx => ?_, fun x hx => ?_⟩
    · rcases set_mem hx with hx | rfl
      · exact h.ok x hx
      · exact (h.ok m hmm).store _ _
    · rcases set_mem hx with hx | rfl
      · have := h.op x hx; omega
      · have := h.op m hmm
        have h2 : ((m.store (a % 8) w).O).length ≤ m.O.length + 1 := by unfold LM.store; split <;> simp
        exact Nat.le_trans h2 (by omega)
end Go.Proofs.Ytenncnbaoejekaa

/-
  PLAIN: a file system of one file, and of its names.
-/
import Derived.Test.YtgcpgidofikcdaaDoorTmNC
set_option linter.unusedSimpArgs false
set_option linter.unusedVariables false
namespace Go.Proofs.YtgcpgidofikcdaaDoor
open Go.RowKit Ev
def gE (l : List (Tx × Nat)) (c : Int) (d : Tx) : Tr := fun i => if i = 1 then ⟨2, 1, 0, [], l⟩ else if i = 2 then ⟨2, 1, 0, [], []⟩ else if i = 3 then ⟨1, 1, c, d, []⟩ else noE
/-- a name of one letter -/
structure NmB (b : Nat) : Prop where
  e : errS [47, b] = 0
  p : parS [47, b] = [[b]]
  le : lastE [47, b] = 0
  ld : lastD [47, b] = []
  ln : lastN [47, b] = [b]
theorem nm_f : NmB 102 := by constructor <;> decide
theorem nm_d : ∀ i, i < 8 → NmB (48 + i) := fun i hi => by
  rcases (show i = 0 ∨ i = 1 ∨ i = 2 ∨ i = 3 ∨ i = 4 ∨ i = 5 ∨ i = 6 ∨ i = 7 by omega) with rfl | rfl | rfl | rfl | rfl | rfl | rfl | rfl <;> (constructor <;> decide)
theorem not_lost (b : Nat) : [b] ≠ lostT := fun h => by have := congrArg List.length h; simp [lostT] at this
theorem not_dots (b : Nat) : [b] ≠ dots := fun h => by have := congrArg List.length h; simp [dots] at this
theorem find_one (E : Tr) (b : Nat) : findE E 1 [b] = (entT [b] (E 1).l).getD 0 := by
  unfold findE
  rw [if_neg (fun h => not_lost b h.2)]
theorem lastDE_one {E : Tr} (h1 : (E 1).k = 2) {b : Nat} (hb : NmB b) : lastDE E [47, b] = (1, [b], 0) := by
  unfold lastDE
  rw [if_neg (fun h => h hb.le), hb.ld, hb.ln]
  unfold dirE
  rw [walk_nil]
  simp [h1]
section
variable {l : List (Tx × Nat)} {c : Int} {d : Tx} {b : Nat}
theorem way_one {E : Tr} (h1 : (E 1).k = 2) (hb : NmB b) {i : Nat} (h : entT [b] (E 1).l = some i) (hi : i ≠ 0) (hk : (E i).k ≠ 3) (last : Bool) : wayE E [47, b] last = (i, 0) := by
  unfold wayE
  rw [if_neg (fun h => h hb.e), hb.p, walk_cons, if_neg (fun h => h h1), if_neg (not_dots b), find_one, h, Option.getD_some, if_neg hi, if_neg (fun h => hk h.1), walk_nil]
theorem way_g (hb : NmB b) (h : entT [b] l = some 3) (last : Bool) : wayE (gE l c d) [47, b] last = (3, 0) := way_one (E := gE l c d) rfl hb h (by decide) (by show ¬ 1 = 3; decide) last
theorem file_g (hb : NmB b) (h : entT [b] l = some 3) : fileE (gE l c d) [47, b] = (3, 0) := by
  unfold fileE
  rw [way_g hb h]
  rfl
theorem there_g (hb : NmB b) (h : entT [b] l = some 3) : thereE (gE l c d) [47, b] = (1, 3, [b], 0) := by
  unfold thereE
  rw [lastDE_one (E := gE l c d) rfl hb]
  have e : findE (gE l c d) 1 [b] = 3 := by rw [find_one]; show (entT [b] l).getD 0 = 3; rw [h]; rfl
  rw [e]
  rfl
theorem room_one {E : Tr} (h1 : (E 1).k = 2) (hb : NmB b) (h : entT [b] (E 1).l = none) : roomE E [47, b] = (1, [b], 0) := by
  unfold roomE
  rw [lastDE_one h1 hb]
  have e : findE E 1 [b] = 0 := by rw [find_one, h]; rfl
  simp [e]
theorem make_g (hb : NmB b) : makeE 10 newE [47, b] 1 [] = (nodeR 3, gE [([b], 3)] 1 []) := by
  have hs : spareE 10 newE = 3 := by decide
  unfold makeE
  rw [room_one (E := newE) rfl hb rfl, hs, if_neg (fun h => h rfl), if_neg (by decide)]
  congr 1
  funext i
  unfold enterE enter3 enter2 enter1 updE gE newE
  by_cases h1 : i = 1
  · subst h1; simp [cntT, insT]
  by_cases h2 : i = 2
  · subst h2; simp
  by_cases h3 : i = 3
  · subst h3; simp [noE]; decide
  · simp [h1, h2, h3]
theorem link_g {b' : Nat} (hb : NmB b) (hb' : NmB b') (h : entT [b] l = some 3) (h' : entT [b'] l = none) (hc : 0 ≤ c ∧ c < 200) : linkE (gE l c d) [47, b] [47, b'] = (nodeR 3, gE (insT (cntT [b'] l) ([b'], 3) l) (c + 1) d) := by
  unfold linkE
  rw [way_g hb h, room_one (E := gE l c d) rfl hb' h', if_neg (fun h => h rfl), if_neg (by show ¬ 1 = 2; decide), if_neg (fun h => h rfl), if_neg (by show ¬ (200 ≤ c); omega)]
  congr 1
  have hw : IntKind.i64.wrap (c + 1) = c + 1 := wrap_in (by omega) (by omega)
  funext i
  unfold enterE enter3 enter2 enter1 updE gE
  by_cases h1 : i = 1
  · subst h1; simp
  by_cases h2 : i = 2
  · subst h2; simp
  by_cases h3 : i = 3
  · subst h3; simp [hw]
  · simp [h1, h2, h3]
theorem unlink_g (hb : NmB b) (h : entT [b] l = some 3) (hc : 1 ≤ c ∧ c < 200) : unlinkE (gE l c d) [47, b] = (nodeR 3, if c = 1 then updE (gE (l.eraseIdx (cntT [b] l)) 0 d) 3 noE else gE (l.eraseIdx (cntT [b] l)) (c - 1) d) := by
  unfold unlinkE
  rw [there_g hb h, if_neg (fun h => h rfl), if_neg (by show ¬ 1 = 2; decide)]
  congr 1
  have hw : IntKind.i64.wrap (c - 1) = c - 1 := wrap_in (by omega) (by omega)
  have h1 : leave2 (leave1 (gE l c d) 1 [b]) 3 = gE (l.eraseIdx (cntT [b] l)) (c - 1) d := by
    funext i
    unfold leave2 leave1 updE gE
    by_cases h1 : i = 1
    · subst h1; simp
    by_cases h2 : i = 2
    · subst h2; simp
    by_cases h3 : i = 3
    · subst h3; simp [hw]
    · simp [h1, h2, h3]
  unfold leaveE
  rw [show entT [b] (gE l c d 1).l = some 3 from h]
  show leave3 (leave2 (leave1 (gE l c d) 1 [b]) 3) 3 = _
  rw [h1]
  unfold leave3
  by_cases e : c = 1
  · subst e
    rw [if_pos rfl]
    exact (if_pos (show (1 : Int) - 1 = 0 by decide)).trans rfl
  · rw [if_neg e]
    exact if_neg (show ¬ (c - 1 = 0) by omega)
theorem gone_g (d : Tx) : updE (gE [] 0 d) 3 noE = newE := by
  funext i
  unfold updE gE newE
  by_cases h1 : i = 1
  · subst h1; simp
  by_cases h2 : i = 2
  · subst h2; simp
  by_cases h3 : i = 3
  · subst h3; simp
  · simp [h1, h2, h3]
theorem setD_g (w : Tx) : setD (gE l c d) 3 w = gE l c w := by
  funext i
  unfold setD updE gE
  by_cases h1 : i = 1
  · subst h1; simp
  by_cases h2 : i = 2
  · subst h2; simp
  by_cases h3 : i = 3
  · subst h3; simp
  · simp [h1, h2, h3]
/-- what bytes are behind a write -/
def wrT (d : Tx) (a : Nat) (w : Tx) : Tx := if w = [] then d else putT (padT d (max d.length (a + w.length))) a w
theorem write_g (hb : NmB b) (h : entT [b] l = some 3) (a : Nat) (w : Tx) (hw : a + w.length ≤ 4096) : writeE (gE l c d) [47, b] (a : Int) w = ({ nodeR 3 with size := (wrT d a w).length }, gE l c (wrT d a w)) := by
  unfold writeE
  rw [if_neg (by omega), file_g hb h, if_neg (by decide)]
  unfold wrT
  by_cases e : w = []
  · subst e
    rw [if_pos rfl]
    exact if_pos rfl
  · have e0 : ¬ w.length = 0 := fun h => e (List.length_eq_zero_iff.1 h)
    have hl : (putT (padT d (max d.length (a + w.length))) a w).length = max d.length (a + w.length) := by
      unfold putT
      simp [padT_length]
      omega
    rw [if_neg e0, if_neg e, if_neg (by omega), hl, Int.toNat_natCast]
    show (({ nodeR 3 with size := _ } : Rs), setD (gE l c d) 3 _) = _
    rw [setD_g]
    rfl
theorem read_g (hb : NmB b) (h : entT [b] l = some 3) (a k : Nat) : readE (gE l c d) [47, b] (a : Int) (k : Int) = ({ nodeR 3 with data := (d.drop a).take k }, gE l c d) := by
  unfold readE
  rw [if_neg (by omega), file_g hb h, if_neg (by decide)]
  have e : cutT (a : Int) (k : Int) d = (d.drop a).take k := by
    unfold cutT
    have e1 : d.drop (min (a : Int) (d.length : Int)).toNat = d.drop a := by
      rcases Nat.le_total a d.length with h | h
      · rw [show (min (a : Int) (d.length : Int)).toNat = a by omega]
      · rw [show (min (a : Int) (d.length : Int)).toNat = d.length by omega, List.drop_length, List.drop_eq_nil_of_le h]
    rw [e1]
    rcases Nat.le_total k (d.drop a).length with h | h
    · rw [show (min (k : Int) ((d.drop a).length : Int)).toNat = k by omega]
    · rw [show (min (k : Int) ((d.drop a).length : Int)).toNat = (d.drop a).length by omega, List.take_length, List.take_of_length_le h]
  show (({ nodeR 3 with data := cutT _ _ d } : Rs), _) = _
  rw [e]
theorem stat_g (hb : NmB b) (h : entT [b] l = some 3) : statE (gE l c d) [47, b] = (⟨0, 3, 1, c, d.length, [], []⟩, gE l c d) := by
  unfold statE
  rw [way_g hb h, if_neg (by decide), if_neg (by show ¬ 1 = 2; decide)]
  rfl
theorem stat_new (hb : NmB b) : statE newE [47, b] = (refR 2, newE) := by
  have e : (wayE newE [47, b] false).2 = 2 := by
    unfold wayE
    rw [if_neg (fun h => h hb.e), hb.p, walk_cons, if_neg (fun h => h rfl), if_neg (not_dots b), find_one]
    rfl
  unfold statE
  rw [if_pos (by rw [e]; decide), e]
end
end Go.Proofs.YtgcpgidofikcdaaDoor

/-
  The law WordSays, walked.
-/
import Derived.Test.YtdoennkmcloalaaWdI
import Derived.Test.YtdoennkmcloalaaDrw
import Derived.Test.YtdoennkmcloalaaIn
set_option linter.unusedSimpArgs false
namespace Go.Proofs.Ytdoennkmcloalaa
open Go.RowKit Ev
theorem namesOkV : Ev.namesOk Try.prog = true := by kernel_rfl
theorem mixesV : Try.prog.follows .mixedOrders = true := by kernel_rfl
theorem wdRan : Ev.yesQ Try.prog 100000 19 = true := by kernel_rfl
theorem wdAwake (w : World) : Calls Try.prog 19 #[] w fun e w' => e = .returned (.bool true) ∧ Below w.heap.size w w' := Ev.yesQ_ok namesOkV mixesV wdRan w
@[simp] theorem bin_seql {P : Program} {st : St} {t : TypeId} {x y : Operand} (a b : List Nat) : binE P st .eql t x y (.s a) (.s b) = some (.bool (decide (a = b)), st) := by
  show strOp .eql a b (ret st) = _
  simp only [strOp, fb_eq, eqL_eq]; rfl
theorem bin_yeqV (st : St) (a b : Bool) : binE Try.prog st .eql 4 (.tmp 63) (.tmp 64) (.bool a) (.bool b) = some (.bool (decide (a = b)), st) := by
  cases a <;> cases b <;> kernel_rfl
theorem Gd_conv {c : Cx} {e : Env} {d : Option Nat} {ty : TypeId} {q : Nat} {p : String} {af : Array Edge} {g : Option (Nat × Bool)} {ops : List Oper} {i : Nat} {s0 st : St} {rs : List (Nat × Nat × Nat)} {x : V} {B : List Int} {Q : V × St → Prop} (hget : e.get q = some x) (hc : c.all = false) (hx : RdRow st x 1 B.length (bv B)) (hb : ∀ b ∈ B, 0 ≤ b ∧ b < 256) (hl : ∀ m, rowAt x m → inF (forb (befOf ops i) rs c.l) m = false)
    (hQ : Q (.s (txtB B), st)) : Gd (convE Try.prog (cxOf c ops ⟨d, .convert 22 9 (.tmp q), ty, p, af, g⟩ i rs s0 e) st 22 9 x) Q := by
  rw [cxOf_conv, hget, conv_ld hc hx hb hl]
  exact ⟨_, rfl, hQ⟩
theorem byteN_bd (w : BitVec 64) (i : Nat) : 0 ≤ byteN w i ∧ byteN w i < 256 := by
  unfold byteN
  simp [IntKind.wrap, IntKind.signed, IntKind.bits]
  omega
theorem bytesN_bd (w : BitVec 64) (i : Nat) : ∀ b ∈ bytesN w i, 0 ≤ b ∧ b < 256 := fun b hb => by
  unfold bytesN at hb
  obtain ⟨j, _, rfl⟩ := List.mem_map.1 hb
  exact byteN_bd w j
theorem bytesL_bd (L : List (BitVec 64)) : ∀ b ∈ bytesL L, 0 ≤ b ∧ b < 256 := fun b hb => by
  unfold bytesL at hb
  obtain ⟨w, _, h⟩ := List.mem_flatMap.1 hb
  exact bytesN_bd w 8 b h
theorem putF_bd {B : List Int} (hb : ∀ b ∈ B, 0 ≤ b ∧ b < 256) (k : Int) (v : BitVec 64) : ∀ b ∈ putF B k v, 0 ≤ b ∧ b < 256 := fun b h => by
  unfold putF at h
  split at h
  · unfold putN at h
    rcases List.mem_append.1 h with h | h
    · rcases List.mem_append.1 h with h | h
      · exact hb b (List.mem_of_mem_take h)
      · exact bytesN_bd v 8 b h
    · exact hb b (List.mem_of_mem_drop h)
  · exact hb b h
set_option maxRecDepth 20000 in
set_option maxHeartbeats 8000000 in
theorem g_WordSays (st : St) (x y : V) (B : List Int) (L : List (BitVec 64)) (k : Int) (v : BitVec 64) (f n : Int) (hx : RdRow st x 1 B.length (bv B)) (hcx : CapOk x) (hb : ∀ b ∈ B, 0 ≤ b ∧ b < 256) (hy : RdRow st y 1 L.length (wv L)) :
    Gd (lawC Try.prog 19 ⟨false, [], 0, 0⟩ 3 [x, y, .int .i64 k, wd v, .int .i64 f, .int .i64 n] st) fun r => r.1 = .bool true := by
  rw [Gd_lawC Try.func3 rfl]
  by_cases c1 : (100 : Int) < (B.length : Int)
  · simp [evOp_call, sets, T.get_set, oracF_cons, hx.lenS, hy.lenS, c1]
  by_cases c2 : (30 : Int) < (L.length : Int)
  · simp [evOp_call, sets, T.get_set, oracF_cons, hx.lenS, hy.lenS, c1, c2]
  simp [evOp_call, sets, T.get_set, oracF_cons, hx.lenS, hy.lenS, c1, c2]
  refine Gd.mono (put_any st x B hx (by omega) k v _) ?_
  rintro ⟨r, s1⟩ ⟨z1, hr, hz1, x1⟩
  simp only at hr hz1 x1
  subst hr
  have hx1 := hx.ext x1
  have hy1 := hy.ext x1
  simp [evOp_call, sets, T.get_set, oracF_cons, tupK]
  refine Gd.mono (rput_any s1 x B hx1 (by omega) k v _) ?_
  rintro ⟨r, s2⟩ ⟨z2, hr, hz2, x2⟩
  simp only at hr hz2 x2
  subst hr
  have hz1' := hz1.ext x2
  have hx2 := hx1.ext x2
  have hy2 := hy1.ext x2
  simp [evOp_call, sets, T.get_set, oracF_cons, tupK, hy2.lenS]
  refine condK_join (fun r => ∃ (en : Env) (w : BitVec 64), r = (.n, en, s2) ∧ en.get 0 = some x ∧ en.get 1 = some y ∧ en.get 2 = some (.int .i64 k) ∧ en.get 3 = some (wd v) ∧ en.get 4 = some (.int .i64 f) ∧ en.get 5 = some (.int .i64 n) ∧ en.get 13 = some z1 ∧ en.get 14 = some (.bool (decide (inB B k))) ∧ en.get 15 = some z2 ∧ en.get 16 = some (.bool (decide (inB B k))) ∧ en.get 17 = some (wd w)) ?_ ?_
  · by_cases c3 : (0 : Int) < (L.length : Int)
    · obtain ⟨m, o, ty, sz, tr, hid, hm, hg, ho, hc⟩ := hy2.idx (st := s2) un23 io24 (i := 0) (by omega)
      obtain ⟨w, hw⟩ : ∃ w, L[0]? = some w := ⟨_, List.getElem?_eq_getElem (by omega)⟩
      have t0 : tr.get o = some (wd w) := hc 0 _ (by omega) (by simpa using wv_get hw)
      have c4 : 0 < L.length := by omega
      simp [evOp_call, T.get_set, c3, c4, hid, loadE_eq, getC_eq, hg, t0]
    · have c4 : ¬ 0 < L.length := by omega
      simp [evOp_call, T.get_set, c3, c4]
  · rintro _ ⟨en, w, rfl, g0, g1, g2, g3, g4, g5, g13, g14, g15, g16, g17⟩
    simp [evOp_call, T.get_set, oracF_cons, g0, g1, g2, g3, g4, g5, g13, g14, g15, g16, g17]
    refine ⟨by kernel_rfl, ?_⟩
    rw [cxOf_call (by kernel_rfl) (by kernel_rfl), forb_nil]
    refine Gd.mono (get_fl s2 [] x B hx2 hcx (by omega) k (fun _ _ => rfl) _) ?_
    rintro _ rfl
    simp [evOp_call, T.get_set, oracF_cons, g0, g1, g2, g3, g4, g5, g13, g14, g15, g16, g17]
    rw [cxOf_call (by kernel_rfl) (by kernel_rfl), forb_nil]
    refine Gd.mono (rget_fl s2 [] x B hx2 (by omega) k (fun _ _ => rfl) _) ?_
    rintro _ rfl
    simp [evOp_call, T.get_set, oracF_cons, g0, g1, g2, g3, g4, g5, g13, g14, g15, g16, g17]
    have hz1'' : RdRow s2 z1 1 (putF B k v).length (bv (putF B k v)) := by rw [putF_len]; exact hz1'
    have hz2'' : RdRow s2 z2 1 (putF B k v).length (bv (putF B k v)) := by rw [putF_len]; exact hz2
    refine Gd_conv (by simp [T.get_set]) rfl hz1'' (putF_bd hb k v) (fun _ _ => rfl) ?_
    simp [evOp_call, T.get_set, oracF_cons, g0, g1, g2, g3, g4, g5, g13, g14, g15, g16, g17]
    refine Gd_conv (by simp [T.get_set]) rfl hz2'' (putF_bd hb k v) (fun _ _ => rfl) ?_
    simp [evOp_call, T.get_set, oracF_cons, g0, g1, g2, g3, g4, g5, g13, g14, g15, g16, g17]
    rw [bin_yeqV]
    simp [evOp_call, T.get_set, oracF_cons, g0, g1, g2, g3, g4, g5, g13, g14, g15, g16, g17]
    rw [cxOf_call (by kernel_rfl) (by kernel_rfl), forb_nil]
    refine Gd.mono (bytes_fl s2 [] (fun _ _ => rfl) y L hy2 (by omega) (fun _ _ => rfl) _) ?_
    rintro ⟨b1, s3⟩ ⟨hb1, _, _, x3, m, l, q, ty, sz, t, hbe, hm1, hm2, hmg, hro⟩
    simp only at hb1 x3 hbe hm2 hmg
    rw [← bytesL_len L] at hb1
    simp [evOp_call, T.get_set, oracF_cons, g0, g1, g2, g3, g4, g5, g13, g14, g15, g16, g17]
    refine Gd_conv (by simp [T.get_set]) rfl hb1 (bytesL_bd L) (fun _ _ => by rw [forb_step (by kernel_rfl) rfl]; rfl) ?_
    simp [evOp_call, T.get_set, oracF_cons, g0, g1, g2, g3, g4, g5, g13, g14, g15, g16, g17]
    have hy3 := hy2.ext x3
    have hx3 := hx2.ext x3
    have hfl : ∀ j, j ≠ m → inF ([(m, m + 1)] ++ []) j = false := fun j hj => by simp only [List.append_nil]; rw [inF_cons, if_neg (by omega)]; rfl
    have hyb : ∀ j, rowAt y j → j < s2.nx := fun j h => by
      rcases h with ⟨_, _, _, e⟩ | ⟨_, _, _, e⟩
      · exact hy2.lt_of.2 _ _ _ _ e
      · exact hy2.lt_of.1 _ _ _ _ e
    have hyk : ∀ j, blkOf y = some j → j < s2.nx := fun j h => by
      rcases hy2.2 with ⟨e | e, _⟩ | ⟨m', o, q', ty', sz', t', e, h3, _⟩ | ⟨m', o, ty', sz', t', e, h3, _⟩ <;> subst e
      · cases h
      · cases h
      · injection h with h; omega
      · injection h with h; omega
    rw [cxOf_callL [(m, m + 1)] (by kernel_rfl) (by kernel_rfl) (looseW_at 69 (.sl m 0 l q) (by simp [T.get_set, hbe]) (by kernel_rfl)) (fun o ho => by
        simp at ho
        subst ho
        simp only [clashes_tmp, T.get_set]
        simp
        cases hk : blkOf y with
        | none => rfl
        | some j =>
          have hj := hyk j hk
          have := hfl j (by omega)
          simpa using this) (fun p hp => by simp at hp; subst hp; rw [isRo_cs hmg]; exact decide_eq_false hro), forb_step (by kernel_rfl) rfl]
    refine Gd.mono (rbytes_fl s3 _ (fun j hj => hfl j (by omega)) y L hy3 (by omega) (fun j h => hfl j (by have := hyb j h; omega)) _) ?_
    rintro ⟨b2, s4⟩ ⟨hb2, x4⟩
    simp only at hb2 x4
    have hb2 := hb2.rd
    have hx4 := hx3.ext x4
    simp [evOp_call, T.get_set, oracF_cons, g0, g1, g2, g3, g4, g5, g13, g14, g15, g16, g17]
    refine Gd_conv (by simp [T.get_set]) rfl hb2 (bytesL_bd L) (fun _ _ => by rw [forb_step (by kernel_rfl) (forb_step (by kernel_rfl) rfl)]; rfl) ?_
    simp [evOp_call, T.get_set, oracF_cons, g0, g1, g2, g3, g4, g5, g13, g14, g15, g16, g17]
    rw [cxOf_call (by kernel_rfl) (by kernel_rfl), forb_step (by kernel_rfl) (forb_step (by kernel_rfl) rfl)]
    refine Gd.mono (words_fl s4 [] (fun _ _ => rfl) x B hx4 hcx (by omega) (fun _ _ => rfl) _) ?_
    rintro ⟨d1, s5⟩ ⟨hd1, x5⟩
    simp only at hd1 x5
    have hx5 := hx4.ext x5
    simp [evOp_call, T.get_set, oracF_cons, g0, g1, g2, g3, g4, g5, g13, g14, g15, g16, g17]
    rw [cxOf_call (by kernel_rfl) (by kernel_rfl), forb_step (by kernel_rfl) (forb_step (by kernel_rfl) (forb_step (by kernel_rfl) rfl))]
    refine Gd.mono (rwords_fl s5 [] (fun _ _ => rfl) x B hx5 (by omega) (fun _ _ => rfl) _) ?_
    rintro ⟨d2, s6⟩ ⟨hd2, x6⟩
    simp only at hd2 x6
    have hd1' : RdRow s6 d1 1 (wordsF B (B.length / 8)).length (wv (wordsF B (B.length / 8))) := by rw [wordsF_len]; exact hd1.ext x6
    simp [evOp_call, T.get_set, oracF_cons, g0, g1, g2, g3, g4, g5, g13, g14, g15, g16, g17]
    rw [cxOf_call (by kernel_rfl) (by kernel_rfl), forb_step (by kernel_rfl) (forb_step (by kernel_rfl) (forb_step (by kernel_rfl) (forb_step (by kernel_rfl) rfl)))]
    refine Gd.mono (same_fl s6 [] d1 d2 _ _ hd1' hd2.rd (by rw [wordsF_len]; omega) (fun _ _ => rfl) (fun _ _ => rfl) _) ?_
    rintro _ rfl
    simp [evOp_call, T.get_set, oracF_cons, g0, g1, g2, g3, g4, g5, g13, g14, g15, g16, g17]
    refine Gd.mono (field_c _ s6 v f n) ?_
    rintro _ rfl
    simp [evOp_call, T.get_set, oracF_cons, g0, g1, g2, g3, g4, g5, g13, g14, g15, g16, g17]
    refine Gd.mono (rfield_c _ s6 v f n) ?_
    rintro _ rfl
    simp [evOp_call, T.get_set, oracF_cons, g0, g1, g2, g3, g4, g5, g13, g14, g15, g16, g17]
    refine Gd.mono (with_c _ s6 v w f n) ?_
    rintro _ rfl
    simp [evOp_call, T.get_set, oracF_cons, g0, g1, g2, g3, g4, g5, g13, g14, g15, g16, g17]
    refine Gd.mono (rwith_c _ s6 v w f n) ?_
    rintro _ rfl
    simp [evOp_call, T.get_set, oracF_cons, g0, g1, g2, g3, g4, g5, g13, g14, g15, g16, g17]
    refine Gd.mono (turn_c _ s6 v n) ?_
    rintro _ rfl
    simp [evOp_call, T.get_set, oracF_cons, g0, g1, g2, g3, g4, g5, g13, g14, g15, g16, g17]
    refine Gd.mono (rturn_c _ s6 v n) ?_
    rintro _ rfl
    simp [evOp_call, T.get_set, oracF_cons, g0, g1, g2, g3, g4, g5, g13, g14, g15, g16, g17]
/-- bytes that came in -/
theorem bytes_in {st : St} {x : Nat → V} {B : List Int} (h : (rowC (intC .u8)).at' st x B) : RdRow st (x 0) 1 B.length (bv B) ∧ (∀ b ∈ B, 0 ≤ b ∧ b < 256) ∧ CapOk (x 0) := by
  obtain ⟨h1, h2⟩ := konst_row h
  refine ⟨h1, fun b hb => ?_, rowC_cap h⟩
  have := h2 b hb
  simp [Lit.wf, IntKind.min, IntKind.max, IntKind.signed, IntKind.bits] at this
  omega
theorem fits_by : Fits Try.prog (rowC (intC .u8)) 22 := fits_row Try.underlying22 (by kernel_rfl) (by decide) (fits_int Try.underlying5)
theorem fits_ws : Fits Try.prog (rowC wC) 23 := fits_row Try.underlying23 (by kernel_rfl) (by decide) (fits_w Try.underlying24)
theorem w0_WordSays (B : List Int) (L : List (BitVec 64)) (k : Int) (v : BitVec 64) (f n : Int) (W : World) (x : Value) (hx : (rowC (intC .u8)).rel W (fun j => [x][j]?.getD default) B) (y : Value) (hy : (rowC wC).rel W (fun j => [y][j]?.getD default) L) (_ : -9223372036854775808 ≤ k ∧ k ≤ 9223372036854775807) (_ : -9223372036854775808 ≤ f ∧ f ≤ 9223372036854775807) (_ : -9223372036854775808 ≤ n ∧ n ≤ 9223372036854775807) :
    Calls Try.prog 3 #[x, y, .int .i64 k, .int .u64 (v.toNat : Int), .int .i64 f, .int .i64 n] W fun e W' => e = .returned (.bool true) ∧ Below W.heap.size W W' := by
  obtain ⟨s1, r1, v1, b1, l1, q1, e1, a1⟩ := (rowC (intC .u8)).enter (Begin.zero W) hx
  obtain ⟨s2, r2, v2, b2, l2, q2, e2, a2⟩ := (rowC wC).enter b1 hy
  obtain ⟨k1, k2, k3⟩ := bytes_in ((rowC (intC .u8)).ext a1 e2)
  exact law_calls (lawC_sound namesOkV mixesV Try.func19 rfl wdAwake) b2
    (.cons (Rel.mono l2 _ _ (q1 0 (by decide)).2) (.cons (q2 0 (by decide)).2 (.cons (rel_i64 _ _) (.cons (by simp [wd, Rel, Value.oneCell']) (.cons (rel_i64 _ _) (.cons (rel_i64 _ _) .nil))))))
    (g_WordSays s2 (v1 0) (v2 0) B L k v f n k1 k3 k2 (rowC_words a2))
theorem w_WordSays (B : List Int) (L : List (BitVec 64)) (k a f n : Int) (W : World) (x : Value) (hx : (rowC (intC .u8)).rel W (fun j => [x][j]?.getD default) B) (y : Value) (hy : (rowC wC).rel W (fun j => [y][j]?.getD default) L) (hk : -9223372036854775808 ≤ k ∧ k ≤ 9223372036854775807) (ha : (Lit.int .u64 a).wf = true) (hf : -9223372036854775808 ≤ f ∧ f ≤ 9223372036854775807) (hn : -9223372036854775808 ≤ n ∧ n ≤ 9223372036854775807) :
    Calls Try.prog 3 #[x, y, .int .i64 k, .int .u64 a, .int .i64 f, .int .i64 n] W fun e W' => e = .returned (.bool true) ∧ Below W.heap.size W W' := by
  obtain ⟨q, rfl, hq⟩ := u64_nat ha
  have e : ((BitVec.ofInt 64 (q : Int)).toNat : Int) = (q : Int) := by
    rw [BitVec.toNat_ofInt]
    omega
  have := w0_WordSays B L k (BitVec.ofInt 64 q) f n W x hx y hy hk hf hn
  rw [e] at this
  exact this
end Go.Proofs.Ytdoennkmcloalaa

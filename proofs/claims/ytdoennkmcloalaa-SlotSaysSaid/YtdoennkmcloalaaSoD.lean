/-
  Contracts of package slot: a slot read.
-/
import Derived.Test.YtdoennkmcloalaaSoC
set_option linter.unusedSimpArgs false
set_option linter.unusedVariables false
namespace Go.Proofs.Ytdoennkmcloalaa
open Go.RowKit Ev
theorem sinF_own {fl : List (Nat × Nat)} {m : Nat} (h : inF fl m = false) (nx : Nat) : inF ((0, m) :: (m + 1, nx) :: fl) m = false := by
  rw [inF_cons, if_neg (by omega), inF_cons, if_neg (by omega)]
  exact h
theorem scxOf_conv {c : Cx} {e : Env} (d : Option Nat) (t u ty : TypeId) (q : Nat) (p : String) (af : Array Edge) (g : Option (Nat × Bool)) (ops : List Oper) (i : Nat) (s0 : St) (rs : List (Nat × Nat × Nat)) : cxOf c ops ⟨d, .convert t u (.tmp q), ty, p, af, g⟩ i rs s0 e = ldC (e.get q) c (forb (befOf ops i) rs c.l) s0.nx := by
  have h : cxOf c ops ⟨d, .convert t u (.tmp q), ty, p, af, g⟩ i rs s0 e = (match e.get q with
      | some v => (match blkOf v with
        | some m => ⟨c.all, (0, m) :: (m + 1, s0.nx) :: forb (befOf ops i) rs c.l, s0.nx, c.nt⟩
        | none => ⟨true, [], s0.nx, c.nt⟩)
      | none => ⟨true, [], s0.nx, c.nt⟩) := rfl
  rw [h]
  cases e.get q <;> rfl
def stxtB (B : List Int) : List Nat := B.map Int.toNat
theorem sbytesOf {β : Type} : ∀ (B : List Int) (k : List Nat → Option β), (∀ b ∈ B, 0 ≤ b ∧ b < 256) → bytesOfAs (W.bv B) k = k (stxtB B)
  | [], k, _ => rfl
  | b :: B, k, h => by
    obtain ⟨n, rfl⟩ : ∃ n : Nat, b = (n : Int) := ⟨b.toNat, by have := h b (by simp); omega⟩
    have hn : Nat.blt n 256 = true := by
      have := h (n : Int) (by simp)
      rw [Nat.blt_eq]; omega
    have e : bytesOfAs (W.bv ((n : Int) :: B)) k = (match Nat.blt n 256 with | true => bytesOfAs (W.bv B) fun r => k (n :: r) | false => none) := rfl
    rw [e, hn]
    exact sbytesOf B _ fun b hb => h b (by simp [hb])
theorem sfirst_c {β : Type} {c : Cx} {st : St} {z n : Nat} {x : V} {l : List V} (h : RdRow st x z n l) (hok : ∀ m, rowIn x m → c.ok m = true) (k : List V → Option β) : firsts c st z n x k = k l := by
  obtain ⟨h1, h2⟩ := h
  rcases h2 with ⟨hx, rfl⟩ | ⟨m, o, q, ty, sz, t, rfl, _, h4, _, h6⟩ | ⟨m, o, ty, sz, t, rfl, _, h4, _, h6⟩
  · have hl : l = [] := List.eq_nil_of_length_eq_zero (by rw [h1]; simp)
    subst hl
    rcases hx with rfl | rfl <;> rfl
  · rw [firsts_sl, if_pos (Nat.le_refl _), getC_eq, h4]
    simp only [hok m (.inl ⟨_, _, _, rfl⟩), cond_true, Option.bind_some, csK_cs]
    rw [← h1]
    exact getsB_list h6 k
  · have e1 : Ev.firsts c st z n (.sg m o n z) k = (match Nat.ble n n with | true => getC c st m fun t => getsB t (n * z) o k | false => none) := rfl
    have e2 : Nat.ble n n = true := by rw [Nat.ble_eq]; exact Nat.le_refl _
    rw [e1, e2]
    simp only
    rw [getC_eq, h4]
    simp only [hok m (.inr ⟨_, _, _, rfl⟩), cond_true, Option.bind_some, csK_cs]
    rw [← h1]
    exact getsB_list h6 k
theorem sconv_text {c : Cx} {st : St} {x : V} {B : List Int} (hx : RdRow st x 1 B.length (W.bv B)) (hb : ∀ b ∈ B, 0 ≤ b ∧ b < 256) (hok : ∀ m, rowIn x m → c.ok m = true) : convE Try.prog c st 22 9 x = some (.s (stxtB B), st) := by
  have h2 := hx.2
  have e : convE Try.prog c st 22 9 x = lenA x fun len => firsts c st 1 len x fun l => bytesOfAs l fun l => some (.s l, st) := by
    unfold convE
    rw [un22, un9]
    rcases h2 with ⟨rfl | rfl, _⟩ | ⟨m, o, q, ty, sz, t, rfl, _⟩ | ⟨m, o, ty, sz, t, rfl, _⟩ <;> (simp only [un5]; rfl)
  rw [e, hx.len, sfirst_c hx hok, sbytesOf B _ hb]
theorem sconv_ld {c : Cx} {l : List (Nat × Nat)} {nx : Nat} {st : St} {x : V} {B : List Int} (hc : c.all = false) (hx : RdRow st x 1 B.length (W.bv B)) (hb : ∀ b ∈ B, 0 ≤ b ∧ b < 256) (hl : ∀ m, rowIn x m → inF l m = false) : convE Try.prog (ldC (some x) c l nx) st 22 9 x = some (.s (stxtB B), st) := by
  refine sconv_text hx hb fun m hm => ?_
  have hbk : blkOf x = some m := by rcases hm with ⟨_, _, _, rfl⟩ | ⟨_, _, _, rfl⟩ <;> rfl
  have e : ldC (some x) c l nx = ⟨c.all, (0, m) :: (m + 1, nx) :: l, nx, c.nt⟩ := by
    show (match blkOf x with | some m => (⟨c.all, (0, m) :: (m + 1, nx) :: l, nx, c.nt⟩ : Cx) | none => ⟨true, [], nx, c.nt⟩) = _
    rw [hbk]
  rw [e, hc]
  show (!inF _ m) = true
  rw [sinF_own (hl m hm)]
  rfl
theorem Gd_sconv {c : Cx} {e : Env} {d : Option Nat} {ty : TypeId} {q : Nat} {p : String} {af : Array Edge} {g : Option (Nat × Bool)} {ops : List Oper} {i : Nat} {s0 st : St} {rs : List (Nat × Nat × Nat)} {x : V} {B : List Int} {Q : V × St → Prop} (hget : e.get q = some x) (hc : c.all = false) (hx : RdRow st x 1 B.length (W.bv B)) (hb : ∀ b ∈ B, 0 ≤ b ∧ b < 256) (hl : ∀ m, rowIn x m → inF (forb (befOf ops i) rs c.l) m = false)
    (hQ : Q (.s (stxtB B), st)) : Gd (convE Try.prog (cxOf c ops ⟨d, .convert 22 9 (.tmp q), ty, p, af, g⟩ i rs s0 e) st 22 9 x) Q := by
  rw [scxOf_conv, hget, sconv_ld hc hx hb hl]
  exact ⟨_, rfl, hQ⟩
def soOf (L : List (BitVec 64)) : So := (soGet L).getD ⟨0, []⟩
theorem soByte_int (L : List (BitVec 64)) (i : Nat) : W.byteN (wat L (2 + i / 8)) (i % 8) = (soByte L i : Int) ∧ soByte L i < 256 := by
  unfold soByte
  rw [byteN_nat]
  have := Nat.mod_lt ((wat L (2 + i / 8)).toNat / 256 ^ (i % 8)) (show 0 < 256 by decide)
  exact ⟨by rw [Int.toNat_natCast], by rw [Int.toNat_natCast]; exact this⟩
theorem soOf_lt (L : List (BitVec 64)) : ∀ b ∈ (soOf L).l, b < 256 := fun b hb => by
  unfold soOf soGet at hb
  split at hb
  · have hb' : b ∈ (List.range (wat L 1).toNat).map (soByte L) := hb
    obtain ⟨i, _, rfl⟩ := List.mem_map.1 hb'
    exact (soByte_int L i).2
  · cases hb
/-- the bytes of a name, the first i of them read -/
def nmB (L : List (BitVec 64)) (k i : Nat) : List Int := (List.range k).map fun j => if j < i then (soByte L j : Int) else 0
theorem nmB_len (L : List (BitVec 64)) (k i : Nat) : (nmB L k i).length = k := by simp [nmB]
theorem nmB_get {L : List (BitVec 64)} {k i j : Nat} (h : j < k) : (nmB L k i)[j]? = some (if j < i then (soByte L j : Int) else 0) := by
  unfold nmB
  rw [List.getElem?_map, List.getElem?_range h]; rfl
theorem nmB_bd (L : List (BitVec 64)) (k i : Nat) : ∀ b ∈ nmB L k i, 0 ≤ b ∧ b < 256 := fun b hb => by
  unfold nmB at hb
  obtain ⟨j, _, rfl⟩ := List.mem_map.1 hb
  have := (soByte_int L j).2
  split <;> omega
theorem nmB_txt (L : List (BitVec 64)) (k : Nat) : stxtB (nmB L k k) = (List.range k).map (soByte L) := by
  unfold stxtB nmB
  rw [List.map_map]
  apply List.map_congr_left
  intro j hj
  rw [List.mem_range] at hj
  simp [hj]
def nmAt (q k : Nat) (L : List (BitVec 64)) (i : Nat) (s : St) : Prop := ∃ t, s.h.get q = some (.cs 5 k t) ∧ ∀ j, j < k → t.get j = some (.int .u8 (if j < i then (soByte L j : Int) else 0))
theorem nmAt.rd {q k i : Nat} {L : List (BitVec 64)} {s : St} (h : nmAt q k L i s) (hq : q < s.nx) : RdRow s (.sl q 0 k k) 1 (nmB L k i).length (W.bv (nmB L k i)) := by
  obtain ⟨t, h1, h2⟩ := h
  rw [nmB_len]
  refine ⟨by simp [nmB_len], .inr (.inl ⟨q, 0, k, 5, k, t, rfl, hq, h1, by omega, fun j v hj => ?_⟩)⟩
  have hlt : j < k := by
    have := (List.getElem?_eq_some_iff.1 hj).1
    simpa [nmB_len] using this
  rw [Nat.zero_add, h2 j hlt]
  have := W.bv_get (nmB_get (L := L) (i := i) hlt)
  rw [this] at hj
  exact hj
def sgI (x : V) (q k : Nat) (L : List (BitVec 64)) (st : St) (e : Env) (s : St) : Prop := ∃ i : Nat, i ≤ k ∧ e.get 0 = some x ∧ e.get 2 = some (.p st.nx 0) ∧ e.get 4 = some (.sl q 0 k k) ∧ e.get 22 = some (.int .i64 (k : Int)) ∧ e.get 23 = some (.int .i64 (i : Int)) ∧ (∃ t2, s.h.get st.nx = some (.cs 63 2 t2)) ∧ nmAt q k L i s ∧ Ext st.nx st s ∧ q < s.nx
set_option maxRecDepth 20000 in
set_option maxHeartbeats 4000000 in
theorem sget_any (st : St) (x : V) (L : List (BitVec 64)) (hx : RdRow st x 1 L.length (wv L)) (nt : Nat) :
    Gd (callL Try.prog ⟨false, [], 0, nt⟩ 51 [x] st) fun r => r.1 = .t [soV (soOf L), .bool (soGet L).isSome] ∧ Ext st.nx st r.2 := by
  rw [Gd_callL Try.func51 rfl]
  have none_ : soGet L = none → V.g [.int .i64 0, .s []] = soV (soOf L) ∧ soGet L = none := fun h => ⟨by unfold soOf; rw [h]; rfl, h⟩
  by_cases h8 : L.length = 8
  case neg =>
    have h8' : ¬ (L.length : Int) = 8 := by omega
    have hno := soGet_len h8
    simp [evOp_call, sets, T.get_set, newC_is, hx.lenS, h8', storeK_g, putB_eq, roT, loadE_eq, getC_eq, getsB_succ, getsB_zero]
    exact ⟨none_ hno, bx_ext st _⟩
  have h8' : (L.length : Int) = 8 := by omega
  obtain ⟨m0, o0, ty0, sz0, t0, i0, b0, k0, l0, c0⟩ := hx.idx (st := st) un23 io24 (i := 0) (by omega)
  have d0 : t0.get o0 = some (wd (wat L 0)) := c0 0 _ (by omega) (by simpa using wv_get (wat_get (L := L) (i := 0) (by omega)))
  obtain ⟨m1, o1, ty1, sz1, t1, i1, b1, k1, l1, c1⟩ := hx.idx (st := st) un23 io24 (i := 1) (by omega)
  have d1 : t1.get o1 = some (wd (wat L 1)) := c1 0 _ (by omega) (by simpa using wv_get (wat_get (L := L) (i := 1) (by omega)))
  have n0 : ¬ st.nx = m0 := by omega
  have n1 : ¬ st.nx = m1 := by omega
  by_cases hbig : 40#64 < wat L 1
  · simp [evOp_call, sets, T.get_set, newC_is, hx.lenS, h8', i1, loadE_eq, getC_eq, getsB_succ, getsB_zero, k1, d1, n1, hbig, storeK_g, putB_eq, roT]
    exact ⟨none_ (soGet_long hbig), bx_ext st _⟩
  obtain ⟨k, hk⟩ : ∃ k, k = (wat L 1).toNat := ⟨_, rfl⟩
  have hk40 : k ≤ 40 := by
    have h2 : ¬ 40 < (wat L 1).toNat := hbig
    omega
  have hwk : wd (wat L 1) = .int .u64 (k : Int) := by rw [hk]; rfl
  simp [evOp_call, sets, T.get_set, newC_is, hx.lenS, h8', i1, loadE_eq, getC_eq, k1, d1, n1, hbig]
  refine Gd_make (n := k) (q := k) (i := .u64) (i' := .u64) (zs := [.int .u8 0]) (fun k => el22 k) io5 (fun k => ze5 k) (by simp [T.get_set, hwk]) (by simp [T.get_set, hwk]) (Nat.le_refl _) (by omega) ?_
  have hrl : (rep [V.int .u8 0] k).length = k := by rw [rep_length]; simp
  have hrg : ∀ j, j < k → (rep [V.int .u8 0] k)[j]? = some (.int .u8 0) := by
    have : ∀ n j, j < n → (rep [V.int .u8 0] n)[j]? = some (.int .u8 0) := fun n => by
      induction n with
      | zero => intro j hj; omega
      | succ n ih =>
        intro j hj
        show ([V.int .u8 0] ++ rep [V.int .u8 0] n)[j]? = _
        cases j with
        | zero => rfl
        | succ j => exact ih j (by omega)
    exact this k
  rw [hrl]
  have hlS : ∀ s : St, lenS s (.sl (st.nx + 1) 0 k k) = some (.int .i64 (k : Int), s) := fun s => rfl
  simp [evOp_call, T.get_set, hlS]
  have q1 : ¬ st.nx + 1 = st.nx := by omega
  refine Gd_loop (sgI x (st.nx + 1) k L st) (fun en _ => muAt 23 k en) ?_ ?_
  · refine ⟨0, Nat.zero_le _, by simp [T.get_set], by simp [T.get_set], by simp [T.get_set], by simp [T.get_set], by simp [T.get_set], ⟨_, (T.get_set_ne _ _ q1).trans (T.get_set_same _ _ _)⟩, ⟨_, T.get_set_same _ _ _, fun j hj => ?_⟩, (bx_ext st _).new (Nat.le_succ _) _, Nat.lt_succ_self _⟩
    rw [get_sets, if_pos ⟨Nat.zero_le _, by omega⟩]
    simpa using hrg j hj
  · rintro e s ⟨i, hi, g0, g2, g4, g22, g23, ⟨tz, kz⟩, hnm, hs, hq⟩
    have hxs := hx.ext hs
    by_cases hlt : i < k
    · have hlt' : (i : Int) < k := by omega
      have hwi := wrap_nat (n := i) (by omega)
      obtain ⟨tn, kn, hn⟩ := hnm
      obtain ⟨a, ha⟩ : ∃ a, a = i / 8 := ⟨_, rfl⟩
      obtain ⟨r, hr⟩ : ∃ r, r = i % 8 := ⟨_, rfl⟩
      obtain ⟨j, hj⟩ : ∃ j, j = 2 + a := ⟨_, rfl⟩
      obtain ⟨m, hm⟩ : ∃ m, m = 8 * r := ⟨_, rfl⟩
      have h1 : (i : Int).tdiv 8 = (a : Int) := by rw [Int.tdiv_eq_ediv_of_nonneg (by omega)]; omega
      have h2 : IntKind.i64.wrap (a : Int) = (a : Int) := wrap_in (by omega) (by omega)
      have h3 : IntKind.i64.wrap (2 + (a : Int)) = (j : Int) := by rw [show 2 + (a : Int) = (j : Int) by omega]; exact wrap_in (by omega) (by omega)
      have h4 : (i : Int).tmod 8 = (r : Int) := by rw [Int.tmod_eq_emod_of_nonneg (by omega)]; omega
      have h5 : IntKind.i64.wrap (r : Int) = (r : Int) := wrap_in (by omega) (by omega)
      have h6 : IntKind.i64.wrap (8 * (r : Int)) = (m : Int) := by rw [show 8 * (r : Int) = (m : Int) by omega]; exact wrap_in (by omega) (by omega)
      obtain ⟨mx, ox, tyx, szx, tx, ix, bx, kx, lx, cx⟩ := hxs.idx (st := s) un23 io24 (i := j) (by omega)
      have dx : tx.get ox = some (wd (wat L j)) := cx 0 _ (by omega) (by simpa using wv_get (wat_get (L := L) (i := j) (by omega)))
      have hsb := soByte_int L i
      have hcv : ∀ c : Cx, convE Try.prog c s 24 5 (wd (wat L j >>> m)) = some (.int .u8 (soByte L i : Int), s) := fun c => by
        rw [← hsb.1, ← ha, ← hr, ← hj, hm]; exact W.conv_byte c s _ _
      have hlt1 : i + 1 ≤ k := hlt
      simp [evOp_call, T.get_set, g0, g2, g4, g22, g23, hlt', h1, h2, h3, h4, h5, h6, ix, loadE_eq, getC_eq, kx, dx, hcv, hlt, hlt1, putB_eq, kn, roT, sets, hwi]
      refine ⟨⟨i + 1, hlt, by simp [T.get_set, g0], by simp [T.get_set, g2], by simp [T.get_set, g4], by simp [T.get_set, g22], by simp [T.get_set], ⟨tz, (T.get_set_ne _ _ q1).trans kz⟩, ⟨_, T.get_set_same _ _ _, fun j' hj' => ?_⟩, hs.set (by omega) hq _, hq⟩, muAt_lt g23 (by simp [T.get_set]) hlt⟩
      rw [T.get_set]
      by_cases e : i = j'
      · subst e; rw [if_pos rfl, if_pos (by omega)]
      · rw [if_neg e, hn j' hj']
        by_cases h : j' < i
        · rw [if_pos h, if_pos (by omega)]
        · rw [if_neg h, if_neg (by omega)]
    · obtain rfl : i = k := by omega
      have hrd := hnm.rd hq
      obtain ⟨ma, oa, tya, sza, ta, ia, ba, ka, la, ca⟩ := hxs.idx (st := s) un23 io24 (i := 0) (by omega)
      have da : ta.get oa = some (wd (wat L 0)) := ca 0 _ (by omega) (by simpa using wv_get (wat_get (L := L) (i := 0) (by omega)))
      have hso : soRead L = ⟨(wat L 0).toInt, stxtB (nmB L i i)⟩ := by
        unfold soRead
        rw [nmB_txt, ← hk]
      have hlt256 : ∀ b ∈ (soRead L).l, b < 256 := fun b hb => by
        rw [hso] at hb
        have hb' : b ∈ stxtB (nmB L i i) := hb
        rw [nmB_txt] at hb'
        obtain ⟨j, _, rfl⟩ := List.mem_map.1 hb'
        exact (soByte_int L j).2
      have hbxs : ∀ v, Ext st.nx st ⟨s.nx + 1, s.h.set s.nx v⟩ := fun v => hs.new hs.le v
      have nz : ¬ s.nx = st.nx := by omega
      simp [evOp_call, T.get_set, g0, g2, g4, g22, g23]
      refine ⟨by kernel_rfl, ?_⟩
      simp [evOp_call, T.get_set, g0, g2, g4, ia, loadE_eq, getC_eq, ka, da]
      refine Gd_sconv (by simp [T.get_set]) rfl hrd (nmB_bd L i i) (fun _ _ => rfl) ?_
      simp [evOp_call, T.get_set, g0, g2, g4, newC_is]
      rw [cxOf_store]
      rotate_left
      · kernel_rfl
      rw [forb_oneR (by kernel_rfl)]
      simp [evOp_call, T.get_set, g0, g2, g4, newC_is, storeK_g, putB_eq, roT, sets, loadE_eq, getC_eq, getsB_succ, getsB_zero, kz, nz]
      have hsv : V.g [.int .i64 (wat L 0).toInt, .s (stxtB (nmB L i i))] = soV (soRead L) := by rw [hso]; rfl
      rw [hsv]
      refine Gd.mono (sput_any _ (soRead L) hlt256 _) ?_
      rintro ⟨y, s1⟩ ⟨hy, _, x1⟩
      simp only at hy x1
      have l1 := x1.le
      have hs1 : Ext st.nx st s1 := (hbxs _).trans (x1.mono (Nat.le_trans hs.le (Nat.le_succ _)))
      have kz1 : s1.h.get st.nx = _ := (x1.keep st.nx (by show st.nx < s.nx + 1; omega)).trans ((T.get_set_ne _ _ nz).trans kz)
      have kq1 := (x1.keep s.nx (Nat.lt_succ_self _)).trans (T.get_set_same _ _ _)
      have l1' : s.nx + 1 ≤ s1.nx := l1
      have hfin : ∀ v, Ext st.nx st ⟨s1.nx, s1.h.set st.nx v⟩ := fun v => hs1.set (m := st.nx) (Nat.le_refl _) (by omega) v
      simp [evOp_call, T.get_set, g0, g2]
      refine Gd.mono (eq_any s1 y x (soPut (soRead L)) L hy ((hxs.ext ((Ext.refl s.nx s).new (Nat.le_refl _) _)).ext x1) (by rw [soPut_len]; split <;> omega) _) ?_
      rintro _ rfl
      by_cases heq : soPut (soRead L) = L
      · have hyes : soGet L = some (soRead L) := by unfold soGet; rw [if_pos ⟨h8, heq⟩]
        simp [evOp_call, T.get_set, g0, g2, heq, loadE_eq, getC_eq, getsB_succ, getsB_zero, kz1, kq1, storeK_g, putB_eq, roT, sets]
        rw [hsv]
        exact ⟨⟨by unfold soOf; rw [hyes]; rfl, by rw [hyes]; rfl⟩, hfin _⟩
      · have hno : soGet L = none := by unfold soGet; rw [if_neg fun h => heq h.2]
        simp [evOp_call, T.get_set, g0, g2, heq, loadE_eq, getC_eq, getsB_succ, getsB_zero, kz1, storeK_g, putB_eq, roT, sets]
        exact ⟨none_ hno, hfin _⟩
end Go.Proofs.Ytdoennkmcloalaa

/-
  Laws of a file system: what comes in, what stands between two calls.
-/
import Derived.Test.YtgcpgidofikcdaaGreatDoorTmNC
import Derived.Test.YtgcpgidofikcdaaGreatDoorIn
set_option maxRecDepth 20000
set_option linter.unusedSimpArgs false
set_option linter.unusedVariables false
namespace Go.Proofs.YtgcpgidofikcdaaGreatDoor
open Go.RowKit Ev
theorem ranTreeAwake:yesJ Tryz.prog (fun F => F) 100000 9 [] = true:=by kernel_rfl
theorem treeAwake (w:World):Calls Tryz.prog 9 #[] w fun e w' => e = .returned (.bool true) ∧ Below w.heap.size w w':=yesJ_ok namesOkT mixesT XOk.id .nil ranTreeAwake w
theorem treeLaw:CallSound Tryz.prog (lawX Tryz.prog tmF 9):=lawX_sound namesOkT mixesT tmF_both Tryz.func9 rfl treeAwake
abbrev yC:Codec Nat:=konst (fun b => .int .u8 (b:Int)) (fun b => .int .u8 (b:Int)) (fun b => b < 256) fun a _ => ⟨rfl,fun ρ => by simp [Rel,Value.oneCell']⟩
theorem u8_nat {r:Int} (h:(Lit.int .u8 r).wf = true):∃ n:Nat,r = n ∧ n < 256:=by
 have h':IntKind.u8.min ≤ r ∧ r ≤ IntKind.u8.max:=by simpa [Lit.wf] using h
 have e1:IntKind.u8.min = 0:=by decide
 have e2:IntKind.u8.max = 255:=by decide
 rw [e1,e2] at h'
 exact ⟨r.toNat,by omega,by omega⟩
theorem fits_y {P:Program} {t:TypeId} (h:P.underlying t = some (.int .u8)):Fits P yC t:=fun hx => by
 obtain ⟨n,rfl,_,hw⟩:=DataW.trod_int h hx
 obtain ⟨q,rfl,hq⟩:=u8_nat hw
 exact ⟨rfl,q,rfl,hq⟩
theorem rowC_y {st:St} {x:Nat → V} {l:Tx} (h:(rowC yC).at' st x l):RdRow st (x 0) 1 l.length (yv l) ∧ okS l:=konst_row h
abbrev LOp:=Int × Tx × Tx × Int × Int × Tx
abbrev opC:Codec LOp:=pairC iC (pairC sC (pairC sC (pairC iC (pairC iC (rowC yC)))))
def toOp (o:LOp):OpT:=⟨o.1,o.2.1,o.2.2.1,o.2.2.2.1,o.2.2.2.2.1,o.2.2.2.2.2⟩
structure OpIn (st:St) (o:LOp) (y:V):Prop where
 a:okS o.2.1
 b:okS o.2.2.1
 at_:-9223372036854775808 ≤ o.2.2.2.1 ∧ o.2.2.2.1 ≤ 9223372036854775807
 y:RdRow st y 1 o.2.2.2.2.2.length (yv o.2.2.2.2.2)
 d:okS o.2.2.2.2.2
theorem opC_in {st:St} {x:Nat → V} {o:LOp} (h:opC.at' st x o):x 0 = .int .i64 o.1 ∧ x 1 = .s o.2.1 ∧ x 2 = .s o.2.2.1 ∧ x 3 = .int .i64 o.2.2.2.1 ∧ x 4 = .int .i64 o.2.2.2.2.1 ∧ OpIn st o (x 5):=by
 obtain ⟨h0,h1,h2,h3,h4,h5⟩:=h
 have hy:=rowC_y h5
 exact ⟨h0.1,h1.1,h2.1,h3.1,h4.1,⟨h1.2.1,h2.2.1,h3.2,hy.1,hy.2⟩⟩
theorem fits_ops:Fits Tryz.prog (rowC opC) 41:=fits_row Tryz.underlying41 (by kernel_rfl) (by decide)
 (fits_struct Tryz.underlying33 (by kernel_rfl) (FitsF.cons rfl (by kernel_rfl) (fits_i Tryz.underlying3) (FitsF.cons rfl (by kernel_rfl) (fits_s Tryz.underlying9) (FitsF.cons rfl (by kernel_rfl) (fits_s Tryz.underlying9) (FitsF.cons rfl (by kernel_rfl) (fits_i Tryz.underlying3) (FitsF.cons rfl (by kernel_rfl) (fits_i Tryz.underlying3) (FitsF.one rfl (by kernel_rfl)
  (fits_row Tryz.underlying27 (by kernel_rfl) (by decide) (fits_y Tryz.underlying5)))))))))
theorem OpIn.ext {st s:St} {o:LOp} {y:V} (h:OpIn st o y) (k:Ext st.nx st s):OpIn s o y:=⟨h.a,h.b,h.at_,h.y.ext k,h.d⟩
theorem RdRow.blkLt {s:St} {y:V} {z k:Nat} {l:List V} (h:RdRow s y z k l) {b:Nat} (hb:BlkOf y b):b < s.nx:=by
 rcases hb with ⟨o,k,r,e⟩ | ⟨o,k,r,e⟩
 ·exact h.lt_of.2 _ _ _ _ e
 ·exact h.lt_of.1 _ _ _ _ e
def heavyB (o:OpT):Bool:=decide (500 < o.a.length) || decide (500 < o.b.length) || decide (5000 < o.data.length)
theorem heavy_any (st:St) (o:OpT) (y:V) (hy:RdRow st y 1 o.data.length (yv o.data)) (nt:Nat) :
  Gd (callL Tryz.prog ⟨false,[],0,nt⟩ 19 [opV o y] st) fun r => r.1 = .bool (heavyB o) ∧ Ext st.nx st r.2:=by
 rw [Gd_callL Tryz.func19 rfl]
 have x0:=fun w => (Ext.refl st.nx st).new (Nat.le_refl _) w
 have hyone:=hy.one
 have hyl:=hy.lenS
 by_cases c1:(500:Int) < (o.a.length:Int)
 ·have e:heavyB o = true:=by unfold heavyB; simp; omega
  simp [evOp_call,sets,T.get_set,newC_is,loadE_eq,getC_eq,getsB_succ,getsB_zero,cellsOf,hyone,len_str un9,c1,hyl,e]
  exact x0 _
 by_cases c2:(500:Int) < (o.b.length:Int)
 ·have e:heavyB o = true:=by unfold heavyB; simp; omega
  simp [evOp_call,sets,T.get_set,newC_is,loadE_eq,getC_eq,getsB_succ,getsB_zero,cellsOf,hyone,len_str un9,c1,c2,hyl,e]
  exact x0 _
 have e:heavyB o = decide ((5000:Int) < (o.data.length:Int)):=by
  unfold heavyB
  have e1:¬ 500 < o.a.length:=by omega
  have e2:¬ 500 < o.b.length:=by omega
  simp [e1,e2]
  omega
 simp [evOp_call,sets,T.get_set,newC_is,loadE_eq,getC_eq,getsB_succ,getsB_zero,cellsOf,hyone,len_str un9,c1,c2,hyl,e]
 exact x0 _
theorem heavy_not {o:OpT} (h:heavyB o = false):o.a.length ≤ 500 ∧ o.b.length ≤ 500 ∧ o.data.length ≤ 5000:=by
 unfold heavyB at h
 simp at h
 omega
structure TrN (st s:St) (q m n B:Nat) (x:V) (Y Z:Nat → V) (E:Tr) (LB DB:Nat → Prop):Prop where
 tr:TrG s q m n x Y Z E LB DB
 ok:TOk n B E
 ext:Ext st.nx st s
 q:st.nx ≤ q
 m:st.nx ≤ m
 lb:∀ b,LB b → st.nx ≤ b
 db:∀ b,DB b → st.nx ≤ b
theorem FrT.toExt {st s s':St} {m:Nat} {LB DB LB' DB':Nat → Prop} (k:FrT s s' m LB DB LB' DB') (hx:Ext st.nx st s) (hm:st.nx ≤ m) (hl:∀ b,LB b → st.nx ≤ b):Ext st.nx st s' :=
 ⟨Nat.le_trans hx.le k.le,fun w => k.wf (hx.wf w),fun b hb => (k.keep b (Nat.lt_of_lt_of_le hb hx.le) (by omega) (fun h => by have:=hl b h; omega)).trans (hx.keep b hb)⟩
theorem TrN.more {st s s':St} {q m n B:Nat} {x:V} {Y Z:Nat → V} {E:Tr} {LB DB:Nat → Prop} (h:TrN st s q m n B x Y Z E LB DB) (k:Ext s.nx s s'):TrN st s' q m n B x Y Z E LB DB :=
 ⟨h.tr.ext k,h.ok,h.ext.trans (k.mono h.ext.le),h.q,h.m,h.lb,h.db⟩
theorem TrN.step {st s s':St} {q m n B:Nat} {x:V} {Y Z Y' Z':Nat → V} {E:Tr} {LB DB LB' DB':Nat → Prop} (h:TrN st s q m n B x Y Z E LB DB) {o:OpT} (ha:okS o.a) (hb:okS o.b) (hd:okS o.data) (h1:TrG s' q m n x Y' Z' (doE n E o).2 LB' DB') (k:FrT s s' m LB DB LB' DB'):TrN st s' q m n (B + 1) x Y' Z' (doE n E o).2 LB' DB':=by
 have hle:=h.ext.le
 refine ⟨h1,h.ok.doE ha hb hd,k.toExt h.ext h.m h.lb,h.q,h.m,fun b hb => ?_,fun b hb => ?_⟩
 ·rcases k.lb b hb with e | e
  ·exact h.lb b e
  ·omega
 ·rcases k.db b hb with e | e
  ·exact h.db b e
  ·omega
theorem TrN.do {st s:St} {q m n B:Nat} {x:V} {Y Z:Nat → V} {E:Tr} {LB DB:Nat → Prop} (h:TrN st s q m n B x Y Z E LB DB) (hB:B ≤ 900) {o:LOp} {y:V} (hi:OpIn st o y) (hv:heavyB (toOp o) = false) (nt:Nat) :
  Gd (tmF ⟨false,[],0,nt⟩ 12 [.p q 0,opV (toOp o) y] s) (doR s q m n x (doE n E (toOp o)) LB DB):=by
 have hi':=hi.ext h.ext
 have hl:=heavy_not hv
 refine do_any h.tr h.ok hB (toOp o) y hi.a hi.b hi'.y (fun b hb => ?_) (by omega) hi.at_ nt
 have:=Go.Proofs.YtgcpgidofikcdaaGreatDoor.RdRow.blkLt hi.y hb
 have:=h.q
 have:=h.m
 exact ⟨by omega,by omega,fun e => by have:=h.lb b e; omega⟩
theorem ptrEq (s:St) (x y:Operand) (q:Nat):binE Tryz.prog s .eql 23 x y (.p q 0) (.c (.pointer none)) = some (.bool false,s):=by kernel_rfl
end Go.Proofs.YtgcpgidofikcdaaGreatDoor

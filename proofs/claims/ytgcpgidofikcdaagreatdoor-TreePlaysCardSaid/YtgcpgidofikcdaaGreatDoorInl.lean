/-
  PLAIN: a part put into a row of unknown room, as a rule; such a call beside loads.
-/
import Derived.Test.YtgcpgidofikcdaaGreatDoorInsK
set_option linter.unusedSimpArgs false
set_option linter.unusedVariables false
namespace Go.Proofs.YtgcpgidofikcdaaGreatDoor.Ev
open Go.RowKit
theorem Gd_insF {F:CallF} {f z wb nt:Nat} {l:List (Nat × Nat)} {st:St} {m n i b o k q ty s0 ty' sz':Nat} {tr tr':T V} {old new:List V} {Q:V × St → Prop} (hz:0 < z) (okm:inF l m = false) (okb:inF l b = false) (hwb:wb ≤ m) (hi:i ≤ n) (hmb:m ≠ b) (hk:0 < k) (hmax:n + k ≤ 1048576) (hs:n * z ≤ s0)
  (gm:st.h.get m = some (.cs ty s0 tr)) (hro:ty ≠ roT) (gb:st.h.get b = some (.cs ty' sz' tr')) (h1:ty' ≠ roT) (h2:ty' ≠ unT) (h3:0 < sz') (o1:old.length = n * z) (o2:∀ j a,old[j]? = some a → tr.get j = some a) (n1:new.length = k * z) (n2:∀ j a,new[j]? = some a → tr'.get (o + j) = some a)
  (hQ:Q (.sg st.nx 0 (n + k) z,⟨st.nx + 2,(st.h.set m .gone).set st.nx (.cs unT (insL (i * z) old new).length (sets (insL (i * z) old new) 0 .lf))⟩)):Gd (insF F f z ⟨false,l,wb,nt⟩ f [.sg m 0 n z,.int .i64 (i:Int),.sl b o k q] st) Q:=by
 have b1:Nat.ble wb m = true:=Nat.ble_eq ▸ hwb
 have b2:Nat.ble i n = true:=Nat.ble_eq ▸ hi
 have b3:Nat.beq m b = false:=by rw [nbeq]; exact decide_eq_false hmb
 have b4:Nat.blt 0 k = true:=by rw [Nat.blt_eq]; exact hk
 have b5:Nat.ble (n + k) 1048576 = true:=Nat.ble_eq ▸ hmax
 have b6:Nat.blt 0 z = true:=by rw [Nat.blt_eq]; exact hz
 have b7:Nat.ble (n * z) s0 = true:=Nat.ble_eq ▸ hs
 have b8:Nat.beq ty roT = false:=by rw [nbeq]; exact decide_eq_false hro
 have b9:Nat.beq ty' roT = false:=by rw [nbeq]; exact decide_eq_false h1
 have b10:Nat.beq ty' unT = false:=by rw [nbeq]; exact decide_eq_false h2
 have b11:Nat.blt 0 sz' = true:=by rw [Nat.blt_eq]; exact h3
 have e0:insF F f z ⟨false,l,wb,nt⟩ f [.sg m 0 n z,.int .i64 (i:Int),.sl b o k q] st = insK z ⟨false,l,wb,nt⟩ st m n i b o k:=by
  show (match Nat.beq f f with
   | true => (match Nat.beq z z with
    | true => insK z ⟨false,l,wb,nt⟩ st m n i b o k
    | false => F ⟨false,l,wb,nt⟩ f [.sg m 0 n z,.c (.int .i64 (.ofNat i)),.sl b o k q] st)
   | false => F ⟨false,l,wb,nt⟩ f [.sg m 0 n z,.c (.int .i64 (.ofNat i)),.sl b o k q] st) = _
  rw [Nat.beq_refl,Nat.beq_refl]
 rw [e0]
 unfold insK
 simp only [b1,b2,b3,b4,b5,b6]
 have c1:(⟨false,l,wb,nt⟩:Cx).ok m = true:=by rw [ok_top,okm]; rfl
 have c2:(⟨false,l,wb,nt⟩:Cx).ok b = true:=by rw [ok_top,okb]; rfl
 rw [getB_get m _ _ c1 gm,getB_get b _ _ c2 gb]
 simp only [b7,b8,b9,b10,b11,Bool.or_self]
 have g1:=getsB_list (β:=V × St) (t:=tr) (l:=old) (i:=0) (fun j a h => by rw [Nat.zero_add]; exact o2 j a h)
 have g2:=getsB_list (β:=V × St) (t:=tr') (l:=new) (i:=o) n2
 rw [o1] at g1
 rw [n1] at g2
 rw [g1,g2,forceL_eq,fn_eq,setsK_eq,T.setK_eq,T.setK_eq,fn_eq,fn_eq,Gd_some]
 exact hQ
theorem Gd_lift2 {F:CallF} {x:Nat × Nat} {l:List (Nat × Nat)} {a:Bool} {wb nt f:Nat} {args:List V} {st:St} {R:V → St → Prop} {Q:V × St → Prop}
  (h:Gd (F ⟨a,[],wb,nt⟩ f args (er (x :: l) st)) fun r => R r.1 r.2 ∧ st.nx < r.2.nx ∧ ∀ n,n < st.nx → inF (x :: l) n = true → r.2.h.get n = none)
  (k:∀ v st1 st',R v st1 → st'.nx = st1.nx → (∀ n,st'.h.get n = if n < st.nx ∧ inF (x :: l) n = true then st.h.get n else st1.h.get n) → Q (v,st')):Gd (liftF F ⟨a,x :: l,wb,nt⟩ f args st) Q:=by
 rw [liftF_cons]
 obtain ⟨⟨v,st1⟩,h1,h2,h3,h4⟩:=h
 simp only at h2 h3 h4
 refine ⟨(v,mg (x :: l) st st1),by rw [h1]; rfl,?_⟩
 have e:st1 ≠ er (x :: l) st:=fun e => by rw [e] at h3; exact absurd h3 (Nat.lt_irrefl _)
 refine k v st1 _ h2 mg_nx fun m => ?_
 unfold mg
 rw [if_neg e]
 show (mgT (x :: l) st.h st1.h st.nx).get m = _
 rw [mgT_get]
 by_cases h5:m < st.nx ∧ inF (x :: l) m = true
 ·rw [if_pos h5]
  by_cases h6:st.h.get m = none
  ·rw [if_neg (fun h7 => h7.2.2 h6),h4 m h5.1 h5.2,h6]
  ·rw [if_pos ⟨h5.1,h5.2,h6⟩]
 ·rw [if_neg h5,if_neg (fun h7 => h5 ⟨h7.1,h7.2.1⟩)]
end Go.Proofs.YtgcpgidofikcdaaGreatDoor.Ev

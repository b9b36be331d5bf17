/-
  PLAIN: Ev, EvA, EvB, EvC, EvD, EvE, EvF, EvG, EvH, EvI, EvJ, EvK, EvL, in one text.
-/
import GoSem.Dispatch
import Derived.Calls
import Derived.Orders
import Derived.ProofKit
import Derived.Below
import Derived.WalkKit
import Derived.Deep.AppendSrc
import Derived.Deep.MidRow
import Derived.Laws.MakeOwn
import Derived.Test.YtcjddojcfdeflaaPins
import Derived.Laws.Tables
import Derived.Great.BuildSlice
import Derived.ChangeMaps3
import Derived.Lib.Strings
import Derived.Laws.BytesString
import Derived.Laws.OwnMore
import Derived.Laws.AppendOwn
import Derived.Deep.Upon
import Derived.Lib.Builder
import Derived.Lib.UnsafeStr
import Derived.Lib.Overlaps
namespace Go.Proofs.Ytcjddojcfdeflaa.Ev

/-! ### recursors; numbers that are reckoned before they are handed on -/
noncomputable def lr {α : Type} {β : Type} (z : β) (s : α → List α → β → β) (l : List α) : β := List.rec (motive := fun _ => β) z (fun a l ih => s a l ih) l
noncomputable def nr {β : Type} (z : β) (s : Nat → β → β) (n : Nat) : β := Nat.rec (motive := fun _ => β) z (fun n ih => s n ih) n
noncomputable def fn {β : Type} (m : Nat) (k : Nat → β) : β := Nat.rec (motive := fun _ => β) (k 0) (fun m' _ => k (Nat.succ m')) m
noncomputable def fi {β : Type} (n : Int) (k : Int → β) : β := match n with | .ofNat m => fn m fun m => k (.ofNat m) | .negSucc m => fn m fun m => k (.negSucc m)
noncomputable def fl {β : Type} (l : List Nat) : (List Nat → β) → β := lr (fun k => k []) (fun x _ ih k => fn x fun x => ih fun l => k (x :: l)) l
noncomputable def fb {β : Type} (b : Bool) (k : Bool → β) : β := match b with | true => k true | false => k false

/-! ### tables -/
inductive T (α : Type) where
  | lf : T α
  | nd : T α → Option α → T α → T α
noncomputable def pf (f n : Nat) : List Bool := nr (fun _ => []) (fun _ ih n => match n with | 0 => [] | k + 1 => (Nat.beq (k % 2) 0) :: ih (k / 2)) f n
noncomputable def pth (n : Nat) : List Bool := pf n n
noncomputable def tHere {α β : Type} (v : α) (K : T α → β) (t : T α) : β := T.rec (motive := fun _ => β) (K (.nd .lf (some v) .lf)) (fun l _ r _ _ => K (.nd l (some v) r)) t
noncomputable def tLeft {α β : Type} (ih : T α → (T α → β) → β) (K : T α → β) (t : T α) : β := T.rec (motive := fun _ => β) (ih .lf fun l => K (.nd l none .lf)) (fun l o r _ _ => ih l fun l => K (.nd l o r)) t
noncomputable def tRight {α β : Type} (ih : T α → (T α → β) → β) (K : T α → β) (t : T α) : β := T.rec (motive := fun _ => β) (ih .lf fun r => K (.nd .lf none r)) (fun l o r _ _ => ih r fun r => K (.nd l o r)) t
noncomputable def T.setP {α β : Type} (p : List Bool) (v : α) : T α → (T α → β) → β :=
  List.rec (motive := fun _ => T α → (T α → β) → β) (fun t K => tHere v K t) (fun b _ ih t K => Bool.rec (motive := fun _ => β) (tRight ih K t) (tLeft ih K t) b) p
noncomputable def T.getP {α : Type} (p : List Bool) : T α → Option α :=
  List.rec (motive := fun _ => T α → Option α) (fun t => T.rec (motive := fun _ => Option α) none (fun _ o _ _ _ => o) t)
    (fun b _ ih t => T.rec (motive := fun _ => Option α) none (fun l _ r _ _ => Bool.rec (motive := fun _ => Option α) (ih r) (ih l) b) t) p
noncomputable def T.get {α : Type} (t : T α) (n : Nat) : Option α := T.getP (pth n) t
noncomputable def T.setK {α β : Type} (t : T α) (n : Nat) (v : α) (k : T α → β) : β := T.setP (pth n) v t k
noncomputable def T.set {α : Type} (t : T α) (n : Nat) (v : α) : T α := T.setP (pth n) v t fun t => t
noncomputable def lget {α : Type} (l : List α) : Nat → Option α := lr (fun _ => none) (fun x _ ih n => match n with | 0 => some x | n + 1 => ih n) l

/-! ### values -/
inductive V where
  | c (v : Value)
  | s (l : List Nat)
  | p (n o : Nat)
  | sl (n o len cap : Nat)
  | sg (n o len z : Nat)
  | e
  | m (n : Nat)
  | f (fn : Fn) (first caps : List V)
  | g (l : List V)
  | t (l : List V)
abbrev V.u : V := .t []
abbrev V.int (k : IntKind) (n : Int) : V := .c (.int k n)
abbrev V.bool (b : Bool) : V := .c (.bool b)
def V.one : V → Bool
  | .g _ | .t _ => false
  | _ => true
inductive B where
  | cs (ty : TypeId) (sz : Nat) (cs : T V)
  | mp (l : List (V × V × Nat)) (clock : Nat)
  | it (l : List Nat) (pos : Nat)
  | gone
structure St where
  nx : Nat
  h : T B
/-- the type that marks a row that may be read alone -/
abbrev roT : Nat := 999999937
/-- the type that marks a row of which it isn't known how its block is laid out -/
abbrev unT : Nat := 999999938
noncomputable def tyM (ty el : Nat) : Nat := match Nat.beq ty el with | true => el | false => unT
/-- what may not be touched; what lies below wb may not be written; how many slots -/
structure Cx where
  all : Bool
  l : List (Nat × Nat)
  wb : Nat
  nt : Nat
noncomputable def inF (l : List (Nat × Nat)) (n : Nat) : Bool := lr false (fun x _ ih => match Nat.ble x.1 n with | true => (match Nat.blt n x.2 with | true => true | false => ih) | false => ih) l
noncomputable def Cx.ok (c : Cx) (n : Nat) : Bool := match c.all with | true => false | false => !inF c.l n
noncomputable def getB {β : Type} (c : Cx) (st : St) (n : Nat) (k : B → Option β) : Option β := match c.ok n with
  | false => none
  | true => match st.h.get n with
    | none => none
    | some b => k b
noncomputable def setB {β : Type} (c : Cx) (st : St) (n : Nat) (b : B) (k : St → Option β) : Option β := match Nat.ble c.wb n with
  | false => none
  | true => st.h.setK n b fun h => k ⟨st.nx, h⟩
noncomputable def newB {β : Type} (st : St) (b : B) (k : Nat → St → Option β) : Option β := st.h.setK st.nx b fun h => fn (st.nx + 1) fun nx => k st.nx ⟨nx, h⟩

noncomputable def bytes (b : ByteArray) : List Nat := b.data.toList.map fun x => x.toNat
noncomputable def fA {β : Type} (v : Value) (k : V → Option β) : Option β := match v with
  | .int i n => fi n fun n => k (.c (.int i n))
  | .bool b => fb b fun b => k (.c (.bool b))
  | .string b => fl (bytes b) fun l => k (.s l)
  | .pointer none => k (.c (.pointer none))
  | .slice none 0 0 => k (.c (.slice none 0 0))
  | .map none => k (.c (.map none))
  | .nilFunc => k (.c .nilFunc)
  | .nilIface => k (.c .nilIface)
  | _ => none
noncomputable def fAs {β : Type} (l : List Value) : (List V → Option β) → Option β := lr (fun k => k []) (fun x _ ih k => fA x fun x => ih fun l => k (x :: l)) l
noncomputable def ofV {β : Type} (v : Value) (k : V → Option β) : Option β := match v with
  | .agg cs => fAs cs.toList fun l => k (.g l)
  | .tuple ⟨[]⟩ => k .u
  | v => fA v fun x => k x
abbrev Env := T V
noncomputable def opd {β : Type} (e : Env) (x : Operand) (k : V → Option β) : Option β := match x with
  | .tmp t => match e.get t with | some v => k v | none => k .u
  | .const v => ofV v k
  | .func f => k (.f (.func f) [] [])
  | .global _ => none
noncomputable def opds {β : Type} (e : Env) (l : List Operand) : (List V → Option β) → Option β := lr (fun k => k []) (fun x _ ih k => opd e x fun v => ih fun l => k (v :: l)) l

inductive X where | n | ex (i : Nat) | ret
noncomputable def cellsOf {β : Type} (v : V) (k : List V → Option β) : Option β := match v with
  | .t _ => none
  | .g l => k l
  | x => k [x]
noncomputable def setsK {β : Type} (l : List V) : Nat → T V → (T V → β) → β := lr (fun _ t k => k t) (fun x _ ih i t k => t.setK i x fun t => fn (i + 1) fun i => ih i t k) l
noncomputable def newC {β : Type} (st : St) (ty : TypeId) (cs : List V) (k : Nat → St → Option β) : Option β :=
  setsK cs 0 .lf fun t => fn cs.length fun sz => newB st (.cs ty sz t) k
noncomputable def getsB {β : Type} (t : T V) (n : Nat) : Nat → (List V → Option β) → Option β := nr (fun _ k => k []) (fun _ ih i k => match t.get i with | none => none | some x => fn (i + 1) fun i => ih i fun l => k (x :: l)) n
noncomputable def getC {β : Type} (c : Cx) (st : St) (n : Nat) (k : T V → Option β) : Option β := getB c st n fun b => match b with | .cs _ _ t => k t | _ => none
noncomputable def putB {β : Type} (c : Cx) (st : St) (n i : Nat) (cs : List V) (k : St → Option β) : Option β :=
  getB c st n fun b => match b with
    | .cs ty sz t => (match Nat.ble (i + cs.length) sz, Nat.beq ty roT with
      | true, false => setsK cs i t fun t => setB c st n (.cs ty sz t) k
      | _, _ => none)
    | _ => none
noncomputable def asInt {β : Type} (v : V) (k : IntKind → Int → Option β) : Option β := match v with
  | .c (.int i n) => k i n
  | _ => none
noncomputable def asNat {β : Type} (v : V) (k : Nat → Option β) : Option β := match v with
  | .c (.int _ (.ofNat n)) => k n
  | _ => none
noncomputable def agg? (P : Program) (t : TypeId) : Option Bool := match P.underlying t with
  | some (.struct _) => some true
  | some (.array _ _) => some true
  | some _ => some false
  | none => none
noncomputable def szOf {β : Type} (P : Program) (t : TypeId) (k : Nat → Option β) : Option β := match P.info? t with | none => none | some i => k i.size
noncomputable def elemOf {β : Type} (P : Program) (t : TypeId) (k : TypeId → Nat → Option β) : Option β := match P.underlying t with
  | some (.slice el) => szOf P el fun z => k el z
  | _ => none
noncomputable def zero {β : Type} (P : Program) (t : TypeId) (k : List V → Option β) : Option β := match P.info? t with
  | none => none
  | some i => match i.zero with
    | none => none
    | some v => fAs v.cells.toList k
noncomputable def rep (l : List V) (n : Nat) : List V := nr [] (fun _ ih => l ++ ih) n
noncomputable def lenA {β : Type} (x : V) (k : Nat → Option β) : Option β := match x with
  | .c (.slice none 0 0) => k 0
  | .sl _ _ l _ => k l
  | .sg _ _ l _ => k l
  | .e => k 0
  | .s l => fn l.length k
  | _ => none
/-- the cells of the first n elements, of z cells each -/
noncomputable def firsts {β : Type} (c : Cx) (st : St) (z n : Nat) (x : V) (k : List V → Option β) : Option β := match x with
  | .c (.slice none 0 0) => (match n with | 0 => k [] | _ => none)
  | .e => (match n with | 0 => k [] | _ => none)
  | .sl m o l _ => (match Nat.ble n l with | true => getC c st m fun t => getsB t (n * z) o k | false => none)
  | .sg m o l _ => (match Nat.ble n l with | true => getC c st m fun t => getsB t (n * z) o k | false => none)
  | .s l => (match Nat.beq z 1, Nat.ble n l.length with | true, true => k ((l.take n).map fun x => .c (.int .u8 (.ofNat x))) | _, _ => none)
  | _ => none
/-! ### numbers -/
noncomputable def wu (M : Nat) (n : Int) : Int := match n with | .ofNat m => .ofNat (m % M) | .negSucc m => .ofNat (M - 1 - m % M)
noncomputable def ws (M H : Nat) (n : Int) : Int := match wu M n with | .ofNat u => (match Nat.blt u H with | true => .ofNat u | false => .negSucc (M - 1 - u)) | x => x
noncomputable def wr (k : IntKind) (n : Int) : Int := match k with
  | .u64 => wu 18446744073709551616 n
  | .i64 => ws 18446744073709551616 9223372036854775808 n
  | .u8 => wu 256 n
  | .i32 => ws 4294967296 2147483648 n
  | .u32 => wu 4294967296 n
  | .i8 => ws 256 128 n
  | .u16 => wu 65536 n
  | .i16 => ws 65536 32768 n
noncomputable def ltI (a b : Int) : Bool := match a, b with
  | .ofNat a, .ofNat b => Nat.blt a b
  | .negSucc a, .negSucc b => Nat.blt b a
  | .ofNat _, .negSucc _ => false
  | .negSucc _, .ofNat _ => true
noncomputable def eqI (a b : Int) : Bool := match a, b with
  | .ofNat a, .ofNat b => Nat.beq a b
  | .negSucc a, .negSucc b => Nat.beq a b
  | _, _ => false
noncomputable def eqKd (a b : IntKind) : Bool := match a, b with
  | .u64, .u64 | .i64, .i64 | .u8, .u8 | .i32, .i32 | .u32, .u32 | .i8, .i8 | .u16, .u16 | .i16, .i16 => true
  | _, _ => false
noncomputable def uns (k : IntKind) : Bool := match k with | .u64 | .u8 | .u32 | .u16 => true | _ => false
/-- an operator's answer, not yet forced -/
noncomputable def binI (op : BinOp) (k : IntKind) (a b : Int) : Option Value := match op with
  | .add => some (.int k (wr k (Int.add a b)))
  | .sub => some (.int k (wr k (Int.sub a b)))
  | .mul => some (.int k (wr k (Int.mul a b)))
  | .quo => match eqI b 0 with | true => none | false => some (.int k (wr k (Int.tdiv a b)))
  | .rem => match eqI b 0 with | true => none | false => some (.int k (Int.tmod a b))
  | .eql => some (.bool (eqI a b))
  | .neq => some (.bool (!eqI a b))
  | .lss => some (.bool (ltI a b))
  | .leq => some (.bool (!ltI b a))
  | .gtr => some (.bool (ltI b a))
  | .geq => some (.bool (!ltI a b))
  | .and => match a, b with | .ofNat a, .ofNat b => some (.int k (wr k (.ofNat (Nat.land a b)))) | .negSucc a, .ofNat b => some (.int k (wr k (.ofNat (Nat.xor b (Nat.land b a))))) | _, _ => none
  | .or => match a, b with | .ofNat a, .ofNat b => some (.int k (wr k (.ofNat (Nat.lor a b)))) | _, _ => none
  | .xor => match a, b with | .ofNat a, .ofNat b => some (.int k (wr k (.ofNat (Nat.xor a b)))) | _, _ => none
  | .andNot => match a, b with | .ofNat a, .ofNat b => some (.int k (wr k (.ofNat (Nat.xor a (Nat.land a b))))) | _, _ => none
  | _ => none
noncomputable def kbits : IntKind → Nat
  | .i8 | .u8 => 8
  | .i16 | .u16 => 16
  | .i32 | .u32 => 32
  | .i64 | .u64 => 64
noncomputable def shI (op : BinOp) (k : IntKind) (a b : Int) : Option Value := match a, b with
  | .ofNat a, .ofNat b => (match op with
    | .shl => some (.int k (wr k (.ofNat (Nat.shiftLeft a (Nat.min b (kbits k))))))
    | .shr => some (.int k (.ofNat (Nat.shiftRight a (Nat.min b (kbits k)))))
    | _ => none)
  | _, _ => none
/-! ### texts -/
noncomputable def eqL (a : List Nat) : List Nat → Bool := lr (fun b => match b with | [] => true | _ => false) (fun x _ ih b => match b with | [] => false | y :: b => match Nat.beq x y with | true => ih b | false => false) a
noncomputable def ltL (a : List Nat) : List Nat → Bool := lr (fun b => match b with | [] => false | _ => true) (fun x _ ih b => match b with | [] => false | y :: b => match Nat.blt x y with | true => true | false => match Nat.beq x y with | true => ih b | false => false) a
noncomputable def strOp {β : Type} (op : BinOp) (x y : List Nat) (kk : V → Option β) : Option β :=
  let b (r : Bool) : Option β := fb r fun r => kk (.bool r)
  match op with
  | .add => match Nat.ble (x.length + y.length) 1073741824 with | true => fl (x ++ y) fun l => kk (.s l) | false => none
  | .eql => b (eqL x y)
  | .neq => b (!eqL x y)
  | .lss => b (ltL x y)
  | .leq => b (ltL x y || eqL x y)
  | .gtr => b (!(ltL x y || eqL x y))
  | .geq => b (!ltL x y)
  | _ => none
/-! ### runes -/
noncomputable def atL (l : List Nat) (k : Nat) : Nat := match lget l k with | some x => x | none => 0
noncomputable def contL (l : List Nat) (k : Nat) : Bool := match lget l k with | some x => Nat.beq (x / 64) 2 | none => false
noncomputable def validN (c : Nat) : Bool := Nat.blt c 55296 || (Nat.ble 57344 c && Nat.ble c 1114111)
noncomputable def decL (l : List Nat) (i : Nat) : Nat × Nat :=
  let b0 := atL l i
  match Nat.blt b0 128 with
  | true => (b0, 1)
  | false => match Nat.beq (b0 / 32) 6 && contL l (i + 1) with
    | true => (let c := (b0 % 32) * 64 + atL l (i + 1) % 64
      match Nat.ble 128 c with | true => (c, 2) | false => (65533, 1))
    | false => match Nat.beq (b0 / 16) 14 && contL l (i + 1) && contL l (i + 2) with
      | true => (let c := (b0 % 16) * 4096 + (atL l (i + 1) % 64) * 64 + atL l (i + 2) % 64
        match Nat.ble 2048 c && validN c with | true => (c, 3) | false => (65533, 1))
      | false => match Nat.beq (b0 / 8) 30 && contL l (i + 1) && contL l (i + 2) && contL l (i + 3) with
        | true => (let c := (b0 % 8) * 262144 + (atL l (i + 1) % 64) * 4096 + (atL l (i + 2) % 64) * 64 + atL l (i + 3) % 64
          match Nat.ble 65536 c && validN c with | true => (c, 4) | false => (65533, 1))
        | false => (65533, 1)
noncomputable def encN (c : Nat) : List Nat := match Nat.blt c 128 with
  | true => [c]
  | false => match Nat.blt c 2048 with
    | true => [192 + c / 64, 128 + c % 64]
    | false => match Nat.blt c 65536 with
      | true => [224 + c / 4096, 128 + c / 64 % 64, 128 + c % 64]
      | false => [240 + c / 262144, 128 + c / 4096 % 64, 128 + c / 64 % 64, 128 + c % 64]
noncomputable def encL (n : Int) : List Nat := match n with
  | .ofNat c => (match validN c with | true => encN c | false => encN 65533)
  | .negSucc _ => encN 65533
/-! ### what bears no address is asked of the model itself -/
noncomputable def pureRun {α : Type} (P : Program) : Sem α → Option α
  | .pure a => some a
  | .program k => pureRun P (k P)
  | .mark _ k => pureRun P k
  | _ => none
noncomputable def valA : V → Option Value
  | .c v => some v
  | .s l => some (.string ⟨⟨l.map UInt8.ofNat⟩⟩)
  | _ => none
noncomputable def valsA (l : List V) : Option (List Value) := lr (some []) (fun x _ ih => match valA x with | none => none | some v => match ih with | none => none | some l => some (v :: l)) l
noncomputable def valV : V → Option Value
  | .g l => match valsA l with | none => none | some l => some (.agg ⟨l⟩)
  | x => valA x
noncomputable def pu {β : Type} (P : Program) (s : Sem Value) (k : V → Option β) : Option β := match pureRun P s with
  | some v => ofV v k
  | none => none
/-- of a pointer, a slice, a map, a function held against nil: is it nil? -/
noncomputable def nilQ (d : TypeDesc) (x y : V) : Option Bool := match d, x, y with
  | .pointer _, .c (.pointer none), .c (.pointer none) => some true
  | .pointer _, .c (.pointer none), .p _ _ => some false
  | .pointer _, .p _ _, .c (.pointer none) => some false
  | .slice _, .c (.slice none 0 0), .c (.slice none 0 0) => some true
  | .slice _, .c (.slice none 0 0), .sl .. => some false
  | .slice _, .sl .., .c (.slice none 0 0) => some false
  | .slice _, .c (.slice none 0 0), .sg .. => some false
  | .slice _, .sg .., .c (.slice none 0 0) => some false
  | .slice _, .c (.slice none 0 0), .e => some false
  | .slice _, .e, .c (.slice none 0 0) => some false
  | .map _ _, .c (.map none), .c (.map none) => some true
  | .map _ _, .c (.map none), .m _ => some false
  | .map _ _, .m _, .c (.map none) => some false
  | _, _, _ => none
noncomputable def bnd {β : Type} (e : Env) (d : Nat) (x : Option Operand) (k : Nat → Option β) : Option β := match x with
  | none => k d
  | some x => opd e x fun v => asNat v k
abbrev Res := Option (V × St)
abbrev CallF := Cx → Nat → List V → St → Res
noncomputable def ret (st : St) : V → Res := fun v => some (v, st)
/-- a new row behind an old one -/
noncomputable def growE (c : Cx) (st : St) (el z ls ln : Nat) (s : V) (new : List V) : Res := firsts c st z ls s fun old => newC st el (old ++ new) fun n st => some (.sg n 0 ln z, st)
/-- nothing is appended to a row that may not be written -/
noncomputable def still (c : Cx) (n lx : Nat) : Bool := match Nat.ble c.wb n with
  | true => false
  | false => Nat.beq lx 0
theorem still_wb {c : Cx} {n lx : Nat} (h : c.wb ≤ n) : still c n lx = false := by
  have e : Nat.ble c.wb n = true := by rw [Nat.ble_eq]; exact h
  unfold still
  rw [e]
@[simp] theorem still_0 {a : Bool} {l : List (Nat × Nat)} {nt n lx : Nat} : still ⟨a, l, 0, nt⟩ n lx = false := still_wb (Nat.zero_le _)
noncomputable def appE (c : Cx) (st : St) (el z ls lx : Nat) (s : V) (new : List V) : Res := fn (ls + lx) fun ln => match s with
  | .sl n o len cap => (match Nat.ble ln cap with
    | true => (match still c n lx with
      | true => some (s, st)
      | false => fn (o + len * z) fun at_ => putB c st n at_ new fun st => some (.sl n o ln cap, st))
    | false => growE c st el z ls ln s new)
  | .sg n o len z' => (match Nat.beq z z' with
    | false => none
    | true => getB c st n fun b => (match b with
      | .cs ty sz t => (match Nat.beq ty roT with | true => none | false => match Nat.ble (o + ln * z) sz with
        | true => fn (o + len * z) fun at_ => putB c st n at_ new fun st => some (.sg n o ln z, st)
        | false => (match Nat.beq (o + len * z) sz with
          | false => none
          | true => (match o with
            | 0 => setB c st n .gone fun st => setsK new sz t fun t => fn (sz + new.length) fun sz' => fn (tyM ty el) fun ty' => newB st (.cs ty' sz' t) fun n st => some (.sg n 0 ln z, st)
            | _ => firsts c st z ls s fun old => setB c st n .gone fun st => newC st unT (old ++ new) fun n st => some (.sg n 0 ln z, st))))
      | _ => none))
  | .c (.slice none 0 0) => (match lx with
    | 0 => some (s, st)
    | _ => growE c st el z ls ln s new)
  | .e => (match lx with
    | 0 => some (s, st)
    | _ => none)
  | _ => none
noncomputable def small (P : Program) (el : TypeId) (n : Nat) : Bool := match P.info? el with
  | none => false
  | some i => match Nat.ble n 1073741824, Nat.ble i.bytes 1024, Nat.ble 1 i.size, i.zero with
    | true, true, true, some z => Nat.beq z.cells.size i.size
    | _, _, _, _ => false
/-! ### maps, by whole numbers or texts -/
noncomputable def keyOk (d : TypeDesc) (k : V) : Bool := match d, k with
  | .int k1, .c (.int k2 _) => eqKd k1 k2
  | .string, .s _ => true
  | _, _ => false
noncomputable def keyEq (a b : V) : Option Bool := match a, b with
  | .c (.int k a), .c (.int k' b) => (match eqKd k k' with | true => some (eqI a b) | false => none)
  | .s a, .s b => some (eqL a b)
  | _, _ => none
abbrev MEnt := V × V × Nat
noncomputable def mfind (k : V) (l : List MEnt) : Nat → Option (Option (Nat × V × Nat)) := lr (fun _ => some none) (fun x _ ih i => match keyEq k x.1 with
  | none => none
  | some true => some (some (i, x.2.1, x.2.2))
  | some false => ih (i + 1)) l
noncomputable def mborn (n : Nat) (l : List MEnt) : Nat → Option Nat := lr (fun _ => none) (fun x _ ih i => match Nat.beq x.2.2 n with | true => some i | false => ih (i + 1)) l
noncomputable def zeroV (P : Program) (t : TypeId) (k : V → Res) : Res := match P.info? t with
  | none => none
  | some i => (match i.zero with
    | none => none
    | some v => ofV v k)
noncomputable def mapT {β : Type} (P : Program) (t : TypeId) (x : V) (k : TypeId → Option β) : Option β := match P.underlying t with
  | some (.map kt el) => (match P.underlying kt with
    | some d => (match keyOk d x with | true => k el | false => none)
    | none => none)
  | _ => none
noncomputable def getM {β : Type} (c : Cx) (st : St) (m : V) (k : Nat → List MEnt → Nat → Option β) : Option β := match m with
  | .m n => getB c st n fun b => (match b with | .mp l clock => k n l clock | _ => none)
  | _ => none
noncomputable def lookV (ok : Bool) (st : St) (v : V) (b : Bool) : Res := match ok with | true => some (.t [v, .bool b], st) | false => some (v, st)
noncomputable def lookE (P : Program) (c : Cx) (st : St) (t : TypeId) (m x : V) (ok : Bool) : Res := mapT P t x fun el => (match m with
  | .c (.map none) => zeroV P el fun z => lookV ok st z false
  | m => getM c st m fun _ l _ => (match mfind x l 0 with
    | none => none
    | some none => zeroV P el fun z => lookV ok st z false
    | some (some y) => lookV ok st y.2.1 true))
noncomputable def mputE (P : Program) (c : Cx) (st : St) (t : TypeId) (m x v : V) : Res := mapT P t x fun _ => getM c st m fun n l clock => (match mfind x l 0 with
    | none => none
    | some none => fn (clock + 1) fun clock' => setB c st n (.mp (l ++ [(x, v, clock)]) clock') fun st => some (.u, st)
    | some (some y) => setB c st n (.mp (l.modify y.1 fun e => (x, v, e.2.2)) clock) fun st => some (.u, st))
noncomputable def mentE (P : Program) (c : Cx) (st : St) (t : TypeId) (m x : V) : Res := mapT P t x fun el => getM c st m fun n l clock => (match mfind x l 0 with
    | none => none
    | some none => zeroV P el fun z => fn (clock + 1) fun clock' => setB c st n (.mp (l ++ [(x, z, clock)]) clock') fun st => some (.t [z, .int .i64 (.ofNat clock)], st)
    | some (some y) => setB c st n (.mp (l.modify y.1 fun e => (x, e.2.1, e.2.2)) clock) fun st => some (.t [y.2.1, .int .i64 (.ofNat y.2.2)], st))
noncomputable def mstoE (c : Cx) (st : St) (m s v : V) : Res := asNat s fun b => getM c st m fun n l clock => (match mborn b l 0 with
    | none => none
    | some i => setB c st n (.mp (l.modify i fun e => (e.1, v, e.2.2)) clock) fun st => some (.u, st))
noncomputable def mdelE (P : Program) (c : Cx) (st : St) (t : TypeId) (m x : V) : Res := mapT P t x fun _ => (match m with
  | .c (.map none) => some (.t [], st)
  | m => getM c st m fun n l clock => (match mfind x l 0 with
    | none => none
    | some none => some (.t [], st)
    | some (some y) => setB c st n (.mp (l.eraseIdx y.1) clock) fun st => some (.t [], st)))
/-- a row's cells made zero -/
noncomputable def clearE (P : Program) (c : Cx) (st : St) (t : TypeId) (x : V) : Res := match x with
  | .c (.slice none 0 0) => elemOf P t fun _ _ => some (.t [], st)
  | .sl n o len _ => elemOf P t fun el _ => zero P el fun zs => putB c st n o (rep zs len) fun st => some (.t [], st)
  | .sg n o len _ => elemOf P t fun el _ => zero P el fun zs => putB c st n o (rep zs len) fun st => some (.t [], st)
  | _ => none
noncomputable def bytesOfAs {β : Type} (l : List V) : (List Nat → Option β) → Option β := lr (fun k => k []) (fun x _ ih k => match x with | .c (.int .u8 (.ofNat n)) => (match Nat.blt n 256 with | true => ih fun r => k (n :: r) | false => none) | _ => none) l
noncomputable def builtinE (P : Program) (c : Cx) (b : Builtin) (ts : List TypeId) (args : List V) (st : St) : Res :=
  match b, ts, args with
  | .len, [t], [x] => (match P.underlying t with
    | some (.array n _) => some (.int .i64 (.ofNat n), st)
    | some (.pointer a) => (match P.underlying a with | some (.array n _) => some (.int .i64 (.ofNat n), st) | _ => none)
    | some .string => (match x with | .s l => fn l.length fun n => some (.int .i64 (.ofNat n), st) | _ => none)
    | some (.slice _) => (match x with | .s _ => none | _ => lenA x fun n => some (.int .i64 (.ofNat n), st))
    | _ => none)
  | .append, [t, t'], [s, x] => elemOf P t fun el z => lenA s fun ls => (match P.underlying t' with
      | some (.slice _) => (match x with
        | .s _ => none
        | _ => lenA x fun lx => firsts c st z lx x fun new => (match small P el (ls + lx) with | true => appE c st el z ls lx s new | false => none))
      | some .string => (match x with
        | .s _ => lenA x fun lx => firsts c st z lx x fun new => (match small P el (ls + lx) with | true => appE c st el z ls lx s new | false => none)
        | _ => none)
      | some (.int _) => (match s, x with
        | .c (.slice none 0 0), .c (.int .i64 (.ofNat lx)) => (match Nat.ble 1 lx, small P el lx with | true, true => zero P el fun zs => newC st el (rep zs lx) fun n st => some (.sg n 0 lx z, st) | _, _ => none)
        | s, .c (.int .i64 (.ofNat lx)) => (match small P el (ls + lx) with | true => zero P el fun zs => appE c st el z ls lx s (rep zs lx) | _ => none)
        | _, _ => none)
      | _ => none)
  | .delete, [t, _], [m, x] => mdelE P c st t m x
  | .clear, [t], [x] => clearE P c st t x
  | .cap, [t], [.sl _ _ _ n] => elemOf P t fun _ _ => some (.int .i64 (.ofNat n), st)
  | .cap, [t], [.c (.slice none 0 0)] => elemOf P t fun _ _ => some (.int .i64 0, st)
  | .copy, [t, _], [d, x] => elemOf P t fun _ z => lenA d fun ld => lenA x fun lx => fn (Nat.min lx ld) fun n => firsts c st z n x fun cs => (match d with
      | .sl m o _ _ => putB c st m o cs fun st => some (.int .i64 (.ofNat n), st)
      | .sg m o _ _ => putB c st m o cs fun st => some (.int .i64 (.ofNat n), st)
      | .c (.slice none 0 0) => some (.int .i64 (.ofNat n), st)
      | _ => none)
  | .unsafeSliceData, [_], [x] => (match x with
    | .c (.slice none 0 0) => some (.c (.pointer none), st)
    | .sg n o l _ => (match Nat.blt 0 l with | true => some (.p n o, st) | false => none)
    | .sl n o _ q => (match Nat.blt 0 q with | true => some (.p n o, st) | false => none)
    | _ => none)
  | .unsafeString, [t, _], [x, .c (.int .i64 (.ofNat len))] => (match Nat.beq len 0, x with
    | true, .c (.pointer none) => some (.s [], st)
    | true, .p _ _ => some (.s [], st)
    | false, .p n 0 => (match P.underlying t with
      | some (.pointer el) => szOf P el fun z => getB c st n fun b => (match b with
        | .cs ty sz tr => (match Nat.beq ty el, Nat.beq ty roT || Nat.beq ty unT, Nat.beq z 1, Nat.ble len sz && Nat.ble len 9223372036854775807 with
          | true, false, true, true => getsB tr len 0 fun l => bytesOfAs l fun l => setB c st n .gone fun st => some (.s l, st)
          | _, _, _, _ => none)
        | _ => none)
      | _ => none)
    | _, _ => none)
  | _, _, _ => none
noncomputable def pick1 (P : Program) (b : Builtin) (ts : List TypeId) (ty : TypeId) (args : List V) (st : St) : Res := match valsA args with
  | none => none
  | some vs => (match b with
    | .min => pu P (Builtin.min_ ⟨ts⟩ ty ⟨vs⟩) (ret st)
    | .max => pu P (Builtin.max_ ⟨ts⟩ ty ⟨vs⟩) (ret st)
    | _ => none)
/-- a part laid into cells -/
noncomputable def splice {β : Type} (i : Nat) (cs : List V) (l : List V) (k : List V → Option β) : Option β := match Nat.ble (i + cs.length) l.length with
  | true => k (l.take i ++ (cs ++ l.drop (i + cs.length)))
  | false => none
noncomputable def partsK {β : Type} (at_ : Nat → Option (Nat × Nat)) (l : List (Nat × Operand)) : List V → List V → (List V → Option β) → Option β := lr (fun _ t k => k t) (fun x _ ih vs t k => match vs with
  | [] => none
  | v :: vs => cellsOf v fun cs => match at_ x.1 with
    | some (i, z) => (match Nat.beq cs.length z with
      | true => splice i cs t fun t => ih vs t k
      | false => none)
    | none => none) l
noncomputable def forceL {β : Type} (l : List V) : (List V → β) → β := lr (fun k => k []) (fun x _ ih k => ih fun l => k (x :: l)) l
noncomputable def loadE {β : Type} (P : Program) (c : Cx) (st : St) (t : TypeId) (n i : Nat) (k : V → Option β) : Option β := getC c st n fun b => match agg? P t with
  | some true => szOf P t fun z => getsB b z i fun l => k (.g l)
  | some false => match b.get i with
    | some x => k x
    | none => none
  | none => none
noncomputable def idxE {β : Type} (P : Program) (t : TypeId) (v : V) (i : Nat) (k : V → Option β) : Option β := match P.underlying t, v with
  | some (.array len el), .p n o => (match Nat.blt i len with | true => szOf P el fun z => fn (o + i * z) fun o => k (.p n o) | false => none)
  | some (.slice el), .sl n o len _ => (match Nat.blt i len with | true => szOf P el fun z => fn (o + i * z) fun o => k (.p n o) | false => none)
  | some (.slice el), .sg n o len _ => (match Nat.blt i len with | true => szOf P el fun z => fn (o + i * z) fun o => k (.p n o) | false => none)
  | _, _ => none
noncomputable def sliceE {β : Type} (P : Program) (e : Env) (t : TypeId) (v : V) (lo hi : Option Operand) (k : V → Option β) : Option β := match P.underlying t, v with
  | some .string, .s s => fn s.length fun n => bnd e n hi fun h => bnd e 0 lo fun l => (match Nat.ble l h, Nat.ble h n with
    | true, true => fl ((s.take h).drop l) fun s => k (.s s)
    | _, _ => none)
  | some (.slice el), .c (.slice none 0 0) => szOf P el fun _ => bnd e 0 hi fun h => bnd e 0 lo fun l => (match h, l with
    | 0, 0 => k (.c (.slice none 0 0))
    | _, _ => none)
  | some (.slice el), .sl n o len cap => szOf P el fun z => bnd e len hi fun h => bnd e 0 lo fun l => (match Nat.ble l h, Nat.ble h cap with
    | true, true => fn (match Nat.beq cap l with | true => o | false => o + l * z) fun o => fn (h - l) fun len => fn (cap - l) fun cap => k (.sl n o len cap)
    | _, _ => none)
  | some (.slice el), .sg n o len z' => szOf P el fun z => bnd e len hi fun h => bnd e 0 lo fun l => (match Nat.ble l h, Nat.ble h len, Nat.beq z z' with
    | true, true, true => (match Nat.beq l h && !Nat.beq l 0 with
      | true => k .e
      | false => fn (o + l * z) fun o => fn (h - l) fun len => k (.sg n o len z))
    | _, _, _ => none)
  | some (.array len el), .p n o => szOf P el fun z => bnd e len hi fun h => bnd e 0 lo fun l => (match Nat.ble l h, Nat.ble h len with
    | true, true => fn (match Nat.beq len l with | true => o | false => o + l * z) fun o => fn (h - l) fun ln => fn (len - l) fun cap => k (.sl n o ln cap)
    | _, _ => none)
  | _, _ => none
/-- a row that has grown, sliced beyond its length -/
noncomputable def sliceG (P : Program) (c : Cx) (st : St) (e : Env) (t : TypeId) (v : V) (lo hi : Option Operand) : Res := match P.underlying t, v with
  | some (.slice el), .sg n o len z' => szOf P el fun z => getB c st n fun b => (match b with
    | .cs _ sz _ => bnd e len hi fun h => bnd e 0 lo fun l => (match Nat.ble l h, Nat.ble (o + h * z) sz, Nat.beq z z', Nat.beq l h && !Nat.beq l 0 with
      | true, true, true, false => fn (o + l * z) fun o => fn (h - l) fun len => some (.sg n o len z, st)
      | _, _, _, _ => none)
    | _ => none)
  | some (.slice el), .e => szOf P el fun _ => bnd e 0 hi fun h => bnd e 0 lo fun l => (match h, l with
    | 0, 0 => some (.e, st)
    | _, _ => none)
  | _, _ => none
noncomputable def slice3E {β : Type} (P : Program) (e : Env) (t : TypeId) (v : V) (lo hi : Option Operand) (mx : Operand) (k : V → Option β) : Option β := match P.underlying t, v, hi with
  | some (.slice el), .sl n o _ cap, some hi => szOf P el fun z => bnd e 0 (some mx) fun m => bnd e 0 (some hi) fun h => bnd e 0 lo fun l => (match Nat.ble l h, Nat.ble h m, Nat.ble m cap with
    | true, true, true => fn (match Nat.beq m l with | true => o | false => o + l * z) fun o => fn (h - l) fun len => fn (m - l) fun cap => k (.sl n o len cap)
    | _, _, _ => none)
  | some (.slice el), .sg n o len z', some hi => szOf P el fun z => bnd e 0 (some mx) fun m => bnd e 0 (some hi) fun h => bnd e 0 lo fun l => (match Nat.ble l h, Nat.ble h m, Nat.ble m len, Nat.beq z z' with
    | true, true, true, true => fn (match Nat.beq m l with | true => o | false => o + l * z) fun o => fn (h - l) fun len => fn (m - l) fun cap => k (.sl n o len cap)
    | _, _, _, _ => none)
  | some (.slice el), .c (.slice none 0 0), some hi => szOf P el fun _ => bnd e 0 (some mx) fun m => bnd e 0 (some hi) fun h => bnd e 0 lo fun l => (match m, h, l with
    | 0, 0, 0 => k (.c (.slice none 0 0))
    | _, _, _ => none)
  | _, _, _ => none
noncomputable def partE {β : Type} (P : Program) (t : TypeId) (l : List V) (o : Nat) (k : V → Option β) : Option β := match agg? P t with
  | some true => szOf P t fun z => k (.g ((l.drop o).take z))
  | some false => (match lget l o with
    | some x => k x
    | none => none)
  | none => none
noncomputable def sliceV : V → Bool
  | .c (.slice none 0 0) => true
  | .sl .. => true
  | .sg .. => true
  | .e => true
  | _ => false
noncomputable def convE (P : Program) (c : Cx) (st : St) (src dst : TypeId) (v : V) : Res := match P.underlying src, P.underlying dst, v with
  | some _, some (.int k), .c (.int _ n) => fi (wr k n) fun n => some (.int k n, st)
  | some _, some .string, .s _ => some (v, st)
  | some _, some (.slice el), .s l => (match P.underlying el with
    | some (.int .u8) => (match small P el l.length with
      | true => newC st unT (l.map fun x => .c (.int .u8 (.ofNat x))) fun n st => fn l.length fun len => some (.sg n 0 len 1, st)
      | false => none)
    | _ => none)
  | some (.slice _), some (.slice el), .sl n o len cap => (match P.underlying el with
    | some (.int .u8) => (match Nat.beq src dst with
      | true => getB c st n fun b => (match b with
        | .cs ty sz t => (match Nat.beq ty roT with
          | true => none
          | false => setB c st n (.cs unT sz t) fun st => some (.sl n o len cap, st))
        | _ => none)
      | false => none)
    | _ => none)
  | some (.slice el), some .string, x => (match P.underlying el with
    | some (.int .u8) => (match sliceV x with
      | true => lenA x fun len => firsts c st 1 len x fun l => bytesOfAs l fun l => some (.s l, st)
      | false => none)
    | _ => none)
  | some (.pointer t0), some .unsafePointer, .p n o => szOf P t0 fun z => getB c st n fun b => (match b with
    | .cs _ sz _ => (match Nat.blt 0 z, Nat.blt o sz with
      | true, true => some (.p n o, st)
      | _, _ => none)
    | _ => none)
  | some .unsafePointer, some (.pointer u), .p n 0 => szOf P u fun z => getB c st n fun b => (match b with
    | .cs ty sz _ => (match Nat.beq ty u, Nat.beq ty roT || Nat.beq ty unT, Nat.blt 0 z, Nat.ble z sz with
      | true, false, true, true => some (.p n 0, st)
      | _, _, _, _ => none)
    | _ => none)
  | some (.int _), some .string, .c (.int _ n) => fl (encL n) fun l => some (.s l, st)
  | _, _, _ => none
noncomputable def binE (P : Program) (st : St) (op : BinOp) (t : TypeId) (x y : Operand) (a b : V) : Res := match a, b with
  | .c (.int k a), .c (.int k' b) => (match op with
    | .shl => (match shI op k a b with | some v => ofV v (ret st) | none => none)
    | .shr => (match shI op k a b with | some v => ofV v (ret st) | none => none)
    | _ => (match eqKd k k' with
      | true => (match binI op k a b with | some v => ofV v (ret st) | none => none)
      | false => none))
  | .s a, .s b => strOp op a b (ret st)
  | .p n o, .p n' o' => (match P.underlying t, Nat.beq n n' && Nat.beq o o' with
    | some (.pointer el), true => (match P.info? el, op with
      | some _, .eql => some (.bool true, st)
      | some _, .neq => some (.bool false, st)
      | _, _ => none)
    | _, _ => none)
  | a, b => (match op, P.underlying t with
    | .eql, some d => (match nilQ d a b with
      | some r => fb r fun r => some (.bool r, st)
      | none => (match valV a, valV b with
        | some a, some b => pu P (do eqGuard op t x y a b; binOp op t a b) (ret st)
        | _, _ => none))
    | .neq, some d => (match nilQ d a b with
      | some r => fb (!r) fun r => some (.bool r, st)
      | none => (match valV a, valV b with
        | some a, some b => pu P (do eqGuard op t x y a b; binOp op t a b) (ret st)
        | _, _ => none))
    | _, _ => none)

/-! ### what the model has a row of its own for -/
noncomputable def ext? (P : Program) (f : Nat) : Option (Array Value → Sem Value) := match lget P.funcs.toList f with
  | none => none
  | some fn => (match fn.body with
    | some _ => none
    | none => (match Extern.findNext fn with
      | some _ => none
      | none => Extern.find fn))
noncomputable def extE (P : Program) (g : Array Value → Sem Value) (args : List V) (st : St) : Res := match valsA args with
  | none => none
  | some vs => pu P (g ⟨vs⟩) (ret st)

noncomputable def xKind (P : Program) (f : Nat) : Nat := match lget P.funcs.toList f with
  | none => 0
  | some fn => (match fn.name == "internal/abi.NoEscape" with
    | true => 1
    | false => (match fn.origin == "slices.overlaps" && (Extern.allGenericRows.lookup fn.name).isNone && (Extern.allTypedRows.lookup fn.name).isNone && (Extern.allRows.lookup fn.name).isNone with
      | true => 2
      | false => (match fn.name == "internal/bytealg.MakeNoZero" with
        | true => 3
        | false => 0)))
noncomputable def mkEl (P : Program) (f : Nat) : Option TypeId := match lget P.funcs.toList f with
  | none => none
  | some fn => (match fn.resultTypes.toList with
    | [t] => (match P.underlying t with
      | some (.slice el) => some el
      | _ => none)
    | _ => none)
noncomputable def slBlk (v : V) : Option (Nat × Nat) := match v with
  | .sl n _ l _ => some (n, l)
  | .sg n _ l _ => some (n, l)
  | _ => none
noncomputable def ovArg (P : Program) (f : Nat) : Bool := match lget P.funcs.toList f with
  | none => false
  | some fn => (match fn.params.toList with
    | [t, t'] => (match Nat.beq t t', P.underlying t with
      | true, some (.slice el) => (P.info? el).isSome
      | _, _ => false)
    | _ => false)
/-- such as hand addresses on, or hold them against one another -/
noncomputable def extS (P : Program) (c : Cx) (f : Nat) (args : List V) (st : St) : Res := match xKind P f, args with
  | 1, [.p n o] => some (.p n o, st)
  | 2, [a, b] => (match slBlk a, slBlk b with
    | some (n, la), some (m, lb) => (match Nat.beq n m, ovArg P f, Nat.blt 0 la, Nat.blt 0 lb with
      | false, true, true, true => getB c st n fun x => getB c st m fun y => (match x, y with
        | .cs ty sz _, .cs ty' sz' _ => (match Nat.beq ty roT || Nat.beq ty unT, Nat.beq ty' roT, Nat.blt 0 sz, Nat.blt 0 sz' with
          | false, false, true, true => some (.bool false, st)
          | _, _, _, _ => none)
        | _, _ => none)
      | _, _, _, _ => none)
    | _, _ => none)
  | 3, [.c (.int .i64 (.ofNat n))] => (match mkEl P f, Nat.ble n 1073741824 with
    | some el, true => newB st (.cs el n .lf) fun m st => some (.sg m 0 n 1, st)
    | _, _ => none)
  | _, _ => none

noncomputable def evOp (P : Program) (call : CallF) (c : Cx) (e : Env) (st : St) (o : Oper) : Res :=
  match o.op with
  | .move x => opd e x (ret st)
  | .assign x => opd e x (ret st)
  | .pick x a b => opd e x fun x => (match x with
    | .c (.bool true) => opd e a (ret st)
    | .c (.bool false) => opd e b (ret st)
    | _ => none)
  | .nilCheck x => opd e x fun v => (match v with
    | .p n o => some (.p n o, st)
    | _ => none)
  | .extract x ix => opd e x fun v => (match v with
    | .t l => (match lget l ix with | some w => some (w, st) | none => none)
    | _ => none)
  | .alloc t => zero P t fun cs => newC st t cs fun n st => some (.p n 0, st)
  | .box t x => opd e x fun v => cellsOf v fun cs => newC st t cs fun n st => some (.p n 0, st)
  | .load t x => opd e x fun v => (match v with
    | .p n i => loadE P c st t n i fun w => some (w, st)
    | _ => none)
  | .store t x y => opd e x fun v => (match v with
    | .p n i => opd e y fun v => cellsOf v fun cs => szOf P t fun z => (match Nat.beq cs.length z with
      | true => putB c st n i cs fun st => some (.u, st)
      | false => none)
    | _ => none)
  | .fieldAddr t x f => opd e x fun v => (match v with
    | .p n i => (match P.underlying t with
      | some (.struct fs) => (match lget fs.toList f with
        | some f => szOf P f.type fun z => (match z with
          | 0 => none
          | _ => fn (i + f.offset) fun i => some (.p n i, st))
        | none => none)
      | _ => none)
    | _ => none)
  | .indexAddr t x ix => opd e x fun v => opd e ix fun i => asNat i fun i => idxE P t v i fun a => some (a, st)
  | .buildSlice t len parts => elemOf P t fun el z => zero P el fun zs => opds e (parts.toList.map fun x => x.2) fun vs => (match Nat.beq zs.length z, Nat.ble (len * z) 16777216 with
    | true, true => partsK (fun i => some (i * z, z)) parts.toList vs (rep zs len) fun l => newC st el l fun n st => some (.sl n 0 len len, st)
    | _, _ => none)
  | .build t parts => zero P t fun zs => opds e (parts.toList.map fun x => x.2) fun vs => (match P.underlying t with
    | some (.struct fs) => partsK (fun i => match lget fs.toList i with | some f => (match P.info? f.type with | some ti => some (f.offset, ti.size) | none => none) | none => none) parts.toList vs zs fun l => forceL l fun l => (match fs.toList.all fun f => (P.info? f.type).isSome with | true => some (.g l, st) | false => none)
    | some (.array _ el) => szOf P el fun z => partsK (fun i => some (i * z, z)) parts.toList vs zs fun l => forceL l fun l => some (.g l, st)
    | _ => none)
  | .makeSlice t l cp => opd e l fun l => opd e cp fun cp => asNat l fun l => asNat cp fun cp => elemOf P t fun el _ => (match Nat.ble l cp, small P el cp with
    | true, true => zero P el fun z => newC st el (rep z cp) fun n st => some (.sl n 0 l cp, st)
    | _, _ => none)
  | .slice t x lo hi none => opd e x fun v => (match sliceE P e t v lo hi (fun a => (some (a, st) : Res)) with
    | some r => some r
    | none => sliceG P c st e t v lo hi)
  | .binOp op t x y _ => opd e x fun a => opd e y fun b => binE P st op t x y a b
  | .unOp op _ x => opd e x fun v => (match op, v with
    | .not, .c (.bool b) => fb (!b) fun b => some (.bool b, st)
    | op, v => (match valA v with
      | some v => pu P (Op.unary op v) (ret st)
      | none => none))
  | .convert src dst x => opd e x fun v => convE P c st src dst v
  | .field t x f => opd e x fun v => (match v, P.underlying t with
    | .g l, some (.struct fs) => (match lget fs.toList f with
      | none => none
      | some f => partE P f.type l f.offset fun v => some (v, st))
    | _, _ => none)
  | .index t x ix => opd e x fun v => opd e ix fun i => asNat i fun i => (match P.underlying t, v with
    | some .string, .s l => (match lget l i with
      | some b => some (.int .u8 (.ofNat b), st)
      | none => none)
    | some (.array len el), .g l => (match Nat.blt i len with
      | true => szOf P el fun z => fn (i * z) fun o => partE P el l o fun v => some (v, st)
      | false => none)
    | _, _ => none)
  | .range t x => opd e x fun v => (match P.underlying t, v with
    | some .string, .s l => newB st (.it l 0) fun n st => some (.p n 0, st)
    | _, _ => none)
  | .next x true => opd e x fun v => (match v with
    | .p n 0 => getB c st n fun b => (match b with
      | .it l pos => (match lget l pos with
        | none => some (.t [.bool false], st)
        | some b => (match Nat.blt b 128 with
          | true => fn (pos + 1) fun q => setB c st n (.it l q) fun st => some (.t [.bool true, .int .i64 (.ofNat pos), .int .i32 (.ofNat b)], st)
          | false => fn (decL l pos).1 fun r => fn (pos + (decL l pos).2) fun q => setB c st n (.it l q) fun st => some (.t [.bool true, .int .i64 (.ofNat pos), .int .i32 (.ofNat r)], st)))
      | _ => none)
    | _ => none)
  | .makeMap t none => (match P.underlying t with | some (.map _ _) => newB st (.mp [] 0) fun n st => some (.m n, st) | _ => none)
  | .lookup t x ix ok => opd e x fun m => opd e ix fun k => lookE P c st t m k ok
  | .mapUpdate t m k x => opd e m fun m => opd e k fun k => opd e x fun x => mputE P c st t m k x
  | .insert t m k x => opd e m fun m => opd e k fun k => opd e x fun x => mputE P c st t m k x
  | .mapEntry t m k => opd e m fun m => opd e k fun k => mentE P c st t m k
  | .entryStore _ m s x => opd e m fun m => opd e s fun s => opd e x fun x => mstoE c st m s x
  | .slice t x lo hi (some mx) => opd e x fun v => slice3E P e t v lo hi mx fun a => some (a, st)
  | .makeFunc f first caps => opds e first.toList fun a => opds e caps.toList fun b => some (.f f a b, st)
  | .call cl => opds e cl.args.toList fun args => (match cl.callee with
    | .builtin .min => pick1 P .min cl.argTypes.toList o.type args st
    | .builtin .max => pick1 P .max cl.argTypes.toList o.type args st
    | .builtin b => builtinE P c b cl.argTypes.toList args st
    | .value f => opd e f fun f => (match f with
      | .f (.func f) first caps => (match ext? P f with
        | some g => (match extE P g (first ++ args ++ caps) st with | some r => some r | none => extS P c f (first ++ args ++ caps) st)
        | none => call c f (first ++ args ++ caps) st)
      | _ => none)
    | _ => none)
  | _ => none

noncomputable def putK {β : Type} (c : Cx) (e : Env) (d : Option Nat) (v : V) (k : Env → Option β) : Option β := match d with
  | none => k e
  | some t => match Nat.blt t c.nt with | true => e.setK t v k | false => none
noncomputable def wants (e : Env) (ops : List Oper) (o : Oper) : Bool := match o.guard with
  | none => true
  | some (j, want) => match lget ops j with
    | none => false
    | some oj => match oj.dst with
      | none => false
      | some t => match e.get t with
        | some (.c (.bool b)) => match b, want with | true, true => true | false, false => true | _, _ => false
        | _ => false
noncomputable def evOps (P : Program) (call : CallF) (c : Cx) (ops : List Oper) (l : List Oper) : Env → St → Option (Env × St) :=
  lr (fun e st => some (e, st)) (fun o _ ih e st => match wants e ops o with
    | true => match evOp P call c e st o with
      | none => none
      | some (v, st) => putK c e o.dst v fun e => ih e st
    | false => putK c e o.dst .u fun e => ih e st) l
/-! ### regions whose order is open -/
noncomputable def touches : Op → Bool
  | .move _ | .assign _ | .pick .. | .nilCheck _ | .extract .. | .alloc _ | .box .. | .fieldAddr .. | .indexAddr .. | .buildSlice .. | .build .. | .makeSlice .. | .slice .. | .binOp .. | .unOp .. | .field .. | .index .. | .makeFunc .. => false
  | .call cl => (match cl.callee with
    | .builtin .len => false
    | .builtin .min => false
    | .builtin .max => false
    | _ => true)
  | _ => true
/-- what must come before each -/
noncomputable def befs (l : List Oper) : List Nat → List Nat := lr (fun acc => acc) (fun o _ ih acc => ih (acc ++ [lr 0 (fun (x : Edge) _ r => match Region.binds .any x with | true => Nat.lor (Nat.lor r (Nat.shiftLeft 1 x.on)) ((lget acc x.on).getD 0) | false => r) o.after.toList])) l
noncomputable def befOf (ops : List Oper) (i : Nat) : Nat := (lget (befs ops []) i).getD 0
noncomputable def ordered (ops : List Oper) (i j : Nat) : Bool := match Nat.testBit (befOf ops i) j with | true => true | false => Nat.testBit (befOf ops j) i
noncomputable def mayW (ops : List Oper) (i : Nat) : Bool := lr (β := Nat → Bool) (fun _ => true) (fun o _ ih j => match Nat.beq i j with
  | true => ih (j + 1)
  | false => match touches o.op with
    | false => ih (j + 1)
    | true => match ordered ops i j with
      | true => ih (j + 1)
      | false => false) ops 0
/-- the slots that an operation looks at -/
noncomputable def looks (ops : List Oper) (o : Oper) : List Nat := (lr [] (fun (x : Operand) _ r => match x with | .tmp t => t :: r | _ => r) o.op.operands.toList) ++ (match o.guard with
  | none => []
  | some (j, _) => match lget ops j with | some oj => (match oj.dst with | some t => [t] | none => []) | none => [])
/-- each writes a slot of its own; what is looked at was written by one that must come before; what must come before stands before -/
noncomputable def regOk (ops : List Oper) : Bool := lr (β := Nat → Bool) (fun _ => true) (fun o _ ih i =>
  match (lr (β := Nat → Bool) (fun _ => true) (fun (oj : Oper) _ ihj j => match oj.dst with
      | none => ihj (j + 1)
      | some t => (match (match Nat.beq i j with | true => true | false => (match o.dst with | none => true | some u => !Nat.beq t u)) with
        | false => false
        | true => (match (looks ops o).any (Nat.beq t) with
          | false => ihj (j + 1)
          | true => (match Nat.testBit (befOf ops i) j with | true => ihj (j + 1) | false => (match Nat.testBit (befOf ops j) i with | true => ihj (j + 1) | false => false))))) ops 0) with
  | false => false
  | true => (match o.after.toList.all fun (x : Edge) => match Region.binds .any x with | true => Nat.blt x.on i | false => true with
    | false => false
    | true => (match o.op with | .select .. => false | _ => ih (i + 1)))) ops 0
noncomputable def forb (b : Nat) (l : List (Nat × Nat × Nat)) (f : List (Nat × Nat)) : List (Nat × Nat) := lr f (fun x _ ih => match Nat.testBit b x.1 with | true => ih | false => x.2 :: ih) l
/-- what touches no block but the one that a slot points to -/
noncomputable def plainLd (op : Op) : Option Nat := match op with
  | .load _ (.tmp q) => some q
  | .convert _ _ (.tmp q) => some q
  | _ => none
noncomputable def blkOf (v : V) : Option Nat := match v with
  | .p m _ => some m
  | .sl m _ _ _ => some m
  | .sg m _ _ _ => some m
  | _ => none
/-- the slot is written ahead of number j, or not at all -/
noncomputable def firm (ops : List Oper) (j q : Nat) : Bool := lr (β := Nat → Bool) (fun _ => true) (fun o _ ih k => match o.dst with
  | none => ih (k + 1)
  | some t => (match Nat.beq t q with
    | false => ih (k + 1)
    | true => (match Nat.testBit (befOf ops j) k with
      | true => ih (k + 1)
      | false => false))) ops 0
/-- who writes the slot -/
noncomputable def writer (ops : List Oper) (q : Nat) : Option Oper := lr none (fun o _ r => match o.dst with
  | none => r
  | some t => (match Nat.beq t q with | true => some o | false => r)) ops
/-- who writes the slot, and its number -/
noncomputable def writerF (q : Nat) : List Oper → Nat → Option (Nat × Oper) := lr (β := Nat → Option (Nat × Oper)) (fun _ => none) (fun o _ ih k => match o.dst with
  | none => ih (k + 1)
  | some t => (match Nat.beq t q with | true => some (k, o) | false => ih (k + 1)))
noncomputable def writerI (ops : List Oper) (q : Nat) : Option (Nat × Oper) := writerF q ops 0
/-- what a slot will name: told by the slots that it is made of -/
noncomputable def seenR (ops : List Oper) (g : Nat → Option V) (n : Nat) : Nat → Option V := nr (β := Nat → Option V) (fun q => match writerI ops q with | none => g q | some _ => none)
  (fun _ ih q => match writerI ops q with
    | none => g q
    | some (k, ok) => (match ok.op with
      | .fieldAddr _ (.tmp r) _ => (match firm ops k r with | true => ih r | false => none)
      | .indexAddr _ (.tmp r) _ => (match firm ops k r with | true => ih r | false => none)
      | .move (.tmp r) => (match firm ops k r with | true => ih r | false => none)
      | .nilCheck (.tmp r) => (match firm ops k r with | true => ih r | false => none)
      | _ => none)) n
/-- what lies in the block that number j will touch: told by its slot if it stands ahead of number i; else by the slots that its slot is made of -/
noncomputable def seenAt (ops : List Oper) (e : Env) (i j q : Nat) : Option V := match Nat.blt j i with
  | true => e.get q
  | false => seenR ops (fun t => e.get t) 8 q
/-- number i may write old blocks but for those that loads that may come behind it have read -/
noncomputable def looseW (ops : List Oper) (e : Env) (i : Nat) : Option (List (Nat × Nat)) := lr (β := Nat → Option (List (Nat × Nat))) (fun _ => some []) (fun o _ ih j => match Nat.beq i j with
  | true => ih (j + 1)
  | false => (match touches o.op with
    | false => ih (j + 1)
    | true => (match ordered ops i j with
      | true => ih (j + 1)
      | false => (match plainLd o.op with
        | some q => (match firm ops j q, seenAt ops e i j q with
          | true, some v => (match ih (j + 1) with
            | some l => (match blkOf v with
              | some m => some ((m, m + 1) :: l)
              | none => some l)
            | none => none)
          | _, _ => none)
        | none => none)))) ops 0
noncomputable def clashes (e : Env) (l : List (Nat × Nat)) (x : Operand) : Bool := match x with
  | .tmp t => (match e.get t with
    | some v => (match blkOf v with
      | some m => inF l m
      | none => false)
    | none => false)
  | _ => false
/-- a block that can't change -/
noncomputable def isRo (h : T B) (m : Nat) : Bool := match h.get m with
  | some (.cs ty _ _) => Nat.beq ty roT
  | _ => false
noncomputable def alive (h : T B) (l : List (Nat × Nat)) : List (Nat × Nat) := lr [] (fun p _ ih => match isRo h p.1 with | true => ih | false => p :: ih) l
noncomputable def looseFor (ops : List Oper) (h : T B) (e : Env) (i : Nat) (o : Oper) : Option (List (Nat × Nat)) := match o.op with
  | .store .. => (match looseW ops e i with
    | none => none
    | some l => some (alive h l))
  | .call cl => (match looseW ops e i with
    | none => none
    | some l => (match lr false (fun x _ r => match clashes e (alive h l) x with | true => true | false => r) cl.args.toList with
      | true => none
      | false => some (alive h l)))
  | _ => none
noncomputable def cxOf (c : Cx) (ops : List Oper) (o : Oper) (i : Nat) (rs : List (Nat × Nat × Nat)) (st : St) (e : Env) : Cx := match touches o.op with
  | false => ⟨true, [], c.wb, c.nt⟩
  | true => (match plainLd o.op with
    | some q => (match e.get q with
      | some v => (match blkOf v with
        | some m => ⟨c.all, (0, m) :: (m + 1, st.nx) :: forb (befOf ops i) rs c.l, st.nx, c.nt⟩
        | none => ⟨true, [], st.nx, c.nt⟩)
      | none => ⟨true, [], st.nx, c.nt⟩)
    | none => (match mayW ops i with
      | true => ⟨c.all, forb (befOf ops i) rs c.l, c.wb, c.nt⟩
      | false => (match looseFor ops st.h e i o with
        | some l => ⟨c.all, l ++ forb (befOf ops i) rs c.l, c.wb, c.nt⟩
        | none => ⟨c.all, forb (befOf ops i) rs c.l, st.nx, c.nt⟩)))
noncomputable def evDraw (P : Program) (call : CallF) (c : Cx) (ops : List Oper) (l : List Oper) : Nat → List (Nat × Nat × Nat) → Env → St → Option (Env × St) :=
  lr (fun _ _ e st => some (e, st)) (fun o _ ih i rs e st => match wants e ops o with
    | true => match evOp P call (cxOf c ops o i rs st e) e st o with
      | none => none
      | some (v, st') => putK c e o.dst v fun e => fn (i + 1) fun i' => ih i' (match Nat.beq st.nx st'.nx with | true => rs | false => (i, st.nx, st'.nx) :: rs) e st'
    | false => putK c e o.dst .u fun e => fn (i + 1) fun i' => ih i' rs e st) l
abbrev CodeF := Cx → Code → Env → St → Option (X × Env × St)
noncomputable def initE {β : Type} (l : List V) : Nat → Env → (Env → β) → β := lr (fun _ e k => k e) (fun v _ ih i e k => e.setK i v fun e => fn (i + 1) fun i => ih i e k) l
noncomputable def resOf (P : Program) (c : Cx) (e : Env) (st : St) (l : List ResultVar) : (List V → Option (V × St)) → Option (V × St) := lr (fun k => k []) (fun x _ ih k => match x with
  | .tmp t => (match e.get t with
    | some x => ih fun r => k (x :: r)
    | _ => none)
  | .cell t ty => (match e.get t with
    | some (.p n i) => loadE P c st ty n i fun w => ih fun r => k (w :: r)
    | _ => none)) l
noncomputable def callOf (P : Program) (ih : CodeF) : CallF := fun cx f args st => match lget P.funcs.toList f with
  | none => none
  | some fn => match fn.body with
    | none => none
    | some c => initE args 0 .lf fun e => match ih ⟨cx.all, cx.l, cx.wb, fn.ntmps⟩ c e st with
      | some (.n, e, st) => resOf P cx e st fn.results.toList fun l => (match l with
        | [x] => some (x, st)
        | l => some (.t l, st))
      | some (.ret, e, st) => resOf P cx e st fn.results.toList fun l => (match l with
        | [x] => some (x, st)
        | l => some (.t l, st))
      | _ => none
noncomputable def ev (P : Program) (n : Nat) : CodeF := nr (fun _ _ _ _ => none) (fun _ ih cx c e st =>
  match c with
  | .skip => some (.n, e, st)
  | .label _ => some (.n, e, st)
  | .region _ ops d => (match d with
    | true => (match regOk ops.toList with
      | true => (match evDraw P (callOf P ih) cx ops.toList ops.toList 0 [] e st with
        | none => none
        | some (e, st) => some (.n, e, st))
      | false => none)
    | false => (match evOps P (callOf P ih) cx ops.toList ops.toList e st with
      | none => none
      | some (e, st) => some (.n, e, st)))
  | .seq a b => (match ih cx a e st with
    | some (.n, e, st) => ih cx b e st
    | r => r)
  | .cond x a b => opd e x fun v => (match v with
    | .c (.bool true) => ih cx a e st
    | .c (.bool false) => ih cx b e st
    | _ => none)
  | .block i b => (match ih cx b e st with
    | some (.ex j, e, st) => (match Nat.beq j i with | true => some (.n, e, st) | false => some (.ex j, e, st))
    | r => r)
  | .loop b => (match ih cx b e st with
    | some (.n, e, st) => ih cx (.loop b) e st
    | r => r)
  | .scope b => ih cx b e st
  | .exit i => some (.ex i, e, st)
  | .ret => some (.ret, e, st)
  | _ => none) n
noncomputable def run (P : Program) (fuel f : Nat) (args : List V) : Option (V × St) := callOf P (ev P fuel) ⟨false, [], 0, 0⟩ f args ⟨0, .lf⟩
noncomputable def yes (P : Program) (fuel f : Nat) : Bool := match run P fuel f [] with
  | some (.c (.bool true), _) => true
  | _ => false
end Go.Proofs.Ytcjddojcfdeflaa.Ev
namespace Go.Proofs.Ytcjddojcfdeflaa.Ev

/-! ### recursors -/
section
variable {α β : Type}
@[simp] theorem lr_nil (z : β) (s : α → List α → β → β) : lr z s [] = z := rfl
@[simp] theorem lr_cons (z : β) (s : α → List α → β → β) (a : α) (l : List α) : lr z s (a :: l) = s a l (lr z s l) := rfl
@[simp] theorem nr_zero (z : β) (s : Nat → β → β) : nr z s 0 = z := rfl
@[simp] theorem nr_succ (z : β) (s : Nat → β → β) (n : Nat) : nr z s (n + 1) = s n (nr z s n) := rfl
@[simp] theorem fn_eq (m : Nat) (k : Nat → β) : fn m k = k m := by cases m <;> rfl
@[simp] theorem fi_eq (n : Int) (k : Int → β) : fi n k = k n := by cases n <;> simp [fi]
@[simp] theorem fl_eq (l : List Nat) (k : List Nat → β) : fl l k = k l := by
  induction l generalizing k with
  | nil => rfl
  | cons x l ih =>
    have h : fl (x :: l) k = fn x fun x => fl l fun l => k (x :: l) := rfl
    rw [h, fn_eq, ih]
@[simp] theorem fb_eq (b : Bool) (k : Bool → β) : fb b k = k b := by cases b <;> rfl
end

/-! ### tables -/
theorem pf_inj : ∀ (f f' m m' : Nat), m ≤ f → m' ≤ f' → pf f m = pf f' m' → m = m'
  | 0, 0, m, m', h, h', _ => by omega
  | 0, f' + 1, m, m', h, h', e => by
    have hm : m = 0 := by omega
    subst hm
    cases m' with
    | zero => rfl
    | succ k => exact absurd e (by simp [pf])
  | f + 1, 0, m, m', h, h', e => by
    have hm : m' = 0 := by omega
    subst hm
    cases m with
    | zero => rfl
    | succ k => exact absurd e (by simp [pf])
  | f + 1, f' + 1, m, m', h, h', e => by
    cases m with
    | zero => cases m' with
      | zero => rfl
      | succ k => exact absurd e (by simp [pf])
    | succ k => cases m' with
      | zero => exact absurd e (by simp [pf])
      | succ k' =>
        have h1 : pf (f + 1) (k + 1) = (Nat.beq (k % 2) 0) :: pf f (k / 2) := rfl
        have h2 : pf (f' + 1) (k' + 1) = (Nat.beq (k' % 2) 0) :: pf f' (k' / 2) := rfl
        rw [h1, h2] at e
        injection e with e1 e2
        have := pf_inj f f' (k / 2) (k' / 2) (by omega) (by omega) e2
        have e3 : (k % 2 = 0) = (k' % 2 = 0) := by
          rw [Bool.eq_iff_iff] at e1
          simpa [Nat.beq_eq] using e1
        have : k = k' := by
          by_cases hk : k % 2 = 0
          · have hk' : k' % 2 = 0 := by rw [← e3]; exact hk
            omega
          · have hk' : ¬ k' % 2 = 0 := by rw [← e3]; exact hk
            omega
        rw [this]
theorem pth_inj {m m' : Nat} (h : pth m = pth m') : m = m' := pf_inj m m' m m' (Nat.le_refl _) (Nat.le_refl _) h
theorem T.setP_eq {α : Type} (v : α) : ∀ (p : List Bool) {β : Type} (t : T α) (k : T α → β), T.setP p v t k = k (T.setP p v t fun t => t)
  | [], _, t, k => by cases t <;> rfl
  | false :: p, _, .lf, k => by
    show T.setP p v .lf (fun r => k (.nd .lf none r)) = k (T.setP p v .lf fun r => .nd .lf none r)
    rw [T.setP_eq v p .lf (fun r => k (.nd .lf none r)), T.setP_eq v p .lf (fun r => T.nd .lf none r)]
  | false :: p, _, .nd l o r, k => by
    show T.setP p v r (fun r => k (.nd l o r)) = k (T.setP p v r fun r => .nd l o r)
    rw [T.setP_eq v p r (fun r => k (.nd l o r)), T.setP_eq v p r (fun r => T.nd l o r)]
  | true :: p, _, .lf, k => by
    show T.setP p v .lf (fun r => k (.nd r none .lf)) = k (T.setP p v .lf fun r => .nd r none .lf)
    rw [T.setP_eq v p .lf (fun r => k (.nd r none .lf)), T.setP_eq v p .lf (fun r => T.nd r none .lf)]
  | true :: p, _, .nd l o r, k => by
    show T.setP p v l (fun l => k (.nd l o r)) = k (T.setP p v l fun l => .nd l o r)
    rw [T.setP_eq v p l (fun l => k (.nd l o r)), T.setP_eq v p l (fun l => T.nd l o r)]
section
variable {α β : Type}
@[simp] theorem T.setK_eq (t : T α) (n : Nat) (v : α) (k : T α → β) : t.setK n v k = k (t.set n v) := T.setP_eq v (pth n) t k
theorem T.getP_lf (p : List Bool) : T.getP p (.lf : T α) = none := by cases p <;> rfl
@[simp] theorem T.get_lf (n : Nat) : (T.lf : T α).get n = none := T.getP_lf _
theorem T.getP_setP (v : α) : ∀ (p q : List Bool) (t : T α), T.getP q (T.setP p v t fun t => t) = if p = q then some v else T.getP q t
  | [], [], t => by cases t <;> rfl
  | [], b :: q, .lf => by
    cases b
    · show T.getP q (.lf : T α) = _; simp [T.getP_lf]
    · show T.getP q (.lf : T α) = _; simp [T.getP_lf]
  | [], b :: q, .nd l o r => by cases b <;> rfl
  | false :: p, q, .lf => by
    have h : T.setP (false :: p) v (.lf : T α) (fun t => t) = .nd .lf none (T.setP p v .lf fun t => t) := T.setP_eq v p .lf _
    rw [h]
    match q with
    | [] => rfl
    | true :: q => show T.getP q (.lf : T α) = _; simp [T.getP_lf]
    | false :: q => show T.getP q (T.setP p v .lf fun t => t) = _; rw [T.getP_setP v p q]; simp [T.getP_lf]
  | false :: p, q, .nd l o r => by
    have h : T.setP (false :: p) v (.nd l o r : T α) (fun t => t) = .nd l o (T.setP p v r fun t => t) := T.setP_eq v p r _
    rw [h]
    match q with
    | [] => rfl
    | true :: q => show T.getP q l = _; simp; rfl
    | false :: q => show T.getP q (T.setP p v r fun t => t) = _; rw [T.getP_setP v p q]; simp; rfl
  | true :: p, q, .lf => by
    have h : T.setP (true :: p) v (.lf : T α) (fun t => t) = .nd (T.setP p v .lf fun t => t) none .lf := T.setP_eq v p .lf _
    rw [h]
    match q with
    | [] => rfl
    | false :: q => show T.getP q (.lf : T α) = _; simp [T.getP_lf]
    | true :: q => show T.getP q (T.setP p v .lf fun t => t) = _; rw [T.getP_setP v p q]; simp [T.getP_lf]
  | true :: p, q, .nd l o r => by
    have h : T.setP (true :: p) v (.nd l o r : T α) (fun t => t) = .nd (T.setP p v l fun t => t) o r := T.setP_eq v p l _
    rw [h]
    match q with
    | [] => rfl
    | false :: q => show T.getP q r = _; simp; rfl
    | true :: q => show T.getP q (T.setP p v l fun t => t) = _; rw [T.getP_setP v p q]; simp; rfl
theorem T.get_set (t : T α) (n m : Nat) (v : α) : (t.set n v).get m = if n = m then some v else t.get m := by
  unfold T.get T.set
  rw [T.getP_setP]
  by_cases h : n = m
  · simp [h]
  · rw [if_neg h, if_neg (fun e => h (pth_inj e))]
@[simp] theorem T.get_set_same (t : T α) (n : Nat) (v : α) : (t.set n v).get n = some v := by rw [T.get_set, if_pos rfl]
theorem T.get_set_ne (t : T α) {n m : Nat} (v : α) (h : n ≠ m) : (t.set n v).get m = t.get m := by rw [T.get_set, if_neg h]
theorem lget_eq (l : List α) (n : Nat) : lget l n = l[n]? := by
  induction l generalizing n with
  | nil => rfl
  | cons a l ih => cases n with
    | zero => rfl
    | succ n => exact ih n
end
end Go.Proofs.Ytcjddojcfdeflaa.Ev
namespace Go.Proofs.Ytcjddojcfdeflaa.Ev

theorem eqI_eq (a b : Int) : eqI a b = (a == b) := by
  rw [Bool.eq_iff_iff]
  cases a <;> cases b <;> simp [eqI, Nat.beq_eq] <;> omega
theorem ltI_eq (a b : Int) : ltI a b = decide (a < b) := by
  rw [Bool.eq_iff_iff]
  cases a <;> cases b <;> simp [ltI, Nat.blt_eq] <;> omega
theorem eqKd_eq {a b : IntKind} (h : eqKd a b = true) : a = b := by
  cases a <;> cases b <;> first | rfl | (simp [eqKd] at h)
theorem wu_eq (M : Nat) (hM : 0 < M) (n : Int) : wu M n = n % (M : Int) := by
  cases n with
  | ofNat m => simp [wu]
  | negSucc m =>
    show ((M - 1 - m % M : Nat) : Int) = _
    have h1 : m % M < M := Nat.mod_lt _ hM
    have h2 : Int.negSucc m = -(m : Int) - 1 := by omega
    rw [h2]
    have h3 : -(m : Int) - 1 = ((M : Int) - 1 - ((m % M : Nat) : Int)) + (M : Int) * (-((m / M : Nat) : Int) - 1) := by
      have := Nat.mod_add_div m M
      have h4 : (m : Int) = ((m % M : Nat) : Int) + (M : Int) * ((m / M : Nat) : Int) := by
        exact_mod_cast this.symm
      rw [h4, Int.mul_sub, Int.mul_neg]
      omega
    rw [h3, Int.add_mul_emod_self_left, Int.emod_eq_of_lt (by omega) (by omega)]
    omega
theorem ws_eq (M H : Nat) (hM : 0 < M) (n : Int) : ws M H n = if n % (M : Int) ≥ (H : Int) then n % (M : Int) - M else n % (M : Int) := by
  have h0 : 0 ≤ n % (M : Int) := Int.emod_nonneg _ (by omega)
  have h1 : n % (M : Int) < M := Int.emod_lt_of_pos _ (by omega)
  unfold ws
  rw [wu_eq M hM]
  generalize n % (M : Int) = q at *
  obtain ⟨u, rfl⟩ := Int.eq_ofNat_of_zero_le h0
  show (match Nat.blt u H with | true => Int.ofNat u | false => Int.negSucc (M - 1 - u)) = _
  by_cases hu : u < H
  · have : Nat.blt u H = true := by simpa [Nat.blt_eq] using hu
    rw [this, if_neg (by omega)]
    rfl
  · have : Nat.blt u H = false := by
      rw [Bool.eq_false_iff]; intro h; exact hu (by simpa [Nat.blt_eq] using h)
    rw [this, if_pos (by omega)]
    show Int.negSucc (M - 1 - u) = _
    omega
theorem wr_eq (k : IntKind) (n : Int) : wr k n = k.wrap n := by
  cases k
  case u64 => exact (wu_eq _ (by decide) n).trans (by simp [IntKind.wrap, IntKind.signed, IntKind.bits])
  case u32 => exact (wu_eq _ (by decide) n).trans (by simp [IntKind.wrap, IntKind.signed, IntKind.bits])
  case u16 => exact (wu_eq _ (by decide) n).trans (by simp [IntKind.wrap, IntKind.signed, IntKind.bits])
  case u8 => exact (wu_eq _ (by decide) n).trans (by simp [IntKind.wrap, IntKind.signed, IntKind.bits])
  case i64 => exact (ws_eq _ _ (by decide) n).trans (by simp [IntKind.wrap, IntKind.signed, IntKind.bits])
  case i32 => exact (ws_eq _ _ (by decide) n).trans (by simp [IntKind.wrap, IntKind.signed, IntKind.bits])
  case i16 => exact (ws_eq _ _ (by decide) n).trans (by simp [IntKind.wrap, IntKind.signed, IntKind.bits])
  case i8 => exact (ws_eq _ _ (by decide) n).trans (by simp [IntKind.wrap, IntKind.signed, IntKind.bits])
theorem wrap_congr (k : IntKind) {x y : Int} (h : x % (2 ^ k.bits : Int) = y % (2 ^ k.bits : Int)) : k.wrap x = k.wrap y := by
  unfold IntKind.wrap
  rw [h]
theorem kbits_eq (k : IntKind) : kbits k = k.bits := by cases k <;> rfl

section
variable {P : Program} {w : World}
theorem bv_nat (n a : Nat) : (BitVec.ofInt n (Int.ofNat a)).toNat = a % 2 ^ n := by
  show (BitVec.ofInt n (a : Int)).toNat = _
  rw [BitVec.ofInt_natCast, BitVec.toNat_ofNat]
theorem emod_nat (k : IntKind) (x y : Nat) (h : x % 2 ^ k.bits = y % 2 ^ k.bits) : k.wrap (Int.ofNat x) = k.wrap ((y : Nat) : Int) := by
  apply wrap_congr
  show ((x : Nat) : Int) % _ = ((y : Nat) : Int) % _
  norm_cast
theorem intBits_and (k : IntKind) (a b : Nat) : (Op.intBits .and k (.ofNat a) (.ofNat b)).run P w = .ok (.int k (wr k (.ofNat (Nat.land a b)))) w := by
  have h : k.wrap (Int.ofNat (Nat.land a b)) = k.wrap (((BitVec.ofInt k.bits (Int.ofNat a) &&& BitVec.ofInt k.bits (Int.ofNat b)).toNat : Nat) : Int) := by
    apply emod_nat
    rw [BitVec.toNat_and, bv_nat, bv_nat]
    show (a &&& b) % _ = _
    rw [Nat.and_mod_two_pow, Nat.and_mod_two_pow]
    simp
  rw [wr_eq, h]
  rfl
theorem intBits_or (k : IntKind) (a b : Nat) : (Op.intBits .or k (.ofNat a) (.ofNat b)).run P w = .ok (.int k (wr k (.ofNat (Nat.lor a b)))) w := by
  have h : k.wrap (Int.ofNat (Nat.lor a b)) = k.wrap (((BitVec.ofInt k.bits (Int.ofNat a) ||| BitVec.ofInt k.bits (Int.ofNat b)).toNat : Nat) : Int) := by
    apply emod_nat
    rw [BitVec.toNat_or, bv_nat, bv_nat]
    show (a ||| b) % _ = _
    rw [Nat.or_mod_two_pow, Nat.or_mod_two_pow]
    simp
  rw [wr_eq, h]
  rfl
theorem intBits_xor (k : IntKind) (a b : Nat) : (Op.intBits .xor k (.ofNat a) (.ofNat b)).run P w = .ok (.int k (wr k (.ofNat (Nat.xor a b)))) w := by
  have h : k.wrap (Int.ofNat (Nat.xor a b)) = k.wrap (((BitVec.ofInt k.bits (Int.ofNat a) ^^^ BitVec.ofInt k.bits (Int.ofNat b)).toNat : Nat) : Int) := by
    apply emod_nat
    rw [BitVec.toNat_xor, bv_nat, bv_nat]
    show (a ^^^ b) % _ = _
    rw [Nat.xor_mod_two_pow, Nat.xor_mod_two_pow]
    simp
  rw [wr_eq, h]
  rfl
theorem bv_andNot {n : Nat} (x y : BitVec n) : x &&& ~~~y = x ^^^ (x &&& y) := by
  apply BitVec.eq_of_getLsbD_eq
  intro i hi
  simp [hi]
  cases x[i] <;> cases y[i] <;> rfl
theorem intBits_andNot (k : IntKind) (a b : Nat) : (Op.intBits .andNot k (.ofNat a) (.ofNat b)).run P w = .ok (.int k (wr k (.ofNat (Nat.xor a (Nat.land a b))))) w := by
  have h : k.wrap (Int.ofNat (Nat.xor a (Nat.land a b))) = k.wrap (((BitVec.ofInt k.bits (Int.ofNat a) &&& ~~~BitVec.ofInt k.bits (Int.ofNat b)).toNat : Nat) : Int) := by
    apply emod_nat
    rw [bv_andNot, BitVec.toNat_xor, BitVec.toNat_and, bv_nat, bv_nat]
    show (a ^^^ (a &&& b)) % _ = _
    rw [Nat.xor_mod_two_pow, Nat.and_mod_two_pow, Nat.xor_mod_two_pow, Nat.and_mod_two_pow]
    simp
  rw [wr_eq, h]
  rfl
theorem intBits_nand (k : IntKind) (a b : Nat) : (Op.intBits .and k (.negSucc a) (.ofNat b)).run P w = .ok (.int k (wr k (.ofNat (Nat.xor b (Nat.land b a))))) w := by
  have h : k.wrap (Int.ofNat (Nat.xor b (Nat.land b a))) = k.wrap (((BitVec.ofInt k.bits (Int.negSucc a) &&& BitVec.ofInt k.bits (Int.ofNat b)).toNat : Nat) : Int) := by
    have e : BitVec.ofInt k.bits (Int.negSucc a) = ~~~BitVec.ofInt k.bits (Int.ofNat a) := by
      rw [BitVec.ofInt_negSucc_eq_not_ofNat]
      exact congrArg _ (BitVec.ofInt_natCast ..).symm
    apply emod_nat
    rw [e, BitVec.and_comm, bv_andNot, BitVec.toNat_xor, BitVec.toNat_and, bv_nat, bv_nat]
    show (b ^^^ (b &&& a)) % _ = _
    rw [Nat.xor_mod_two_pow, Nat.and_mod_two_pow, Nat.xor_mod_two_pow, Nat.and_mod_two_pow]
    simp
  rw [wr_eq, h]
  rfl
theorem binI_ok {op : BinOp} {k : IntKind} {a b : Int} {v : Value} (t : TypeId) (h : binI op k a b = some v) (h1 : op ≠ .shl) (h2 : op ≠ .shr) :
    (Go.binOp op t (.int k a) (.int k b)).run P w = .ok v w := by
  cases op <;> simp only [binI] at h
  case add => injection h with h; subst h; rw [wr_eq]; simp [Go.binOp, Op.intArith]
  case sub => injection h with h; subst h; rw [wr_eq]; simp only [Go.binOp, ne_eq, not_true_eq_false, if_false]; rfl
  case mul => injection h with h; subst h; rw [wr_eq]; simp [Go.binOp, Op.intArith]
  case quo =>
    split at h
    · cases h
    · rename_i hb
      injection h with h; subst h; rw [wr_eq]
      rw [eqI_eq] at hb
      have hb' : b ≠ 0 := by simpa using hb
      simp [Go.binOp, Op.intDiv, hb']
  case rem =>
    split at h
    · cases h
    · rename_i hb
      injection h with h; subst h
      rw [eqI_eq] at hb
      have hb' : b ≠ 0 := by simpa using hb
      simp [Go.binOp, Op.intDiv, hb']
  case eql => injection h with h; subst h; rw [eqI_eq]; simp [Go.binOp, Op.intCmp]
  case neq => injection h with h; subst h; rw [eqI_eq]; simp [Go.binOp, Op.intCmp, bne]
  case lss => injection h with h; subst h; rw [ltI_eq]; simp [Go.binOp, Op.intCmp]
  case leq =>
    injection h with h; subst h; rw [ltI_eq]
    have : (!decide (b < a)) = decide (a ≤ b) := by rw [Bool.eq_iff_iff]; simp
    rw [this]; simp [Go.binOp, Op.intCmp]
  case gtr => injection h with h; subst h; rw [ltI_eq]; simp [Go.binOp, Op.intCmp]
  case geq =>
    injection h with h; subst h; rw [ltI_eq]
    have : (!decide (a < b)) = decide (b ≤ a) := by rw [Bool.eq_iff_iff]; simp
    rw [this]; simp [Go.binOp, Op.intCmp]
  case and =>
    split at h
    · injection h with h; subst h
      have := intBits_and (P := P) (w := w) k
      simp only [Go.binOp, ne_eq, not_true_eq_false, if_false]; exact this _ _
    · injection h with h; subst h
      have := intBits_nand (P := P) (w := w) k
      simp only [Go.binOp, ne_eq, not_true_eq_false, if_false]; exact this _ _
    · cases h
  case or =>
    split at h
    · injection h with h; subst h
      have := intBits_or (P := P) (w := w) k
      simp only [Go.binOp, ne_eq, not_true_eq_false, if_false]; exact this _ _
    · cases h
  case xor =>
    split at h
    · injection h with h; subst h
      have := intBits_xor (P := P) (w := w) k
      simp only [Go.binOp, ne_eq, not_true_eq_false, if_false]; exact this _ _
    · cases h
  case andNot =>
    split at h
    · injection h with h; subst h
      have := intBits_andNot (P := P) (w := w) k
      simp only [Go.binOp, ne_eq, not_true_eq_false, if_false]; exact this _ _
    · cases h
  all_goals cases h
theorem shI_ok {op : BinOp} {k k' : IntKind} {a b : Int} {v : Value} (t : TypeId) (h : shI op k a b = some v) :
    (Go.binOp op t (.int k a) (.int k' b)).run P w = .ok v w := by
  unfold shI at h
  split at h
  · rename_i a b
    split at h
    · injection h with h; subst h
      rw [wr_eq, kbits_eq]
      have hn : ¬ ((b : Int) < 0) := by omega
      have e : Int.ofNat (Nat.shiftLeft a (Nat.min b k.bits)) = Int.ofNat a * 2 ^ (min b k.bits) := by
        show ((a <<< (min b k.bits) : Nat) : Int) = (a : Int) * _
        rw [Nat.shiftLeft_eq]; norm_cast
      rw [e]
      simp only [Go.binOp]
      simp [Op.shift, hn]
    · injection h with h; subst h
      rw [kbits_eq]
      have hn : ¬ ((b : Int) < 0) := by omega
      have e : Int.ofNat (Nat.shiftRight a (Nat.min b k.bits)) = (Int.ofNat a).fdiv (2 ^ (min b k.bits)) := by
        show ((a >>> (min b k.bits) : Nat) : Int) = (a : Int).fdiv _
        rw [Nat.shiftRight_eq_div_pow, Int.fdiv_eq_ediv_of_nonneg _ (by exact_mod_cast Nat.zero_le _)]; norm_cast
      rw [e]
      simp only [Go.binOp]
      simp [Op.shift, hn]
    · cases h
  · cases h
end
end Go.Proofs.Ytcjddojcfdeflaa.Ev
namespace Go.Proofs.Ytcjddojcfdeflaa.Ev

/-- where a name's cells stand: block, first cell, how many -/
structure R where
  block : Nat
  base : Nat
  size : Nat
abbrev Rho := Nat → Option R
def Rho.le (ρ ρ' : Rho) : Prop := ∀ n r, ρ n = some r → ρ' n = some r
theorem Rho.le_refl (ρ : Rho) : ρ.le ρ := fun _ _ h => h
theorem Rho.le.trans {a b c : Rho} (h : a.le b) (k : b.le c) : a.le c := fun n r e => k n r (h n r e)

mutual
def Rel (ρ : Rho) : V → Value → Prop
  | .c v, x => x = v ∧ v.oneCell' = true
  | .s l, x => x = .string ⟨⟨l.map UInt8.ofNat⟩⟩ ∧ ∀ b, b ∈ l → b < 256
  | .p n o, x => ∃ r, ρ n = some r ∧ x = .pointer (some ⟨r.block, r.base + o, none⟩)
  | .sl n o len cap, x => ∃ r, ρ n = some r ∧ x = .slice (some ⟨r.block, r.base + o, none⟩) len cap
  | .sg n o len z, x => ∃ r, ρ n = some r ∧ 0 < z ∧ len ≤ (r.size - o) / z ∧ x = .slice (some ⟨r.block, r.base + o, none⟩) len ((r.size - o) / z)
  | .e, x => ∃ a c, x = .slice (some a) 0 c
  | .m n, x => ∃ r, ρ n = some r ∧ x = .map (some r.block)
  | .f fn a b, x => ∃ a' b', x = .func fn ⟨a'⟩ ⟨b'⟩ ∧ RelL ρ a a' ∧ RelL ρ b b'
  | .g l, x => ∃ l', x = .agg ⟨l'⟩ ∧ RelL ρ l l' ∧ l.all V.one = true
  | .t l, x => ∃ l', x = .tuple ⟨l'⟩ ∧ RelL ρ l l'
def RelL (ρ : Rho) : List V → List Value → Prop
  | [], l => l = []
  | v :: vs, l => ∃ x xs, l = x :: xs ∧ Rel ρ v x ∧ RelL ρ vs xs
end
mutual
theorem Rel.mono {ρ ρ' : Rho} (hρ : ρ.le ρ') : ∀ (v : V) (x : Value), Rel ρ v x → Rel ρ' v x
  | .c _, _, h => by simpa [Rel] using h
  | .s _, _, h => by simpa [Rel] using h
  | .p .., _, h => by simp only [Rel] at h ⊢; obtain ⟨r, h1, h2⟩ := h; exact ⟨r, hρ _ _ h1, h2⟩
  | .sl .., _, h => by simp only [Rel] at h ⊢; obtain ⟨r, h1, h2⟩ := h; exact ⟨r, hρ _ _ h1, h2⟩
  | .sg .., _, h => by simp only [Rel] at h ⊢; obtain ⟨r, h1, h2⟩ := h; exact ⟨r, hρ _ _ h1, h2⟩
  | .e, _, h => by simpa [Rel] using h
  | .m .., _, h => by simp only [Rel] at h ⊢; obtain ⟨r, h1, h2⟩ := h; exact ⟨r, hρ _ _ h1, h2⟩
  | .f fn a b, _, h => by
    simp only [Rel] at h ⊢
    obtain ⟨a', b', h1, h2, h3⟩ := h
    exact ⟨a', b', h1, RelL.mono hρ a a' h2, RelL.mono hρ b b' h3⟩
  | .g l, _, h => by
    simp only [Rel] at h ⊢
    obtain ⟨l', h1, h2, h3⟩ := h
    exact ⟨l', h1, RelL.mono hρ l l' h2, h3⟩
  | .t l, _, h => by
    simp only [Rel] at h ⊢
    obtain ⟨l', h1, h2⟩ := h
    exact ⟨l', h1, RelL.mono hρ l l' h2⟩
theorem RelL.mono {ρ ρ' : Rho} (hρ : ρ.le ρ') : ∀ (v : List V) (x : List Value), RelL ρ v x → RelL ρ' v x
  | [], _, h => by simpa [RelL] using h
  | v :: vs, _, h => by
    simp only [RelL] at h ⊢
    obtain ⟨x, xs, h1, h2, h3⟩ := h
    exact ⟨x, xs, h1, Rel.mono hρ v x h2, RelL.mono hρ vs xs h3⟩
end
section
variable {ρ : Rho}
theorem RelL.length : ∀ {v : List V} {x : List Value}, RelL ρ v x → x.length = v.length
  | [], _, h => by simp only [RelL] at h; simp [h]
  | _ :: _, _, h => by simp only [RelL] at h; obtain ⟨x, xs, rfl, _, h3⟩ := h; simp [RelL.length h3]
theorem RelL.nil : RelL ρ [] [] := by simp [RelL]
theorem RelL.cons {v : V} {x : Value} {vs : List V} {xs : List Value} (h : Rel ρ v x) (k : RelL ρ vs xs) : RelL ρ (v :: vs) (x :: xs) := by
  simp only [RelL]; exact ⟨x, xs, rfl, h, k⟩
theorem RelL.append : ∀ {v u : List V} {x y : List Value}, RelL ρ v x → RelL ρ u y → RelL ρ (v ++ u) (x ++ y)
  | [], _, _, _, h, k => by simp only [RelL] at h; subst h; exact k
  | _ :: _, _, _, _, h, k => by
    simp only [RelL] at h
    obtain ⟨x, xs, rfl, h2, h3⟩ := h
    exact .cons h2 (RelL.append h3 k)
theorem RelL.take : ∀ {v : List V} {x : List Value} (n : Nat), RelL ρ v x → RelL ρ (v.take n) (x.take n)
  | _, _, 0, _ => by simp [RelL]
  | [], _, _ + 1, h => by simp only [RelL] at h; subst h; simp [RelL]
  | _ :: _, _, n + 1, h => by
    simp only [RelL] at h
    obtain ⟨x, xs, rfl, h2, h3⟩ := h
    exact .cons h2 (RelL.take n h3)
theorem RelL.drop : ∀ {v : List V} {x : List Value} (n : Nat), RelL ρ v x → RelL ρ (v.drop n) (x.drop n)
  | _, _, 0, h => by simpa using h
  | [], _, _ + 1, h => by simp only [RelL] at h; subst h; simp [RelL]
  | _ :: _, _, n + 1, h => by
    simp only [RelL] at h
    obtain ⟨x, xs, rfl, h2, h3⟩ := h
    exact RelL.drop n h3
theorem RelL.get : ∀ {v : List V} {x : List Value} {i : Nat} {a : V}, RelL ρ v x → v[i]? = some a → ∃ y, x[i]? = some y ∧ Rel ρ a y
  | [], _, _, _, _, e => by simp at e
  | _ :: _, _, 0, _, h, e => by
    simp only [RelL] at h
    obtain ⟨x, xs, rfl, h2, h3⟩ := h
    simp at e; subst e
    exact ⟨x, by simp, h2⟩
  | _ :: _, _, i + 1, _, h, e => by
    simp only [RelL] at h
    obtain ⟨x, xs, rfl, h2, h3⟩ := h
    obtain ⟨y, h4, h5⟩ := RelL.get (i := i) h3 (by simpa using e)
    exact ⟨y, by simpa using h4, h5⟩
theorem RelL.of_get : ∀ {v : List V} {x : List Value}, x.length = v.length → (∀ (i : Nat) (a : V), v[i]? = some a → ∃ y, x[i]? = some y ∧ Rel ρ a y) → RelL ρ v x
  | [], [], _, _ => .nil
  | [], _ :: _, h, _ => by simp at h
  | _ :: _, [], h, _ => by simp at h
  | a :: v, y :: x, h, k => by
    refine .cons ?_ (RelL.of_get (by simpa using h) fun i b hb => ?_)
    · obtain ⟨z, h1, h2⟩ := k 0 a (by simp)
      simp at h1; subst h1; exact h2
    · obtain ⟨z, h1, h2⟩ := k (i + 1) b (by simpa using hb)
      exact ⟨z, by simpa using h1, h2⟩
theorem Rel.oneCell {v : V} {x : Value} (h : Rel ρ v x) (ho : v.one = true) : x.oneCell' = true := by
  cases v <;> simp only [Rel] at h
  case c => obtain ⟨rfl, h⟩ := h; exact h
  case s => obtain ⟨rfl, _⟩ := h; rfl
  case p => obtain ⟨_, _, rfl⟩ := h; rfl
  case sl => obtain ⟨_, _, rfl⟩ := h; rfl
  case sg => obtain ⟨_, _, _, _, rfl⟩ := h; rfl
  case e => obtain ⟨_, _, rfl⟩ := h; rfl
  case m => obtain ⟨_, _, rfl⟩ := h; rfl
  case f => obtain ⟨_, _, rfl, _⟩ := h; rfl
  case g => simp [V.one] at ho
  case t => simp [V.one] at ho
theorem RelL.oneCell : ∀ {v : List V} {x : List Value}, RelL ρ v x → v.all V.one = true → ∀ y, y ∈ x → y.oneCell' = true
  | [], _, h, _, y, hy => by simp only [RelL] at h; subst h; cases hy
  | _ :: _, _, h, ho, y, hy => by
    simp only [RelL] at h
    obtain ⟨x, xs, rfl, h2, h3⟩ := h
    simp only [List.all_cons, Bool.and_eq_true] at ho
    cases hy with
    | head => exact h2.oneCell ho.1
    | tail _ hy => exact h3.oneCell ho.2 y hy
theorem rel_u : Rel ρ .u undef := by simp only [Rel]; exact ⟨[], rfl, .nil⟩
theorem rel_int (k : IntKind) (n : Int) : Rel ρ (.int k n) (.int k n) := by simp [Rel, Value.oneCell']
theorem rel_bool (b : Bool) : Rel ρ (.bool b) (.bool b) := by simp [Rel, Value.oneCell']
end
/-! ### constants -/
section
variable {β : Type} {r : β}
theorem fA_inv {v : Value} {k : V → Option β} (h : fA v k = some r) : ∃ a, k a = some r ∧ a.one = true ∧ ∀ ρ, Rel ρ a v := by
  unfold fA at h
  split at h
  · rw [fi_eq] at h; exact ⟨_, h, rfl, fun ρ => rel_int _ _⟩
  · rw [fb_eq] at h; exact ⟨_, h, rfl, fun ρ => rel_bool _⟩
  · rename_i b
    rw [fl_eq] at h
    refine ⟨_, h, rfl, fun ρ => ?_⟩
    simp only [Rel, bytes]
    constructor
    · congr 1
      cases b with
      | mk d => cases d with
        | mk l =>
          congr 2
          have : ∀ l : List UInt8, l = (l.map fun x => x.toNat).map UInt8.ofNat := fun l => by
            induction l with
            | nil => rfl
            | cons a l ih => simp [← ih]
          exact this l
    · intro x hx
      obtain ⟨y, _, rfl⟩ := List.mem_map.1 hx
      exact y.toNat_lt
  all_goals first
    | (exact ⟨_, h, rfl, fun ρ => by simp [Rel, Value.oneCell']⟩)
    | (cases h)
theorem fAs_inv : ∀ {l : List Value} {k : List V → Option β}, fAs l k = some r → ∃ as, k as = some r ∧ as.all V.one = true ∧ ∀ ρ, RelL ρ as l
  | [], k, h => ⟨[], h, rfl, fun _ => .nil⟩
  | v :: l, k, h => by
    have h' : fA v (fun x => fAs l fun l => k (x :: l)) = some r := h
    obtain ⟨a, h1, h2, h3⟩ := fA_inv h'
    obtain ⟨as, h4, h5, h6⟩ := fAs_inv h1
    exact ⟨a :: as, h4, by simp [h2, h5], fun ρ => .cons (h3 ρ) (h6 ρ)⟩
theorem ofV_inv {v : Value} {k : V → Option β} (h : ofV v k = some r) : ∃ a, k a = some r ∧ ∀ ρ, Rel ρ a v := by
  unfold ofV at h
  split at h
  · rename_i cs
    obtain ⟨as, h1, h2, h3⟩ := fAs_inv h
    refine ⟨_, h1, fun ρ => ?_⟩
    simp only [Rel]
    exact ⟨cs.toList, by simp, h3 ρ, h2⟩
  · exact ⟨_, h, fun ρ => rel_u⟩
  · obtain ⟨a, h1, _, h3⟩ := fA_inv h
    exact ⟨a, h1, h3⟩
end
/-! ### operands -/
def TmpRel (ρ : Rho) (e : Env) (a : Act) (x : Operand) : Prop := ∀ t, x = .tmp t → Rel ρ ((e.get t).getD .u) (a.tmps.getD t undef)
section
variable {β : Type} {r : β} {e : Env}
theorem opd_inv {x : Operand} {k : V → Option β} (h : opd e x k = some r) : ∃ v, k v = some r ∧ ∀ (ρ : Rho) (a : Act), TmpRel ρ e a x → Rel ρ v (a.eval x) := by
  unfold opd at h
  split at h
  · rename_i t
    split at h
    · rename_i v hv
      exact ⟨v, h, fun ρ a ha => by have := ha t rfl; rw [hv] at this; exact this⟩
    · rename_i hv
      exact ⟨.u, h, fun ρ a ha => by have := ha t rfl; rw [hv] at this; exact this⟩
  · obtain ⟨v, h1, h2⟩ := ofV_inv h
    exact ⟨v, h1, fun ρ a _ => h2 ρ⟩
  · refine ⟨_, h, fun ρ a _ => ?_⟩
    simp only [Rel]
    exact ⟨[], [], rfl, .nil, .nil⟩
  · cases h
theorem opds_inv : ∀ {l : List Operand} {k : List V → Option β}, opds e l k = some r → ∃ vs, k vs = some r ∧ ∀ (ρ : Rho) (a : Act), (∀ x, x ∈ l → TmpRel ρ e a x) → RelL ρ vs (l.map a.eval)
  | [], k, h => ⟨[], h, fun _ _ _ => .nil⟩
  | x :: l, k, h => by
    have h' : opd e x (fun v => opds e l fun l => k (v :: l)) = some r := h
    obtain ⟨v, h1, h2⟩ := opd_inv h'
    obtain ⟨vs, h3, h4⟩ := opds_inv h1
    exact ⟨v :: vs, h3, fun ρ a ha => .cons (h2 ρ a (ha x (by simp))) (h4 ρ a fun y hy => ha y (by simp [hy]))⟩
theorem asNat_inv {v : V} {k : Nat → Option β} (h : asNat v k = some r) : ∃ i n, v = .c (.int i (.ofNat n)) ∧ k n = some r := by
  unfold asNat at h
  split at h
  · exact ⟨_, _, rfl, h⟩
  · cases h
theorem cellsOf_inv {v : V} {k : List V → Option β} (h : cellsOf v k = some r) : ∃ cs, k cs = some r ∧ ∀ (ρ : Rho) (x : Value), Rel ρ v x → RelL ρ cs x.cells.toList ∧ cs.all V.one = true := by
  unfold cellsOf at h
  split at h
  · cases h
  · refine ⟨_, h, fun ρ x hx => ?_⟩
    simp only [Rel] at hx
    obtain ⟨l', rfl, h1, h2⟩ := hx
    exact ⟨h1, h2⟩
  · rename_i h1 h2
    refine ⟨_, h, fun ρ x hx => ?_⟩
    have ho : v.one = true := by
      cases v <;> first | rfl | (exact absurd rfl (h2 _)) | (exact absurd rfl (h1 _))
    have hc : x.cells = #[x] := by
      have := hx.oneCell ho
      cases x <;> first | rfl | (simp [Value.oneCell'] at this)
    rw [hc]
    exact ⟨.cons hx .nil, by simp [ho]⟩
theorem szOf_inv {P : Program} {t : TypeId} {k : Nat → Option β} (h : szOf P t k = some r) : ∃ i, P.info? t = some i ∧ k i.size = some r := by
  unfold szOf at h
  split at h
  · cases h
  · rename_i i hi; exact ⟨i, hi, h⟩
theorem elemOf_inv {P : Program} {t : TypeId} {k : TypeId → Nat → Option β} (h : elemOf P t k = some r) : ∃ el i, P.underlying t = some (.slice el) ∧ P.info? el = some i ∧ k el i.size = some r := by
  unfold elemOf at h
  split at h
  · rename_i el hel
    obtain ⟨i, h1, h2⟩ := szOf_inv h
    exact ⟨el, i, hel, h1, h2⟩
  · cases h
theorem zero_inv {P : Program} {t : TypeId} {k : List V → Option β} (h : zero P t k = some r) : ∃ i z cs, P.info? t = some i ∧ i.zero = some z ∧ k cs = some r ∧ cs.all V.one = true ∧ ∀ ρ, RelL ρ cs z.cells.toList := by
  unfold zero at h
  split at h
  · cases h
  · rename_i i hi
    split at h
    · cases h
    · rename_i z hz
      obtain ⟨cs, h1, h2, h3⟩ := fAs_inv h
      exact ⟨i, z, cs, hi, hz, h1, h2, h3⟩
theorem bnd_inv {d : Nat} {x : Option Operand} {k : Nat → Option β} (h : bnd e d x k = some r) : ∃ n, k n = some r ∧ ((x = none ∧ n = d) ∨ ∃ o, x = some o ∧ ∃ i, ∀ (ρ : Rho) (a : Act), TmpRel ρ e a o → a.eval o = .int i (.ofNat n)) := by
  unfold bnd at h
  split at h
  · exact ⟨d, h, .inl ⟨rfl, rfl⟩⟩
  · rename_i o
    obtain ⟨v, h1, h2⟩ := opd_inv h
    obtain ⟨i, n, rfl, h3⟩ := asNat_inv h1
    refine ⟨n, h3, .inr ⟨o, rfl, i, fun ρ a ha => ?_⟩⟩
    have := h2 ρ a ha
    simp only [Rel] at this
    exact this.1
end
end Go.Proofs.Ytcjddojcfdeflaa.Ev
namespace Go.Proofs.Ytcjddojcfdeflaa.Ev
open Go.RowKit

abbrev Mem := Nat → Option B
def upd {α : Type} (f : Nat → Option α) (n : Nat) (b : α) : Nat → Option α := fun m => if m = n then some b else f m
theorem upd_same {α : Type} (f : Nat → Option α) (n : Nat) (b : α) : upd f n b n = some b := by simp [upd]
theorem upd_ne {α : Type} (f : Nat → Option α) {n m : Nat} (b : α) (h : m ≠ n) : upd f n b m = f m := by simp [upd, h]

def B.live : B → Prop
  | .gone => False
  | .cs ty _ _ => ty ≠ roT
  | _ => True
def B.has : B → Prop
  | .gone => False
  | _ => True
theorem B.live.has {b : B} (h : b.live) : b.has := by cases b <;> first | exact trivial | exact h
def FrOk (fr : Nat × Nat) (n : Nat) : Prop := fr.1 = fr.2 ∨ n ≤ fr.1
def FrZ (fr : Nat × Nat) (_ : Nat) : Prop := fr.1 = fr.2 ∨ False
theorem FrZ.eq {fr : Nat × Nat} {n : Nat} (h : FrZ fr n) : fr.1 = fr.2 := h.elim id False.elim
theorem FrOk.no {fr : Nat × Nat} {n i : Nat} (h : FrOk fr n) (hi : i < n) : ¬ (fr.1 ≤ i ∧ i < fr.2) := by
  unfold FrOk at h; omega
def RelE (ρ : Rho) (x : MEnt) (y : MapEntry) : Prop := Rel ρ x.1 y.key ∧ Rel ρ x.2.1 y.val ∧ y.born = x.2.2
def MRel (ρ : Rho) : List MEnt → List MapEntry → Prop
  | [], [] => True
  | x :: l, y :: es => RelE ρ x y ∧ MRel ρ l es
  | _, _ => False
theorem MRel.mono {ρ ρ' : Rho} (hρ : ρ.le ρ') : ∀ {l : List MEnt} {es : List MapEntry}, MRel ρ l es → MRel ρ' l es
  | [], [], _ => trivial
  | _ :: _, _ :: _, h => ⟨⟨Rel.mono hρ _ _ h.1.1, Rel.mono hρ _ _ h.1.2.1, h.1.2.2⟩, MRel.mono hρ h.2⟩
  | [], _ :: _, h => h.elim
  | _ :: _, [], h => h.elim
def Blk (ρ : Rho) (b : B) (r : R) (w : World) : Prop := match b with
  | .cs ty0 sz t => ∃ (ty : TypeId) (cells : Array Value) (fr : Nat × Nat), w.heap[r.block]? = some (.cells cells ty fr) ∧ cells.size = r.base + r.size ∧ sz ≤ r.size ∧ (ty0 ≠ roT → FrOk fr cells.size ∧ (ty0 ≠ unT → ty = ty0 ∧ r.base = 0 ∧ fr.1 = fr.2)) ∧
      ∀ i v, t.get i = some v → i < sz ∧ v.one = true ∧ ∃ x, cells[r.base + i]? = some x ∧ Rel ρ v x
  | .mp l clock => ∃ es : Array MapEntry, w.heap[r.block]? = some (.map es clock) ∧ MRel ρ l es.toList
  | .it l pos => w.heap[r.block]? = some (.stringIter ⟨⟨l.map UInt8.ofNat⟩⟩ pos) ∧ r.base = 0 ∧ ∀ b, b ∈ l → b < 256
  | .gone => True
/-- what is pinned lies below and holds what it holds -/
def Kept (B0 : Nat) (w : World) : Prop := ∀ p, p ∈ pins → p.1 < B0 ∧ ∃ ty, w.heap[p.1]? = some (.cells p.2 ty (0, 0))
theorem Kept.of {B0 : Nat} {w w' : World} (h : Kept B0 w) (hk : ∀ k, k < B0 → w'.heap[k]? = w.heap[k]?) : Kept B0 w' := fun p hp => by
  obtain ⟨h1, ty, h2⟩ := h p hp
  exact ⟨h1, ty, (hk p.1 h1).trans h2⟩
theorem Kept.up {B0 B1 : Nat} {w : World} (h : Kept B0 w) (hk : B0 ≤ B1) : Kept B1 w := fun p hp => ⟨Nat.lt_of_lt_of_le (h p hp).1 hk, (h p hp).2⟩
structure Real (ρ : Rho) (B0 : Nat) (τ : Mem) (w : World) : Prop where
  size : B0 ≤ w.heap.size
  blk : ∀ n b, τ n = some b → ∃ r, ρ n = some r ∧ (b.live → B0 ≤ r.block) ∧ r.block < w.heap.size ∧ Blk ρ b r w
  inj : ∀ n m b b' r r', τ n = some b → τ m = some b' → b.live → b'.has → n ≠ m → ρ n = some r → ρ m = some r' → r.block ≠ r'.block
  kept : Kept B0 w
def Wf (st : St) : Prop := ∀ n, st.nx ≤ n → st.h.get n = none
def Agree (c : Cx) (st : St) (τ : Mem) : Prop := ∀ n b, c.ok n = true → st.h.get n = some b → τ n = some b
def Fresh (ρ : Rho) (st st' : St) : Prop := ∀ n, st.nx ≤ n → n < st'.nx → ρ n = none
def Dom (ρ ρ' : Rho) (st st' : St) : Prop := ∀ n r, ρ' n = some r → ρ n = some r ∨ (st.nx ≤ n ∧ n < st'.nx)
noncomputable def ov (st st' : St) (τ : Mem) : Mem := open Classical in fun n => if st.nx ≤ n ∧ n < st'.nx then st'.h.get n else if st.h.get n = st'.h.get n then τ n else st'.h.get n
structure StepOk (c : Cx) (st st' : St) : Prop where
  le : st.nx ≤ st'.nx
  chg : ∀ n, n < st.nx → st.h.get n ≠ st'.h.get n → c.ok n = true ∧ st.h.get n ≠ none ∧ st'.h.get n ≠ none ∧ c.wb ≤ n
  wf : Wf st → Wf st'
  live : ∀ n, n < st.nx → st.h.get n ≠ st'.h.get n → ∀ b, st.h.get n = some b → b.live

theorem Blk.mono {ρ ρ' : Rho} (hρ : ρ.le ρ') {b : B} {r : R} {w : World} (h : Blk ρ b r w) : Blk ρ' b r w := by
  cases b with
  | cs ty sz t =>
    obtain ⟨ty', cells, fr, h1, h2, h3, h4, h5⟩ := h
    exact ⟨ty', cells, fr, h1, h2, h3, h4, fun i v hv => by obtain ⟨h6, h7, x, h8, h9⟩ := h5 i v hv; exact ⟨h6, h7, x, h8, h9.mono hρ⟩⟩
  | it l pos => exact h
  | mp l clock => obtain ⟨es, h1, h2⟩ := h; exact ⟨es, h1, h2.mono hρ⟩
  | _ => trivial
theorem Blk.congr {ρ : Rho} {b : B} {r : R} {w w' : World} (h : Blk ρ b r w) (hw : w'.heap[r.block]? = w.heap[r.block]?) : Blk ρ b r w' := by
  cases b with
  | cs ty sz t =>
    obtain ⟨ty', cells, fr, h1, h2⟩ := h
    exact ⟨ty', cells, fr, hw.trans h1, h2⟩
  | it l pos => exact ⟨hw.trans h.1, h.2⟩
  | mp l clock => obtain ⟨es, h1, h2⟩ := h; exact ⟨es, hw.trans h1, h2⟩
  | _ => trivial

/-! ### overlays -/
theorem ov_self (st : St) (τ : Mem) : ov st st τ = τ := by
  funext n
  unfold ov
  rw [if_neg (by omega), if_pos rfl]
theorem ov_eq {st st' : St} {τ τ' : Mem} (h1 : ∀ n, st.nx ≤ n → n < st'.nx → τ' n = st'.h.get n) (h2 : ∀ n, ¬ (st.nx ≤ n ∧ n < st'.nx) → st.h.get n ≠ st'.h.get n → τ' n = st'.h.get n)
    (h3 : ∀ n, ¬ (st.nx ≤ n ∧ n < st'.nx) → st.h.get n = st'.h.get n → τ' n = τ n) : ov st st' τ = τ' := by
  funext n
  unfold ov
  split
  · rename_i h; exact (h1 n h.1 h.2).symm
  · rename_i h
    split
    · rename_i e; exact (h3 n h e).symm
    · rename_i e; exact (h2 n h e).symm
theorem StepOk.refl (c : Cx) (st : St) : StepOk c st st := ⟨Nat.le_refl _, fun _ _ h => absurd rfl h, id, fun _ _ h => absurd rfl h⟩
theorem StepOk.trans {c : Cx} {s1 s2 s3 : St} (h : StepOk c s1 s2) (k : StepOk c s2 s3) : StepOk c s1 s3 :=
  ⟨Nat.le_trans h.le k.le, fun n hn he => by
    by_cases e : s1.h.get n = s2.h.get n
    · have := k.chg n (Nat.lt_of_lt_of_le hn h.le) (by rw [← e]; exact he)
      exact ⟨this.1, by rw [e]; exact this.2.1, this.2.2⟩
    · have h1 := h.chg n hn e
      refine ⟨h1.1, h1.2.1, ?_, h1.2.2.2⟩
      by_cases e2 : s2.h.get n = s3.h.get n
      · rw [← e2]; exact h1.2.2.1
      · exact (k.chg n (Nat.lt_of_lt_of_le hn h.le) e2).2.2.1, fun hw => k.wf (h.wf hw), fun n hn he b hb => by
    by_cases e : s1.h.get n = s2.h.get n
    · exact k.live n (Nat.lt_of_lt_of_le hn h.le) (by rw [← e]; exact he) b (by rw [← e]; exact hb)
    · exact h.live n hn e b hb⟩
theorem ov_trans {c : Cx} {s1 s2 s3 : St} {τ : Mem} (h : StepOk c s1 s2) (k : StepOk c s2 s3) (hw : Wf s1) (ha : Agree c s1 τ) : ov s2 s3 (ov s1 s2 τ) = ov s1 s3 τ := by
  have hw2 := h.wf hw
  have hw3 := k.wf hw2
  have l1 := h.le
  have l2 := k.le
  symm
  apply ov_eq
  · intro n h1 h2
    unfold ov
    by_cases h3 : n < s2.nx
    · rw [if_neg (by omega)]
      by_cases e : s2.h.get n = s3.h.get n
      · rw [if_pos e, if_pos ⟨h1, h3⟩, e]
      · rw [if_neg e]
    · rw [if_pos (by omega)]
  · intro n h1 e
    unfold ov
    by_cases h3 : n < s1.nx
    · rw [if_neg (by omega)]
      by_cases e2 : s2.h.get n = s3.h.get n
      · rw [if_pos e2, if_neg (by omega)]
        rw [if_neg (by rw [e2]; exact e), e2]
      · rw [if_neg e2]
    · have h4 : s3.nx ≤ n := by omega
      exact absurd ((hw n (by omega)).trans (hw3 n h4).symm) e
  · intro n h1 e
    unfold ov
    by_cases h3 : n < s1.nx
    · rw [if_neg (by omega)]
      by_cases e2 : s2.h.get n = s3.h.get n
      · rw [if_pos e2, if_neg (by omega), if_pos (e.trans e2.symm)]
      · rw [if_neg e2]
        by_cases e1 : s1.h.get n = s2.h.get n
        · exact absurd (e1.symm.trans e) e2
        · have h5 := h.chg n h3 e1
          cases hg : s1.h.get n with
          | none => exact absurd hg h5.2.1
          | some b => rw [← e, hg, ha n b h5.1 hg]
    · have h4 : s3.nx ≤ n := by omega
      rw [if_neg (by omega)]
      have e2 : s2.h.get n = s3.h.get n := (hw2 n (by omega)).trans (hw3 n h4).symm
      rw [if_pos e2, if_neg (by omega)]
      have e1 : s1.h.get n = s2.h.get n := (hw n (by omega)).trans (hw2 n (by omega)).symm
      rw [if_pos e1]
theorem Agree.step {c : Cx} {s1 s2 : St} {τ : Mem} (h : StepOk c s1 s2) (hw : Wf s1) (ha : Agree c s1 τ) : Agree c s2 (ov s1 s2 τ) := by
  intro n b hn hb
  unfold ov
  have hw2 := h.wf hw
  by_cases h1 : s1.nx ≤ n ∧ n < s2.nx
  · rw [if_pos h1]; exact hb
  · rw [if_neg h1]
    by_cases e : s1.h.get n = s2.h.get n
    · rw [if_pos e]; exact ha n b hn (e.trans hb)
    · rw [if_neg e]; exact hb
theorem Fresh.left {ρ : Rho} {s1 s2 s3 : St} (h : Fresh ρ s1 s3) (k : s2.nx ≤ s3.nx) : Fresh ρ s1 s2 := fun n h1 h2 => h n h1 (by omega)
theorem Fresh.right {ρ ρ' : Rho} {s1 s2 s3 : St} (h : Fresh ρ s1 s3) (l : s1.nx ≤ s2.nx) (d : Dom ρ ρ' s1 s2) : Fresh ρ' s2 s3 := fun n h1 h2 => by
  cases e : ρ' n with
  | none => rfl
  | some r =>
    rcases d n r e with k | k
    · rw [h n (by omega) h2] at k; cases k
    · omega
theorem Dom.trans {ρ1 ρ2 ρ3 : Rho} {s1 s2 s3 : St} (h : Dom ρ1 ρ2 s1 s2) (k : Dom ρ2 ρ3 s2 s3) (l1 : s1.nx ≤ s2.nx) (l2 : s2.nx ≤ s3.nx) : Dom ρ1 ρ3 s1 s3 := fun n r e => by
  rcases k n r e with e | e
  · rcases h n r e with e | e
    · exact .inl e
    · exact .inr ⟨e.1, by omega⟩
  · exact .inr ⟨by omega, e.2⟩
theorem Dom.refl (ρ : Rho) (s s' : St) : Dom ρ ρ s s' := fun _ _ e => .inl e

/-! ### the model's memory -/
theorem heap_setCells_ne (b : Nat) : ∀ (vs : List Value) (o : Nat) (w : World) (k : Nat), k ≠ b → (w.setCells b o vs).heap[k]? = w.heap[k]?
  | [], _, _, _, _ => rfl
  | v :: vs, o, w, k, h => (heap_setCells_ne b vs (o + 1) _ k h).trans (Below.heap_setCell w ⟨b, o, none⟩ v k h)
theorem size_setCells' (b : Nat) : ∀ (vs : List Value) (o : Nat) (w : World), (w.setCells b o vs).heap.size = w.heap.size
  | [], _, _ => rfl
  | v :: vs, o, w => (size_setCells' b vs (o + 1) _).trans (by simp [World.setCell])
theorem heap_setCells_at (b : Nat) (ty : TypeId) (fr : Nat × Nat) : ∀ (vs : List Value) (o : Nat) (w : World) (arr : Array Value), w.heap[b]? = some (.cells arr ty fr) → o + vs.length ≤ arr.size →
    ∃ arr' : Array Value, (w.setCells b o vs).heap[b]? = some (.cells arr' ty fr) ∧ arr'.size = arr.size ∧ ∀ i, arr'[i]? = if o ≤ i ∧ i < o + vs.length then vs[i - o]? else arr[i]?
  | [], o, w, arr, h, _ => ⟨arr, h, rfl, fun i => by rw [if_neg (by simp)]⟩
  | v :: vs, o, w, arr, h, hl => by
    simp only [List.length_cons] at hl
    have h1 : (w.setCell ⟨b, o, none⟩ v).heap[b]? = some (.cells (arr.setIfInBounds o v) ty fr) := by
      simp only [World.setCell, Array.getElem?_modify]
      rw [if_pos trivial, h]
      simp
    obtain ⟨arr', h2, h3, h4⟩ := heap_setCells_at b ty fr vs (o + 1) _ _ h1 (by simp; omega)
    refine ⟨arr', h2, by simpa using h3, fun i => ?_⟩
    rw [h4 i]
    by_cases hi : o + 1 ≤ i ∧ i < o + 1 + vs.length
    · rw [if_pos hi, if_pos (by simp; omega)]
      have : i - o = (i - (o + 1)) + 1 := by omega
      rw [this]; simp
    · rw [if_neg hi]
      by_cases hio : i = o
      · subst hio
        rw [if_pos (by simp)]
        have : i < arr.size := by omega
        simp [this]
      · rw [if_neg (by simp; omega), Array.getElem?_setIfInBounds_ne (by omega)]
theorem below_setCells' {B0 b : Nat} (hb : B0 ≤ b) : ∀ (vs : List Value) (o : Nat) (w : World), Below B0 w (w.setCells b o vs)
  | [], _, _ => Below.refl _ _
  | v :: vs, o, _ => ((Below.refl _ _).setCell (p := ⟨b, o, none⟩) hb v).trans (below_setCells' hb vs (o + 1) _)

/-! ### the steps of both -/
section
variable {ρ : Rho} {B0 : Nat} {τ : Mem} {w w' : World}
/-- nothing has turned but what is no memory. -/
theorem Real.same (h : Real ρ B0 τ w) (hh : w'.heap = w.heap) : Real ρ B0 τ w' :=
  ⟨by rw [hh]; exact h.size, fun n b e => by
    obtain ⟨r, h1, h2, h3, h4⟩ := h.blk n b e
    exact ⟨r, h1, h2, by rw [hh]; exact h3, h4.congr (by rw [hh])⟩, h.inj, h.kept.of fun k _ => by rw [hh]⟩
/-- a name more. -/
theorem Real.add (h : Real ρ B0 τ w) {n : Nat} {r : R} {b : B} (hn : ρ n = none) (hB : B0 ≤ r.block) (hr' : r.block < w'.heap.size) (hs : w.heap.size ≤ w'.heap.size)
    (ha : ∀ m b q, τ m = some b → b.has → ρ m = some q → q.block ≠ r.block) (hk : ∀ k, k < w.heap.size → k ≠ r.block → w'.heap[k]? = w.heap[k]?) (hb : Blk (upd ρ n r) b r w') : Real (upd ρ n r) B0 (upd τ n b) w' := by
  have hle : ρ.le (upd ρ n r) := fun m q e => by
    by_cases hm : m = n
    · subst hm; rw [hn] at e; cases e
    · rw [upd_ne _ _ hm]; exact e
  have hz := h.size
  refine ⟨by omega, fun m b' e => ?_, fun m k b1 b2 r1 r2 e1 e2 l1 l2 hmk q1 q2 => ?_, h.kept.of fun k hk1 => hk k (by omega) (by omega)⟩
  · by_cases hm : m = n
    · subst hm
      rw [upd_same] at e
      injection e with e; subst e
      exact ⟨r, upd_same _ _ _, fun _ => hB, hr', hb⟩
    · rw [upd_ne _ _ hm] at e
      obtain ⟨q, h1, h2, h3, h4⟩ := h.blk m b' e
      refine ⟨q, by rw [upd_ne _ _ hm]; exact h1, h2, by omega, ?_⟩
      by_cases hg : b'.has
      · exact (h4.congr (hk _ h3 (ha m b' q e hg h1))).mono hle
      · cases b' with
        | gone => trivial
        | _ => exact absurd trivial hg
  · by_cases hm : m = n
    · subst hm
      have hk' : k ≠ m := fun e => hmk e.symm
      rw [upd_same] at q1; injection q1 with q1; subst q1
      rw [upd_ne _ _ hk'] at q2 e2
      exact fun e => ha k b2 r2 e2 l2 q2 e.symm
    · rw [upd_ne _ _ hm] at q1 e1
      by_cases hk' : k = n
      · subst hk'
        rw [upd_same] at q2; injection q2 with q2; subst q2
        exact ha m b1 r1 e1 l1.has q1
      · rw [upd_ne _ _ hk'] at q2 e2
        exact h.inj m k b1 b2 r1 r2 e1 e2 l1 l2 hmk q1 q2
/-- a new block. -/
theorem Real.new (h : Real ρ B0 τ w) {n : Nat} {r : R} {b : B} (hn : ρ n = none) (hr : w.heap.size ≤ r.block) (hr' : r.block < w'.heap.size)
    (hk : ∀ k, k < w.heap.size → w'.heap[k]? = w.heap[k]?) (hb : Blk (upd ρ n r) b r w') : Real (upd ρ n r) B0 (upd τ n b) w' :=
  h.add hn (Nat.le_trans h.size hr) hr' (by omega) (fun m b q e _ e' => by
    obtain ⟨q', h1, _, h3, _⟩ := h.blk m b e
    rw [h1] at e'; injection e' with e'; subst e'; omega) (fun k hk' _ => hk k hk') hb
/-- a block that turns. -/
theorem Real.set (h : Real ρ B0 τ w) {n : Nat} {r : R} {b b' : B} (hn : τ n = some b) (hl : b.live) (hr : ρ n = some r) (hs : w'.heap.size = w.heap.size)
    (hk : ∀ k, k ≠ r.block → w'.heap[k]? = w.heap[k]?) (hb : Blk ρ b' r w') : Real ρ B0 (upd τ n b') w' := by
  refine ⟨by rw [hs]; exact h.size, fun m b2 e => ?_, fun m k b1 b2 r1 r2 e1 e2 l1 l2 hmk q1 q2 => ?_, h.kept.of fun k hk1 => hk k (by
    obtain ⟨q, h1, h2, _, _⟩ := h.blk n b hn
    rw [hr] at h1; injection h1 with h1; subst h1
    have := h2 hl
    omega)⟩
  · by_cases hm : m = n
    · subst hm
      rw [upd_same] at e
      injection e with e; subst e
      obtain ⟨q, h1, h2, h3, h4⟩ := h.blk m b hn
      rw [hr] at h1; injection h1 with h1; subst h1
      exact ⟨r, hr, fun _ => h2 hl, by rw [hs]; exact h3, hb⟩
    · rw [upd_ne _ _ hm] at e
      obtain ⟨q, h1, h2, h3, h4⟩ := h.blk m b2 e
      refine ⟨q, h1, h2, by rw [hs]; exact h3, ?_⟩
      by_cases hg : b2.has
      · exact h4.congr (hk _ fun e' => h.inj n m b b2 r q hn e hl hg (fun e => hm e.symm) hr h1 e'.symm)
      · cases b2 with
        | gone => trivial
        | _ => exact absurd trivial hg
  · by_cases hm : m = n
    · subst hm
      have hk' : k ≠ m := fun e => hmk e.symm
      rw [upd_ne _ _ hk'] at e2
      exact h.inj m k b b2 r1 r2 hn e2 hl l2 hmk q1 q2
    · rw [upd_ne _ _ hm] at e1
      by_cases hk' : k = n
      · subst hk'
        exact h.inj m k b1 b r1 r2 e1 hn l1 hl.has hmk q1 q2
      · rw [upd_ne _ _ hk'] at e2
        exact h.inj m k b1 b2 r1 r2 e1 e2 l1 l2 hmk q1 q2
/-- a name of which nothing is left. -/
theorem Real.kill (h : Real ρ B0 τ w) {n : Nat} {b : B} (hn : τ n = some b) : Real ρ B0 (upd τ n .gone) w := by
  refine ⟨h.size, fun m b2 e => ?_, fun m k b1 b2 r1 r2 e1 e2 l1 l2 hmk q1 q2 => ?_, h.kept⟩
  · by_cases hm : m = n
    · subst hm
      rw [upd_same] at e
      injection e with e; subst e
      obtain ⟨q, h1, h2, h3, h4⟩ := h.blk m b hn
      exact ⟨q, h1, fun l => l.elim, h3, trivial⟩
    · rw [upd_ne _ _ hm] at e
      exact h.blk m b2 e
  · by_cases hm : m = n
    · subst hm
      rw [upd_same] at e1
      injection e1 with e1; subst e1
      exact l1.elim
    · by_cases hk' : k = n
      · subst hk'
        rw [upd_same] at e2
        injection e2 with e2; subst e2
        exact l2.elim
      · rw [upd_ne _ _ hm] at e1
        rw [upd_ne _ _ hk'] at e2
        exact h.inj m k b1 b2 r1 r2 e1 e2 l1 l2 hmk q1 q2
end
end Go.Proofs.Ytcjddojcfdeflaa.Ev
namespace Go.Proofs.Ytcjddojcfdeflaa.Ev
open Go.RowKit

section
variable {β : Type} {q : β} {c : Cx} {st : St}
theorem getB_inv {n : Nat} {k : B → Option β} (h : getB c st n k = some q) : ∃ b, c.ok n = true ∧ st.h.get n = some b ∧ k b = some q := by
  unfold getB at h
  split at h
  · cases h
  · rename_i hc
    split at h
    · cases h
    · rename_i b hb; exact ⟨b, hc, hb, h⟩
theorem getC_inv {n : Nat} {k : T V → Option β} (h : getC c st n k = some q) : ∃ ty sz t, c.ok n = true ∧ st.h.get n = some (.cs ty sz t) ∧ k t = some q := by
  obtain ⟨b, h1, h2, h3⟩ := getB_inv h
  split at h3
  · exact ⟨_, _, _, h1, h2, h3⟩
  · cases h3
theorem setB_inv {n : Nat} {b : B} {k : St → Option β} (h : setB c st n b k = some q) : c.wb ≤ n ∧ k ⟨st.nx, st.h.set n b⟩ = some q := by
  unfold setB at h
  split at h
  · cases h
  · rename_i hn
    rw [T.setK_eq] at h
    exact ⟨by simpa [Nat.ble_eq] using hn, h⟩
theorem newB_eq (b : B) (k : Nat → St → Option β) : newB st b k = k st.nx ⟨st.nx + 1, st.h.set st.nx b⟩ := by
  unfold newB; rw [T.setK_eq, fn_eq]
noncomputable def sets (l : List V) (i : Nat) (t : T V) : T V := match l with
  | [] => t
  | x :: l => sets l (i + 1) (t.set i x)
theorem setsK_eq : ∀ (l : List V) (i : Nat) (t : T V) (k : T V → β), setsK l i t k = k (sets l i t)
  | [], _, _, _ => rfl
  | x :: l, i, t, k => by
    have h : setsK (x :: l) i t k = t.setK i x fun t => fn (i + 1) fun i => setsK l i t k := rfl
    rw [h, T.setK_eq, fn_eq, setsK_eq]
    rfl
theorem get_sets : ∀ (l : List V) (i : Nat) (t : T V) (j : Nat), (sets l i t).get j = if i ≤ j ∧ j < i + l.length then l[j - i]? else t.get j
  | [], i, t, j => by rw [if_neg (by simp)]; rfl
  | x :: l, i, t, j => by
    show (sets l (i + 1) (t.set i x)).get j = _
    rw [get_sets l (i + 1)]
    by_cases h : i + 1 ≤ j ∧ j < i + 1 + l.length
    · rw [if_pos h, if_pos (by simp; omega)]
      have : j - i = (j - (i + 1)) + 1 := by omega
      rw [this]; simp
    · rw [if_neg h, T.get_set]
      by_cases hi : i = j
      · subst hi
        rw [if_pos rfl, if_pos (by simp)]; simp
      · rw [if_neg hi, if_neg (by simp; omega)]
theorem newC_eq (ty : TypeId) (cs : List V) (k : Nat → St → Option β) : newC st ty cs k = k st.nx ⟨st.nx + 1, st.h.set st.nx (.cs ty cs.length (sets cs 0 .lf))⟩ := by
  unfold newC; rw [setsK_eq, fn_eq, newB_eq]
theorem getsB_inv {t : T V} : ∀ {n i : Nat} {k : List V → Option β}, getsB t n i k = some q → ∃ l, k l = some q ∧ l.length = n ∧ ∀ j a, l[j]? = some a → t.get (i + j) = some a
  | 0, i, k, h => ⟨[], h, rfl, fun _ _ e => by simp at e⟩
  | n + 1, i, k, h => by
    have h' : (match t.get i with | none => none | some x => fn (i + 1) fun i => getsB t n i fun l => k (x :: l)) = some q := h
    split at h'
    · cases h'
    · rename_i x hx
      rw [fn_eq] at h'
      obtain ⟨l, h1, h2, h3⟩ := getsB_inv h'
      refine ⟨x :: l, h1, by simp [h2], fun j a e => ?_⟩
      cases j with
      | zero => simp at e; subst e; simpa using hx
      | succ j =>
        have := h3 j a (by simpa using e)
        rw [← this]; congr 1; omega
theorem putB_inv {n i : Nat} {cs : List V} {k : St → Option β} (h : putB c st n i cs k = some q) :
    ∃ ty sz t, c.ok n = true ∧ st.h.get n = some (.cs ty sz t) ∧ i + cs.length ≤ sz ∧ (c.wb ≤ n ∧ ty ≠ roT) ∧ k ⟨st.nx, st.h.set n (.cs ty sz (sets cs i t))⟩ = some q := by
  obtain ⟨b, h1, h2, h3⟩ := getB_inv h
  split at h3
  · rename_i ty sz t
    split at h3
    · rename_i hl hro
      rw [setsK_eq] at h3
      obtain ⟨h4, h5⟩ := setB_inv h3
      exact ⟨ty, sz, t, h1, h2, by simpa [Nat.ble_eq] using hl, ⟨h4, fun e => by subst e; simp at hro⟩, h5⟩
    · cases h3
  · cases h3
theorem stepOk_set {n : Nat} {b b' : B} (h1 : c.ok n = true) (h2 : st.h.get n = some b) (h3 : c.wb ≤ n) (h4 : b.live) : StepOk c st ⟨st.nx, st.h.set n b'⟩ := by
  refine ⟨Nat.le_refl _, fun m _ e => ?_, fun hw m hm => ?_, fun m _ e b2 hb => ?_⟩
  · rw [T.get_set] at e ⊢
    by_cases hnm : n = m
    · subst hnm; exact ⟨h1, by rw [h2]; simp, by simp, h3⟩
    · rw [if_neg hnm] at e; exact absurd rfl e
  · show (st.h.set n b').get m = none
    have := hw m hm
    rw [T.get_set, if_neg (fun e => by subst e; rw [h2] at this; cases this), this]
  · rw [T.get_set] at e
    by_cases hnm : n = m
    · subst hnm; rw [h2] at hb; injection hb with hb; subst hb; exact h4
    · rw [if_neg hnm] at e; exact absurd rfl e
theorem stepOk_new {b : B} : StepOk c st ⟨st.nx + 1, st.h.set st.nx b⟩ := by
  refine ⟨Nat.le_succ _, fun m hm e => ?_, fun hw m hm => ?_, fun m hm e => ?_⟩
  · rw [T.get_set_ne _ _ (by omega)] at e; exact absurd rfl e
  · show (st.h.set st.nx b).get m = none
    have hm' : st.nx + 1 ≤ m := hm
    rw [T.get_set_ne _ _ (by omega)]; exact hw m (by omega)
  · rw [T.get_set_ne _ _ (by omega)] at e; exact absurd rfl e
theorem ov_set {τ : Mem} {n : Nat} {b b' : B} (ha : Agree c st τ) (h1 : c.ok n = true) (h2 : st.h.get n = some b) : ov st ⟨st.nx, st.h.set n b'⟩ τ = upd τ n b' := by
  apply ov_eq
  · intro m _ h; exact absurd h (by show ¬ m < st.nx; omega)
  · intro m _ e
    rw [T.get_set] at e ⊢
    by_cases hnm : n = m
    · subst hnm; rw [upd_same, if_pos rfl]
    · rw [if_neg hnm] at e; exact absurd rfl e
  · intro m _ e
    rw [T.get_set] at e
    by_cases hnm : n = m
    · subst hnm
      rw [if_pos rfl, h2] at e
      rw [upd_same, ha n b h1 h2, e]
    · rw [upd_ne _ _ (Ne.symm hnm)]
theorem ov_new {τ : Mem} {b : B} : ov st ⟨st.nx + 1, st.h.set st.nx b⟩ τ = upd τ st.nx b := by
  apply ov_eq
  · intro m h1 h2
    have : m = st.nx := by have h2' : m < st.nx + 1 := h2; omega
    subst this
    rw [upd_same]; simp
  · intro m h1 e
    have h1' : ¬ (st.nx ≤ m ∧ m < st.nx + 1) := h1
    rw [T.get_set_ne _ _ (by omega)] at e
    exact absurd rfl e
  · intro m h1 e
    have h1' : ¬ (st.nx ≤ m ∧ m < st.nx + 1) := h1
    rw [upd_ne _ _ (by omega)]
end
/-! ### reading -/
section
variable {ρ : Rho} {B0 : Nat} {τ : Mem} {w : World}
theorem Real.read (h : Real ρ B0 τ w) {n : Nat} {r : R} {ty : TypeId} {sz : Nat} {t : T V} (hn : τ n = some (.cs ty sz t)) (hr : ρ n = some r) {i : Nat} {l : List V} (hl : ∀ j a, l[j]? = some a → t.get (i + j) = some a) :
    l.all V.one = true ∧ (∀ j a, l[j]? = some a → i + j < sz) ∧ ∃ xs, RelL ρ l xs ∧ w.rangeAt r.block (r.base + i) xs := by
  obtain ⟨q, h1, h2, h3, h4⟩ := h.blk n _ hn
  rw [hr] at h1; injection h1 with h1; subst h1
  obtain ⟨ty', cells, fr, g1, g2, g3, g4, g5⟩ := h4
  have one : l.all V.one = true := by
    rw [List.all_eq_true]
    intro a ha
    obtain ⟨j, hj, rfl⟩ := List.getElem_of_mem ha
    exact (g5 _ _ (hl j _ (List.getElem?_eq_getElem hj))).2.1
  refine ⟨one, fun j a e => (g5 _ _ (hl j a e)).1, (List.range l.length).map (fun j => cells[r.base + (i + j)]?.getD undef), RelL.of_get (by simp) (fun j a e => ?_), fun j u e => ?_⟩
  · obtain ⟨_, _, x, hx, hrel⟩ := g5 _ _ (hl j a e)
    have hj : j < l.length := by
      rcases Nat.lt_or_ge j l.length with h | h
      · exact h
      · rw [List.getElem?_eq_none h] at e; cases e
    exact ⟨x, by simp [hj, hx], hrel⟩
  · have hj : j < l.length := by
      rcases Nat.lt_or_ge j l.length with h | h
      · exact h
      · rw [List.getElem?_eq_none (by simpa using h)] at e; cases e
    obtain ⟨_, _, x, hx, hrel⟩ := g5 _ _ (hl j _ (List.getElem?_eq_getElem hj))
    simp [hj, hx] at e
    subst e
    unfold World.cell?
    simp only [g1]
    simpa [Nat.add_assoc] using hx
theorem Real.there (h : Real ρ B0 τ w) {n : Nat} {r : R} {ty : TypeId} {sz : Nat} {t : T V} (hn : τ n = some (.cs ty sz t)) (hr : ρ n = some r) (hty : ty ≠ roT) {i m : Nat} (hm : i + m ≤ r.size) :
    w.there r.block (r.base + i) m := fun j hj => by
  obtain ⟨q, h1, h2, h3, h4⟩ := h.blk n _ hn
  rw [hr] at h1; injection h1 with h1; subst h1
  obtain ⟨ty', cells, fr, g1, g2, g3, g4, g5⟩ := h4
  have hlt : r.base + i + j < cells.size := by omega
  constructor
  · unfold World.cell?; simp only [g1]; simp [hlt]
  · unfold World.frozen?
    simp only [g1]
    have := (g4 hty).1.no hlt
    rw [Bool.eq_false_iff]
    intro e
    simp at e
    exact this e
theorem Blk.wrote {r : R} {ty : TypeId} {sz : Nat} {t : T V} (h : Blk ρ (.cs ty sz t) r w) {cs : List V} {xs : List Value} (hx : RelL ρ cs xs) (ho : cs.all V.one = true) {i : Nat} (hi : i + cs.length ≤ sz) :
    Blk ρ (.cs ty sz (sets cs i t)) r (w.setCells r.block (r.base + i) xs) := by
  obtain ⟨ty', cells, fr, g1, g2, g3, g4, g5⟩ := h
  have hlen := hx.length
  obtain ⟨arr', k1, k2, k3⟩ := heap_setCells_at r.block ty' fr xs (r.base + i) w cells g1 (by omega)
  refine ⟨ty', arr', fr, k1, by omega, g3, by rw [k2]; exact g4, fun j v hv => ?_⟩
  rw [get_sets] at hv
  rw [k3]
  by_cases hij : i ≤ j ∧ j < i + cs.length
  · rw [if_pos hij] at hv
    rw [if_pos (by omega)]
    obtain ⟨y, hy1, hy2⟩ := hx.get hv
    refine ⟨by omega, ?_, y, ?_, hy2⟩
    · exact (List.all_eq_true.1 ho) v (List.mem_of_getElem? hv)
    · rw [show r.base + j - (r.base + i) = j - i by omega]; exact hy1
  · rw [if_neg hij] at hv
    rw [if_neg (by omega)]
    exact g5 j v hv
theorem Blk.made {b : Nat} {ty : TypeId} {cs : List V} {xs : List Value} (hx : RelL ρ cs xs) (ho : cs.all V.one = true) (arr : Array Value) (fr : Nat × Nat) (hw : w.heap[b]? = some (.cells arr ty fr))
    (ha : ∀ (i : Nat) (u : Value), xs[i]? = some u → arr[i]? = some u) (hs : xs.length ≤ arr.size) (hf : FrZ fr arr.size) : Blk ρ (.cs ty cs.length (sets cs 0 .lf)) ⟨b, 0, arr.size⟩ w := by
  have hlen := hx.length
  refine ⟨_, arr, fr, hw, by simp, by simp only; omega, fun _ => ⟨.inl hf.eq, fun _ => ⟨rfl, rfl, hf.eq⟩⟩, fun i v hv => ?_⟩
  rw [get_sets] at hv
  by_cases hi : 0 ≤ i ∧ i < 0 + cs.length
  · rw [if_pos hi] at hv
    obtain ⟨y, hy1, hy2⟩ := hx.get hv
    refine ⟨by omega, (List.all_eq_true.1 ho) v (List.mem_of_getElem? hv), y, ?_, by simpa using hy2⟩
    simp only [Nat.zero_add]
    exact ha _ _ (by simpa using hy1)
  · rw [if_neg hi] at hv
    simp at hv
theorem Blk.madeU {b : Nat} {ty : TypeId} {cs : List V} {xs : List Value} (hx : RelL ρ cs xs) (ho : cs.all V.one = true) (arr : Array Value) (fr : Nat × Nat) (hw : w.heap[b]? = some (.cells arr ty fr))
    (ha : ∀ (i : Nat) (u : Value), xs[i]? = some u → arr[i]? = some u) (hs : xs.length ≤ arr.size) (hf : FrOk fr arr.size) : Blk ρ (.cs unT cs.length (sets cs 0 .lf)) ⟨b, 0, arr.size⟩ w := by
  have hlen := hx.length
  refine ⟨_, arr, fr, hw, by simp, by simp only; omega, fun _ => ⟨hf, fun h => absurd rfl h⟩, fun i v hv => ?_⟩
  rw [get_sets] at hv
  by_cases hi : 0 ≤ i ∧ i < 0 + cs.length
  · rw [if_pos hi] at hv
    obtain ⟨y, hy1, hy2⟩ := hx.get hv
    refine ⟨by omega, (List.all_eq_true.1 ho) v (List.mem_of_getElem? hv), y, ?_, by simpa using hy2⟩
    simp only [Nat.zero_add]
    exact ha _ _ (by simpa using hy1)
  · rw [if_neg hi] at hv
    simp at hv
end
/-! ### one operation -/
/-- what is asked of an operation: whatever comes behind -/
def OpOk (P : Program) (c : Cx) (st st' : St) (v : V) (e : Env) (o : Oper) : Prop :=
  ∀ (B0 : Nat) (ρ : Rho) (τ : Mem) (w : World) (a : Act), (∀ x, x ∈ o.op.operands.toList → TmpRel ρ e a x) → Agree c st τ → Real ρ B0 τ w → Fresh ρ st st' →
    ∀ (K : Act → World → Prop) (Q : Exit → Act → World → Prop), (∀ (ρ' : Rho) (v' : Value) (w' : World), ρ.le ρ' → Dom ρ ρ' st st' → Rel ρ' v v' → Real ρ' B0 (ov st st' τ) w' → Below B0 w w' → K (a.put o.dst v') w') → o.wp P a w K Q
theorem opOk_val {P : Program} {c : Cx} {st : St} {v : V} {e : Env} {o : Oper}
    (h : ∀ (B0 : Nat) (ρ : Rho) (τ : Mem) (w : World) (a : Act), (∀ x, x ∈ o.op.operands.toList → TmpRel ρ e a x) → Agree c st τ → Real ρ B0 τ w → ∃ v', Rel ρ v v' ∧ (execOp a.eval o).run P w = .ok (.value v') w) :
    StepOk c st st ∧ OpOk P c st st v e o :=
  ⟨.refl _ _, fun B0 ρ τ w a h1 h2 h3 _ K Q hK => by
    obtain ⟨v', h4, h5⟩ := h B0 ρ τ w a h1 h2 h3
    unfold Oper.wp
    rw [h5]
    exact hK ρ v' w (Rho.le_refl _) (Dom.refl _ _ _) h4 (by rw [ov_self]; exact h3) (Below.refl _ _)⟩
/-- a new row is made. -/
theorem opOk_new {P : Program} {c : Cx} {st : St} {v : V} {e : Env} {o : Oper} {ty : TypeId} {cs : List V}
    (h : ∀ (B0 : Nat) (ρ : Rho) (τ : Mem) (w : World) (a : Act), (∀ x, x ∈ o.op.operands.toList → TmpRel ρ e a x) → Agree c st τ → Real ρ B0 τ w →
      ∃ (v' : Value) (w' : World) (xs : List Value) (arr : Array Value) (fr : Nat × Nat), RelL ρ cs xs ∧ cs.all V.one = true ∧ (execOp a.eval o).run P w = .ok (.value v') w' ∧ w'.heap = w.heap.push (.cells arr ty fr) ∧ w'.os = w.os ∧ w'.tape = w.tape ∧ w'.output = w.output ∧
        (∀ (i : Nat) (u : Value), xs[i]? = some u → arr[i]? = some u) ∧ xs.length ≤ arr.size ∧ FrZ fr arr.size ∧ ∀ ρ' : Rho, ρ' st.nx = some ⟨w.heap.size, 0, arr.size⟩ → Rel ρ' v v') :
    StepOk c st ⟨st.nx + 1, st.h.set st.nx (.cs ty cs.length (sets cs 0 .lf))⟩ ∧ OpOk P c st ⟨st.nx + 1, st.h.set st.nx (.cs ty cs.length (sets cs 0 .lf))⟩ v e o :=
  ⟨stepOk_new, fun B0 ρ τ w a h1 h2 h3 hf K Q hK => by
    obtain ⟨v', w', xs, arr, fr, k1, k2, k3, k4, k5, k6, k7, k8, k9, k10, k11⟩ := h B0 ρ τ w a h1 h2 h3
    unfold Oper.wp
    rw [k3]
    have hfr : ρ st.nx = none := hf st.nx (Nat.le_refl _) (Nat.lt_succ_self _)
    have hle : ρ.le (upd ρ st.nx ⟨w.heap.size, 0, arr.size⟩) := fun m q e => by
      by_cases hm : m = st.nx
      · subst hm; rw [hfr] at e; cases e
      · rw [upd_ne _ _ hm]; exact e
    have hold : ∀ k, k < w.heap.size → w'.heap[k]? = w.heap[k]? := fun k hk => by rw [k4, Array.getElem?_push, if_neg (by omega)]
    refine hK (upd ρ st.nx ⟨w.heap.size, 0, arr.size⟩) v' w' hle (fun m q e => ?_) (k11 _ (upd_same _ _ _)) ?_ ?_
    · by_cases hm : m = st.nx
      · subst hm; exact .inr ⟨Nat.le_refl _, Nat.lt_succ_self _⟩
      · rw [upd_ne _ _ hm] at e; exact .inl e
    · rw [ov_new]
      refine h3.new hfr (Nat.le_refl _) (by rw [k4]; simp) hold ?_
      exact Blk.made (RelL.mono hle _ _ k1) k2 arr fr (by rw [k4]; simp) k8 k9 k10
    · exact ⟨k5, k6, k7, by rw [k4]; simp, fun k hk => hold k (Nat.lt_of_lt_of_le hk h3.size)⟩⟩
/-- a new row of which it isn't known how it is laid out. -/
theorem opOk_newU {P : Program} {c : Cx} {st : St} {v : V} {e : Env} {o : Oper} {ty : TypeId} {cs : List V}
    (h : ∀ (B0 : Nat) (ρ : Rho) (τ : Mem) (w : World) (a : Act), (∀ x, x ∈ o.op.operands.toList → TmpRel ρ e a x) → Agree c st τ → Real ρ B0 τ w →
      ∃ (v' : Value) (w' : World) (xs : List Value) (arr : Array Value) (fr : Nat × Nat), RelL ρ cs xs ∧ cs.all V.one = true ∧ (execOp a.eval o).run P w = .ok (.value v') w' ∧ w'.heap = w.heap.push (.cells arr ty fr) ∧ w'.os = w.os ∧ w'.tape = w.tape ∧ w'.output = w.output ∧
        (∀ (i : Nat) (u : Value), xs[i]? = some u → arr[i]? = some u) ∧ xs.length ≤ arr.size ∧ FrOk fr arr.size ∧ ∀ ρ' : Rho, ρ' st.nx = some ⟨w.heap.size, 0, arr.size⟩ → Rel ρ' v v') :
    StepOk c st ⟨st.nx + 1, st.h.set st.nx (.cs unT cs.length (sets cs 0 .lf))⟩ ∧ OpOk P c st ⟨st.nx + 1, st.h.set st.nx (.cs unT cs.length (sets cs 0 .lf))⟩ v e o :=
  ⟨stepOk_new, fun B0 ρ τ w a h1 h2 h3 hf K Q hK => by
    obtain ⟨v', w', xs, arr, fr, k1, k2, k3, k4, k5, k6, k7, k8, k9, k10, k11⟩ := h B0 ρ τ w a h1 h2 h3
    unfold Oper.wp
    rw [k3]
    have hfr : ρ st.nx = none := hf st.nx (Nat.le_refl _) (Nat.lt_succ_self _)
    have hle : ρ.le (upd ρ st.nx ⟨w.heap.size, 0, arr.size⟩) := fun m q e => by
      by_cases hm : m = st.nx
      · subst hm; rw [hfr] at e; cases e
      · rw [upd_ne _ _ hm]; exact e
    have hold : ∀ k, k < w.heap.size → w'.heap[k]? = w.heap[k]? := fun k hk => by rw [k4, Array.getElem?_push, if_neg (by omega)]
    refine hK (upd ρ st.nx ⟨w.heap.size, 0, arr.size⟩) v' w' hle (fun m q e => ?_) (k11 _ (upd_same _ _ _)) ?_ ?_
    · by_cases hm : m = st.nx
      · subst hm; exact .inr ⟨Nat.le_refl _, Nat.lt_succ_self _⟩
      · rw [upd_ne _ _ hm] at e; exact .inl e
    · rw [ov_new]
      refine h3.new hfr (Nat.le_refl _) (by rw [k4]; simp) hold ?_
      exact Blk.madeU (ty := ty) (RelL.mono hle _ _ k1) k2 arr fr (by rw [k4]; simp) k8 k9 k10
    · exact ⟨k5, k6, k7, by rw [k4]; simp, fun k hk => hold k (Nat.lt_of_lt_of_le hk h3.size)⟩⟩
/-- cells are written. -/
theorem opOk_set {P : Program} {c : Cx} {st : St} {v : V} {e : Env} {o : Oper} {n i : Nat} {cs : List V} {ty : TypeId} {sz : Nat} {t : T V}
    (g1 : c.ok n = true) (g2 : st.h.get n = some (.cs ty sz t)) (g3 : i + cs.length ≤ sz) (g4 : c.wb ≤ n ∧ ty ≠ roT)
    (h : ∀ (B0 : Nat) (ρ : Rho) (τ : Mem) (w : World) (a : Act) (r : R), (∀ x, x ∈ o.op.operands.toList → TmpRel ρ e a x) → Agree c st τ → Real ρ B0 τ w → ρ n = some r → sz ≤ r.size →
      ∃ (v' : Value) (xs : List Value), RelL ρ cs xs ∧ cs.all V.one = true ∧ Rel ρ v v' ∧ ((execOp a.eval o).run P w = .ok (.value v') (w.setCells r.block (r.base + i) xs) ∨ ((execOp a.eval o).run P w = .ok .skip (w.setCells r.block (r.base + i) xs) ∧ v' = undef))) :
    StepOk c st ⟨st.nx, st.h.set n (.cs ty sz (sets cs i t))⟩ ∧ OpOk P c st ⟨st.nx, st.h.set n (.cs ty sz (sets cs i t))⟩ v e o :=
  ⟨stepOk_set g1 g2 g4.1 g4.2, fun B0 ρ τ w a h1 h2 h3 hf K Q hK => by
    have hτ := h2 n _ g1 g2
    obtain ⟨r, r1, r2, r3, r4⟩ := h3.blk n _ hτ
    have hsz : sz ≤ r.size := by obtain ⟨_, _, _, _, _, x, _⟩ := r4; exact x
    obtain ⟨v', xs, k1, k2, k3, k4⟩ := h B0 ρ τ w a r h1 h2 h3 r1 hsz
    have hreal : Real ρ B0 (ov st ⟨st.nx, st.h.set n (.cs ty sz (sets cs i t))⟩ τ) (w.setCells r.block (r.base + i) xs) := by
      rw [ov_set h2 g1 g2]
      exact h3.set hτ g4.2 r1 (size_setCells' _ _ _ _) (heap_setCells_ne _ _ _ _) (r4.wrote k1 k2 g3)
    have hfin := hK ρ v' _ (Rho.le_refl _) (Dom.refl _ _ _) k3 hreal (below_setCells' (r2 g4.2) _ _ _)
    unfold Oper.wp
    rcases k4 with k4 | ⟨k4, rfl⟩
    · rw [k4]; exact hfin
    · rw [k4]; exact hfin⟩
end Go.Proofs.Ytcjddojcfdeflaa.Ev
namespace Go.Proofs.Ytcjddojcfdeflaa.Ev
open Go.RowKit

section
variable {P : Program} {c : Cx} {st st' : St} {v : V} {e : Env} {o : Oper}

theorem ret_inv {v0 : V} (h : ret st v0 = some (v, st')) : v0 = v ∧ st = st' := by
  unfold ret at h; injection h with h; injection h with h1 h2; exact ⟨h1, h2⟩
theorem some_inv {v0 : V} {s0 : St} (h : (some (v0, s0) : Res) = some (v, st')) : v0 = v ∧ s0 = st' := by
  injection h with h; injection h with h1 h2; exact ⟨h1, h2⟩
theorem run_underlying' {t : TypeId} {d : TypeDesc} (h : P.underlying t = some d) (w : World) : (underlying t).run P w = .ok d w := by
  simp [underlying, h]
theorem run_typeInfo' {t : TypeId} {i : TypeInfo} (h : P.info? t = some i) (w : World) : (typeInfo t).run P w = .ok i w := by
  simp [typeInfo, h]
theorem run_sizeOf' {t : TypeId} {i : TypeInfo} (h : P.info? t = some i) (w : World) : (sizeOf t).run P w = .ok i.size w := by
  simp [sizeOf, run_typeInfo' h]
theorem run_zeroValue' {t : TypeId} {i : TypeInfo} {z : Value} (h : P.info? t = some i) (hz : i.zero = some z) (w : World) : (zeroValue t).run P w = .ok z w := by
  simp [zeroValue, run_typeInfo' h, hz]
theorem agg_inv {t : TypeId} {b : Bool} (h : agg? P t = some b) (w : World) : (isAgg t).run P w = .ok b w ∧ ∃ d, P.underlying t = some d ∧ d.isRow = b := by
  unfold agg? at h
  split at h
  · rename_i hu; injection h with h; subst h; simp [isAgg, run_underlying' hu, hu, TypeDesc.isRow]
  · rename_i hu; injection h with h; subst h; simp [isAgg, run_underlying' hu, hu, TypeDesc.isRow]
  · rename_i d h1 h2 hu
    injection h with h; subst h
    constructor
    · simp only [isAgg, Sem.run_bind, run_underlying' hu, Result.andThen_ok]
      cases d <;> first | rfl | (exact (h1 _ rfl).elim) | (exact (h2 _ _ rfl).elim)
    · refine ⟨d, hu, ?_⟩
      cases d <;> first | rfl | (exact (h1 _ rfl).elim) | (exact (h2 _ _ rfl).elim)
  · cases h

theorem ok_move {x : Operand} (ho : o.op = .move x ∨ o.op = .assign x) (h : opd e x (ret st) = some (v, st')) : StepOk c st st' ∧ OpOk P c st st' v e o := by
  obtain ⟨v0, h1, h2⟩ := opd_inv h
  obtain ⟨rfl, rfl⟩ := ret_inv h1
  refine opOk_val fun B0 ρ τ w a hx _ _ => ⟨_, h2 ρ a (hx x (by rcases ho with ho | ho <;> simp [ho, Op.operands])), ?_⟩
  rcases ho with ho | ho <;> simp [execOp, ho]
theorem rel_true {ρ : Rho} {b : Bool} {x : Value} (h : Rel ρ (.bool b) x) : x = .bool b := by
  simp only [Rel] at h; exact h.1
theorem rel_num {ρ : Rho} {k : IntKind} {n : Int} {x : Value} (h : Rel ρ (.int k n) x) : x = .int k n := by
  simp only [Rel] at h; exact h.1
theorem ok_pick {x y z : Operand} (ho : o.op = .pick x y z) (h : (opd e x fun x => (match x with
    | .c (.bool true) => opd e y (ret st)
    | .c (.bool false) => opd e z (ret st)
    | _ => none)) = some (v, st')) : StepOk c st st' ∧ OpOk P c st st' v e o := by
  obtain ⟨v0, h1, h2⟩ := opd_inv h
  split at h1
  · obtain ⟨v1, h3, h4⟩ := opd_inv h1
    obtain ⟨rfl, rfl⟩ := ret_inv h3
    refine opOk_val fun B0 ρ τ w a hx _ _ => ⟨_, h4 ρ a (hx y (by simp [ho, Op.operands])), ?_⟩
    have := rel_true (h2 ρ a (hx x (by simp [ho, Op.operands])))
    simp [execOp, ho, this, asBool]
  · obtain ⟨v1, h3, h4⟩ := opd_inv h1
    obtain ⟨rfl, rfl⟩ := ret_inv h3
    refine opOk_val fun B0 ρ τ w a hx _ _ => ⟨_, h4 ρ a (hx z (by simp [ho, Op.operands])), ?_⟩
    have := rel_true (h2 ρ a (hx x (by simp [ho, Op.operands])))
    simp [execOp, ho, this, asBool]
  · cases h1
theorem ok_nilCheck {x : Operand} (ho : o.op = .nilCheck x) (h : (opd e x fun v => (match v with
    | .p n i => (some (.p n i, st) : Res)
    | _ => none)) = some (v, st')) : StepOk c st st' ∧ OpOk P c st st' v e o := by
  obtain ⟨v0, h1, h2⟩ := opd_inv h
  split at h1
  · rename_i n i
    obtain ⟨rfl, rfl⟩ := some_inv h1
    refine opOk_val fun B0 ρ τ w a hx _ _ => ?_
    have hr := h2 ρ a (hx x (by simp [ho, Op.operands]))
    have hr' := hr
    simp only [Rel] at hr
    obtain ⟨r, _, hv⟩ := hr
    refine ⟨_, hr', ?_⟩
    rw [hv]
    simp [execOp, ho, hv]
  · cases h1
theorem ok_extract {x : Operand} {ix : Nat} (ho : o.op = .extract x ix) (h : (opd e x fun v => (match v with
    | .t l => (match lget l ix with | some w => (some (w, st) : Res) | none => none)
    | _ => none)) = some (v, st')) : StepOk c st st' ∧ OpOk P c st st' v e o := by
  obtain ⟨v0, h1, h2⟩ := opd_inv h
  split at h1
  · rename_i l
    split at h1
    · rename_i y hy
      obtain ⟨rfl, rfl⟩ := some_inv h1
      refine opOk_val fun B0 ρ τ w a hx _ _ => ?_
      have hr := h2 ρ a (hx x (by simp [ho, Op.operands]))
      simp only [Rel] at hr
      obtain ⟨l', hv, hl⟩ := hr
      rw [lget_eq] at hy
      obtain ⟨u, hu1, hu2⟩ := hl.get hy
      refine ⟨u, hu2, ?_⟩
      simp [execOp, ho, hv, Instr.extract, hu1]
    · cases h1
  · cases h1
theorem ok_alloc {t : TypeId} (ho : o.op = .alloc t) (h : (zero P t fun cs => newC st t cs fun n st => (some (.p n 0, st) : Res)) = some (v, st')) :
    StepOk c st st' ∧ OpOk P c st st' v e o := by
  obtain ⟨i, z, cs, h1, h2, h3, h4, h5⟩ := zero_inv h
  rw [newC_eq] at h3
  obtain ⟨rfl, rfl⟩ := some_inv h3
  refine opOk_new fun B0 ρ τ w a hx _ _ => ⟨.pointer (some ⟨w.heap.size, 0, none⟩), { w with heap := w.heap.push (.cells z.cells t) }, z.cells.toList, z.cells, (0, 0), h5 ρ, h4, ?_, rfl, rfl, rfl, rfl, fun i u hu => by simpa using hu, by simp, .inl rfl, fun ρ' hρ => ?_⟩
  · simp [execOp, ho, Instr.alloc, run_zeroValue' h1 h2, newVar, newRow]
  · simp only [Rel]; exact ⟨_, hρ, rfl⟩
theorem ok_box {t : TypeId} {x : Operand} (ho : o.op = .box t x) (h : (opd e x fun v => cellsOf v fun cs => newC st t cs fun n st => (some (.p n 0, st) : Res)) = some (v, st')) :
    StepOk c st st' ∧ OpOk P c st st' v e o := by
  obtain ⟨v0, h1, h2⟩ := opd_inv h
  obtain ⟨cs, h3, h4⟩ := cellsOf_inv h1
  rw [newC_eq] at h3
  obtain ⟨rfl, rfl⟩ := some_inv h3
  refine opOk_new fun B0 ρ τ w a hx _ _ => ⟨.pointer (some ⟨w.heap.size, 0, none⟩), { w with heap := w.heap.push (.cells (a.eval x).cells t) }, (a.eval x).cells.toList, (a.eval x).cells, (0, 0),
    (h4 ρ _ (h2 ρ a (hx x (by simp [ho, Op.operands])))).1, (h4 ρ _ (h2 ρ a (hx x (by simp [ho, Op.operands])))).2, ?_, rfl, rfl, rfl, rfl, fun i u hu => by simpa using hu, by simp, .inl rfl, fun ρ' hρ => ?_⟩
  · simp [execOp, ho, Instr.box, newVar, newRow]
  · simp only [Rel]; exact ⟨_, hρ, rfl⟩
/-- a variable that is read -/
theorem load_ok {t : TypeId} {n i : Nat} {β : Type} {q : β} {k : V → Option β} (h : loadE P c st t n i k = some q) :
    ∃ x, k x = some q ∧ ∀ (B0 : Nat) (ρ : Rho) (τ : Mem) (w : World) (r : R), Agree c st τ → Real ρ B0 τ w → ρ n = some r → ∃ y, Rel ρ x y ∧ (loadVar t ⟨r.block, r.base + i, none⟩).run P w = .ok y w := by
  unfold loadE at h
  obtain ⟨ty, sz, tr, h1, h2, h3⟩ := getC_inv h
  split at h3
  · rename_i ha
    obtain ⟨ti, h4, h5⟩ := szOf_inv h3
    obtain ⟨l, h6, h7, h8⟩ := getsB_inv h5
    refine ⟨_, h6, fun B0 ρ τ w r hag hre hr => ?_⟩
    obtain ⟨k1, _, xs, k2, k3⟩ := hre.read (hag n _ h1 h2) hr h8
    obtain ⟨_, d, k4, k5⟩ := agg_inv ha w
    refine ⟨.agg ⟨xs⟩, ?_, ?_⟩
    · simp only [Rel]; exact ⟨xs, rfl, k2, k1⟩
    · have := run_loadVar_mid (P := P) w r.block (r.base + i) t xs d k3 k4 k5 (by rw [h4]; simp [k2.length, h7])
      simpa using this
  · rename_i ha
    split at h3
    · rename_i x hx
      refine ⟨x, h3, fun B0 ρ τ w r hag hre hr => ?_⟩
      obtain ⟨k1, _, xs, k2, k3⟩ := hre.read (l := [x]) (hag n _ h1 h2) hr (i := i) (fun j a e => by
        cases j with
        | zero => simp at e; subst e; simpa using hx
        | succ j => simp at e)
      simp only [RelL] at k2
      obtain ⟨y, ys, rfl, k4, _⟩ := k2
      have hc := k3 0 y (by simp)
      simp at hc
      refine ⟨y, k4, ?_⟩
      simp [loadVar, (agg_inv ha w).1, hc]
    · cases h3
  · cases h3
theorem ok_load {t : TypeId} {x : Operand} (ho : o.op = .load t x) (h : (opd e x fun v => (match v with
    | .p n i => loadE P c st t n i fun w => (some (w, st) : Res)
    | _ => none)) = some (v, st')) : StepOk c st st' ∧ OpOk P c st st' v e o := by
  obtain ⟨v0, h1, h2⟩ := opd_inv h
  split at h1
  · rename_i n i
    obtain ⟨y, h3, h4⟩ := load_ok h1
    obtain ⟨rfl, rfl⟩ := some_inv h3
    refine opOk_val fun B0 ρ τ w a hx hag hre => ?_
    have hr := h2 ρ a (hx x (by simp [ho, Op.operands]))
    simp only [Rel] at hr
    obtain ⟨r, hr1, hv⟩ := hr
    obtain ⟨u, k1, k2⟩ := h4 B0 ρ τ w r hag hre hr1
    refine ⟨u, k1, ?_⟩
    simp [execOp, ho, hv, Instr.loadAt, Instr.sureAddr, k2]
  · cases h1
theorem run_storeVar' {t : TypeId} {i : TypeInfo} (w : World) (b o : Nat) (y : Value) (hi : P.info? t = some i) (hs : y.cells.size = i.size) (ht : w.there b o y.cells.size) (h1 : ∀ u, u ∈ y.cells.toList → u.oneCell' = true) :
    (storeVar t ⟨b, o, none⟩ y).run P w = .ok () (w.setCells b o y.cells.toList) := by
  have := run_storeCells_cells (P := P) b o y.cells.toList 0 w (fun j hj => by simpa using (ht j (by simpa using hj)).1) (fun j hj => by simpa using (ht j (by simpa using hj)).2) h1
  simp only [Nat.add_zero] at this
  simp [storeVar, run_sizeOf' hi, hs, this]
theorem ok_store {t : TypeId} {x y : Operand} (ho : o.op = .store t x y) (h : (opd e x fun v => (match v with
    | .p n i => opd e y fun v => cellsOf v fun cs => szOf P t fun z => (match Nat.beq cs.length z with
      | true => putB c st n i cs fun st => (some (.u, st) : Res)
      | false => none)
    | _ => none)) = some (v, st')) : StepOk c st st' ∧ OpOk P c st st' v e o := by
  obtain ⟨v0, h1, h2⟩ := opd_inv h
  split at h1
  · rename_i n i
    obtain ⟨v1, h3, h4⟩ := opd_inv h1
    obtain ⟨cs, h5, h6⟩ := cellsOf_inv h3
    obtain ⟨ti, h7, h8⟩ := szOf_inv h5
    split at h8
    · rename_i hz
      obtain ⟨ty, sz, tr, g1, g2, g3, g4, g5⟩ := putB_inv h8
      obtain ⟨rfl, rfl⟩ := some_inv g5
      refine opOk_set g1 g2 g3 g4 fun B0 ρ τ w a r hx hag hre hr hsz => ?_
      have hv := h2 ρ a (hx x (by simp [ho, Op.operands]))
      simp only [Rel] at hv
      obtain ⟨r', hr', hv⟩ := hv
      rw [hr] at hr'; injection hr' with hr'; subst hr'
      have hy := h4 ρ a (hx y (by simp [ho, Op.operands]))
      obtain ⟨k1, k2⟩ := h6 ρ _ hy
      have hlen := k1.length
      have hzz : cs.length = ti.size := by simpa [Nat.beq_eq] using hz
      refine ⟨undef, (a.eval y).cells.toList, k1, k2, rel_u, .inr ⟨?_, rfl⟩⟩
      have := run_storeVar' (P := P) (t := t) w r.block (r.base + i) (a.eval y) h7 (by simp at hlen; omega) (hre.there (hag n _ g1 g2) hr g4.2 (by simp at hlen; omega)) (k1.oneCell k2)
      simp [execOp, ho, hv, Instr.storeAt, Instr.sureAddr, this]
    · cases h8
  · cases h1
theorem add_off (b o n : Nat) : (⟨b, o, none⟩ : Addr).add n = ⟨b, o + n, none⟩ := Addr.add_mid b o n
theorem ok_fieldAddr {t : TypeId} {x : Operand} {f : Nat} (ho : o.op = .fieldAddr t x f) (h : (opd e x fun v => (match v with
    | .p n i => (match P.underlying t with
      | some (.struct fs) => (match lget fs.toList f with
        | some f => szOf P f.type fun z => (match z with
          | 0 => none
          | _ => fn (i + f.offset) fun i => (some (.p n i, st) : Res))
        | none => none)
      | _ => none)
    | _ => none)) = some (v, st')) : StepOk c st st' ∧ OpOk P c st st' v e o := by
  obtain ⟨v0, h1, h2⟩ := opd_inv h
  split at h1
  · rename_i n i
    split at h1
    · rename_i fs hfs
      split at h1
      · rename_i fd hfd
        obtain ⟨ti, h3, h4⟩ := szOf_inv h1
        split at h4
        · cases h4
        · rename_i hz
          rw [fn_eq] at h4
          obtain ⟨rfl, rfl⟩ := some_inv h4
          refine opOk_val fun B0 ρ τ w a hx _ _ => ?_
          have hv := h2 ρ a (hx x (by simp [ho, Op.operands]))
          simp only [Rel] at hv
          obtain ⟨r, hr, hv⟩ := hv
          rw [lget_eq] at hfd
          have hfd' : fs[f]? = some fd := by simpa using hfd
          refine ⟨.pointer (some ⟨r.block, r.base + (i + fd.offset), none⟩), by simp only [Rel]; exact ⟨r, hr, rfl⟩, ?_⟩
          have hz' : ¬ ti.size = 0 := hz
          simp [execOp, ho, hv, Instr.fieldAt, run_underlying' hfs, hfd', Instr.sureAddr, fieldPlace, run_sizeOf' h3, hz', add_off, Nat.add_assoc]
      · cases h1
    · cases h1
  · cases h1
end
end Go.Proofs.Ytcjddojcfdeflaa.Ev
namespace Go.Proofs.Ytcjddojcfdeflaa.Ev
open Go.RowKit

section
variable {ρ : Rho}
theorem rep_all {l : List V} (h : l.all V.one = true) (n : Nat) : (rep l n).all V.one = true := by
  induction n with
  | zero => rfl
  | succ n ih =>
    show (l ++ rep l n).all V.one = true
    rw [List.all_append, h, ih]; rfl
theorem rep_one {l : List V} (h : l.all V.one = true) : ∀ n, (rep l n).all V.one = true
  | 0 => rfl
  | n + 1 => by
    have ih := rep_one h n
    show (l ++ rep l n).all V.one = true
    rw [List.all_append, h, ih]; rfl
theorem rep_length (l : List V) (n : Nat) : (rep l n).length = n * l.length := by
  induction n with
  | zero => simp [rep]
  | succ n ih =>
    show (l ++ rep l n).length = _
    rw [List.length_append, ih, Nat.succ_mul, Nat.add_comm]
theorem rep_rel {l : List V} {zc : Array Value} (h : RelL ρ l zc.toList) (n : Nat) : RelL ρ (rep l n) ((List.range (n * zc.size)).map fun i => zc[i % zc.size]!) := by
  induction n with
  | zero => simp [rep, RelL]
  | succ n ih =>
    show RelL ρ (l ++ rep l n) _
    rw [Nat.succ_mul, Nat.add_comm, List.range_add, List.map_append]
    refine RelL.append ?_ ?_
    · have : ((List.range zc.size).map fun i => zc[i % zc.size]!) = zc.toList := by
        apply List.ext_getElem
        · simp
        · intro i h1 h2
          simp at h1
          simp [Nat.mod_eq_of_lt h1, h1]
      rw [this]; exact h
    · rw [List.map_map]
      have : ((fun i => zc[i % zc.size]!) ∘ fun x => zc.size + x) = fun i => zc[i % zc.size]! := by
        funext i; simp
      rw [this]; exact ih
theorem rep_rel_arr {l : List V} {zc : Array Value} (h : RelL ρ l zc.toList) (n m : Nat) (hm : m = n * zc.size) : RelL ρ (rep l n) ((Array.range m).map fun i => zc[i % zc.size]!).toList := by
  subst hm
  have := rep_rel h n
  simpa using this
/-- a part that is laid -/
theorem fold_set (off : Nat) : ∀ (vs : List Value) (j : Nat) (cells : Array Value), off + j + vs.length ≤ cells.size →
    ((vs.zipIdx j).foldl (fun (cs : Array Value) (x : Value × Nat) => cs.setIfInBounds (off + x.2) x.1) cells).toList = cells.toList.take (off + j) ++ (vs ++ cells.toList.drop (off + j + vs.length))
  | [], j, cells, _ => by simp
  | v :: vs, j, cells, h => by
    simp only [List.zipIdx_cons, List.foldl_cons]
    simp only [List.length_cons] at h
    rw [fold_set off vs (j + 1) _ (by simp; omega)]
    have hlt : off + j < cells.toList.length := by simp; omega
    rw [Array.toList_setIfInBounds]
    have e1 : (cells.toList.set (off + j) v).take (off + (j + 1)) = cells.toList.take (off + j) ++ [v] := by
      rw [show off + (j + 1) = (off + j) + 1 by omega, List.take_succ_eq_append_getElem (by simpa using hlt)]
      simp [List.take_set_of_le (Nat.le_refl _)]
    have e2 : (cells.toList.set (off + j) v).drop (off + (j + 1) + vs.length) = cells.toList.drop (off + j + (v :: vs).length) := by
      rw [List.drop_set_of_lt (by omega)]
      congr 1; simp; omega
    rw [e1, e2]; simp
theorem splice_inv {β : Type} {q : β} {i : Nat} {cs l : List V} {k : List V → Option β} (h : splice i cs l k = some q) : i + cs.length ≤ l.length ∧ k (l.take i ++ (cs ++ l.drop (i + cs.length))) = some q := by
  unfold splice at h
  split at h
  · rename_i hl; exact ⟨by simpa [Nat.ble_eq] using hl, h⟩
  · cases h
theorem forceL_eq {β : Type} : ∀ (l : List V) (k : List V → β), forceL l k = k l
  | [], _ => rfl
  | x :: l, k => (forceL_eq l fun l => k (x :: l))
theorem all_take {l : List V} (h : l.all V.one = true) (n : Nat) : (l.take n).all V.one = true := by
  rw [List.all_eq_true] at h ⊢
  exact fun x hx => h x (List.mem_of_mem_take hx)
theorem all_drop {l : List V} (h : l.all V.one = true) (n : Nat) : (l.drop n).all V.one = true := by
  rw [List.all_eq_true] at h ⊢
  exact fun x hx => h x (List.mem_of_mem_drop hx)
/-- the parts of a literal -/
theorem partsK_inv {β : Type} {q : β} {at_ : Nat → Option (Nat × Nat)} : ∀ {l : List (Nat × Operand)} {vs t : List V} {k : List V → Option β}, partsK at_ l vs t k = some q →
    ∃ l', k l' = some q ∧ l'.length = t.length ∧ ∀ (ρ : Rho) (a : Act) (cells : Array Value), RelL ρ vs (l.map fun x => a.eval x.2) → RelL ρ t cells.toList → t.all V.one = true →
      ∃ cells', Instr.fill at_ cells (l.map fun x => (x.1, a.eval x.2)) = some cells' ∧ RelL ρ l' cells'.toList ∧ l'.all V.one = true
  | [], vs, t, k, h => ⟨t, h, rfl, fun ρ a cells _ h2 h3 => ⟨cells, rfl, h2, h3⟩⟩
  | x :: l, [], t, k, h => by cases h
  | x :: l, v :: vs, t, k, h => by
    have h' : (cellsOf v fun cs => match at_ x.1 with
      | some (i, z) => (match Nat.beq cs.length z with
        | true => splice i cs t fun t => partsK at_ l vs t k
        | false => none)
      | none => none) = some q := h
    obtain ⟨cs, h1, h2⟩ := cellsOf_inv h'
    split at h1
    · rename_i i z hat
      split at h1
      · rename_i hz
        obtain ⟨h3, h4⟩ := splice_inv h1
        obtain ⟨l', h5, h6, h7⟩ := partsK_inv h4
        have hz' : cs.length = z := by simpa [Nat.beq_eq] using hz
        refine ⟨l', h5, by rw [h6]; simp; omega, fun ρ a cells g1 g2 g3 => ?_⟩
        simp only [List.map_cons, RelL] at g1
        obtain ⟨y, ys, e, g4, g5⟩ := g1
        injection e with e1 e2
        subst e1 e2
        obtain ⟨g6, g7⟩ := h2 ρ _ g4
        have hl := g6.length
        have hl2 := g2.length
        simp at hl hl2
        have hfold := fold_set i (a.eval x.2).cells.toList 0 cells (by simp; omega)
        simp only [Nat.add_zero] at hfold
        obtain ⟨cells', k1, k2, k3⟩ := h7 ρ a ((a.eval x.2).cells.zipIdx.foldl (fun cs (c, j) => cs.setIfInBounds (i + j) c) cells) g5 (by
          rw [← Array.foldl_toList, Array.toList_zipIdx, hfold]
          have e : i + (a.eval x.2).cells.toList.length = i + cs.length := by simp; omega
          rw [e]
          exact RelL.append (RelL.take _ g2) (RelL.append g6 (RelL.drop _ g2))) (by
          rw [List.all_append, List.all_append, all_take g3, g7, all_drop g3]; rfl)
        refine ⟨cells', ?_, k2, k3⟩
        simp only [List.map_cons, Instr.fill, hat]
        rw [if_neg (by simp; omega)]
        exact k1
      · cases h1
    · cases h1
end
section
variable {P : Program} {c : Cx} {st st' : St} {v : V} {e : Env} {o : Oper}
theorem ok_indexAddr {t : TypeId} {x ix : Operand} (ho : o.op = .indexAddr t x ix) (h : (opd e x fun v => opd e ix fun i => asNat i fun i => idxE P t v i fun a => (some (a, st) : Res)) = some (v, st')) :
    StepOk c st st' ∧ OpOk P c st st' v e o := by
  obtain ⟨v0, h1, h2⟩ := opd_inv h
  obtain ⟨v1, h3, h4⟩ := opd_inv h1
  obtain ⟨k, i, rfl, h5⟩ := asNat_inv h3
  unfold idxE at h5
  split at h5
  · rename_i len el n o' hu
    split at h5
    · rename_i hi
      obtain ⟨ti, h6, h7⟩ := szOf_inv h5
      rw [fn_eq] at h7
      obtain ⟨rfl, rfl⟩ := some_inv h7
      refine opOk_val fun B0 ρ τ w a hx _ _ => ?_
      have hv := h2 ρ a (hx x (by simp [ho, Op.operands]))
      have hi' := rel_num (h4 ρ a (hx ix (by simp [ho, Op.operands])))
      simp only [Rel] at hv
      obtain ⟨r, hr, hv⟩ := hv
      refine ⟨.pointer (some ⟨r.block, r.base + (o' + i * ti.size), none⟩), by simp only [Rel]; exact ⟨r, hr, rfl⟩, ?_⟩
      have hlt : i < len := by simpa [Nat.blt_eq] using hi
      simp [execOp, ho, hv, hi', Instr.indexAt, asIntOf, run_underlying' hu, Instr.sureAddr, hlt, run_sizeOf' h6, add_off, Nat.add_assoc]
    · cases h5
  · rename_i el n o' len cp hu
    split at h5
    · rename_i hi
      obtain ⟨ti, h6, h7⟩ := szOf_inv h5
      rw [fn_eq] at h7
      obtain ⟨rfl, rfl⟩ := some_inv h7
      refine opOk_val fun B0 ρ τ w a hx _ _ => ?_
      have hv := h2 ρ a (hx x (by simp [ho, Op.operands]))
      have hi' := rel_num (h4 ρ a (hx ix (by simp [ho, Op.operands])))
      simp only [Rel] at hv
      obtain ⟨r, hr, hv⟩ := hv
      refine ⟨.pointer (some ⟨r.block, r.base + (o' + i * ti.size), none⟩), by simp only [Rel]; exact ⟨r, hr, rfl⟩, ?_⟩
      have hlt : i < len := by simpa [Nat.blt_eq] using hi
      simp [execOp, ho, hv, hi', Instr.indexAt, asIntOf, run_underlying' hu, hlt, run_sizeOf' h6, add_off, Nat.add_assoc]
    · cases h5
  · rename_i el n o' len z hu
    split at h5
    · rename_i hi
      obtain ⟨ti, h6, h7⟩ := szOf_inv h5
      rw [fn_eq] at h7
      obtain ⟨rfl, rfl⟩ := some_inv h7
      refine opOk_val fun B0 ρ τ w a hx _ _ => ?_
      have hv := h2 ρ a (hx x (by simp [ho, Op.operands]))
      have hi' := rel_num (h4 ρ a (hx ix (by simp [ho, Op.operands])))
      simp only [Rel] at hv
      obtain ⟨r, hr, _, _, hv⟩ := hv
      refine ⟨.pointer (some ⟨r.block, r.base + (o' + i * ti.size), none⟩), by simp only [Rel]; exact ⟨r, hr, rfl⟩, ?_⟩
      have hlt : i < len := by simpa [Nat.blt_eq] using hi
      simp [execOp, ho, hv, hi', Instr.indexAt, asIntOf, run_underlying' hu, hlt, run_sizeOf' h6, add_off, Nat.add_assoc]
    · cases h5
  · cases h5
theorem parts_ops {ps : Array (Nat × Operand)} : ∀ x, x ∈ (ps.toList.map fun x => x.2) → x ∈ ((ps.toList.map (·.2)).toArray).toList := fun x h => by simpa using h
theorem ok_buildSlice {t : TypeId} {len : Nat} {parts : Array (Nat × Operand)} (ho : o.op = .buildSlice t len parts)
    (h : (elemOf P t fun el z => zero P el fun zs => opds e (parts.toList.map fun x => x.2) fun vs => (match Nat.beq zs.length z, Nat.ble (len * z) 16777216 with
    | true, true => partsK (fun i => some (i * z, z)) parts.toList vs (rep zs len) fun l => newC st el l fun n st => (some (.sl n 0 len len, st) : Res)
    | _, _ => none)) = some (v, st')) : StepOk c st st' ∧ OpOk P c st st' v e o := by
  obtain ⟨el, i, h1, h2, h3⟩ := elemOf_inv h
  obtain ⟨i', z, zs, h4, h5, h6, h7, h8⟩ := zero_inv h3
  rw [h2] at h4; injection h4 with h4; subst h4
  obtain ⟨vs, h9, h10⟩ := opds_inv h6
  split at h9
  · rename_i hz hl
    have hz' : zs.length = i.size := by simpa [Nat.beq_eq] using hz
    have hl' : len * i.size ≤ 16777216 := by simpa [Nat.ble_eq] using hl
    obtain ⟨l, g1, g2, g3⟩ := partsK_inv h9
    rw [newC_eq] at g1
    obtain ⟨rfl, rfl⟩ := some_inv g1
    refine opOk_new fun B0 ρ τ w a hx _ _ => ?_
    have hzl := (h8 ρ).length
    simp at hzl
    have hzs : z.cells.size = i.size := by omega
    obtain ⟨cells', k1, k2, k3⟩ := g3 ρ a ((Array.range (len * i.size)).map fun j => z.cells[j % z.cells.size]!) (by
      have := h10 ρ a (fun x hx' => hx x (by simp only [ho, Op.operands]; exact parts_ops x hx'))
      rw [List.map_map] at this; exact this) (rep_rel_arr (h8 ρ) len _ (by rw [hzs])) (rep_all h7 len)
    refine ⟨.slice (some ⟨w.heap.size, 0, none⟩) len len, { w with heap := w.heap.push (.cells cells' el) }, cells'.toList, cells', (0, 0), k2, k3, ?_, rfl, rfl, rfl, rfl, fun i u hu => by simpa using hu, by simp, .inl rfl, fun ρ' hρ => by simp only [Rel]; exact ⟨_, hρ, rfl⟩⟩
    have k1' : Instr.fill (fun j => some (j * i.size, i.size)) ((Array.range (len * i.size)).map fun j => z.cells[j % z.cells.size]!) (parts.toList.map fun x => (x.1, a.eval x.2)) = some cells' := k1
    by_cases h0 : len * i.size = 0
    · rw [h0] at k1'
      simp only [Array.range_zero', List.map_toArray] at k1'
      have k1'' : Instr.fill (fun j => some (j * i.size, i.size)) #[] (parts.toList.map fun x => (x.1, a.eval x.2)) = some cells' := by
        rw [← k1']; simp
      simp [execOp, ho, Instr.buildSlice, run_underlying' h1, run_sizeOf' h2, h0, Array.range_zero', k1'', newRow]
    · have : ¬ 16777216 < len * i.size := by omega
      simp [execOp, ho, Instr.buildSlice, run_underlying' h1, run_sizeOf' h2, run_zeroValue' h2 h5, h0, this, k1', newRow]
  · cases h9
theorem ok_build {t : TypeId} {parts : Array (Nat × Operand)} (ho : o.op = .build t parts)
    (h : (zero P t fun zs => opds e (parts.toList.map fun x => x.2) fun vs => (match P.underlying t with
    | some (.struct fs) => partsK (fun i => match lget fs.toList i with | some f => (match P.info? f.type with | some ti => some (f.offset, ti.size) | none => none) | none => none) parts.toList vs zs fun l => forceL l fun l => (match fs.toList.all fun f => (P.info? f.type).isSome with | true => (some (.g l, st) : Res) | false => none)
    | some (.array _ el) => szOf P el fun z => partsK (fun i => some (i * z, z)) parts.toList vs zs fun l => forceL l fun l => some (.g l, st)
    | _ => none)) = some (v, st')) : StepOk c st st' ∧ OpOk P c st st' v e o := by
  obtain ⟨i, z, zs, h4, h5, h6, h7, h8⟩ := zero_inv h
  obtain ⟨vs, h9, h10⟩ := opds_inv h6
  split at h9
  · rename_i fs hu
    obtain ⟨l, g1, g2, g3⟩ := partsK_inv h9
    rw [forceL_eq] at g1
    split at g1
    · rename_i hall
      obtain ⟨rfl, rfl⟩ := some_inv g1
      refine opOk_val fun B0 ρ τ w a hx _ _ => ?_
      obtain ⟨cells', k1, k2, k3⟩ := g3 ρ a z.cells (by
        have := h10 ρ a (fun x hx' => hx x (by simp only [ho, Op.operands]; exact parts_ops x hx'))
        rw [List.map_map] at this; exact this) (h8 ρ) h7
      refine ⟨.agg cells', by simp only [Rel]; exact ⟨cells'.toList, by simp, k2, k3⟩, ?_⟩
      have hm : fs.toList.mapM (fun f => (P.info? f.type).map fun i => (f.offset, i.size)) = some (fs.toList.map fun f => ((P.info? f.type).map fun i => (f.offset, i.size)).getD (0, 0)) :=
        Go.ChangeMaps.mapM_total (0, 0) fun f hf => by
          have := (List.all_eq_true.1 hall) f hf
          obtain ⟨ti, hti⟩ := Option.isSome_iff_exists.1 this
          exact ⟨_, by rw [hti]; rfl⟩
      have hp : (fun i => match lget fs.toList i with | some f => (match P.info? f.type with | some ti => some (f.offset, ti.size) | none => none) | none => none) = fun i => ((fs.toList.map fun f => ((P.info? f.type).map fun i => (f.offset, i.size)).getD (0, 0)).toArray[i]? : Option (Nat × Nat)) := by
        funext j
        rw [lget_eq]
        cases hj : fs.toList[j]? with
        | none =>
          have : fs.size ≤ j := by
            have := List.getElem?_eq_none_iff.1 hj
            simpa using this
          simp [this]
        | some f =>
          have hf : f ∈ fs.toList := List.mem_of_getElem? hj
          obtain ⟨ti, hti⟩ := Option.isSome_iff_exists.1 ((List.all_eq_true.1 hall) f hf)
          have hj' : fs[j]? = some f := by simpa using hj
          simp [hti, hj']
      rw [hp] at k1
      have hb : P.built t (parts.map fun (i, x) => (i, a.eval x)).toList = some cells' := by
        unfold Program.built
        simp only [h4, hu, h5, hm]
        rw [Array.toList_map]
        exact k1
      simp only [execOp, ho, Sem.run_bind, run_build w t _ cells' hb, Result.andThen_ok, Sem.run_pure]
    · cases g1
  · rename_i len el hu
    obtain ⟨ti, h11, h12⟩ := szOf_inv h9
    obtain ⟨l, g1, g2, g3⟩ := partsK_inv h12
    rw [forceL_eq] at g1
    obtain ⟨rfl, rfl⟩ := some_inv g1
    refine opOk_val fun B0 ρ τ w a hx _ _ => ?_
    obtain ⟨cells', k1, k2, k3⟩ := g3 ρ a z.cells (by
      have := h10 ρ a (fun x hx' => hx x (by simp only [ho, Op.operands]; exact parts_ops x hx'))
      rw [List.map_map] at this; exact this) (h8 ρ) h7
    refine ⟨.agg cells', by simp only [Rel]; exact ⟨cells'.toList, by simp, k2, k3⟩, ?_⟩
    have hb : P.built t (parts.map fun (i, x) => (i, a.eval x)).toList = some cells' := by
      unfold Program.built
      simp only [h4, hu, h5, h11]
      rw [Array.toList_map]
      exact k1
    simp only [execOp, ho, Sem.run_bind, run_build w t _ cells' hb, Result.andThen_ok, Sem.run_pure]
  · cases h9
theorem small_inv {el n : Nat} (h : small P el n = true) : ∃ i z, P.info? el = some i ∧ i.zero = some z ∧ n ≤ 1073741824 ∧ i.bytes ≤ 1024 ∧ 1 ≤ i.size ∧ z.cells.size = i.size := by
  unfold small at h
  split at h
  · cases h
  · rename_i i hi
    split at h
    · rename_i z a1 a2 a3 hz
      exact ⟨i, z, hi, hz, by simpa [Nat.ble_eq] using a1, by simpa [Nat.ble_eq] using a2, by simpa [Nat.ble_eq] using a3, by simpa [Nat.beq_eq] using h⟩
    · cases h
theorem ok_makeSlice {t : TypeId} {x y : Operand} (ho : o.op = .makeSlice t x y)
    (h : (opd e x fun l => opd e y fun cp => asNat l fun l => asNat cp fun cp => elemOf P t fun el _ => (match Nat.ble l cp, small P el cp with
    | true, true => zero P el fun z => newC st el (rep z cp) fun n st => (some (.sl n 0 l cp, st) : Res)
    | _, _ => none)) = some (v, st')) : StepOk c st st' ∧ OpOk P c st st' v e o := by
  obtain ⟨v0, h1, h2⟩ := opd_inv h
  obtain ⟨v1, h3, h4⟩ := opd_inv h1
  obtain ⟨kl, l, rfl, h5⟩ := asNat_inv h3
  obtain ⟨kc, cp, rfl, h6⟩ := asNat_inv h5
  obtain ⟨el, i, h7, h8, h9⟩ := elemOf_inv h6
  split at h9
  · rename_i hlc hs
    obtain ⟨i', z', s1, s2, s3, s4, s5, s6⟩ := small_inv hs
    obtain ⟨i'', z, zs, h10, h11, h12, h13, h14⟩ := zero_inv h9
    rw [h8] at s1 h10; injection s1 with s1; injection h10 with h10; subst s1 h10
    rw [s2] at h11; injection h11 with h11; subst h11
    rw [newC_eq] at h12
    obtain ⟨rfl, rfl⟩ := some_inv h12
    have hlc' : l ≤ cp := by simpa [Nat.ble_eq] using hlc
    refine opOk_new fun B0 ρ τ w a hx _ _ => ?_
    have e1 := rel_num (h2 ρ a (hx x (by simp [ho, Op.operands])))
    have e2 := rel_num (h4 ρ a (hx y (by simp [ho, Op.operands])))
    have hb : ((i.bytes : Int) * (cp : Int)) ≤ 281474976710656 := by
      have : i.bytes * cp ≤ 1024 * 1073741824 := Nat.mul_le_mul s4 s3
      have h' : ((i.bytes * cp : Nat) : Int) ≤ 281474976710656 := by omega
      rwa [Int.natCast_mul] at h'
    have hr := run_make (P := P) w t el i z' h7 h8 s2 kl kc (l : Int) (cp : Int) (by omega) (by omega) hb (by omega)
    simp only [Int.toNat_natCast] at hr
    refine ⟨.slice (some ⟨w.heap.size, 0, none⟩) l cp, w.alloc (.cells (madeCells z'.cells (cp * i.size)) el), (madeCells z'.cells (cp * i.size)).toList, madeCells z'.cells (cp * i.size), (0, 0), ?_, rep_all h13 cp, ?_, rfl, rfl, rfl, rfl, fun i u hu => by simpa using hu, by simp, .inl rfl, fun ρ' hρ => ?_⟩
    · exact rep_rel_arr (h14 ρ) cp _ (by rw [s6])
    · simp only [execOp, ho, e1, e2, Sem.run_bind]
      have : (Instr.makeSlice t (.int kl (Int.ofNat l)) (.int kc (Int.ofNat cp))).run P w = _ := hr
      rw [this]; rfl
    · simp only [Rel]; exact ⟨_, hρ, by simp⟩
  · cases h9
end
end Go.Proofs.Ytcjddojcfdeflaa.Ev
namespace Go.Proofs.Ytcjddojcfdeflaa.Ev
open Go.RowKit

theorem ba_eq {x : ByteArray} {l : List UInt8} (h : x.data.toList = l) : x = ⟨⟨l⟩⟩ := by
  cases x with
  | mk d => cases d with
    | mk m => simp at h; subst h; rfl
theorem nbeq (a b : Nat) : Nat.beq a b = decide (a = b) := by rw [Bool.eq_iff_iff]; simp [Nat.beq_eq]
section
variable {P : Program} {c : Cx} {st st' : St} {v : V} {e : Env} {o : Oper}
/-- a bound's value -/
def Bd (d n : Nat) (x : Option Value) : Prop := (x = none ∧ n = d) ∨ ∃ i, x = some (.int i (Int.ofNat n))
theorem bnd_bd {β : Type} {q : β} {d : Nat} {x : Option Operand} {k : Nat → Option β} (h : bnd e d x k = some q) : ∃ n, k n = some q ∧ ∀ (ρ : Rho) (a : Act), (∀ y, x = some y → TmpRel ρ e a y) → Bd d n (x.map a.eval) := by
  obtain ⟨n, h1, h2⟩ := bnd_inv h
  refine ⟨n, h1, fun ρ a ha => ?_⟩
  rcases h2 with ⟨rfl, rfl⟩ | ⟨y, rfl, i, h3⟩
  · exact .inl ⟨rfl, rfl⟩
  · exact .inr ⟨i, by rw [Option.map_some, h3 ρ a (ha y rfl)]⟩
theorem sliceBounds_ok {b : Bool} {len cap l h : Nat} {lo hi : Option Value} (h1 : Bd len h hi) (h2 : Bd 0 l lo) (h3 : l ≤ h) (h4 : h ≤ cap) (w : World) :
    (Instr.sliceBounds b len cap lo hi none).run P w = .ok (l, h, cap) w := by
  rcases h1 with ⟨rfl, rfl⟩ | ⟨i, rfl⟩ <;> rcases h2 with ⟨rfl, rfl⟩ | ⟨j, rfl⟩ <;>
    simp [Instr.sliceBounds, Instr.sliceBound, asIntOf, h3, h4]
theorem slice_ops {t : TypeId} {x : Operand} {lo hi : Option Operand} : (x ∈ (Op.slice t x lo hi none).operands.toList) ∧ (∀ y, lo = some y → y ∈ (Op.slice t x lo hi none).operands.toList) ∧ (∀ y, hi = some y → y ∈ (Op.slice t x lo hi none).operands.toList) := by
  refine ⟨by simp [Op.operands], fun y h => ?_, fun y h => ?_⟩
  · subst h; simp [Op.operands]
  · subst h; simp [Op.operands]
theorem ok_slice0 {t : TypeId} {x : Operand} {lo hi : Option Operand} {v0 : V} (ho : o.op = .slice t x lo hi none) (h2 : ∀ (ρ : Rho) (a : Act), TmpRel ρ e a x → Rel ρ v0 (a.eval x)) (h1 : sliceE P e t v0 lo hi (fun a => (some (a, st) : Res)) = some (v, st')) :
    StepOk c st st' ∧ OpOk P c st st' v e o := by
  obtain ⟨m1, m2, m3⟩ := slice_ops (t := t) (x := x) (lo := lo) (hi := hi)
  unfold sliceE at h1
  split at h1
  · rename_i s hu
    rw [fn_eq] at h1
    obtain ⟨hh, h3, h4⟩ := bnd_bd h1
    obtain ⟨l, h5, h6⟩ := bnd_bd h3
    split at h5
    · rename_i g1 g2
      rw [fl_eq] at h5
      obtain ⟨rfl, rfl⟩ := some_inv h5
      refine opOk_val fun B0 ρ τ w a hx _ _ => ?_
      rw [ho] at hx
      have hv := h2 ρ a (hx x m1)
      simp only [Rel] at hv
      obtain ⟨hv, hb⟩ := hv
      have k1 := h4 ρ a fun y hy => hx y (m3 y hy)
      have k2 := h6 ρ a fun y hy => hx y (m2 y hy)
      have hlh : l ≤ hh := by simpa [Nat.ble_eq] using g1
      have hhn : hh ≤ s.length := by simpa [Nat.ble_eq] using g2
      have hsz : (⟨⟨s.map UInt8.ofNat⟩⟩ : ByteArray).size = s.length := by simp [ByteArray.size]
      refine ⟨.string ((⟨⟨s.map UInt8.ofNat⟩⟩ : ByteArray).extract l hh), ?_, ?_⟩
      · simp only [Rel]
        refine ⟨?_, fun b hb' => hb b (List.mem_of_mem_take (List.mem_of_mem_drop hb'))⟩
        congr 1
        apply ba_eq
        rw [Lib.extract_data, List.map_drop, List.map_take, List.drop_take]
      · have := sliceBounds_ok (P := P) (b := false) k1 k2 hlh hhn w
        simp only [execOp, ho, Sem.run_bind, Instr.sliceAt, run_underlying' hu, Result.andThen_ok, hv, Instr.slice, hsz, Option.map_none]
        simp [this]
    · cases h5
  · rename_i el hu
    obtain ⟨ti, h7, h8⟩ := szOf_inv h1
    obtain ⟨hh, h3, h4⟩ := bnd_bd h8
    obtain ⟨l, h5, h6⟩ := bnd_bd h3
    split at h5
    · obtain ⟨rfl, rfl⟩ := some_inv h5
      refine opOk_val fun B0 ρ τ w a hx _ _ => ?_
      rw [ho] at hx
      have hv := h2 ρ a (hx x m1)
      refine ⟨_, hv, ?_⟩
      simp only [Rel] at hv
      obtain ⟨hv, hb⟩ := hv
      have k1 := h4 ρ a fun y hy => hx y (m3 y hy)
      have k2 := h6 ρ a fun y hy => hx y (m2 y hy)
      have := sliceBounds_ok (P := P) (b := true) (cap := 0) k1 k2 (Nat.le_refl _) (Nat.le_refl _) w
      simp only [execOp, ho, Sem.run_bind, Instr.sliceAt, run_underlying' hu, Result.andThen_ok, hv, Instr.slice, Option.map_none, this, run_sizeOf' h7]
      simp
    · cases h5
  · rename_i el n o' len cap hu
    obtain ⟨ti, h7, h8⟩ := szOf_inv h1
    obtain ⟨hh, h3, h4⟩ := bnd_bd h8
    obtain ⟨l, h5, h6⟩ := bnd_bd h3
    split at h5
    · rename_i g1 g2
      simp only [fn_eq] at h5
      obtain ⟨rfl, rfl⟩ := some_inv h5
      refine opOk_val fun B0 ρ τ w a hx _ _ => ?_
      rw [ho] at hx
      have hv := h2 ρ a (hx x m1)
      simp only [Rel] at hv
      obtain ⟨r, hr, hv⟩ := hv
      have k1 := h4 ρ a fun y hy => hx y (m3 y hy)
      have k2 := h6 ρ a fun y hy => hx y (m2 y hy)
      have hlh : l ≤ hh := by simpa [Nat.ble_eq] using g1
      have hhn : hh ≤ cap := by simpa [Nat.ble_eq] using g2
      have := sliceBounds_ok (P := P) (b := true) k1 k2 hlh hhn w
      refine ⟨.slice (if cap = l then some ⟨r.block, r.base + o', none⟩ else some ⟨r.block, r.base + o' + l * ti.size, none⟩) (hh - l) (cap - l), ?_, ?_⟩
      · simp only [Rel]
        refine ⟨r, hr, ?_⟩
        by_cases hc : cap = l
        · have : Nat.beq cap l = true := by simpa [Nat.beq_eq] using hc
          rw [if_pos hc, this]
        · have : Nat.beq cap l = false := by rw [Bool.eq_false_iff]; simpa [Nat.beq_eq] using hc
          rw [if_neg hc, this]; simp [Nat.add_assoc]
      · simp only [execOp, ho, Sem.run_bind, Instr.sliceAt, run_underlying' hu, Result.andThen_ok, hv, Instr.slice, Option.map_none, this, run_sizeOf' h7]
        simp [add_off]
    · cases h5
  · rename_i el n o' len z' hu
    obtain ⟨ti, h7, h8⟩ := szOf_inv h1
    obtain ⟨hh, h3, h4⟩ := bnd_bd h8
    obtain ⟨l, h5, h6⟩ := bnd_bd h3
    split at h5
    · rename_i g1 g2 g3
      have hlh : l ≤ hh := by simpa [Nat.ble_eq] using g1
      have hhn : hh ≤ len := by simpa [Nat.ble_eq] using g2
      have hz : ti.size = z' := by simpa [Nat.beq_eq] using g3
      have key : ∀ (ρ : Rho) (a : Act) (w : World), (∀ x, x ∈ o.op.operands.toList → TmpRel ρ e a x) → ∃ r, ρ n = some r ∧ 0 < z' ∧ len ≤ (r.size - o') / z' ∧
          (execOp a.eval o).run P w = .ok (.value (.slice (some (if (r.size - o') / z' = l then ⟨r.block, r.base + o', none⟩ else ⟨r.block, r.base + o' + l * z', none⟩)) (hh - l) ((r.size - o') / z' - l))) w := fun ρ a w hx => by
        rw [ho] at hx
        have hv := h2 ρ a (hx x m1)
        simp only [Rel] at hv
        obtain ⟨r, hr, hz0, hle, hv⟩ := hv
        have k1 := h4 ρ a fun y hy => hx y (m3 y hy)
        have k2 := h6 ρ a fun y hy => hx y (m2 y hy)
        have := sliceBounds_ok (P := P) (b := true) k1 k2 hlh (Nat.le_trans hhn hle) w
        refine ⟨r, hr, hz0, hle, ?_⟩
        simp only [execOp, ho, Sem.run_bind, Instr.sliceAt, run_underlying' hu, Result.andThen_ok, hv, Instr.slice, Option.map_none, this, run_sizeOf' h7, hz]
        simp only [Option.map_some, add_off, Sem.run_pure, Result.andThen_ok]
        congr 3
        split <;> rfl
      split at h5
      · rename_i g4
        obtain ⟨rfl, rfl⟩ := some_inv h5
        refine opOk_val fun B0 ρ τ w a hx _ _ => ?_
        obtain ⟨r, hr, hz0, hle, hrun⟩ := key ρ a w hx
        refine ⟨_, ?_, hrun⟩
        have : l = hh ∧ ¬ l = 0 := by simpa [nbeq] using g4
        simp only [Rel]
        exact ⟨_, _, by rw [show hh - l = 0 by omega]⟩
      · rename_i g4
        simp only [fn_eq] at h5
        obtain ⟨rfl, rfl⟩ := some_inv h5
        refine opOk_val fun B0 ρ τ w a hx _ _ => ?_
        obtain ⟨r, hr, hz0, hle, hrun⟩ := key ρ a w hx
        refine ⟨_, ?_, hrun⟩
        simp only [Rel]
        rw [hz]
        have hdiv : (r.size - (o' + l * z')) / z' = (r.size - o') / z' - l := by
          rw [Nat.sub_add_eq, Nat.mul_comm, Nat.sub_mul_div]
        refine ⟨r, hr, hz0, by rw [hdiv]; omega, ?_⟩
        rw [hdiv]
        by_cases hl0 : l = 0
        · subst hl0; simp
        · have hne : l ≠ hh := fun e => by
            have : l = hh → l = 0 := by simpa [nbeq] using g4
            exact hl0 (this e)
          rw [if_neg (by omega)]
          simp [Nat.add_assoc]
    · cases h5
  · rename_i len el n o' hu
    obtain ⟨ti, h7, h8⟩ := szOf_inv h1
    obtain ⟨hh, h3, h4⟩ := bnd_bd h8
    obtain ⟨l, h5, h6⟩ := bnd_bd h3
    split at h5
    · rename_i g1 g2
      simp only [fn_eq] at h5
      obtain ⟨rfl, rfl⟩ := some_inv h5
      refine opOk_val fun B0 ρ τ w a hx _ _ => ?_
      rw [ho] at hx
      have hv := h2 ρ a (hx x m1)
      simp only [Rel] at hv
      obtain ⟨r, hr, hv⟩ := hv
      have k1 := h4 ρ a fun y hy => hx y (m3 y hy)
      have k2 := h6 ρ a fun y hy => hx y (m2 y hy)
      have hlh : l ≤ hh := by simpa [Nat.ble_eq] using g1
      have hhn : hh ≤ len := by simpa [Nat.ble_eq] using g2
      have := sliceBounds_ok (P := P) (b := false) k1 k2 hlh hhn w
      refine ⟨.slice (some (if len = l then ⟨r.block, r.base + o', none⟩ else ⟨r.block, r.base + o' + l * ti.size, none⟩)) (hh - l) (len - l), ?_, ?_⟩
      · simp only [Rel]
        refine ⟨r, hr, ?_⟩
        by_cases hc : len = l
        · have : Nat.beq len l = true := by simpa [Nat.beq_eq] using hc
          rw [if_pos hc, this]
        · have : Nat.beq len l = false := by rw [Bool.eq_false_iff]; simpa [Nat.beq_eq] using hc
          rw [if_neg hc, this]; simp [Nat.add_assoc]
      · simp only [execOp, ho, Sem.run_bind, Instr.sliceAt, run_underlying' hu, Result.andThen_ok, hv, Instr.sureAddr, Sem.run_pure, Option.map_none, this, run_sizeOf' h7]
        simp [add_off]
    · cases h5
  · cases h1
end
end Go.Proofs.Ytcjddojcfdeflaa.Ev
namespace Go.Proofs.Ytcjddojcfdeflaa.Ev
open Go.RowKit

theorem pureRun_ok {α : Type} {P : Program} : ∀ {s : Sem α} {a : α}, pureRun P s = some a → ∀ w, s.run P w = .ok a w
  | .pure _, _, h, w => by simp only [pureRun] at h; injection h with h; subst h; rfl
  | .program k, _, h, w => by simp only [pureRun] at h; exact pureRun_ok (s := k P) h w
  | .mark _ k, _, h, w => by simp only [pureRun] at h; exact pureRun_ok (s := k) h w
  | .load .., _, h, _ => by simp [pureRun] at h
  | .store .., _, h, _ => by simp [pureRun] at h
  | .new .., _, h, _ => by simp [pureRun] at h
  | .shape .., _, h, _ => by simp [pureRun] at h
  | .freeze .., _, h, _ => by simp [pureRun] at h
  | .frozen .., _, h, _ => by simp [pureRun] at h
  | .getObj .., _, h, _ => by simp [pureRun] at h
  | .setObj .., _, h, _ => by simp [pureRun] at h
  | .choose .., _, h, _ => by simp [pureRun] at h
  | .sys .., _, h, _ => by simp [pureRun] at h
  | .halt .., _, h, _ => by simp [pureRun] at h
section
variable {ρ : Rho}
theorem valA_rel {v : V} {y a : Value} (h : valA v = some a) (hr : Rel ρ v y) : y = a := by
  cases v <;> simp only [valA] at h <;> try (cases h; done)
  case c => injection h with h; subst h; simp only [Rel] at hr; exact hr.1
  case s => injection h with h; subst h; simp only [Rel] at hr; exact hr.1
theorem valsA_rel : ∀ {l : List V} {ys as : List Value}, valsA l = some as → RelL ρ l ys → ys = as
  | [], _, _, h, hr => by
    simp only [RelL] at hr
    have h' : (some [] : Option (List Value)) = some _ := h
    injection h' with h'; subst h' hr; rfl
  | x :: l, _, _, h, hr => by
    simp only [RelL] at hr
    obtain ⟨y, ys, rfl, h1, h2⟩ := hr
    have h' : (match valA x with | none => none | some v => match valsA l with | none => none | some l => some (v :: l)) = some _ := h
    split at h'
    · cases h'
    · rename_i v hv
      split at h'
      · cases h'
      · rename_i l' hl
        injection h' with h'
        rw [← h', valA_rel hv h1, valsA_rel hl h2]
theorem valV_rel {v : V} {y a : Value} (h : valV v = some a) (hr : Rel ρ v y) : y = a := by
  unfold valV at h
  split at h
  · split at h
    · cases h
    · rename_i l hl
      injection h with h; subst h
      simp only [Rel] at hr
      obtain ⟨l', rfl, h1, _⟩ := hr
      rw [valsA_rel hl h1]
  · exact valA_rel h hr
end
section
variable {P : Program} {c : Cx} {st st' : St} {v : V} {e : Env} {o : Oper}
theorem pu_inv {β : Type} {q : β} {s : Sem Value} {k : V → Option β} (h : pu P s k = some q) : ∃ v y, k v = some q ∧ (∀ ρ, Rel ρ v y) ∧ ∀ w, s.run P w = .ok y w := by
  unfold pu at h
  split at h
  · rename_i y hy
    obtain ⟨v, h1, h2⟩ := ofV_inv h
    exact ⟨v, y, h1, h2, pureRun_ok hy⟩
  · cases h
theorem part_ok {β : Type} {q : β} {t : TypeId} {l : List V} {i : Nat} {k : V → Option β} (h : partE P t l i k = some q) :
    ∃ x, k x = some q ∧ ∀ (ρ : Rho) (l' : List Value) (w : World), RelL ρ l l' → l.all V.one = true → ∃ y, Rel ρ x y ∧ (part t ⟨l'⟩ i).run P w = .ok y w := by
  unfold partE at h
  split at h
  · rename_i ha
    obtain ⟨ti, h1, h2⟩ := szOf_inv h
    refine ⟨_, h2, fun ρ l' w hr ho => ⟨.agg ⟨(l'.drop i).take ti.size⟩, ?_, ?_⟩⟩
    · simp only [Rel]; exact ⟨_, rfl, RelL.take _ (RelL.drop _ hr), all_take (all_drop ho _) _⟩
    · simp only [part, Sem.run_bind, (agg_inv ha w).1, Result.andThen_ok, if_true, run_sizeOf' h1, Sem.run_pure]
      congr 2
      apply Array.ext'
      simp [Nat.add_sub_cancel_left]
  · rename_i ha
    split at h
    · rename_i x hx
      refine ⟨x, h, fun ρ l' w hr _ => ?_⟩
      rw [lget_eq] at hx
      obtain ⟨y, hy1, hy2⟩ := hr.get hx
      refine ⟨y, hy2, ?_⟩
      simp [part, (agg_inv ha w).1, hy1]
    · cases h
  · cases h
theorem ok_field {t : TypeId} {x : Operand} {f : Nat} (ho : o.op = .field t x f) (h : (opd e x fun v => (match v, P.underlying t with
    | .g l, some (.struct fs) => (match lget fs.toList f with
      | none => none
      | some f => partE P f.type l f.offset fun v => (some (v, st) : Res))
    | _, _ => none)) = some (v, st')) : StepOk c st st' ∧ OpOk P c st st' v e o := by
  obtain ⟨v0, h1, h2⟩ := opd_inv h
  split at h1
  · rename_i l fs hu
    split at h1
    · cases h1
    · rename_i fd hfd
      obtain ⟨y, h3, h4⟩ := part_ok h1
      obtain ⟨rfl, rfl⟩ := some_inv h3
      refine opOk_val fun B0 ρ τ w a hx _ _ => ?_
      have hv := h2 ρ a (hx x (by simp [ho, Op.operands]))
      simp only [Rel] at hv
      obtain ⟨l', hv, hl, hone⟩ := hv
      obtain ⟨u, k1, k2⟩ := h4 ρ l' w hl hone
      refine ⟨u, k1, ?_⟩
      rw [lget_eq] at hfd
      have hfd' : fs[f]? = some fd := by simpa using hfd
      simp [execOp, ho, hv, Instr.field, run_underlying' hu, hfd', asAgg, k2]
  · cases h1
theorem ok_index {t : TypeId} {x ix : Operand} (ho : o.op = .index t x ix) (h : (opd e x fun v => opd e ix fun i => asNat i fun i => (match P.underlying t, v with
    | some .string, .s l => (match lget l i with
      | some b => (some (.int .u8 (.ofNat b), st) : Res)
      | none => none)
    | some (.array len el), .g l => (match Nat.blt i len with
      | true => szOf P el fun z => fn (i * z) fun o => partE P el l o fun v => some (v, st)
      | false => none)
    | _, _ => none)) = some (v, st')) : StepOk c st st' ∧ OpOk P c st st' v e o := by
  obtain ⟨v0, h1, h2⟩ := opd_inv h
  obtain ⟨v1, h3, h4⟩ := opd_inv h1
  obtain ⟨k, i, rfl, h5⟩ := asNat_inv h3
  split at h5
  · rename_i l hu
    split at h5
    · rename_i b hb
      obtain ⟨rfl, rfl⟩ := some_inv h5
      refine opOk_val fun B0 ρ τ w a hx _ _ => ⟨.int .u8 (Int.ofNat b), rel_num' _ _, ?_⟩
      have hv := h2 ρ a (hx x (by simp [ho, Op.operands]))
      have hi' := rel_num (h4 ρ a (hx ix (by simp [ho, Op.operands])))
      simp only [Rel] at hv
      obtain ⟨hv, hlt⟩ := hv
      rw [lget_eq] at hb
      have hmem : b ∈ l := List.mem_of_getElem? hb
      have h256 := hlt b hmem
      have hlen : i < l.length := by
        rcases Nat.lt_or_ge i l.length with h | h
        · exact h
        · rw [List.getElem?_eq_none h] at hb; cases hb
      have hget : (⟨⟨l.map UInt8.ofNat⟩⟩ : ByteArray)[i]? = some (UInt8.ofNat b) := by
        have hsz : i < (⟨⟨l.map UInt8.ofNat⟩⟩ : ByteArray).size := by simpa [ByteArray.size] using hlen
        rw [getElem?_pos (⟨⟨l.map UInt8.ofNat⟩⟩ : ByteArray) i hsz]
        congr 1
        show (l.map UInt8.ofNat)[i]'(by simpa using hlen) = _
        rw [List.getElem?_eq_getElem hlen] at hb
        injection hb with hb
        simp [hb]
      simp [execOp, ho, hv, hi', Instr.index, asIntOf, run_underlying' hu, hget]
      omega
    · cases h5
  · rename_i len el l hu
    split at h5
    · rename_i hi
      obtain ⟨ti, h6, h7⟩ := szOf_inv h5
      rw [fn_eq] at h7
      obtain ⟨y, h8, h9⟩ := part_ok h7
      obtain ⟨rfl, rfl⟩ := some_inv h8
      refine opOk_val fun B0 ρ τ w a hx _ _ => ?_
      have hv := h2 ρ a (hx x (by simp [ho, Op.operands]))
      have hi' := rel_num (h4 ρ a (hx ix (by simp [ho, Op.operands])))
      simp only [Rel] at hv
      obtain ⟨l', hv, hl, hone⟩ := hv
      obtain ⟨u, k1, k2⟩ := h9 ρ l' w hl hone
      refine ⟨u, k1, ?_⟩
      have hlt : i < len := by simpa [Nat.blt_eq] using hi
      simp [execOp, ho, hv, hi', Instr.index, asIntOf, run_underlying' hu, hlt, run_sizeOf' h6, k2]
    · cases h5
  · cases h5
where rel_num' {ρ : Rho} (k : IntKind) (n : Int) : Rel ρ (.int k n) (.int k n) := rel_int k n
theorem ok_makeFunc {f : Fn} {first caps : Array Operand} (ho : o.op = .makeFunc f first caps) (h : (opds e first.toList fun a => opds e caps.toList fun b => (some (.f f a b, st) : Res)) = some (v, st')) :
    StepOk c st st' ∧ OpOk P c st st' v e o := by
  obtain ⟨va, h1, h2⟩ := opds_inv h
  obtain ⟨vb, h3, h4⟩ := opds_inv h1
  obtain ⟨rfl, rfl⟩ := some_inv h3
  refine opOk_val fun B0 ρ τ w a hx _ _ => ⟨.func f (first.map a.eval) (caps.map a.eval), ?_, ?_⟩
  · simp only [Rel]
    refine ⟨first.toList.map a.eval, caps.toList.map a.eval, by rw [← Array.toList_map, ← Array.toList_map], h2 ρ a fun y hy => hx y (by simp only [ho, Op.operands]; simp at hy ⊢; exact .inl hy), h4 ρ a fun y hy => hx y (by simp only [ho, Op.operands]; simp at hy ⊢; exact .inr hy)⟩
  · simp [execOp, ho, Instr.makeFunc]
theorem ok_unOp {op : UnOp} {t : TypeId} {x : Operand} (ho : o.op = .unOp op t x) (h : (opd e x fun v => (match op, v with
    | .not, .c (.bool b) => fb (!b) fun b => (some (.bool b, st) : Res)
    | op, v => (match valA v with
      | some v => pu P (Op.unary op v) (ret st)
      | none => none))) = some (v, st')) : StepOk c st st' ∧ OpOk P c st st' v e o := by
  obtain ⟨v0, h1, h2⟩ := opd_inv h
  split at h1
  · rw [fb_eq] at h1
    obtain ⟨rfl, rfl⟩ := some_inv h1
    refine opOk_val fun B0 ρ τ w a hx _ _ => ⟨_, rel_bool _, ?_⟩
    have hv := rel_true (h2 ρ a (hx x (by simp [ho, Op.operands])))
    simp [execOp, ho, hv, Op.unary]
  · split at h1
    · rename_i y hy
      obtain ⟨u, z, h3, h4, h5⟩ := pu_inv h1
      obtain ⟨rfl, rfl⟩ := ret_inv h3
      refine opOk_val fun B0 ρ τ w a hx _ _ => ⟨z, h4 ρ, ?_⟩
      have hv := valA_rel hy (h2 ρ a (hx x (by simp [ho, Op.operands])))
      simp [execOp, ho, hv, h5]
    · cases h1
end
end Go.Proofs.Ytcjddojcfdeflaa.Ev
namespace Go.Proofs.Ytcjddojcfdeflaa.Ev
open Go.RowKit

/-! ### texts -/
theorem eqL_eq : ∀ (a b : List Nat), eqL a b = decide (a = b)
  | [], [] => rfl
  | [], _ :: _ => rfl
  | _ :: _, [] => rfl
  | x :: a, y :: b => by
    have h : eqL (x :: a) (y :: b) = (match Nat.beq x y with | true => eqL a b | false => false) := rfl
    rw [h, nbeq, eqL_eq a b]
    by_cases hxy : x = y <;> simp [hxy]
theorem ofNat_inj {x y : Nat} (hx : x < 256) (hy : y < 256) (h : UInt8.ofNat x = UInt8.ofNat y) : x = y := by
  have := congrArg UInt8.toNat h
  simpa [Nat.mod_eq_of_lt hx, Nat.mod_eq_of_lt hy] using this
theorem map_inj : ∀ (a b : List Nat), (∀ x, x ∈ a → x < 256) → (∀ x, x ∈ b → x < 256) → ((a.map UInt8.ofNat == b.map UInt8.ofNat) = decide (a = b))
  | [], [], _, _ => rfl
  | [], _ :: _, _, _ => rfl
  | _ :: _, [], _, _ => rfl
  | x :: a, y :: b, h, k => by
    have ih := map_inj a b (fun z hz => h z (by simp [hz])) (fun z hz => k z (by simp [hz]))
    rw [List.map_cons, List.map_cons, List.cons_beq_cons, ih]
    by_cases hxy : x = y
    · subst hxy; simp
    · have : ¬ UInt8.ofNat x = UInt8.ofNat y := fun e => hxy (ofNat_inj (h x (by simp)) (k y (by simp)) e)
      simp [hxy, this]
theorem ltL_eq : ∀ (a b : List Nat), (∀ x, x ∈ a → x < 256) → (∀ x, x ∈ b → x < 256) → ltL a b = Op.bytesLess (a.map UInt8.ofNat) (b.map UInt8.ofNat)
  | [], [], _, _ => rfl
  | [], _ :: _, _, _ => rfl
  | _ :: _, [], _, _ => rfl
  | x :: a, y :: b, h, k => by
    have e : ltL (x :: a) (y :: b) = (match Nat.blt x y with | true => true | false => match Nat.beq x y with | true => ltL a b | false => false) := rfl
    have ih := ltL_eq a b (fun z hz => h z (by simp [hz])) (fun z hz => k z (by simp [hz]))
    have hx := h x (by simp)
    have hy := k y (by simp)
    rw [e, ih]
    simp only [List.map_cons, Op.bytesLess]
    have e1 : decide (UInt8.ofNat x < UInt8.ofNat y) = Nat.blt x y := by
      rw [Bool.eq_iff_iff]
      simp [UInt8.lt_iff_toNat_lt, Nat.mod_eq_of_lt hx, Nat.mod_eq_of_lt hy, Nat.blt_eq]
    have e2 : (UInt8.ofNat x == UInt8.ofNat y) = Nat.beq x y := by
      rw [nbeq, Bool.eq_iff_iff]
      simp only [beq_iff_eq, decide_eq_true_eq]
      exact ⟨ofNat_inj hx hy, fun e => by rw [e]⟩
    rw [e1, e2]
    cases Nat.blt x y <;> cases Nat.beq x y <;> rfl
theorem ba_toList (l : List UInt8) : (⟨⟨l⟩⟩ : ByteArray).toList = l := by
  rw [ByteArray.toList_eq]
section
variable {P : Program} {c : Cx} {st st' : St} {v : V} {e : Env} {o : Oper}
theorem strOp_ok {β : Type} {q : β} {op : BinOp} {a b : List Nat} {k : V → Option β} (h : strOp op a b k = some q) (ha : ∀ x, x ∈ a → x < 256) (hb : ∀ x, x ∈ b → x < 256) :
    ∃ x y, k x = some q ∧ (∀ ρ, Rel ρ x y) ∧ ∀ w, (Op.stringOp op ⟨⟨a.map UInt8.ofNat⟩⟩ ⟨⟨b.map UInt8.ofNat⟩⟩).run P w = .ok y w := by
  have e1 := map_inj a b ha hb
  have e2 := ltL_eq a b ha hb
  unfold strOp at h
  simp only [fb_eq, fl_eq] at h
  split at h
  · split at h
    · rename_i hl
      refine ⟨_, .string ⟨⟨(a ++ b).map UInt8.ofNat⟩⟩, h, fun ρ => ?_, fun w => ?_⟩
      · simp only [Rel]
        exact ⟨trivial, fun x hx => (List.mem_append.1 hx).elim (ha x) (hb x)⟩
      · have hl' : a.length + b.length ≤ 1073741824 := by simpa [Nat.ble_eq] using hl
        have hn : ¬ (((⟨⟨a.map UInt8.ofNat⟩⟩ : ByteArray).size + (⟨⟨b.map UInt8.ofNat⟩⟩ : ByteArray).size : Nat) : Int) > IntKind.i64.max := by
          simp [ByteArray.size, IntKind.max, IntKind.signed, IntKind.bits]; omega
        simp only [Op.stringOp, hn, if_false, Sem.run_pure]
        congr 2
        apply ba_eq
        simp
    · cases h
  all_goals first
    | (refine ⟨_, _, h, fun ρ => rel_bool _, fun w => ?_⟩
       simp only [Op.stringOp, ba_toList, e1, ← e2, eqL_eq, Sem.run_pure])
    | (cases h)
theorem eqGuard_plain {op : BinOp} {t : TypeId} {x y : Operand} {a b : Value} (h1 : ¬ (a = .nilIface ∧ b = .nilIface)) (h2 : ∀ l m, ¬ (a = .agg l ∧ b = .agg m)) (w : World) : (eqGuard op t x y a b).run P w = .ok () w := by
  unfold eqGuard
  split
  case h_3 => rfl
  all_goals
    rw [if_neg (by simp)]
    split
    · exact absurd ⟨rfl, rfl⟩ h1
    · exact absurd ⟨rfl, rfl⟩ (h2 _ _)
    · rfl
theorem nil_ok {d : TypeDesc} {t : TypeId} {va vb : V} {b : Bool} (hu : P.underlying t = some d) (h : nilQ d va vb = some b) {ρ : Rho} {x y : Value} (hx : Rel ρ va x) (hy : Rel ρ vb y) (w : World) :
    (∀ ox oy op, (eqGuard op t ox oy x y).run P w = .ok () w) ∧ (Go.binOp .eql t x y).run P w = .ok (.bool b) w ∧ (Go.binOp .neq t x y).run P w = .ok (.bool (!b)) w := by
  have key : ∀ (x y : Value), (Op.equalIn (9999 + 1) t x y).run P w = .ok b w → (Op.equal t x y).run P w = .ok b w := fun _ _ h => h
  unfold nilQ at h
  split at h
  case h_14 => cases h
  all_goals
    injection h with h
    subst h
    simp only [Rel] at hx hy
  case h_1 | h_4 | h_11 =>
    obtain ⟨e1, _⟩ := hx
    obtain ⟨e2, _⟩ := hy
    have hk := key x y (by rw [e1, e2, Op.equalIn]; simp only [Sem.run_bind, run_underlying' hu, Result.andThen_ok]; rfl)
    subst e1 e2
    exact ⟨fun _ _ _ => eqGuard_plain (by simp) (by simp) w, by simp [Go.binOp, hk], by simp [Go.binOp, hk]⟩
  case h_2 | h_5 | h_12 =>
    obtain ⟨e1, _⟩ := hx
    obtain ⟨r, _, e2⟩ := hy
    have hk := key x y (by rw [e1, e2, Op.equalIn]; simp only [Sem.run_bind, run_underlying' hu, Result.andThen_ok]; rfl)
    subst e1 e2
    exact ⟨fun _ _ _ => eqGuard_plain (by simp) (by simp) w, by simp [Go.binOp, hk], by simp [Go.binOp, hk]⟩
  case h_3 | h_6 | h_13 =>
    obtain ⟨r, _, e1⟩ := hx
    obtain ⟨e2, _⟩ := hy
    have hk := key x y (by rw [e1, e2, Op.equalIn]; simp only [Sem.run_bind, run_underlying' hu, Result.andThen_ok]; rfl)
    subst e1 e2
    exact ⟨fun _ _ _ => eqGuard_plain (by simp) (by simp) w, by simp [Go.binOp, hk], by simp [Go.binOp, hk]⟩
  case h_7 =>
    obtain ⟨e1, _⟩ := hx
    obtain ⟨r, _, _, _, e2⟩ := hy
    have hk := key x y (by rw [e1, e2, Op.equalIn]; simp only [Sem.run_bind, run_underlying' hu, Result.andThen_ok]; rfl)
    subst e1 e2
    exact ⟨fun _ _ _ => eqGuard_plain (by simp) (by simp) w, by simp [Go.binOp, hk], by simp [Go.binOp, hk]⟩
  case h_8 =>
    obtain ⟨r, _, _, _, e1⟩ := hx
    obtain ⟨e2, _⟩ := hy
    have hk := key x y (by rw [e1, e2, Op.equalIn]; simp only [Sem.run_bind, run_underlying' hu, Result.andThen_ok]; rfl)
    subst e1 e2
    exact ⟨fun _ _ _ => eqGuard_plain (by simp) (by simp) w, by simp [Go.binOp, hk], by simp [Go.binOp, hk]⟩
  case h_9 =>
    obtain ⟨e1, _⟩ := hx
    obtain ⟨a, cc, e2⟩ := hy
    have hk := key x y (by rw [e1, e2, Op.equalIn]; simp only [Sem.run_bind, run_underlying' hu, Result.andThen_ok]; rfl)
    subst e1 e2
    exact ⟨fun _ _ _ => eqGuard_plain (by simp) (by simp) w, by simp [Go.binOp, hk], by simp [Go.binOp, hk]⟩
  case h_10 =>
    obtain ⟨a, cc, e1⟩ := hx
    obtain ⟨e2, _⟩ := hy
    have hk := key x y (by rw [e1, e2, Op.equalIn]; simp only [Sem.run_bind, run_underlying' hu, Result.andThen_ok]; rfl)
    subst e1 e2
    exact ⟨fun _ _ _ => eqGuard_plain (by simp) (by simp) w, by simp [Go.binOp, hk], by simp [Go.binOp, hk]⟩
theorem binE_ok {op : BinOp} {t yt : TypeId} {x y : Operand} {va vb : V} (ho : o.op = .binOp op t x y yt) (h : binE P st op t x y va vb = some (v, st'))
    (ha : ∀ (ρ : Rho) (a : Act), TmpRel ρ e a x → Rel ρ va (a.eval x)) (hb : ∀ (ρ : Rho) (a : Act), TmpRel ρ e a y → Rel ρ vb (a.eval y)) : StepOk c st st' ∧ OpOk P c st st' v e o := by
  have hex : ∀ (a : Act) (w : World) (u : Value), (∀ ox oy, (eqGuard op t ox oy (a.eval x) (a.eval y)).run P w = .ok () w) → (Go.binOp op t (a.eval x) (a.eval y)).run P w = .ok u w → (execOp a.eval o).run P w = .ok (.value u) w := fun a w u h1 h2 => by
    simp [execOp, ho, h1, h2]
  have mx : x ∈ o.op.operands.toList := by simp [ho, Op.operands]
  have my : y ∈ o.op.operands.toList := by simp [ho, Op.operands]
  have pure_ok : ∀ {s1 : Value} {s2 : Value}, valV va = some s1 → valV vb = some s2 → pu P (do eqGuard op t x y s1 s2; Go.binOp op t s1 s2) (ret st) = some (v, st') → StepOk c st st' ∧ OpOk P c st st' v e o := fun h1 h2 h3 => by
    obtain ⟨u, z, h4, h5, h6⟩ := pu_inv h3
    obtain ⟨rfl, rfl⟩ := ret_inv h4
    refine opOk_val fun B0 ρ τ w a hx _ _ => ⟨z, h5 ρ, ?_⟩
    have e1 := valV_rel h1 (ha ρ a (hx x mx))
    have e2 := valV_rel h2 (hb ρ a (hx y my))
    have := h6 w
    simp only [execOp, ho, Sem.run_bind, e1, e2] at this ⊢
    rw [this]; rfl
  unfold binE at h
  split at h
  · rename_i k n k' m
    have eqx : ∀ (ρ : Rho) (a : Act), (∀ x, x ∈ o.op.operands.toList → TmpRel ρ e a x) → a.eval x = .int k n ∧ a.eval y = .int k' m := fun ρ a hx => ⟨rel_num (ha ρ a (hx x mx)), rel_num (hb ρ a (hx y my))⟩
    split at h
    · split at h
      · rename_i u hu
        obtain ⟨v1, h1, h2⟩ := ofV_inv h
        obtain ⟨rfl, rfl⟩ := ret_inv h1
        refine opOk_val fun B0 ρ τ w a hx _ _ => ⟨u, h2 ρ, ?_⟩
        obtain ⟨e1, e2⟩ := eqx ρ a hx
        exact hex a w u (fun ox oy => by rw [e1, e2]; exact eqGuard_plain (by simp) (by simp) w) (by rw [e1, e2]; exact shI_ok t hu)
      · cases h
    · split at h
      · rename_i u hu
        obtain ⟨v1, h1, h2⟩ := ofV_inv h
        obtain ⟨rfl, rfl⟩ := ret_inv h1
        refine opOk_val fun B0 ρ τ w a hx _ _ => ⟨u, h2 ρ, ?_⟩
        obtain ⟨e1, e2⟩ := eqx ρ a hx
        exact hex a w u (fun ox oy => by rw [e1, e2]; exact eqGuard_plain (by simp) (by simp) w) (by rw [e1, e2]; exact shI_ok t hu)
      · cases h
    · rename_i g1 g2
      split at h
      · rename_i hk
        split at h
        · rename_i u hu
          obtain ⟨v1, h1, h2⟩ := ofV_inv h
          obtain ⟨rfl, rfl⟩ := ret_inv h1
          refine opOk_val fun B0 ρ τ w a hx _ _ => ⟨u, h2 ρ, ?_⟩
          obtain ⟨e1, e2⟩ := eqx ρ a hx
          have := eqKd_eq hk
          subst this
          exact hex a w u (fun ox oy => by rw [e1, e2]; exact eqGuard_plain (by simp) (by simp) w) (by rw [e1, e2]; exact binI_ok t hu g1 g2)
        · cases h
      · cases h
  · rename_i la lb
    have ha' : ∀ (ρ : Rho) (a : Act), TmpRel ρ e a x → a.eval x = .string ⟨⟨la.map UInt8.ofNat⟩⟩ ∧ ∀ b, b ∈ la → b < 256 := fun ρ a h => by have := ha ρ a h; simpa only [Rel] using this
    have hb' : ∀ (ρ : Rho) (a : Act), TmpRel ρ e a y → a.eval y = .string ⟨⟨lb.map UInt8.ofNat⟩⟩ ∧ ∀ b, b ∈ lb → b < 256 := fun ρ a h => by have := hb ρ a h; simpa only [Rel] using this
    by_cases hlt : (∀ b, b ∈ la → b < 256) ∧ (∀ b, b ∈ lb → b < 256)
    · obtain ⟨u, z, h1, h2, h3⟩ := strOp_ok (P := P) h hlt.1 hlt.2
      obtain ⟨rfl, rfl⟩ := ret_inv h1
      refine opOk_val fun B0 ρ τ w a hx _ _ => ⟨z, h2 ρ, ?_⟩
      have e1 := (ha' ρ a (hx x mx)).1
      have e2 := (hb' ρ a (hx y my)).1
      exact hex a w z (fun ox oy => by rw [e1, e2]; exact eqGuard_plain (by simp) (by simp) w) (by
        rw [e1, e2]
        have : Go.binOp op t (.string ⟨⟨la.map UInt8.ofNat⟩⟩) (.string ⟨⟨lb.map UInt8.ofNat⟩⟩) = Op.stringOp op ⟨⟨la.map UInt8.ofNat⟩⟩ ⟨⟨lb.map UInt8.ofNat⟩⟩ := by cases op <;> rfl
        rw [this]; exact h3 w)
    · have hst : st = st' := by
        unfold strOp at h
        simp only [fb_eq, fl_eq] at h
        split at h
        · split at h
          · exact (ret_inv h).2
          · cases h
        all_goals first
          | exact (ret_inv h).2
          | cases h
      subst hst
      refine ⟨.refl _ _, fun B0 ρ τ w a hx _ _ _ K Q _ => ?_⟩
      exact absurd ⟨(ha' ρ a (hx x mx)).2, (hb' ρ a (hx y my)).2⟩ hlt
  · rename_i n1 o1 n2 o2
    split at h
    · rename_i el hu hnn
      rw [Bool.and_eq_true] at hnn
      obtain rfl := Nat.eq_of_beq_eq_true hnn.1
      obtain rfl := Nat.eq_of_beq_eq_true hnn.2
      have same : ∀ (ρ : Rho) (a : Act), (∀ x, x ∈ o.op.operands.toList → TmpRel ρ e a x) → ∃ p : Addr, a.eval x = .pointer (some p) ∧ a.eval y = .pointer (some p) := fun ρ a hx => by
        have e1 := ha ρ a (hx x mx)
        have e2 := hb ρ a (hx y my)
        simp only [Rel] at e1 e2
        obtain ⟨r, k1, k2⟩ := e1
        obtain ⟨r', k3, k4⟩ := e2
        rw [k1] at k3; injection k3 with k3; subst k3
        exact ⟨_, k2, k4⟩
      have key : ∀ {i : TypeInfo} (p : Addr) (w : World), P.info? el = some i → (Op.equal t (.pointer (some p)) (.pointer (some p))).run P w = .ok true w := fun p w hi => by
        have h : ∀ d : Nat, (Op.equalIn (d + 1) t (.pointer (some p)) (.pointer (some p))).run P w = .ok true w := fun d => by
          simp [Op.equalIn, run_underlying' hu, sizeOf, typeInfo, hi, run_sameAddr_same]
        exact h 9999
      split at h
      · rename_i i hi
        obtain ⟨rfl, rfl⟩ := some_inv h
        refine opOk_val fun B0 ρ τ w a hx _ _ => ⟨_, rel_bool _, ?_⟩
        obtain ⟨p, e1, e2⟩ := same ρ a hx
        exact hex a w _ (fun ox oy => by rw [e1, e2]; exact eqGuard_plain (by simp) (by simp) w) (by rw [e1, e2]; simp [Go.binOp, key p w hi])
      · rename_i i hi
        obtain ⟨rfl, rfl⟩ := some_inv h
        refine opOk_val fun B0 ρ τ w a hx _ _ => ⟨_, rel_bool _, ?_⟩
        obtain ⟨p, e1, e2⟩ := same ρ a hx
        exact hex a w _ (fun ox oy => by rw [e1, e2]; exact eqGuard_plain (by simp) (by simp) w) (by rw [e1, e2]; simp [Go.binOp, key p w hi])
      · cases h
    · cases h
  · split at h
    · rename_i d hu
      split at h
      · rename_i b hn
        rw [fb_eq] at h
        obtain ⟨rfl, rfl⟩ := some_inv h
        refine opOk_val fun B0 ρ τ w a hx _ _ => ⟨.bool b, rel_bool _, ?_⟩
        obtain ⟨k1, k2, k3⟩ := nil_ok hu hn (ha ρ a (hx x mx)) (hb ρ a (hx y my)) w
        exact hex a w _ (fun ox oy => k1 ox oy _) k2
      · split at h
        · rename_i s1 s2 q1 q2
          exact pure_ok q1 q2 h
        · cases h
    · rename_i d hu
      split at h
      · rename_i b hn
        rw [fb_eq] at h
        obtain ⟨rfl, rfl⟩ := some_inv h
        refine opOk_val fun B0 ρ τ w a hx _ _ => ⟨.bool (!b), rel_bool _, ?_⟩
        obtain ⟨k1, k2, k3⟩ := nil_ok hu hn (ha ρ a (hx x mx)) (hb ρ a (hx y my)) w
        exact hex a w _ (fun ox oy => k1 ox oy _) k3
      · split at h
        · rename_i s1 s2 q1 q2
          exact pure_ok q1 q2 h
        · cases h
    · cases h
theorem ok_binOp {op : BinOp} {t yt : TypeId} {x y : Operand} (ho : o.op = .binOp op t x y yt) (h : (opd e x fun a => opd e y fun b => binE P st op t x y a b) = some (v, st')) : StepOk c st st' ∧ OpOk P c st st' v e o := by
  obtain ⟨va, h1, h2⟩ := opd_inv h
  obtain ⟨vb, h3, h4⟩ := opd_inv h1
  exact binE_ok ho h3 h2 h4
end
end Go.Proofs.Ytcjddojcfdeflaa.Ev
namespace Go.Proofs.Ytcjddojcfdeflaa.Ev
open Go.RowKit

section
variable {P : Program} {c : Cx} {st st' : St} {v : V} {e : Env} {o : Oper}
theorem lenA_inv {β : Type} {q : β} {x : V} {k : Nat → Option β} (h : lenA x k = some q) : ∃ n, k n = some q ∧ ∀ (ρ : Rho) (y : Value), Rel ρ x y → ∀ w, (Builtin.lenOf y).run P w = .ok n w := by
  unfold lenA at h
  split at h
  · exact ⟨0, h, fun ρ y hy w => by simp only [Rel] at hy; obtain ⟨rfl, _⟩ := hy; simp [Builtin.lenOf]⟩
  · exact ⟨_, h, fun ρ y hy w => by simp only [Rel] at hy; obtain ⟨r, _, rfl⟩ := hy; simp [Builtin.lenOf]⟩
  · exact ⟨_, h, fun ρ y hy w => by simp only [Rel] at hy; obtain ⟨r, _, _, _, rfl⟩ := hy; simp [Builtin.lenOf]⟩
  · exact ⟨0, h, fun ρ y hy w => by simp only [Rel] at hy; obtain ⟨a, cc, rfl⟩ := hy; simp [Builtin.lenOf]⟩
  · rw [fn_eq] at h
    exact ⟨_, h, fun ρ y hy w => by simp only [Rel] at hy; obtain ⟨rfl, _⟩ := hy; simp [Builtin.lenOf, ByteArray.size]⟩
  · cases h
/-- cells that are read as a whole -/
theorem firsts_inv {β : Type} {q : β} {z n : Nat} {x : V} {k : List V → Option β} (h : firsts c st z n x k = some q) :
    ∃ l, k l = some q ∧ l.length = n * z ∧ ∀ (B0 : Nat) (ρ : Rho) (τ : Mem) (w : World) (y : Value), Agree c st τ → Real ρ B0 τ w → Rel ρ x y →
      ∃ xs : List Value, RelL ρ l xs ∧ l.all V.one = true ∧ ∀ w' : World, w'.heap = w.heap → (Builtin.firstCells z n y).run P w' = .ok xs.toArray w' := by
  unfold firsts at h
  split at h
  · split at h
    · exact ⟨[], h, by simp, fun B0 ρ τ w y _ _ hy => ⟨[], .nil, rfl, fun w' _ => by simp only [Rel] at hy; obtain ⟨rfl, _⟩ := hy; simp [Builtin.firstCells]⟩⟩
    · cases h
  · split at h
    · exact ⟨[], h, by simp, fun B0 ρ τ w y _ _ hy => ⟨[], .nil, rfl, fun w' _ => by simp only [Rel] at hy; obtain ⟨a, cc, rfl⟩ := hy; simp [Builtin.firstCells, loadCells, loadCellsFrom]⟩⟩
    · cases h
  · rename_i m i l cap
    split at h
    · obtain ⟨ty, sz, t, h1, h2, h3⟩ := getC_inv h
      obtain ⟨ls, h4, h5, h6⟩ := getsB_inv h3
      refine ⟨ls, h4, h5, fun B0 ρ τ w y hag hre hy => ?_⟩
      simp only [Rel] at hy
      obtain ⟨r, hr, rfl⟩ := hy
      obtain ⟨k1, _, xs, k2, k3⟩ := hre.read (hag m _ h1 h2) hr h6
      refine ⟨xs, k2, k1, fun w' hw' => ?_⟩
      exact run_firstCells_some w' z n ⟨r.block, r.base + i, none⟩ l cap xs (by rw [k2.length, h5]) (fun j u hu => by
        rw [add_off]
        have := k3 j u hu
        unfold World.cell? at this ⊢
        rw [hw']; exact this)
    · cases h
  · rename_i m i l z'
    split at h
    · obtain ⟨ty, sz, t, h1, h2, h3⟩ := getC_inv h
      obtain ⟨ls, h4, h5, h6⟩ := getsB_inv h3
      refine ⟨ls, h4, h5, fun B0 ρ τ w y hag hre hy => ?_⟩
      simp only [Rel] at hy
      obtain ⟨r, hr, _, _, rfl⟩ := hy
      obtain ⟨k1, _, xs, k2, k3⟩ := hre.read (hag m _ h1 h2) hr h6
      refine ⟨xs, k2, k1, fun w' hw' => ?_⟩
      exact run_firstCells_some w' z n ⟨r.block, r.base + i, none⟩ l _ xs (by rw [k2.length, h5]) (fun j u hu => by
        rw [add_off]
        have := k3 j u hu
        unfold World.cell? at this ⊢
        rw [hw']; exact this)
    · cases h
  · rename_i l
    split at h
    · rename_i hz hn
      have hz' : z = 1 := by simpa [nbeq] using hz
      have hn' : n ≤ l.length := by simpa [Nat.ble_eq] using hn
      subst hz'
      refine ⟨_, h, by simp; omega, fun B0 ρ τ w y hag hre hy => ?_⟩
      simp only [Rel] at hy
      obtain ⟨rfl, hb⟩ := hy
      refine ⟨(l.take n).map fun x => .int .u8 (Int.ofNat x), ?_, ?_, fun w' _ => ?_⟩
      · refine RelL.of_get (by simp) fun i a ha => ?_
        simp only [List.getElem?_map, Option.map_eq_some_iff] at ha ⊢
        obtain ⟨x, hx, rfl⟩ := ha
        exact ⟨_, ⟨x, hx, rfl⟩, rel_int _ _⟩
      · rw [List.all_eq_true]
        intro a ha
        obtain ⟨x, _, rfl⟩ := List.mem_map.1 ha
        rfl
      · simp only [Builtin.firstCells, Sem.run_pure]
        congr 1
        apply Array.ext'
        rw [Array.toList_map, Lib.extract_data]
        simp only [List.drop_zero, Nat.sub_zero, List.map_map, ← List.map_take]
        apply List.map_congr_left
        intro x hx
        have := hb x (List.mem_of_mem_take hx)
        simp [Nat.mod_eq_of_lt this]
    · cases h
  · cases h
theorem src_of {z n : Nat} {tx : TypeId} {l : List V} {ρ : Rho} {w : World} {y : Value} {xs : List Value} (hk : (∃ e', P.underlying tx = some (.slice e')) ∨ P.underlying tx = some .string)
    (hl : ∀ w, (Builtin.lenOf y).run P w = .ok n w) (hlen : l.length = n * z) (hr : RelL ρ l xs) (ho : l.all V.one = true) (hc : ∀ w' : World, w'.heap = w.heap → (Builtin.firstCells z n y).run P w' = .ok xs.toArray w') : Src P z tx y n xs w :=
  ⟨hk, hl, hc w rfl, hc w.drew rfl, by rw [hr.length, hlen], hr.oneCell ho⟩
/-- a call of a builtin -/
theorem run_builtin {b : Builtin} {cl : Call} (ho : o.op = .call cl) (hb : cl.callee = .builtin b) (a : Act) (w : World) :
    (execOp a.eval o).run P w = (builtin b cl.argTypes o.type (cl.args.map fun | .const _ => true | _ => false) (cl.args.map a.eval)).run P w := by
  simp only [execOp, ho, resolve, hb, Sem.run_bind, Sem.run_pure, Result.andThen_ok, invoke]
  rfl
theorem call_ops {cl : Call} {b : Builtin} (hb : cl.callee = .builtin b) : ∀ x, x ∈ cl.args.toList → x ∈ (Op.call cl).operands.toList := fun x hx => by
  simp only [Op.operands, Call.operands, hb]; simpa using hx
theorem arr1 {α : Type} {a : Array α} {x : α} (h : a.toList = [x]) : a = #[x] := by cases a; simp_all
theorem arr2 {α : Type} {a : Array α} {x y : α} (h : a.toList = [x, y]) : a = #[x, y] := by cases a; simp_all
theorem relL1 {ρ : Rho} {x : V} {l : List Value} (h : RelL ρ [x] l) : ∃ y, l = [y] ∧ Rel ρ x y := by
  simp only [RelL] at h; obtain ⟨y, ys, rfl, h1, rfl⟩ := h; exact ⟨y, rfl, h1⟩
theorem relL2 {ρ : Rho} {x x' : V} {l : List Value} (h : RelL ρ [x, x'] l) : ∃ y y', l = [y, y'] ∧ Rel ρ x y ∧ Rel ρ x' y' := by
  simp only [RelL] at h; obtain ⟨y, ys, rfl, h1, y', ys', rfl, h2, rfl⟩ := h; exact ⟨y, y', rfl, h1, h2⟩
theorem ok_len {cl : Call} {t : TypeId} {x : V} (ho : o.op = .call cl) (hb : cl.callee = .builtin .len) (ht : cl.argTypes.toList = [t])
    (h : (match P.underlying t with
    | some (.array n _) => (some (.int .i64 (.ofNat n), st) : Res)
    | some (.pointer a) => (match P.underlying a with | some (.array n _) => some (.int .i64 (.ofNat n), st) | _ => none)
    | some .string => (match x with | .s l => fn l.length fun n => some (.int .i64 (.ofNat n), st) | _ => none)
    | some (.slice _) => (match x with | .s _ => none | _ => lenA x fun n => some (.int .i64 (.ofNat n), st))
    | _ => none) = some (v, st'))
    (hx : ∀ (ρ : Rho) (a : Act), (∀ y, y ∈ cl.args.toList → TmpRel ρ e a y) → RelL ρ [x] (cl.args.toList.map a.eval)) : StepOk c st st' ∧ OpOk P c st st' v e o := by
  have step : ∀ n : Nat, (∀ (ρ : Rho) (a : Act) (w : World) (y : Value), Rel ρ x y → (Builtin.len_ #[t] o.type #[y]).run P w = .ok (.int .i64 (Int.ofNat n)) w) → StepOk c st st ∧ OpOk P c st st (.int .i64 (.ofNat n)) e o := fun n hn =>
    opOk_val fun B0 ρ τ w a hxx _ _ => ⟨_, rel_int _ _, by
      rw [ho] at hxx
      obtain ⟨y, hy, hr⟩ := relL1 (hx ρ a fun y hy => hxx y (call_ops hb y hy))
      have e1 : cl.args.map a.eval = #[y] := arr1 (by rw [Array.toList_map]; exact hy)
      rw [run_builtin ho hb, e1, arr1 ht]
      simp [builtin, hn ρ a w y hr]⟩
  split at h
  · rename_i n _ hu
    obtain ⟨rfl, rfl⟩ := some_inv h
    exact step n fun ρ a w y _ => by simp [Builtin.len_, run_underlying' hu, goInt]
  · rename_i a0 hu
    split at h
    · rename_i n _ hu2
      obtain ⟨rfl, rfl⟩ := some_inv h
      exact step n fun ρ a w y _ => by simp [Builtin.len_, run_underlying' hu, run_underlying' hu2, goInt]
    · cases h
  · rename_i hu
    split at h
    · rename_i l
      rw [fn_eq] at h
      obtain ⟨rfl, rfl⟩ := some_inv h
      exact step _ fun ρ a w y hy => by
        simp only [Rel] at hy; obtain ⟨rfl, _⟩ := hy
        have hs : (⟨⟨l.map UInt8.ofNat⟩⟩ : ByteArray).size = l.length := by simp [ByteArray.size]
        simp [Builtin.len_, run_underlying' hu, goInt, hs]
    · cases h
  · rename_i el hu
    cases x with
    | s l => cases h
    | c u =>
      simp only [lenA] at h
      split at h
      · rename_i hc
        injection hc with hc
        subst hc
        obtain ⟨rfl, rfl⟩ := some_inv h
        exact step 0 fun ρ a w y hy => by simp only [Rel] at hy; obtain ⟨rfl, _⟩ := hy; simp [Builtin.len_, run_underlying' hu, goInt]
      all_goals first | (cases h; done) | (rename_i hc; cases hc; done)
    | sl n i l cp =>
      simp only [lenA] at h
      obtain ⟨rfl, rfl⟩ := some_inv h
      exact step _ fun ρ a w y hy => by simp only [Rel] at hy; obtain ⟨r, _, rfl⟩ := hy; simp [Builtin.len_, run_underlying' hu, goInt]
    | sg n i l z =>
      simp only [lenA] at h
      obtain ⟨rfl, rfl⟩ := some_inv h
      exact step _ fun ρ a w y hy => by simp only [Rel] at hy; obtain ⟨r, _, _, _, rfl⟩ := hy; simp [Builtin.len_, run_underlying' hu, goInt]
    | e =>
      simp only [lenA] at h
      obtain ⟨rfl, rfl⟩ := some_inv h
      exact step 0 fun ρ a w y hy => by simp only [Rel] at hy; obtain ⟨b, cc, rfl⟩ := hy; simp [Builtin.len_, run_underlying' hu, goInt]
    | p n i => cases h
    | m n => cases h
    | f a b d => cases h
    | g l => cases h
    | t l => cases h
  · cases h
theorem ok_pick1 {cl : Call} {b : Builtin} {args : List V} (ho : o.op = .call cl) (hb : cl.callee = .builtin b)
    (hx : ∀ (ρ : Rho) (a : Act), (∀ y, y ∈ cl.args.toList → TmpRel ρ e a y) → RelL ρ args (cl.args.toList.map a.eval))
    (h : pick1 P b cl.argTypes.toList o.type args st = some (v, st')) : StepOk c st st' ∧ OpOk P c st st' v e o := by
  unfold pick1 at h
  split at h
  · cases h
  · rename_i vs hvs
    have harg : ∀ (ρ : Rho) (a : Act), (∀ x, x ∈ o.op.operands.toList → TmpRel ρ e a x) → cl.args.map a.eval = ⟨vs⟩ := fun ρ a hxx => by
      rw [ho] at hxx
      have := valsA_rel hvs (hx ρ a fun y hy => hxx y (call_ops hb y hy))
      rw [← this, ← Array.toList_map]
    split at h
    · obtain ⟨u, z, h3, h4, h5⟩ := pu_inv h
      obtain ⟨rfl, rfl⟩ := ret_inv h3
      refine opOk_val fun B0 ρ τ w a hxx _ _ => ⟨z, h4 ρ, ?_⟩
      have h5' := h5 w
      rw [run_builtin ho hb, harg ρ a hxx]
      simp only [Array.toArray_toList] at h5'
      simp only [builtin, Sem.run_bind]
      rw [h5']; rfl
    · obtain ⟨u, z, h3, h4, h5⟩ := pu_inv h
      obtain ⟨rfl, rfl⟩ := ret_inv h3
      refine opOk_val fun B0 ρ τ w a hxx _ _ => ⟨z, h4 ρ, ?_⟩
      have h5' := h5 w
      rw [run_builtin ho hb, harg ρ a hxx]
      simp only [Array.toArray_toList] at h5'
      simp only [builtin, Sem.run_bind]
      rw [h5']; rfl
    · cases h
end
end Go.Proofs.Ytcjddojcfdeflaa.Ev
namespace Go.Proofs.Ytcjddojcfdeflaa.Ev
open Go.RowKit

section
variable {P : Program} {c : Cx} {st st' : St} {v : V} {e : Env} {o : Oper}
/-- noughts, as many as a number says -/
structure SrcMk (P : Program) (i : TypeInfo) (tx : TypeId) (x : Value) (n : Nat) (news : List Value) : Prop where
  kind : ∃ k, P.underlying tx = some (.int k)
  val : x = .int .i64 (Int.ofNat n)
  small : n ≤ 1073741824
  zero : ∃ z, i.zero = some z ∧ news = (Builtin.zeroCells z.cells n).toList
  bytes : i.bytes ≤ 1024
  size : 1 ≤ i.size
  newsLen : news.length = n * i.size
  one : ∀ u ∈ news, u.oneCell' = true
def SrcX (P : Program) (i : TypeInfo) (tx : TypeId) (x : Value) (n : Nat) (news : List Value) (w : World) : Prop := Src P i.size tx x n news w ∨ SrcMk P i tx x n news
theorem SrcX.newsLen {i : TypeInfo} {tx : TypeId} {x : Value} {n : Nat} {news : List Value} {w : World} (h : SrcX P i tx x n news w) : news.length = n * i.size := by
  rcases h with h | h
  · exact h.newsLen
  · exact h.newsLen
theorem mk_facts {i : TypeInfo} {tx : TypeId} {x : Value} {n : Nat} {news : List Value} (h : SrcMk P i tx x n news) : IntKind.i64.wrap (n : Int) = (n : Int) ∧ ¬ ((n : Int) < 0) ∧ ¬ ((281474976710656 : Int) < (n : Int) * (i.bytes : Int)) := by
  have hn := h.small
  have hby := h.bytes
  refine ⟨?_, by omega, ?_⟩
  · have h1 : (n : Int) % 18446744073709551616 = n := by omega
    have h2 : ¬ ((9223372036854775808 : Int) ≤ n) := by omega
    simp [IntKind.wrap, IntKind.bits, IntKind.signed, h1, h2]
  · have hb : n * i.bytes ≤ 1073741824 * 1024 := Nat.mul_le_mul hn hby
    have : ((n * i.bytes : Nat) : Int) ≤ ((1073741824 * 1024 : Nat) : Int) := by exact_mod_cast hb
    simp only [Int.natCast_mul] at this
    omega
theorem wrap0_mk : IntKind.i64.wrap 0 = 0 := by decide
theorem run_append_room_x (w : World) (t tx ty e : TypeId) (i : TypeInfo) (ht : P.underlying t = some (.slice e)) (hi : P.info? e = some i) (b off sLen sCap : Nat) (x : Value) (n : Nat) (news : List Value) (hs : SrcX P i tx x n news w)
    (hroom : sLen + n ≤ sCap) (hc : ∀ j, j < news.length → (w.cell? ⟨b, off + sLen * i.size + j, none⟩).isSome = true) (hf : ∀ j, j < news.length → w.frozen? ⟨b, off + sLen * i.size + j, none⟩ = false) :
    (Builtin.append_ #[t, tx] ty #[.slice (some ⟨b, off, none⟩) sLen sCap, x]).run P w = .ok (.slice (some ⟨b, off, none⟩) (sLen + n) sCap) (w.setCells b (off + sLen * i.size) news) := by
  rcases hs with hs | hs
  · exact run_append_room_src w t tx ty e i ht hi b off sLen sCap x n news hs hroom hc hf
  · obtain ⟨k, hk⟩ := hs.kind
    obtain ⟨z, hz, hnews⟩ := hs.zero
    obtain ⟨e1, e2, e3⟩ := mk_facts hs
    have e3' : ¬ (281474976710656 < n * i.bytes) := by
      have hb : n * i.bytes ≤ 1073741824 * 1024 := Nat.mul_le_mul hs.small hs.bytes
      omega
    have hst := run_storeCells_cells (P := P) b (off + sLen * i.size) news 0 w (by simpa using hc) (by simpa using hf) hs.one
    simp only [Nat.add_zero] at hst
    have hv := hs.val
    subst hv
    by_cases h0 : n * i.size = 0
    · have hn0 : n = 0 := by
        rcases Nat.mul_eq_zero.1 h0 with h | h
        · exact h
        · have := hs.size; omega
      subst hn0
      have hnil : news = [] := List.eq_nil_of_length_eq_zero (by rw [hs.newsLen, Nat.zero_mul])
      subst hnil
      have hroom' : sLen ≤ sCap := hroom
      simp [Builtin.append_, run_underlying ht, run_underlying hk, sizeOf, typeInfo, hi, Go.asInt, asIntOf, wrap0_mk, hroom', Addr.add_lit, hst]
    · have hst' : (storeCells ⟨b, off + sLen * i.size, none⟩ (Builtin.zeroCells z.cells n).toList).run P w = .ok () (w.setCells b (off + sLen * i.size) (Builtin.zeroCells z.cells n).toList) := by rw [← hnews]; exact hst
      rw [hnews]
      simp [Builtin.append_, run_underlying ht, run_underlying hk, sizeOf, typeInfo, zeroValue, hi, hz, Go.asInt, asIntOf, e1, e2, e3, h0, hroom, Addr.add_lit, hst']
theorem run_append_grow_x (w : World) (t tx ty e : TypeId) (i : TypeInfo) (z : Value) (ht : P.underlying t = some (.slice e)) (hi : P.info? e = some i) (hz : i.zero = some z) (base : Option Addr) (sLen sCap : Nat) (olds : List Value)
    (hold : (Builtin.firstCells i.size sLen (.slice base sLen sCap)).run P w.drew = .ok olds.toArray w.drew) (x : Value) (n : Nat) (news : List Value) (hs : SrcX P i tx x n news w)
    (hg : sCap < sLen + n) (h63 : ((sLen + n : Nat) : Int) ≤ 9223372036854775807) (hfit : Builtin.nextslicecap (sLen + n) sCap * i.bytes ≤ 281474976710656) :
    (Builtin.append_ #[t, tx] ty #[.slice base sLen sCap, x]).run P w =
      .ok (.slice (some ⟨w.heap.size, 0, none⟩) (sLen + n) (grownCap w (sLen + n) sCap e))
        (w.drew.alloc (.cells ((olds ++ news).toArray ++ Builtin.zeroCells z.cells (grownCap w (sLen + n) sCap e - (sLen + n))) e)) := by
  rcases hs with hs | hs
  · exact run_append_grow_src w t tx ty e i z ht hi hz base sLen sCap olds hold x n news hs hg h63 hfit
  · obtain ⟨k, hk⟩ := hs.kind
    obtain ⟨z', hz', hnews⟩ := hs.zero
    rw [hz] at hz'
    injection hz' with hz'
    subst hz'
    obtain ⟨e1, e2, e3⟩ := mk_facts hs
    have e3' : ¬ (281474976710656 < n * i.bytes) := by
      have hb : n * i.bytes ≤ 1073741824 * 1024 := Nat.mul_le_mul hs.small hs.bytes
      omega
    have hn : ¬ (sLen + n ≤ sCap) := by omega
    have h63' : ¬ (9223372036854775807 < ((sLen : Int) + (n : Int))) := by omega
    have h48' : ¬ (281474976710656 < Builtin.nextslicecap (sLen + n) sCap * i.bytes) := by omega
    have hv := hs.val
    subst hv
    by_cases h0 : n * i.size = 0
    · have hn0 : n = 0 := by
        rcases Nat.mul_eq_zero.1 h0 with h | h
        · exact h
        · have := hs.size; omega
      subst hn0
      have hnil : news = [] := List.eq_nil_of_length_eq_zero (by rw [hs.newsLen, Nat.zero_mul])
      subst hnil
      simp only [Nat.add_zero] at hn h63' h48' ⊢
      have h63'' : ¬ (9223372036854775807 < (sLen : Int)) := by omega
      simp [Builtin.append_, run_underlying ht, run_underlying hk, sizeOf, typeInfo, zeroValue, hi, hz, Go.asInt, asIntOf, wrap0_mk, hn, h63'', h48', Question.forced, hold, newRow, grownCap]
    · simp [Builtin.append_, run_underlying ht, run_underlying hk, sizeOf, typeInfo, zeroValue, hi, hz, Go.asInt, asIntOf, e1, e2, e3, h0, hn, h63', h48', Question.forced, hold, newRow, grownCap]
      rw [hnews]
      congr 2
      apply Array.ext'
      simp [List.append_assoc]
theorem run_append_nothing_x (w : World) (t tx ty e : TypeId) (i : TypeInfo) (ht : P.underlying t = some (.slice e)) (hi : P.info? e = some i) (base : Option Addr) (sLen sCap : Nat) (hle : sLen ≤ sCap) (x : Value) (hs : SrcX P i tx x 0 [] w) :
    (Builtin.append_ #[t, tx] ty #[.slice base sLen sCap, x]).run P w = .ok (.slice base sLen sCap) w := by
  rcases hs with hs | hs
  · exact run_append_nothing w t tx ty e i ht hi base sLen sCap hle x hs
  · obtain ⟨k, hk⟩ := hs.kind
    obtain ⟨e1, e2, e3⟩ := mk_facts hs
    have hv := hs.val
    subst hv
    cases base <;> simp [Builtin.append_, run_underlying ht, run_underlying hk, sizeOf, typeInfo, hi, Go.asInt, asIntOf, wrap0_mk, hle, storeCells]
/-- what an append is handed -/
structure App (P : Program) (c : Cx) (st : St) (e : Env) (o : Oper) (t t' : TypeId) (el : TypeId) (i : TypeInfo) (ls lx : Nat) (s : V) (new : List V) : Prop where
  run : ∀ (ρ : Rho) (a : Act) (w : World), (∀ x, x ∈ o.op.operands.toList → TmpRel ρ e a x) → ∃ y y', Rel ρ s y ∧ (∀ w, (Builtin.lenOf y).run P w = .ok ls w) ∧
    (execOp a.eval o).run P w = ((Builtin.append_ #[t, t'] o.type #[y, y']).run P w).andThen (fun u w' => .ok (.value u) w') ∧
    ∀ (B0 : Nat) (τ : Mem), Agree c st τ → Real ρ B0 τ w → ∃ xs, RelL ρ new xs ∧ new.all V.one = true ∧ SrcX P i t' y' lx xs w
  under : P.underlying t = some (.slice el)
  info : P.info? el = some i
  zero : ∃ z, i.zero = some z ∧ z.cells.size = i.size
  len : ls + lx ≤ 1073741824
  bytes : i.bytes ≤ 1024
  size : 1 ≤ i.size
  newLen : new.length = lx * i.size
theorem zeroCells_size (z : Array Value) (n : Nat) : (Builtin.zeroCells z n).size = n * z.size := by simp [Builtin.zeroCells]
theorem grow_run {t t' el : TypeId} {i : TypeInfo} {z : Value} {ls lx : Nat} (w : World) (ty : TypeId) (hu : P.underlying t = some (.slice el)) (hi : P.info? el = some i) (hz : i.zero = some z) (hzs : z.cells.size = i.size) (hlen : ls + lx ≤ 1073741824) (hby : i.bytes ≤ 1024)
    (base : Option Addr) (cap : Nat) (olds news : List Value) (hol : olds.length = ls * i.size) (hold : ∀ w' : World, w'.heap = w.heap → (Builtin.firstCells i.size ls (.slice base ls cap)).run P w' = .ok olds.toArray w') (y' : Value) (hs : SrcX P i t' y' lx news w) (hg : cap < ls + lx) :
    ∃ (gc : Nat) (arr : Array Value), ls + lx ≤ gc ∧ arr.size = gc * i.size ∧ (∀ (j : Nat) (u : Value), (olds ++ news)[j]? = some u → arr[j]? = some u) ∧
      (Builtin.append_ #[t, t'] ty #[.slice base ls cap, y']).run P w = .ok (.slice (some ⟨w.heap.size, 0, none⟩) (ls + lx) gc) (w.drew.alloc (.cells arr el)) := by
  have hfit : Builtin.nextslicecap (ls + lx) cap * i.bytes ≤ 281474976710656 := by
    have h1 := nextslicecap_le hg
    have h2 : Builtin.nextslicecap (ls + lx) cap * i.bytes ≤ (2 * 1073741824) * 1024 := Nat.mul_le_mul (by omega) hby
    omega
  have hge := grownCap_ge w (ls + lx) cap el
  refine ⟨grownCap w (ls + lx) cap el, (olds ++ news).toArray ++ Builtin.zeroCells z.cells (grownCap w (ls + lx) cap el - (ls + lx)), hge, ?_, fun j u hj => ?_, ?_⟩
  · rw [Array.size_append, zeroCells_size, hzs]
    simp only [List.size_toArray, List.length_append, hol, hs.newsLen]
    rw [← Nat.add_mul, ← Nat.add_mul]
    congr 1; omega
  · have hlt : j < (olds ++ news).length := by
      rcases Nat.lt_or_ge j (olds ++ news).length with h | h
      · exact h
      · rw [List.getElem?_eq_none h] at hj; cases hj
    rw [Array.getElem?_append_left (by simpa using hlt)]
    simpa using hj
  · exact run_append_grow_x w t t' ty el i z hu hi hz base ls cap olds (hold w.drew rfl) y' lx news hs hg (by omega) hfit
theorem ok_grow {t t' el : TypeId} {i : TypeInfo} {ls lx : Nat} {s : V} {new : List V} (A : App P c st e o t t' el i ls lx s new)
    (hcap : ∀ (ρ : Rho) (y : Value), Rel ρ s y → (∀ w, (Builtin.lenOf y).run P w = .ok ls w) → ∃ base cap, y = .slice base ls cap ∧ cap < ls + lx) (h : growE c st el i.size ls (ls + lx) s new = some (v, st')) :
    StepOk c st st' ∧ OpOk P c st st' v e o := by
  unfold growE at h
  obtain ⟨old, h1, h2, h3⟩ := firsts_inv (P := P) h
  rw [newC_eq] at h1
  obtain ⟨rfl, rfl⟩ := some_inv h1
  refine opOk_new fun B0 ρ τ w a hx hag hre => ?_
  obtain ⟨y, y', r1, r2, r3, r4⟩ := A.run ρ a w hx
  obtain ⟨news, n1, n2, n3⟩ := r4 B0 τ hag hre
  obtain ⟨base, cap, rfl, hg⟩ := hcap ρ y r1 r2
  obtain ⟨olds, o1, o2, o3⟩ := h3 B0 ρ τ w _ hag hre r1
  obtain ⟨z, hz, hzs⟩ := A.zero
  obtain ⟨gc, arr, g1, g2, g3, g4⟩ := grow_run w o.type A.under A.info hz hzs A.len A.bytes base cap olds news (by rw [o1.length, h2]) o3 y' n3 hg
  have hs := A.size
  refine ⟨.slice (some ⟨w.heap.size, 0, none⟩) (ls + lx) gc, w.drew.alloc (.cells arr el), olds ++ news, arr, (0, 0), RelL.append o1 n1, by rw [List.all_append, o2, n2]; rfl, by rw [r3, g4]; rfl, rfl, rfl, rfl, rfl, g3, ?_, .inl rfl, fun ρ' hρ => ?_⟩
  · have h5 := o1.length
    have h6 := n1.length
    have h7 := A.newLen
    have : (ls + lx) * i.size ≤ gc * i.size := Nat.mul_le_mul_right _ g1
    rw [List.length_append, h5, h6, h2, h7, ← Nat.add_mul, g2]; exact this
  · simp only [Rel]
    have hdiv : (arr.size - 0) / i.size = gc := by rw [Nat.sub_zero, g2]; exact Nat.mul_div_cancel _ (by omega)
    exact ⟨_, hρ, by omega, by rw [hdiv]; exact g1, by rw [hdiv]⟩
theorem ok_room {t t' el : TypeId} {i : TypeInfo} {ls lx : Nat} {s v1 : V} {new : List V} {n at_ : Nat} (A : App P c st e o t t' el i ls lx s new)
    (hy : ∀ (ρ : Rho) (y : Value) (r : R) (sz : Nat), Rel ρ s y → ρ n = some r → sz ≤ r.size → at_ + new.length ≤ sz → ∃ off cap, at_ = off + ls * i.size ∧ y = .slice (some ⟨r.block, r.base + off, none⟩) ls cap ∧ ls + lx ≤ cap ∧ Rel ρ v1 (.slice (some ⟨r.block, r.base + off, none⟩) (ls + lx) cap))
    (h : (putB c st n at_ new fun st => some (v1, st)) = some (v, st')) : StepOk c st st' ∧ OpOk P c st st' v e o := by
  obtain ⟨ty, sz, tr, g1, g2, g3, g4, g5⟩ := putB_inv h
  obtain ⟨rfl, rfl⟩ := some_inv g5
  refine opOk_set g1 g2 g3 g4 fun B0 ρ τ w a r hx hag hre hr hsz => ?_
  obtain ⟨y, y', r1, r2, r3, r4⟩ := A.run ρ a w hx
  obtain ⟨news, n1, n2, n3⟩ := r4 B0 τ hag hre
  obtain ⟨off, cap, e1, rfl, e2, e3⟩ := hy ρ y r sz r1 hr hsz g3
  have hlen := n1.length
  have ht := hre.there (hag n _ g1 g2) hr g4.2 (i := at_) (m := new.length) (by omega)
  have := run_append_room_x (P := P) w t t' o.type el i A.under A.info r.block (r.base + off) ls cap y' lx news n3 e2 (fun j hj => by
    have := (ht j (by omega)).1
    rw [e1] at this
    rw [← this]; congr 3; omega) (fun j hj => by
    have := (ht j (by omega)).2
    rw [e1] at this
    rw [← this]; congr 3; omega)
  refine ⟨_, news, n1, n2, e3, .inl ?_⟩
  rw [r3, this]
  simp only [Result.andThen_ok]
  congr 1
  rw [e1, Nat.add_assoc]
theorem ok_nothing {t t' el : TypeId} {i : TypeInfo} {ls : Nat} {s : V} {new : List V} (A : App P c st e o t t' el i ls 0 s new)
    (hy : ∀ (ρ : Rho) (y : Value), Rel ρ s y → (∀ w, (Builtin.lenOf y).run P w = .ok ls w) → ∃ base cap, y = .slice base ls cap ∧ ls ≤ cap) : StepOk c st st ∧ OpOk P c st st s e o := by
  refine opOk_val fun B0 ρ τ w a hx hag hre => ?_
  obtain ⟨y, y', r1, r2, r3, r4⟩ := A.run ρ a w hx
  obtain ⟨news, n1, n2, n3⟩ := r4 B0 τ hag hre
  obtain ⟨base, cap, rfl, hle⟩ := hy ρ y r1 r2
  have hn : news = [] := by
    have h1 := n1.length
    have h2 := A.newLen
    rw [Nat.zero_mul] at h2
    rw [h2] at h1
    exact List.eq_nil_of_length_eq_zero h1
  subst hn
  refine ⟨_, r1, ?_⟩
  rw [r3, run_append_nothing_x (P := P) w t t' o.type el i A.under A.info base ls cap hle y' n3]
  rfl
theorem tyM_ne {ty el : Nat} (h : tyM ty el ≠ unT) : ty = el ∧ tyM ty el = el := by
  unfold tyM at h ⊢
  cases hb : Nat.beq ty el with
  | false => rw [hb] at h; exact absurd rfl h
  | true => exact ⟨Nat.eq_of_beq_eq_true hb, rfl⟩
/-- the row is known to its end: what stands there, or a new one, is the same from now on. -/
theorem ok_merge {t t' el : TypeId} {i : TypeInfo} {ls lx : Nat} {new : List V} {n o' sz : Nat} {ty : TypeId} {tr : T V} (hwf : Wf st) (A : App P c st e o t t' el i ls lx (.sg n o' ls i.size) new)
    (g1 : c.ok n = true) (g2 : st.h.get n = some (.cs ty sz tr)) (hro : ty ≠ roT) (hend : o' + ls * i.size = sz)
    (h : (firsts c st i.size ls (.sg n o' ls i.size) fun old => setB c st n .gone fun st => newC st unT (old ++ new) fun m st => (some (.sg m 0 (ls + lx) i.size, st) : Res)) = some (v, st')) :
    StepOk c st st' ∧ OpOk P c st st' v e o := by
  obtain ⟨old0, _, _, h3⟩ := firsts_inv (P := P) h
  simp only [firsts] at h
  split at h
  case h_2 => cases h
  obtain ⟨ty2, sz2, tr2, k1, k2, k3⟩ := getC_inv h
  rw [g2] at k2
  injection k2 with k2
  injection k2 with e1 e2 e3
  subst e1 e2 e3
  obtain ⟨old, h1, h2, hg⟩ := getsB_inv k3
  obtain ⟨g4, h4⟩ := setB_inv h1
  rw [newC_eq] at h4
  obtain ⟨rfl, rfl⟩ := some_inv h4
  have hs := A.size
  have s1 : StepOk c st ⟨st.nx, st.h.set n .gone⟩ := stepOk_set g1 g2 g4 hro
  have s2 : StepOk c ⟨st.nx, st.h.set n .gone⟩ ⟨st.nx + 1, (st.h.set n .gone).set st.nx (.cs unT (old ++ new).length (sets (old ++ new) 0 .lf))⟩ := stepOk_new (st := ⟨st.nx, st.h.set n .gone⟩)
  refine ⟨s1.trans s2, fun B0 ρ τ w a hx hag hre hf K Q hK => ?_⟩
  have hov : ov st ⟨st.nx + 1, (st.h.set n .gone).set st.nx (.cs unT (old ++ new).length (sets (old ++ new) 0 .lf))⟩ τ = upd (upd τ n .gone) st.nx (.cs unT (old ++ new).length (sets (old ++ new) 0 .lf)) := by
    rw [← ov_trans s1 s2 hwf hag, ov_set hag g1 g2]
    exact ov_new (st := ⟨st.nx, st.h.set n .gone⟩)
  have hτ := hag n _ g1 g2
  obtain ⟨y, y', r1, r2, r3, r4⟩ := A.run ρ a w hx
  obtain ⟨news, n1, n2, n3⟩ := r4 B0 τ hag hre
  have r1' := r1
  simp only [Rel] at r1'
  obtain ⟨r, hr, _, hle, rfl⟩ := r1'
  have hfm : ρ st.nx = none := hf st.nx (Nat.le_refl _) (Nat.lt_succ_self _)
  obtain ⟨q, q1, q2, q3, q4⟩ := hre.blk n _ hτ
  rw [hr] at q1; injection q1 with q1; subst q1
  obtain ⟨ty', cells, fr, c1, c2, c3, c4, c5⟩ := q4
  have hk := hre.kill hτ
  have hone : (old ++ new).all V.one = true := by
    rw [List.all_append, n2, Bool.and_true, List.all_eq_true]
    intro u hu
    obtain ⟨j, hj⟩ := List.getElem?_of_mem hu
    exact (c5 _ _ (hg j u hj)).2.1
  have hnl := A.newLen
  have hol : (old ++ new).length = (ls + lx) * i.size := by rw [List.length_append, h2, hnl, Nat.add_mul]
  have hle' : ∀ q : R, ρ.le (upd ρ st.nx q) := fun q m u e => by
    by_cases hm : m = st.nx
    · subst hm; rw [hfm] at e; cases e
    · rw [upd_ne _ _ hm]; exact e
  have hdom : ∀ q : R, Dom ρ (upd ρ st.nx q) st ⟨st.nx + 1, (st.h.set n .gone).set st.nx (.cs unT (old ++ new).length (sets (old ++ new) 0 .lf))⟩ := fun q m u e => by
    by_cases hm : m = st.nx
    · subst hm; exact .inr ⟨Nat.le_refl _, Nat.lt_succ_self _⟩
    · rw [upd_ne _ _ hm] at e; exact .inl e
  unfold Oper.wp
  rw [r3]
  by_cases hroom : ls + lx ≤ (r.size - o') / i.size
  · have hsz : (ls + lx) * i.size ≤ r.size - o' := by
      have := Nat.mul_le_mul_right i.size hroom
      exact Nat.le_trans this (Nat.div_mul_le_self _ _)
    have hadd : (ls + lx) * i.size = ls * i.size + new.length := by rw [Nat.add_mul, hnl]
    have hnews := n1.length
    have ht := hre.there hτ hr hro (i := o' + ls * i.size) (m := new.length) (by omega)
    have hrun := run_append_room_x (P := P) w t t' o.type el i A.under A.info r.block (r.base + o') ls ((r.size - o') / i.size) y' lx news n3 hroom (fun j hj => by
      have := (ht j (by omega)).1
      rw [← this]; congr 3; omega) (fun j hj => by
      have := (ht j (by omega)).2
      rw [← this]; congr 3; omega)
    rw [hrun]
    obtain ⟨arr', a1, a2, a3⟩ := heap_setCells_at r.block ty' fr news (r.base + o' + ls * i.size) w cells c1 (by omega)
    refine hK (upd ρ st.nx ⟨r.block, r.base + o', r.size - o'⟩) _ _ (hle' _) (hdom _) ?_ ?_ (below_setCells' (q2 hro) _ _ _)
    · simp only [Rel]
      exact ⟨_, upd_same _ _ _, by omega, by simpa using hroom, by simp⟩
    · rw [hov]
      refine hk.add hfm (q2 hro) (by rw [size_setCells']; exact q3) (by rw [size_setCells']; exact Nat.le_refl _) (fun m b q e1 e2 e3 => ?_) (fun k _ hk' => heap_setCells_ne _ _ _ _ _ hk') ?_
      · by_cases hm : m = n
        · subst hm; rw [upd_same] at e1; injection e1 with e1; subst e1; exact e2.elim
        · rw [upd_ne _ _ hm] at e1
          exact fun e => hre.inj n m _ b r q hτ e1 hro e2 (fun e => hm e.symm) hr e3 e.symm
      · refine ⟨ty', arr', fr, a1, by simp only; omega, by simp only; omega, by rw [a2]; exact (fun _ => ⟨(c4 hro).1, fun h => absurd rfl h⟩), fun j u hu => ?_⟩
        rw [get_sets] at hu
        by_cases hj : 0 ≤ j ∧ j < 0 + (old ++ new).length
        · rw [if_pos hj] at hu
          simp only [Nat.sub_zero] at hu
          refine ⟨by omega, (List.all_eq_true.1 hone) u (List.mem_of_getElem? hu), ?_⟩
          rw [a3]
          simp only
          by_cases hjo : j < old.length
          · rw [if_neg (by omega)]
            rw [List.getElem?_append_left hjo] at hu
            obtain ⟨_, _, x, x1, x2⟩ := c5 _ _ (hg j u hu)
            exact ⟨x, by rw [← x1]; congr 1; omega, Rel.mono (hle' _) _ _ x2⟩
          · rw [if_pos (by omega)]
            rw [List.getElem?_append_right (by omega)] at hu
            obtain ⟨x, x1, x2⟩ := n1.get hu
            exact ⟨x, by rw [← x1]; congr 1; omega, Rel.mono (hle' _) _ _ x2⟩
        · rw [if_neg hj] at hu
          simp at hu
  · obtain ⟨olds, o1, o2, o3⟩ := (show ∃ olds, RelL ρ old olds ∧ old.all V.one = true ∧ ∀ w' : World, w'.heap = w.heap → (Builtin.firstCells i.size ls (.slice (some ⟨r.block, r.base + o', none⟩) ls ((r.size - o') / i.size))).run P w' = .ok olds.toArray w' from by
      obtain ⟨x1, _, xs, x2, x3⟩ := hre.read hτ hr hg
      refine ⟨xs, x2, x1, fun w' hw' => ?_⟩
      exact run_firstCells_some w' i.size ls ⟨r.block, r.base + o', none⟩ ls _ xs (by rw [x2.length, h2]) (fun j u hu => by
        rw [add_off]
        have := x3 j u hu
        unfold World.cell? at this ⊢
        rw [hw']; exact this))
    obtain ⟨z, hz, hzs⟩ := A.zero
    obtain ⟨gc, arr, b1, b2, b3, b4⟩ := grow_run w o.type A.under A.info hz hzs A.len A.bytes _ _ olds news (by rw [o1.length, h2]) o3 y' n3 (by omega)
    rw [b4]
    have hold : ∀ k, k < w.heap.size → (w.drew.alloc (.cells arr el)).heap[k]? = w.heap[k]? := fun k hk => Below.heap_alloc w.drew _ k hk
    refine hK (upd ρ st.nx ⟨w.heap.size, 0, arr.size⟩) _ _ (hle' _) (hdom _) ?_ ?_ ?_
    · simp only [Rel]
      have hdiv : (arr.size - 0) / i.size = gc := by rw [Nat.sub_zero, b2]; exact Nat.mul_div_cancel _ (by omega)
      exact ⟨_, upd_same _ _ _, by omega, by rw [hdiv]; exact b1, by rw [hdiv]⟩
    · rw [hov]
      refine hk.new hfm (Nat.le_refl _) (by simp) hold ?_
      refine Blk.madeU (RelL.mono (hle' _) _ _ (RelL.append o1 n1)) hone arr (0, 0) (by show (w.heap.push (.cells arr el))[w.heap.size]? = _; rw [Array.getElem?_push, if_pos rfl]) b3 ?_ (.inl rfl)
      have h5 := o1.length
      have h6 := n1.length
      have : (ls + lx) * i.size ≤ gc * i.size := Nat.mul_le_mul_right _ b1
      rw [List.length_append, h5, h6, b2, ← List.length_append, hol]; exact this
    · exact ⟨rfl, rfl, rfl, by simp, fun k hk => hold k (Nat.lt_of_lt_of_le hk hre.size)⟩
/-- the same where the row begins its block: the cells stay as they lie -/
theorem ok_merge0 {t t' el : TypeId} {i : TypeInfo} {ls lx : Nat} {new : List V} {n sz : Nat} {ty : TypeId} {tr : T V} (hwf : Wf st) (A : App P c st e o t t' el i ls lx (.sg n 0 ls i.size) new)
    (g1 : c.ok n = true) (g2 : st.h.get n = some (.cs ty sz tr)) (hro : ty ≠ roT) (hend : ls * i.size = sz)
    (h : (setB c st n .gone fun st => setsK new sz tr fun t => fn (sz + new.length) fun sz' => fn (tyM ty el) fun ty' => newB st (.cs ty' sz' t) fun m st => (some (.sg m 0 (ls + lx) i.size, st) : Res)) = some (v, st')) :
    StepOk c st st' ∧ OpOk P c st st' v e o := by
  obtain ⟨g4, h4⟩ := setB_inv h
  rw [setsK_eq, fn_eq, fn_eq, newB_eq] at h4
  obtain ⟨rfl, rfl⟩ := some_inv h4
  have hs := A.size
  have s1 : StepOk c st ⟨st.nx, st.h.set n .gone⟩ := stepOk_set g1 g2 g4 hro
  have s2 : StepOk c ⟨st.nx, st.h.set n .gone⟩ ⟨st.nx + 1, (st.h.set n .gone).set st.nx (.cs (tyM ty el) (sz + new.length) (sets new sz tr))⟩ := stepOk_new (st := ⟨st.nx, st.h.set n .gone⟩)
  refine ⟨s1.trans s2, fun B0 ρ τ w a hx hag hre hf K Q hK => ?_⟩
  have hov : ov st ⟨st.nx + 1, (st.h.set n .gone).set st.nx (.cs (tyM ty el) (sz + new.length) (sets new sz tr))⟩ τ = upd (upd τ n .gone) st.nx (.cs (tyM ty el) (sz + new.length) (sets new sz tr)) := by
    rw [← ov_trans s1 s2 hwf hag, ov_set hag g1 g2]
    exact ov_new (st := ⟨st.nx, st.h.set n .gone⟩)
  have hτ := hag n _ g1 g2
  obtain ⟨y, y', r1, r2, r3, r4⟩ := A.run ρ a w hx
  obtain ⟨news, n1, n2, n3⟩ := r4 B0 τ hag hre
  have r1' := r1
  simp only [Rel] at r1'
  obtain ⟨r, hr, _, hle, rfl⟩ := r1'
  have hfm : ρ st.nx = none := hf st.nx (Nat.le_refl _) (Nat.lt_succ_self _)
  obtain ⟨q, q1, q2, q3, q4⟩ := hre.blk n _ hτ
  rw [hr] at q1; injection q1 with q1; subst q1
  obtain ⟨ty', cells, fr, c1, c2, c3, c4, c5⟩ := q4
  have hk := hre.kill hτ
  have hnl := A.newLen
  have hle' : ∀ q : R, ρ.le (upd ρ st.nx q) := fun q m u e => by
    by_cases hm : m = st.nx
    · subst hm; rw [hfm] at e; cases e
    · rw [upd_ne _ _ hm]; exact e
  have hdom : ∀ q : R, Dom ρ (upd ρ st.nx q) st ⟨st.nx + 1, (st.h.set n .gone).set st.nx (.cs (tyM ty el) (sz + new.length) (sets new sz tr))⟩ := fun q m u e => by
    by_cases hm : m = st.nx
    · subst hm; exact .inr ⟨Nat.le_refl _, Nat.lt_succ_self _⟩
    · rw [upd_ne _ _ hm] at e; exact .inl e
  have hnews := n1.length
  -- what a cell of the new block is
  have cell : ∀ (q : R) (arr : Array Value) (base : Nat), (∀ j x, j < sz → cells[r.base + j]? = some x → arr[base + j]? = some x) → (∀ j x, news[j]? = some x → arr[base + sz + j]? = some x) →
      ∀ j u, (sets new sz tr).get j = some u → j < sz + new.length ∧ u.one = true ∧ ∃ x, arr[base + j]? = some x ∧ Rel (upd ρ st.nx q) u x := fun q arr base h1 h2 j u hu => by
    rw [get_sets] at hu
    by_cases hj : sz ≤ j ∧ j < sz + new.length
    · rw [if_pos hj] at hu
      obtain ⟨x, x1, x2⟩ := n1.get hu
      refine ⟨hj.2, (List.all_eq_true.1 n2) u (List.mem_of_getElem? hu), x, ?_, Rel.mono (hle' _) _ _ x2⟩
      rw [← h2 _ x x1]; congr 1; omega
    · rw [if_neg hj] at hu
      obtain ⟨x1, x2, x, x3, x4⟩ := c5 _ _ hu
      exact ⟨by omega, x2, x, h1 j x x1 x3, Rel.mono (hle' _) _ _ x4⟩
  unfold Oper.wp
  rw [r3]
  by_cases hroom : ls + lx ≤ (r.size - 0) / i.size
  · have hsz : (ls + lx) * i.size ≤ r.size - 0 := by
      have := Nat.mul_le_mul_right i.size hroom
      exact Nat.le_trans this (Nat.div_mul_le_self _ _)
    have hadd : (ls + lx) * i.size = ls * i.size + new.length := by rw [Nat.add_mul, hnl]
    have ht := hre.there hτ hr hro (i := 0 + ls * i.size) (m := new.length) (by omega)
    have hrun := run_append_room_x (P := P) w t t' o.type el i A.under A.info r.block (r.base + 0) ls ((r.size - 0) / i.size) y' lx news n3 hroom (fun j hj => by
      have := (ht j (by omega)).1
      rw [← this]; congr 3; omega) (fun j hj => by
      have := (ht j (by omega)).2
      rw [← this]; congr 3; omega)
    rw [hrun]
    obtain ⟨arr', a1, a2, a3⟩ := heap_setCells_at r.block ty' fr news (r.base + 0 + ls * i.size) w cells c1 (by omega)
    refine hK (upd ρ st.nx ⟨r.block, r.base + 0, r.size - 0⟩) _ _ (hle' _) (hdom _) ?_ ?_ (below_setCells' (q2 hro) _ _ _)
    · simp only [Rel]
      exact ⟨_, upd_same _ _ _, by omega, by simpa using hroom, by simp⟩
    · rw [hov]
      refine hk.add hfm (q2 hro) (by rw [size_setCells']; exact q3) (by rw [size_setCells']; exact Nat.le_refl _) (fun m b q e1 e2 e3 => ?_) (fun k _ hk' => heap_setCells_ne _ _ _ _ _ hk') ?_
      · by_cases hm : m = n
        · subst hm; rw [upd_same] at e1; injection e1 with e1; subst e1; exact e2.elim
        · rw [upd_ne _ _ hm] at e1
          exact fun e => hre.inj n m _ b r q hτ e1 hro e2 (fun e => hm e.symm) hr e3 e.symm
      · refine ⟨ty', arr', fr, a1, by simp only; omega, by simp only; omega, by rw [a2]; exact (fun _ => ⟨(c4 hro).1, fun h => by obtain ⟨e1, e2⟩ := tyM_ne h; have := (c4 hro).2 (by rw [e1]; rw [e2] at h; exact h); exact ⟨by rw [this.1, e2, e1], this.2.1, this.2.2⟩⟩), cell _ arr' (r.base + 0) (fun j x hj hx' => ?_) fun j x hx' => ?_⟩
        · rw [a3, if_neg (by omega)]; exact hx'
        · have hlt : j < news.length := by
            rcases Nat.lt_or_ge j news.length with h | h
            · exact h
            · rw [List.getElem?_eq_none h] at hx'; cases hx'
          rw [a3, if_pos (by omega), ← hx']; congr 1; omega
  · -- the old cells, as they lie
    have hlen0 : ls * i.size = sz := hend
    let olds : List Value := (cells.toList.drop r.base).take sz
    have hol : olds.length = sz := by simp only [olds, List.length_take, List.length_drop, Array.length_toList]; omega
    have oget : ∀ j, j < sz → olds[j]? = cells[r.base + j]? := fun j hj => by
      simp only [olds]
      rw [List.getElem?_take, if_pos hj, List.getElem?_drop]; simp
    have o3 : ∀ w' : World, w'.heap = w.heap → (Builtin.firstCells i.size ls (.slice (some ⟨r.block, r.base + 0, none⟩) ls ((r.size - 0) / i.size))).run P w' = .ok olds.toArray w' := fun w' hw' =>
      run_firstCells_some w' i.size ls ⟨r.block, r.base + 0, none⟩ ls _ olds (by rw [hol, hlen0]) (fun j u hu => by
        have hlt : j < olds.length := by
          rcases Nat.lt_or_ge j olds.length with h | h
          · exact h
          · rw [List.getElem?_eq_none h] at hu; cases hu
        rw [oget j (by omega)] at hu
        have : w.cell? ⟨r.block, r.base + j, none⟩ = some u := by
          unfold World.cell?
          simp [c1, hu]
        rw [add_off]
        unfold World.cell? at this ⊢
        rw [hw']
        exact this)
    obtain ⟨z, hz, hzs⟩ := A.zero
    obtain ⟨gc, arr, b1, b2, b3, b4⟩ := grow_run w o.type A.under A.info hz hzs A.len A.bytes _ _ olds news (by rw [hol, hlen0]) o3 y' n3 (by omega)
    rw [b4]
    have hold : ∀ k, k < w.heap.size → (w.drew.alloc (.cells arr el)).heap[k]? = w.heap[k]? := fun k hk => Below.heap_alloc w.drew _ k hk
    refine hK (upd ρ st.nx ⟨w.heap.size, 0, arr.size⟩) _ _ (hle' _) (hdom _) ?_ ?_ ?_
    · simp only [Rel]
      have hdiv : (arr.size - 0) / i.size = gc := by rw [Nat.sub_zero, b2]; exact Nat.mul_div_cancel _ (by omega)
      exact ⟨_, upd_same _ _ _, by omega, by rw [hdiv]; exact b1, by rw [hdiv]⟩
    · rw [hov]
      refine hk.new hfm (Nat.le_refl _) (by simp) hold ?_
      have : (ls + lx) * i.size ≤ gc * i.size := Nat.mul_le_mul_right _ b1
      have hadd : (ls + lx) * i.size = ls * i.size + new.length := by rw [Nat.add_mul, hnl]
      refine ⟨el, arr, (0, 0), by show (w.heap.push (.cells arr el))[w.heap.size]? = _; rw [Array.getElem?_push, if_pos rfl], by simp, by simp only; omega, fun _ => ⟨.inl rfl, fun h => ⟨(tyM_ne h).2.symm, rfl, rfl⟩⟩, cell _ arr 0 (fun j x hj hx' => ?_) fun j x hx' => ?_⟩
      · rw [Nat.zero_add]
        exact b3 j x (by rw [List.getElem?_append_left (by omega), oget j hj]; exact hx')
      · rw [Nat.zero_add]
        exact b3 (sz + j) x (by rw [List.getElem?_append_right (by omega), ← hx']; congr 1; omega)
    · exact ⟨rfl, rfl, rfl, by simp, fun k hk => hold k (Nat.lt_of_lt_of_le hk hre.size)⟩
end
end Go.Proofs.Ytcjddojcfdeflaa.Ev

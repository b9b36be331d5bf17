/-
  PLAIN: an evaluator of the model's code over memory of its own, whose blocks bear names; it is made for the kernel's own reckoning (recursors, numbers forced).
-/
import GoSem.Dispatch
import Derived.Calls
import Derived.Orders
namespace Go.Proofs.Ytenncnbaoejekaa.Ev

/-! ### recursors; numbers that are reckoned before they are handed on -/
noncomputable def lr {α : Type} {β : Type} (z : β) (s : α → List α → β → β) (l : List α) : β := List.rec (motive := fun _ => β) z (fun a l ih => s a l ih) l
noncomputable def nr {β : Type} (z : β) (s : Nat → β → β) (n : Nat) : β := Nat.rec (motive := fun _ => β) z (fun n ih => s n ih) n
noncomputable def fn {β : Type} (m : Nat) (k : Nat → β) : β := Nat.rec (motive := fun _ => β) (k 0) (fun m' _ => k (Nat.succ m')) m
noncomputable def fi {β : Type} (n : Int) (k : Int → β) : β := match n with | .ofNat m => fn m fun m => k (.ofNat m) | .negSucc m => fn m fun m => k (.negSucc m)
noncomputable def fl {β : Type} (l : List Nat) : (List Nat → β) → β := lr (fun k => k []) (fun x _ ih k => fn x fun x => ih fun l => k (x :: l)) l
noncomputable def fb {β : Type} (b : Bool) (k : Bool → β) : β := match b with | true => k true | false => k false

/-! ### tables -/
inductive T (α : Type) where
  | lf : T α
  | nd : T α → Option α → T α → T α
noncomputable def pf (f n : Nat) : List Bool := nr (fun _ => []) (fun _ ih n => match n with | 0 => [] | k + 1 => (Nat.beq (k % 2) 0) :: ih (k / 2)) f n
noncomputable def pth (n : Nat) : List Bool := pf n n
noncomputable def tHere {α β : Type} (v : α) (K : T α → β) (t : T α) : β := T.rec (motive := fun _ => β) (K (.nd .lf (some v) .lf)) (fun l _ r _ _ => K (.nd l (some v) r)) t
noncomputable def tLeft {α β : Type} (ih : T α → (T α → β) → β) (K : T α → β) (t : T α) : β := T.rec (motive := fun _ => β) (ih .lf fun l => K (.nd l none .lf)) (fun l o r _ _ => ih l fun l => K (.nd l o r)) t
noncomputable def tRight {α β : Type} (ih : T α → (T α → β) → β) (K : T α → β) (t : T α) : β := T.rec (motive := fun _ => β) (ih .lf fun r => K (.nd .lf none r)) (fun l o r _ _ => ih r fun r => K (.nd l o r)) t
noncomputable def T.setP {α β : Type} (p : List Bool) (v : α) : T α → (T α → β) → β :=
  List.rec (motive := fun _ => T α → (T α → β) → β) (fun t K => tHere v K t) (fun b _ ih t K => Bool.rec (motive := fun _ => β) (tRight ih K t) (tLeft ih K t) b) p
noncomputable def T.getP {α : Type} (p : List Bool) : T α → Option α :=
  List.rec (motive := fun _ => T α → Option α) (fun t => T.rec (motive := fun _ => Option α) none (fun _ o _ _ _ => o) t)
    (fun b _ ih t => T.rec (motive := fun _ => Option α) none (fun l _ r _ _ => Bool.rec (motive := fun _ => Option α) (ih r) (ih l) b) t) p
noncomputable def T.get {α : Type} (t : T α) (n : Nat) : Option α := T.getP (pth n) t
noncomputable def T.setK {α β : Type} (t : T α) (n : Nat) (v : α) (k : T α → β) : β := T.setP (pth n) v t k
noncomputable def T.set {α : Type} (t : T α) (n : Nat) (v : α) : T α := T.setP (pth n) v t fun t => t
noncomputable def lget {α : Type} (l : List α) : Nat → Option α := lr (fun _ => none) (fun x _ ih n => match n with | 0 => some x | n + 1 => ih n) l

/-! ### values -/
inductive V where
  | c (v : Value)
  | s (l : List Nat)
  | p (n o : Nat)
  | sl (n o len cap : Nat)
  | sg (n o len z : Nat)
  | e
  | m (n : Nat)
  | f (fn : Fn) (first caps : List V)
  | g (l : List V)
  | t (l : List V)
abbrev V.u : V := .t []
abbrev V.int (k : IntKind) (n : Int) : V := .c (.int k n)
abbrev V.bool (b : Bool) : V := .c (.bool b)
def V.one : V → Bool
  | .g _ | .t _ => false
  | _ => true
inductive B where
  | cs (ty : TypeId) (sz : Nat) (cs : T V)
  | mp (l : List (V × V × Nat)) (clock : Nat)
  | it (l : List Nat) (pos : Nat)
  | gone
structure St where
  nx : Nat
  h : T B
/-- the type that marks a row that may be read alone -/
abbrev roT : Nat := 999999937
/-- what may not be touched; what lies below wb may not be written; how many slots -/
structure Cx where
  all : Bool
  l : List (Nat × Nat)
  wb : Nat
  nt : Nat
noncomputable def inF (l : List (Nat × Nat)) (n : Nat) : Bool := lr false (fun x _ ih => match Nat.ble x.1 n with | true => (match Nat.blt n x.2 with | true => true | false => ih) | false => ih) l
noncomputable def Cx.ok (c : Cx) (n : Nat) : Bool := match c.all with | true => false | false => !inF c.l n
noncomputable def getB {β : Type} (c : Cx) (st : St) (n : Nat) (k : B → Option β) : Option β := match c.ok n with
  | false => none
  | true => match st.h.get n with
    | none => none
    | some b => k b
noncomputable def setB {β : Type} (c : Cx) (st : St) (n : Nat) (b : B) (k : St → Option β) : Option β := match Nat.ble c.wb n with
  | false => none
  | true => st.h.setK n b fun h => k ⟨st.nx, h⟩
noncomputable def newB {β : Type} (st : St) (b : B) (k : Nat → St → Option β) : Option β := st.h.setK st.nx b fun h => fn (st.nx + 1) fun nx => k st.nx ⟨nx, h⟩

noncomputable def bytes (b : ByteArray) : List Nat := b.data.toList.map fun x => x.toNat
noncomputable def fA {β : Type} (v : Value) (k : V → Option β) : Option β := match v with
  | .int i n => fi n fun n => k (.c (.int i n))
  | .bool b => fb b fun b => k (.c (.bool b))
  | .string b => fl (bytes b) fun l => k (.s l)
  | .pointer none => k (.c (.pointer none))
  | .slice none 0 0 => k (.c (.slice none 0 0))
  | .map none => k (.c (.map none))
  | .nilFunc => k (.c .nilFunc)
  | .nilIface => k (.c .nilIface)
  | _ => none
noncomputable def fAs {β : Type} (l : List Value) : (List V → Option β) → Option β := lr (fun k => k []) (fun x _ ih k => fA x fun x => ih fun l => k (x :: l)) l
noncomputable def ofV {β : Type} (v : Value) (k : V → Option β) : Option β := match v with
  | .agg cs => fAs cs.toList fun l => k (.g l)
  | .tuple ⟨[]⟩ => k .u
  | v => fA v fun x => k x
abbrev Env := T V
noncomputable def opd {β : Type} (e : Env) (x : Operand) (k : V → Option β) : Option β := match x with
  | .tmp t => match e.get t with | some v => k v | none => k .u
  | .const v => ofV v k
  | .func f => k (.f (.func f) [] [])
  | .global _ => none
noncomputable def opds {β : Type} (e : Env) (l : List Operand) : (List V → Option β) → Option β := lr (fun k => k []) (fun x _ ih k => opd e x fun v => ih fun l => k (v :: l)) l

inductive X where | n | ex (i : Nat) | ret
noncomputable def cellsOf {β : Type} (v : V) (k : List V → Option β) : Option β := match v with
  | .t _ => none
  | .g l => k l
  | x => k [x]
noncomputable def setsK {β : Type} (l : List V) : Nat → T V → (T V → β) → β := lr (fun _ t k => k t) (fun x _ ih i t k => t.setK i x fun t => fn (i + 1) fun i => ih i t k) l
noncomputable def newC {β : Type} (st : St) (ty : TypeId) (cs : List V) (k : Nat → St → Option β) : Option β :=
  setsK cs 0 .lf fun t => fn cs.length fun sz => newB st (.cs ty sz t) k
noncomputable def getsB {β : Type} (t : T V) (n : Nat) : Nat → (List V → Option β) → Option β := nr (fun _ k => k []) (fun _ ih i k => match t.get i with | none => none | some x => fn (i + 1) fun i => ih i fun l => k (x :: l)) n
noncomputable def getC {β : Type} (c : Cx) (st : St) (n : Nat) (k : T V → Option β) : Option β := getB c st n fun b => match b with | .cs _ _ t => k t | _ => none
noncomputable def putB {β : Type} (c : Cx) (st : St) (n i : Nat) (cs : List V) (k : St → Option β) : Option β :=
  getB c st n fun b => match b with
    | .cs ty sz t => (match Nat.ble (i + cs.length) sz, Nat.beq ty roT with
      | true, false => setsK cs i t fun t => setB c st n (.cs ty sz t) k
      | _, _ => none)
    | _ => none
noncomputable def asInt {β : Type} (v : V) (k : IntKind → Int → Option β) : Option β := match v with
  | .c (.int i n) => k i n
  | _ => none
noncomputable def asNat {β : Type} (v : V) (k : Nat → Option β) : Option β := match v with
  | .c (.int _ (.ofNat n)) => k n
  | _ => none
noncomputable def agg? (P : Program) (t : TypeId) : Option Bool := match P.underlying t with
  | some (.struct _) => some true
  | some (.array _ _) => some true
  | some _ => some false
  | none => none
noncomputable def szOf {β : Type} (P : Program) (t : TypeId) (k : Nat → Option β) : Option β := match P.info? t with | none => none | some i => k i.size
noncomputable def elemOf {β : Type} (P : Program) (t : TypeId) (k : TypeId → Nat → Option β) : Option β := match P.underlying t with
  | some (.slice el) => szOf P el fun z => k el z
  | _ => none
noncomputable def zero {β : Type} (P : Program) (t : TypeId) (k : List V → Option β) : Option β := match P.info? t with
  | none => none
  | some i => match i.zero with
    | none => none
    | some v => fAs v.cells.toList k
noncomputable def rep (l : List V) (n : Nat) : List V := nr [] (fun _ ih => l ++ ih) n
noncomputable def lenA {β : Type} (x : V) (k : Nat → Option β) : Option β := match x with
  | .c (.slice none 0 0) => k 0
  | .sl _ _ l _ => k l
  | .sg _ _ l _ => k l
  | .e => k 0
  | .s l => fn l.length k
  | _ => none
/-- the cells of the first n elements, of z cells each -/
noncomputable def firsts {β : Type} (c : Cx) (st : St) (z n : Nat) (x : V) (k : List V → Option β) : Option β := match x with
  | .c (.slice none 0 0) => (match n with | 0 => k [] | _ => none)
  | .e => (match n with | 0 => k [] | _ => none)
  | .sl m o l _ => (match Nat.ble n l with | true => getC c st m fun t => getsB t (n * z) o k | false => none)
  | .sg m o l _ => (match Nat.ble n l with | true => getC c st m fun t => getsB t (n * z) o k | false => none)
  | .s l => (match Nat.beq z 1, Nat.ble n l.length with | true, true => k ((l.take n).map fun x => .c (.int .u8 (.ofNat x))) | _, _ => none)
  | _ => none
/-! ### numbers -/
noncomputable def wu (M : Nat) (n : Int) : Int := match n with | .ofNat m => .ofNat (m % M) | .negSucc m => .ofNat (M - 1 - m % M)
noncomputable def ws (M H : Nat) (n : Int) : Int := match wu M n with | .ofNat u => (match Nat.blt u H with | true => .ofNat u | false => .negSucc (M - 1 - u)) | x => x
noncomputable def wr (k : IntKind) (n : Int) : Int := match k with
  | .u64 => wu 18446744073709551616 n
  | .i64 => ws 18446744073709551616 9223372036854775808 n
  | .u8 => wu 256 n
  | .i32 => ws 4294967296 2147483648 n
  | .u32 => wu 4294967296 n
  | .i8 => ws 256 128 n
  | .u16 => wu 65536 n
  | .i16 => ws 65536 32768 n
noncomputable def ltI (a b : Int) : Bool := match a, b with
  | .ofNat a, .ofNat b => Nat.blt a b
  | .negSucc a, .negSucc b => Nat.blt b a
  | .ofNat _, .negSucc _ => false
  | .negSucc _, .ofNat _ => true
noncomputable def eqI (a b : Int) : Bool := match a, b with
  | .ofNat a, .ofNat b => Nat.beq a b
  | .negSucc a, .negSucc b => Nat.beq a b
  | _, _ => false
noncomputable def eqKd (a b : IntKind) : Bool := match a, b with
  | .u64, .u64 | .i64, .i64 | .u8, .u8 | .i32, .i32 | .u32, .u32 | .i8, .i8 | .u16, .u16 | .i16, .i16 => true
  | _, _ => false
noncomputable def uns (k : IntKind) : Bool := match k with | .u64 | .u8 | .u32 | .u16 => true | _ => false
/-- an operator's answer, not yet forced -/
noncomputable def binI (op : BinOp) (k : IntKind) (a b : Int) : Option Value := match op with
  | .add => some (.int k (wr k (Int.add a b)))
  | .sub => some (.int k (wr k (Int.sub a b)))
  | .mul => some (.int k (wr k (Int.mul a b)))
  | .quo => match eqI b 0 with | true => none | false => some (.int k (wr k (Int.tdiv a b)))
  | .rem => match eqI b 0 with | true => none | false => some (.int k (Int.tmod a b))
  | .eql => some (.bool (eqI a b))
  | .neq => some (.bool (!eqI a b))
  | .lss => some (.bool (ltI a b))
  | .leq => some (.bool (!ltI b a))
  | .gtr => some (.bool (ltI b a))
  | .geq => some (.bool (!ltI a b))
  | .and => match a, b with | .ofNat a, .ofNat b => some (.int k (wr k (.ofNat (Nat.land a b)))) | _, _ => none
  | .or => match a, b with | .ofNat a, .ofNat b => some (.int k (wr k (.ofNat (Nat.lor a b)))) | _, _ => none
  | .xor => match a, b with | .ofNat a, .ofNat b => some (.int k (wr k (.ofNat (Nat.xor a b)))) | _, _ => none
  | .andNot => match a, b with | .ofNat a, .ofNat b => some (.int k (wr k (.ofNat (Nat.xor a (Nat.land a b))))) | _, _ => none
  | _ => none
noncomputable def kbits : IntKind → Nat
  | .i8 | .u8 => 8
  | .i16 | .u16 => 16
  | .i32 | .u32 => 32
  | .i64 | .u64 => 64
noncomputable def shI (op : BinOp) (k : IntKind) (a b : Int) : Option Value := match a, b with
  | .ofNat a, .ofNat b => (match op with
    | .shl => some (.int k (wr k (.ofNat (Nat.shiftLeft a (Nat.min b (kbits k))))))
    | .shr => some (.int k (.ofNat (Nat.shiftRight a (Nat.min b (kbits k)))))
    | _ => none)
  | _, _ => none
/-! ### texts -/
noncomputable def eqL (a : List Nat) : List Nat → Bool := lr (fun b => match b with | [] => true | _ => false) (fun x _ ih b => match b with | [] => false | y :: b => match Nat.beq x y with | true => ih b | false => false) a
noncomputable def ltL (a : List Nat) : List Nat → Bool := lr (fun b => match b with | [] => false | _ => true) (fun x _ ih b => match b with | [] => false | y :: b => match Nat.blt x y with | true => true | false => match Nat.beq x y with | true => ih b | false => false) a
noncomputable def strOp {β : Type} (op : BinOp) (x y : List Nat) (kk : V → Option β) : Option β :=
  let b (r : Bool) : Option β := fb r fun r => kk (.bool r)
  match op with
  | .add => match Nat.ble (x.length + y.length) 1073741824 with | true => fl (x ++ y) fun l => kk (.s l) | false => none
  | .eql => b (eqL x y)
  | .neq => b (!eqL x y)
  | .lss => b (ltL x y)
  | .leq => b (ltL x y || eqL x y)
  | .gtr => b (!(ltL x y || eqL x y))
  | .geq => b (!ltL x y)
  | _ => none
/-! ### what bears no address is asked of the model itself -/
noncomputable def pureRun {α : Type} (P : Program) : Sem α → Option α
  | .pure a => some a
  | .program k => pureRun P (k P)
  | .mark _ k => pureRun P k
  | _ => none
noncomputable def valA : V → Option Value
  | .c v => some v
  | .s l => some (.string ⟨⟨l.map UInt8.ofNat⟩⟩)
  | _ => none
noncomputable def valsA (l : List V) : Option (List Value) := lr (some []) (fun x _ ih => match valA x with | none => none | some v => match ih with | none => none | some l => some (v :: l)) l
noncomputable def valV : V → Option Value
  | .g l => match valsA l with | none => none | some l => some (.agg ⟨l⟩)
  | x => valA x
noncomputable def pu {β : Type} (P : Program) (s : Sem Value) (k : V → Option β) : Option β := match pureRun P s with
  | some v => ofV v k
  | none => none
/-- of a pointer, a slice, a map, a function held against nil: is it nil? -/
noncomputable def nilQ (d : TypeDesc) (x y : V) : Option Bool := match d, x, y with
  | .pointer _, .c (.pointer none), .c (.pointer none) => some true
  | .pointer _, .c (.pointer none), .p _ _ => some false
  | .pointer _, .p _ _, .c (.pointer none) => some false
  | .slice _, .c (.slice none 0 0), .c (.slice none 0 0) => some true
  | .slice _, .c (.slice none 0 0), .sl .. => some false
  | .slice _, .sl .., .c (.slice none 0 0) => some false
  | .slice _, .c (.slice none 0 0), .sg .. => some false
  | .slice _, .sg .., .c (.slice none 0 0) => some false
  | .slice _, .c (.slice none 0 0), .e => some false
  | .slice _, .e, .c (.slice none 0 0) => some false
  | .map _ _, .c (.map none), .c (.map none) => some true
  | .map _ _, .c (.map none), .m _ => some false
  | .map _ _, .m _, .c (.map none) => some false
  | _, _, _ => none
noncomputable def bnd {β : Type} (e : Env) (d : Nat) (x : Option Operand) (k : Nat → Option β) : Option β := match x with
  | none => k d
  | some x => opd e x fun v => asNat v k
abbrev Res := Option (V × St)
abbrev CallF := Cx → Nat → List V → St → Res
noncomputable def ret (st : St) : V → Res := fun v => some (v, st)
/-- a new row behind an old one -/
noncomputable def growE (c : Cx) (st : St) (el z ls ln : Nat) (s : V) (new : List V) : Res := firsts c st z ls s fun old => newC st el (old ++ new) fun n st => some (.sg n 0 ln z, st)
noncomputable def appE (c : Cx) (st : St) (el z ls lx : Nat) (s : V) (new : List V) : Res := fn (ls + lx) fun ln => match s with
  | .sl n o len cap => (match Nat.ble ln cap with
    | true => fn (o + len * z) fun at_ => putB c st n at_ new fun st => some (.sl n o ln cap, st)
    | false => growE c st el z ls ln s new)
  | .sg n o len z' => (match Nat.beq z z' with
    | false => none
    | true => getB c st n fun b => (match b with
      | .cs ty sz t => (match Nat.beq ty roT with | true => none | false => match Nat.ble (o + ln * z) sz with
        | true => fn (o + len * z) fun at_ => putB c st n at_ new fun st => some (.sg n o ln z, st)
        | false => (match Nat.beq (o + len * z) sz with
          | false => none
          | true => (match o with
            | 0 => setB c st n .gone fun st => setsK new sz t fun t => fn (sz + new.length) fun sz' => newB st (.cs el sz' t) fun n st => some (.sg n 0 ln z, st)
            | _ => firsts c st z ls s fun old => setB c st n .gone fun st => newC st el (old ++ new) fun n st => some (.sg n 0 ln z, st))))
      | _ => none))
  | .c (.slice none 0 0) => (match lx with
    | 0 => some (s, st)
    | _ => growE c st el z ls ln s new)
  | .e => (match lx with
    | 0 => some (s, st)
    | _ => none)
  | _ => none
noncomputable def small (P : Program) (el : TypeId) (n : Nat) : Bool := match P.info? el with
  | none => false
  | some i => match Nat.ble n 1073741824, Nat.ble i.bytes 1024, Nat.ble 1 i.size, i.zero with
    | true, true, true, some z => Nat.beq z.cells.size i.size
    | _, _, _, _ => false
/-! ### maps, by whole numbers or texts -/
noncomputable def keyOk (d : TypeDesc) (k : V) : Bool := match d, k with
  | .int k1, .c (.int k2 _) => eqKd k1 k2
  | .string, .s _ => true
  | _, _ => false
noncomputable def keyEq (a b : V) : Option Bool := match a, b with
  | .c (.int k a), .c (.int k' b) => (match eqKd k k' with | true => some (eqI a b) | false => none)
  | .s a, .s b => some (eqL a b)
  | _, _ => none
abbrev MEnt := V × V × Nat
noncomputable def mfind (k : V) (l : List MEnt) : Nat → Option (Option (Nat × V × Nat)) := lr (fun _ => some none) (fun x _ ih i => match keyEq k x.1 with
  | none => none
  | some true => some (some (i, x.2.1, x.2.2))
  | some false => ih (i + 1)) l
noncomputable def mborn (n : Nat) (l : List MEnt) : Nat → Option Nat := lr (fun _ => none) (fun x _ ih i => match Nat.beq x.2.2 n with | true => some i | false => ih (i + 1)) l
noncomputable def zeroV (P : Program) (t : TypeId) (k : V → Res) : Res := match P.info? t with
  | none => none
  | some i => (match i.zero with
    | none => none
    | some v => ofV v k)
noncomputable def mapT {β : Type} (P : Program) (t : TypeId) (x : V) (k : TypeId → Option β) : Option β := match P.underlying t with
  | some (.map kt el) => (match P.underlying kt with
    | some d => (match keyOk d x with | true => k el | false => none)
    | none => none)
  | _ => none
noncomputable def getM {β : Type} (c : Cx) (st : St) (m : V) (k : Nat → List MEnt → Nat → Option β) : Option β := match m with
  | .m n => getB c st n fun b => (match b with | .mp l clock => k n l clock | _ => none)
  | _ => none
noncomputable def lookV (ok : Bool) (st : St) (v : V) (b : Bool) : Res := match ok with | true => some (.t [v, .bool b], st) | false => some (v, st)
noncomputable def lookE (P : Program) (c : Cx) (st : St) (t : TypeId) (m x : V) (ok : Bool) : Res := mapT P t x fun el => (match m with
  | .c (.map none) => zeroV P el fun z => lookV ok st z false
  | m => getM c st m fun _ l _ => (match mfind x l 0 with
    | none => none
    | some none => zeroV P el fun z => lookV ok st z false
    | some (some y) => lookV ok st y.2.1 true))
noncomputable def mputE (P : Program) (c : Cx) (st : St) (t : TypeId) (m x v : V) : Res := mapT P t x fun _ => getM c st m fun n l clock => (match mfind x l 0 with
    | none => none
    | some none => fn (clock + 1) fun clock' => setB c st n (.mp (l ++ [(x, v, clock)]) clock') fun st => some (.u, st)
    | some (some y) => setB c st n (.mp (l.modify y.1 fun e => (x, v, e.2.2)) clock) fun st => some (.u, st))
noncomputable def mentE (P : Program) (c : Cx) (st : St) (t : TypeId) (m x : V) : Res := mapT P t x fun el => getM c st m fun n l clock => (match mfind x l 0 with
    | none => none
    | some none => zeroV P el fun z => fn (clock + 1) fun clock' => setB c st n (.mp (l ++ [(x, z, clock)]) clock') fun st => some (.t [z, .int .i64 (.ofNat clock)], st)
    | some (some y) => setB c st n (.mp (l.modify y.1 fun e => (x, e.2.1, e.2.2)) clock) fun st => some (.t [y.2.1, .int .i64 (.ofNat y.2.2)], st))
noncomputable def mstoE (c : Cx) (st : St) (m s v : V) : Res := asNat s fun b => getM c st m fun n l clock => (match mborn b l 0 with
    | none => none
    | some i => setB c st n (.mp (l.modify i fun e => (e.1, v, e.2.2)) clock) fun st => some (.u, st))
noncomputable def mdelE (P : Program) (c : Cx) (st : St) (t : TypeId) (m x : V) : Res := mapT P t x fun _ => (match m with
  | .c (.map none) => some (.t [], st)
  | m => getM c st m fun n l clock => (match mfind x l 0 with
    | none => none
    | some none => some (.t [], st)
    | some (some y) => setB c st n (.mp (l.eraseIdx y.1) clock) fun st => some (.t [], st)))
/-- a row's cells made zero -/
noncomputable def clearE (P : Program) (c : Cx) (st : St) (t : TypeId) (x : V) : Res := match x with
  | .c (.slice none 0 0) => elemOf P t fun _ _ => some (.t [], st)
  | .sl n o len _ => elemOf P t fun el _ => zero P el fun zs => putB c st n o (rep zs len) fun st => some (.t [], st)
  | .sg n o len _ => elemOf P t fun el _ => zero P el fun zs => putB c st n o (rep zs len) fun st => some (.t [], st)
  | _ => none
noncomputable def builtinE (P : Program) (c : Cx) (b : Builtin) (ts : List TypeId) (args : List V) (st : St) : Res :=
  match b, ts, args with
  | .len, [t], [x] => (match P.underlying t with
    | some (.array n _) => some (.int .i64 (.ofNat n), st)
    | some (.pointer a) => (match P.underlying a with | some (.array n _) => some (.int .i64 (.ofNat n), st) | _ => none)
    | some .string => (match x with | .s l => fn l.length fun n => some (.int .i64 (.ofNat n), st) | _ => none)
    | some (.slice _) => (match x with | .s _ => none | _ => lenA x fun n => some (.int .i64 (.ofNat n), st))
    | _ => none)
  | .append, [t, t'], [s, x] => elemOf P t fun el z => lenA s fun ls => (match P.underlying t' with
      | some (.slice _) => (match x with
        | .s _ => none
        | _ => lenA x fun lx => firsts c st z lx x fun new => (match small P el (ls + lx) with | true => appE c st el z ls lx s new | false => none))
      | some .string => (match x with
        | .s _ => lenA x fun lx => firsts c st z lx x fun new => (match small P el (ls + lx) with | true => appE c st el z ls lx s new | false => none)
        | _ => none)
      | some (.int _) => (match s, x with
        | .c (.slice none 0 0), .c (.int .i64 (.ofNat lx)) => (match Nat.ble 1 lx, small P el lx with | true, true => zero P el fun zs => newC st el (rep zs lx) fun n st => some (.sg n 0 lx z, st) | _, _ => none)
        | _, _ => none)
      | _ => none)
  | .delete, [t, _], [m, x] => mdelE P c st t m x
  | .clear, [t], [x] => clearE P c st t x
  | .cap, [t], [.sl _ _ _ n] => elemOf P t fun _ _ => some (.int .i64 (.ofNat n), st)
  | .cap, [t], [.c (.slice none 0 0)] => elemOf P t fun _ _ => some (.int .i64 0, st)
  | .copy, [t, _], [d, x] => elemOf P t fun _ z => lenA d fun ld => lenA x fun lx => fn (Nat.min lx ld) fun n => firsts c st z n x fun cs => (match d with
      | .sl m o _ _ => putB c st m o cs fun st => some (.int .i64 (.ofNat n), st)
      | .sg m o _ _ => putB c st m o cs fun st => some (.int .i64 (.ofNat n), st)
      | .c (.slice none 0 0) => some (.int .i64 (.ofNat n), st)
      | _ => none)
  | _, _, _ => none
noncomputable def pick1 (P : Program) (b : Builtin) (ts : List TypeId) (ty : TypeId) (args : List V) (st : St) : Res := match valsA args with
  | none => none
  | some vs => (match b with
    | .min => pu P (Builtin.min_ ⟨ts⟩ ty ⟨vs⟩) (ret st)
    | .max => pu P (Builtin.max_ ⟨ts⟩ ty ⟨vs⟩) (ret st)
    | _ => none)
/-- a part laid into cells -/
noncomputable def splice {β : Type} (i : Nat) (cs : List V) (l : List V) (k : List V → Option β) : Option β := match Nat.ble (i + cs.length) l.length with
  | true => k (l.take i ++ (cs ++ l.drop (i + cs.length)))
  | false => none
noncomputable def partsK {β : Type} (at_ : Nat → Option (Nat × Nat)) (l : List (Nat × Operand)) : List V → List V → (List V → Option β) → Option β := lr (fun _ t k => k t) (fun x _ ih vs t k => match vs with
  | [] => none
  | v :: vs => cellsOf v fun cs => match at_ x.1 with
    | some (i, z) => (match Nat.beq cs.length z with
      | true => splice i cs t fun t => ih vs t k
      | false => none)
    | none => none) l
noncomputable def forceL {β : Type} (l : List V) : (List V → β) → β := lr (fun k => k []) (fun x _ ih k => ih fun l => k (x :: l)) l
noncomputable def bytesOfAs {β : Type} (l : List V) : (List Nat → Option β) → Option β := lr (fun k => k []) (fun x _ ih k => match x with | .c (.int .u8 (.ofNat n)) => (match Nat.blt n 256 with | true => ih fun r => k (n :: r) | false => none) | _ => none) l
noncomputable def loadE {β : Type} (P : Program) (c : Cx) (st : St) (t : TypeId) (n i : Nat) (k : V → Option β) : Option β := getC c st n fun b => match agg? P t with
  | some true => szOf P t fun z => getsB b z i fun l => k (.g l)
  | some false => match b.get i with
    | some x => k x
    | none => none
  | none => none
noncomputable def idxE {β : Type} (P : Program) (t : TypeId) (v : V) (i : Nat) (k : V → Option β) : Option β := match P.underlying t, v with
  | some (.array len el), .p n o => (match Nat.blt i len with | true => szOf P el fun z => fn (o + i * z) fun o => k (.p n o) | false => none)
  | some (.slice el), .sl n o len _ => (match Nat.blt i len with | true => szOf P el fun z => fn (o + i * z) fun o => k (.p n o) | false => none)
  | some (.slice el), .sg n o len _ => (match Nat.blt i len with | true => szOf P el fun z => fn (o + i * z) fun o => k (.p n o) | false => none)
  | _, _ => none
noncomputable def sliceE {β : Type} (P : Program) (e : Env) (t : TypeId) (v : V) (lo hi : Option Operand) (k : V → Option β) : Option β := match P.underlying t, v with
  | some .string, .s s => fn s.length fun n => bnd e n hi fun h => bnd e 0 lo fun l => (match Nat.ble l h, Nat.ble h n with
    | true, true => fl ((s.take h).drop l) fun s => k (.s s)
    | _, _ => none)
  | some (.slice el), .c (.slice none 0 0) => szOf P el fun _ => bnd e 0 hi fun h => bnd e 0 lo fun l => (match h, l with
    | 0, 0 => k (.c (.slice none 0 0))
    | _, _ => none)
  | some (.slice el), .sl n o len cap => szOf P el fun z => bnd e len hi fun h => bnd e 0 lo fun l => (match Nat.ble l h, Nat.ble h cap with
    | true, true => fn (match Nat.beq cap l with | true => o | false => o + l * z) fun o => fn (h - l) fun len => fn (cap - l) fun cap => k (.sl n o len cap)
    | _, _ => none)
  | some (.slice el), .sg n o len z' => szOf P el fun z => bnd e len hi fun h => bnd e 0 lo fun l => (match Nat.ble l h, Nat.ble h len, Nat.beq z z' with
    | true, true, true => (match Nat.beq l h && !Nat.beq l 0 with
      | true => k .e
      | false => fn (o + l * z) fun o => fn (h - l) fun len => k (.sg n o len z))
    | _, _, _ => none)
  | some (.array len el), .p n o => szOf P el fun z => bnd e len hi fun h => bnd e 0 lo fun l => (match Nat.ble l h, Nat.ble h len with
    | true, true => fn (match Nat.beq len l with | true => o | false => o + l * z) fun o => fn (h - l) fun ln => fn (len - l) fun cap => k (.sl n o ln cap)
    | _, _ => none)
  | _, _ => none
/-- a row that has grown, sliced beyond its length -/
noncomputable def sliceG (P : Program) (c : Cx) (st : St) (e : Env) (t : TypeId) (v : V) (lo hi : Option Operand) : Res := match P.underlying t, v with
  | some (.slice el), .sg n o len z' => szOf P el fun z => getB c st n fun b => (match b with
    | .cs _ sz _ => bnd e len hi fun h => bnd e 0 lo fun l => (match Nat.ble l h, Nat.ble (o + h * z) sz, Nat.beq z z', Nat.beq l h && !Nat.beq l 0 with
      | true, true, true, false => fn (o + l * z) fun o => fn (h - l) fun len => some (.sg n o len z, st)
      | _, _, _, _ => none)
    | _ => none)
  | some (.slice el), .e => szOf P el fun _ => bnd e 0 hi fun h => bnd e 0 lo fun l => (match h, l with
    | 0, 0 => some (.e, st)
    | _, _ => none)
  | _, _ => none
noncomputable def slice3E {β : Type} (P : Program) (e : Env) (t : TypeId) (v : V) (lo hi : Option Operand) (mx : Operand) (k : V → Option β) : Option β := match P.underlying t, v, hi with
  | some (.slice el), .sl n o _ cap, some hi => szOf P el fun z => bnd e 0 (some mx) fun m => bnd e 0 (some hi) fun h => bnd e 0 lo fun l => (match Nat.ble l h, Nat.ble h m, Nat.ble m cap with
    | true, true, true => fn (match Nat.beq m l with | true => o | false => o + l * z) fun o => fn (h - l) fun len => fn (m - l) fun cap => k (.sl n o len cap)
    | _, _, _ => none)
  | some (.slice el), .sg n o len z', some hi => szOf P el fun z => bnd e 0 (some mx) fun m => bnd e 0 (some hi) fun h => bnd e 0 lo fun l => (match Nat.ble l h, Nat.ble h m, Nat.ble m len, Nat.beq z z' with
    | true, true, true, true => fn (match Nat.beq m l with | true => o | false => o + l * z) fun o => fn (h - l) fun len => fn (m - l) fun cap => k (.sl n o len cap)
    | _, _, _, _ => none)
  | some (.slice el), .c (.slice none 0 0), some hi => szOf P el fun _ => bnd e 0 (some mx) fun m => bnd e 0 (some hi) fun h => bnd e 0 lo fun l => (match m, h, l with
    | 0, 0, 0 => k (.c (.slice none 0 0))
    | _, _, _ => none)
  | _, _, _ => none
noncomputable def partE {β : Type} (P : Program) (t : TypeId) (l : List V) (o : Nat) (k : V → Option β) : Option β := match agg? P t with
  | some true => szOf P t fun z => k (.g ((l.drop o).take z))
  | some false => (match lget l o with
    | some x => k x
    | none => none)
  | none => none
noncomputable def sliceV : V → Bool
  | .c (.slice none 0 0) => true
  | .sl .. => true
  | .sg .. => true
  | .e => true
  | _ => false
noncomputable def convE (P : Program) (c : Cx) (st : St) (src dst : TypeId) (v : V) : Res := match P.underlying src, P.underlying dst, v with
  | some _, some (.int k), .c (.int _ n) => fi (wr k n) fun n => some (.int k n, st)
  | some _, some .string, .s _ => some (v, st)
  | some _, some (.slice el), .s l => (match P.underlying el with
    | some (.int .u8) => (match small P el l.length with
      | true => newC st el (l.map fun x => .c (.int .u8 (.ofNat x))) fun n st => fn l.length fun len => some (.sg n 0 len 1, st)
      | false => none)
    | _ => none)
  | some (.slice _), some (.slice el), .sl n o len cap => (match P.underlying el with
    | some (.int .u8) => (match Nat.beq src dst with
      | true => getB c st n fun b => (match b with
        | .cs ty sz t => (match Nat.beq ty roT with
          | true => none
          | false => setB c st n (.cs ty sz t) fun st => some (.sl n o len cap, st))
        | _ => none)
      | false => none)
    | _ => none)
  | some (.slice el), some .string, x => (match P.underlying el with
    | some (.int .u8) => (match sliceV x with
      | true => lenA x fun len => firsts c st 1 len x fun l => bytesOfAs l fun l => some (.s l, st)
      | false => none)
    | _ => none)
  | _, _, _ => none
noncomputable def binE (P : Program) (st : St) (op : BinOp) (t : TypeId) (x y : Operand) (a b : V) : Res := match a, b with
  | .c (.int k a), .c (.int k' b) => (match op with
    | .shl => (match shI op k a b with | some v => ofV v (ret st) | none => none)
    | .shr => (match shI op k a b with | some v => ofV v (ret st) | none => none)
    | _ => (match eqKd k k' with
      | true => (match binI op k a b with | some v => ofV v (ret st) | none => none)
      | false => none))
  | .s a, .s b => strOp op a b (ret st)
  | a, b => (match op, P.underlying t with
    | .eql, some d => (match nilQ d a b with
      | some r => fb r fun r => some (.bool r, st)
      | none => (match valV a, valV b with
        | some a, some b => pu P (do eqGuard op t x y a b; binOp op t a b) (ret st)
        | _, _ => none))
    | .neq, some d => (match nilQ d a b with
      | some r => fb (!r) fun r => some (.bool r, st)
      | none => (match valV a, valV b with
        | some a, some b => pu P (do eqGuard op t x y a b; binOp op t a b) (ret st)
        | _, _ => none))
    | _, _ => none)

/-! ### what the model has a row of its own for -/
noncomputable def ext? (P : Program) (f : Nat) : Option (Array Value → Sem Value) := match lget P.funcs.toList f with
  | none => none
  | some fn => (match fn.body with
    | some _ => none
    | none => (match Extern.findNext fn with
      | some _ => none
      | none => Extern.find fn))
noncomputable def extE (P : Program) (g : Array Value → Sem Value) (args : List V) (st : St) : Res := match valsA args with
  | none => none
  | some vs => pu P (g ⟨vs⟩) (ret st)

noncomputable def evOp (P : Program) (call : CallF) (c : Cx) (e : Env) (st : St) (o : Oper) : Res :=
  match o.op with
  | .move x => opd e x (ret st)
  | .assign x => opd e x (ret st)
  | .pick x a b => opd e x fun x => (match x with
    | .c (.bool true) => opd e a (ret st)
    | .c (.bool false) => opd e b (ret st)
    | _ => none)
  | .nilCheck x => opd e x fun v => (match v with
    | .p n o => some (.p n o, st)
    | _ => none)
  | .extract x ix => opd e x fun v => (match v with
    | .t l => (match lget l ix with | some w => some (w, st) | none => none)
    | _ => none)
  | .alloc t => zero P t fun cs => newC st t cs fun n st => some (.p n 0, st)
  | .box t x => opd e x fun v => cellsOf v fun cs => newC st t cs fun n st => some (.p n 0, st)
  | .load t x => opd e x fun v => (match v with
    | .p n i => loadE P c st t n i fun w => some (w, st)
    | _ => none)
  | .store t x y => opd e x fun v => (match v with
    | .p n i => opd e y fun v => cellsOf v fun cs => szOf P t fun z => (match Nat.beq cs.length z with
      | true => putB c st n i cs fun st => some (.u, st)
      | false => none)
    | _ => none)
  | .fieldAddr t x f => opd e x fun v => (match v with
    | .p n i => (match P.underlying t with
      | some (.struct fs) => (match lget fs.toList f with
        | some f => szOf P f.type fun z => (match z with
          | 0 => none
          | _ => fn (i + f.offset) fun i => some (.p n i, st))
        | none => none)
      | _ => none)
    | _ => none)
  | .indexAddr t x ix => opd e x fun v => opd e ix fun i => asNat i fun i => idxE P t v i fun a => some (a, st)
  | .buildSlice t len parts => elemOf P t fun el z => zero P el fun zs => opds e (parts.toList.map fun x => x.2) fun vs => (match Nat.beq zs.length z, Nat.ble (len * z) 16777216 with
    | true, true => partsK (fun i => some (i * z, z)) parts.toList vs (rep zs len) fun l => newC st el l fun n st => some (.sl n 0 len len, st)
    | _, _ => none)
  | .build t parts => zero P t fun zs => opds e (parts.toList.map fun x => x.2) fun vs => (match P.underlying t with
    | some (.struct fs) => partsK (fun i => match lget fs.toList i with | some f => (match P.info? f.type with | some ti => some (f.offset, ti.size) | none => none) | none => none) parts.toList vs zs fun l => forceL l fun l => (match fs.toList.all fun f => (P.info? f.type).isSome with | true => some (.g l, st) | false => none)
    | some (.array _ el) => szOf P el fun z => partsK (fun i => some (i * z, z)) parts.toList vs zs fun l => forceL l fun l => some (.g l, st)
    | _ => none)
  | .makeSlice t l cp => opd e l fun l => opd e cp fun cp => asNat l fun l => asNat cp fun cp => elemOf P t fun el _ => (match Nat.ble l cp, small P el cp with
    | true, true => zero P el fun z => newC st el (rep z cp) fun n st => some (.sl n 0 l cp, st)
    | _, _ => none)
  | .slice t x lo hi none => opd e x fun v => (match sliceE P e t v lo hi (fun a => (some (a, st) : Res)) with
    | some r => some r
    | none => sliceG P c st e t v lo hi)
  | .binOp op t x y _ => opd e x fun a => opd e y fun b => binE P st op t x y a b
  | .unOp op _ x => opd e x fun v => (match op, v with
    | .not, .c (.bool b) => fb (!b) fun b => some (.bool b, st)
    | op, v => (match valA v with
      | some v => pu P (Op.unary op v) (ret st)
      | none => none))
  | .convert src dst x => opd e x fun v => convE P c st src dst v
  | .field t x f => opd e x fun v => (match v, P.underlying t with
    | .g l, some (.struct fs) => (match lget fs.toList f with
      | none => none
      | some f => partE P f.type l f.offset fun v => some (v, st))
    | _, _ => none)
  | .index t x ix => opd e x fun v => opd e ix fun i => asNat i fun i => (match P.underlying t, v with
    | some .string, .s l => (match lget l i with
      | some b => some (.int .u8 (.ofNat b), st)
      | none => none)
    | some (.array len el), .g l => (match Nat.blt i len with
      | true => szOf P el fun z => fn (i * z) fun o => partE P el l o fun v => some (v, st)
      | false => none)
    | _, _ => none)
  | .range t x => opd e x fun v => (match P.underlying t, v with
    | some .string, .s l => newB st (.it l 0) fun n st => some (.p n 0, st)
    | _, _ => none)
  | .next x true => opd e x fun v => (match v with
    | .p n 0 => getB c st n fun b => (match b with
      | .it l pos => (match lget l pos with
        | none => some (.t [.bool false], st)
        | some b => (match Nat.blt b 128 with
          | true => fn (pos + 1) fun q => setB c st n (.it l q) fun st => some (.t [.bool true, .int .i64 (.ofNat pos), .int .i32 (.ofNat b)], st)
          | false => none))
      | _ => none)
    | _ => none)
  | .makeMap t none => (match P.underlying t with | some (.map _ _) => newB st (.mp [] 0) fun n st => some (.m n, st) | _ => none)
  | .lookup t x ix ok => opd e x fun m => opd e ix fun k => lookE P c st t m k ok
  | .mapUpdate t m k x => opd e m fun m => opd e k fun k => opd e x fun x => mputE P c st t m k x
  | .insert t m k x => opd e m fun m => opd e k fun k => opd e x fun x => mputE P c st t m k x
  | .mapEntry t m k => opd e m fun m => opd e k fun k => mentE P c st t m k
  | .entryStore _ m s x => opd e m fun m => opd e s fun s => opd e x fun x => mstoE c st m s x
  | .slice t x lo hi (some mx) => opd e x fun v => slice3E P e t v lo hi mx fun a => some (a, st)
  | .makeFunc f first caps => opds e first.toList fun a => opds e caps.toList fun b => some (.f f a b, st)
  | .call cl => opds e cl.args.toList fun args => (match cl.callee with
    | .builtin .min => pick1 P .min cl.argTypes.toList o.type args st
    | .builtin .max => pick1 P .max cl.argTypes.toList o.type args st
    | .builtin b => builtinE P c b cl.argTypes.toList args st
    | .value f => opd e f fun f => (match f with
      | .f (.func f) first caps => (match ext? P f with
        | some g => extE P g (first ++ args ++ caps) st
        | none => call c f (first ++ args ++ caps) st)
      | _ => none)
    | _ => none)
  | _ => none

noncomputable def putK {β : Type} (c : Cx) (e : Env) (d : Option Nat) (v : V) (k : Env → Option β) : Option β := match d with
  | none => k e
  | some t => match Nat.blt t c.nt with | true => e.setK t v k | false => none
noncomputable def wants (e : Env) (ops : List Oper) (o : Oper) : Bool := match o.guard with
  | none => true
  | some (j, want) => match lget ops j with
    | none => false
    | some oj => match oj.dst with
      | none => false
      | some t => match e.get t with
        | some (.c (.bool b)) => match b, want with | true, true => true | false, false => true | _, _ => false
        | _ => false
noncomputable def evOps (P : Program) (call : CallF) (c : Cx) (ops : List Oper) (l : List Oper) : Env → St → Option (Env × St) :=
  lr (fun e st => some (e, st)) (fun o _ ih e st => match wants e ops o with
    | true => match evOp P call c e st o with
      | none => none
      | some (v, st) => putK c e o.dst v fun e => ih e st
    | false => putK c e o.dst .u fun e => ih e st) l
/-! ### regions whose order is open -/
noncomputable def touches : Op → Bool
  | .move _ | .assign _ | .pick .. | .nilCheck _ | .extract .. | .alloc _ | .box .. | .fieldAddr .. | .indexAddr .. | .buildSlice .. | .build .. | .makeSlice .. | .slice .. | .binOp .. | .unOp .. | .field .. | .index .. | .makeFunc .. => false
  | .call cl => (match cl.callee with
    | .builtin .len => false
    | .builtin .min => false
    | .builtin .max => false
    | _ => true)
  | _ => true
/-- what must come before each -/
noncomputable def befs (l : List Oper) : List Nat → List Nat := lr (fun acc => acc) (fun o _ ih acc => ih (acc ++ [lr 0 (fun (x : Edge) _ r => match Region.binds .any x with | true => Nat.lor (Nat.lor r (Nat.shiftLeft 1 x.on)) ((lget acc x.on).getD 0) | false => r) o.after.toList])) l
noncomputable def befOf (ops : List Oper) (i : Nat) : Nat := (lget (befs ops []) i).getD 0
noncomputable def ordered (ops : List Oper) (i j : Nat) : Bool := match Nat.testBit (befOf ops i) j with | true => true | false => Nat.testBit (befOf ops j) i
noncomputable def mayW (ops : List Oper) (i : Nat) : Bool := lr (β := Nat → Bool) (fun _ => true) (fun o _ ih j => match Nat.beq i j with
  | true => ih (j + 1)
  | false => match touches o.op with
    | false => ih (j + 1)
    | true => match ordered ops i j with
      | true => ih (j + 1)
      | false => false) ops 0
/-- the slots that an operation looks at -/
noncomputable def looks (ops : List Oper) (o : Oper) : List Nat := (lr [] (fun (x : Operand) _ r => match x with | .tmp t => t :: r | _ => r) o.op.operands.toList) ++ (match o.guard with
  | none => []
  | some (j, _) => match lget ops j with | some oj => (match oj.dst with | some t => [t] | none => []) | none => [])
/-- each writes a slot of its own; what is looked at was written by one that must come before; what must come before stands before -/
noncomputable def regOk (ops : List Oper) : Bool := lr (β := Nat → Bool) (fun _ => true) (fun o _ ih i =>
  match (lr (β := Nat → Bool) (fun _ => true) (fun (oj : Oper) _ ihj j => match oj.dst with
      | none => ihj (j + 1)
      | some t => (match (match Nat.beq i j with | true => true | false => (match o.dst with | none => true | some u => !Nat.beq t u)) with
        | false => false
        | true => (match (looks ops o).any (Nat.beq t) with
          | false => ihj (j + 1)
          | true => (match Nat.testBit (befOf ops i) j with | true => ihj (j + 1) | false => (match Nat.testBit (befOf ops j) i with | true => ihj (j + 1) | false => false))))) ops 0) with
  | false => false
  | true => (match o.after.toList.all fun (x : Edge) => match Region.binds .any x with | true => Nat.blt x.on i | false => true with
    | false => false
    | true => (match o.op with | .select .. => false | _ => ih (i + 1)))) ops 0
noncomputable def forb (b : Nat) (l : List (Nat × Nat × Nat)) (f : List (Nat × Nat)) : List (Nat × Nat) := lr f (fun x _ ih => match Nat.testBit b x.1 with | true => ih | false => x.2 :: ih) l
/-- what touches no block but the one that a slot points to -/
noncomputable def plainLd (op : Op) : Option Nat := match op with
  | .load _ (.tmp q) => some q
  | .convert _ _ (.tmp q) => some q
  | _ => none
noncomputable def blkOf (v : V) : Option Nat := match v with
  | .p m _ => some m
  | .sl m _ _ _ => some m
  | .sg m _ _ _ => some m
  | _ => none
/-- the slot is written ahead of number j, or not at all -/
noncomputable def firm (ops : List Oper) (j q : Nat) : Bool := lr (β := Nat → Bool) (fun _ => true) (fun o _ ih k => match o.dst with
  | none => ih (k + 1)
  | some t => (match Nat.beq t q with
    | false => ih (k + 1)
    | true => (match Nat.testBit (befOf ops j) k with
      | true => ih (k + 1)
      | false => false))) ops 0
/-- who writes the slot -/
noncomputable def writer (ops : List Oper) (q : Nat) : Option Oper := lr none (fun o _ r => match o.dst with
  | none => r
  | some t => (match Nat.beq t q with | true => some o | false => r)) ops
/-- what lies in the block that number j will touch: told by its slot if it stands ahead of number i; else by the slot that its slot is a field of -/
noncomputable def seenAt (ops : List Oper) (e : Env) (i j q : Nat) : Option V := match Nat.blt j i with
  | true => e.get q
  | false => (match writer ops q with
    | none => e.get q
    | some ok => (match ok.op with
      | .fieldAddr _ (.tmp r) _ => (match writer ops r with
        | none => e.get r
        | some _ => none)
      | _ => none))
/-- number i may write old blocks but for those that loads that may come behind it have read -/
noncomputable def looseW (ops : List Oper) (e : Env) (i : Nat) : Option (List (Nat × Nat)) := lr (β := Nat → Option (List (Nat × Nat))) (fun _ => some []) (fun o _ ih j => match Nat.beq i j with
  | true => ih (j + 1)
  | false => (match touches o.op with
    | false => ih (j + 1)
    | true => (match ordered ops i j with
      | true => ih (j + 1)
      | false => (match plainLd o.op with
        | some q => (match firm ops j q, seenAt ops e i j q with
          | true, some v => (match ih (j + 1) with
            | some l => (match blkOf v with
              | some m => some ((m, m + 1) :: l)
              | none => some l)
            | none => none)
          | _, _ => none)
        | none => none)))) ops 0
noncomputable def clashes (e : Env) (l : List (Nat × Nat)) (x : Operand) : Bool := match x with
  | .tmp t => (match e.get t with
    | some v => (match blkOf v with
      | some m => inF l m
      | none => false)
    | none => false)
  | _ => false
noncomputable def looseFor (ops : List Oper) (e : Env) (i : Nat) (o : Oper) : Option (List (Nat × Nat)) := match o.op with
  | .store .. => looseW ops e i
  | .call cl => (match looseW ops e i with
    | none => none
    | some l => (match lr false (fun x _ r => match clashes e l x with | true => true | false => r) cl.args.toList with
      | true => none
      | false => some l))
  | _ => none
noncomputable def cxOf (c : Cx) (ops : List Oper) (o : Oper) (i : Nat) (rs : List (Nat × Nat × Nat)) (nx : Nat) (e : Env) : Cx := match touches o.op with
  | false => ⟨true, [], c.wb, c.nt⟩
  | true => (match plainLd o.op with
    | some q => (match e.get q with
      | some v => (match blkOf v with
        | some m => ⟨c.all, (0, m) :: (m + 1, nx) :: forb (befOf ops i) rs c.l, nx, c.nt⟩
        | none => ⟨true, [], nx, c.nt⟩)
      | none => ⟨true, [], nx, c.nt⟩)
    | none => (match mayW ops i with
      | true => ⟨c.all, forb (befOf ops i) rs c.l, c.wb, c.nt⟩
      | false => (match looseFor ops e i o with
        | some l => ⟨c.all, l ++ forb (befOf ops i) rs c.l, c.wb, c.nt⟩
        | none => ⟨c.all, forb (befOf ops i) rs c.l, nx, c.nt⟩)))
noncomputable def evDraw (P : Program) (call : CallF) (c : Cx) (ops : List Oper) (l : List Oper) : Nat → List (Nat × Nat × Nat) → Env → St → Option (Env × St) :=
  lr (fun _ _ e st => some (e, st)) (fun o _ ih i rs e st => match wants e ops o with
    | true => match evOp P call (cxOf c ops o i rs st.nx e) e st o with
      | none => none
      | some (v, st') => putK c e o.dst v fun e => fn (i + 1) fun i' => ih i' (match Nat.beq st.nx st'.nx with | true => rs | false => (i, st.nx, st'.nx) :: rs) e st'
    | false => putK c e o.dst .u fun e => fn (i + 1) fun i' => ih i' rs e st) l
abbrev CodeF := Cx → Code → Env → St → Option (X × Env × St)
noncomputable def initE {β : Type} (l : List V) : Nat → Env → (Env → β) → β := lr (fun _ e k => k e) (fun v _ ih i e k => e.setK i v fun e => fn (i + 1) fun i => ih i e k) l
noncomputable def resOf (P : Program) (c : Cx) (e : Env) (st : St) (l : List ResultVar) : (List V → Option (V × St)) → Option (V × St) := lr (fun k => k []) (fun x _ ih k => match x with
  | .tmp t => (match e.get t with
    | some x => ih fun r => k (x :: r)
    | _ => none)
  | .cell t ty => (match e.get t with
    | some (.p n i) => loadE P c st ty n i fun w => ih fun r => k (w :: r)
    | _ => none)) l
noncomputable def callOf (P : Program) (ih : CodeF) : CallF := fun cx f args st => match lget P.funcs.toList f with
  | none => none
  | some fn => match fn.body with
    | none => none
    | some c => initE args 0 .lf fun e => match ih ⟨cx.all, cx.l, cx.wb, fn.ntmps⟩ c e st with
      | some (.n, e, st) => resOf P cx e st fn.results.toList fun l => (match l with
        | [x] => some (x, st)
        | l => some (.t l, st))
      | some (.ret, e, st) => resOf P cx e st fn.results.toList fun l => (match l with
        | [x] => some (x, st)
        | l => some (.t l, st))
      | _ => none
noncomputable def ev (P : Program) (n : Nat) : CodeF := nr (fun _ _ _ _ => none) (fun _ ih cx c e st =>
  match c with
  | .skip => some (.n, e, st)
  | .label _ => some (.n, e, st)
  | .region _ ops d => (match d with
    | true => (match regOk ops.toList with
      | true => (match evDraw P (callOf P ih) cx ops.toList ops.toList 0 [] e st with
        | none => none
        | some (e, st) => some (.n, e, st))
      | false => none)
    | false => (match evOps P (callOf P ih) cx ops.toList ops.toList e st with
      | none => none
      | some (e, st) => some (.n, e, st)))
  | .seq a b => (match ih cx a e st with
    | some (.n, e, st) => ih cx b e st
    | r => r)
  | .cond x a b => opd e x fun v => (match v with
    | .c (.bool true) => ih cx a e st
    | .c (.bool false) => ih cx b e st
    | _ => none)
  | .block i b => (match ih cx b e st with
    | some (.ex j, e, st) => (match Nat.beq j i with | true => some (.n, e, st) | false => some (.ex j, e, st))
    | r => r)
  | .loop b => (match ih cx b e st with
    | some (.n, e, st) => ih cx (.loop b) e st
    | r => r)
  | .exit i => some (.ex i, e, st)
  | .ret => some (.ret, e, st)
  | _ => none) n
noncomputable def run (P : Program) (fuel f : Nat) (args : List V) : Option (V × St) := callOf P (ev P fuel) ⟨false, [], 0, 0⟩ f args ⟨0, .lf⟩
noncomputable def yes (P : Program) (fuel f : Nat) : Bool := match run P fuel f [] with
  | some (.c (.bool true), _) => true
  | _ => false
end Go.Proofs.Ytenncnbaoejekaa.Ev

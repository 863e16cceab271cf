/-
  The runner: memory, values, operations, code.
-/
import Derived.Test.YtllbjkeahafleaaGreatDoorRN0
import Derived.Orders
namespace Go.Proofs.YtllbjkeahafleaaGreatDoor
namespace Rn

/-- How deep a table may be. -/
abbrev W : Nat := 40
/-- A capacity that is not known. -/
abbrev TOP : Nat := 18446744073709551616
/-- The numbers below this one are the package-level variables' own. -/
abbrev GL : Nat := 1000
/-- A place that is not told: of a slice without elements. -/
abbrev NOWHERE : Nat := 999
/-- A value of which nothing is known. -/
abbrev any : Value := .chan none
/-- The greatest length. -/
abbrev MAXL : Nat := 9223372036854775807
/-- So many rows, cells at most. -/
abbrev MOST : Nat := 1000000000

/-- A slice that is handed in has so many elements at least, where its length is not told. -/
abbrev LONG : Nat := 5
/-- Symbols: .complex .f32 r m is a value that hangs on a number that stands at r in the way of m: 0, 1: a number of 64 bits (1: one that is gone through case by case); 2 to 5: the cells of what is known of a value, one of eight; 6: a length of LONG at least; from 16 on: a number of 64 bits, and the bits tell what may be left of it by 8. Which of them are numbers? -/
def symInt (m : Nat) : Bool := match Nat.beq m 4 with
  | true => false
  | false => Nat.ble m 6
def symStr (m : Nat) : Bool := Nat.beq m 4
/-- .float .f32 n is a number of 64 bits that hangs on the one at lR n: lA n times that, and lB n more. -/
abbrev MW : Nat := 18446744073709551616
def lR (n : Nat) : Nat := Nat.div (Nat.div n MW) MW
def lA (n : Nat) : Nat := Nat.mod (Nat.div n MW) MW
def lB (n : Nat) : Nat := Nat.mod n MW
def toW (n : Int) : Nat := match n with
  | .ofNat n => Nat.mod n MW
  | .negSucc n => Nat.sub (Nat.sub MW 1) (Nat.mod n MW)
/-- So many times the number at r, and so much more. -/
def linK (r a b : Nat) (K : Value → Prop) : Prop := fN (Nat.add (Nat.mul (Nat.add (Nat.mul r MW) (Nat.mod a MW)) MW) (Nat.mod b MW)) fun n => K (.float .f32 n)
/-- Such a number, and one that is known. -/
def linL (op : BinOp) (r a b : Nat) (n : Int) (K : Value → Prop) : Prop := match op with
  | .add => linK r a (Nat.add b (toW n)) K
  | .sub => linK r a (Nat.add b (Nat.sub MW (toW n))) K
  | .mul => linK r (Nat.mul a (toW n)) (Nat.mul b (toW n)) K
  | _ => False
/-- One that is known, and such a number. -/
def linR (op : BinOp) (n : Int) (r a b : Nat) (K : Value → Prop) : Prop := match op with
  | .add => linK r a (Nat.add b (toW n)) K
  | .sub => linK r (Nat.sub MW (Nat.mod a MW)) (Nat.add (toW n) (Nat.sub MW (Nat.mod b MW))) K
  | .mul => linK r (Nat.mul a (toW n)) (Nat.mul b (toW n)) K
  | _ => False
/-- A type's method that is called through an interface: its name, where the receiver stands, the function, whether it takes a pointer. -/
structure Mt where
  name : String
  path : List FieldStep
  f : Nat
  p : Bool
/-- What a type is: how many cells, its shape (of a struct: where its fields stand, and their types), the cells of its zero, its bytes; some of its methods. -/
structure TI where
  size : Nat
  kind : TypeDesc
  zero : List Value
  bytes : Nat
  eq : Bool
  solo : Bool
  ms : List Mt := []
/-- Memory: its rows, the number of the next one, and the first row that may be written. -/
structure Hp where
  rows : Option (T Obj)
  next : Nat
  low : Nat
/-- What a frame holds: how many; the values of those whose bit is set; those of the others, the last one first; the bits. -/
structure Tm where
  n : Nat
  t : Option (T Value)
  e : List (Nat × Value)
  m : Nat
def bitOf (m i : Nat) : Bool := Nat.beq (Nat.mod (Nat.shiftRight m i) 2) 1
def lookK (i : Nat) (e : List (Nat × Value)) (K : Value → Prop) : Prop :=
  List.rec (motive := fun _ => Prop) False (fun p _ ih => Prod.rec (motive := fun _ => Prop) (fun d v => Bool.rec (motive := fun _ => Prop) ih (K v) (Nat.beq d i)) p) e
/-- The others' values are let go. -/
def clrK (t : Tm) (K : Tm → Prop) : Prop := Tm.casesOn (motive := fun _ => Prop) t fun n t _ m => K ⟨n, t, [], m⟩
/-- The types' table. -/
abbrev Tb := Option (T TI)

/-- What stands behind an operation: its answer, and the memory. -/
abbrev KV := Value → Hp → Prop

/-- A type's row: looked up outright, so that the kernel keeps it. -/
def tyK (B : Tb) (t : Nat) (K : TI → Prop) : Prop := match tget W B t with
  | some i => K i
  | none => False
/-- A type whose values may lie in rows. -/
def tySK (B : Tb) (t : Nat) (K : TI → Prop) : Prop := tyK B t fun i => match i.solo with
  | true => False
  | false => K i
def rowK (h : Hp) (r : Nat) (K : Obj → Prop) : Prop := match h with
  | ⟨rows, _, _⟩ => tgetK W rows r fun o => match o with
    | some o => K o
    | none => False
def setK (h : Hp) (r : Nat) (o : Option Obj) (K : Hp → Prop) : Prop := match h with
  | ⟨rows, next, low⟩ => match Nat.ble low r with
    | true => tputK W rows r o fun rows => K ⟨rows, next, low⟩
    | false => False
/-- A new row. -/
def newK (h : Hp) (o : Obj) (K : Nat → Hp → Prop) : Prop := match h with
  | ⟨rows, next, low⟩ => match Nat.ble next MOST with
    | true => fN next fun n => tputK W rows n (some o) fun rows => K n ⟨rows, Nat.succ n, low⟩
    | false => False

/-- The cells of a value. -/
def cellsK (v : Value) (K : List Value → Prop) : Prop := match v with
  | .agg cs => K cs.toList
  | .tuple _ => False
  | v => K [v]

def simple (v : Value) : Bool := match v with
  | .bool _ => true
  | .int _ _ => true
  | .string _ => true
  | .pointer none => true
  | .slice none _ _ => true
  | .map none => true
  | .nilFunc => true
  | .nilIface => true
  | _ => false
/-- A constant, if it is plain. -/
def cvK (v : Value) (K : Value → Prop) : Prop := match v with
  | .agg cs => List.rec (motive := fun _ => Prop) (K v) (fun x _ ih => match simple x with
    | true => ih
    | false => False) cs.toList
  | .tuple _ => False
  | v => match simple v with
    | true => K v
    | false => K any

/-- A value's head is reckoned first. -/
def fV (v : Value) (K : Value → Prop) : Prop := match v with
  | .bool true => K (.bool true)
  | .bool false => K (.bool false)
  | v => K v

abbrev VlF := Tm → (Value → Prop) → Prop
def vGot (K : Value → Prop) (v : Option Value) : Prop := Option.rec (motive := fun _ => Prop) False (fun v => K v) v
def vTmp (i : Nat) : VlF := fun t K => Tm.rec (motive := fun _ => Prop) (fun _ t e m => Bool.rec (motive := fun _ => Prop) (lookK i e K) (tgetK W t i (vGot K)) (bitOf m i)) t
def vConst (v : Value) : VlF := fun _ K => cvK v K
/-- A package-level variable's place: a mark of its own. -/
def vGlobal (g : Nat) : VlF := fun _ K => K (.pointer (some ⟨g, 0, some 0⟩))
def vFunc (f : Nat) : VlF := fun _ K => K (.func (.func f) #[] #[])
def valK (t : Tm) (x : Operand) (K : Value → Prop) : Prop := Operand.rec (motive := fun _ => VlF) vTmp vConst vGlobal vFunc x t K
def valsK (t : Tm) (l : List Operand) (K : List Value → Prop) : Prop :=
  List.rec (motive := fun _ => (List Value → Prop) → Prop) (fun K => K []) (fun x _ ih K => valK t x fun v => ih fun l => K (v :: l)) l K

def isAgg (d : TypeDesc) : Bool := match d with
  | .struct _ => true
  | .array _ _ => true
  | _ => false

/-- A value of a type out of cells. -/
def ofCellsK (i : TI) (l : List Value) (K : Value → Prop) : Prop := match isAgg i.kind with
  | true => takeK i.size l fun c => K (.agg ⟨c⟩)
  | false => match l with
    | v :: _ => K v
    | [] => False
/-- The cells of a row from a place on. -/
def cellsAtK (h : Hp) (r o : Nat) (K : List Value → Prop) : Prop := rowK h r fun x => match x with
  | .cells cs _ _ => dropK o cs.toList K
  | _ => False
def loadK (B : Tb) (h : Hp) (t : Nat) (a : Value) (K : Value → Prop) : Prop := match a with
  | .pointer (some ⟨r, o, none⟩) => tyK B t fun i => cellsAtK h r o fun l => ofCellsK i l K
  | .pointer (some ⟨g, o, some _⟩) => match Nat.ble GL g with
    | true => False
    | false => tyK B t fun i => cellsAtK h g o fun l => ofCellsK i l K
  | _ => False
def storeK (h : Hp) (r o : Nat) (vs : List Value) (K : Hp → Prop) : Prop := rowK h r fun x => match x with
  | .cells cs e (0, 0) => overAtK o vs cs.toList fun l => setK h r (some (.cells ⟨l⟩ e (0, 0))) K
  | _ => False

def natK (v : Value) (K : Nat → Prop) : Prop := match v with
  | .int _ (.ofNat n) => K n
  | _ => False
def i64 (n : Nat) : Value := .int .i64 (.ofNat n)
def ikN (k : IntKind) : Nat := match k with
  | .i8 => 0 | .i16 => 1 | .i32 => 2 | .i64 => 3 | .u8 => 4 | .u16 => 5 | .u32 => 6 | .u64 => 7
/-- One more than the greatest of a kind. -/
def ikMax (k : IntKind) : Nat := match k with
  | .i8 => 128 | .i16 => 32768 | .i32 => 2147483648 | .i64 => 9223372036854775808
  | .u8 => 256 | .u16 => 65536 | .u32 => 4294967296 | .u64 => 18446744073709551616
/-- A number of a kind: only one that fits is taken. -/
def fitK (k : IntKind) (n : Int) (K : Value → Prop) : Prop := match n with
  | .ofNat n => match Nat.ble (ikMax k) n with
    | true => False
    | false => fN n fun n => K (.int k (.ofNat n))
  | .negSucc n => match Nat.ble 4 (ikN k) with
    | true => False
    | false => match Nat.ble (ikMax k) n with
      | true => False
      | false => fN n fun n => K (.int k (.negSucc n))

/-- A number, wrapped if it does not fit. -/
def wrapK (k : IntKind) (n : Int) (K : Value → Prop) : Prop := match n with
  | .ofNat m => match Nat.ble (ikMax k) m with
    | true => fI (k.wrap (.ofNat m)) fun r => K (.int k r)
    | false => fN m fun m => K (.int k (.ofNat m))
  | .negSucc m => fI (k.wrap (.negSucc m)) fun r => K (.int k r)
def bytesStep (K : Bool → Prop) (ih : List UInt8 → Prop) (a b : UInt8) (y : List UInt8) : Prop := Bool.rec (motive := fun _ => Prop) (K false) (ih y) (Nat.beq a.toNat b.toNat)
def bytesEqK (x y : List UInt8) (K : Bool → Prop) : Prop :=
  List.rec (motive := fun _ => List UInt8 → Prop) (fun l => List.rec (motive := fun _ => Prop) (K true) (fun _ _ _ => K false) l)
    (fun a _ ih l => List.rec (motive := fun _ => Prop) (K false) (fun b y _ => bytesStep K ih a b y) l) x y
def intEq (a b : Int) : Bool := match a with
  | .ofNat a => match b with
    | .ofNat b => Nat.beq a b
    | .negSucc _ => false
  | .negSucc a => match b with
    | .ofNat _ => false
    | .negSucc b => Nat.beq a b
def intLt (a b : Int) : Bool := match a with
  | .ofNat a => match b with
    | .ofNat b => Nat.ble (Nat.succ a) b
    | .negSucc _ => false
  | .negSucc a => match b with
    | .ofNat _ => true
    | .negSucc b => Nat.ble (Nat.succ b) a
def notB (b : Bool) : Bool := match b with
  | true => false
  | false => true
/-- A test's answer, reckoned. -/
def fB (b : Bool) (K : Bool → Prop) : Prop := match b with
  | true => K true
  | false => K false
def noO {α : Type} (o : Option α) : Bool := match o with
  | none => true
  | some _ => false

/-- Is a value just this symbol? -/
def symSame (r m : Nat) (y : Value) (K : Prop) : Prop := match y with
  | .complex .f32 r' m' => match Nat.beq r r' with
    | true => match Nat.beq m m' with
      | true => K
      | false => False
    | false => False
  | _ => False
/-- Is a value just this number? -/
def linSame (n : Nat) (y : Value) (K : Prop) : Prop := match y with
  | .float .f32 m => match Nat.beq n m with
    | true => K
    | false => False
  | _ => False
/-- Are two values of a type the same? -/
def sameK (B : Tb) (f t : Nat) (x y : Value) (K : Bool → Prop) : Prop :=
  Nat.rec (motive := fun _ => Nat → Value → Value → (Bool → Prop) → Prop) (fun _ _ _ _ => False)
    (fun _ ih t x y K => tyK B t fun i => match i.kind with
      | .bool => match x with
        | .bool a => match y with
          | .bool b => match a with
            | true => fB b K
            | false => fB (notB b) K
          | _ => False
        | _ => False
      | .int _ => match x with
        | .int k a => match y with
          | .int k' b => match Nat.beq (ikN k) (ikN k') with
            | true => fB (intEq a b) K
            | false => False
          | _ => False
        | .complex .f32 r m => match symInt m with
          | true => symSame r m y (K true)
          | false => False
        | .float .f32 n => linSame n y (K true)
        | _ => False
      | .string => match x with
        | .string a => match y with
          | .string b => bytesEqK a.data.toList b.data.toList K
          | _ => False
        | .complex .f32 r m => match symStr m with
          | true => symSame r m y (K true)
          | false => False
        | _ => False
      | .pointer _ => match x with
        | .pointer none => match y with
          | .pointer b => fB (noO b) K
          | _ => False
        | .pointer (some _) => match y with
          | .pointer none => K false
          | _ => False
        | _ => False
      | .interface _ => match x with
        | .nilIface => match y with
          | .nilIface => K true
          | .iface _ _ => K false
          | _ => False
        | .iface _ _ => match y with
          | .nilIface => K false
          | _ => False
        | _ => False
      | .slice _ => match x with
        | .slice none _ _ => match y with
          | .slice b _ _ => fB (noO b) K
          | _ => False
        | .slice (some _) _ _ => match y with
          | .slice none _ _ => K false
          | _ => False
        | _ => False
      | .map _ _ => match x with
        | .map none => match y with
          | .map b => fB (noO b) K
          | _ => False
        | .map (some _) => match y with
          | .map none => K false
          | _ => False
        | _ => False
      | .func _ _ _ => match x with
        | .nilFunc => match y with
          | .nilFunc => K true
          | .func _ _ _ => K false
          | _ => False
        | .func _ _ _ => match y with
          | .nilFunc => K false
          | _ => False
        | _ => False
      | .struct fs => match i.eq with
        | true => match x with
          | .agg xs => match y with
            | .agg ys => List.rec (motive := fun _ => Prop) (K true)
                (fun f _ rest => tyK B f.type fun j => dropK f.offset xs.toList fun a => dropK f.offset ys.toList fun b => ofCellsK j a fun a => ofCellsK j b fun b => ih f.type a b fun c => match c with
                  | true => rest
                  | false => K false) fs.toList
            | _ => False
          | _ => False
        | false => False
      | _ => False) f t x y K

/-- An operation on two numbers. -/
def intOpK (op : BinOp) (k : IntKind) (a b : Int) (K : Value → Prop) : Prop := match op with
  | .add => fitK k (Int.add a b) K
  | .sub => fitK k (Int.sub a b) K
  | .mul => fitK k (Int.mul a b) K
  | .quo => match intEq b 0 with
    | true => False
    | false => fitK k (Int.tdiv a b) K
  | .rem => match intEq b 0 with
    | true => False
    | false => fI (Int.tmod a b) fun n => K (.int k n)
  | .eql => fB (intEq a b) fun c => K (.bool c)
  | .neq => fB (intEq a b) fun c => fB (notB c) fun c => K (.bool c)
  | .lss => fB (intLt a b) fun c => K (.bool c)
  | .gtr => fB (intLt b a) fun c => K (.bool c)
  | .leq => fB (intLt b a) fun c => fB (notB c) fun c => K (.bool c)
  | .geq => fB (intLt a b) fun c => fB (notB c) fun c => K (.bool c)
  | .and => fI (k.wrap ((BitVec.ofInt k.bits a &&& BitVec.ofInt k.bits b).toNat : Int)) fun r => K (.int k r)
  | .or => fI (k.wrap ((BitVec.ofInt k.bits a ||| BitVec.ofInt k.bits b).toNat : Int)) fun r => K (.int k r)
  | .xor => fI (k.wrap ((BitVec.ofInt k.bits a ^^^ BitVec.ofInt k.bits b).toNat : Int)) fun r => K (.int k r)
  | .andNot => fI (k.wrap ((BitVec.ofInt k.bits a &&& ~~~BitVec.ofInt k.bits b).toNat : Int)) fun r => K (.int k r)
  | _ => False
def ikBits (k : IntKind) : Nat := match k with
  | .i8 => 8 | .i16 => 16 | .i32 => 32 | .i64 => 64 | .u8 => 8 | .u16 => 16 | .u32 => 32 | .u64 => 64
/-- A shift of a number that is not below 0. -/
def shiftK (left : Bool) (k : IntKind) (a b : Int) (K : Value → Prop) : Prop := match a with
  | .ofNat m => match b with
    | .ofNat n => match Nat.ble n (ikBits k) with
      | true => match left with
        | true => fitK k (.ofNat (Nat.mul m (Nat.pow 2 n))) K
        | false => fN (Nat.div m (Nat.pow 2 n)) fun r => K (.int k (.ofNat r))
      | false => False
    | _ => False
  | _ => False
def strOpK (op : BinOp) (a b : ByteArray) (K : Value → Prop) : Prop := match op with
  | .eql => bytesEqK a.data.toList b.data.toList fun c => K (.bool c)
  | .neq => bytesEqK a.data.toList b.data.toList fun c => fB (notB c) fun c => K (.bool c)
  | .add => appK a.data.toList b.data.toList fun l => lenK l fun n => match Nat.ble n MOST with
    | true => K (.string ⟨⟨l⟩⟩)
    | false => False
  | _ => False
/-- Two values that are held against one another; two nil interface values only where one of them is the word nil. -/
def eqK (B : Tb) (lit : Bool) (t : Nat) (x y : Value) (K : Bool → Prop) : Prop := match x with
  | .nilIface => match lit with
    | true => sameK B 20 t x y K
    | false => match y with
      | .iface _ _ => sameK B 20 t x y K
      | _ => False
  | _ => sameK B 20 t x y K
/-- A number below a length that is not told. -/
def belowLen (op : BinOp) (k : IntKind) (a : Int) (m : Nat) (K : Value → Prop) : Prop := match op with
  | .lss => match k with
    | .i64 => match a with
      | .ofNat a => match Nat.beq m 6 with
        | true => match Nat.ble LONG a with
          | true => False
          | false => K (.bool true)
        | false => False
      | _ => False
    | _ => False
  | _ => False
/-- A length that is not told, held against a number. -/
def lenBelow (op : BinOp) (m : Nat) (y : Value) (K : Value → Prop) : Prop := match op with
  | .lss => match y with
    | .int .i64 (.ofNat a) => match Nat.beq m 6 with
      | true => match Nat.ble a LONG with
        | true => K (.bool false)
        | false => False
      | false => False
    | _ => False
  | _ => False
/-- A symbol and a number. -/
def symLin (op : BinOp) (r m : Nat) (y : Value) (K : Value → Prop) : Prop := match m with
  | 0 => match y with
    | .int .i64 b => linL op r 1 0 b K
    | _ => False
  | _ + 1 => False
/-- A symbol held against another value. -/
def symOpK (k : FloatKind) (op : BinOp) (r m : Nat) (y : Value) (K : Value → Prop) : Prop := match k with
  | .f64 => False
  | .f32 => match op with
    | .eql => match Nat.ble m 6 with
      | true => symSame r m y (K (.bool true))
      | false => False
    | .neq => match Nat.ble m 6 with
      | true => symSame r m y (K (.bool false))
      | false => False
    | .add => symLin .add r m y K
    | .sub => symLin .sub r m y K
    | .mul => symLin .mul r m y K
    | op => lenBelow op m y K
/-- A number that hangs on another one, held against a value. -/
def linOpK (op : BinOp) (n : Nat) (y : Value) (K : Value → Prop) : Prop := match op with
  | .eql => linSame n y (K (.bool true))
  | .neq => linSame n y (K (.bool false))
  | op => match y with
    | .int .i64 b => linL op (lR n) (lA n) (lB n) b K
    | _ => False
def isF32 (k : FloatKind) : Bool := match k with
  | .f32 => true
  | .f64 => false
def isI64 (k : IntKind) : Bool := match k with
  | .i64 => true
  | _ => false
/-- A number, and a symbol behind it. -/
def knownSym (op : BinOp) (k : IntKind) (a : Int) (r m : Nat) (K : Value → Prop) : Prop := match op with
  | .lss => belowLen .lss k a m K
  | op => match isI64 k with
    | true => match m with
      | 0 => linR op a r 1 0 K
      | _ + 1 => False
    | false => False
/-- A number, and one that hangs on another one. -/
def knownLin (op : BinOp) (k : IntKind) (a : Int) (f : FloatKind) (n : Nat) (K : Value → Prop) : Prop := match isF32 f with
  | true => match isI64 k with
    | true => linR op a (lR n) (lA n) (lB n) K
    | false => False
  | false => False
def binOpK (B : Tb) (lit : Bool) (op : BinOp) (t : Nat) (x y : Value) (K : Value → Prop) : Prop := match x with
  | .complex k r m => symOpK k op r m y K
  | .float k n => match isF32 k with
    | true => linOpK op n y K
    | false => False
  | .int k a => match y with
    | .complex .f32 r m => knownSym op k a r m K
    | .float f n => knownLin op k a f n K
    | .int k' b => match op with
      | .shl => shiftK true k a b K
      | .shr => shiftK false k a b K
      | op => match Nat.beq (ikN k) (ikN k') with
        | true => intOpK op k a b K
        | false => False
    | _ => False
  | .string a => match y with
    | .string b => strOpK op a b K
    | _ => False
  | x => match op with
    | .eql => eqK B lit t x y fun c => K (.bool c)
    | .neq => eqK B lit t x y fun c => fB (notB c) fun c => K (.bool c)
    | _ => False

/-- The parts of a struct that is built. -/
def fillSK (B : Tb) (t : Tm) (fs : List Field) (ps : List (Nat × Operand)) (l : List Value) (K : List Value → Prop) : Prop :=
  List.rec (motive := fun _ => List Value → Prop) (fun l => K l)
    (fun p _ ih l => nthK fs p.1 fun f => tyK B f.type fun i => valK t p.2 fun v => cellsK v fun c => lenK c fun n => match Nat.beq n i.size with
      | true => overAtK f.offset c l fun l => ih l
      | false => False) ps l
/-- The parts of an array. -/
def fillAK (t : Tm) (size : Nat) (ps : List (Nat × Operand)) (l : List Value) (K : List Value → Prop) : Prop :=
  List.rec (motive := fun _ => List Value → Prop) (fun l => K l)
    (fun p _ ih l => valK t p.2 fun v => cellsK v fun c => lenK c fun n => match Nat.beq n size with
      | true => overAtK (Nat.mul p.1 size) c l fun l => ih l
      | false => False) ps l

/-- Is a type one of numbers, texts or tests? -/
def plainK (B : Tb) (t : Nat) (K : Prop) : Prop := tyK B t fun i => match i.kind with
  | .bool => K
  | .int _ => K
  | .string => K
  | _ => False
/-- Is a value a key: of such a type, or of a struct of such? -/
def keyK (B : Tb) (t : Nat) (k : Value) (K : Prop) : Prop := tyK B t fun i => match i.kind with
  | .bool => K
  | .int _ => K
  | .string => K
  | .struct fs => match k with
    | .agg xs => List.rec (motive := fun _ => Prop) K (fun f _ rest => plainK B f.type (dropK f.offset xs.toList fun l => match l with
      | [] => False
      | _ :: _ => rest)) fs.toList
    | _ => False
  | _ => False
/-- An entry of a map, by its key. -/
def findK (B : Tb) (kt : Nat) (k : Value) (es : List MapEntry) (K : Option Value → Prop) : Prop :=
  List.rec (motive := fun _ => Prop) (K none) (fun e _ ih => sameK B 20 kt k e.key fun c => match c with
    | true => K (some e.val)
    | false => ih) es
/-- The entries of a map with another one: is it a new one? -/
def updK (B : Tb) (kt : Nat) (k v : Value) (clock : Nat) (es : List MapEntry) (K : List MapEntry → Bool → Prop) : Prop :=
  List.rec (motive := fun _ => (List MapEntry → Bool → Prop) → Prop) (fun K => K [⟨k, v, clock⟩] true)
    (fun e es ih K => sameK B 20 kt k e.key fun c => match c with
      | true => match simple k with
        | true => K (⟨k, v, e.born⟩ :: es) false
        | false => False
      | false => ih fun l b => K (e :: l) b) es K

/-- The zero of a type. -/
def zeroK (i : TI) (K : Value → Prop) : Prop := match isAgg i.kind with
  | true => K (.agg ⟨i.zero⟩)
  | false => match i.zero with
    | v :: [] => K v
    | _ => False

def toBytesK (l : List Value) (K : List UInt8 → Prop) : Prop :=
  List.rec (motive := fun _ => (List UInt8 → Prop) → Prop) (fun K => K []) (fun v _ ih K => match v with
    | .int .u8 (.ofNat n) => match Nat.ble 256 n with
      | true => False
      | false => ih fun t => K (UInt8.ofNat n :: t)
    | _ => False) l K
def ofBytesK (l : List UInt8) (K : List Value → Prop) : Prop :=
  List.rec (motive := fun _ => (List Value → Prop) → Prop) (fun K => K []) (fun b _ ih K => fN b.toNat fun n => ih fun t => K (.int .u8 (.ofNat n) :: t)) l K

/-- The first cells of what is appended: so many elements of so many cells. -/
def firstK (h : Hp) (size n : Nat) (v : Value) (K : List Value → Prop) : Prop := match v with
  | .slice (some ⟨r, o, none⟩) _ _ => fN (Nat.mul n size) fun k => match k with
    | 0 => K []
    | k + 1 => cellsAtK h r o fun l => takeK (Nat.succ k) l K
  | .slice none _ _ => match n with
    | 0 => K []
    | _ + 1 => False
  | .slice (some ⟨_, _, some _⟩) _ _ => match n with
    | 0 => K []
    | _ + 1 => False
  | .string s => match size with
    | 1 => ofBytesK s.data.toList fun l => takeK n l K
    | _ => False
  | _ => False
def lenVK (v : Value) (K : Nat → Prop) : Prop := match v with
  | .slice _ n _ => K n
  | .string s => lenK s.data.toList K
  | _ => False

/-- A new row behind an append: its room is not known. -/
def grownK (h : Hp) (e : Nat) (cs : List Value) (need : Nat) (K : KV) : Prop :=
  fN need fun need => newK h (.cells ⟨cs⟩ e) fun r h => K (.slice (some ⟨r, 0, none⟩) need TOP) h
/-- An append. Where the room is not known the elder row is let go: the new one may lie in it. -/
def appendK (B : Tb) (st : Nat) (s x : Value) (h : Hp) (K : KV) : Prop := tyK B st fun i => match i.kind with
  | .slice e => tySK B e fun i => match s with
    | .slice base sl sc => lenVK x fun n => firstK h i.size n x fun new => firstK h i.size sl s fun old => fN (Nat.add sl n) fun need => match Nat.ble (Nat.mul need (Nat.succ (Nat.add i.bytes i.size))) MOST with
      | true => match new with
        | [] => match n with
          | 0 => match Nat.beq sc TOP with
            | true => K s h
            | false => match Nat.ble sl sc with
              | true => K s h
              | false => False
          | _ + 1 => False
        | v :: new => match Nat.beq sc TOP with
          | true => match base with
            | some ⟨r, _, none⟩ => rowK h r fun o => match o with
              | .cells _ e' (0, 0) => match Nat.beq e e' with
                | true => appK old (v :: new) fun cs => setK h r none fun h => grownK h e cs need K
                | false => False
              | _ => False
            | some ⟨r, _, some _⟩ => match sl with
              | 0 => rowK h r fun o => match o with
                | .cells _ e' (0, 0) => match Nat.beq e e' with
                  | true => setK h r none fun h => grownK h e (v :: new) need K
                  | false => False
                | _ => False
              | _ + 1 => False
            | _ => False
          | false => match Nat.ble need sc with
            | true => match base with
              | some ⟨r, o, none⟩ => storeK h r (Nat.add o (Nat.mul sl i.size)) (v :: new) fun h => K (.slice base need sc) h
              | _ => False
            | false => appK old (v :: new) fun cs => grownK h e cs need K
      | false => False
    | _ => False
  | _ => False

def ptr (r o : Nat) : Value := .pointer (some ⟨r, o, none⟩)

def oPick (c a b : Value) (h : Hp) (K : KV) : Prop := match c with
  | .bool true => K a h
  | .bool false => K b h
  | _ => False
def oAlloc (B : Tb) (e : Nat) (h : Hp) (K : KV) : Prop := tyK B e fun i => newK h (.cells ⟨i.zero⟩ e) fun r h => K (ptr r 0) h
def oBox (B : Tb) (e : Nat) (v : Value) (h : Hp) (K : KV) : Prop := tySK B e fun _ => cellsK v fun c => newK h (.cells ⟨c⟩ e) fun r h => K (ptr r 0) h
def oBuild (B : Tb) (t : Tm) (ty : Nat) (parts : Array (Nat × Operand)) (h : Hp) (K : KV) : Prop := tyK B ty fun i => match i.kind with
  | .struct fs => fillSK B t fs.toList parts.toList i.zero fun l => K (.agg ⟨l⟩) h
  | .array _ e => tyK B e fun j => fillAK t j.size parts.toList i.zero fun l => K (.agg ⟨l⟩) h
  | _ => False
def oBuildSlice (B : Tb) (t : Tm) (ty n : Nat) (parts : Array (Nat × Operand)) (h : Hp) (K : KV) : Prop := tyK B ty fun i => match i.kind with
  | .slice e => tySK B e fun j => match Nat.ble (Nat.mul n (Nat.succ j.size)) 1000000 with
    | true => repsK j.zero n fun z => fillAK t j.size parts.toList z fun l => newK h (.cells ⟨l⟩ e) fun r h => K (.slice (some ⟨r, 0, none⟩) n n) h
    | false => False
  | _ => False
def oLoad (B : Tb) (ty : Nat) (a : Value) (h : Hp) (K : KV) : Prop := loadK B h ty a fun v => K v h
def oStore (B : Tb) (ty : Nat) (a x : Value) (h : Hp) (K : KV) : Prop := match a with
  | .pointer (some ⟨r, o, none⟩) => tyK B ty fun i => cellsK x fun c => lenK c fun n => match Nat.beq n i.size with
    | true => storeK h r o c fun h => K undef h
    | false => False
  | _ => False
def oNilCheck (x : Value) (h : Hp) (K : KV) : Prop := match x with
  | .pointer (some _) => K x h
  | .func (.func _) _ _ => K x h
  | _ => False
def oUn (op : UnOp) (x : Value) (h : Hp) (K : KV) : Prop := match op with
  | .not => match x with
    | .bool b => fB (notB b) fun b => K (.bool b) h
    | _ => False
  | .neg => match x with
    | .int k n => fitK k (Int.sub 0 n) fun v => K v h
    | _ => False
  | _ => False
/-- A number of 64 bits stays one. -/
def convI64 (b : TI) (x : Value) (h : Hp) (K : KV) : Prop := match b.kind with
  | .int .i64 => K x h
  | _ => False
def oConvert (B : Tb) (src dst : Nat) (x : Value) (h : Hp) (K : KV) : Prop := tyK B src fun a => tyK B dst fun b => match x with
  | .float .f32 _ => convI64 b x h K
  | .complex .f32 _ m => match Nat.beq m 0 with
    | true => convI64 b x h K
    | false => False
  | .int _ n => match b.kind with
    | .int k => wrapK k n fun v => K v h
    | _ => False
  | .string _ => match b.kind with
    | .string => K x h
    | _ => False
  | .slice _ n _ => match a.kind with
    | .slice e => match b.kind with
      | .string => tyK B e fun i => match i.kind with
        | .int .u8 => firstK h 1 n x fun l => toBytesK l fun b => K (.string ⟨⟨b⟩⟩) h
        | _ => False
      | _ => False
    | _ => False
  | _ => False
def oMakeSlice (B : Tb) (ty : Nat) (l c : Value) (h : Hp) (K : KV) : Prop := tyK B ty fun i => match i.kind with
  | .slice e => tySK B e fun j => natK l fun l => natK c fun c => match Nat.ble l c with
    | true => match Nat.ble (Nat.mul c (Nat.add j.bytes j.size)) 1000000 with
      | true => match Nat.ble c 1000000 with
        | true => repsK j.zero c fun cs => newK h (.cells ⟨cs⟩ e) fun r h => K (.slice (some ⟨r, 0, none⟩) l c) h
        | false => False
      | false => False
    | false => False
  | _ => False
/-- At most so many. -/
def uptoK (v : Value) (n : Nat) (K : Nat → Prop) : Prop := natK v fun m => match Nat.ble m n with
  | true => K m
  | false => False
/-- How far a slice of which that length and that capacity are known may surely reach. -/
def reach (len cap : Nat) : Nat := match Nat.beq cap TOP with
  | true => len
  | false => cap
def maxK (t : Tm) (len cap : Nat) (mx : Option Operand) (K : Nat → Prop) : Prop := match mx with
  | none => K cap
  | some x => valK t x fun v => uptoK v (reach len cap) fun m => match Nat.ble m MOST with
    | true => K m
    | false => False
def highK (t : Tm) (len m : Nat) (hi mx : Option Operand) (K : Nat → Prop) : Prop := match hi with
  | none => match mx with
    | none => K len
    | some _ => False
  | some x => valK t x fun v => uptoK v (reach len m) K
def lowK (t : Tm) (x : Nat) (lo : Option Operand) (K : Nat → Prop) : Prop := match lo with
  | none => K 0
  | some y => valK t y fun v => uptoK v x K
/-- Is there a row of such elements? -/
def someK (h : Hp) (r e : Nat) (no yes : Prop) : Prop := match h with
  | ⟨rows, _, _⟩ => tgetK W rows r fun o => match o with
    | some (.cells _ e' _) => match Nat.beq e e' with
      | true => yes
      | false => no
    | _ => no
def oSliceS (t : Tm) (e size : Nat) (a : Option Addr) (n c : Nat) (lo hi mx : Option Operand) (h : Hp) (K : KV) : Prop := match a with
  | some ⟨r, o, none⟩ => maxK t n c mx fun m => highK t n m hi mx fun x => lowK t x lo fun l => match Nat.beq m TOP with
    | true => match Nat.ble x l with
      | true => match l with
        | 0 => K (.slice (some ⟨r, o, none⟩) 0 TOP) h
        | l + 1 => someK h r e (K (.slice (some ⟨NOWHERE, 0, none⟩) 0 TOP) h) (fN (Nat.add o (Nat.mul (Nat.succ l) size)) fun o => K (.slice (some ⟨r, o, some 0⟩) 0 TOP) h)
      | false => rowK h r fun q => match q with
        | .cells _ e' _ => match Nat.beq e e' with
          | true => fN (Nat.sub x l) fun n => fN (Nat.add o (Nat.mul l size)) fun o => K (.slice (some ⟨r, o, none⟩) n TOP) h
          | false => False
        | _ => False
    | false => match Nat.beq m l with
      | true => match Nat.ble x l with
        | true => K (.slice (some ⟨r, o, none⟩) 0 0) h
        | false => False
      | false => match Nat.beq r NOWHERE with
        | true => False
        | false => match Nat.ble m MOST with
          | true => fN (Nat.sub x l) fun n => fN (Nat.add o (Nat.mul l size)) fun o => fN (Nat.sub m l) fun c => K (.slice (some ⟨r, o, none⟩) n c) h
          | false => False
  | none => match n with
    | 0 => match c with
      | 0 => match mx with
        | none => highK t 0 0 hi none fun x => lowK t x lo fun _ => K (.slice none 0 0) h
        | some z => maxK t 0 0 (some z) fun m => highK t 0 m hi (some z) fun x => lowK t x lo fun _ => match Nat.beq m 0 with
          | true => match Nat.beq x 0 with
            | true => K (.slice none 0 0) h
            | false => False
          | false => False
      | _ + 1 => False
    | _ + 1 => False
  | some ⟨r, o, some p⟩ => maxK t n c mx fun m => highK t n m hi mx fun x => lowK t x lo fun l => match Nat.beq m TOP with
    | true => match l with
      | 0 => K (.slice (some ⟨r, o, some p⟩) n c) h
      | _ + 1 => False
    | false => False
def oSlice (B : Tb) (t : Tm) (ty : Nat) (x : Value) (lo hi mx : Option Operand) (h : Hp) (K : KV) : Prop := tyK B ty fun i => match i.kind with
  | .slice e => match x with
    | .slice a n c => tyK B e fun j => oSliceS t e j.size a n c lo hi mx h K
    | _ => False
  | .string => match x with
    | .string s => match mx with
      | some _ => False
      | none => lenK s.data.toList fun n => highK t n n hi none fun x => lowK t x lo fun l => dropK l s.data.toList fun d => takeK (Nat.sub x l) d fun b => K (.string ⟨⟨b⟩⟩) h
    | _ => False
  | _ => False
def oFieldAddr (B : Tb) (ty : Nat) (x : Value) (f : Nat) (h : Hp) (K : KV) : Prop := tyK B ty fun i => match i.kind with
  | .struct fs => match x with
    | .pointer (some ⟨r, o, none⟩) => nthK fs.toList f fun f => tyK B f.type fun j => match j.size with
      | 0 => False
      | _ + 1 => fN (Nat.add o f.offset) fun o => K (ptr r o) h
    | _ => False
  | _ => False
def oField (B : Tb) (ty : Nat) (x : Value) (f : Nat) (h : Hp) (K : KV) : Prop := tyK B ty fun i => match i.kind with
  | .struct fs => match x with
    | .agg cs => nthK fs.toList f fun f => tyK B f.type fun j => dropK f.offset cs.toList fun l => ofCellsK j l fun v => K v h
    | _ => False
  | _ => False
def oIndexAddr (B : Tb) (ty : Nat) (x ix : Value) (h : Hp) (K : KV) : Prop := tyK B ty fun i => natK ix fun k => match i.kind with
  | .slice e => match x with
    | .slice (some ⟨r, o, none⟩) n _ => tyK B e fun j => match Nat.ble n k with
      | false => fN (Nat.add o (Nat.mul k j.size)) fun o => K (ptr r o) h
      | true => False
    | .complex .f64 r _ => tyK B e fun j => match Nat.ble LONG k with
      | false => fN (Nat.mul k j.size) fun o => K (ptr r o) h
      | true => False
    | _ => False
  | .array n e => match x with
    | .pointer (some ⟨r, o, none⟩) => tyK B e fun j => match Nat.ble n k with
      | false => fN (Nat.add o (Nat.mul k j.size)) fun o => K (ptr r o) h
      | true => False
    | _ => False
  | _ => False
def oIndex (B : Tb) (ty : Nat) (x ix : Value) (h : Hp) (K : KV) : Prop := tyK B ty fun i => natK ix fun k => match i.kind with
  | .string => match x with
    | .string s => nthK s.data.toList k fun b => fN b.toNat fun n => K (.int .u8 (.ofNat n)) h
    | _ => False
  | .array n e => match x with
    | .agg cs => tyK B e fun j => match Nat.ble n k with
      | false => dropK (Nat.mul k j.size) cs.toList fun l => ofCellsK j l fun v => K v h
      | true => False
    | _ => False
  | _ => False
def tup2 (ok : Bool) (v : Value) (b : Bool) : Value := match ok with
  | true => .tuple #[v, .bool b]
  | false => v
def entriesK (h : Hp) (m : Value) (K : List MapEntry → Prop) : Prop := match m with
  | .map none => K []
  | .map (some r) => rowK h r fun o => match o with
    | .map es _ => K es.toList
    | _ => False
  | _ => False
def oLookup (B : Tb) (ty : Nat) (x k : Value) (c : Bool) (h : Hp) (K : KV) : Prop := tyK B ty fun i => match i.kind with
  | .map kt et => keyK B kt k (entriesK h x fun es => findK B kt k es fun r => match r with
    | some v => K (tup2 c v true) h
    | none => tyK B et fun j => zeroK j fun v => K (tup2 c v false) h)
  | _ => False
def oMapUpdate (B : Tb) (ty : Nat) (m k x : Value) (h : Hp) (K : KV) : Prop := tyK B ty fun i => match i.kind with
  | .map kt _ => match m with
    | .map (some r) => keyK B kt k (rowK h r fun o => match o with
      | .map es clock => updK B kt k x clock es.toList fun l new => match new with
        | true => fN (Nat.succ clock) fun clock => setK h r (some (.map ⟨l⟩ clock)) fun h => K undef h
        | false => setK h r (some (.map ⟨l⟩ clock)) fun h => K undef h
      | _ => False)
    | _ => False
  | _ => False
/-- A walk over a map begins. -/
def oRange (B : Tb) (ty : Nat) (x : Value) (h : Hp) (K : KV) : Prop := tyK B ty fun i => match i.kind with
  | .map _ _ => match x with
    | .map none => newK h (.mapIter none 0 #[] 0) fun r h => K (ptr r 0) h
    | .map (some m) => rowK h m fun o => match o with
      | .map _ clock => newK h (.mapIter (some m) clock #[] clock) fun r h => K (ptr r 0) h
      | _ => False
    | _ => False
  | _ => False
def seenK (n : Nat) (l : List Nat) (K : Bool → Prop) : Prop :=
  List.rec (motive := fun _ => Prop) (K false) (fun m _ ih => match Nat.beq m n with
    | true => K true
    | false => ih) l
/-- The entries that were not yet met. -/
def leftK (seen : List Nat) (es : List MapEntry) (K : List MapEntry → Prop) : Prop :=
  List.rec (motive := fun _ => (List MapEntry → Prop) → Prop) (fun K => K []) (fun e _ ih K => seenK e.born seen fun c => match c with
    | true => ih K
    | false => ih fun l => K (e :: l)) es K
/-- The first entry, if there is one, is an elder one. -/
def oldK (clock : Nat) (es : List MapEntry) (K : Prop) : Prop := match es with
  | [] => K
  | e :: _ => match Nat.ble clock e.born with
    | true => False
    | false => K
/-- Of each of some entries. -/
def eachK (l : List MapEntry) (K : MapEntry → Prop) : Prop :=
  List.rec (motive := fun _ => Prop) True (fun e l ih => match l with
    | [] => K e
    | _ :: _ => And (K e) ih) l
/-- The next entry: any one of those that are left. -/
def oNext (x : Value) (h : Hp) (K : KV) : Prop := match x with
  | .pointer (some ⟨r, 0, none⟩) => rowK h r fun o => match o with
    | .mapIter none _ _ _ => K (.tuple #[.bool false]) h
    | .mapIter (some m) since seen last => rowK h m fun o => match o with
      | .map es clock => match Nat.beq since clock with
        | true => match Nat.beq last clock with
          | true => oldK clock es.toList (leftK seen.toList es.toList fun l => match l with
            | [] => K (.tuple #[.bool false]) h
            | e :: l => eachK (e :: l) fun e => match Nat.ble clock e.born with
              | true => False
              | false => appK seen.toList [e.born] fun seen => setK h r (some (.mapIter (some m) since ⟨seen⟩ last)) fun h => K (.tuple #[.bool true, e.key, e.val]) h)
          | false => False
        | false => False
      | _ => False
    | _ => False
  | _ => False
def lastK (l : List Nat) (K : Nat → Prop) : Prop :=
  List.rec (motive := fun _ => Prop) False (fun n l ih => match l with
    | [] => K n
    | _ :: _ => ih) l
def bornK (n : Nat) (es : List MapEntry) (K : MapEntry → Prop) : Prop :=
  List.rec (motive := fun _ => Prop) False (fun e _ ih => match Nat.beq e.born n with
    | true => K e
    | false => ih) es
/-- The entry that was met last. -/
def oEntry (x : Value) (h : Hp) (K : KV) : Prop := match x with
  | .pointer (some ⟨r, 0, none⟩) => rowK h r fun o => match o with
    | .mapIter (some m) _ seen stepped => rowK h m fun o => match o with
      | .map es clock => match Nat.beq clock stepped with
        | true => lastK seen.toList fun n => bornK n es.toList fun e => K (.tuple #[e.key, e.val]) h
        | false => False
      | _ => False
    | _ => False
  | _ => False
def oExtract (x : Value) (i : Nat) (h : Hp) (K : KV) : Prop := match x with
  | .tuple vs => nthK vs.toList i fun v => K v h
  | _ => False

def oLen (B : Tb) (ty : Nat) (x : Value) (h : Hp) (K : KV) : Prop := tyK B ty fun i => match i.kind with
  | .string => match x with
    | .string s => lenK s.data.toList fun n => K (i64 n) h
    | _ => False
  | .slice _ => match x with
    | .slice _ n _ => K (i64 n) h
    | .complex .f64 _ q => K (.complex .f32 q 6) h
    | _ => False
  | .array n _ => K (i64 n) h
  | .map _ _ => entriesK h x fun es => lenK es fun n => K (i64 n) h
  | _ => False
def oCap (B : Tb) (ty : Nat) (x : Value) (h : Hp) (K : KV) : Prop := tyK B ty fun i => match i.kind with
  | .slice _ => match x with
    | .slice _ _ n => match Nat.beq n TOP with
      | true => False
      | false => K (i64 n) h
    | _ => False
  | _ => False
/-- An append of so many zeros to no row at all. -/
def oAppendZeros (B : Tb) (st : Nat) (s x : Value) (h : Hp) (K : KV) : Prop := tyK B st fun i => match i.kind with
  | .slice e => tySK B e fun i => natK x fun n => match s with
    | .slice none 0 0 => match n with
      | 0 => K s h
      | m + 1 => match Nat.ble (Nat.mul (Nat.succ m) (Nat.succ (Nat.add i.bytes i.size))) MOST with
        | true => match Nat.ble 1 i.size with
          | true => repsK i.zero (Nat.succ m) fun cs => grownK h e cs (Nat.succ m) K
          | false => False
        | false => False
    | _ => False
  | _ => False
def oAppend (B : Tb) (st xt : Nat) (s x : Value) (h : Hp) (K : KV) : Prop := tyK B xt fun i => match i.kind with
  | .int _ => oAppendZeros B st s x h K
  | .slice _ => appendK B st s x h K
  | .string => appendK B st s x h K
  | _ => False
def oMin (a b : Value) (h : Hp) (K : KV) : Prop := match a with
  | .int k x => match b with
    | .int _ y => match intLt y x with
      | true => K (.int k y) h
      | false => K (.int k x) h
    | _ => False
  | _ => False
def oMax (a b : Value) (h : Hp) (K : KV) : Prop := match a with
  | .int k x => match b with
    | .int _ y => match intLt x y with
      | true => K (.int k y) h
      | false => K (.int k x) h
    | _ => False
  | _ => False
/-- So many elements are copied. -/
def copyN (h : Hp) (base : Option Addr) (size n : Nat) (s : Value) (K : KV) : Prop := firstK h size n s fun cs => match cs with
  | [] => K (i64 n) h
  | c :: cs => match base with
    | some ⟨r, o, none⟩ => storeK h r o (c :: cs) fun h => K (i64 n) h
    | _ => False
def oCopy (B : Tb) (dt : Nat) (d s : Value) (h : Hp) (K : KV) : Prop := tyK B dt fun i => match i.kind with
  | .slice e => tySK B e fun j => match d with
    | .slice base dl _ => lenVK s fun sl => match Nat.ble sl dl with
      | true => fN sl fun n => copyN h base j.size n s K
      | false => fN dl fun n => copyN h base j.size n s K
    | _ => False
  | _ => False
def oSliceData (x : Value) (h : Hp) (K : KV) : Prop := match x with
  | .slice none _ _ => K (.pointer none) h
  | .slice (some a) (_ + 1) c => match c with
    | 0 => False
    | _ + 1 => K (.pointer (some a)) h
  | _ => False
/-- A type's method of that name. -/
def findM (name : String) : List Mt → Option Mt
  | [] => none
  | m :: l => match m.name == name with
    | true => some m
    | false => findM name l
/-- What stands at a place: a variable's, or a value's own. -/
def plGet (B : Tb) (h : Hp) (t : Nat) (v : Bool) (x : Value) (K : Value → Prop) : Prop := match v with
  | true => loadK B h t x K
  | false => K x
/-- The place of a field behind a pointer. -/
def faK (B : Tb) (s : FieldStep) (x : Value) (K : Nat → Value → Prop) : Prop := tyK B s.struct fun i => match i.kind with
  | .struct fs => match x with
    | .pointer (some ⟨r, o, none⟩) => nthK fs.toList s.index fun f => tyK B f.type fun j => match j.size with
      | 0 => False
      | _ + 1 => fN (Nat.add o f.offset) fun o => K f.type (.pointer (some ⟨r, o, none⟩))
    | _ => False
  | _ => False
/-- A field of a value. -/
def fvK (B : Tb) (s : FieldStep) (x : Value) (K : Nat → Value → Prop) : Prop := tyK B s.struct fun i => match i.kind with
  | .struct fs => match x with
    | .agg cs => nthK fs.toList s.index fun f => tyK B f.type fun j => dropK f.offset cs.toList fun l => ofCellsK j l fun v => K f.type v
    | _ => False
  | _ => False
def followStep (B : Tb) (h : Hp) (s : FieldStep) (ih : Nat → Bool → Value → Prop) (t : Nat) (v : Bool) (x : Value) : Prop := match s.deref with
  | true => plGet B h t v x fun p => faK B s p fun t y => ih t true y
  | false => match v with
    | true => faK B s x fun t y => ih t true y
    | false => fvK B s x fun t y => ih t false y
/-- The way to a receiver. -/
def followK (B : Tb) (h : Hp) (path : List FieldStep) (t : Nat) (v : Bool) (x : Value) (K : Nat → Bool → Value → Prop) : Prop :=
  List.rec (motive := fun _ => Nat → Bool → Value → Prop) (fun t v x => K t v x) (fun s _ ih t v x => followStep B h s ih t v x) path t v x
/-- The receiver: the place itself, or what stands there, or what stands behind it. -/
def recvK (B : Tb) (h : Hp) (t : Nat) (v : Bool) (x : Value) (p : Bool) (K : Value → Prop) : Prop := tyK B t fun i => match i.kind with
  | .pointer e => match p with
    | true => plGet B h t v x K
    | false => plGet B h t v x fun y => loadK B h e y K
  | _ => match p with
    | true => match v with
      | true => K x
      | false => False
    | false => plGet B h t v x K
/-- Which function a method of an interface's value is, and its receiver. -/
def invK (B : Tb) (h : Hp) (name : String) (x : Value) (K : Nat → Value → Prop) : Prop := match x with
  | .iface t v => tyK B t fun i => match findM name i.ms with
    | some m => followK B h m.path t false v fun t v x => recvK B h t v x m.p fun r => K m.f r
    | none => False
  | _ => False
def taFails (B : Tb) (a : Nat) (ok : Bool) (h : Hp) (K : KV) : Prop := match ok with
  | true => tyK B a fun j => zeroK j fun z => K (.tuple #[z, .bool false]) h
  | false => False
/-- Is an interface's value of a type, and which one? -/
def oAssert (B : Tb) (a : Nat) (ok : Bool) (x : Value) (h : Hp) (K : KV) : Prop := tyK B a fun i => match i.kind with
  | .interface _ => False
  | _ => match x with
    | .nilIface => taFails B a ok h K
    | .iface t v => match Nat.beq t a with
      | true => K (tup2 ok v true) h
      | false => taFails B a ok h K
    | _ => False
def i64K (v : Value) (K : Nat → Prop) : Prop := match v with
  | .int .i64 (.ofNat n) => K n
  | _ => False
def oUnsafeString (B : Tb) (pt : Nat) (p n : Value) (h : Hp) (K : KV) : Prop := i64K n fun n => match p with
  | .pointer none => match n with
    | 0 => K (.string ⟨⟨[]⟩⟩) h
    | _ + 1 => False
  | .pointer (some ⟨r, o, none⟩) => match n with
    | 0 => False
    | n + 1 => tyK B pt fun i => match i.kind with
      | .pointer e => rowK h r fun x => match x with
        | .cells cs e' (0, _) => match Nat.beq e e' with
          | true => tyK B e fun i => match i.kind with
            | .int .u8 => match Nat.ble (Nat.succ n) MOST with
              | false => False
              | true => dropK o cs.toList fun l => takeK (Nat.succ n) l fun l => toBytesK l fun b => setK h r (some (.cells cs e' (0, 1))) fun h => K (.string ⟨⟨b⟩⟩) h
            | _ => False
          | false => False
        | _ => False
      | _ => False
  | _ => False
def oBuiltin (B : Tb) (b : Builtin) (ts : List Nat) (vs : List Value) (h : Hp) (K : KV) : Prop := match vs with
  | x :: [] => match ts with
    | t :: [] => match b with
      | .len => oLen B t x h K
      | .cap => oCap B t x h K
      | .unsafeSliceData => oSliceData x h K
      | _ => False
    | _ => False
  | x :: y :: [] => match ts with
    | t :: u :: [] => match b with
      | .append => oAppend B t u x y h K
      | .min => oMin x y h K
      | .max => oMax x y h K
      | .copy => oCopy B t x y h K
      | .unsafeString => oUnsafeString B t x y h K
      | _ => False
    | _ => False
  | _ => False

def lits (x y : Operand) : Bool := match x with
  | .const _ => true
  | _ => match y with
    | .const _ => true
    | _ => false

/-- What an operation comes to that calls no function of the program. -/
def evOpM (B : Tb) (t : Tm) (op : Op) (h : Hp) (K : KV) : Prop := match op with
  | .move x => valK t x fun x => K x h
  | .assign x => valK t x fun x => K x h
  | .pick c a b => valK t c fun c => valK t a fun a => valK t b fun b => oPick c a b h K
  | .alloc e => oAlloc B e h K
  | .box e x => valK t x fun x => oBox B e x h K
  | .build ty ps => oBuild B t ty ps h K
  | .buildSlice ty n ps => oBuildSlice B t ty n ps h K
  | .load ty a => valK t a fun a => oLoad B ty a h K
  | .store ty a x => valK t a fun a => valK t x fun x => oStore B ty a x h K
  | .nilCheck x => valK t x fun x => oNilCheck x h K
  | .binOp op ty x' y _ => valK t x' fun x => valK t y fun b => binOpK B (lits x' y) op ty x b fun v => K v h
  | .unOp op _ x => valK t x fun x => oUn op x h K
  | .convert a b x => valK t x fun x => oConvert B a b x h K
  | .makeFunc fn a b => valsK t a.toList fun a => valsK t b.toList fun b => K (.func fn ⟨a⟩ ⟨b⟩) h
  | .makeMap _ none => newK h (.map #[] 0) fun r h => K (.map (some r)) h
  | .makeSlice ty l c => valK t l fun l => valK t c fun c => oMakeSlice B ty l c h K
  | .slice ty x lo hi mx => valK t x fun x => oSlice B t ty x lo hi mx h K
  | .fieldAddr ty x f => valK t x fun x => oFieldAddr B ty x f h K
  | .field ty x f => valK t x fun x => oField B ty x f h K
  | .indexAddr ty x i => valK t x fun x => valK t i fun i => oIndexAddr B ty x i h K
  | .index ty x i => valK t x fun x => valK t i fun i => oIndex B ty x i h K
  | .lookup ty x k c => valK t x fun x => valK t k fun k => oLookup B ty x k c h K
  | .mapUpdate ty m k x => valK t m fun m => valK t k fun k => valK t x fun x => oMapUpdate B ty m k x h K
  | .insert ty m k x => valK t m fun m => valK t k fun k => valK t x fun x => oMapUpdate B ty m k x h K
  | .range ty x => valK t x fun x => oRange B ty x h K
  | .next x false => valK t x fun x => oNext x h K
  | .entry x => valK t x fun x => oEntry x h K
  | .makeInterface ty x => valK t x fun x => tyK B ty fun i => match i.kind with
    | .interface _ => False
    | _ => K (.iface ty x) h
  | .extract x i => valK t x fun x => oExtract x i h K
  | .typeAssert x _ a ok => valK t x fun x => oAssert B a ok x h K
  | _ => False

/-- What an operation comes to, each by a word of its own: so the kernel has little to put in. -/
abbrev OpF := Tb → Tm → Hp → KV → Prop
def fMove (x : Operand) : OpF := fun _ t h K => valK t x fun x => K x h
def fAssign (x : Operand) : OpF := fun _ t h K => valK t x fun x => K x h
def fPick (c a b : Operand) : OpF := fun _ t h K => valK t c fun c => valK t a fun a => valK t b fun b => oPick c a b h K
def fAlloc (e : Nat) : OpF := fun B _ h K => oAlloc B e h K
def fBox (e : Nat) (x : Operand) : OpF := fun B t h K => valK t x fun x => oBox B e x h K
def fBuild (ty : Nat) (ps : Array (Nat × Operand)) : OpF := fun B t h K => oBuild B t ty ps h K
def fBuildSlice (ty n : Nat) (ps : Array (Nat × Operand)) : OpF := fun B t h K => oBuildSlice B t ty n ps h K
def fLoad (ty : Nat) (a : Operand) : OpF := fun B t h K => valK t a fun a => oLoad B ty a h K
def fStore (ty : Nat) (a x : Operand) : OpF := fun B t h K => valK t a fun a => valK t x fun x => oStore B ty a x h K
def fNilCheck (x : Operand) : OpF := fun _ t h K => valK t x fun x => oNilCheck x h K
def fBinOp (op : BinOp) (ty : Nat) (x' y : Operand) : OpF := fun B t h K => valK t x' fun x => valK t y fun b => binOpK B (lits x' y) op ty x b fun v => K v h
def fUnOp (op : UnOp) (x : Operand) : OpF := fun _ t h K => valK t x fun x => oUn op x h K
def fConvert (a b : Nat) (x : Operand) : OpF := fun B t h K => valK t x fun x => oConvert B a b x h K
def fMakeFunc (fn : Fn) (a b : Array Operand) : OpF := fun _ t h K => valsK t a.toList fun a => valsK t b.toList fun b => K (.func fn ⟨a⟩ ⟨b⟩) h
def fMakeMap : OpF := fun _ _ h K => newK h (.map #[] 0) fun r h => K (.map (some r)) h
def fMakeSlice (ty : Nat) (l c : Operand) : OpF := fun B t h K => valK t l fun l => valK t c fun c => oMakeSlice B ty l c h K
def fSlice (ty : Nat) (x : Operand) (lo hi mx : Option Operand) : OpF := fun B t h K => valK t x fun x => oSlice B t ty x lo hi mx h K
def fFieldAddr (ty : Nat) (x : Operand) (f : Nat) : OpF := fun B t h K => valK t x fun x => oFieldAddr B ty x f h K
def fField (ty : Nat) (x : Operand) (f : Nat) : OpF := fun B t h K => valK t x fun x => oField B ty x f h K
def fIndexAddr (ty : Nat) (x i : Operand) : OpF := fun B t h K => valK t x fun x => valK t i fun i => oIndexAddr B ty x i h K
def fIndex (ty : Nat) (x i : Operand) : OpF := fun B t h K => valK t x fun x => valK t i fun i => oIndex B ty x i h K
def fLookup (ty : Nat) (x k : Operand) (c : Bool) : OpF := fun B t h K => valK t x fun x => valK t k fun k => oLookup B ty x k c h K
def fMapUpdate (ty : Nat) (m k x : Operand) : OpF := fun B t h K => valK t m fun m => valK t k fun k => valK t x fun x => oMapUpdate B ty m k x h K
def fInsert (ty : Nat) (m k x : Operand) : OpF := fun B t h K => valK t m fun m => valK t k fun k => valK t x fun x => oMapUpdate B ty m k x h K
def fRange (ty : Nat) (x : Operand) : OpF := fun B t h K => valK t x fun x => oRange B ty x h K
def fNext (x : Operand) : OpF := fun _ t h K => valK t x fun x => oNext x h K
def fEntry (x : Operand) : OpF := fun _ t h K => valK t x fun x => oEntry x h K
def fMakeInterface (ty : Nat) (x : Operand) : OpF := fun B t h K => valK t x fun x => tyK B ty fun i => match i.kind with
    | .interface _ => False
    | _ => K (.iface ty x) h
def fExtract (x : Operand) (i : Nat) : OpF := fun _ t h K => valK t x fun x => oExtract x i h K
def fAssert (x : Operand) (a : Nat) (ok : Bool) : OpF := fun B t h K => valK t x fun x => oAssert B a ok x h K
def fNone : OpF := fun _ _ _ _ => False
def opFn (op : Op) : OpF := match op with
  | .move x => fMove x
  | .assign x => fAssign x
  | .pick c a b => fPick c a b
  | .alloc e => fAlloc e
  | .box e x => fBox e x
  | .build ty ps => fBuild ty ps
  | .buildSlice ty n ps => fBuildSlice ty n ps
  | .load ty a => fLoad ty a
  | .store ty a x => fStore ty a x
  | .nilCheck x => fNilCheck x
  | .binOp op ty x' y _ => fBinOp op ty x' y
  | .unOp op _ x => fUnOp op x
  | .convert a b x => fConvert a b x
  | .makeFunc fn a b => fMakeFunc fn a b
  | .makeMap _ none => fMakeMap 
  | .makeSlice ty l c => fMakeSlice ty l c
  | .slice ty x lo hi mx => fSlice ty x lo hi mx
  | .fieldAddr ty x f => fFieldAddr ty x f
  | .field ty x f => fField ty x f
  | .indexAddr ty x i => fIndexAddr ty x i
  | .index ty x i => fIndex ty x i
  | .lookup ty x k c => fLookup ty x k c
  | .mapUpdate ty m k x => fMapUpdate ty m k x
  | .insert ty m k x => fInsert ty m k x
  | .range ty x => fRange ty x
  | .next x false => fNext x
  | .entry x => fEntry x
  | .makeInterface ty x => fMakeInterface ty x
  | .extract x i => fExtract x i
  | .typeAssert x _ a ok => fAssert x a ok
  | _ => fNone
def evOp (B : Tb) (t : Tm) (op : Op) (h : Hp) (K : KV) : Prop := opFn op B t h K

def tmPut (t : Tm) (d : Option Nat) (v : Value) (K : Tm → Prop) : Prop := match d with
  | none => K t
  | some d => Tm.casesOn (motive := fun _ => Prop) t fun n t e m => Bool.rec (motive := fun _ => Prop)
    (Bool.rec (motive := fun _ => Prop) (K ⟨n, t, (d, v) :: e, m⟩) (tputK W t d (some v) fun t => K ⟨n, t, e, m⟩) (bitOf m d)) False (Nat.ble n d)

/-- Is an operation done? -/
def wantedK (ops : List Oper) (t : Tm) (o : Oper) (K : Bool → Prop) : Prop := match o.guard with
  | none => K true
  | some (j, w) => nthK ops j fun p => match p.dst with
    | some d => valK t (.tmp d) fun v => match v with
      | .bool b => match w with
        | true => fB b K
        | false => fB (notB b) K
      | .tuple _ => K false
      | _ => False
    | none => K false

/-- Where it is done, and where it is not. -/
def pickB (x y : Prop) (c : Bool) : Prop := Bool.rec (motive := fun _ => Prop) y x c
def wantB (ops : List Oper) (t : Tm) (o : Oper) (x y : Prop) : Prop := Option.rec (motive := fun _ => Prop) x (fun _ => wantedK ops t o (pickB x y)) o.guard
def argK (n : Nat) (l : List Value) (t : Option (T Value)) (K : Option (T Value) → Prop) : Prop :=
  List.rec (motive := fun _ => Nat → Option (T Value) → Prop) (fun _ t => K t) (fun v _ ih n t => tputK W t n (some v) fun t => fN (Nat.succ n) fun n => ih n t) l n t

def resultsK (B : Tb) (t : Tm) (h : Hp) (l : List ResultVar) (K : List Value → Prop) : Prop :=
  List.rec (motive := fun _ => (List Value → Prop) → Prop) (fun K => K []) (fun x _ ih K => match x with
    | .tmp x => valK t (.tmp x) fun v => ih fun l => K (v :: l)
    | .cell a ty => valK t (.tmp a) fun a => loadK B h ty a fun v => ih fun l => K (v :: l)) l K
def retK (B : Tb) (rs : List ResultVar) (t : Tm) (h : Hp) (K : KV) : Prop := resultsK B t h rs fun l => match l with
  | v :: [] => K v h
  | [] => K (.tuple ⟨l⟩) h
  | _ :: _ :: _ => K (.tuple ⟨l⟩) h

/-- A step of a plan: which operation; 0: it reads alone; 1: an effect; 2: what makes a new row is got ready; 3: that row is named; 4: it reads alone, and is read twice; all that wait for it. -/
structure Step where
  i : Nat
  kd : Nat
  wait : List Nat
/-- A plan: those that make a new row whenever they like, and its steps. -/
structure Rp where
  late : List Nat
  steps : List Step
/-- The plans, by the functions' and the regions' numbers. -/
structure Rg where
  id : Nat
  p : Rp
/-- Of a function: which values of its frames are kept in a table, and the plans of its regions. -/
structure Fp where
  mask : Nat
  regs : List Rg
abbrev Plans := Option (T Fp)
def maskOf (G : Plans) (g : Nat) : Nat := match tget W G g with
  | some f => f.mask
  | none => 0
def findR (id : Nat) : List Rg → Option Rp
  | [] => none
  | r :: l => match Nat.beq r.id id with
    | true => some r.p
    | false => findR id l
/-- What is asked of the code of a function. -/
abbrev KE := Exit → Tm → Hp → Prop

def callN (P : Program) (B : Tb) (G : Plans) (code : Nat → Code → Tm → Hp → KE → Prop) (g : Nat) (args : List Value) (h : Hp) (K : KV) : Prop := nthK (chunk 1000 P.funcs.toList) (Nat.div g 16) fun c => nthK c (Nat.mod g 16) fun fn => match fn.body with
  | some c => lenK args fun n => match Nat.ble n fn.ntmps with
    | true => match Nat.ble fn.ntmps 1000000 with
      | true => argK 0 args none fun t => fN (maskOf G g) fun m => code g c ⟨fn.ntmps, t, [], m⟩ h fun e t h => match e with
        | .normal => retK B fn.results.toList t h K
        | .ret => retK B fn.results.toList t h K
        | _ => False
      | false => False
    | false => False
  | none => False

/-- What a contract tells of a function, or else the call as it is. -/
abbrev ExF := List Value → Hp → KV → Prop → Prop
/-- What is known of calls: a function of two numbers that tells what is left of the first one by the second; one without arguments that answers true; one that marks a builder of type bt by its own place; functions that write to nothing that was there, each with the answer that is held against what it answers; functions of which a contract tells what they do. -/
structure Ov where
  wi : Option Nat
  kn : Option Nat
  cc : Option Nat
  bt : Nat
  qu : List (Nat × Bool)
  ex : List (Nat × ExF)
/-- A number of a row, and no row. -/
def newL (h : Hp) (K : Nat → Hp → Prop) : Prop := match h with
  | ⟨rows, next, low⟩ => match Nat.ble next MOST with
    | true => fN next fun n => K n ⟨rows, Nat.succ n, low⟩
    | false => False
/-- Where a bit is set. -/
def kBit (m c : Nat) (x rest : Prop) : Prop := match bitOf m c with
  | true => And x rest
  | false => rest
/-- Case by case, as the bits tell. -/
def kMask (m : Nat) (h : Hp) (K : KV) : Prop := kBit m 0 (K (.agg ⟨[i64 1, i64 0, .string ⟨⟨[]⟩⟩, i64 0]⟩) h) (kBit m 1 (K (.agg ⟨[i64 2, i64 0, .string ⟨⟨[]⟩⟩, i64 0]⟩) h) (kBit m 2 (K (.agg ⟨[i64 3, i64 0, .string ⟨⟨[65]⟩⟩, i64 0]⟩) h) (kBit m 3 (K (.agg ⟨[i64 6, i64 0, .string ⟨⟨[]⟩⟩, i64 0]⟩) h) (kBit m 4 (K (.agg ⟨[i64 4, i64 0, .string ⟨⟨[65]⟩⟩, i64 9]⟩) h) (kBit m 5 (K (.agg ⟨[i64 3, i64 1, .string ⟨⟨[]⟩⟩, i64 0]⟩) h) (kBit m 6 (K (.agg ⟨[i64 3, i64 1, .string ⟨⟨[65]⟩⟩, i64 0]⟩) h) (kBit m 7 (K (.agg ⟨[i64 3, i64 0, .string ⟨⟨[79, 98, 106, 101, 99, 116]⟩⟩, i64 0]⟩) h) (True))))))))
/-- What is known of a value, told by a number: a symbol; or case by case; or the call as it is. -/
def kindK : ExF := fun args h K N => match args with
  | x :: [] => match x with
    | .complex .f32 _ m => match m with
      | 0 => newL h fun q h => K (.agg ⟨[.complex .f32 q 2, .complex .f32 q 3, .complex .f32 q 4, .complex .f32 q 5]⟩) h
      | 1 => And (K (.agg ⟨[i64 1, i64 0, .string ⟨⟨[]⟩⟩, i64 0]⟩) h) (And (K (.agg ⟨[i64 2, i64 0, .string ⟨⟨[]⟩⟩, i64 0]⟩) h) (And (K (.agg ⟨[i64 3, i64 0, .string ⟨⟨[65]⟩⟩, i64 0]⟩) h) (And (K (.agg ⟨[i64 6, i64 0, .string ⟨⟨[]⟩⟩, i64 0]⟩) h) (And (K (.agg ⟨[i64 4, i64 0, .string ⟨⟨[65]⟩⟩, i64 9]⟩) h) (And (K (.agg ⟨[i64 3, i64 1, .string ⟨⟨[]⟩⟩, i64 0]⟩) h) (And (K (.agg ⟨[i64 3, i64 1, .string ⟨⟨[65]⟩⟩, i64 0]⟩) h) (K (.agg ⟨[i64 3, i64 0, .string ⟨⟨[79, 98, 106, 101, 99, 116]⟩⟩, i64 0]⟩) h)))))))
      | m + 2 => match Nat.ble 14 m with
        | true => fN (Nat.sub m 14) fun m => kMask m h K
        | false => N
    | _ => N
  | _ => N
def ccMark (r e : Nat) (c0 c1 : Value) (h : Hp) (K : KV) : Prop := match c0 with
  | .pointer none => setK h r (some (.cells ⟨[ptr r 0, c1]⟩ e (0, 0))) fun h => K (.tuple #[]) h
  | .pointer (some ⟨r', 0, none⟩) => match Nat.beq r' r with
    | true => K (.tuple #[]) h
    | false => False
  | _ => False
def ccRow (B : Tb) (bt r : Nat) (o : Obj) (h : Hp) (K : KV) : Prop := match o with
  | .cells cs e (0, 0) => match Nat.beq e bt with
    | true => tyK B e fun i => match i.solo with
      | true => match cs.toList with
        | c0 :: c1 :: [] => ccMark r e c0 c1 h K
        | _ => False
      | false => False
    | false => False
  | _ => False
def ccK (B : Tb) (bt : Nat) (args : List Value) (h : Hp) (K : KV) : Prop := match args with
  | x :: [] => match x with
    | .pointer (some ⟨r, 0, none⟩) => rowK h r fun o => ccRow B bt r o h K
    | _ => False
  | _ => False
def isO (o : Option Nat) (g : Nat) : Bool := match o with
  | none => false
  | some k => Nat.beq k g
/-- What a call of the function comes to that a loop hands to what it ranges over. -/
abbrev YF := List Value → Hp → KV → Prop
/-- Those of the loops that are open, the last one first, each by its row's number. -/
abbrev YE := List (Nat × YF)
/-- From this number on calls are of such functions. -/
abbrev YB : Nat := 1000000000000
def findY (r : Nat) : YE → Option YF
  | [] => none
  | p :: l => match Nat.beq p.1 r with
    | true => some p.2
    | false => findY r l
/-- How many numbers a mark of what is left has. -/
abbrev MK : Nat := 65536
/-- What was asked for. -/
def isB (b : Bool) (v : Value) : Prop := match v with
  | .bool true => match b with
    | true => True
    | false => False
  | .bool false => match b with
    | true => False
    | false => True
  | _ => False
/-- No row that is there may be written. -/
def shut (h : Hp) : Hp := match h with
  | ⟨rows, next, _⟩ => ⟨rows, next, next⟩
def quiet (call : Nat → List Value → Hp → KV → Prop) (b : Bool) (g : Nat) (args : List Value) (h : Hp) (K : KV) : Prop := And (call g args (shut h) fun v _ => isB b v) (K (.bool b) h)
def findQ (g : Nat) : List (Nat × Bool) → Option Bool
  | [] => none
  | p :: l => match Nat.beq p.1 g with
    | true => some p.2
    | false => findQ g l
def findX (g : Nat) : List (Nat × ExF) → Option ExF
  | [] => none
  | p :: l => match Nat.beq p.1 g with
    | true => some p.2
    | false => findX g l
def callQ (P : Program) (B : Tb) (O : Ov) (G : Plans) (code : Nat → Code → Tm → Hp → KE → Prop) (g : Nat) (args : List Value) (h : Hp) (K : KV) : Prop := match findQ g O.qu with
  | none => match findX g O.ex with
    | none => callN P B G code g args h K
    | some f => f args h K (callN P B G code g args h K)
  | some b => quiet (callN P B G code) b g args h K
def callP (P : Program) (B : Tb) (O : Ov) (G : Plans) (code : Nat → Code → Tm → Hp → KE → Prop) (g : Nat) (args : List Value) (h : Hp) (K : KV) : Prop := match isO O.kn g with
  | true => match args with
    | [] => K (.bool true) h
    | _ :: _ => False
  | false => match isO O.cc g with
  | true => ccK B O.bt args h K
  | false => match isO O.wi g with
    | true => match args with
      | x :: y :: [] => match x with
        | .chan (some r) => match y with
          | .int .i64 (.ofNat n) => match Nat.beq (Nat.div r MK) n with
            | true => match Nat.ble 1 n with
              | true => match Nat.ble n 999999999 with
                | true => fN (Nat.mod r MK) fun c => K (.int .i64 (.ofNat c)) h
                | false => False
              | false => False
            | false => False
          | _ => False
        | _ => callN P B G code g args h K
      | _ => False
    | false => callQ P B O G code g args h K
def callK (P : Program) (B : Tb) (O : Ov) (G : Plans) (Y : YE) (code : Nat → Code → Tm → Hp → KE → Prop) (g : Nat) (args : List Value) (h : Hp) (K : KV) : Prop := match Nat.ble YB g with
  | true => match findY (Nat.sub g YB) Y with
    | some f => f args h K
    | none => False
  | false => callP P B O G code g args h K

/-- One operation; a call goes by 'call'. -/
def evOneM (B : Tb) (call : Nat → List Value → Hp → KV → Prop) (o : Oper) (t : Tm) (h : Hp) (K : Tm → Hp → Prop) : Prop := match o.op with
  | .call c => match c.callee with
    | .value f => valK t f fun f => match f with
      | .func (.func g) first cap => match Nat.ble YB g with
        | true => False
        | false => valsK t c.args.toList fun l => appK l cap.toList fun l => appK first.toList l fun l => call g l h fun v h => tmPut t o.dst v fun t => K t h
      | .float .f64 r => valsK t c.args.toList fun l => call (Nat.add YB r) l h fun v h => tmPut t o.dst v fun t => K t h
      | _ => False
    | .builtin b => valsK t c.args.toList fun l => oBuiltin B b c.argTypes.toList l h fun v h => tmPut t o.dst v fun t => K t h
    | .invoke x m => valK t x fun x => valsK t c.args.toList fun l => invK B h m x fun g r => match Nat.ble YB g with
      | true => False
      | false => call g (r :: l) h fun v h => tmPut t o.dst v fun t => K t h
  | op => evOpM B t op h fun v h => tmPut t o.dst v fun t => K t h

abbrev Op1 := (Nat → List Value → Hp → KV → Prop) → Tb → Tm → Hp → KV → Prop
def fCallV (f : Operand) (args : Array Operand) : Op1 := fun call _ t h K => valK t f fun f => match f with
  | .func (.func g) first cap => match Nat.ble YB g with
    | true => False
    | false => valsK t args.toList fun l => appK l cap.toList fun l => appK first.toList l fun l => call g l h K
  | .float .f64 r => valsK t args.toList fun l => call (Nat.add YB r) l h K
  | _ => False
def fCallB (b : Builtin) (args : Array Operand) (ts : Array Nat) : Op1 := fun _ B t h K => valsK t args.toList fun l => oBuiltin B b ts.toList l h K
def fCallI (x : Operand) (m : String) (args : Array Operand) : Op1 := fun call B t h K => valK t x fun x => valsK t args.toList fun l => invK B h m x fun g r => match Nat.ble YB g with
  | true => False
  | false => call g (r :: l) h K
def fNone1 : Op1 := fun _ _ _ _ _ => False
def callFn (c : Call) : Op1 := match c.callee with
  | .value f => fCallV f c.args
  | .builtin b => fCallB b c.args c.argTypes
  | .invoke x m => fCallI x m c.args
def one (f : OpF) : Op1 := fun _ => f
def mk1 (r : Option Operand) : Op1 := match r with
  | none => one fMakeMap
  | some _ => fNone1
def nx1 (x : Operand) (b : Bool) : Op1 := match b with
  | false => one (fNext x)
  | true => fNone1
def op1 (op : Op) : Op1 := Op.rec (motive := fun _ => Op1) (fun x => one (fMove x)) (fun x => one (fAssign x)) (fun c a b => one (fPick c a b)) (fun e => one (fAlloc e)) (fun e x => one (fBox e x)) (fun ty ps => one (fBuild ty ps)) (fun ty n ps => one (fBuildSlice ty n ps)) (fun ty m k x => one (fInsert ty m k x)) (fun ty a => one (fLoad ty a)) (fun ty a x => one (fStore ty a x)) (fun _ => fNone1) (fun _ => fNone1) (fun x => one (fNilCheck x)) (fun op ty x' y _ => one (fBinOp op ty x' y)) (fun op _ x => one (fUnOp op x)) (fun a b x => one (fConvert a b x)) (fun _ _ => fNone1) (fun ty x => one (fMakeInterface ty x)) (fun fn a b => one (fMakeFunc fn a b)) (fun _ r => mk1 r) (fun _ _ => fNone1) (fun ty l c => one (fMakeSlice ty l c)) (fun ty x lo hi mx => one (fSlice ty x lo hi mx)) (fun ty x f => one (fFieldAddr ty x f)) (fun ty x f => one (fField ty x f)) (fun ty x i => one (fIndexAddr ty x i)) (fun ty x i => one (fIndex ty x i)) (fun ty x k c => one (fLookup ty x k c)) (fun ty m k x => one (fMapUpdate ty m k x)) (fun _ _ _ => fNone1) (fun _ _ _ _ => fNone1) (fun ty x => one (fRange ty x)) (fun x b => nx1 x b) (fun x => one (fEntry x)) (fun x _ a ok => one (fAssert x a ok)) (fun x i => one (fExtract x i)) callFn (fun _ => fNone1) (fun _ => fNone1) (fun _ => fNone1) (fun _ _ => fNone1) (fun _ _ _ => fNone1) (fun _ _ => fNone1) op
def evOne (B : Tb) (call : Nat → List Value → Hp → KV → Prop) (o : Oper) (t : Tm) (h : Hp) (K : Tm → Hp → Prop) : Prop := op1 o.op call B t h fun v h => tmPut t o.dst v fun t => K t h

def evOps (B : Tb) (call : Nat → List Value → Hp → KV → Prop) (all l : List Oper) (t : Tm) (h : Hp) (K : KE) : Prop :=
  List.rec (motive := fun _ => Tm → Hp → Prop) (fun t h => K .normal t h)
    (fun o _ ih t h => wantB all t o (evOne B call o t h ih) (tmPut t o.dst undef fun t => ih t h)) l t h

/-- Does an operation read alone? -/
def reads (op : Op) : Bool := match op with
  | .move _ => true
  | .assign _ => true
  | .pick _ _ _ => true
  | .build _ _ => true
  | .load _ _ => true
  | .nilCheck _ => true
  | .binOp _ _ _ _ _ => true
  | .unOp _ _ _ => true
  | .convert _ _ _ => true
  | .makeFunc _ _ _ => true
  | .slice _ _ _ _ _ => true
  | .fieldAddr _ _ _ => true
  | .field _ _ _ => true
  | .indexAddr _ _ _ => true
  | .index _ _ _ => true
  | .lookup _ _ _ _ => true
  | .entry _ => true
  | .makeInterface _ _ => true
  | .typeAssert _ _ _ _ => true
  | .extract _ _ => true
  | _ => false

/-- Does an operation read alone (also one of the words of the language)? -/
def readsB (b : Builtin) : Bool := match b with
  | .len => true
  | .cap => true
  | .min => true
  | .max => true
  | .unsafeSliceData => true
  | _ => false
def readsO (o : Oper) : Bool := match o.op with
  | .call c => match c.callee with
    | .builtin b => readsB b
    | _ => false
  | op => reads op

/-- The value of an operation that reads alone. -/
def evValM (B : Tb) (o : Oper) (t : Tm) (h : Hp) (K : Value → Prop) : Prop := match o.op with
  | .call c => match c.callee with
    | .builtin b => valsK t c.args.toList fun l => oBuiltin B b c.argTypes.toList l h fun v _ => K v
    | _ => False
  | op => evOpM B t op h fun v _ => K v

def callR (c : Call) : OpF := match c.callee with
  | .builtin b => fun B t h K => valsK t c.args.toList fun l => oBuiltin B b c.argTypes.toList l h K
  | _ => fNone
def mkV (r : Option Operand) : OpF := match r with
  | none => fMakeMap
  | some _ => fNone
def nxV (x : Operand) (b : Bool) : OpF := match b with
  | false => fNext x
  | true => fNone
def opV (op : Op) : OpF := Op.rec (motive := fun _ => OpF) (fun x => fMove x) (fun x => fAssign x) (fun c a b => fPick c a b) (fun e => fAlloc e) (fun e x => fBox e x) (fun ty ps => fBuild ty ps) (fun ty n ps => fBuildSlice ty n ps) (fun ty m k x => fInsert ty m k x) (fun ty a => fLoad ty a) (fun ty a x => fStore ty a x) (fun _ => fNone) (fun _ => fNone) (fun x => fNilCheck x) (fun op ty x' y _ => fBinOp op ty x' y) (fun op _ x => fUnOp op x) (fun a b x => fConvert a b x) (fun _ _ => fNone) (fun ty x => fMakeInterface ty x) (fun fn a b => fMakeFunc fn a b) (fun _ r => mkV r) (fun _ _ => fNone) (fun ty l c => fMakeSlice ty l c) (fun ty x lo hi mx => fSlice ty x lo hi mx) (fun ty x f => fFieldAddr ty x f) (fun ty x f => fField ty x f) (fun ty x i => fIndexAddr ty x i) (fun ty x i => fIndex ty x i) (fun ty x k c => fLookup ty x k c) (fun ty m k x => fMapUpdate ty m k x) (fun _ _ _ => fNone) (fun _ _ _ _ => fNone) (fun ty x => fRange ty x) (fun x b => nxV x b) (fun x => fEntry x) (fun x _ a ok => fAssert x a ok) (fun x i => fExtract x i) callR (fun _ => fNone) (fun _ => fNone) (fun _ => fNone) (fun _ _ => fNone) (fun _ _ _ => fNone) (fun _ _ => fNone) op
def evVal (B : Tb) (o : Oper) (t : Tm) (h : Hp) (K : Value → Prop) : Prop := opV o.op B t h fun v _ => K v

/-- Is a number among these? -/
def hasK (j : Nat) (l : List Nat) (K : Bool → Prop) : Prop := List.rec (motive := fun _ => Prop) (K false) (fun x _ ih => match Nat.beq x j with
  | true => K true
  | false => ih) l

/-- Are two numbers the same? -/
def eqN (a b : Nat) (K : Prop) : Prop := match Nat.beq a b with
  | true => K
  | false => False
def eqG (f g : Fn) (K : Prop) : Prop := match f with
  | .func a => match g with
    | .func b => eqN a b K
    | _ => False
  | _ => False
def eqsK (E : Value → Value → Prop → Prop) (xs ys : List Value) (K : Prop) : Prop :=
  List.rec (motive := fun _ => List Value → Prop) (fun l => match l with
      | [] => K
      | _ :: _ => False)
    (fun x _ ih l => match l with
      | [] => False
      | y :: l => E x y (ih l)) xs ys
/-- Is it the same value, of those that say all? Of what they are made E asks it. -/
def eqH1 (E : Value → Value → Prop → Prop) (v w : Value) (K : Prop) : Prop := match v with
  | .bool true => match w with
    | .bool true => K
    | _ => False
  | .bool false => match w with
    | .bool false => K
    | _ => False
  | .int k (.ofNat n) => match w with
    | .int k' (.ofNat m) => eqN (ikN k) (ikN k') (eqN n m K)
    | _ => False
  | .int k (.negSucc n) => match w with
    | .int k' (.negSucc m) => eqN (ikN k) (ikN k') (eqN n m K)
    | _ => False
  | .string s => match w with
    | .string s' => bytesEqK s.data.toList s'.data.toList fun c => match c with
      | true => K
      | false => False
    | _ => False
  | .pointer none => match w with
    | .pointer none => K
    | _ => False
  | .pointer (some ⟨r, o, none⟩) => match w with
    | .pointer (some ⟨r', o', none⟩) => eqN r r' (eqN o o' K)
    | _ => False
  | .slice none n c => match w with
    | .slice none n' c' => eqN n n' (eqN c c' K)
    | _ => False
  | .slice (some ⟨r, o, none⟩) n c => match w with
    | .slice (some ⟨r', o', none⟩) n' c' => match Nat.beq r NOWHERE with
      | true => False
      | false => eqN r r' (eqN o o' (eqN n n' (eqN c c' K)))
    | _ => False
  | .map none => match w with
    | .map none => K
    | _ => False
  | .map (some r) => match w with
    | .map (some r') => eqN r r' K
    | _ => False
  | .nilFunc => match w with
    | .nilFunc => K
    | _ => False
  | .nilIface => match w with
    | .nilIface => K
    | _ => False
  | .func f a b => match w with
    | .func g a' b' => eqG f g (eqsK E a.toList a'.toList (eqsK E b.toList b'.toList K))
    | _ => False
  | .iface t x => match w with
    | .iface t' x' => eqN t t' (E x x' K)
    | _ => False
  | .agg xs => match w with
    | .agg ys => eqsK E xs.toList ys.toList K
    | _ => False
  | .tuple xs => match w with
    | .tuple ys => eqsK E xs.toList ys.toList K
    | _ => False
  | .complex .f32 r m => match w with
    | .complex .f32 r' m' => eqN r r' (eqN m m' K)
    | _ => False
  | .float .f32 n => match w with
    | .float .f32 m => eqN n m K
    | _ => False
  | _ => False
def eqF (n : Nat) (v w : Value) (K : Prop) : Prop := Nat.rec (motive := fun _ => Value → Value → Prop → Prop) (fun _ _ _ => False) (fun _ E v w K => eqH1 E v w K) n v w K
def eqH (v w : Value) (K : Prop) : Prop := eqF 6 v w K

/-- What was read, and is to be read again: the operation, the frame, the value, those that wait for it. -/
structure En where
  o : Oper
  t : Tm
  v : Value
  wait : List Nat
/-- Behind an effect: what was read is read again, but for that for which the effect has waited. -/
def againK (B : Tb) (j : Nat) (h : Hp) (A : List En) (K : List En → Prop) : Prop :=
  List.rec (motive := fun _ => (List En → Prop) → Prop) (fun K => K []) (fun e _ ih K => hasK j e.wait fun c => match c with
    | true => ih K
    | false => evVal B e.o e.t h fun v => eqH v e.v (ih fun l => K (e :: l))) A K

/-- What was got ready: its number, where it is put, its cells, the type of its elements, whether it is a slice, and how long. -/
structure Pe where
  i : Nat
  dst : Nat
  cs : List Value
  e : Nat
  sl : Bool
  n : Nat
def peVal (z : Pe) (r : Nat) : Value := match z.sl with
  | true => .slice (some ⟨r, 0, none⟩) z.n z.n
  | false => ptr r 0
/-- An operation that makes a new row, and does nothing else. -/
def lateO (o : Oper) : Bool := match o.guard with
  | some _ => false
  | none => match o.dst with
    | none => false
    | some _ => match o.op with
      | .alloc _ => true
      | .box _ _ => true
      | .buildSlice _ _ _ => true
      | .makeSlice _ _ _ => true
      | _ => false
/-- The cells of the new row. -/
def prepK (B : Tb) (t : Tm) (o : Oper) (i : Nat) (K : Pe → Prop) : Prop := match o.dst with
  | none => False
  | some d => match o.op with
    | .alloc e => tyK B e fun j => K ⟨i, d, j.zero, e, false, 0⟩
    | .box e x => tySK B e fun _ => valK t x fun v => cellsK v fun c => K ⟨i, d, c, e, false, 0⟩
    | .buildSlice ty n ps => tyK B ty fun k => match k.kind with
      | .slice e => tySK B e fun j => match Nat.ble (Nat.mul n (Nat.succ j.size)) 1000000 with
        | true => repsK j.zero n fun z => fillAK t j.size ps.toList z fun l => K ⟨i, d, l, e, true, n⟩
        | false => False
      | _ => False
    | .makeSlice ty l c => tyK B ty fun k => match k.kind with
      | .slice e => tySK B e fun j => valK t l fun l => valK t c fun c => natK l fun l => natK c fun c => match Nat.beq l c with
        | true => match Nat.ble (Nat.mul c (Nat.add j.bytes j.size)) 1000000 with
          | true => match Nat.ble c 1000000 with
            | true => repsK j.zero c fun cs => K ⟨i, d, cs, e, true, c⟩
            | false => False
          | false => False
        | false => False
      | _ => False
    | _ => False
/-- One of those that are ready. -/
def pickK (i : Nat) (Z : List Pe) (K : Pe → Prop) : Prop := List.rec (motive := fun _ => Prop) False (fun z _ ih => match Nat.beq z.i i with
  | true => K z
  | false => ih) Z
/-- The others. -/
def dropZ (i : Nat) (Z : List Pe) (K : List Pe → Prop) : Prop :=
  List.rec (motive := fun _ => (List Pe → Prop) → Prop) (fun K => K []) (fun z _ ih K => match Nat.beq z.i i with
    | true => ih K
    | false => ih fun Y => K (z :: Y)) Z K

def setAll (X : List Nat) (L : Array Bool) : Array Bool := X.foldl (fun L x => L.setIfInBounds x true) L
def apartZ (ops : Array Oper) (Zs : List Nat) (o : Oper) : Bool := Zs.all fun x => match ops[x]? with
  | some p => p.apart ops o
  | none => false
/-- Those that may come up are got ready. -/
def prepared (X : List Nat) (ops : Array Oper) (L : Array Bool) (Zs : List Nat) : Bool := X.all fun x => L.getD x false || (Zs.contains x || !(Region.ready .any ops L).contains x)
def readOK (X : List Nat) (ops : Array Oper) (L : Array Bool) (Zs : List Nat) (s : Step) (o : Oper) : Bool :=
  readsO o && (Region.free .any ops L s.i && ((Region.ready .any ops L).contains s.i && (apartZ ops Zs o && (!X.contains s.i &&
    s.wait.all fun j => !L.getD j false && (!Zs.contains j && match ops[j]? with
      | some oj => oj.after.any fun e => Region.binds .any e && (e.on == s.i || s.wait.contains e.on)
      | none => true)))))
def legalAt (X : List Nat) (ops : Array Oper) (L : Array Bool) (Zs : List Nat) (s : Step) : Bool := match ops[s.i]? with
  | none => false
  | some o => match s.kd with
    | 0 => readOK X ops L Zs s o && X.all fun x => L.getD x false || s.wait.contains x
    | 1 => !readsO o && (!X.contains s.i && (Region.ready .any ops (setAll X L) == [s.i] && ((Region.ready .any ops L).contains s.i && (apartZ ops Zs o && prepared X ops L Zs))))
    | 2 => X.contains s.i && (lateO o && (!Zs.contains s.i && ((Region.ready .any ops L).contains s.i && apartZ ops Zs o)))
    | 3 => Zs.contains s.i && (Region.ready .any ops (setAll (X.filter fun x => !Nat.beq x s.i) L) == [s.i] && prepared X ops L Zs)
    | 4 => readOK X ops L Zs s o
    | _ => false
def legal (X : List Nat) (ops : Array Oper) : List Step → Array Bool → List Nat → Bool
  | [], L, Zs => Region.ready .any ops L == [] && Zs.isEmpty
  | s :: l, L, Zs => legalAt X ops L Zs s && match s.kd with
    | 2 => legal X ops l L (s.i :: Zs)
    | 3 => legal X ops l (L.setIfInBounds s.i true) (Zs.filter fun x => !Nat.beq x s.i)
    | _ => legal X ops l (L.setIfInBounds s.i true) Zs

abbrev DrF := List En → List Pe → Tm → Hp → Prop
def dNot (o : Oper) (ih : DrF) (A : List En) (Z : List Pe) (t : Tm) (h : Hp) : Prop := tmPut t o.dst undef fun t => ih A Z t h
def dRead (B : Tb) (s : Step) (o : Oper) (ih : DrF) (A : List En) (Z : List Pe) (t : Tm) (h : Hp) : Prop := evVal B o t h fun v => tmPut t o.dst v fun t' => ih (⟨o, t, v, s.wait⟩ :: A) Z t' h
def dTwice (B : Tb) (s : Step) (o : Oper) (ih : DrF) (A : List En) (Z : List Pe) (t : Tm) (h : Hp) : Prop := evVal B o t h fun v => evVal B o t h fun v2 => eqH v2 v (tmPut t o.dst v fun t' => ih (⟨o, t, v, s.wait⟩ :: A) Z t' h)
def dEff (B : Tb) (call : Nat → List Value → Hp → KV → Prop) (s : Step) (o : Oper) (ih : DrF) (A : List En) (Z : List Pe) (t : Tm) (h : Hp) : Prop := evOne B call o t h fun t h => againK B s.i h A fun A => ih A Z t h
def dPrep (B : Tb) (s : Step) (o : Oper) (ih : DrF) (A : List En) (Z : List Pe) (t : Tm) (h : Hp) : Prop := prepK B t o s.i fun z => ih A (z :: Z) t h
def dName (B : Tb) (s : Step) (ih : DrF) (A : List En) (Z : List Pe) (t : Tm) (h : Hp) : Prop := pickK s.i Z fun z => dropZ s.i Z fun Z => newK h (.cells ⟨z.cs⟩ z.e) fun r h => tmPut t (some z.dst) (peVal z r) fun t => againK B s.i h A fun A => ih A Z t h
def dStep (B : Tb) (call : Nat → List Value → Hp → KV → Prop) (all : List Oper) (s : Step) (o : Oper) (ih : DrF) (A : List En) (Z : List Pe) (t : Tm) (h : Hp) : Prop := match s.kd with
  | 0 => wantB all t o (dRead B s o ih A Z t h) (dNot o ih A Z t h)
  | 1 => wantB all t o (dEff B call s o ih A Z t h) (dNot o ih A Z t h)
  | 2 => dPrep B s o ih A Z t h
  | 3 => dName B s ih A Z t h
  | 4 => wantB all t o (dTwice B s o ih A Z t h) (dNot o ih A Z t h)
  | _ => False
/-- A region by a plan. -/
def evDraw (B : Tb) (call : Nat → List Value → Hp → KV → Prop) (all : List Oper) (l : List Step) (A : List En) (Z : List Pe) (t : Tm) (h : Hp) (K : Tm → Hp → Prop) : Prop :=
  List.rec (motive := fun _ => DrF) (fun _ _ t h => K t h)
    (fun s _ ih A Z t h => match all[s.i]? with
      | some o => dStep B call all s o ih A Z t h
      | none => False) l A Z t h

/-- Is there no range over a function in some code? -/
def noRange : Code → Bool
  | .rangeFunc _ _ _ _ => false
  | .seq a b => noRange a && noRange b
  | .cond _ a b => noRange a && noRange b
  | .block _ b => noRange b
  | .loop b => noRange b
  | .scope b => noRange b
  | _ => true
/-- Does no operation of a region defer a call? -/
def noDefer (ops : Array Oper) : Bool := ops.toList.all fun o => match o.op with
  | .defer _ => false
  | _ => true
/-- Is a plan one of this region? -/
def legalAll (ops : Array Oper) (p : Rp) : Bool := Region.noSelect ops && (noDefer ops && ((p.late.all fun x => match ops[x]? with
    | some o => o.after.all fun e => !Region.binds .any e || !p.late.contains e.on
    | none => false) && legal p.late ops p.steps (Array.replicate ops.size false) []))
/-- Are the plans of a function's regions its own? A region without a plan is one that no run meets. -/
def legalCode (G : Plans) (g : Nat) : Code → Bool
  | .region id ops true => match tget W G g with
    | some f => match findR id f.regs with
      | some p => legalAll ops p
      | none => true
    | none => true
  | .seq a b => legalCode G g a && legalCode G g b
  | .cond _ a b => legalCode G g a && legalCode G g b
  | .block _ b => legalCode G g b
  | .loop b => legalCode G g b
  | .scope b => legalCode G g b
  | .rangeFunc _ _ a b => legalCode G g a && legalCode G g b
  | _ => true
/-- Are the plans of all functions from a number on? -/
def legalFuncs (G : Plans) : List Func → Nat → Bool
  | [], _ => true
  | f :: l, g => (match f.body with
    | some c => legalCode G g c
    | none => true) && legalFuncs G l (Nat.succ g)
abbrev CdE := Nat → Code → Tm → Hp → KE → Prop
abbrev CdF := CdE → Nat → Tm → Hp → KE → Prop
def cExit (e : Exit) : CdF := fun _ _ t h K => K e t h
def cText (P : Program) (B : Tb) (O : Ov) (G : Plans) (Y : YE) (ops : Array Oper) : CdF := fun ev _ t h K => clrK t fun t => evOps B (callK P B O G Y ev) ops.toList ops.toList t h K
def cDraw (P : Program) (B : Tb) (O : Ov) (G : Plans) (Y : YE) (id : Nat) (ops : Array Oper) : CdF := fun ev g t h K => match tget W G g with
  | some f => match findR id f.regs with
    | some p => clrK t fun t => evDraw B (callK P B O G Y ev) ops.toList p.steps [] [] t h fun t h => K .normal t h
    | none => False
  | none => False
def cRegion (P : Program) (B : Tb) (O : Ov) (G : Plans) (Y : YE) (id : Nat) (ops : Array Oper) (d : Bool) : CdF := match d with
  | true => cDraw P B O G Y id ops
  | false => cText P B O G Y ops
def kSeq (ev : CdE) (g : Nat) (b : Code) (K : KE) : KE := fun e t h => match e with
  | .normal => ev g b t h K
  | e => K e t h
def cSeq (a b : Code) : CdF := fun ev g t h K => ev g a t h (kSeq ev g b K)
def cCond (c : Operand) (a b : Code) : CdF := fun ev g t h K => valK t c fun c => match c with
  | .bool true => ev g a t h K
  | .bool false => ev g b t h K
  | _ => False
def kBlock (i : Nat) (K : KE) : KE := fun e t h => match e with
  | .exit j => match Nat.beq i j with
    | true => K .normal t h
    | false => K (.exit j) t h
  | e => K e t h
def cBlock (i : Nat) (b : Code) : CdF := fun ev g t h K => ev g b t h (kBlock i K)
def kLoop (ev : CdE) (g : Nat) (b : Code) (K : KE) : KE := fun e t h => match e with
  | .normal => ev g (.loop b) t h K
  | e => K e t h
def cLoop (b : Code) : CdF := fun ev g t h K => ev g b t h (kLoop ev g b K)
/-- What stands behind a jump in a scope: the code from the label on, once more. -/
def kScope (c : Code) (K : KE) (ih : Code → Tm → Hp → Prop) : KE := fun e t h => match e with
  | .goto l => match findLabel c l with
    | some r => ih r t h
    | none => K (.goto l) t h
  | e => K e t h
def runScope (ev : CdE) (g : Nat) (c : Code) (K : KE) (n : Nat) (d : Code) (t : Tm) (h : Hp) : Prop :=
  Nat.rec (motive := fun _ => Code → Tm → Hp → Prop) (fun _ _ _ => False) (fun _ ih d t h => ev g d t h (kScope c K ih)) n d t h
def cScope (c : Code) : CdF := fun ev g t h K => runScope ev g c K 100000 c t h
def cNone : CdF := fun _ _ _ _ _ => False
/-- A loop's variables are put into the frame. -/
def putPs (ps : List Nat) (vs : List Value) (t : Tm) (K : Tm → Prop) : Prop :=
  List.rec (motive := fun _ => List Value → Tm → Prop) (fun l t => match l with
      | [] => K t
      | _ :: _ => False)
    (fun p _ ih l t => match l with
      | [] => False
      | v :: l => tmPut t (some p) v fun t => ih l t) ps vs t
def kBody (K : KV) : KE := fun e _ h => match e with
  | .normal => K (.bool true) h
  | _ => False
def kAssign (ev : CdE) (g : Nat) (body : Code) (K : KV) : KE := fun e t h => match e with
  | .normal => ev g body t h (kBody K)
  | _ => False
/-- A round of a loop over a function. -/
def yieldF (ev : CdE) (g : Nat) (t : Tm) (ps : List Nat) (assign body : Code) : YF := fun args h K => putPs ps args t fun t => ev g assign t h (kAssign ev g body K)
/-- A range over a function: each round goes on to the body's end. -/
def cRange (P : Program) (B : Tb) (O : Ov) (G : Plans) (ev : YE → CdE) (Y : YE) (f : Operand) (ps : Array Nat) (assign body : Code) : CdF := fun evY g t h K => match noRange assign && noRange body with
  | true => valK t f fun v => match v with
    | .func (.func g') first cap => match Nat.ble YB g' with
      | true => False
      | false => newL h fun r h => appK first.toList (.float .f64 r :: cap.toList) fun l => callK P B O G ((r, yieldF evY g t ps.toList assign body) :: Y) (ev ((r, yieldF evY g t ps.toList assign body) :: Y)) g' l h fun _ h => K .normal t h
    | _ => False
  | false => False
def cdFn (P : Program) (B : Tb) (O : Ov) (G : Plans) (ev : YE → CdE) (Y : YE) (c : Code) : CdF :=
  Code.rec (motive := fun _ => CdF) (cExit .normal) (cRegion P B O G Y) (fun a b _ _ => cSeq a b) (fun c a b _ _ => cCond c a b) (fun i b _ => cBlock i b) (fun b _ => cLoop b) (fun f ps a b _ _ => cRange P B O G ev Y f ps a b) (fun i => cExit (.exit i)) (fun b _ => cScope b) (fun _ => cExit .normal) (fun l => cExit (.goto l)) (cExit .ret) (fun _ => cNone) c
def evCode (P : Program) (B : Tb) (O : Ov) (G : Plans) (f : Nat) (Y : YE) (g : Nat) (c : Code) (t : Tm) (h : Hp) (K : KE) : Prop :=
  Nat.rec (motive := fun _ => YE → CdE) (fun _ _ _ _ _ _ => False) (fun _ ev Y g c t h K => cdFn P B O G ev Y c (ev Y) g t h K) f Y g c t h K

def evCall (P : Program) (B : Tb) (O : Ov) (G : Plans) (f : Nat) (g : Nat) (args : List Value) (h : Hp) (K : KV) : Prop := callN P B G (evCode P B O G f []) g args h K

/-- What is asked of a law: that it answers true. -/
def yes (v : Value) (_ : Hp) : Prop := match v with
  | .bool true => True
  | _ => False

end Rn
end Go.Proofs.YtllbjkeahafleaaGreatDoor

/- A closed function run by an interpreter of its own: definitions. By an AI agent. -/
import Derived.Calls
import Derived.LoopN
import Derived.Orders
import Derived.Tactics
namespace Go.Proofs.Ytcofcojjofkgcaa.Abs
open Go
set_option linter.unusedVariables false

inductive PT (α : Type) where
  | leaf
  | node (l : PT α) (v : Option α) (r : PT α)
noncomputable def PT.get {α : Type} (t : PT α) : Nat → Option α :=
  PT.rec (motive := fun _ => Nat → Option α) (fun _ => none) (fun _ v _ hl hr n => Nat.rec (motive := fun _ => Option α) v (fun m _ => Nat.rec (motive := fun _ => Option α) (hl (Nat.div m (nat_lit 2))) (fun _ _ => hr (Nat.div m (nat_lit 2))) (Nat.mod m (nat_lit 2))) n) t
noncomputable def PT.single {α : Type} (x : Option α) (f : Nat) : Nat → PT α :=
  Nat.rec (motive := fun _ => Nat → PT α) (fun _ => .leaf) (fun _ h n => Nat.rec (motive := fun _ => PT α) (.node .leaf x .leaf) (fun m _ => Nat.rec (motive := fun _ => PT α) (.node (h (Nat.div m (nat_lit 2))) none .leaf) (fun _ _ => .node .leaf none (h (Nat.div m (nat_lit 2)))) (Nat.mod m (nat_lit 2))) n) f
noncomputable def PT.set {α : Type} (t : PT α) (n : Nat) (x : Option α) : PT α :=
  PT.rec (motive := fun _ => Nat → PT α) (fun n => PT.single x (Nat.succ n) n) (fun l v r hl hr n => Nat.rec (motive := fun _ => PT α) (.node l x r) (fun m _ => Nat.rec (motive := fun _ => PT α) (.node (hl (Nat.div m (nat_lit 2))) v r) (fun _ _ => .node l v (hr (Nat.div m (nat_lit 2)))) (Nat.mod m (nat_lit 2))) n) t n

inductive AVal where
  | bool (b : Bool)
  | int (k : IntKind) (n : Int)
  | str (l : List Nat)
  | ptr (a : Option (Nat × Nat))
  /-- exact: the capacity is cap; else it is at least that -/
  | slice (a : Option (Nat × Nat)) (len cap : Nat) (exact : Bool) (size : Nat)
  | map (r : Option Nat)
  | func (fn : FuncId) (first captured : List AVal)
  | nilFunc
  /-- what a loop over a function hands to it; the loop's record -/
  | yield (x : Nat)
  | agg (l : List AVal)
  | tuple (l : List AVal)
  /-- what is known by a term alone -/
  | sint (k : IntKind) (z : Int)
  | sbool (b : Bool)
  | sstr (l : List UInt8)
  | sslice (a : Nat × Nat) (len cap : Nat) (exact : Bool) (size : Nat)
  /-- a slice of a table: from a row on, so many rows; how many cells a row has -/
  | tslice (x i len cap : Nat) (exact : Bool) (wd : Nat)
  /-- a place in a table: the row, how many cells it has, the cell -/
  | tptr (x i wd c : Nat)
  /-- bytes that nobody changes any more, wherever they lie -/
  | pbytes (l : List UInt8)
  | pptr (l : List UInt8) (i : Nat)
  deriving Inhabited
/-- a column of a table -/
inductive TCol where
  | zs (k : IntKind) (l : List Int)
  | bs (l : List Bool)
  | ss (l : List (List UInt8))
  | ps (l : List (List UInt8))
def TCol.val (i : Nat) : TCol → AVal
  | .zs k l => .sint k (l.getD i 0)
  | .bs l => .sbool (l.getD i false)
  | .ss l => .sstr (l.getD i [])
  | .ps l => .pbytes (l.getD i [])
def rowT (i : Nat) : List TCol → List AVal
  | [] => []
  | c :: cs => c.val i :: rowT i cs
def AVal.undef : AVal := .tuple []
def AVal.cells : AVal → List AVal
  | .agg l => l
  | v => [v]
inductive Ex where
  | normal
  | exit (id : Nat)
  | ret
inductive LSt where
  | ready
  | busy
  | done
  | exhausted
inductive Jump where
  | none
  | ret
  | exit (id : Nat)
inductive AObj where
  | cells (l : List AVal) (t : TypeId)
  | map (es : List (AVal × AVal))
  | sbytes (l : List UInt8) (t : TypeId)
  | sints (k : IntKind) (l : List Int) (t : TypeId)
  /-- rows of cells, so many -/
  | tab (n : Nat) (cs : List TCol) (t : TypeId)
  /-- a map: its keys, and what stands there; is that one cell -/
  | smap (k : IntKind) (ks : List Int) (cs : List TCol) (one : Bool)
  /-- the record of a loop over a function -/
  | loop (s : LSt) (j : Jump) (τ : PT AVal) (n : Nat) (ps : List Nat) (assign body : Code)
  /-- its block for deferred calls: none -/
  | defd
  deriving Inhabited
structure St where
  heap : PT AObj
  next : Nat
  log : List Nat

def mapO {α β : Type} (f : α → Option β) : List α → Option (List β)
  | [] => some []
  | x :: xs => match f x with
    | some y => (match mapO f xs with | some ys => some (y :: ys) | none => none)
    | none => none
def ofValue : Nat → Value → Option AVal
  | 0, _ => none
  | d + 1, v => match v with
    | .bool b => some (.bool b)
    | .int k n => some (.int k n)
    | .string s => some (.str (s.data.toList.map UInt8.toNat))
    | .pointer none => some (.ptr none)
    | .slice none 0 0 => some (.slice none 0 0 true 0)
    | .map none => some (.map none)
    | .nilFunc => some .nilFunc
    | .func (.func f) ⟨[]⟩ ⟨[]⟩ => some (.func f [] [])
    | .agg cs => (match mapO (ofValue d) cs.toList with | some l => some (.agg l) | none => none)
    | .tuple cs => (match mapO (ofValue d) cs.toList with | some l => some (.tuple l) | none => none)
    | _ => none

/-- what must be so -/
abbrev OP := Option Prop
def OP.ok : OP → Prop
  | none => True
  | some p => p
open Classical in
noncomputable def need {α : Type} (ob : OP) (x : Option α) : Option α :=
  match ob with
  | none => x
  | some p => if p then x else none
noncomputable def got {α : Type} : Option (OP × α) → Option α
  | some (ob, x) => need ob (some x)
  | none => none
def free {α : Type} : Option α → Option (OP × α)
  | some x => some (none, x)
  | none => none
inductive LRes where
  | pure (v : AVal)
  /-- from bytes that nobody changes any more -/
  | peek (v : AVal)
  | read (b : Nat) (k : AObj → Option (OP × AVal))
  | new (o : AObj) (k : Nat → AVal)
  | touch (b : Nat) (v : AVal)

section
variable (P : Program)
def kindN : IntKind → Nat
  | .i8 => 0
  | .i16 => 1
  | .i32 => 2
  | .i64 => 3
  | .u8 => 4
  | .u16 => 5
  | .u32 => 6
  | .u64 => 7
def kindEq (j k : IntKind) : Bool := Nat.beq (kindN j) (kindN k)
def intBeq : Int → Int → Bool
  | .ofNat a, .ofNat b => Nat.beq a b
  | .negSucc a, .negSucc b => Nat.beq a b
  | _, _ => false
def intLe : Int → Int → Bool
  | .ofNat a, .ofNat b => Nat.ble a b
  | .negSucc a, .negSucc b => Nat.ble b a
  | .negSucc _, .ofNat _ => true
  | .ofNat _, .negSucc _ => false
/-- an int's value within bounds needs no wrapping -/
def natOf : Int → Option Nat
  | .ofNat a => some a
  | .negSucc _ => none
def maxN : IntKind → Nat
  | .i8 => 127
  | .i16 => 32767
  | .i32 => 2147483647
  | .i64 => 9223372036854775807
  | .u8 => 255
  | .u16 => 65535
  | .u32 => 4294967295
  | .u64 => 18446744073709551615
def modN : IntKind → Nat
  | .i8 | .u8 => 256
  | .i16 | .u16 => 65536
  | .i32 | .u32 => 4294967296
  | .i64 | .u64 => 18446744073709551616
def wrapN (k : IntKind) (m : Nat) : Int := bif Nat.ble m (maxN k) then .ofNat m else Int.subNatNat m (modN k)
def wrapA (k : IntKind) (z : Int) : Int :=
  match z with
  | .ofNat n => bif Nat.ble n (maxN k) then .ofNat n else wrapN k (Nat.mod n (modN k))
  | .negSucc n => wrapN k (Nat.sub (Nat.sub (modN k) 1) (Nat.mod n (modN k)))
def addI : Int → Int → Int
  | .ofNat a, .ofNat b => .ofNat (Nat.add a b)
  | a, b => Int.add a b
def mk (k : IntKind) (z : Int) : Option AVal := some (.int k (wrapA k z))
def bits (k : IntKind) (x : Int) : Nat :=
  match x with
  | .ofNat n => Nat.mod n (modN k)
  | .negSucc n => Nat.sub (Nat.sub (modN k) 1) (Nat.mod n (modN k))
def shl (k : IntKind) (a b : Int) : Option AVal :=
  match natOf b with
  | none => none
  | some n => mk k (Int.mul a (.ofNat (Nat.pow 2 (bif Nat.ble n k.bits then n else k.bits))))
def shr (k : IntKind) (a b : Int) : Option AVal :=
  match natOf b with
  | none => none
  | some n => some (.int k (Int.fdiv a (.ofNat (Nat.pow 2 (bif Nat.ble n k.bits then n else k.bits)))))
def same (k k' : IntKind) (v : Option AVal) : Option AVal := bif kindEq k k' then v else none
def quoA (k : IntKind) (a b : Int) : Option AVal := bif intBeq b 0 then none else mk k (Int.tdiv a b)
def remA (k : IntKind) (a b : Int) : Option AVal := bif intBeq b 0 then none else some (.int k (Int.tmod a b))
def landA (k : IntKind) (a b : Int) : Option AVal := mk k (.ofNat (Nat.land (bits k a) (bits k b)))
def lorA (k : IntKind) (a b : Int) : Option AVal := mk k (.ofNat (Nat.lor (bits k a) (bits k b)))
def xorA (k : IntKind) (a b : Int) : Option AVal := mk k (.ofNat (Nat.xor (bits k a) (bits k b)))
def boolA (b : Bool) : Option AVal := some (.bool b)
def intOp (op : BinOp) (k k' : IntKind) (a b : Int) : Option AVal :=
  match op with
  | .add => same k k' (mk k (addI a b))
  | .sub => same k k' (mk k (Int.sub a b))
  | .mul => same k k' (mk k (Int.mul a b))
  | .quo => same k k' (quoA k a b)
  | .rem => same k k' (remA k a b)
  | .and => same k k' (landA k a b)
  | .or => same k k' (lorA k a b)
  | .xor => same k k' (xorA k a b)
  | .eql => same k k' (boolA (intBeq a b))
  | .neq => same k k' (boolA (!intBeq a b))
  | .leq => same k k' (boolA (intLe a b))
  | .gtr => same k k' (boolA (!intLe a b))
  | .geq => same k k' (boolA (intLe b a))
  | .lss => same k k' (boolA (!intLe b a))
  | .shl => shl k a b
  | .shr => shr k a b
  | .andNot => none
def lessL : List Nat → List Nat → Bool
  | _, [] => false
  | [], _ :: _ => true
  | a :: x, b :: y => (Nat.blt a b) || (Nat.beq a b && lessL x y)
def beqL : List Nat → List Nat → Bool
  | [], [] => true
  | a :: x, b :: y => Nat.beq a b && beqL x y
  | _, _ => false
def lenL {α : Type} : List α → Nat → Nat
  | [], n => n
  | _ :: l, n => lenL l (n + 1)
def strOp (op : BinOp) (x y : List Nat) : Option AVal :=
  match op with
  | .add => bif Nat.ble (lenL x 0 + lenL y 0) 9223372036854775807 then some (.str (x ++ y)) else none
  | .eql => some (.bool (beqL x y))
  | .neq => some (.bool (!beqL x y))
  | .lss => some (.bool (lessL x y))
  | .geq => some (.bool (!lessL x y))
  | _ => none
def sizeA (t : TypeId) : Option Nat := match P.info? t with | some i => some i.size | none => none
/-- == of values without addresses in cells: all of ints, bools, strings -/
def asI : AVal → Option (IntKind × Int)
  | .int k a => some (k, a)
  | _ => none
def eqFlat : List AVal → List AVal → Option Bool
  | [], [] => some true
  | x :: xs, y :: ys => (match asI x, asI y, eqFlat xs ys with
    | some (j, a), some (k, b), some r => bif kindEq j k then some (intBeq a b && r) else none
    | _, _, _ => none)
  | _, _ => none
def eqArr (t : TypeId) (x y : List AVal) : Option Bool :=
  match P.underlying t with
  | some (.array n e) => (match P.underlying e, sizeA P e with
    | some (.int _), some 1 => bif Nat.beq (lenL x 0) n && Nat.beq (lenL y 0) n then eqFlat x y else none
    | _, _ => none)
  | _ => none
def isNone {α : Type} : Option α → Bool
  | none => true
  | some _ => false
def eqPtr (t : TypeId) (b : Bool) : Option Bool := match P.underlying t with | some (.pointer _) => some b | _ => none
def eqSl (t : TypeId) (b : Bool) : Option Bool := match P.underlying t with | some (.slice _) => some b | _ => none
def eqMap (t : TypeId) (b : Bool) : Option Bool := match P.underlying t with | some (.map _ _) => some b | _ => none
def eqFun (t : TypeId) (b : Bool) : Option Bool := match P.underlying t with | some (.func _ _ _) => some b | _ => none
def eqBool (t : TypeId) (b : Bool) : Option Bool := match P.underlying t with | some .bool => some b | _ => none
def equalA (t : TypeId) (x y : AVal) : Option Bool :=
  match x with
  | .bool a => (match y with | .bool b => eqBool P t (a == b) | _ => none)
  | .ptr none => (match y with | .ptr b => eqPtr P t (isNone b) | _ => none)
  | .ptr (some _) => (match y with | .ptr none => eqPtr P t false | _ => none)
  | .slice none _ _ _ _ => (match y with | .slice b _ _ _ _ => eqSl P t (isNone b) | _ => none)
  | .slice (some _) _ _ _ _ => (match y with | .slice none _ _ _ _ => eqSl P t false | _ => none)
  | .map none => (match y with | .map b => eqMap P t (isNone b) | _ => none)
  | .map (some _) => (match y with | .map none => eqMap P t false | _ => none)
  | .nilFunc => (match y with | .nilFunc => eqFun P t true | .func _ _ _ => eqFun P t false | _ => none)
  | .func _ _ _ => (match y with | .nilFunc => eqFun P t false | _ => none)
  | .agg x => (match y with | .agg y => eqArr P t x y | _ => none)
  | _ => none
def asS : AVal → Option (List Nat)
  | .str a => some a
  | _ => none
def binO (op : BinOp) (t : TypeId) (x y : AVal) : Option AVal :=
  match op with
  | .eql => (match equalA P t x y with | some b => some (.bool b) | none => none)
  | .neq => (match equalA P t x y with | some b => some (.bool (!b)) | none => none)
  | _ => none
def binA (op : BinOp) (t : TypeId) (x y : AVal) : Option AVal :=
  match asI x with
  | some (k, a) => (match asI y with
    | some (k', b) => intOp op k k' a b
    | none => none)
  | none => (match asS x with
    | some a => (match asS y with
      | some b => strOp op a b
      | none => none)
    | none => binO P op t x y)
def unA (op : UnOp) (x : AVal) : Option AVal :=
  match op, x with
  | .neg, .int k n => mk k (0 - n)
  | .xor, .int k n => xorA k (bif k.signed then -1 else k.max) n
  | .not, .bool b => some (.bool (!b))
  | _, _ => none
def isAggA (t : TypeId) : Option Bool := (P.underlying t).map fun | .struct _ | .array _ _ => true | _ => false
def slicedL (l : List AVal) (o n : Nat) : Option (List AVal) := bif Nat.ble (o + n) (lenL l 0) then some ((l.drop o).take n) else none
def partA (t : TypeId) (l : List AVal) (o : Nat) : Option AVal :=
  match isAggA P t, sizeA P t with
  | some true, some n => (slicedL l o n).map .agg
  | some false, _ => l[o]?
  | _, _ => none
def zeroA (t : TypeId) : Option AVal :=
  match P.info? t with
  | some i => (match i.zero with | some v => ofValue 3 v | none => none)
  | none => none
def putAt (l : List AVal) (o : Nat) (vs : List AVal) : Option (List AVal) :=
  bif Nat.ble (o + lenL vs 0) (lenL l 0) then some (l.take o ++ vs ++ l.drop (o + lenL vs 0)) else none
def fillA (place : Nat → Option (Nat × Nat)) (l : List AVal) : List (Nat × AVal) → Option (List AVal)
  | [] => some l
  | (i, v) :: rest => match place i with
    | some (o, n) => bif Nat.beq (lenL v.cells 0) n then (match putAt l o v.cells with | some l' => fillA place l' rest | none => none) else none
    | none => none
def placesA : List Field → Option (List (Nat × Nat))
  | [] => some []
  | f :: fs => match sizeA P f.type, placesA fs with
    | some n, some ps => some ((f.offset, n) :: ps)
    | _, _ => none
def repL (zero : List AVal) : Nat → List AVal
  | 0 => []
  | n + 1 => zero ++ repL zero n
def bound (x : Option AVal) (d y : Nat) : Option Nat :=
  match x with
  | none => some d
  | some (.int _ (.ofNat i)) => bif Nat.ble i y then some i else none
  | _ => none
def sliceS (l : List Nat) (lo hi mx : Option AVal) : Option AVal :=
  match mx with
  | some _ => none
  | none => (match bound hi (lenL l 0) (lenL l 0) with
    | some h => (match bound lo 0 h with | some i => some (.str ((l.take h).drop i)) | none => none)
    | none => none)
def moveA : Option (Nat × Nat) → Nat → Option (Nat × Nat)
  | none, _ => none
  | some (b, o), k => some (b, o + k)
def sliceP (n len cap : Nat) (ex : Bool) (a : Option (Nat × Nat)) (lo hi mx : Option AVal) : Option AVal :=
  match bound mx cap cap, bif isNone hi then isNone mx else true with
  | some m, true => (match bound hi len m with
    | some h => (match bound lo 0 h with
      | some l => some (.slice (moveA a (l * n)) (h - l) (m - l) (bif isNone mx then ex else true) n)
      | none => none)
    | none => none)
  | _, _ => none
def sliceA (t : TypeId) (x : AVal) (lo hi mx : Option AVal) : Option AVal :=
  match P.underlying t with
  | some .string => (match x with | .str l => sliceS l lo hi mx | _ => none)
  | some (.slice e) => (match x with
    | .slice a len cap ex z => (match sizeA P e with | some n => bif ex || Nat.beq z n then sliceP n len cap ex a lo hi mx else none | none => none)
    | _ => none)
  | some (.array k e) => (match x with
    | .ptr (some a) => (match sizeA P e with | some n => sliceP n k k true (some a) lo hi mx | none => none)
    | _ => none)
  | _ => none
def evs (ev : Operand → Option AVal) : List Operand → Option (List AVal)
  | [] => some []
  | o :: os => match ev o, evs ev os with
    | some v, some vs => some (v :: vs)
    | _, _ => none
def evps (ev : Operand → Option AVal) : List (Nat × Operand) → Option (List (Nat × AVal))
  | [] => some []
  | (i, o) :: os => match ev o, evps ev os with
    | some v, some vs => some ((i, v) :: vs)
    | _, _ => none
def evo (ev : Operand → Option AVal) : Option Operand → Option (Option AVal)
  | none => some none
  | some o => (ev o).map some
def bytesOf : List AVal → Option (List Nat)
  | [] => some []
  | v :: l => match asI v, bytesOf l with
    | some (.u8, .ofNat n), some r => bif Nat.blt n 256 then some (n :: r) else none
    | _, _ => none
def byteY : AVal → Option UInt8
  | .sint k z => bif kindEq k .u8 then some (UInt8.ofNat z.toNat) else none
  | .int k z => bif kindEq k .u8 then (match z with | .ofNat n => bif Nat.blt n 256 then some (UInt8.ofNat n) else none | _ => none) else none
  | _ => none
def bytesY : List AVal → Option (List UInt8)
  | [] => some []
  | v :: l => match byteY v, bytesY l with
    | some b, some r => some (b :: r)
    | _, _ => none
def lMove (ev : Operand → Option AVal) (x : Operand) : Option LRes := match ev x with | some v => some (.pure v) | none => none
def lPick (ev : Operand → Option AVal) (c a b : Operand) : Option LRes :=
  (match ev c with | some (.bool true) => (ev a).map .pure | some (.bool false) => (ev b).map .pure | _ => none)
def lAlloc (ev : Operand → Option AVal) (t : TypeId) : Option LRes :=
  (match zeroA P t with | some v => some (.new (.cells v.cells t) fun r => .ptr (some (r, 0))) | none => none)
def lBox (ev : Operand → Option AVal) (t : TypeId) (x : Operand) : Option LRes :=
  (match ev x with | some v => some (.new (.cells v.cells t) fun r => .ptr (some (r, 0))) | none => none)
def nth {α : Type} : List α → Nat → Option α
  | [], _ => none
  | x :: xs, n => match n with
    | 0 => some x
    | m + 1 => nth xs m
def lBuild (ev : Operand → Option AVal) (t : TypeId) (parts : Array (Nat × Operand)) : Option LRes :=
  match zeroA P t, evps ev parts.toList with
  | some z, some vs => (match P.underlying t with
    | some (.struct fs) => (match placesA P fs.toList with
      | some ps => (match fillA (nth ps) z.cells vs with | some l => some (.pure (.agg l)) | none => none)
      | none => none)
    | some (.array _ e) => (match sizeA P e with
      | some n => (match fillA (fun i => some (i * n, n)) z.cells vs with | some l => some (.pure (.agg l)) | none => none)
      | none => none)
    | _ => none)
  | _, _ => none
def lBuildSlice (ev : Operand → Option AVal) (t : TypeId) (len : Nat) (parts : Array (Nat × Operand)) : Option LRes :=
  match P.underlying t with
  | some (.slice e) => (match len with
    | 0 => (match parts.toList, sizeA P e with
      | [], some n => some (.new (.cells [] e) fun r => .slice (some (r, 0)) 0 0 true n)
      | _, _ => none)
    | m + 1 => (match sizeA P e, zeroA P e, evps ev parts.toList with
      | some n, some z, some vs => bif Nat.ble ((m + 1) * n) 65536 && Nat.beq (lenL z.cells 0) n && Nat.blt 0 n then (match fillA (fun i => some (i * n, n)) (repL z.cells (m + 1)) vs with | some l => some (.new (.cells l e) fun r => .slice (some (r, 0)) (m + 1) (m + 1) true n) | none => none) else none
      | _, _, _ => none))
  | _ => none
def isU8 (e : TypeId) : Bool := match P.underlying e with | some (.int .u8) => true | _ => false
/-- so many of its values -/
def rowB (l : List UInt8) (o : Nat) : Nat → List AVal
  | 0 => []
  | n + 1 => .sint .u8 ((l.getD o 0).toNat : Int) :: rowB l (o + 1) n
/-- a load from a row that is known by a term -/
def loadB (t : TypeId) (l : List UInt8) (o : Nat) : Option (OP × AVal) :=
  match P.underlying t with
  | some (.int .u8) => some (some (o < l.length), .sint .u8 ((l.getD o 0).toNat : Int))
  | some (.array n e) => bif isU8 P e then (match sizeA P t with
    | some m => bif Nat.beq m n && Nat.blt 0 n then some (some (o + n ≤ l.length), .agg (rowB l o n)) else none
    | none => none) else none
  | _ => none
def loadI (t : TypeId) (k : IntKind) (l : List Int) (o : Nat) : Option (OP × AVal) :=
  match P.underlying t with
  | some (.int k') => bif kindEq k k' then some (some (o < l.length), .sint k (l.getD o 0)) else none
  | _ => none
def lLoad (ev : Operand → Option AVal) (t : TypeId) (a : Operand) : Option LRes :=
  (match ev a with
  | some (.ptr (some (b, o))) => some (.read b fun | .cells l _ => free (partA P t l o) | .sbytes l _ => loadB P t l o | .sints k l _ => loadI P t k l o | .tab n [c] _ => (match partA P t [c.val o] 0 with | some v => some (some (o < n), v) | none => none) | _ => none)
  | _ => none)
def lNilCheck (ev : Operand → Option AVal) (x : Operand) : Option LRes :=
  (match ev x with | some (.ptr (some a)) => some (.pure (.ptr (some a))) | some (.func f a b) => some (.pure (.func f a b)) | _ => none)
def lBinOp (ev : Operand → Option AVal) (op : BinOp) (t : TypeId) (x y : Operand) : Option LRes :=
  (match ev x, ev y with | some a, some b => (binA P op t a b).map .pure | _, _ => none)
def lUnOp (ev : Operand → Option AVal) (op : UnOp) (x : Operand) : Option LRes :=
  (match ev x with | some a => (unA op a).map .pure | none => none)
def cvBytes (e : TypeId) (l : List Nat) : Option LRes :=
  bif isU8 P e then some (.new (.cells (l.map fun (n : Nat) => .int .u8 n) e) fun r => .slice (some (r, 0)) (lenL l 0) (lenL l 0) false 1) else none
def cvText (e : TypeId) (a : Option (Nat × Nat)) (n : Nat) : Option LRes :=
  bif isU8 P e then (match a with
    | none => some (.pure (.str []))
    | some (b, o) => some (.read b fun | .cells l _ => (match slicedL l o n with | some r => (match bytesOf r with | some q => some (none, .str q) | none => (match bytesY r with | some q => some (none, .sstr q) | none => none)) | none => none) | .sbytes l _ => some (some (o + n ≤ l.length), .sstr ((l.drop o).take n)) | _ => none)) else none
def lConvert (ev : Operand → Option AVal) (s d : TypeId) (x : Operand) : Option LRes :=
  match P.underlying s, P.underlying d, ev x with
  | some _, some (.int k), some (.int _ n) => some (.pure (.int k (wrapA k n)))
  | some .string, some .string, some (.str l) => some (.pure (.str l))
  | some (.slice e), some (.slice _), some (.slice (some a) n c ex z) => bif Nat.beq s d && isU8 P e then some (.touch a.1 (.slice (some a) n c ex z)) else none
  | some .string, some (.slice e), some (.str l) => cvBytes P e l
  | some (.slice e), some .string, some (.slice a n _ _ _) => cvText P e a n
  | _, _, _ => none
def lSliceToArrayPointer (ev : Operand → Option AVal) (t : TypeId) (x : Operand) : Option LRes :=
  (match P.underlying t, ev x with
  | some (.array n _), some (.slice a len _ _ _) => bif Nat.ble n len && Nat.blt 0 n then some (.pure (.ptr a)) else none
  | _, _ => none)
def lMakeFunc (ev : Operand → Option AVal) (f : FuncId) (first captured : Array Operand) : Option LRes :=
  (match evs ev first.toList, evs ev captured.toList with | some a, some b => some (.pure (.func f a b)) | _, _ => none)
def lMakeMap (ev : Operand → Option AVal) (t : TypeId) (r : Option Operand) : Option LRes :=
  (match evo ev r with
  | some none => some (.new (.map []) fun r => .map (some r))
  | _ => none)
/-- a key of a map: is it that one -/
def keyEq : AVal → AVal → Option Bool
  | .int k a, .int k' b => bif kindEq k k' then some (intBeq a b) else none
  | .str a, .str b => some (beqL a b)
  | _, _ => none
def findM (k : AVal) : List (AVal × AVal) → Nat → Option (Option (Nat × AVal))
  | [], _ => some none
  | e :: es, i => match keyEq k e.1 with
    | some b => bif b then some (some (i, e.2)) else findM k es (Nat.succ i)
    | none => none
def keyOk (t : TypeId) (k : AVal) : Bool :=
  match P.underlying t, k with
  | some (.int j), .int j' _ => kindEq j j'
  | some .string, .str _ => true
  | _, _ => false
def lookV (ok : Bool) (v : AVal) (is : Bool) : AVal := bif ok then .tuple [v, .bool is] else v
/-- a map that is known by a term: its keys, and rows of what stands there -/
def mget {α : Type} (ks : List Int) (q : Int) (l : List α) (d : α) : α := if q ∈ ks then l.getD (ks.idxOf q) d else d
def mput {α : Type} (ks : List Int) (q : Int) (l : List α) (v : α) : List α := if q ∈ ks then l.set (ks.idxOf q) v else l ++ [v]
def mkeys (ks : List Int) (q : Int) : List Int := if q ∈ ks then ks else ks ++ [q]
def mdel {α : Type} (ks : List Int) (q : Int) (l : List α) : List α := l.eraseIdx (ks.idxOf q)
def TCol.get (ks : List Int) (q : Int) : TCol → AVal
  | .zs k l => .sint k (mget ks q l 0)
  | .bs l => .sbool (mget ks q l false)
  | .ss l => .sstr (mget ks q l [])
  | .ps l => .pbytes (mget ks q l [])
def getT (ks : List Int) (q : Int) : List TCol → List AVal
  | [] => []
  | c :: cs => c.get ks q :: getT ks q cs
def zeroCol : TCol → AVal → Bool
  | .zs k _, .int j n => kindEq k j && intBeq n 0
  | .bs _, .bool b => !b
  | .ss _, .str l => (match l with | [] => true | _ => false)
  | .ps _, .slice none n c _ _ => Nat.beq n 0 && Nat.beq c 0
  | _, _ => false
def zeroCols : List TCol → List AVal → Bool
  | [], [] => true
  | c :: cs, v :: vs => zeroCol c v && zeroCols cs vs
  | _, _ => false
/-- the cells of a map's value -/
def cellsM (one : Bool) (v : AVal) : Option (List AVal) := match one with
  | true => (match v with | .agg _ => none | v => some [v])
  | false => (match v with | .agg l => some l | _ => none)
def packM (one : Bool) (l : List AVal) : AVal := match one with
  | true => (match l with | [v] => v | _ => .tuple [])
  | false => .agg l
def lookS (k z : AVal) (ok : Bool) (kk : IntKind) (ks : List Int) (cs : List TCol) (one : Bool) : Option (OP × AVal) :=
  match k, cellsM one z with
  | .int j q, some zs => bif kindEq j kk && zeroCols cs zs then some (none, bif ok then .tuple [packM one (getT ks q cs), .sbool (decide (q ∈ ks))] else packM one (getT ks q cs)) else none
  | .sint j q, some zs => bif kindEq j kk && zeroCols cs zs then some (none, bif ok then .tuple [packM one (getT ks q cs), .sbool (decide (q ∈ ks))] else packM one (getT ks q cs)) else none
  | _, _ => none
def lookM (k z : AVal) (ok : Bool) : AObj → Option (OP × AVal)
  | .smap kk ks cs one => lookS k z ok kk ks cs one
  | .map es => (match findM k es 0 with
    | some (some (_, v)) => some (none, lookV ok v true)
    | some none => some (none, lookV ok z false)
    | none => none)
  | _ => none
def lLookup (ev : Operand → Option AVal) (t : TypeId) (x i : Operand) (ok : Bool) : Option LRes :=
  match P.underlying t, ev x, ev i with
  | some (.map kt et), some (.map r), some k => (match zeroA P et with
    | some z => bif keyOk P kt k then (match r with | none => some (.pure (lookV ok z false)) | some r => some (.read r (lookM k z ok))) else none
    | none => none)
  | _, _, _ => none
def lMakeSlice (ev : Operand → Option AVal) (t : TypeId) (l c : Operand) : Option LRes :=
  (match P.underlying t, ev l, ev c with
  | some (.slice e), some (.int _ (.ofNat n)), some (.int _ (.ofNat m)) => (match sizeA P e, zeroA P e with
    | some s, some z => bif Nat.ble n m && Nat.ble m 1048576 && Nat.ble (P.bytesOf e) 1048576 && Nat.beq (lenL z.cells 0) s && Nat.blt 0 s then some (.new (.cells (repL z.cells m) e) fun r => .slice (some (r, 0)) n m true s) else none
    | _, _ => none)
  | _, _, _ => none)
def lSlice (ev : Operand → Option AVal) (t : TypeId) (x : Operand) (lo hi mx : Option Operand) : Option LRes :=
  (match ev x, evo ev lo, evo ev hi, evo ev mx with | some v, some l, some h, some m => (sliceA P t v l h m).map .pure | _, _, _, _ => none)
def lFieldAddr (ev : Operand → Option AVal) (s : TypeId) (x : Operand) (f : Nat) : Option LRes :=
  (match P.underlying s, ev x with
  | some (.struct fs), some (.ptr (some (b, o))) => (match fs[f]? with
    | some fl => (match sizeA P fl.type with | some n => bif Nat.beq n 0 then none else some (.pure (.ptr (some (b, o + fl.offset)))) | none => none)
    | none => none)
  | _, _ => none)
def lField (ev : Operand → Option AVal) (t : TypeId) (x : Operand) (f : Nat) : Option LRes :=
  (match P.underlying t, ev x with
  | some (.struct fs), some (.agg l) => (match fs[f]? with | some fl => (partA P fl.type l fl.offset).map .pure | none => none)
  | _, _ => none)
def lIndexAddr (ev : Operand → Option AVal) (t : TypeId) (x i : Operand) : Option LRes :=
  (match P.underlying t, ev x, ev i with
  | some (.array len e), some (.ptr (some (b, o))), some (.int _ (.ofNat n)) => (match sizeA P e with | some s => bif Nat.blt n len then some (.pure (.ptr (some (b, o + n * s)))) else none | none => none)
  | some (.slice e), some (.slice (some (b, o)) len _ _ _), some (.int _ (.ofNat n)) => (match sizeA P e with | some s => bif Nat.blt n len then some (.pure (.ptr (some (b, o + n * s)))) else none | none => none)
  | _, _, _ => none)
def lIndex (ev : Operand → Option AVal) (t : TypeId) (x i : Operand) : Option LRes :=
  (match P.underlying t, ev x, ev i with
  | some (.array len e), some (.agg l), some (.int _ (.ofNat n)) => (match sizeA P e with | some s => bif Nat.blt n len then (partA P e l (n * s)).map .pure else none | none => none)
  | some .string, some (.str l), some (.int _ (.ofNat n)) => (match l[n]? with | some c => some (.pure (.int .u8 c)) | none => none)
  | _, _, _ => none)
def lExtract (ev : Operand → Option AVal) (x : Operand) (i : Nat) : Option LRes :=
  (match ev x with | some (.tuple l) => (match l[i]? with | some v => some (.pure v) | none => none) | _ => none)
def lCall (ev : Operand → Option AVal) (c : Call) : Option LRes :=
  (match c.callee with
  | .builtin .len => (match c.argTypes[0]?, c.args[0]? with
    | some t, some x => (match P.underlying t, ev x with
      | some .string, some (.str l) => some (.pure (.int .i64 (lenL l 0)))
      | some (.array n _), some _ => some (.pure (.int .i64 n))
      | some (.slice _), some (.slice _ n _ _ _) => some (.pure (.int .i64 n))
      | some (.map _ _), some (.map none) => some (.pure (.int .i64 0))
      | some (.map _ _), some (.map (some r)) => some (.read r fun | .map es => some (none, .int .i64 (lenL es 0)) | .smap _ ks _ _ => some (some (ks.length ≤ 9223372036854775807), .sint .i64 (ks.length : Int)) | _ => none)
      | _, _ => none)
    | _, _ => none)
  | .builtin .min => (match evs ev c.args.toList with
    | some [.int k a, .int _ b] => some (.pure (.int k (bif intLe a b then a else b)))
    | _ => none)
  | .builtin .max => (match evs ev c.args.toList with
    | some [.int k a, .int _ b] => some (.pure (.int k (bif intLe a b then b else a)))
    | _ => none)
  | _ => none)
/-- an operation that reads at most one block, and writes none -/
def light0 (ev : Operand → Option AVal) (op : Op) : Option LRes :=
  match op with
  | .move x | .assign x => lMove ev x
  | .pick c a b => lPick ev c a b
  | .alloc t => lAlloc P ev t
  | .box t x => lBox ev t x
  | .build t parts => lBuild P ev t parts
  | .buildSlice t len parts => lBuildSlice P ev t len parts
  | .load t a => lLoad P ev t a
  | .nilCheck x => lNilCheck ev x
  | .binOp op t x y _ => lBinOp P ev op t x y
  | .unOp op _ x => lUnOp ev op x
  | .convert s d x => lConvert P ev s d x
  | .sliceToArrayPointer t x => lSliceToArrayPointer P ev t x
  | .makeFunc (.func f) first captured => lMakeFunc ev f first captured
  | .makeMap t r => lMakeMap ev t r
  | .lookup t x i ok => lLookup P ev t x i ok
  | .makeSlice t l c => lMakeSlice P ev t l c
  | .slice t x lo hi mx => lSlice P ev t x lo hi mx
  | .fieldAddr s x f => lFieldAddr P ev s x f
  | .field t x f => lField P ev t x f
  | .indexAddr t x i => lIndexAddr P ev t x i
  | .index t x i => lIndex P ev t x i
  | .extract x i => lExtract ev x i
  | .call c => lCall P ev c
  | _ => none

def loI : IntKind → Int
  | .i8 => -128
  | .i16 => -32768
  | .i32 => -2147483648
  | .i64 => -9223372036854775808
  | _ => 0
def hiI : IntKind → Int
  | .i8 => 127
  | .i16 => 32767
  | .i32 => 2147483647
  | .i64 => 9223372036854775807
  | .u8 => 255
  | .u16 => 65535
  | .u32 => 4294967295
  | .u64 => 18446744073709551615
def modI : IntKind → Int
  | .i8 | .u8 => 256
  | .i16 | .u16 => 65536
  | .i32 | .u32 => 4294967296
  | .i64 | .u64 => 18446744073709551616
/-- an int that its kind holds -/
def inR (k : IntKind) (z : Int) : Prop := loI k ≤ z ∧ z ≤ hiI k
def isU : IntKind → Bool
  | .u8 | .u16 | .u32 | .u64 => true
  | _ => false
def subK (j k : IntKind) : Bool := intLe (loI k) (loI j) && intLe (hiI j) (hiI k)
def asZ : AVal → Option (IntKind × Int)
  | .int k z => some (k, z)
  | .sint k z => some (k, z)
  | _ => none
/-- an int within its kind -/
def asR : AVal → Option (IntKind × Int)
  | .int k z => bif intLe (loI k) z && intLe z (hiI k) then some (k, z) else none
  | .sint k z => some (k, z)
  | _ => none
/-- as an index: the int, and the number -/
def asN : AVal → Option (Int × Nat)
  | .int _ (.ofNat n) => some (.ofNat n, n)
  | .sint _ z => some (z, z.toNat)
  | _ => none
def asBo : AVal → Option Bool
  | .bool b => some b
  | .sbool b => some b
  | _ => none
def asB : AVal → Option (List UInt8)
  | .str l => some (l.map UInt8.ofNat)
  | .sstr l => some l
  | _ => none
def pureS (ob : OP) (v : AVal) : Option (OP × LRes) := some (ob, .pure v)
def wrapS (k : IntKind) (z : Int) : Option (OP × LRes) := bif isU k then pureS none (.sint k (z % modI k)) else pureS (some (inR k z)) (.sint k z)
def sInt (op : BinOp) (k : IntKind) (a b : Int) : Option (OP × LRes) :=
  match op with
  | .add => wrapS k (a + b)
  | .sub => wrapS k (a - b)
  | .mul => wrapS k (a * b)
  | .quo => pureS (some (0 ≤ a ∧ 0 < b)) (.sint k (a / b))
  | .rem => pureS (some (0 ≤ a ∧ 0 < b)) (.sint k (a % b))
  | .and => pureS (some (0 ≤ a ∧ 0 ≤ b)) (.sint k ((a.toNat &&& b.toNat : Nat) : Int))
  | .or => pureS (some (0 ≤ a ∧ 0 ≤ b)) (.sint k ((a.toNat ||| b.toNat : Nat) : Int))
  | .xor => pureS (some (0 ≤ a ∧ 0 ≤ b)) (.sint k ((a.toNat ^^^ b.toNat : Nat) : Int))
  | .eql => pureS none (.sbool (decide (a = b)))
  | .neq => pureS none (.sbool (decide (a ≠ b)))
  | .lss => pureS none (.sbool (decide (a < b)))
  | .leq => pureS none (.sbool (decide (a ≤ b)))
  | .gtr => pureS none (.sbool (decide (b < a)))
  | .geq => pureS none (.sbool (decide (b ≤ a)))
  | _ => none
def maxSh : IntKind → Int
  | .i8 | .u8 => 8
  | .i16 | .u16 => 16
  | .i32 | .u32 => 32
  | .i64 | .u64 => 64
def sShl (k : IntKind) (a b : Int) : Option (OP × LRes) := bif isU k then pureS (some (0 ≤ b)) (.sint k (a * 2 ^ b.toNat % modI k)) else pureS (some ((0 ≤ b ∧ b ≤ maxSh k) ∧ inR k (a * 2 ^ b.toNat))) (.sint k (a * 2 ^ b.toNat))
def sShr (k : IntKind) (a b : Int) : Option (OP × LRes) := pureS (some (0 ≤ a ∧ 0 ≤ b)) (.sint k (a / 2 ^ b.toNat))
def sBool (op : BinOp) (a b : Bool) : Option (OP × LRes) :=
  match op with
  | .eql => pureS none (.sbool (a == b))
  | .neq => pureS none (.sbool (a != b))
  | _ => none
def sStr (op : BinOp) (a b : List UInt8) : Option (OP × LRes) :=
  match op with
  | .add => pureS (some (a.length + b.length ≤ 9223372036854775807)) (.sstr (a ++ b))
  | .eql => pureS none (.sbool (decide (a = b)))
  | .neq => pureS none (.sbool (decide (a ≠ b)))
  | _ => none
def eqS : List AVal → List AVal → Option Bool
  | [], [] => some true
  | x :: xs, y :: ys => (match asZ x, asZ y, eqS xs ys with
    | some (j, a), some (k, b), some r => bif kindEq j k then some (decide (a = b) && r) else none
    | _, _, _ => none)
  | _, _ => none
def sEqArr (t : TypeId) (x y : List AVal) : Option Bool :=
  match P.underlying t with
  | some (.array n e) => (match P.underlying e, sizeA P e with
    | some (.int _), some 1 => bif Nat.beq (lenL x 0) n && Nat.beq (lenL y 0) n then eqS x y else none
    | _, _ => none)
  | _ => none
def sEq (op : BinOp) (t : TypeId) (x y : AVal) : Option (OP × LRes) :=
  match x, y with
  | .agg x, .agg y => (match sEqArr P t x y with
    | some r => (match op with
      | .eql => pureS none (.sbool r)
      | .neq => pureS none (.sbool (!r))
      | _ => none)
    | none => none)
  | .sslice _ n _ _ _, .slice none _ _ _ _ => (match op, P.underlying t with
    | .eql, some (.slice _) => pureS (some (0 < n)) (.bool false)
    | .neq, some (.slice _) => pureS (some (0 < n)) (.bool true)
    | _, _ => none)
  | _, _ => none
def isBo (t : TypeId) : Bool := match P.underlying t with | some .bool => true | _ => false
def sBin (ev : Operand → Option AVal) (op : BinOp) (t : TypeId) (x y : Operand) : Option (OP × LRes) :=
  match ev x, ev y with
  | some a, some b => (match asR a, asR b with
    | some (k, p), some (k', q) => (match op with
      | .shl => sShl k p q
      | .shr => sShr k p q
      | _ => bif kindEq k k' then sInt op k p q else none)
    | _, _ => (match asBo a, asBo b with
      | some p, some q => bif isBo P t then sBool op p q else none
      | _, _ => (match asB a, asB b with
        | some p, some q => sStr op p q
        | _, _ => sEq P op t a b)))
  | _, _ => none
def sUn (ev : Operand → Option AVal) (op : UnOp) (x : Operand) : Option (OP × LRes) :=
  match op, ev x with
  | .not, some (.sbool b) => pureS none (.sbool (!b))
  | .neg, some (.sint k z) => wrapS k (0 - z)
  | .xor, some (.sint k z) => bif isU k then pureS none (.sint k (hiI k - z)) else none
  | _, _ => none
def sPick (ev : Operand → Option AVal) (c a b : Operand) : Option (OP × LRes) :=
  match ev c with
  | some (.sbool cb) => (match (bif cb then ev a else ev b) with | some v => some (none, .pure v) | none => none)
  | _ => none
def sConv (ev : Operand → Option AVal) (s d : TypeId) (x : Operand) : Option (OP × LRes) :=
  match P.underlying s, P.underlying d, ev x with
  | some _, some (.int k), some (.sint j z) => bif subK j k then pureS none (.sint k z) else bif isU k then pureS none (.sint k (z % modI k)) else pureS (some (inR k z)) (.sint k z)
  | some .string, some .string, some (.sstr l) => pureS none (.sstr l)
  | some .string, some (.slice e), some (.sstr l) => bif isU8 P e then some (some (l.length ≤ 1048576), .new (.sbytes l e) fun r => .sslice (r, 0) l.length l.length false 1) else none
  | some (.slice e), some .string, some (.sslice a n _ _ _) => (match cvText P e (some a) n with | some r => some (none, r) | none => none)
  | _, _, _ => none
def sIndexAddr (ev : Operand → Option AVal) (t : TypeId) (x i : Operand) : Option (OP × LRes) :=
  match P.underlying t, ev x, ev i with
  | some (.array len e), some (.ptr (some (b, o))), some v => (match sizeA P e, asN v with
    | some s, some (z, n) => pureS (some (0 ≤ z ∧ z < len)) (.ptr (some (b, o + n * s)))
    | _, _ => none)
  | some (.slice e), some (.slice (some (b, o)) len _ _ _), some v => (match sizeA P e, asN v with
    | some s, some (z, n) => pureS (some (0 ≤ z ∧ z < len)) (.ptr (some (b, o + n * s)))
    | _, _ => none)
  | some (.slice e), some (.sslice (b, o) len _ _ _), some v => (match sizeA P e, asN v with
    | some s, some (z, n) => pureS (some (0 ≤ z ∧ z < len)) (.ptr (some (b, o + n * s)))
    | _, _ => none)
  | _, _, _ => none
def sIndex (ev : Operand → Option AVal) (t : TypeId) (x i : Operand) : Option (OP × LRes) :=
  match P.underlying t, ev x, ev i with
  | some .string, some x, some v => (match asB x, asN v with
    | some l, some (z, n) => pureS (some (0 ≤ z ∧ z < l.length)) (.sint .u8 ((l.getD n 0).toNat : Int))
    | _, _ => none)
  | _, _, _ => none
/-- a bound of a slice expression: what must be so, and the number -/
def bnd (x : Option AVal) (d : Nat) : Option (Prop × Nat) :=
  match x with
  | none => some (True, d)
  | some v => (match asN v with | some (z, n) => some (0 ≤ z, n) | none => none)
def sSliceP (n len cap : Nat) (ex : Bool) (a : Nat × Nat) (lo hi mx : Option AVal) : Option (OP × LRes) :=
  match bnd mx cap, bnd hi len, bnd lo 0 with
  | some (pm, m), some (ph, h), some (pl, l) => bif isNone hi && !isNone mx then none else
    pureS (some (pm ∧ ph ∧ pl ∧ l ≤ h ∧ h ≤ m ∧ m ≤ cap)) (.sslice (a.1, a.2 + l * n) (h - l) (m - l) (bif isNone mx then ex else true) n)
  | _, _, _ => none
def sSlice (ev : Operand → Option AVal) (t : TypeId) (x : Operand) (lo hi mx : Option Operand) : Option (OP × LRes) :=
  match ev x, evo ev lo, evo ev hi, evo ev mx with
  | some x, some lo, some hi, some mx => (match P.underlying t with
    | some .string => (match asB x, bnd lo 0, mx with
      | some s, some (pl, l), none => (match bnd hi s.length with
        | some (ph, h) => pureS (some (ph ∧ pl ∧ l ≤ h ∧ h ≤ s.length)) (.sstr ((s.take h).drop l))
        | none => none)
      | _, _, _ => none)
    | some (.slice e) => (match sizeA P e, x with
      | some n, .slice (some a) len cap ex z => bif ex || Nat.beq z n then sSliceP n len cap ex a lo hi mx else none
      | some n, .sslice a len cap ex z => bif Nat.beq z n then sSliceP n len cap ex a lo hi mx else none
      | _, _ => none)
    | some (.array k e) => (match sizeA P e, x with
      | some n, .ptr (some a) => sSliceP n k k true a lo hi mx
      | _, _ => none)
    | _ => none)
  | _, _, _, _ => none
def zeroIs (k : IntKind) : AVal → Bool
  | .int j z => kindEq j k && intBeq z 0
  | _ => false
def sMake (ev : Operand → Option AVal) (t : TypeId) (l c : Operand) : Option (OP × LRes) :=
  match P.underlying t, ev l, ev c with
  | some (.slice e), some l, some c => (match asN l, asN c, P.underlying e, sizeA P e with
    | some (x, n), some (y, m), some (.int k), some 1 => (match zeroA P e with
      | some z => bif zeroIs k z && Nat.ble (P.bytesOf e) 1048576 then (bif isU8 P e then some (some (0 ≤ x ∧ x ≤ y ∧ y ≤ 1048576), .new (.sbytes (List.replicate m 0) e) fun r => .sslice (r, 0) n m true 1)
        else some (some (0 ≤ x ∧ x ≤ y ∧ y ≤ 1048576), .new (.sints k (List.replicate m 0) e) fun r => .sslice (r, 0) n m true 1)) else none
      | none => none)
    | _, _, _, _ => none)
  | _, _, _ => none
def sCall (ev : Operand → Option AVal) (c : Call) : Option (OP × LRes) :=
  match c.callee with
  | .builtin .len => (match c.argTypes[0]?, c.args[0]? with
    | some t, some x => (match P.underlying t, ev x with
      | some .string, some (.sstr l) => pureS (some (l.length ≤ 9223372036854775807)) (.sint .i64 (l.length : Int))
      | some (.slice _), some (.sslice _ n _ _ _) => pureS (some (n ≤ 9223372036854775807)) (.sint .i64 (n : Int))
      | _, _ => none)
    | _, _ => none)
  | .builtin .min => (match evs ev c.args.toList with
    | some [x, y] => (match asR x, asR y with
      | some (k, a), some (k', b) => bif kindEq k k' then pureS none (.sint k (min a b)) else none
      | _, _ => none)
    | _ => none)
  | .builtin .max => (match evs ev c.args.toList with
    | some [x, y] => (match asR x, asR y with
      | some (k, a), some (k', b) => bif kindEq k k' then pureS none (.sint k (max a b)) else none
      | _, _ => none)
    | _ => none)
  | _ => none
/-- an operation on what is known by terms -/
def sym (ev : Operand → Option AVal) (op : Op) : Option (OP × LRes) :=
  match op with
  | .pick c a b => sPick ev c a b
  | .binOp op t x y _ => sBin P ev op t x y
  | .unOp op _ x => sUn ev op x
  | .convert s d x => sConv P ev s d x
  | .makeSlice t l c => sMake P ev t l c
  | .slice t x lo hi mx => sSlice P ev t x lo hi mx
  | .indexAddr t x i => sIndexAddr P ev t x i
  | .index t x i => sIndex P ev t x i
  | .call c => sCall P ev c
  | _ => none
def tIndexAddr (ev : Operand → Option AVal) (t : TypeId) (x i : Operand) : Option (OP × LRes) :=
  match P.underlying t, ev x, ev i with
  | some (.slice e), some (.tslice b i0 len _ _ wd), some v => (match sizeA P e, asN v with
    | some s, some (z, n) => bif Nat.beq s wd then pureS (some (0 ≤ z ∧ z < len)) (.tptr b (i0 + n) wd 0) else none
    | _, _ => none)
  | some (.slice e), some (.pbytes l), some v => (match sizeA P e, asN v with
    | some s, some (z, n) => bif Nat.beq s 1 then pureS (some (0 ≤ z ∧ z < l.length)) (.pptr l n) else none
    | _, _ => none)
  | _, _, _ => none
def tFieldAddr (ev : Operand → Option AVal) (s : TypeId) (x : Operand) (f : Nat) : Option (OP × LRes) :=
  match P.underlying s, ev x with
  | some (.struct fs), some (.tptr b i wd c) => (match fs[f]? with
    | some fl => (match sizeA P fl.type with | some n => bif Nat.beq n 0 then none else pureS none (.tptr b i wd (c + fl.offset)) | none => none)
    | none => none)
  | _, _ => none
def tLoad (ev : Operand → Option AVal) (t : TypeId) (a : Operand) : Option (OP × LRes) :=
  match ev a with
  | some (.tptr b i wd c) => some (none, .read b fun | .tab n cs _ => bif Nat.beq (lenL cs 0) wd then (match partA P t (rowT i cs) c with | some v => some (some (i < n), v) | none => none) else none | _ => none)
  | some (.pptr l i) => (match P.underlying t with
    | some (.int .u8) => some (some (i < l.length), .peek (.sint .u8 ((l.getD i 0).toNat : Int)))
    | _ => none)
  | _ => none
def tNilCheck (ev : Operand → Option AVal) (x : Operand) : Option (OP × LRes) :=
  match ev x with
  | some (.tptr b i wd c) => pureS none (.tptr b i wd c)
  | _ => none
def tConv (ev : Operand → Option AVal) (s d : TypeId) (x : Operand) : Option (OP × LRes) :=
  match P.underlying s, P.underlying d, ev x with
  | some (.slice e), some .string, some (.pbytes l) => bif isU8 P e then some (none, .peek (.sstr l)) else none
  | _, _, _ => none
def tSlice (ev : Operand → Option AVal) (t : TypeId) (x : Operand) (lo hi mx : Option Operand) : Option (OP × LRes) :=
  match P.underlying t, ev x, evo ev lo, evo ev hi, mx with
  | some (.slice e), some (.pbytes s), some lo, some hi, none => (match sizeA P e, bnd lo 0, bnd hi s.length with
    | some 1, some (pl, l), some (ph, h) => pureS (some (ph ∧ pl ∧ l ≤ h ∧ h ≤ s.length)) (.pbytes ((s.take h).drop l))
    | _, _, _ => none)
  | _, _, _, _, _ => none
def tSliceP (wd i0 len cap : Nat) (ex : Bool) (b : Nat) (lo hi mx : Option AVal) : Option (OP × LRes) :=
  match bnd mx cap, bnd hi len, bnd lo 0 with
  | some (pm, m), some (ph, h), some (pl, l) => bif isNone hi && !isNone mx then none else
    pureS (some (pm ∧ ph ∧ pl ∧ l ≤ h ∧ h ≤ m ∧ m ≤ cap)) (.tslice b (i0 + l) (h - l) (m - l) (bif isNone mx then ex else true) wd)
  | _, _, _ => none
/-- a part of a table's rows -/
def tSliceT (ev : Operand → Option AVal) (t : TypeId) (x : Operand) (lo hi mx : Option Operand) : Option (OP × LRes) :=
  match P.underlying t, ev x, evo ev lo, evo ev hi, evo ev mx with
  | some (.slice e), some (.tslice b i0 len cap ex wd), some lo, some hi, some mx => (match sizeA P e with
    | some s => bif Nat.beq s wd then tSliceP wd i0 len cap ex b lo hi mx else none
    | none => none)
  | _, _, _, _, _ => none
def tCall (ev : Operand → Option AVal) (c : Call) : Option (OP × LRes) :=
  match c.callee with
  | .builtin .len => (match c.argTypes[0]?, c.args[0]? with
    | some t, some x => (match P.underlying t, ev x with
      | some (.slice _), some (.pbytes l) => pureS (some (l.length ≤ 9223372036854775807)) (.sint .i64 (l.length : Int))
      | some (.slice _), some (.tslice _ _ n _ _ _) => pureS (some (n ≤ 9223372036854775807)) (.sint .i64 (n : Int))
      | _, _ => none)
    | _, _ => none)
  | _ => none
def tLookup (ev : Operand → Option AVal) (t : TypeId) (x i : Operand) (ok : Bool) : Option (OP × LRes) :=
  match P.underlying t, ev x, ev i with
  | some (.map kt et), some (.map (some r)), some (.sint j q) => (match zeroA P et, P.underlying kt with
    | some z, some (.int j') => bif kindEq j j' then some (none, .read r (lookM (.sint j q) z ok)) else none
    | _, _ => none)
  | _, _, _ => none
/-- an operation on tables, and on bytes that nobody changes any more -/
def tabs (ev : Operand → Option AVal) (op : Op) : Option (OP × LRes) :=
  match op with
  | .indexAddr t x i => tIndexAddr P ev t x i
  | .fieldAddr s x f => tFieldAddr P ev s x f
  | .load t a => tLoad P ev t a
  | .nilCheck x => tNilCheck ev x
  | .convert s d x => tConv P ev s d x
  | .slice t x lo hi mx => (match tSlice P ev t x lo hi mx with | some r => some r | none => tSliceT P ev t x lo hi mx)
  | .lookup t x i ok => tLookup P ev t x i ok
  | .call c => tCall P ev c
  | _ => none
def lightP (ev : Operand → Option AVal) (op : Op) : Option (OP × LRes) :=
  match light0 P ev op with
  | some r => some (none, r)
  | none => (match sym P ev op with
    | some r => some r
    | none => tabs P ev op)
noncomputable def light (ev : Operand → Option AVal) (op : Op) : Option LRes := got (lightP P ev op)

/-- who is called -/
inductive Who where
  | fn (f : FuncId)
  | yield (x : Nat)
/-- what an operation does that is more than that -/
inductive Heavy where
  | store (t : TypeId) (a : Nat × Nat) (v : AVal)
  | enter (f : Who) (args : List AVal)
  | append (e : TypeId) (base : AVal) (src : AVal)
  | copy (e : TypeId) (dst src : AVal)
  | clear (e : TypeId) (s : AVal)
  | mapPut (t : TypeId) (r : Nat) (k v : AVal)
  | mapDel (t : TypeId) (r : Nat) (k : AVal)
  | storeT (t : TypeId) (b i wd c : Nat) (v : AVal)
def heavy (ev : Operand → Option AVal) (op : Op) : Option Heavy :=
  match op with
  | .store t a x => (match ev a, ev x with | some (.ptr (some p)), some v => some (.store t p v) | some (.tptr b i wd c), some v => some (.storeT t b i wd c v) | _, _ => none)
  | .mapUpdate t m k x => (match ev m, ev k, ev x with | some (.map (some r)), some kk, some v => some (.mapPut t r kk v) | _, _, _ => none)
  | .call c => (match c.callee with
    | .value f => (match ev f, evs ev c.args.toList with | some (.func f first captured), some vs => some (.enter (.fn f) (first ++ vs ++ captured)) | some (.yield x), some vs => some (.enter (.yield x) vs) | _, _ => none)
    | .builtin .append => (match c.argTypes[0]?, c.argTypes[1]?, evs ev c.args.toList with
      | some t, some t2, some [s, x] => (match P.underlying t with
        | some (.slice e) => (match P.underlying t2 with
          | some .string => some (.append e s x)
          | some (.slice _) => some (.append e s x)
          | _ => none)
        | _ => none)
      | _, _, _ => none)
    | .builtin .copy => (match c.argTypes[0]?, evs ev c.args.toList with
      | some t, some [s, x] => (match P.underlying t with | some (.slice e) => some (.copy e s x) | _ => none)
      | _, _ => none)
    | .builtin .clear => (match c.argTypes[0]?, evs ev c.args.toList with
      | some t, some [s] => (match P.underlying t with | some (.slice e) => some (.clear e s) | _ => none)
      | _, _ => none)
    | .builtin .delete => (match c.argTypes[0]?, evs ev c.args.toList with
      | some t, some [m, k] => (match m with | .map (some r) => some (.mapDel t r k) | _ => none)
      | _, _ => none)
    | _ => none)
  | _ => none
variable (RO : PT AObj)
noncomputable def rd (st : St) (b : Nat) : Option AObj := match st.heap.get b with | some o => some o | none => RO.get b
noncomputable def doLight (st : St) : LRes → Option (AVal × St)
  | .pure v => some (v, st)
  | .peek v => some (v, st)
  | .read b k => (match rd RO st b with | some o => (match got (k o) with | some v => some (v, st) | none => none) | none => none)
  | .new o k => some (k st.next, { heap := st.heap.set st.next (some o), next := Nat.succ st.next, log := st.log })
  | .touch b v => (match st.heap.get b with | some (.cells _ _) => some (v, st) | _ => none)
noncomputable def cellsOfSrc (st : St) (size n : Nat) : AVal → Option (List AVal)
  | .slice none _ _ _ _ => bif Nat.beq n 0 then some [] else none
  | .slice (some (b, o)) _ _ _ _ => (match rd RO st b with | some (.cells l _) => slicedL l o (n * size) | _ => none)
  | .str l => bif Nat.beq size 1 then some ((l.take n).map fun (c : Nat) => .int .u8 c) else none
  | _ => none
def lenSrc : AVal → Option Nat
  | .slice _ n _ _ _ => some n
  | .str l => some (lenL l 0)
  | _ => none
def oneA : List AVal → Bool
  | [] => true
  | v :: vs => match v with
    | .agg _ => false
    | .tuple _ => false
    | _ => oneA vs
noncomputable def storeA0 (st : St) (b o : Nat) (vs : List AVal) : Option St :=
  match st.heap.get b with
  | some (.cells l t) => (match bif oneA vs then putAt l o vs else none with | some l' => some { heap := st.heap.set b (some (.cells l' t)), next := st.next, log := b :: st.log } | none => none)
  | _ => none
noncomputable def putObj (st : St) (b : Nat) (o : AObj) : St := { heap := st.heap.set b (some o), next := st.next, log := b :: st.log }
/-- a store to a row that is known by a term -/
noncomputable def storeS (st : St) (b o : Nat) (vs : List AVal) : Option (OP × St) :=
  match st.heap.get b, vs with
  | some (.sbytes l t), [v] => (match asR v with
    | some (.u8, z) => some (some (o < l.length), putObj st b (.sbytes (l.set o (UInt8.ofNat z.toNat)) t))
    | _ => none)
  | some (.sints k l t), [v] => (match asR v with
    | some (j, z) => bif kindEq j k then some (some (o < l.length), putObj st b (.sints k (l.set o z) t)) else none
    | _ => none)
  | _, _ => none
noncomputable def storeP (st : St) (b o : Nat) (vs : List AVal) : Option (OP × St) :=
  match storeA0 st b o vs with
  | some st' => some (none, st')
  | none => storeS st b o vs
noncomputable def storeA (st : St) (b o : Nat) (vs : List AVal) : Option St := got (storeP st b o vs)
/-- bytes of values -/
def bytesS : List AVal → Option (List UInt8)
  | [] => some []
  | v :: l => match asR v, bytesS l with
    | some (.u8, z), some r => some (UInt8.ofNat z.toNat :: r)
    | _, _ => none
def objB (o n : Nat) : Option AObj → Option (OP × List UInt8)
  | some (.sbytes l _) => some (some (o + n ≤ l.length), (l.drop o).take n)
  | some (.cells l _) => (match bytesS l with | some q => some (some (o + n ≤ q.length), (q.drop o).take n) | none => none)
  | _ => none
/-- all its bytes -/
def objL : AObj → Option (List UInt8 × TypeId)
  | .sbytes l t => some (l, t)
  | .cells l t => (match bytesS l with | some q => some (q, t) | none => none)
  | _ => none
/-- how many cells an object of bytes has -/
def objN : AObj → Nat
  | .sbytes l _ => l.length
  | .cells l _ => lenL l 0
  | _ => 0
noncomputable def srcB (st : St) : AVal → Option (OP × List UInt8)
  | .slice none _ _ _ _ => some (none, [])
  | .slice (some (b, o)) n _ _ _ => objB o n (rd RO st b)
  | .sslice (b, o) n _ _ _ => objB o n (rd RO st b)
  | .str l => some (none, l.map UInt8.ofNat)
  | .sstr l => some (none, l)
  | .pbytes l => some (none, l)
  | _ => none
def lenB : AVal → Nat
  | .slice none _ _ _ _ => 0
  | .slice _ n _ _ _ => n
  | .sslice _ n _ _ _ => n
  | .str l => l.length
  | .sstr l => l.length
  | .pbytes l => l.length
  | _ => 0
def andP : OP → Prop → OP
  | none, q => some q
  | some p, q => some (p ∧ q)
/-- a type of bytes, as they are laid -/
def byteT (e : TypeId) : Bool := isU8 P e && Nat.ble (P.bytesOf e) 1048576 && (match zeroA P e, sizeA P e with | some z, some 1 => zeroIs .u8 z | _, _ => false)
/-- an exact one must have room: else it may stand anywhere -/
def room (ex : Bool) (cap : Nat) (ob : OP) : OP := match ex with
  | true => andP ob (0 < cap)
  | false => ob
/-- append of bytes, whatever many: the base's block is no longer spoken of -/
noncomputable def appendG (st : St) (e : TypeId) (n : Nat) (ob : OP) (new : List UInt8) (b o len cap : Nat) (ex : Bool) (z : Nat) : Option (OP × AVal × St) :=
  match st.heap.get b with
  | none => none
  | some obj => (match objB o len (some obj) with
    | none => none
    | some (ob2, old) => bif Nat.beq z 1 then some (andP ob (ob2.ok ∧ len + n ≤ 65536 ∧ (ex = true → o + cap ≤ objN obj)), .sslice (st.next, 0) (len + n) (len + n) false 1,
        { heap := (st.heap.set b none).set st.next (some (.sbytes (old ++ new) e)), next := Nat.succ st.next, log := b :: st.log }) else none)
noncomputable def appendB (st : St) (e : TypeId) (s x : AVal) : Option (OP × AVal × St) :=
  bif byteT P e then
    (match srcB RO st x with
    | none => none
    | some (ob, new) => (match s with
      | .slice none _ _ _ _ => some (andP ob (lenB x ≤ 65536), .sslice (st.next, 0) (lenB x) (lenB x) false 1, { heap := st.heap.set st.next (some (.sbytes new e)), next := Nat.succ st.next, log := st.log })
      | .slice (some (b, o)) len cap ex z => appendG st e (lenB x) ob new b o len cap ex z
      | .sslice (b, o) len cap ex z => appendG st e (lenB x) (room ex cap ob) new b o len cap ex z
      | _ => none))
  else none
/-- ints of values -/
def intsS (k : IntKind) : List AVal → Option (List Int)
  | [] => some []
  | v :: l => match asR v, intsS k l with
    | some (j, z), some r => bif kindEq j k then some (z :: r) else none
    | _, _ => none
def objI (k : IntKind) (o n : Nat) : Option AObj → Option (OP × List Int)
  | some (.sints j l _) => bif kindEq j k then some (some (o + n ≤ l.length), (l.drop o).take n) else none
  | some (.cells l _) => (match intsS k l with | some q => some (some (o + n ≤ q.length), (q.drop o).take n) | none => none)
  | _ => none
def objM : AObj → Nat
  | .sints _ l _ => l.length
  | .cells l _ => lenL l 0
  | _ => 0
noncomputable def srcI (k : IntKind) (st : St) : AVal → Option (OP × List Int)
  | .slice none _ _ _ _ => some (none, [])
  | .slice (some (b, o)) n _ _ _ => objI k o n (rd RO st b)
  | .sslice (b, o) n _ _ _ => objI k o n (rd RO st b)
  | _ => none
def zero1 (e : TypeId) (k : IntKind) : Bool := match zeroA P e, sizeA P e with | some z, some 1 => zeroIs k z | _, _ => false
/-- a type of ints, as they are laid -/
def intT (e : TypeId) : Option IntKind := match P.underlying e with
  | some (.int k) => bif Nat.ble (P.bytesOf e) 1048576 && zero1 P e k then some k else none
  | _ => none
/-- append of ints, whatever many -/
noncomputable def appendJ (st : St) (e : TypeId) (k : IntKind) (n : Nat) (ob : OP) (new : List Int) (b o len cap : Nat) (ex : Bool) (z : Nat) : Option (OP × AVal × St) :=
  match st.heap.get b with
  | none => none
  | some obj => (match objI k o len (some obj) with
    | none => none
    | some (ob2, old) => bif Nat.beq z 1 then some (andP ob (ob2.ok ∧ len + n ≤ 65536 ∧ (ex = true → o + cap ≤ objM obj)), .sslice (st.next, 0) (len + n) (len + n) false 1,
        { heap := (st.heap.set b none).set st.next (some (.sints k (old ++ new) e)), next := Nat.succ st.next, log := b :: st.log }) else none)
noncomputable def appendI (st : St) (e : TypeId) (s x : AVal) : Option (OP × AVal × St) :=
  match intT P e with
  | none => none
  | some k => (match srcI RO k st x with
    | none => none
    | some (ob, new) => (match s with
      | .slice none _ _ _ _ => some (andP ob (lenB x ≤ 65536), .sslice (st.next, 0) (lenB x) (lenB x) false 1, { heap := st.heap.set st.next (some (.sints k new e)), next := Nat.succ st.next, log := st.log })
      | .slice (some (b, o)) len cap ex z => appendJ st e k (lenB x) ob new b o len cap ex z
      | .sslice (b, o) len cap ex z => appendJ st e k (lenB x) (room ex cap ob) new b o len cap ex z
      | _ => none))
/-- a row, so many of new put in at o -/
def cpyL (l : List UInt8) (o m : Nat) (new : List UInt8) : List UInt8 := l.take o ++ new.take m ++ l.drop (o + m)
/-- copy of bytes, whatever many -/
noncomputable def copyG (st : St) (n : Nat) (ob : OP) (new : List UInt8) (b o len : Nat) : Option (OP × AVal × St) :=
  match st.heap.get b with
  | none => none
  | some obj => (match objB o len (some obj), objL obj with
    | some (ob2, _), some (l, t) => some (andP ob (ob2.ok ∧ min n len ≤ 9223372036854775807), .sint .i64 ((min n len : Nat) : Int), putObj st b (.sbytes (cpyL l o (min n len) new) t))
    | _, _ => none)
noncomputable def copyB (st : St) (e : TypeId) (d x : AVal) : Option (OP × AVal × St) :=
  bif byteT P e then
    (match srcB RO st x with
    | none => none
    | some (ob, new) => (match d with
      | .slice (some (b, o)) len _ _ _ => copyG st (lenB x) ob new b o len
      | .sslice (b, o) len _ _ _ => copyG st (lenB x) ob new b o len
      | _ => none))
  else none

noncomputable def growA (st : St) (e : TypeId) (size n : Nat) (exact : Bool) (base : Option (Nat × Nat)) (all : List AVal) : Option (AVal × St) :=
  match exact, base with
  | false, some (b, _) => (match st.heap.get b with
    | some (.cells _ _) => some (.slice (some (st.next, 0)) n n false size, { heap := (st.heap.set b none).set st.next (some (.cells all e)), next := Nat.succ st.next, log := b :: st.log })
    | _ => none)
  | _, _ => some (.slice (some (st.next, 0)) n n false size, { heap := st.heap.set st.next (some (.cells all e)), next := Nat.succ st.next, log := st.log })
noncomputable def putInA (st : St) (size len n cap : Nat) (exact : Bool) (base : Option (Nat × Nat)) (new : List AVal) : Option (AVal × St) :=
  match base with
  | none => bif Nat.beq (len + n) 0 then some (.slice none 0 0 true size, st) else none
  | some (b, o) => (match storeA st b (o + len * size) new with
    | some st' => some (.slice (some (b, o)) (len + n) cap exact size, st')
    | none => none)
noncomputable def appendA (st : St) (e : TypeId) (s x : AVal) : Option (AVal × St) :=
  match sizeA P e, zeroA P e, s, lenSrc x with
  | some size, some zero, .slice base len cap exact z, some n =>
    bif Nat.blt 65536 (len + n) || Nat.beq size 0 || Nat.blt 1048576 (P.bytesOf e) || !(exact || Nat.beq z size) || !(Nat.beq (lenL zero.cells 0) size) then none else
    (match cellsOfSrc RO st size n x with
    | none => none
    | some new =>
      bif !(oneA new) then none else bif Nat.ble (len + n) cap then putInA st size len n cap exact base new
      else (match cellsOfSrc RO st size len s with
        | none => none
        | some old => growA st e size (len + n) exact base (old ++ new)))
  | _, _, _, _ => none
noncomputable def copyA (st : St) (e : TypeId) (d x : AVal) : Option (AVal × St) :=
  match sizeA P e, d, lenSrc x with
  | some size, .slice base len _ _ _, some m =>
    let n := bif Nat.ble m len then m else len
    (match cellsOfSrc RO st size n x with
    | none => none
    | some cs => (match base with
      | none => some (.int .i64 n, st)
      | some (b, o) => (match storeA st b o cs with | some st' => some (.int .i64 n, st') | none => none)))
  | _, _, _ => none

noncomputable def clearA (st : St) (e : TypeId) (s : AVal) : Option (AVal × St) :=
  match s with
  | .slice base len _ _ _ => bif Nat.beq len 0 then some (.tuple [], st) else
    (match base, zeroA P e with
    | some (b, o), some z => (match z.cells with
      | [z1] => (match storeA st b o (List.replicate len z1) with | some st' => some (.tuple [], st') | none => none)
      | _ => none)
    | _, _ => none)
  | _ => none
/-- what a frame does when it ends: a loop's block is shut; a deferred function, that recovers alone, is run -/
inductive Mark where
  | blk (x : Nat)
  | fn (f : FuncId)
  /-- so many blocks of loops that came to their end, and are no longer spoken of -/
  | old
/-- a frame: what goes over which it is a round, and the marks of its loops -/
structure Fr where
  round : Option Nat
  marks : List Mark
/-- an operation that recovers -/
def recO (o : Oper) : Bool := match o.guard, o.op with
  | none, .call c => (match c.callee, c.args.toList, c.argTypes.toList with
    | .builtin .recover, [], [] => true
    | _, _, _ => false)
  | _, _ => false
/-- a function that recovers, and does nothing else -/
def quietB (f : FuncId) : Bool := match P.funcs[f]? with
  | some fn => (match fn.body, fn.results.toList with
    | some (.region _ ops false), [] => (match ops.toList with
      | [o] => recO o
      | _ => false)
    | _, _ => false)
  | none => false
/-- a region that defers a function alone -/
def deferOf (fr : Fr) (ops : List Oper) (draws : Bool) : Option FuncId := match ops with
  | [] => none
  | o :: os => (match os with
    | [] => (match o.op with
      | .defer c => (match c.callee, c.args.toList, o.guard, o.dst, draws, fr.round with
        | .value (.func f), [], none, none, false, none => some f
        | _, _, _, _, _, _ => none)
      | _ => none)
    | _ => none)
structure Res where
  ex : Ex
  τ : PT AVal
  st : St
  fr : Fr
noncomputable def evA (τ : PT AVal) : Operand → Option AVal
  | .tmp t => τ.get t
  | .const v => ofValue 4 v
  | .global g => bif Nat.blt g 900 then (match RO.get g with | some _ => some (.ptr (some (g, 0))) | none => none) else none
  | .func f => some (.func f [] [])
noncomputable def putA (n : Nat) (τ : PT AVal) (d : Option Tmp) (v : AVal) : Option (PT AVal) :=
  match d with
  | none => some τ
  | some d => bif Nat.blt d n then some (τ.set d (some v)) else none
noncomputable def wantedA (ops : List Oper) (τ : PT AVal) (o : Oper) : Option Bool :=
  match o.guard with
  | none => some true
  | some (j, want) => (match nth ops j with
    | some oj => (match oj.dst with
      | some d => (match τ.get d with | some (.bool b) => some (b == want) | some (.sbool b) => some (b == want) | some (.tuple []) => some false | _ => none)
      | none => none)
    | none => none)
/-- bytes of one's own are changed no more -/
noncomputable def frz (st : St) (v : AVal) : Option (OP × AVal × St) :=
  match v with
  | .sslice (b, o) n _ _ z => (match st.heap.get b with
    | some (.sbytes l _) => bif Nat.beq o 0 && Nat.beq z 1 then some (some (n = l.length), .pbytes l, { heap := st.heap.set b none, next := st.next, log := b :: st.log }) else none
    | _ => none)
  | .slice (some (b, o)) n _ _ _ => (match st.heap.get b with
    | some (.cells vs _) => (match bytesS vs with
      | some q => bif Nat.beq o 0 && Nat.beq n (lenL vs 0) then some (none, .pbytes q, { heap := st.heap.set b none, next := st.next, log := b :: st.log }) else none
      | none => none)
    | _ => none)
  | .slice none _ _ _ _ => some (none, .pbytes [], st)
  | .pbytes l => some (none, .pbytes l, st)
  | .int k z => some (none, .int k z, st)
  | .sint k z => some (none, .sint k z, st)
  | .bool b => some (none, .bool b, st)
  | .sbool b => some (none, .sbool b, st)
  | .str l => some (none, .str l, st)
  | .sstr l => some (none, .sstr l, st)
  | _ => none
def andO : OP → OP → OP
  | none, q => q
  | some p, none => some p
  | some p, some q => some (p ∧ q)
noncomputable def frzs (st : St) : List AVal → Option (OP × List AVal × St)
  | [] => some (none, [], st)
  | v :: vs => (match frz st v with
    | some (ob, v', st1) => (match frzs st1 vs with | some (ob2, vs', st2) => some (andO ob ob2, v' :: vs', st2) | none => none)
    | none => none)
def TCol.snoc : TCol → AVal → Option TCol
  | .zs k l, v => (match asR v with | some (j, z) => bif kindEq k j then some (.zs k (l ++ [z])) else none | none => none)
  | .bs l, v => (match asBo v with | some b => some (.bs (l ++ [b])) | none => none)
  | .ss l, v => (match asB v with | some b => some (.ss (l ++ [b])) | none => none)
  | .ps l, v => (match v with | .pbytes b => some (.ps (l ++ [b])) | _ => none)
def snocT : List TCol → List AVal → Option (List TCol)
  | [], [] => some []
  | c :: cs, v :: vs => (match c.snoc v, snocT cs vs with | some c', some cs' => some (c' :: cs') | _, _ => none)
  | _, _ => none
def TCol.lenIs (n : Nat) : TCol → Prop
  | .zs _ l => l.length = n
  | .bs l => l.length = n
  | .ss l => l.length = n
  | .ps l => l.length = n
def lensT (n : Nat) : List TCol → Prop
  | [] => True
  | c :: cs => c.lenIs n ∧ lensT n cs
/-- append of a row to a table -/
noncomputable def appendT (st : St) (e : TypeId) (s x : AVal) : Option (OP × AVal × St) :=
  match s, x, sizeA P e, zeroA P e with
  | .tslice b i len _ false wd, .slice (some (sb, so)) m _ _ _, some sz, some zero =>
    (match st.heap.get sb with
    | some (.cells vs _) => (match frzs st vs with
      | some (ob, vs', st1) => (match st1.heap.get b, st1.heap.get sb with
        | some (.tab n cs _), some (.cells _ _) => (match snocT cs vs' with
          | some cs' => bif Nat.beq sz wd && Nat.beq m 1 && Nat.beq so 0 && Nat.beq i 0 && Nat.beq (lenL vs 0) wd && Nat.beq (lenL cs 0) wd && Nat.blt 0 wd && Nat.ble (P.bytesOf e) 1048576 && Nat.beq (lenL zero.cells 0) wd then
              some (andO ob (some (n = len ∧ len + 1 ≤ 65536 ∧ lensT n cs)), .tslice st1.next 0 (len + 1) (len + 1) false wd, { heap := ((st1.heap.set sb none).set b none).set st1.next (some (.tab (len + 1) cs' e)), next := Nat.succ st1.next, log := b :: sb :: st1.log }) else none
          | none => none)
        | _, _ => none)
      | none => none)
    | _ => none)
  | _, _, _, _ => none
/-- a cell of a table's row is put -/
def TCol.setC (i : Nat) : TCol → AVal → Option TCol
  | .zs k l, v => (match asR v with | some (j, z) => bif kindEq k j then some (.zs k (l.set i z)) else none | none => none)
  | .bs l, v => (match asBo v with | some b => some (.bs (l.set i b)) | none => none)
  | .ss l, v => (match asB v with | some b => some (.ss (l.set i b)) | none => none)
  | .ps l, v => (match v with | .pbytes b => some (.ps (l.set i b)) | _ => none)
def setRowT (i : Nat) : List AVal → List TCol → Option (List TCol)
  | [], cs => some cs
  | v :: vs, cs => (match cs with
    | [] => none
    | c :: cs => (match c.setC i v, setRowT i vs cs with | some c', some cs' => some (c' :: cs') | _, _ => none))
def setColT (i : Nat) (vs : List AVal) : Nat → List TCol → Option (List TCol)
  | 0, cs => setRowT i vs cs
  | c + 1, cs => (match cs with
    | [] => none
    | x :: cs => (match setColT i vs c cs with | some cs' => some (x :: cs') | none => none))
noncomputable def storeT (st : St) (b i wd c : Nat) (vs : List AVal) : Option (OP × AVal × St) :=
  match frzs st vs with
  | some (ob, vs', st1) => (match st1.heap.get b with
    | some (.tab n cs t) => (match setColT i vs' c cs with
      | some cs' => bif Nat.beq (lenL cs 0) wd then some (andO ob (some (i < n ∧ lensT n cs)), .undef, putObj st1 b (.tab n cs' t)) else none
      | none => none)
    | _ => none)
  | none => none
/-- rows of a table moved within it: so many from o on are laid at k -/
def TCol.mid (k o m q : Nat) : TCol → TCol
  | .zs j l => .zs j (l.take k ++ ((l.drop o).take m ++ l.drop q))
  | .bs l => .bs (l.take k ++ ((l.drop o).take m ++ l.drop q))
  | .ss l => .ss (l.take k ++ ((l.drop o).take m ++ l.drop q))
  | .ps l => .ps (l.take k ++ ((l.drop o).take m ++ l.drop q))
def midT (k o m q : Nat) : List TCol → List TCol
  | [] => []
  | c :: cs => c.mid k o m q :: midT k o m q cs
/-- rows of another one behind it -/
def TCol.join (o m : Nat) : TCol → TCol → Option TCol
  | .zs k l, d => (match d with | .zs j q => bif kindEq k j then some (.zs k (l ++ (q.drop o).take m)) else none | _ => none)
  | .bs l, d => (match d with | .bs q => some (.bs (l ++ (q.drop o).take m)) | _ => none)
  | .ss l, d => (match d with | .ss q => some (.ss (l ++ (q.drop o).take m)) | _ => none)
  | .ps l, d => (match d with | .ps q => some (.ps (l ++ (q.drop o).take m)) | _ => none)
def joinT (o m : Nat) : List TCol → List TCol → Option (List TCol)
  | [], ds => (match ds with | [] => some [] | _ => none)
  | c :: cs, ds => (match ds with
    | [] => none
    | d :: ds => (match c.join o m d, joinT o m cs ds with | some c', some cs' => some (c' :: cs') | _, _ => none))
def TCol.part (o m : Nat) : TCol → TCol
  | .zs k l => .zs k ((l.drop o).take m)
  | .bs l => .bs ((l.drop o).take m)
  | .ss l => .ss ((l.drop o).take m)
  | .ps l => .ps ((l.drop o).take m)
def partT (o m : Nat) : List TCol → List TCol
  | [] => []
  | c :: cs => c.part o m :: partT o m cs
def rowsOk (e : TypeId) (wd wd' : Nat) (ds : List TCol) : Bool := match sizeA P e, zeroA P e with
  | some sz, some zero => Nat.beq sz wd && Nat.beq wd' wd && Nat.beq (lenL ds 0) wd && Nat.blt 0 wd && Nat.ble (P.bytesOf e) 1048576 && Nat.beq (lenL zero.cells 0) wd
  | _, _ => false
/-- append of a table's rows: to none, to the same table, to another one -/
noncomputable def appendR (st : St) (e : TypeId) (s x : AVal) : Option (OP × AVal × St) :=
  match x with
  | .tslice b' i' m _ _ wd => (match rd RO st b' with
    | some (.tab n' ds _) => (match s with
      | .slice none _ _ _ _ => bif rowsOk P e wd wd ds then some (some (i' + m ≤ n' ∧ m ≤ 65536), .tslice st.next 0 m m false wd, { heap := st.heap.set st.next (some (.tab m (partT i' m ds) e)), next := Nat.succ st.next, log := st.log }) else none
      | .tslice b i len lo false wd' => bif rowsOk P e wd wd' ds then (match st.heap.get b with
        | some (.tab n cs t) => bif Nat.beq (lenL cs 0) wd then
          (bif Nat.beq b b' then some (some (i + len + m ≤ n ∧ i' + m ≤ n ∧ len + m ≤ lo ∧ len + m ≤ 65536 ∧ lensT n cs), .tslice b i (len + m) lo false wd, putObj st b (.tab n (midT (i + len) i' m (i + len + m) cs) t))
          else (match joinT i' m cs ds with
            | some cs' => bif Nat.beq i 0 then some (some (n = len ∧ i' + m ≤ n' ∧ len + m ≤ 65536 ∧ lensT n cs), .tslice st.next 0 (len + m) (len + m) false wd, { heap := (st.heap.set b none).set st.next (some (.tab (len + m) cs' e)), next := Nat.succ st.next, log := b :: st.log }) else none
            | none => none)) else none
        | _ => none) else none
      | _ => none)
    | _ => none)
  | _ => none
/-- the last rows of a table are cleared: they are no longer spoken of -/
noncomputable def clearT (st : St) (e : TypeId) (s : AVal) : Option (OP × AVal × St) :=
  match s with
  | .tslice b i len _ _ wd => (match st.heap.get b, sizeA P e, zeroA P e with
    | some (.tab n cs t), some sz, some z => bif Nat.beq sz wd && Nat.beq (lenL cs 0) wd && Nat.beq (lenL z.cells 0) wd && Nat.blt 0 wd && oneA z.cells then some (some (i + len = n), .tuple [], putObj st b (.tab i (partT 0 i cs) t)) else none
    | _, _, _ => none)
  | _ => none
noncomputable def clearP (st : St) (e : TypeId) (s : AVal) : Option (OP × AVal × St) :=
  match clearA P st e s with
  | some r => some (none, r)
  | none => clearT P st e s
variable (call : Who → List AVal → St → Option (AVal × St))
noncomputable def appendP (st : St) (e : TypeId) (s x : AVal) : Option (OP × AVal × St) :=
  match appendA P RO st e s x with
  | some r => some (none, r)
  | none => (match appendB P RO st e s x with
    | some r => some r
    | none => (match appendI P RO st e s x with
      | some r => some r
      | none => (match appendT P st e s x with
        | some r => some r
        | none => appendR P RO st e s x)))
noncomputable def copyP (st : St) (e : TypeId) (d x : AVal) : Option (OP × AVal × St) :=
  match copyA P RO st e d x with
  | some r => some (none, r)
  | none => copyB P RO st e d x
def setAt {α : Type} : List α → Nat → α → List α
  | [], _, _ => []
  | x :: xs, n, y => match n with
    | 0 => y :: xs
    | m + 1 => x :: setAt xs m y
def delAt {α : Type} : List α → Nat → List α
  | [], _ => []
  | x :: xs, n => match n with
    | 0 => xs
    | m + 1 => x :: delAt xs m
noncomputable def mapPutA (st : St) (t : TypeId) (r : Nat) (k v : AVal) : Option (AVal × St) :=
  match P.underlying t, st.heap.get r with
  | some (.map kt _), some (.map es) => bif keyOk P kt k then (match findM k es 0 with
    | some (some (i, _)) => some (.undef, putObj st r (.map (setAt es i (k, v))))
    | some none => some (.undef, putObj st r (.map (List.append es [(k, v)])))
    | none => none) else none
  | _, _ => none
noncomputable def mapDelA (st : St) (t : TypeId) (r : Nat) (k : AVal) : Option (AVal × St) :=
  match P.underlying t, st.heap.get r with
  | some (.map kt _), some (.map es) => bif keyOk P kt k then (match findM k es 0 with
    | some (some (i, _)) => some (.tuple [], putObj st r (.map (delAt es i)))
    | some none => some (.tuple [], putObj st r (.map es))
    | none => none) else none
  | _, _ => none
def TCol.put (ks : List Int) (q : Int) : TCol → AVal → Option TCol
  | .zs k l, v => (match asR v with | some (j, z) => bif kindEq k j then some (.zs k (mput ks q l z)) else none | none => none)
  | .bs l, v => (match asBo v with | some b => some (.bs (mput ks q l b)) | none => none)
  | .ss l, v => (match asB v with | some b => some (.ss (mput ks q l b)) | none => none)
  | .ps l, v => (match v with | .pbytes b => some (.ps (mput ks q l b)) | .slice none _ _ _ _ => some (.ps (mput ks q l [])) | _ => none)
def putT (ks : List Int) (q : Int) : List TCol → List AVal → Option (List TCol)
  | [], [] => some []
  | c :: cs, v :: vs => (match c.put ks q v, putT ks q cs vs with | some c', some cs' => some (c' :: cs') | _, _ => none)
  | _, _ => none
def TCol.del (ks : List Int) (q : Int) : TCol → TCol
  | .zs k l => .zs k (mdel ks q l)
  | .bs l => .bs (mdel ks q l)
  | .ss l => .ss (mdel ks q l)
  | .ps l => .ps (mdel ks q l)
def delT (ks : List Int) (q : Int) : List TCol → List TCol
  | [] => []
  | c :: cs => c.del ks q :: delT ks q cs
noncomputable def mapPutS (st : St) (t : TypeId) (r : Nat) (k v : AVal) : Option (OP × AVal × St) :=
  match P.underlying t, st.heap.get r, asR k with
  | some (.map kt _), some (.smap kk ks cs one), some (j, q) => (match P.underlying kt, cellsM one v with
    | some (.int j'), some vs => (match putT ks q cs vs with
      | some cs' => bif kindEq j j' && kindEq j kk then some (some (lensT ks.length cs), .undef, putObj st r (.smap kk (mkeys ks q) cs' one)) else none
      | none => none)
    | _, _ => none)
  | _, _, _ => none
noncomputable def mapDelS (st : St) (t : TypeId) (r : Nat) (k : AVal) : Option (OP × AVal × St) :=
  match P.underlying t, st.heap.get r, asR k with
  | some (.map kt _), some (.smap kk ks cs one), some (j, q) => (match P.underlying kt with
    | some (.int j') => bif kindEq j j' && kindEq j kk then some (none, .tuple [], putObj st r (.smap kk (mdel ks q ks) (delT ks q cs) one)) else none
    | _ => none)
  | _, _, _ => none
noncomputable def mapPutP (st : St) (t : TypeId) (r : Nat) (k v : AVal) : Option (OP × AVal × St) :=
  match mapPutA P st t r k v with
  | some x => some (none, x)
  | none => mapPutS P st t r k v
noncomputable def mapDelP (st : St) (t : TypeId) (r : Nat) (k : AVal) : Option (OP × AVal × St) :=
  match mapDelA P st t r k with
  | some x => some (none, x)
  | none => mapDelS P st t r k
noncomputable def doHeavy (st : St) : Heavy → Option (AVal × St)
  | .store t (b, o) v => (match sizeA P t with
    | some n => bif Nat.beq (lenL v.cells 0) n then (storeA st b o v.cells).map (.undef, ·) else none
    | none => none)
  | .enter f args => call f args st
  | .append e s x => got (appendP P RO st e s x)
  | .copy e d x => got (copyP P RO st e d x)
  | .clear e s => got (clearP P st e s)
  | .mapPut t r k v => got (mapPutP P st t r k v)
  | .mapDel t r k => got (mapDelP P st t r k)
  | .storeT t b i wd c v => (match sizeA P t with
    | some n => bif Nat.beq (lenL v.cells 0) n then got (storeT st b i wd c v.cells) else none
    | none => none)
noncomputable def runOp (τ : PT AVal) (st : St) (op : Op) : Option (AVal × St) :=
  match light P (evA RO τ) op with
  | some r => doLight RO st r
  | none => (match heavy P (evA RO τ) op with
    | some h => doHeavy P RO call st h
    | none => none)
noncomputable def runGo (runOps : PT AVal → St → Option (PT AVal × St)) (n : Nat) (d : Option Tmp) : Option (AVal × St) → PT AVal → Option (PT AVal × St)
  | some (v, st'), τ => match putA n τ d v with | some τ' => runOps τ' st' | none => none
  | none, _ => none
noncomputable def runOps (all : List Oper) (n : Nat) : List Oper → PT AVal → St → Option (PT AVal × St)
  | [], τ, st => some (τ, st)
  | o :: os, τ, st => match wantedA all τ o with
      | some true => runGo (runOps all n os) n o.dst (runOp P RO call τ st o.op) τ
      | some false => runGo (runOps all n os) n o.dst (some (.undef, st)) τ
      | none => none
/-- a region that draws its order: what waits for what, as sets of bits -/
def isHeavy (op : Op) : Bool :=
  match op with
  | .store _ _ _ => true
  | .mapUpdate _ _ _ _ => true
  | .call c => (match c.callee with
    | .builtin .delete => true
    | .value _ => true
    | .builtin .append => true
    | .builtin .copy => true
    | .builtin .clear => true
    | _ => false)
  | _ => false
def bit (m i : Nat) : Bool := Nat.beq (Nat.mod (Nat.shiftRight m i) 2) 1
def one (i : Nat) : Nat := Nat.shiftLeft 1 i
def within (x y : Nat) : Bool := Nat.beq (Nat.lor x y) y
def maskAt (ms : List Nat) (i : Nat) : Nat := match nth ms i with | some m => m | none => 0
def orE (ms : List Nat) : List Edge → Nat
  | [] => 0
  | e :: es => bif Region.binds .any e then Nat.lor (Nat.lor (one e.on) (maskAt ms e.on)) (orE ms es) else orE ms es
def masks : List Oper → List Nat → List Nat
  | [], ms => ms
  | o :: os, ms => masks os (ms ++ [orE ms o.after.toList])
def edgesUp (i : Nat) : List Edge → Bool
  | [] => true
  | e :: es => (bif Region.binds .any e then Nat.blt e.on i else true) && edgesUp i es
def memN (t : Nat) : List Nat → Bool
  | [] => false
  | x :: xs => Nat.beq x t || memN t xs
def tmpsOf : List Operand → List Nat
  | [] => []
  | .tmp t :: l => t :: tmpsOf l
  | .const _ :: l => tmpsOf l
  | .global _ :: l => tmpsOf l
  | .func _ :: l => tmpsOf l
def dstL : Option Tmp → List Nat
  | none => []
  | some d => [d]
def looks (all : List Oper) (o : Oper) : List Nat :=
  (match o.guard with
  | some (g, _) => (match nth all g with | some og => dstL og.dst | none => [])
  | none => []) ++ tmpsOf o.op.operands.toList
/-- whatever an operation looks at, and another gives, it waits for, or that one waits for it; no two give one -/
def readsOk (ms : List Nat) (m i : Nat) (ls : List Nat) (di : Option Tmp) : Nat → List Oper → Bool
  | _, [] => true
  | j, o :: os => (match o.dst with
    | none => true
    | some d => (bif memN d ls then bit m j || bit (maskAt ms j) i else true) && (Nat.beq i j || !memN d (dstL di))) && readsOk ms m i ls di (Nat.succ j) os
def regOk (all : List Oper) (ms : List Nat) : Nat → List Oper → Bool
  | _, [] => true
  | i, o :: os => Nat.beq (maskAt ms i) (orE ms o.after.toList) && edgesUp i o.after.toList && readsOk ms (maskAt ms i) i (looks all o) o.dst 0 all && regOk all ms (Nat.succ i) os
def picks (f : Nat → Bool) : Nat → List Nat → List Nat
  | 0, l => l
  | n + 1, l => picks f n (bif f n then n :: l else l)
def planGo (ms : List Nat) (n : Nat) : List Nat → Nat → List Nat
  | [], done => picks (fun j => !bit done j) n []
  | h :: hs, done => picks (fun j => bit (maskAt ms h) j && !bit done j) n [] ++ h :: planGo ms n hs (Nat.lor done (Nat.lor (maskAt ms h) (one h)))
def heaviesOf : Nat → List Oper → List Nat
  | _, [] => []
  | i, o :: os => bif isHeavy o.op then i :: heaviesOf (Nat.succ i) os else heaviesOf (Nat.succ i) os
def planOk (all : List Oper) (ms : List Nat) (n : Nat) : List Nat → Nat → Bool
  | [], done => Nat.beq done (Nat.sub (one n) 1)
  | i :: σ, done => (match nth all i with
    | some o => !bit done i && within (maskAt ms i) done && (bif isHeavy o.op then within done (maskAt ms i) else true)
    | none => false) && planOk all ms n σ (Nat.lor done (one i))
def plan (all : List Oper) : Option (List Nat × List Nat) :=
  let ms := masks all []
  let σ := planGo ms (lenL all 0) (heaviesOf 0 all) 0
  bif regOk all ms 0 all && planOk all ms (lenL all 0) σ 0 then some (σ, ms) else none
structure DSt where
  τ : PT AVal
  st : St
  hl : List (Nat × Nat × List Nat)
/-- no heavy operation that this one does not wait for has written the block, or made it -/
def stableH (m b : Nat) : List (Nat × Nat × List Nat) → Bool
  | [] => true
  | (h, nx, l) :: r => (bit m h || (Nat.blt b nx && !memN b l)) && stableH m b r
/-- the block is not one that a light operation makes here, or it is one's that this one waits for -/
def ownB (m base n b : Nat) : Bool := Nat.blt b base || Nat.ble (Nat.add base n) b || bit m (Nat.sub b base)
def ownL (m base n : Nat) : List Nat → Bool
  | [] => true
  | b :: l => ownB m base n b && ownL m base n l
noncomputable def effL (m base n i : Nat) (d : DSt) : LRes → Option (AVal × Option AObj)
  | .pure v => some (v, none)
  | .peek v => some (v, none)
  | .read b k => bif stableH m b d.hl && ownB m base n b then (match rd RO d.st b with | some o => (match got (k o) with | some v => some (v, none) | none => none) | none => none) else none
  | .touch b v => bif stableH m b d.hl && ownB m base n b then (match d.st.heap.get b with | some (.cells _ _) => some (v, none) | _ => none) else none
  | .new o k => match d.st.heap.get (Nat.add base i) with
    | none => some (k (Nat.add base i), some o)
    | some _ => none
noncomputable def effA (all : List Oper) (m base n i : Nat) (o : Oper) (d : DSt) : Option (AVal × Option AObj) :=
  match wantedA all d.τ o with
  | some true => (match light P (evA RO d.τ) o.op with | some r => effL RO m base n i d r | none => none)
  | some false => some (.undef, none)
  | none => none
noncomputable def setO (H : PT AObj) (x : Nat) : Option AObj → PT AObj
  | some o => H.set x (some o)
  | none => H
noncomputable def drawL (base nt i : Nat) (o : Oper) (d : DSt) : Option (AVal × Option AObj) → Option DSt
  | some (v, oo) => (match putA nt d.τ o.dst v with | some τ' => some ⟨τ', ⟨setO d.st.heap (Nat.add base i) oo, d.st.next, d.st.log⟩, d.hl⟩ | none => none)
  | none => none
noncomputable def drawHGo (m base n nt i : Nat) (o : Oper) (d : DSt) : Option (AVal × St) → Option DSt
  | some (v, st') => bif ownL m base n st'.log then (match putA nt d.τ o.dst v with | some τ' => some ⟨τ', ⟨st'.heap, st'.next, st'.log ++ d.st.log⟩, (i, d.st.next, st'.log) :: d.hl⟩ | none => none) else none
  | none => none
noncomputable def drawH (all : List Oper) (m base n nt i : Nat) (o : Oper) (d : DSt) : Option DSt :=
  match wantedA all d.τ o with
  | some true => (match heavy P (evA RO d.τ) o.op with | some h => drawHGo m base n nt i o d (doHeavy P RO call ⟨d.st.heap, d.st.next, []⟩ h) | none => none)
  | some false => (match putA nt d.τ o.dst .undef with | some τ' => some ⟨τ', d.st, d.hl⟩ | none => none)
  | none => none
noncomputable def draw1 (all : List Oper) (ms : List Nat) (base n nt i : Nat) (d : DSt) : Option DSt :=
  match nth all i with
  | some o => bif isHeavy o.op then drawH P RO call all (maskAt ms i) base n nt i o d else drawL base nt i o d (effA P RO all (maskAt ms i) base n i o d)
  | none => none
noncomputable def drawGo (all : List Oper) (ms : List Nat) (base n nt : Nat) : List Nat → DSt → Option DSt
  | [], d => some d
  | i :: σ, d => match draw1 P RO call all ms base n nt i d with
    | some d' => drawGo all ms base n nt σ d'
    | none => none
noncomputable def runDraw (all : List Oper) (nt : Nat) (τ : PT AVal) (st : St) : Option (PT AVal × St) :=
  match plan all with
  | some (σ, ms) => (match drawGo P RO call all ms st.next (lenL all 0) nt σ ⟨τ, ⟨st.heap, Nat.succ (Nat.add st.next (lenL all 0)), st.log⟩, []⟩ with
    | some d => some (d.τ, d.st)
    | none => none)
  | none => none
end
noncomputable def argsT : List AVal → Nat → PT AVal → PT AVal
  | [], _, τ => τ
  | v :: vs, i, τ => argsT vs (i + 1) (τ.set i (some v))
section
variable (P : Program) (RO : PT AObj) (hook : FuncId → Option (List AVal → St → Option (AVal × St)))
noncomputable def resOf (τ : PT AVal) (st : St) : ResultVar → Option AVal
  | .tmp t => τ.get t
  | .cell a t => (match τ.get a with
    | some (.ptr (some (b, o))) => (match rd RO st b with | some (.cells l _) => partA P t l o | _ => none)
    | _ => none)
noncomputable def ressOf (τ : PT AVal) (st : St) : List ResultVar → Option (List AVal)
  | [] => some []
  | r :: rs => match resOf P RO τ st r, ressOf τ st rs with | some v, some vs => some (v :: vs) | _, _ => none
noncomputable def resultA (fn : Func) (τ : PT AVal) (st : St) : Option AVal :=
  match ressOf P RO τ st fn.results.toList with
  | some [v] => some v
  | some vs => some (.tuple vs)
  | none => none
/-- a function's frame ends: its loops' blocks are shut -/
noncomputable def leaveA : List Mark → St → Option St
  | [], st => some st
  | x :: xs, st => match x with
    | .blk x => (match st.heap.get x with
      | some .defd => leaveA xs ⟨st.heap.set x none, st.next, x :: st.log⟩
      | _ => none)
    | .fn f => (match quietB P f with
      | true => leaveA xs st
      | false => none)
    | .old => leaveA xs st
noncomputable def endF (fn : Func) : Option Res → Option (AVal × St)
  | some r => (match r.ex with
    | .exit _ => none
    | .normal => (match leaveA P r.fr.marks r.st with | some s => (match resultA P RO fn r.τ s with | some v => some (v, s) | none => none) | none => none)
    | .ret => (match leaveA P r.fr.marks r.st with | some s => (match resultA P RO fn r.τ s with | some v => some (v, s) | none => none) | none => none))
  | none => none
noncomputable def putPs (n : Nat) : List Nat → List AVal → PT AVal → Option (PT AVal)
  | [], [], τ => some τ
  | t :: ts, v :: vs, τ => (match putA n τ (some t) v with | some τ' => putPs n ts vs τ' | none => none)
  | _, _, _ => none
def jumpOf : Ex → Jump
  | .normal => .none
  | .exit id => .exit id
  | .ret => .ret
def isNormal : Ex → Bool
  | .normal => true
  | .exit _ => false
  | .ret => false
/-- the record's state and jump are others -/
noncomputable def markL (x : Nat) (s : LSt) (j : Jump) (τ : PT AVal) (n : Nat) (ps : List Nat) (assign body : Code) (st : St) : St := ⟨st.heap.set x (some (.loop s j τ n ps assign body)), st.next, x :: st.log⟩
noncomputable def roundEnd (x : Nat) : Option Res → Option (AVal × St)
  | some r => (match r.st.heap.get x with
    | some (.loop .busy _ τ n ps assign body) => some (.bool (isNormal r.ex), markL x (bif isNormal r.ex then .ready else .done) (jumpOf r.ex) τ n ps assign body r.st)
    | _ => none)
  | none => none
noncomputable def roundBody (rec : Code → Nat → Fr → PT AVal → St → Option Res) (x n0 : Nat) (bo : Code) : Option Res → Option (AVal × St)
  | some r => (match r.ex with
    | .normal => (match r.st.heap.get x with
      | some (.loop .ready j τ n ps assign body) => roundEnd x (rec bo n0 r.fr r.τ (markL x .busy j τ n ps assign body r.st))
      | _ => none)
    | .exit _ => none
    | .ret => none)
  | none => none
noncomputable def yieldF (rec : Code → Nat → Fr → PT AVal → St → Option Res) (x : Nat) (args : List AVal) (st : St) : Option (AVal × St) :=
  match st.heap.get x with
  | some (.loop _ _ τ n ps assign bo) => (match putPs n ps args τ with
    | some τ1 => roundBody rec x n bo (rec assign n ⟨some x, []⟩ τ1 st)
    | none => none)
  | _ => none
noncomputable def callF (rec : Code → Nat → Fr → PT AVal → St → Option Res) (g : FuncId) (args : List AVal) (s : St) : Option (AVal × St) :=
  match hook g with
  | some h => h args s
  | none => match P.funcs[g]? with
    | some fn => (match fn.body with
      | some body => endF P RO fn (rec body (bif Nat.ble (lenL args 0) fn.ntmps then fn.ntmps else lenL args 0) ⟨none, []⟩ (argsT args 0 .leaf) s)
      | none => none)
    | none => none
noncomputable def whoF (rec : Code → Nat → Fr → PT AVal → St → Option Res) : Who → List AVal → St → Option (AVal × St)
  | .fn g => callF P RO hook rec g
  | .yield x => yieldF rec x
def eRegion (fr : Fr) : Option (PT AVal × St) → Option Res
  | some (τ', st') => some ⟨.normal, τ', st', fr⟩
  | none => none
def eThen (k : Fr → PT AVal → St → Option Res) : Option Res → Option Res
  | some r => (match r.ex with
    | .normal => k r.fr r.τ r.st
    | .exit j => some ⟨.exit j, r.τ, r.st, r.fr⟩
    | .ret => some ⟨.ret, r.τ, r.st, r.fr⟩)
  | none => none
def eCond (x y : PT AVal → St → Option Res) (τ : PT AVal) (st : St) : Option AVal → Option Res
  | some (.bool b) => (match b with | true => x τ st | false => y τ st)
  | some (.sbool b) => (match b with | true => x τ st | false => y τ st)
  | _ => none
def eBlock (id : Nat) : Option Res → Option Res
  | some r => (match r.ex with
    | .exit j => bif Nat.beq j id then some ⟨.normal, r.τ, r.st, r.fr⟩ else some ⟨.exit j, r.τ, r.st, r.fr⟩
    | .normal => some ⟨.normal, r.τ, r.st, r.fr⟩
    | .ret => some ⟨.ret, r.τ, r.st, r.fr⟩)
  | none => none
/-- a loop over a function is entered: its record, and where this is an outermost one its block -/
noncomputable def enterA (n : Nat) (τ : PT AVal) (ps : List Nat) (assign body : Code) (fr : Fr) (st : St) : Option (Nat × Fr × St) :=
  match fr.round with
  | none => some (Nat.succ st.next, ⟨none, .blk st.next :: fr.marks⟩, ⟨(st.heap.set st.next (some .defd)).set (Nat.succ st.next) (some (.loop .ready .none τ n ps assign body)), Nat.succ (Nat.succ st.next), st.log⟩)
  | some y => (match st.heap.get y with
    | some (.loop _ _ _ _ _ _ _) => some (st.next, fr, ⟨st.heap.set st.next (some (.loop .ready .none τ n ps assign body)), Nat.succ st.next, st.log⟩)
    | _ => none)
def exJ : Jump → Ex
  | .none => .normal
  | .ret => .ret
  | .exit id => .exit id
noncomputable def leaveL (τ : PT AVal) (fr : Fr) (x : Nat) : Option (AVal × St) → Option Res
  | some (_, st) => (match st.heap.get x with
    | some (.loop s j τ0 n ps assign body) => (match s with
      | .busy => none
      | .ready => some ⟨exJ j, τ, markL x .exhausted j τ0 n ps assign body st, fr⟩
      | .done => some ⟨exJ j, τ, markL x .exhausted j τ0 n ps assign body st, fr⟩
      | .exhausted => none)
    | _ => none)
  | none => none
noncomputable def rangeA (rec : Code → Nat → Fr → PT AVal → St → Option Res) (τ : PT AVal) (f : FuncId) (first captured : List AVal) : Option (Nat × Fr × St) → Option Res
  | some (x, fr, st) => leaveL τ fr x (callF P RO hook rec f (first ++ .yield x :: captured) st)
  | none => none
noncomputable def stepE (rec : Code → Nat → Fr → PT AVal → St → Option Res) (c : Code) (n : Nat) (fr : Fr) (τ : PT AVal) (st : St) : Option Res :=
  match c with
  | .skip | .label _ => some ⟨.normal, τ, st, fr⟩
  | .region _ ops draws => match deferOf fr ops.toList draws with
    | some f => some ⟨.normal, τ, st, ⟨none, .fn f :: fr.marks⟩⟩
    | none => eRegion fr (bif draws then runDraw P RO (whoF P RO hook rec) ops.toList n τ st else runOps P RO (whoF P RO hook rec) ops.toList n ops.toList τ st)
  | .seq a b => eThen (rec b n) (rec a n fr τ st)
  | .cond x a b => eCond (rec a n fr) (rec b n fr) τ st (evA RO τ x)
  | .block id a => eBlock id (rec a n fr τ st)
  | .loop a => eThen (rec (.loop a) n) (rec a n fr τ st)
  | .exit id => some ⟨.exit id, τ, st, fr⟩
  | .ret => some ⟨.ret, τ, st, fr⟩
  | .rangeFunc g ps assign body => (match evA RO τ g with
    | some (.func f first captured) => rangeA P RO hook rec τ f first captured (enterA n τ ps.toList assign body fr st)
    | _ => none)
  | _ => none
noncomputable def exec (f : Nat) : Code → Nat → Fr → PT AVal → St → Option Res :=
  Nat.rec (motive := fun _ => Code → Nat → Fr → PT AVal → St → Option Res) (fun _ _ _ _ _ => none) (fun _ ih => stepE P RO hook ih) f
noncomputable def callA (f : Nat) (g : FuncId) (args : List AVal) (s : St) : Option (AVal × St) := callF P RO hook (exec P RO hook f) g args s
def yes (r : Option (AVal × St)) : Bool := match r with | some (.bool true, _) => true | _ => false
end
end Go.Proofs.Ytcofcojjofkgcaa.Abs

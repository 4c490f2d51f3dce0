/-
  The abstract steps: what each operation does to an abstract state, and what must hold for it. No program's text.
-/
import Derived.Test.YtjalcajhmiamgaaAbs1
namespace Go.Abs
set_option linter.unusedSimpArgs false
set_option linter.unusedVariables false
set_option linter.unnecessarySimpa false
open Go

structure ASt where
  tmps : List AV
  heap : AHeap
  clk : Nat

abbrev unknown : AV := .one .any
abbrev sv (v : Value) : AV := .one (.d (.s v))
abbrev iv (k : IntKind) (n : Int) : AV := .one (.d (.s (.int k n)))
abbrev bv (b : Bool) : AV := .one (.d (.s (.bool b)))

def AC.ofValue : Value → AC
  | .slice none 0 0 => .d .nil
  | .bool b => .d (.s (.bool b))
  | .int k n => .d (.s (.int k n))
  | .string s => .d (.s (.string s))
  | .nilFunc => .d (.s .nilFunc)
  | .nilIface => .d (.s .nilIface)
  | .pointer none => .d (.s (.pointer none))
  | .map none => .d (.s (.map none))
  | .chan none => .d (.s (.chan none))
  | _ => .any

def ASt.eval (st : ASt) : Operand → AV
  | .tmp t => st.tmps.getD t unknown
  | .const v => .one (AC.ofValue v)
  | .global g => match globT g with
    | some cs => .one (.d (.rptr cs))
    | none => unknown
  | .func _ => unknown

def ASt.put (st : ASt) : Option Tmp → AV → ASt
  | some d, x => { st with tmps := st.tmps.set d x }
  | none, _ => st

def AC.known : AC → Bool
  | .any => false
  | _ => true

def AV.cells? : AV → Option (List AC)
  | .one c => if c.known then some [c] else none
  | .agg cs => some cs
  | .tup _ => none

/-! Types, asked of the program -/
def szOf (P : Program) (t : TypeId) : Option Nat := (P.info? t).map (·.size)
def aggT (P : Program) (t : TypeId) : Option Bool := (P.underlying t).map fun d => match d with | .struct _ | .array _ _ => true | _ => false
/-- of a slice type: the element's type, its cells, its bytes. -/
def sliceT (P : Program) (t : TypeId) : Option (TypeId × Nat × Nat) :=
  match P.underlying t with
  | some (.slice e) => (P.info? e).map fun i => (e, i.size, i.bytes)
  | _ => none
/-- of a map type: the types of keys and of values. -/
def mapT (P : Program) (t : TypeId) : Option (TypeId × TypeId) :=
  match P.underlying t with
  | some (.map k e) => some (k, e)
  | _ => none
/-- of an array type: how many elements, their type, the cells of one. -/
def arrT (P : Program) (t : TypeId) : Option (Nat × TypeId × Nat) :=
  match P.underlying t with
  | some (.array n e) => (szOf P e).map fun s => (n, e, s)
  | _ => none
/-- the cells of one element of an array, or of the type itself. -/
def unitT (P : Program) (t : TypeId) : Option Nat :=
  match P.underlying t with
  | some (.array _ e) => szOf P e
  | _ => szOf P t
/-- of a struct's field: its offset, its type, its cells, whether it is a struct or an array. -/
def fieldT (P : Program) (t : TypeId) (f : Nat) : Option (Nat × Nat × Bool) :=
  match P.underlying t with
  | some (.struct fs) => match fs[f]? with
    | some fd => match szOf P fd.type, aggT P fd.type with
      | some n, some b => some (fd.offset, n, b)
      | _, _ => none
    | none => none
  | _ => none
/-- Every cell of a value is one cell. -/
def oneCells (v : Value) : Bool := v.cells.toList.all (·.oneCell')
def zeroT (P : Program) (t : TypeId) : Option (List AC) :=
  match P.info? t with
  | some i => match i.zero with
    | some z => if oneCells z then some (z.cells.toList.map AC.ofValue) else none
    | none => none
  | none => none

/-! Memory -/
def splice (cs : List AC) (off : Nat) (xs : List AC) : List AC :=
  match xs with
  | [x] => cs.set off x
  | _ => cs.take off ++ xs ++ cs.drop (off + xs.length)

def blkAt (H : AHeap) (k g : Nat) : Option ABlk :=
  match H[k]? with
  | some (some B) => if B.gen = g ∧ B.size ≠ 0 then some B else none
  | _ => none
/-- What an own map holds. -/
def objAt (H : AHeap) (k g : Nat) : Option (List MapEntry × Nat) :=
  match H[k]? with
  | some (some B) => if B.gen = g ∧ B.size = 0 ∧ B.elem = 0 then (match B.cells with
    | [.obj es c] => some (es, c)
    | _ => none) else none
  | _ => none
/-- What a map holds. -/
def mapsA (H : AHeap) : AV → Option (List MapEntry)
  | .one (.mp k g) => (objAt H k g).map (·.1)
  | .one (.d (.map es _)) => some es
  | .one (.d (.s (.map none))) => some []
  | _ => none
/-- A value that is told whole. -/
def AC.val? : AC → Option Value
  | .d (.s v) => some v
  | _ => none
def AV.val? : AV → Option Value
  | .one c => c.val?
  | .agg cs => (cs.mapM AC.val?).map fun vs => .agg vs.toArray
  | .tup _ => none
def AV.ofV (v : Value) : AV := match v with
  | .agg cs => .agg (cs.toList.map AC.ofValue)
  | v => .one (AC.ofValue v)
/-- What a key gives: a value, and whether there is one. -/
def MapGet (P : Program) (t : TypeId) (kv : Value) (es : List MapEntry) (found : Bool) (x : Value) : Prop :=
  oneCells x = true ∧ ∀ (w : World) (m : Value), (m = .map none ∧ es = [] ∨ ∃ r c, m = .map (some r) ∧ w.heap[r]? = some (.map es.toArray c)) →
    ∀ ok, (Instr.lookup t m kv ok).run P w = .ok (if ok then .tuple #[x, .bool found] else x) w
/-- What a map holds behind a write. -/
def MapUpd (P : Program) (t : TypeId) (kv vv : Value) (es : List MapEntry) (c : Nat) (es' : List MapEntry) (c' : Nat) : Prop :=
  ∀ (w : World) (r : Nat), w.heap[r]? = some (.map es.toArray c) → (Instr.mapUpdate t (.map (some r)) kv vv).run P w = .ok () { w with heap := w.heap.setIfInBounds r (.map es'.toArray c') }
def MapDel (P : Program) (t : TypeId) (kv : Value) (es : List MapEntry) (c : Nat) (es' : List MapEntry) : Prop :=
  ∀ (w : World) (r : Nat) (u ty : TypeId), w.heap[r]? = some (.map es.toArray c) → (Builtin.delete_ #[t, u] ty #[.map (some r), kv]).run P w = .ok (.tuple #[]) { w with heap := w.heap.setIfInBounds r (.map es'.toArray c) }
def lookupA (P : Program) (H : AHeap) (t : TypeId) (m k : AV) (ok : Bool) (K : AV → Prop) : Prop :=
  ∃ kv es found x, k.val? = some kv ∧ mapsA H m = some es ∧ MapGet P t kv es found x ∧ K (if ok then .tup [AV.ofV x, bv found] else AV.ofV x)
def mapUpdA (P : Program) (H : AHeap) (t : TypeId) (m k v : AV) (K : AHeap → Prop) : Prop :=
  ∃ j g es c kv vv es' c', m = .one (.mp j g) ∧ objAt H j g = some (es, c) ∧ k.val? = some kv ∧ v.val? = some vv ∧ MapUpd P t kv vv es c es' c' ∧ K (H.set j (some ⟨g, 0, 0, [.obj es' c']⟩))
def mapDelA (P : Program) (H : AHeap) (t : TypeId) (m k : AV) (K : AHeap → Prop) : Prop :=
  ∃ j g es c kv es', m = .one (.mp j g) ∧ objAt H j g = some (es, c) ∧ k.val? = some kv ∧ MapDel P t kv es c es' ∧ K (H.set j (some ⟨g, 0, 0, [.obj es' c]⟩))

/-- The cells of a variable: one, or n of them. -/
def valueOf (agg : Bool) (n : Nat) (cs : List AC) : Option AV :=
  if agg then (if n ≤ cs.length then some (.agg (cs.take n)) else none) else cs.head?.map .one

def loadA (P : Program) (H : AHeap) (t : TypeId) (a : AV) (K : AV → Prop) : Prop :=
  match aggT P t, szOf P t with
  | some agg, some n =>
    match a with
    | .one (.ptr k g off) => match blkAt H k g with
      | some B => match valueOf agg n (B.cells.drop off) with
        | some x => K x
        | none => False
      | none => False
    | .one (.d (.rptr cs)) => match valueOf agg n (cs.map .d) with
      | some x => K x
      | none => False
    | _ => False
  | _, _ => False

def storeA (P : Program) (H : AHeap) (t : TypeId) (a x : AV) (K : AHeap → Prop) : Prop :=
  match szOf P t, a, x.cells? with
  | some n, .one (.ptr k g off), some cs => match blkAt H k g with
    | some B => (cs.length = n ∧ off + n ≤ B.cells.length) ∧ K (H.set k (some { B with cells := splice B.cells off cs }))
    | none => False
  | _, _, _ => False

def indexA (P : Program) (H : AHeap) (t : TypeId) (x i : AV) (K : AV → Prop) : Prop :=
  match sliceT P t, i with
  | some (_, size, _), .one (.d (.s (.int _ n))) =>
    match x with
    | .one (.own k g off len) => ((blkAt H k g).isSome = true ∧ ((blkAt H k g).map (·.size)) = some size ∧ 0 ≤ n ∧ n < (len : Int)) ∧ K (.one (.ptr k g (off + n.toNat * size)))
    | .one (.d (.list len cs)) => (n.toNat * size < cs.length ∧ 0 ≤ n ∧ n < (len : Int)) ∧ K (.one (.d (.rptr (cs.drop (n.toNat * size)))))
    | _ => False
  | none, .one (.d (.s (.int _ n))) => match arrT P t with
    | some (len, _, size) => match x with
      | .one (.ptr k g off) => ((blkAt H k g).isSome = true ∧ 0 ≤ n ∧ n < (len : Int)) ∧ K (.one (.ptr k g (off + n.toNat * size)))
      | .one (.d (.rptr cs)) => (n.toNat * size < cs.length ∧ 0 ≤ n ∧ n < (len : Int)) ∧ K (.one (.d (.rptr (cs.drop (n.toNat * size)))))
      | _ => False
    | none => False
  | _, _ => False

/-- An element of a string, or of an array that is a value. -/
def indexVA (P : Program) (t : TypeId) (x i : AV) (K : AV → Prop) : Prop :=
  match x, i with
  | .one (.d (.s (.string s))), .one (.d (.s (.int _ n))) => (P.underlying t = some .string ∧ 0 ≤ n ∧ n < (s.size : Int)) ∧ K (.one (.d (.s (.int .u8 ((s.data.toList.getD n.toNat 0).toNat : Int)))))
  | .agg cs, .one (.d (.s (.int _ n))) => match arrT P t with
    | some (len, e, size) => match aggT P e with
      | some agg => (0 ≤ n ∧ n < (len : Int) ∧ (n.toNat + 1) * size ≤ cs.length ∧ (agg = false → size = 1)) ∧ match valueOf agg size (cs.drop (n.toNat * size)) with
        | some y => K y
        | none => False
      | none => False
    | none => False
  | _, _ => False

def fieldAddrA (P : Program) (H : AHeap) (s : TypeId) (x : AV) (f : Nat) (K : AV → Prop) : Prop :=
  match fieldT P s f with
  | some (off, n, _) => n ≠ 0 ∧ match x with
    | .one (.ptr k g o) => (blkAt H k g).isSome = true ∧ K (.one (.ptr k g (o + off)))
    | .one (.d (.rptr cs)) => off < cs.length ∧ K (.one (.d (.rptr (cs.drop off))))
    | _ => False
  | none => False

def nilA (H : AHeap) (x : AV) (K : AV → Prop) : Prop :=
  match x with
  | .one (.ptr k g off) => (blkAt H k g).isSome = true ∧ K (.one (.ptr k g off))
  | .one (.d (.rptr cs)) => K (.one (.d (.rptr cs)))
  | _ => False

def fieldA (P : Program) (s : TypeId) (x : AV) (f : Nat) (K : AV → Prop) : Prop :=
  match fieldT P s f, x with
  | some (off, n, agg), .agg cs => match valueOf agg n (cs.drop off) with
    | some y => K y
    | none => False
  | _, _ => False

/-- A bound of a slice expression: given, or the one that holds without. -/
def boundOf (ev : Operand → AV) (o : Option Operand) (d : Int) : Option Int :=
  match o with
  | none => some d
  | some x => match ev x with
    | .one (.d (.s (.int _ n))) => some n
    | _ => none

def sliceA (P : Program) (H : AHeap) (ev : Operand → AV) (t : TypeId) (x : AV) (lo hi : Option Operand) (K : AV → Prop) : Prop :=
  match x with
  | .one (.d (.s (.string s))) => match boundOf ev lo 0, boundOf ev hi s.size with
    | some l, some h => P.underlying t = some .string ∧ (0 ≤ l ∧ l ≤ h ∧ h ≤ (s.size : Int)) ∧ K (sv (.string (s.extract l.toNat h.toNat)))
    | _, _ => False
  | .one (.d (.list n cs)) => match boundOf ev lo 0, boundOf ev hi n, sliceT P t with
    | some l, some h, some (_, size, _) => (0 ≤ l ∧ l ≤ h ∧ h ≤ (n : Int)) ∧ K (.one (.d (.list (h.toNat - l.toNat) ((cs.drop (l.toNat * size)).take ((h.toNat - l.toNat) * size)))))
    | _, _, _ => False
  | .one (.own k g off n) => match boundOf ev lo 0, boundOf ev hi n, sliceT P t, blkAt H k g with
    | some l, some h, some (_, size, _), some B => (B.size = size ∧ 0 ≤ l ∧ l ≤ h ∧ h ≤ (n : Int)) ∧ K (.one (.own k g (off + l.toNat * size) (h.toNat - l.toNat)))
    | _, _, _, _ => False
  | .one (.d .nil) => match boundOf ev lo 0, boundOf ev hi 0, sliceT P t with
    | some l, some h, some _ => (l = 0 ∧ h = 0) ∧ K (.one (.d .nil))
    | _, _, _ => False
  | .one (.ptr k g off) => match arrT P t, blkAt H k g with
    | some (n, _, size), some B => match boundOf ev lo 0, boundOf ev hi n with
      | some l, some h => (B.size = size ∧ 0 ≤ l ∧ l ≤ h ∧ h ≤ (n : Int) ∧ off + n * size ≤ B.cells.length ∧ n ≤ 1000000) ∧ K (.one (.own k g (off + l.toNat * size) (h.toNat - l.toNat)))
      | _, _ => False
    | _, _ => False
  | _ => False

/-! Arithmetic -/
def intBin (op : BinOp) (k : IntKind) (a b : Int) (K : Value → Prop) : Prop :=
  match op with
  | .add => K (.int k (k.wrap (a + b)))
  | .sub => K (.int k (k.wrap (a - b)))
  | .mul => K (.int k (k.wrap (a * b)))
  | .quo => b ≠ 0 ∧ K (.int k (k.wrap (a.tdiv b)))
  | .rem => b ≠ 0 ∧ K (.int k (a.tmod b))
  | .and => K (.int k (k.wrap (BitVec.ofInt k.bits a &&& BitVec.ofInt k.bits b).toNat))
  | .or => K (.int k (k.wrap (BitVec.ofInt k.bits a ||| BitVec.ofInt k.bits b).toNat))
  | .xor => K (.int k (k.wrap (BitVec.ofInt k.bits a ^^^ BitVec.ofInt k.bits b).toNat))
  | .andNot => K (.int k (k.wrap (BitVec.ofInt k.bits a &&& ~~~ BitVec.ofInt k.bits b).toNat))
  | .eql => K (.bool (a == b))
  | .neq => K (.bool (a != b))
  | .lss => K (.bool (decide (a < b)))
  | .leq => K (.bool (decide (a ≤ b)))
  | .gtr => K (.bool (decide (a > b)))
  | .geq => K (.bool (decide (a ≥ b)))
  | _ => False

def shiftBin (op : BinOp) (k : IntKind) (a b : Int) (K : Value → Prop) : Prop :=
  match op with
  | .shl => 0 ≤ b ∧ K (.int k (k.wrap (a * 2 ^ (min b.toNat k.bits))))
  | .shr => 0 ≤ b ∧ K (.int k (a.fdiv (2 ^ (min b.toNat k.bits))))
  | _ => False

def strBin (op : BinOp) (x y : ByteArray) (K : Value → Prop) : Prop :=
  match op with
  | .add => (x.size + y.size ≤ maxLen) ∧ K (.string (x ++ y))
  | .eql => K (.bool (x.toList == y.toList))
  | .neq => K (.bool (!(x.toList == y.toList)))
  | _ => False

def boolBin (P : Program) (t : TypeId) (op : BinOp) (x y : Bool) (K : Value → Prop) : Prop :=
  match op with
  | .eql => P.underlying t = some .bool ∧ K (.bool (x == y))
  | .neq => P.underlying t = some .bool ∧ K (.bool (!(x == y)))
  | _ => False

def isShift : BinOp → Bool
  | .shl | .shr => true
  | _ => false

/-- Two structs of scalars are asked whether they are the same: what comes is r. -/
def EqAgg (P : Program) (t : TypeId) (a b : List Value) (r : Bool) : Prop :=
  ∀ (w : World), (∀ (op : BinOp) (x y : Operand), (eqGuard op t x y (.agg a.toArray) (.agg b.toArray)).run P w = .ok () w) ∧ (Op.equal t (.agg a.toArray) (.agg b.toArray)).run P w = .ok r w
def scells (a : List Value) : List AC := a.map fun v => .d (.s v)
def aggBin (P : Program) (op : BinOp) (t : TypeId) (xs ys : List AC) (K : Value → Prop) : Prop :=
  ∃ (a b : List Value) (r : Bool), xs = scells a ∧ ys = scells b ∧ EqAgg P t a b r ∧ ((op = .eql ∧ K (.bool r)) ∨ (op = .neq ∧ K (.bool (!r))))

def binA (P : Program) (op : BinOp) (t : TypeId) (x y : AV) (K : AV → Prop) : Prop :=
  match x, y with
  | .one (.d (.s (.int k a))), .one (.d (.s (.int k' b))) =>
    if isShift op then shiftBin op k a b (fun v => K (sv v)) else k = k' ∧ intBin op k a b (fun v => K (sv v))
  | .one (.d (.s (.string a))), .one (.d (.s (.string b))) => strBin op a b (fun v => K (sv v))
  | .one (.d (.s (.bool a))), .one (.d (.s (.bool b))) => boolBin P t op a b (fun v => K (sv v))
  | .agg xs, .agg ys => aggBin P op t xs ys (fun v => K (sv v))
  | _, _ => False

/-- The nil slice, written out. -/
def isNilC : Operand → Bool
  | .const (.slice none 0 0) => true
  | _ => false
/-- A slice is asked whether it is nil. Of one that holds nothing that is not known. -/
def nilCmpA (P : Program) (H : AHeap) (op : BinOp) (t : TypeId) (x : AV) (K : AV → Prop) : Prop :=
  (sliceT P t).isSome = true ∧ (op = .eql ∨ op = .neq) ∧ match x with
  | .one (.d .nil) => K (bv (op == .eql))
  | .one (.d (.list _ [])) => ∀ b, K (bv b)
  | .one (.d (.list _ (_ :: _))) => K (bv (op == .neq))
  | .one (.own k g _ n) => (blkAt H k g).isSome = true ∧ (0 < n → K (bv (op == .neq))) ∧ (n = 0 → ∀ b, K (bv b))
  | _ => False

def unA (op : UnOp) (x : AV) (K : AV → Prop) : Prop :=
  match op, x with
  | .not, .one (.d (.s (.bool b))) => K (bv (!b))
  | .neg, .one (.d (.s (.int k n))) => K (iv k (k.wrap (0 - n)))
  | _, _ => False

/-- The bytes that cells hold. -/
def DC.byte? : DC → Option UInt8
  | .s (.int .u8 n) => some (UInt8.ofNat n.toNat)
  | _ => none

def AC.dc? : AC → Option DC
  | .d c => some c
  | _ => none

/-- What a slice holds as data. -/
def elems? (H : AHeap) (size : Nat) : AV → Option (Nat × List AC)
  | .one (.d .nil) => some (0, [])
  | .one (.d (.list n cs)) => some (n, (cs.take (n * size)).map .d)
  | .one (.own k g off n) => match blkAt H k g with
    | some B => some (n, (B.cells.drop off).take (n * size))
    | none => none
  | _ => none

def bytesOf? (cs : List AC) : Option (List UInt8) := cs.mapM fun c => (c.dc?).bind DC.byte?

def convA (P : Program) (H : AHeap) (src dst : TypeId) (x : AV) (K : AV → Prop) : Prop :=
  match P.underlying dst, x with
  | some (.int k), .one (.d (.s (.int _ n))) => (P.underlying src).isSome = true ∧ K (iv k (k.wrap n))
  | some .string, .one (.d (.s (.string s))) => P.underlying src = some .string ∧ K (sv (.string s))
  | some .string, x => match P.underlying src with
    | some (.slice e) => P.underlying e = some (.int .u8) ∧ match elems? H 1 x with
      | some (n, cs) => match bytesOf? cs with
        | some bs => cs.length = n ∧ K (sv (.string ⟨bs.toArray⟩))
        | none => False
      | none => False
    | _ => False
  | _, _ => False

def lenA (P : Program) (H : AHeap) (t : TypeId) (x : AV) (K : AV → Prop) : Prop :=
  match x with
  | .one (.d (.s (.string s))) => P.underlying t = some .string ∧ K (iv .i64 s.size)
  | .one (.d .nil) => (sliceT P t).isSome = true ∧ K (iv .i64 0)
  | .one (.d (.list n _)) => (sliceT P t).isSome = true ∧ K (iv .i64 n)
  | .one (.own k g _ n) => ((sliceT P t).isSome = true ∧ (blkAt H k g).isSome = true) ∧ K (iv .i64 n)
  | .one (.d (.map es _)) => (mapT P t).isSome = true ∧ K (iv .i64 es.length)
  | .one (.mp k g) => match objAt H k g with
    | some (es, _) => (mapT P t).isSome = true ∧ K (iv .i64 es.length)
    | none => False
  | _ => False

/-! Places of a literal's parts -/
def fillA (place : Nat → Option (Nat × Nat)) (cells : List AC) : List (Nat × AV) → Option (List AC)
  | [] => some cells
  | (i, x) :: rest => match place i, x.cells? with
    | some (off, size), some cs => if cs.length = size ∧ off + size ≤ cells.length then fillA place (splice cells off cs) rest else none
    | _, _ => none

/-- of a struct: each field's offset and cells. -/
def placesT (P : Program) (t : TypeId) : Option (List (Nat × Nat)) :=
  match P.underlying t with
  | some (.struct fs) => fs.toList.mapM (fun f => (P.info? f.type).map fun i => (f.offset, i.size))
  | some (.array n e) => (szOf P e).map fun s => (List.range n).map fun i => (i * s, s)
  | _ => none

end Go.Abs
